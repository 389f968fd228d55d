/-
  The reference's Crash.
-/
import Derived.Test.YtbolminblofhgaaDkN
set_option linter.unusedVariables false
namespace Go.Proofs.Ytbolminblofhgaa
open Go.RowKit

def RCrashPost (w : World) (M : RD) (picks : List Int) (e : Ending) (w' : World) : Prop :=
  ∃ G v' Q', e = .returned (.pointer (some ⟨G, 0, none⟩)) ∧ DkAt w' w.heap.size G v' Q' ⟨M.room, crashL picks M.L, 0, -1⟩ ∧ Below w.heap.size w w'
structure RCrRel (w wr : World) (M : RD) (picks : List Int) (j k : Nat) (vO : Value) (QO : List (Value × RF)) : Prop where
  out : DkAt wr w.heap.size w.heap.size vO QO ⟨M.room, (crSt picks (M.L.take j)).1, 0, -1⟩
  bel : Below w.heap.size w wr
  rem : (crSt picks (M.L.take j)).2 = picks.drop k
  le : k ≤ j
theorem crSt_take (ps : List Int) (L : List RF) (j : Nat) (hj : j < L.length) : crSt ps (L.take (j + 1)) = crOne (crSt ps (L.take j)) (L[j]'hj) := by
  rw [List.take_succ_eq_append_getElem hj, crSt_snoc]
theorem Its.at {w : World} {a : Option Addr} {l : List Int} (h : Its w a l) (k : Nat) (hk : k < l.length) : ∃ x, a = some x ∧ w.cell? (x.add k) = some (.int .i64 (l[k]'hk)) := by
  rcases h with h | ⟨x, rfl, hc⟩
  · rw [h] at hk; simp at hk
  · exact ⟨x, rfl, hc k hk⟩
theorem rem_of (n m : Int) (h1 : 0 < m) : n % m = if n.tmod m < 0 then n.tmod m + m else n.tmod m := by
  have t1 := Int.tmod_lt_of_pos n h1
  have t2 : -m < n.tmod m := by
    have := Int.tmod_lt_of_pos (-n) h1
    rw [Int.neg_tmod] at this
    omega
  have e1 := Int.tmod_add_mul_tdiv n m
  split
  · have : (n.tmod m + m) % m = n % m := by
      rw [Int.add_emod_right]
      conv => rhs; rw [← e1, Int.add_mul_emod_self_left]
    rw [← this]
    exact Int.emod_eq_of_lt (by omega) (by omega)
  · have : (n.tmod m) % m = n % m := by
      conv => rhs; rw [← e1, Int.add_mul_emod_self_left]
    rw [← this]
    exact Int.emod_eq_of_lt (by omega) (by omega)
/-- Behind one file. -/
theorem crash_row {w3 W X : World} {B gg cap cp : Nat} {a : Option Addr} {QO : List (Value × RF)} {M : RD} {G : Nat} (q : Value × RF) (h : DkAt W B G (.slice a QO.length cp) QO M) (KX : Kept (fun _ => False) W X) (hf : W.ownsRow B 5 1 q.1 q.2.b.length (Lib.byteCells q.2.b))
    (ho : w3.ownsRow B 88 3 (.slice (some ⟨gg, 0, none⟩) (QO.length + 1) cap) (QO.length + 1) (rowOf fC QO ++ fC q)) (hg : X.grownBy w3 (Value.slice a QO.length cp).ownBlock) (hat : (Value.slice a QO.length cp).ownBlock = some gg ∨ W.heap.size ≤ gg) :
    DkAt (w3.setCell ⟨G, 1, none⟩ (.slice (some ⟨gg, 0, none⟩) (QO.length + 1) cap)) B G (.slice (some ⟨gg, 0, none⟩) (QO.length + 1) cap) (QO ++ [q]) { M with L := M.L ++ [q.2] } ∧
    Kept (DkS G (.slice a QO.length cp)) W (w3.setCell ⟨G, 1, none⟩ (.slice (some ⟨gg, 0, none⟩) (QO.length + 1) cap)) :=
  DkAt.appended (W0 := W) q h (Kept.refl _ W) KX hf ho hg hat

set_option maxHeartbeats 8000000 in
set_option maxRecDepth 100000 in
theorem rCrash (w : World) (B g : Nat) (v : Value) (Q : List (Value × RF)) (M : RD) (pa : Option Addr) (pn pc : Nat) (picks : List Int) (h : DkAt w B g v Q M) (hq : Q.length ≤ 100000) (ht : tot M.L ≤ 8388608) (hsyn : ∀ f ∈ M.L, f.s ≤ f.b.length) (hp : Its w pa picks) (hpl : picks.length = pn) (hpn : pn ≤ 1000000) (hpc : pn ≤ pc) (hwf : ∀ p ∈ picks, -9223372036854775808 ≤ p ∧ p ≤ 9223372036854775807) :
    Calls Try.prog 34 #[.pointer (some ⟨g, 0, none⟩), .slice pa pn pc] w (RCrashPost w M picks) := by
  obtain ⟨i0, hi, hz0, hz1, hz2⟩ := info_parts infoFile
  obtain ⟨j0, hj, hjz0, hjz1, hjz2⟩ := info_parts infoByte8
  obtain ⟨va, vc, rfl⟩ := own_slice h.2.2.2.1
  obtain ⟨d0, _, _, _⟩ := h.cell
  have HRISE := Lib.hid h.rise
  have H := Lib.hid h
  have HO := Lib.hid (rNewAt w M.room)
  have HSYN := Lib.hid hsyn
  have HP := Lib.hid hp
  have HPL := Lib.hid hpl
  have HWF := Lib.hid hwf
  have HT := Lib.hid ht
  obtain ⟨rm, hrm⟩ : ∃ x, x = M.room := ⟨_, rfl⟩
  have HRM := Lib.hid hrm
  rw [← hrm] at d0 HO
  clear h hsyn hp hpl hwf ht hrm
  go_enter Try.func34, Try.ntmps34
  go_wp2
  obtain ⟨W1, hW1⟩ : ∃ W, W = w.alloc (.cells #[.int .i64 rm, .slice none 0 0, .int .i64 0, .int .i64 (-1)] 65) := ⟨_, rfl⟩
  rw [← hW1]
  have HR0 : RCrRel w W1 M picks 0 0 (.slice none 0 0) [] := ⟨by rw [hW1, ← HRM.out]; exact HO.out, by rw [hW1]; exact (Below.refl _ _).alloc (Nat.le_refl _) _, rfl, Nat.le_refl _⟩
  clear hW1 d0 HO
  go_loopw [6, 7] (fun at_ i wr => ∃ (j k : Nat) (vO : Value) (QO : List (Value × RF)), i = .int .i64 j ∧ j ≤ Q.length ∧ at_ = .int .i64 k ∧ RCrRel w wr M picks j k vO QO) (fun _ i _ => Q.length - (intOf i).toNat)
  case atStart => exact ⟨0, 0, _, _, rfl, Nat.zero_le _, rfl, HR0⟩
  case round =>
    obtain ⟨j, k, vO, QO, rfl, hj', rfl, hR⟩ := hrel
    clear HR0
    have hW := H.out.kept (S := fun _ => False) (Kept.of_below hR.bel) (fun _ _ h => h) (fun _ _ _ _ h => h)
    obtain ⟨_, d1, _, _⟩ := hW.cell
    by_cases hlt : j < Q.length
    · have hlt2 : j < M.L.length := by have := HRISE.out; omega
      obtain ⟨gr, cp, hv, _⟩ := hW.row (by intro e; rw [e] at hlt; simp at hlt)
      injection hv with e1 e2 e3
      subst e1 e3
      obtain ⟨r0, r1, r2⟩ := hW.cells j hlt
      have hbo := hW.2.2.2.2 _ (List.getElem_mem hlt)
      obtain ⟨xa, xc, hxv⟩ := own_slice hbo
      have hat := hW.at' j hlt hlt2
      rw [hxv] at r1 hbo
      rw [hat] at r0 r1 r2 hbo
      obtain ⟨f, hf⟩ : ∃ f, f = M.L[j]'hlt2 := ⟨_, rfl⟩
      rw [← hf] at r0 r1 r2 hbo
      have hmem : f ∈ M.L := by rw [hf]; exact List.getElem_mem hlt2
      have hfl : f.b.length ≤ 8388608 := by have := mem_tot hmem; have := HT.out; omega
      have hsf := HSYN.out f hmem
      have hst := crSt_take picks M.L j hlt2
      rw [← hf] at hst
      have hXA := own_cap hbo
      have hxc := own_room hbo
      have hbt : Bts wr xa f.b := Bts.own hbo
      have hrem := hR.rem
      obtain ⟨fn, hfn⟩ : ∃ n, n = f.b.length := ⟨_, rfl⟩
      obtain ⟨fs, hfs⟩ : ∃ n, n = f.s := ⟨_, rfl⟩
      obtain ⟨nm, hnm⟩ : ∃ n, n = f.nm := ⟨_, rfl⟩
      rw [← hnm] at r0
      rw [← hfn] at r1 hfl hsf hxc
      rw [← hfs] at r2 hsf
      have HF := Lib.hid hf
      have HFN := Lib.hid hfn
      have HFS := Lib.hid hfs
      have HNM := Lib.hid hnm
      have HST := Lib.hid hst
      have HXA := Lib.hid hXA
      have HBT := Lib.hid hbt
      have HREM := Lib.hid hrem
      have HR := Lib.hid hR
      have HPI := Lib.hid (HP.out.later hR.bel)
      have hkj := hR.le
      clear hf hfn hfs hnm hst hXA hbt hrem hR hbo hW hxv hat hmem
      by_cases hloose : fs < fn
      · have hg0 : (0 : Int) < (fn : Int) - (fs : Int) := by omega
        by_cases hk : k < pn
        · skip
          have hkl : k < picks.length := by rw [HPL.out]; exact hk
          obtain ⟨x, hpx, hxk⟩ := HPI.out.at k hkl
          obtain ⟨p, hpp⟩ : ∃ p, p = picks[k]'hkl := ⟨_, rfl⟩
          rw [← hpp] at hxk
          obtain ⟨hpl1, hph1⟩ := HWF.out p (by rw [hpp]; exact List.getElem_mem hkl)
          have hxa := alloc_cell hxk (.cells #[.string nm, .slice xa fn xc, .int .i64 fs] 88)
          have hki0 : (0 : Int) ≤ (k : Int) := by omega
          have hki1 : (k : Int) < (pn : Int) := by omega
          have hd1 : (0 : Int) < (fn : Int) - (fs : Int) + 1 := by omega
          have hm0 : ((fn : Int) - (fs : Int) + 1 == 0) = false := by simp; omega
          obtain ⟨rr, hrr⟩ : ∃ rr : Nat, rr = (p % ((fn : Int) - fs + 1)).toNat := ⟨_, rfl⟩
          have hrb : rr + fs ≤ fn := by
            have e3 := Int.emod_nonneg p (by omega : (fn : Int) - fs + 1 ≠ 0)
            have e4 := Int.emod_lt_of_pos p hd1
            omega
          have hre : (rr : Int) = p % ((fn : Int) - fs + 1) := by
            have e3 := Int.emod_nonneg p (by omega : (fn : Int) - fs + 1 ≠ 0)
            omega
          have hem := rem_of p ((fn : Int) - fs + 1) hd1
          rw [← hre] at hem
          have HK : Hid (keepN f (picks.drop k) = (fs + rr) ∧ restP f (picks.drop k) = picks.drop (k + 1)) := by
            have hd : picks.drop k = p :: picks.drop (k + 1) := by rw [hpp]; exact List.drop_eq_getElem_cons hkl
            refine ⟨?_, ?_⟩
            · unfold keepN; rw [if_pos (by rw [← HFS.out, ← HFN.out]; exact hloose), hd, ← HFS.out, ← HFN.out, hrr]
            · unfold restP; rw [if_pos (by rw [← HFS.out, ← HFN.out]; exact hloose), hd]; rfl
          subst hpx
          clear hpp hrr hre hxk hk
          obtain ⟨T, hT⟩ : ∃ T, p.tmod ((fn : Int) - (fs : Int) + 1) = T := ⟨_, rfl⟩
          rw [hT] at hem
          by_cases hs : T < 0
          · have htk : T + ((fn : Int) - (fs : Int)) + 1 = (rr : Int) := by rw [if_pos hs] at hem; omega
            have htb : -((fn : Int) - fs + 1) ≤ T := by omega
            clear hem
            have hlk : (f.b.take (fs + rr)).length = (fs + rr) := by rw [List.length_take, ← HFN.out]; omega
            have ho1 : ((wr.alloc (.cells #[.string nm, .slice xa fn xc, .int .i64 fs] 88)).alloc (.cells #[] 5)).ownsRow w.heap.size 5 1 (.slice (some ⟨wr.heap.size + 1, 0, none⟩) 0 0) 0 [] := by
              have h0 : ((wr.alloc (.cells #[.string nm, .slice xa fn xc, .int .i64 fs] 88)).alloc (.cells #[] 5)).ownsRow w.heap.size 5 1 (.slice (some ⟨(wr.alloc (.cells #[.string nm, .slice xa fn xc, .int .i64 fs] 88)).heap.size, 0, none⟩) 0 0) 0 [] := World.ownsRow_lit (wr.alloc (.cells #[.string nm, .slice xa fn xc, .int .i64 fs] 88)) #[] 0 (by have := HR.out.bel.size; simp; omega) (Nat.zero_le _) rfl
              rw [show (wr.alloc (.cells #[.string nm, .slice xa fn xc, .int .i64 fs] 88)).heap.size = wr.heap.size + 1 by simp] at h0
              exact h0
            have hb1 : Below wr.heap.size wr ((wr.alloc (.cells #[.string nm, .slice xa fn xc, .int .i64 fs] 88)).alloc (.cells #[] 5)) := ((Below.refl _ wr).alloc (Nat.le_refl _) _).alloc (by simp) _
            have hB1 : Bts ((wr.alloc (.cells #[.string nm, .slice xa fn xc, .int .i64 fs] 88)).alloc (.cells #[] 5)) xa (f.b.take (fs + rr)) := (HBT.out.take _).later hb1
            have hsz := HR.out.bel.size
            go_wp2_with (at_builtin; go_loud (refine wpList_append_bts _ rfl _ _ 39 rfl w.heap.size 5 j0 Try.underlying39 hj hjz0 hjz1 hjz2 _ _ _ rfl ho1 _ _ _ (f.b.take (fs + rr)) rfl hlk hB1 HXA.out (by omega) (Nat.le_trans hsz hb1.size) ?_))
            intro v4 W4 o4 g4
            obtain ⟨b4, c4, rfl⟩ := own_slice o4
            have KX : Kept (fun _ => False) wr W4 := (Kept.of_below hb1).grown g4 (fun i hi hlt => by injection hi with hi; have : i = wr.heap.size + 1 := hi.symm; omega)
            have hvv : (wr.alloc (.cells #[.string nm, .slice xa fn xc, .int .i64 fs] 88)).heap[wr.heap.size]? = some (.cells #[.string nm, .slice xa fn xc, .int .i64 fs] 88 (0, 0)) := heap_alloc_new wr _
            have K' : Kept (fun i => i = wr.heap.size + 1) (wr.alloc (.cells #[.string nm, .slice xa fn xc, .int .i64 fs] 88)) W4 := ((Kept.refl _ (wr.alloc (.cells #[.string nm, .slice xa fn xc, .int .i64 fs] 88))).alloc _).grown g4 (fun i hi _ => by injection hi with hi; exact hi.symm)
            have hv4 := (K'.block wr.heap.size (by simp) (by omega)).trans hvv
            have e0 : W4.cell? ⟨wr.heap.size, 0, none⟩ = some (.string nm) := by rw [cell_of_row _ _ _ _ _ _ hv4]; rfl
            have h4 := HR.out.out.kept KX (fun _ _ h => h) (fun _ _ _ _ h => h)
            obtain ⟨oa, oc, hov⟩ := own_slice h4.2.2.2.1
            subst hov
            have hQl : QO.length ≤ 100000 := by
              have := h4.rise
              simp only [crSt_len, List.length_take] at this
              omega
            obtain ⟨_, d4, _, _⟩ := h4.cell
            have f4 := h4.frozen 1
            have ho4 := h4.2.2.2.1
            have hgl : w.heap.size < W4.heap.size := h4.lt
            have hr1 : some w.heap.size ≠ (Value.slice oa QO.length oc).ownBlock := fun e => h4.apart e.symm
            have hf4 : W4.ownsRow w.heap.size 5 1 (.slice b4 (fs + rr) c4) (f.b.take (fs + rr)).length (Lib.byteCells (f.b.take (fs + rr))) := by rw [hlk]; exact o4
            have hbl4 : Below w.heap.size w W4 := HR.out.bel.trans (KX.below hsz (fun _ h => h.elim))
            have hvl : wr.heap.size < W4.heap.size := lt_of_block hv4
            have hr2 : some wr.heap.size ≠ (Value.slice oa QO.length oc).ownBlock := fun e => by
              have := (own_lt HR.out.out.2.2.2.1 wr.heap.size e.symm).2
              omega
            have H4 := Lib.hid h4
            have HF4 := Lib.hid hf4
            have HBL := Lib.hid hbl4
            have HLK := Lib.hid hlk
            clear h4 hf4 hbl4 o4 g4 KX hvv K' hv4 ho1 hb1 hB1 hlk r0 r1 r2 d1
            go_wp2
            go_region_law (first |
              ((refine step_append_lies _ (by rfl) _ _ _ (by rfl) w.heap.size 88 i0 (.agg #[.string ByteArray.empty, .slice none 0 0, .int .i64 0]) 3 48 Try.underlying63 hi hz0 hz1 hz2 (by rfl) (by omega) _ _ (rowOf fC QO) (by rfl) (by first | exact (ho4.alloc _).drew | exact ho4.drew.alloc _ | exact ho4.alloc _) ⟨W4.heap.size, 0, none⟩ 1 1 _ (by rfl) (by rfl) (World.news_of_block (t := 88) (fr := (0, 0)) (heap_alloc_new W4 _)) (by simp [Value.oneCell']) (by omega) (by unfold maxLen; omega) (by omega) (by simp; omega) (W4.heap.size + 1) (by simp) ?_; intro gg cap3 w3 hown3 hgrow hat hlt; (first | (have d3 := grown_cell hgrow (alloc_cell d4 _) hr1) | skip); (first | (have f3 := grown_frozen hgrow (alloc_cell d4 _) (alloc_frozen d4 f4 _) hr1) | skip); (first | (have e3 := grown_cell hgrow (alloc_cell e0 _) hr2) | skip))))
            all_goals (
              have HA := crash_row (q := (.slice b4 (fs + rr) c4, ⟨nm, f.b.take (fs + rr), (fs + rr)⟩)) (gg := gg) (cap := cap3) (w3 := w3) H4.out (by first | exact ((Kept.refl _ W4).alloc _).drew | exact ((Kept.refl _ W4).drew).alloc _ | exact (Kept.refl _ W4).alloc _) HF4.out hown3 hgrow (by
                rcases hat with e | e
                · exact .inl e
                · right; omega)
              have hbz := HBL.out.trans (HA.2.below (by omega) (fun i hi => by
                rcases hi with hi | hi
                · omega
                · exact (own_lt H4.out.2.2.2.1 i hi).1))
              have HA1 := Lib.hid HA.1
              have HBZ := Lib.hid hbz
              clear HA hbz hown3 hgrow hat hlt d3 f3 e3 hr1 hr2 ho4 d4 f4 e0
              go_wp2
              go_roundw
              case rel =>
                refine ⟨j + 1, (k + 1), .slice (some ⟨gg, 0, none⟩) (QO.length + 1) cap3, QO ++ [(.slice b4 (fs + rr) c4, ⟨nm, f.b.take (fs + rr), (fs + rr)⟩)], by go_num, by omega, by first | rfl | go_num, ⟨?_, HBZ.out, ?_, by omega⟩⟩
                · have h := HA1.out
                  rw [show (crSt picks (M.L.take (j + 1))).1 = (crSt picks (M.L.take j)).1 ++ [⟨nm, f.b.take (fs + rr), (fs + rr)⟩] by rw [HST.out]; unfold crOne; rw [HREM.out, HK.out.1, HNM.out]]
                  exact h
                · rw [HST.out]; unfold crOne; simp only; rw [HREM.out]; exact HK.out.2
              case measure => simp [intOf]; omega)
          · have htk : T = (rr : Int) := by rw [if_neg hs] at hem; omega
            rw [htk] at hT
            clear hem hs htk
            have hlk : (f.b.take (fs + rr)).length = (fs + rr) := by rw [List.length_take, ← HFN.out]; omega
            have ho1 : ((wr.alloc (.cells #[.string nm, .slice xa fn xc, .int .i64 fs] 88)).alloc (.cells #[] 5)).ownsRow w.heap.size 5 1 (.slice (some ⟨wr.heap.size + 1, 0, none⟩) 0 0) 0 [] := by
              have h0 : ((wr.alloc (.cells #[.string nm, .slice xa fn xc, .int .i64 fs] 88)).alloc (.cells #[] 5)).ownsRow w.heap.size 5 1 (.slice (some ⟨(wr.alloc (.cells #[.string nm, .slice xa fn xc, .int .i64 fs] 88)).heap.size, 0, none⟩) 0 0) 0 [] := World.ownsRow_lit (wr.alloc (.cells #[.string nm, .slice xa fn xc, .int .i64 fs] 88)) #[] 0 (by have := HR.out.bel.size; simp; omega) (Nat.zero_le _) rfl
              rw [show (wr.alloc (.cells #[.string nm, .slice xa fn xc, .int .i64 fs] 88)).heap.size = wr.heap.size + 1 by simp] at h0
              exact h0
            have hb1 : Below wr.heap.size wr ((wr.alloc (.cells #[.string nm, .slice xa fn xc, .int .i64 fs] 88)).alloc (.cells #[] 5)) := ((Below.refl _ wr).alloc (Nat.le_refl _) _).alloc (by simp) _
            have hB1 : Bts ((wr.alloc (.cells #[.string nm, .slice xa fn xc, .int .i64 fs] 88)).alloc (.cells #[] 5)) xa (f.b.take (fs + rr)) := (HBT.out.take _).later hb1
            have hsz := HR.out.bel.size
            go_wp2_with (at_builtin; go_loud (refine wpList_append_bts _ rfl _ _ 39 rfl w.heap.size 5 j0 Try.underlying39 hj hjz0 hjz1 hjz2 _ _ _ rfl ho1 _ _ _ (f.b.take (fs + rr)) rfl hlk hB1 HXA.out (by omega) (Nat.le_trans hsz hb1.size) ?_))
            intro v4 W4 o4 g4
            obtain ⟨b4, c4, rfl⟩ := own_slice o4
            have KX : Kept (fun _ => False) wr W4 := (Kept.of_below hb1).grown g4 (fun i hi hlt => by injection hi with hi; have : i = wr.heap.size + 1 := hi.symm; omega)
            have hvv : (wr.alloc (.cells #[.string nm, .slice xa fn xc, .int .i64 fs] 88)).heap[wr.heap.size]? = some (.cells #[.string nm, .slice xa fn xc, .int .i64 fs] 88 (0, 0)) := heap_alloc_new wr _
            have K' : Kept (fun i => i = wr.heap.size + 1) (wr.alloc (.cells #[.string nm, .slice xa fn xc, .int .i64 fs] 88)) W4 := ((Kept.refl _ (wr.alloc (.cells #[.string nm, .slice xa fn xc, .int .i64 fs] 88))).alloc _).grown g4 (fun i hi _ => by injection hi with hi; exact hi.symm)
            have hv4 := (K'.block wr.heap.size (by simp) (by omega)).trans hvv
            have e0 : W4.cell? ⟨wr.heap.size, 0, none⟩ = some (.string nm) := by rw [cell_of_row _ _ _ _ _ _ hv4]; rfl
            have h4 := HR.out.out.kept KX (fun _ _ h => h) (fun _ _ _ _ h => h)
            obtain ⟨oa, oc, hov⟩ := own_slice h4.2.2.2.1
            subst hov
            have hQl : QO.length ≤ 100000 := by
              have := h4.rise
              simp only [crSt_len, List.length_take] at this
              omega
            obtain ⟨_, d4, _, _⟩ := h4.cell
            have f4 := h4.frozen 1
            have ho4 := h4.2.2.2.1
            have hgl : w.heap.size < W4.heap.size := h4.lt
            have hr1 : some w.heap.size ≠ (Value.slice oa QO.length oc).ownBlock := fun e => h4.apart e.symm
            have hf4 : W4.ownsRow w.heap.size 5 1 (.slice b4 (fs + rr) c4) (f.b.take (fs + rr)).length (Lib.byteCells (f.b.take (fs + rr))) := by rw [hlk]; exact o4
            have hbl4 : Below w.heap.size w W4 := HR.out.bel.trans (KX.below hsz (fun _ h => h.elim))
            have hvl : wr.heap.size < W4.heap.size := lt_of_block hv4
            have hr2 : some wr.heap.size ≠ (Value.slice oa QO.length oc).ownBlock := fun e => by
              have := (own_lt HR.out.out.2.2.2.1 wr.heap.size e.symm).2
              omega
            have H4 := Lib.hid h4
            have HF4 := Lib.hid hf4
            have HBL := Lib.hid hbl4
            have HLK := Lib.hid hlk
            clear h4 hf4 hbl4 o4 g4 KX hvv K' hv4 ho1 hb1 hB1 hlk r0 r1 r2 d1
            go_wp2
            go_region_law (first |
              ((refine step_append_lies _ (by rfl) _ _ _ (by rfl) w.heap.size 88 i0 (.agg #[.string ByteArray.empty, .slice none 0 0, .int .i64 0]) 3 48 Try.underlying63 hi hz0 hz1 hz2 (by rfl) (by omega) _ _ (rowOf fC QO) (by rfl) (by first | exact (ho4.alloc _).drew | exact ho4.drew.alloc _ | exact ho4.alloc _) ⟨W4.heap.size, 0, none⟩ 1 1 _ (by rfl) (by rfl) (World.news_of_block (t := 88) (fr := (0, 0)) (heap_alloc_new W4 _)) (by simp [Value.oneCell']) (by omega) (by unfold maxLen; omega) (by omega) (by simp; omega) (W4.heap.size + 1) (by simp) ?_; intro gg cap3 w3 hown3 hgrow hat hlt; (first | (have d3 := grown_cell hgrow (alloc_cell d4 _) hr1) | skip); (first | (have f3 := grown_frozen hgrow (alloc_cell d4 _) (alloc_frozen d4 f4 _) hr1) | skip); (first | (have e3 := grown_cell hgrow (alloc_cell e0 _) hr2) | skip))))
            all_goals (
              have HA := crash_row (q := (.slice b4 (fs + rr) c4, ⟨nm, f.b.take (fs + rr), (fs + rr)⟩)) (gg := gg) (cap := cap3) (w3 := w3) H4.out (by first | exact ((Kept.refl _ W4).alloc _).drew | exact ((Kept.refl _ W4).drew).alloc _ | exact (Kept.refl _ W4).alloc _) HF4.out hown3 hgrow (by
                rcases hat with e | e
                · exact .inl e
                · right; omega)
              have hbz := HBL.out.trans (HA.2.below (by omega) (fun i hi => by
                rcases hi with hi | hi
                · omega
                · exact (own_lt H4.out.2.2.2.1 i hi).1))
              have HA1 := Lib.hid HA.1
              have HBZ := Lib.hid hbz
              clear HA hbz hown3 hgrow hat hlt d3 f3 e3 hr1 hr2 ho4 d4 f4 e0
              go_wp2
              go_roundw
              case rel =>
                refine ⟨j + 1, (k + 1), .slice (some ⟨gg, 0, none⟩) (QO.length + 1) cap3, QO ++ [(.slice b4 (fs + rr) c4, ⟨nm, f.b.take (fs + rr), (fs + rr)⟩)], by go_num, by omega, by first | rfl | go_num, ⟨?_, HBZ.out, ?_, by omega⟩⟩
                · have h := HA1.out
                  rw [show (crSt picks (M.L.take (j + 1))).1 = (crSt picks (M.L.take j)).1 ++ [⟨nm, f.b.take (fs + rr), (fs + rr)⟩] by rw [HST.out]; unfold crOne; rw [HREM.out, HK.out.1, HNM.out]]
                  exact h
                · rw [HST.out]; unfold crOne; simp only; rw [HREM.out]; exact HK.out.2
              case measure => simp [intOf]; omega)
        · have hk2 : ¬ (k : Int) < (pn : Int) := by omega
          have HK : Hid (keepN f (picks.drop k) = fs ∧ restP f (picks.drop k) = picks.drop (k + 1)) := by
            have hd : picks.drop k = [] := List.drop_eq_nil_of_le (by have := HPL.out; omega)
            have hd2 : picks.drop (k + 1) = [] := List.drop_eq_nil_of_le (by have := HPL.out; omega)
            refine ⟨?_, ?_⟩
            · unfold keepN; rw [hd, ← HFS.out]; simp
            · unfold restP; rw [hd, hd2]; simp
          clear hk
          have hlk : (f.b.take fs).length = fs := by rw [List.length_take, ← HFN.out]; omega
          have ho1 : ((wr.alloc (.cells #[.string nm, .slice xa fn xc, .int .i64 fs] 88)).alloc (.cells #[] 5)).ownsRow w.heap.size 5 1 (.slice (some ⟨wr.heap.size + 1, 0, none⟩) 0 0) 0 [] := by
            have h0 : ((wr.alloc (.cells #[.string nm, .slice xa fn xc, .int .i64 fs] 88)).alloc (.cells #[] 5)).ownsRow w.heap.size 5 1 (.slice (some ⟨(wr.alloc (.cells #[.string nm, .slice xa fn xc, .int .i64 fs] 88)).heap.size, 0, none⟩) 0 0) 0 [] := World.ownsRow_lit (wr.alloc (.cells #[.string nm, .slice xa fn xc, .int .i64 fs] 88)) #[] 0 (by have := HR.out.bel.size; simp; omega) (Nat.zero_le _) rfl
            rw [show (wr.alloc (.cells #[.string nm, .slice xa fn xc, .int .i64 fs] 88)).heap.size = wr.heap.size + 1 by simp] at h0
            exact h0
          have hb1 : Below wr.heap.size wr ((wr.alloc (.cells #[.string nm, .slice xa fn xc, .int .i64 fs] 88)).alloc (.cells #[] 5)) := ((Below.refl _ wr).alloc (Nat.le_refl _) _).alloc (by simp) _
          have hB1 : Bts ((wr.alloc (.cells #[.string nm, .slice xa fn xc, .int .i64 fs] 88)).alloc (.cells #[] 5)) xa (f.b.take fs) := (HBT.out.take _).later hb1
          have hsz := HR.out.bel.size
          go_wp2_with (at_builtin; go_loud (refine wpList_append_bts _ rfl _ _ 39 rfl w.heap.size 5 j0 Try.underlying39 hj hjz0 hjz1 hjz2 _ _ _ rfl ho1 _ _ _ (f.b.take fs) rfl hlk hB1 HXA.out (by omega) (Nat.le_trans hsz hb1.size) ?_))
          intro v4 W4 o4 g4
          obtain ⟨b4, c4, rfl⟩ := own_slice o4
          have KX : Kept (fun _ => False) wr W4 := (Kept.of_below hb1).grown g4 (fun i hi hlt => by injection hi with hi; have : i = wr.heap.size + 1 := hi.symm; omega)
          have hvv : (wr.alloc (.cells #[.string nm, .slice xa fn xc, .int .i64 fs] 88)).heap[wr.heap.size]? = some (.cells #[.string nm, .slice xa fn xc, .int .i64 fs] 88 (0, 0)) := heap_alloc_new wr _
          have K' : Kept (fun i => i = wr.heap.size + 1) (wr.alloc (.cells #[.string nm, .slice xa fn xc, .int .i64 fs] 88)) W4 := ((Kept.refl _ (wr.alloc (.cells #[.string nm, .slice xa fn xc, .int .i64 fs] 88))).alloc _).grown g4 (fun i hi _ => by injection hi with hi; exact hi.symm)
          have hv4 := (K'.block wr.heap.size (by simp) (by omega)).trans hvv
          have e0 : W4.cell? ⟨wr.heap.size, 0, none⟩ = some (.string nm) := by rw [cell_of_row _ _ _ _ _ _ hv4]; rfl
          have h4 := HR.out.out.kept KX (fun _ _ h => h) (fun _ _ _ _ h => h)
          obtain ⟨oa, oc, hov⟩ := own_slice h4.2.2.2.1
          subst hov
          have hQl : QO.length ≤ 100000 := by
            have := h4.rise
            simp only [crSt_len, List.length_take] at this
            omega
          obtain ⟨_, d4, _, _⟩ := h4.cell
          have f4 := h4.frozen 1
          have ho4 := h4.2.2.2.1
          have hgl : w.heap.size < W4.heap.size := h4.lt
          have hr1 : some w.heap.size ≠ (Value.slice oa QO.length oc).ownBlock := fun e => h4.apart e.symm
          have hf4 : W4.ownsRow w.heap.size 5 1 (.slice b4 fs c4) (f.b.take fs).length (Lib.byteCells (f.b.take fs)) := by rw [hlk]; exact o4
          have hbl4 : Below w.heap.size w W4 := HR.out.bel.trans (KX.below hsz (fun _ h => h.elim))
          have hvl : wr.heap.size < W4.heap.size := lt_of_block hv4
          have hr2 : some wr.heap.size ≠ (Value.slice oa QO.length oc).ownBlock := fun e => by
            have := (own_lt HR.out.out.2.2.2.1 wr.heap.size e.symm).2
            omega
          have H4 := Lib.hid h4
          have HF4 := Lib.hid hf4
          have HBL := Lib.hid hbl4
          have HLK := Lib.hid hlk
          clear h4 hf4 hbl4 o4 g4 KX hvv K' hv4 ho1 hb1 hB1 hlk r0 r1 r2 d1
          go_wp2
          go_region_law (first |
            ((refine step_append_lies _ (by rfl) _ _ _ (by rfl) w.heap.size 88 i0 (.agg #[.string ByteArray.empty, .slice none 0 0, .int .i64 0]) 3 48 Try.underlying63 hi hz0 hz1 hz2 (by rfl) (by omega) _ _ (rowOf fC QO) (by rfl) (by first | exact (ho4.alloc _).drew | exact ho4.drew.alloc _ | exact ho4.alloc _) ⟨W4.heap.size, 0, none⟩ 1 1 _ (by rfl) (by rfl) (World.news_of_block (t := 88) (fr := (0, 0)) (heap_alloc_new W4 _)) (by simp [Value.oneCell']) (by omega) (by unfold maxLen; omega) (by omega) (by simp; omega) (W4.heap.size + 1) (by simp) ?_; intro gg cap3 w3 hown3 hgrow hat hlt; (first | (have d3 := grown_cell hgrow (alloc_cell d4 _) hr1) | skip); (first | (have f3 := grown_frozen hgrow (alloc_cell d4 _) (alloc_frozen d4 f4 _) hr1) | skip); (first | (have e3 := grown_cell hgrow (alloc_cell e0 _) hr2) | skip))))
          all_goals (
            have HA := crash_row (q := (.slice b4 fs c4, ⟨nm, f.b.take fs, fs⟩)) (gg := gg) (cap := cap3) (w3 := w3) H4.out (by first | exact ((Kept.refl _ W4).alloc _).drew | exact ((Kept.refl _ W4).drew).alloc _ | exact (Kept.refl _ W4).alloc _) HF4.out hown3 hgrow (by
              rcases hat with e | e
              · exact .inl e
              · right; omega)
            have hbz := HBL.out.trans (HA.2.below (by omega) (fun i hi => by
              rcases hi with hi | hi
              · omega
              · exact (own_lt H4.out.2.2.2.1 i hi).1))
            have HA1 := Lib.hid HA.1
            have HBZ := Lib.hid hbz
            clear HA hbz hown3 hgrow hat hlt d3 f3 e3 hr1 hr2 ho4 d4 f4 e0
            go_wp2
            go_roundw
            case rel =>
              refine ⟨j + 1, (k + 1), .slice (some ⟨gg, 0, none⟩) (QO.length + 1) cap3, QO ++ [(.slice b4 fs c4, ⟨nm, f.b.take fs, fs⟩)], by go_num, by omega, by first | rfl | go_num, ⟨?_, HBZ.out, ?_, by omega⟩⟩
              · have h := HA1.out
                rw [show (crSt picks (M.L.take (j + 1))).1 = (crSt picks (M.L.take j)).1 ++ [⟨nm, f.b.take fs, fs⟩] by rw [HST.out]; unfold crOne; rw [HREM.out, HK.out.1, HNM.out]]
                exact h
              · rw [HST.out]; unfold crOne; simp only; rw [HREM.out]; exact HK.out.2
            case measure => simp [intOf]; omega)
      · have HK : Hid (keepN f (picks.drop k) = fs ∧ restP f (picks.drop k) = picks.drop k) := by
          refine ⟨?_, ?_⟩
          · unfold keepN; rw [if_neg (by rw [← HFS.out, ← HFN.out]; exact hloose), ← HFS.out]
          · unfold restP; rw [if_neg (by rw [← HFS.out, ← HFN.out]; exact hloose)]
        have hg0 : ¬ (0 : Int) < (fn : Int) - (fs : Int) := by omega
        have hlk : (f.b.take fs).length = fs := by rw [List.length_take, ← HFN.out]; omega
        have ho1 : ((wr.alloc (.cells #[.string nm, .slice xa fn xc, .int .i64 fs] 88)).alloc (.cells #[] 5)).ownsRow w.heap.size 5 1 (.slice (some ⟨wr.heap.size + 1, 0, none⟩) 0 0) 0 [] := by
          have h0 : ((wr.alloc (.cells #[.string nm, .slice xa fn xc, .int .i64 fs] 88)).alloc (.cells #[] 5)).ownsRow w.heap.size 5 1 (.slice (some ⟨(wr.alloc (.cells #[.string nm, .slice xa fn xc, .int .i64 fs] 88)).heap.size, 0, none⟩) 0 0) 0 [] := World.ownsRow_lit (wr.alloc (.cells #[.string nm, .slice xa fn xc, .int .i64 fs] 88)) #[] 0 (by have := HR.out.bel.size; simp; omega) (Nat.zero_le _) rfl
          rw [show (wr.alloc (.cells #[.string nm, .slice xa fn xc, .int .i64 fs] 88)).heap.size = wr.heap.size + 1 by simp] at h0
          exact h0
        have hb1 : Below wr.heap.size wr ((wr.alloc (.cells #[.string nm, .slice xa fn xc, .int .i64 fs] 88)).alloc (.cells #[] 5)) := ((Below.refl _ wr).alloc (Nat.le_refl _) _).alloc (by simp) _
        have hB1 : Bts ((wr.alloc (.cells #[.string nm, .slice xa fn xc, .int .i64 fs] 88)).alloc (.cells #[] 5)) xa (f.b.take fs) := (HBT.out.take _).later hb1
        have hsz := HR.out.bel.size
        go_wp2_with (at_builtin; go_loud (refine wpList_append_bts _ rfl _ _ 39 rfl w.heap.size 5 j0 Try.underlying39 hj hjz0 hjz1 hjz2 _ _ _ rfl ho1 _ _ _ (f.b.take fs) rfl hlk hB1 HXA.out (by omega) (Nat.le_trans hsz hb1.size) ?_))
        intro v4 W4 o4 g4
        obtain ⟨b4, c4, rfl⟩ := own_slice o4
        have KX : Kept (fun _ => False) wr W4 := (Kept.of_below hb1).grown g4 (fun i hi hlt => by injection hi with hi; have : i = wr.heap.size + 1 := hi.symm; omega)
        have hvv : (wr.alloc (.cells #[.string nm, .slice xa fn xc, .int .i64 fs] 88)).heap[wr.heap.size]? = some (.cells #[.string nm, .slice xa fn xc, .int .i64 fs] 88 (0, 0)) := heap_alloc_new wr _
        have K' : Kept (fun i => i = wr.heap.size + 1) (wr.alloc (.cells #[.string nm, .slice xa fn xc, .int .i64 fs] 88)) W4 := ((Kept.refl _ (wr.alloc (.cells #[.string nm, .slice xa fn xc, .int .i64 fs] 88))).alloc _).grown g4 (fun i hi _ => by injection hi with hi; exact hi.symm)
        have hv4 := (K'.block wr.heap.size (by simp) (by omega)).trans hvv
        have e0 : W4.cell? ⟨wr.heap.size, 0, none⟩ = some (.string nm) := by rw [cell_of_row _ _ _ _ _ _ hv4]; rfl
        have h4 := HR.out.out.kept KX (fun _ _ h => h) (fun _ _ _ _ h => h)
        obtain ⟨oa, oc, hov⟩ := own_slice h4.2.2.2.1
        subst hov
        have hQl : QO.length ≤ 100000 := by
          have := h4.rise
          simp only [crSt_len, List.length_take] at this
          omega
        obtain ⟨_, d4, _, _⟩ := h4.cell
        have f4 := h4.frozen 1
        have ho4 := h4.2.2.2.1
        have hgl : w.heap.size < W4.heap.size := h4.lt
        have hr1 : some w.heap.size ≠ (Value.slice oa QO.length oc).ownBlock := fun e => h4.apart e.symm
        have hf4 : W4.ownsRow w.heap.size 5 1 (.slice b4 fs c4) (f.b.take fs).length (Lib.byteCells (f.b.take fs)) := by rw [hlk]; exact o4
        have hbl4 : Below w.heap.size w W4 := HR.out.bel.trans (KX.below hsz (fun _ h => h.elim))
        have hvl : wr.heap.size < W4.heap.size := lt_of_block hv4
        have hr2 : some wr.heap.size ≠ (Value.slice oa QO.length oc).ownBlock := fun e => by
          have := (own_lt HR.out.out.2.2.2.1 wr.heap.size e.symm).2
          omega
        have H4 := Lib.hid h4
        have HF4 := Lib.hid hf4
        have HBL := Lib.hid hbl4
        have HLK := Lib.hid hlk
        clear h4 hf4 hbl4 o4 g4 KX hvv K' hv4 ho1 hb1 hB1 hlk r0 r1 r2 d1
        go_wp2
        go_region_law (first |
          ((refine step_append_lies _ (by rfl) _ _ _ (by rfl) w.heap.size 88 i0 (.agg #[.string ByteArray.empty, .slice none 0 0, .int .i64 0]) 3 48 Try.underlying63 hi hz0 hz1 hz2 (by rfl) (by omega) _ _ (rowOf fC QO) (by rfl) (by first | exact (ho4.alloc _).drew | exact ho4.drew.alloc _ | exact ho4.alloc _) ⟨W4.heap.size, 0, none⟩ 1 1 _ (by rfl) (by rfl) (World.news_of_block (t := 88) (fr := (0, 0)) (heap_alloc_new W4 _)) (by simp [Value.oneCell']) (by omega) (by unfold maxLen; omega) (by omega) (by simp; omega) (W4.heap.size + 1) (by simp) ?_; intro gg cap3 w3 hown3 hgrow hat hlt; (first | (have d3 := grown_cell hgrow (alloc_cell d4 _) hr1) | skip); (first | (have f3 := grown_frozen hgrow (alloc_cell d4 _) (alloc_frozen d4 f4 _) hr1) | skip); (first | (have e3 := grown_cell hgrow (alloc_cell e0 _) hr2) | skip))))
        all_goals (
          have HA := crash_row (q := (.slice b4 fs c4, ⟨nm, f.b.take fs, fs⟩)) (gg := gg) (cap := cap3) (w3 := w3) H4.out (by first | exact ((Kept.refl _ W4).alloc _).drew | exact ((Kept.refl _ W4).drew).alloc _ | exact (Kept.refl _ W4).alloc _) HF4.out hown3 hgrow (by
            rcases hat with e | e
            · exact .inl e
            · right; omega)
          have hbz := HBL.out.trans (HA.2.below (by omega) (fun i hi => by
            rcases hi with hi | hi
            · omega
            · exact (own_lt H4.out.2.2.2.1 i hi).1))
          have HA1 := Lib.hid HA.1
          have HBZ := Lib.hid hbz
          clear HA hbz hown3 hgrow hat hlt d3 f3 e3 hr1 hr2 ho4 d4 f4 e0
          go_wp2
          go_roundw
          case rel =>
            refine ⟨j + 1, k, .slice (some ⟨gg, 0, none⟩) (QO.length + 1) cap3, QO ++ [(.slice b4 fs c4, ⟨nm, f.b.take fs, fs⟩)], by go_num, by omega, by first | rfl | go_num, ⟨?_, HBZ.out, ?_, by omega⟩⟩
            · have h := HA1.out
              rw [show (crSt picks (M.L.take (j + 1))).1 = (crSt picks (M.L.take j)).1 ++ [⟨nm, f.b.take fs, fs⟩] by rw [HST.out]; unfold crOne; rw [HREM.out, HK.out.1, HNM.out]]
              exact h
            · rw [HST.out]; unfold crOne; simp only; rw [HREM.out]; exact HK.out.2
          case measure => simp [intOf]; omega)
    · have hjL : Q.length ≤ j := by omega
      have HR := Lib.hid hR
      clear hR hW
      go_wp2
      go_ret
      have h := HR.out.out
      rw [List.take_of_length_le (by have := HRISE.out; omega)] at h
      exact ⟨_, _, _, rfl, h, HR.out.bel⟩

end Go.Proofs.Ytbolminblofhgaa
