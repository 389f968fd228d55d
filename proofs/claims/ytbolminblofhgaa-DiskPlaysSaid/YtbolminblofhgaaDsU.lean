/-
  Package disk: Copy.
-/
import Derived.Test.YtbolminblofhgaaDsM
import Derived.Test.YtbolminblofhgaaDkF
import Derived.Laws.IdiomRangeMap
import Derived.Maps.RangeWalk
import Derived.StringKeys
set_option linter.unusedVariables false
namespace Go.Proofs.Ytbolminblofhgaa
open Go.RowKit
open Go.Maps (Keyed)

def CopyPost (w : World) (C : CD) (e : Ending) (w' : World) : Prop :=
  ∃ G mv' Q', e = .returned (.pointer (some ⟨G, 0, none⟩)) ∧ ImAt w' w.heap.size G mv' Q' C ∧ Below w.heap.size w w'

theorem run_makeMap_n (W : World) (n : Nat) : (Instr.makeMap 60 (some (.int .i64 n))).run Try.prog W = .ok (.map (some W.heap.size)) (W.alloc (.map #[] 0)) := by
  simp [Instr.makeMap, run_underlying Try.underlying60, asInt, asIntOf, Result.andThen]

theorem put_filter {L : List RF} (hr : Rise L) (f : RF) (hf : f ∈ L) (p : RF → Bool) (hp : p f = false) : putL f (L.filter p) = L.filter (fun g => p g || decide (g.nm = f.nm)) := by
  obtain ⟨k, hk, hfk⟩ := List.getElem_of_mem hf
  have hpw := List.pairwise_iff_getElem.1 hr
  have hne := List.pairwise_iff_getElem.1 hr.ne
  have hA : ∀ g ∈ L.take k, g.nm ≠ f.nm ∧ bytesBefore (key f.nm) (key g.nm) = false := fun g hg => by
    obtain ⟨i, hi, rfl⟩ := List.getElem_of_mem hg
    rw [List.length_take] at hi
    rw [List.getElem_take, ← hfk]
    exact ⟨hne i k (by omega) hk (by omega), before_not (hpw i k (by omega) hk (by omega))⟩
  have hD : ∀ g ∈ L.drop (k + 1), g.nm ≠ f.nm ∧ bytesBefore (key f.nm) (key g.nm) = true := fun g hg => by
    obtain ⟨i, hi, rfl⟩ := List.getElem_of_mem hg
    simp at hi
    rw [List.getElem_drop, ← hfk]
    exact ⟨fun e => hne k (k + 1 + i) hk (by omega) (by omega) e.symm, hpw k (k + 1 + i) hk (by omega) (by omega)⟩
  have e0 : L = L.take k ++ f :: L.drop (k + 1) := by rw [← hfk]; exact split_at k hk
  obtain ⟨A, hAe⟩ : ∃ A, A = L.take k := ⟨_, rfl⟩
  obtain ⟨D, hDe⟩ : ∃ D, D = L.drop (k + 1) := ⟨_, rfl⟩
  rw [← hAe, ← hDe] at e0
  rw [← hAe] at hA
  rw [← hDe] at hD
  have e1 : L.filter p = A.filter p ++ D.filter p := by
    rw [e0, List.filter_append, List.filter_cons, if_neg (by rw [hp]; decide)]
  have e2 : L.filter (fun g => p g || decide (g.nm = f.nm)) = A.filter p ++ f :: D.filter p := by
    rw [e0, List.filter_append, List.filter_cons, if_pos (by simp)]
    congr 1
    · exact List.filter_congr (fun g hg => by simp [(hA g hg).1])
    · congr 1
      exact List.filter_congr (fun g hg => by simp [(hD g hg).1])
  rw [e1, e2]
  unfold putL
  rw [show delL f.nm (A.filter p ++ D.filter p) = A.filter p ++ D.filter p from List.filter_eq_self.2 (fun g hg => by
    rcases List.mem_append.1 hg with h | h
    · simpa using (hA g (List.mem_filter.1 h).1).1
    · simpa using (hD g (List.mem_filter.1 h).1).1)]
  exact insL_mid _ _ _ (fun g hg => (hA g (List.mem_filter.1 hg).1).2) (fun g hg => (hD g (List.mem_filter.1 hg).1).2)

theorem atNone (nm : ByteArray) (Q : List (Value × RF)) (h : getQ nm Q = none) (zd : DataW Value) : (mapD Q).atKey (.string (key nm)) zd = zd := by
  unfold mapD
  simp only [DataW.atKey]
  rw [List.find?_map]
  have e : Q.find? ((fun p : Lit × DataW Value => p.1.sameKey (.string (key nm))) ∘ entD) = getQ nm Q := by
    unfold getQ
    congr 1
    funext q
    exact same_key q.2.nm nm
  rw [e, h]
  rfl
theorem grown_of {w w' : World} {r : Nat} (h : Kept (fun i => i = r) w w') : w.grownBy w' (some r) := ⟨h.os, h.tape, h.output, h.size, fun k hk hne => h.block k hk (fun e => hne (by rw [e]))⟩

structure CpRel (w wr : World) (b r : Nat) (Q QD : List (Value × RF)) (C : CD) (left : Lit → Bool) (cnt : Nat) : Prop where
  rg : wr.ranges Try.prog 9 Rf b r Q.length (mapD Q) left cnt
  bel : Below w.heap.size w wr
  new : ImR wr w.heap.size w.heap.size (.map (some (w.heap.size + 1))) QD (tot C.L : Nat) { C with L := C.L.filter fun f => !left (.string (key f.nm)) }
  lo : ∀ q ∈ QD, ∀ k, q.1.ownBlock = some k → r < k
  size : r < wr.heap.size

set_option maxHeartbeats 4000000 in
set_option maxRecDepth 100000 in
theorem dCopy_some (w : World) (B g b : Nat) (Q : List (Value × RF)) (C : CD) (h : ImAt w B g (.map (some b)) Q C) (hi : Inv C) :
    Calls Try.prog 35 #[.pointer (some ⟨g, 0, none⟩)] w (CopyPost w C) := by
  obtain ⟨t0, t1, t2, t3, t4, t5⟩ := h.cell
  obtain ⟨rm, hrm⟩ : ∃ x : Int, x = (C.room : Int) := ⟨_, rfl⟩
  obtain ⟨u, hu⟩ : ∃ x : Int, x = ((tot C.L : Nat) : Int) := ⟨_, rfl⟩
  obtain ⟨nn, hnn⟩ : ∃ x : Int, x = (C.n : Int) := ⟨_, rfl⟩
  obtain ⟨ct, hct⟩ : ∃ x, x = C.cut := ⟨_, rfl⟩
  obtain ⟨lf, hlf⟩ : ∃ x, x = C.left := ⟨_, rfl⟩
  rw [← hrm] at t0
  rw [← hu] at t1
  rw [← hnn] at t3
  rw [← hct] at t4
  rw [← hlf] at t5
  have H := Lib.hid h
  have hmm := run_makeMap_n
  have hln : (Builtin.len_ #[60] 3 #[.map (some b)]).run Try.prog (w.alloc (.cells #[.int .i64 rm, .int .i64 u, .map (some b), .int .i64 nn, .bool ct, .int .i64 lf] 62)) = .ok (.int .i64 Q.length) (w.alloc (.cells #[.int .i64 rm, .int .i64 u, .map (some b), .int .i64 nn, .bool ct, .int .i64 lf] 62)) := (h.alloc _).2.2.2.1.len _
  have t2a := alloc_cell t2 (.cells #[.int .i64 rm, .int .i64 u, .map (some b), .int .i64 nn, .bool ct, .int .i64 lf] 62)
  obtain ⟨X, hX⟩ : ∃ X, X = (w.alloc (.cells #[.int .i64 rm, .int .i64 u, .map (some (w.heap.size + 1)), .int .i64 nn, .bool ct, .int .i64 lf] 62)).alloc (.map #[] 0) := ⟨_, rfl⟩
  have hbX : Below w.heap.size w X := by rw [hX]; exact ((Below.refl _ w).alloc (Nat.le_refl _) _).alloc (by simp) _
  have t2b : ((w.alloc (.cells #[.int .i64 rm, .int .i64 u, .map (some (w.heap.size + 1)), .int .i64 nn, .bool ct, .int .i64 lf] 62)).alloc (.map #[] 0)).cell? ⟨g, 2, none⟩ = some (.map (some b)) := alloc_cell (alloc_cell t2 _) _
  have hsX : X.heap.size = w.heap.size + 2 := by rw [hX]; simp
  have hNew : ImR X w.heap.size w.heap.size (.map (some (w.heap.size + 1))) [] (tot C.L : Nat) { C with L := [] } := by
    refine ⟨Nat.le_refl _, rfl, ?_, ?_, (fun q hq => by cases hq), List.Pairwise.nil⟩
    · rw [hX, Below.heap_alloc _ _ _ (by simp), heap_alloc_new]
      unfold stC
      rw [hrm, hu, hnn, hct, hlf]
    · have := MapAt.made (w.alloc (.cells #[.int .i64 rm, .int .i64 u, .map (some (w.heap.size + 1)), .int .i64 nn, .bool ct, .int .i64 lf] 62)) w.heap.size (by simp)
      rw [show (w.alloc (.cells #[.int .i64 rm, .int .i64 u, .map (some (w.heap.size + 1)), .int .i64 nn, .bool ct, .int .i64 lf] 62)).heap.size = w.heap.size + 1 by simp] at this
      rw [hX]; exact this
  have hown : X.ownsMap Try.prog 9 Rf b Q.length (mapD Q) := by
    rcases (h.below hbX).2.2.2.1 with ⟨e, _⟩ | ⟨b', e, _, ho⟩
    · cases e
    · injection e with e; injection e with e; subst e; exact ho
  have hltb : b < w.heap.size := (h.2.2.2.1.lt b rfl).2
  have HR := Lib.hid h.rise
  have HNEW := Lib.hid hNew
  have HBX := Lib.hid hbX
  have HSX := Lib.hid hsX
  have HU := Lib.hid hu
  clear h hrm hu hnn hct hlf hNew hbX hsX
  go_enter Try.func35, Try.ntmps35
  have hown' := hown
  rw [hX] at hown'
  go_wp2_with (at_range; go_loud (refine wpList_range_own _ rfl _ 60 rfl 9 77 lawS Try.underlying60 Rf b Q.length (mapD Q) rfl hown' ?_))
  rw [← hX]
  intro w0 hrg0 hg0 hs0
  have K0 : Kept (fun _ => False) X w0 := (Kept.refl _ X).grown hg0 (fun k hk => by cases hk)
  have hN0 := HNEW.out.kept K0 (fun _ _ h => h)
  have hb0 : Below w.heap.size w w0 := HBX.out.trans (K0.below HBX.out.size (fun _ h => h.elim))
  have HN0 := Lib.hid hN0
  have HB0 := Lib.hid hb0
  obtain ⟨r, hr⟩ : ∃ r, r = w.heap.size + 1 + 1 := ⟨_, rfl⟩
  rw [← hr] at hrg0 hs0 ⊢
  have hrw : r = w.heap.size + 2 := hr
  have HRG0 := Lib.hid hrg0
  clear t0 t1 t3 t4 t5 hX hr hown hown' hln t2a t2b t2 hmm hg0 hN0 hb0 hrg0 K0
  have HR0 : CpRel w w0 b r Q [] C (Maps.has (mapD Q)) (Maps.size (mapD Q)) := by
    refine ⟨HRG0.out, HB0.out, ?_, (fun q hq => by cases hq), by omega⟩
    rw [show (C.L.filter fun f => !(Maps.has (mapD Q)) (.string (key f.nm))) = [] from List.filter_eq_nil_iff.2 (fun f hf => by
      rw [hasD]
      have h2 := H.out.2.1
      rw [← h2] at hf
      obtain ⟨q, hq, rfl⟩ := List.mem_map.1 hf
      have : hsQ q.2.nm Q = true := by
        unfold hsQ getQ
        rw [List.find?_isSome]
        exact ⟨q, hq, by simp⟩
      rw [this]; decide)]
    exact HN0.out
  have HRW := Lib.hid hrw
  clear hs0 HRG0 HB0 HN0 hrw
  go_wp2
  go_loopw [4] (fun _ wr => ∃ (left : Lit → Bool) (cnt : Nat) (QD : List (Value × RF)), CpRel w wr b r Q QD C left cnt) (fun _ wr => wr.rangeLeft b r)
  case atStart => exact ⟨_, _, _, HR0⟩
  case round =>
    obtain ⟨left, cnt, QD, hR⟩ := hrel
    clear HR0
    have hrg := hR.rg
    go_wp2_with (at_next; go_loud (refine wpList_next_ranges _ rfl _ rfl 9 lawS Rf Value.string id (fun key kl hk => by obtain ⟨s, h1, _⟩ := WideMaps.string_of_keyOf Try.underlying9 hk; exact ⟨s, h1⟩) (fun v y _ => ⟨v, rfl⟩) b r Q.length _ _ _ rfl hrg ?_ ?_))
    · intro hc0 hl0
      have hf : (C.L.filter fun f => !left (.string (key f.nm))) = C.L := List.filter_eq_self.2 (fun f _ => by rw [hl0]; rfl)
      have h := hR.new
      rw [hf] at h
      have HH := Lib.hid h
      have HBB := Lib.hid hR.bel
      clear hR hrg h hf hl0
      go_wp2
      go_ret
      exact ⟨_, _, _, rfl, HH.out, HBB.out⟩
    · intro x c kl yd yp w1 cnt1 hkey hlx hv hat hrg1 hlt hg1 hs1 hen
      obtain ⟨s, hs, hkl, hsz⟩ := WideMaps.string_of_keyOf Try.underlying9 hkey
      injection hs with hs
      subst hs
      have hkl' : kl = .string (key x) := hkl
      subst hkl'
      cases hgq : getQ x Q with
      | none =>
        exfalso
        have e1 := hat .nil
        have e2 := hat (.held file0)
        rw [atNone x Q hgq] at e1 e2
        rw [← e1] at e2
        cases e2
      | some q =>
        obtain ⟨qv, f⟩ := q
        obtain ⟨hqm, hqn⟩ := getQ_mem hgq
        simp only at hqn
        have e1 := hat (.held file0)
        rw [atD] at e1
        have e2 : yd = .held c := by
          have : Rf c = some (yd, yp) := hv
          unfold Rf at this
          injection this with this
          injection this with this
          exact this.symm
        rw [e2, show lkV x Q = fileV (qv, f) by unfold lkV; rw [hgq]] at e1
        injection e1 with e1
        subst e1
        have hO := H.out.below hR.bel
        have ho := hO.2.2.2.2.1 _ hqm
        obtain ⟨a0, k0, hqv⟩ := own_slice ho
        simp only at hqv
        subst hqv
        simp only at ho
        have hfm : f ∈ C.L := by rw [← H.out.2.1]; exact List.mem_map.2 ⟨_, hqm, rfl⟩
        have hfl : f.b.length ≤ 8388608 := by
          have h1 := (tot_del f.nm HR.out.ne).1
          have h2 := eq_of_nm HR.out hfm hfm rfl
          have h3 : getL f.nm C.L = some f := by
            obtain ⟨k, hk, rfl⟩ := List.getElem_of_mem hfm
            exact get_at HR.out k hk
          rw [h3] at h1
          simp only at h1
          have := hi.tot
          have := hi.room
          omega
        have hnms := hi.nm f hfm
        rw [hqn] at hnms
        have K1 : Kept (fun i => i = r) wr w1 := (Kept.refl (fun i => i = r) wr).grown hg1 (fun k hk _ => by injection hk with hk; exact hk.symm)
        have hrl := hR.size
        have hrow : ∀ i, (Value.slice a0 f.b.length k0).ownBlock = some i → i < w.heap.size := fun i e => (own_lt (H.out.2.2.2.2.1 _ hqm) i e).2
        have ho1 := Kept.own ho K1 (fun k e e2 => by have := hrow k e; have := HRW.out; omega)
        have hbt1 : Bts w1 a0 f.b := Bts.own ho1
        have hA0 : a0 = none → k0 = 0 := own_cap ho
        obtain ⟨n0, hn0⟩ : ∃ n, n = f.b.length := ⟨_, rfl⟩
        obtain ⟨s0, hs0⟩ : ∃ n, n = f.s := ⟨_, rfl⟩
        have hen' : (Instr.entry (.pointer (some ⟨r, 0, none⟩))).run Try.prog w1 = .ok (.tuple #[.string x, .agg #[.slice a0 n0 k0, .int .i64 s0]]) w1 := by rw [hn0, hs0]; exact hen
        have hb2 : Below w1.heap.size w1 (w1.alloc (.cells #[.slice a0 n0 k0, .int .i64 s0] 77)) := (Below.refl _ w1).alloc (Nat.le_refl _) _
        have cC := dClone a0 n0 k0 f.b (w1.alloc (.cells #[.slice a0 n0 k0, .int .i64 s0] 77)) hn0.symm (by omega) (hbt1.later hb2) hA0
        have HEN := Lib.hid hen
        have HRR := Lib.hid hR
        have HRG1 := Lib.hid hrg1
        have HN0 := Lib.hid hn0
        have HS0 := Lib.hid hs0
        have HRG := Lib.hid hrg
        have HK1 := Lib.hid K1
        have HFM := Lib.hid hfm
        have HQN := Lib.hid hqn
        have HLX := Lib.hid hlx
        have hs1' : w1.heap.size = wr.heap.size := hs1
        clear hen hR hrg1 hn0 hs0 hrg K1 hfm hqn hlx hg1 hO ho ho1 hbt1 hat hv e2 hkey hkl hsz hgq hqm hb2 hrow hs1
        go_wp2_with (go_at_call 45; go_loud (with_reducible refine cC.mono ?_))
        rintro e W3 ⟨a2, c2, rfl, o3, b3⟩
        have hV0 := heap_alloc_new w1 (.cells #[.slice a0 n0 k0, .int .i64 s0] 77)
        rw [hs1'] at hV0
        have hza : (w1.alloc (.cells #[.slice a0 n0 k0, .int .i64 s0] 77)).heap.size = wr.heap.size + 1 := by simp [hs1']
        have hV3 : W3.heap[wr.heap.size]? = some (.cells #[.slice a0 n0 k0, .int .i64 s0] 77 (0, 0)) := (b3.block wr.heap.size (by omega)).trans hV0
        obtain ⟨x0, x1, y0, y1⟩ := pair_cells hV3
        have hV4 : (W3.setCell ⟨wr.heap.size, 0, none⟩ (.slice a2 n0 c2)).heap[wr.heap.size]? = some (.cells #[.slice a2 n0 c2, .int .i64 s0] 77 (0, 0)) := by rw [heap_setCell_same _ wr.heap.size 0 _ _ _ hV3]; rfl
        obtain ⟨u0, u1, _, _⟩ := pair_cells hV4
        have hrl := HRR.out.size
        have hGV : w.heap.size < wr.heap.size := by have := HRW.out; omega
        have K3 : Kept (fun _ => False) w1 W3 := Kept.of_below (((Below.refl w1.heap.size w1).alloc (Nat.le_refl _) (.cells #[.slice a0 n0 k0, .int .i64 s0] 77)).trans (b3.mono (by simp)))
        have K4 : Kept (fun i => i = r) wr (W3.setCell ⟨wr.heap.size, 0, none⟩ (.slice a2 n0 c2)) := (HK1.out.trans K3 (fun _ _ h => h.elim)).setCell (p := ⟨wr.heap.size, 0, none⟩) (fun h => absurd h (by simp)) _
        have hI := HRR.out.new.kept K4 (fun k hk e => by
          subst e
          have h0 := HRW.out
          rcases hk with e | e | ⟨q, hq, e⟩
          · omega
          · injection e with e; injection e with e; omega
          · have := HRR.out.lo q hq _ e; omega)
        have t2W : (W3.setCell ⟨wr.heap.size, 0, none⟩ (.slice a2 n0 c2)).cell? ⟨w.heap.size, 2, none⟩ = some (.map (some (w.heap.size + 1))) := hI.cell.2.2.1
        have kv : Kept (fun k => k = wr.heap.size) W3 (W3.setCell ⟨wr.heap.size, 0, none⟩ (.slice a2 n0 c2)) := Kept.cellG 0 _
        have o4 := Kept.own o3 kv (fun k e e2 => own_ne hV3 o3 (by decide) (e2 ▸ e))
        have hP : PutPre (W3.setCell ⟨wr.heap.size, 0, none⟩ (.slice a2 n0 c2)) w.heap.size w.heap.size (.map (some (w.heap.size + 1))) QD (tot C.L : Nat) { C with L := C.L.filter fun f => !left (.string (key f.nm)) } (.slice a2 n0 c2, ⟨x, f.b, s0⟩) := by
          refine ⟨Nat.le_refl _, hI.2.1, hI.2.2.1, hI.2.2.2.1, fun p hp => hI.2.2.2.2.1 p (mem_delQ hp).1, hI.2.2.2.2.2.filter _, ?_, fun p hp k hk e => ?_⟩
          · show World.ownsRow _ _ _ _ _ _ _
            simp only
            rw [← HN0.out]
            exact own_low o4 (by rw [hza]; omega)
          · have e1 := (HRR.out.new.ltS k (.inr (.inr ⟨p, (mem_delQ hp).1, hk⟩))).2
            have e2 := (own_lt o3 k e).1
            rw [hza] at e2
            omega
        have hQD : QD.length ≤ 1000000 := by
          have e1 := congrArg List.length HRR.out.new.2.1
          rw [List.length_map] at e1
          have e2 : (C.L.filter fun f => !left (.string (key f.nm))).length ≤ C.L.length := List.length_filter_le ..
          have := hi.len
          simp only at e1
          omega
        obtain ⟨W5, hrun, hI5, k5, z5⟩ := hP.store (by show x.size ≤ 1000000; omega) hQD
        have hrun' : (Instr.mapUpdate 60 (.map (some (w.heap.size + 1))) (.string x) (.agg #[.slice a2 n0 c2, .int .i64 s0])).run Try.prog (W3.setCell ⟨wr.heap.size, 0, none⟩ (.slice a2 n0 c2)) = .ok () W5 := hrun
        have hf' : (⟨x, f.b, s0⟩ : RF) = f := by rw [HS0.out, ← HQN.out]
        have hpf := put_filter HR.out f HFM.out (fun f => !left (.string (key f.nm))) (by show (!left (.string (key f.nm))) = false; rw [HQN.out, HLX.out]; rfl)
        have hfin : CpRel w W5 b r Q (putQ (.slice a2 n0 c2, ⟨x, f.b, s0⟩) QD) C (fun z => left z && !z.sameKey (.string (key x))) cnt1 := by
          have h0 := HRW.out
          refine ⟨?_, ?_, ?_, fun p hp k hk => ?_, ?_⟩
          · have r1 := HRG1.out.alloc (.cells #[.slice a0 n0 k0, .int .i64 s0] 77)
            have r3 := r1.kept (w' := W3) (row := none) ⟨b3.os, b3.tape, b3.output, b3.size, fun k hk _ => b3.block k hk⟩ (by simp) (by simp)
            have r4 := r3.kept (grown_of kv) (by simp; omega) (by simp; omega)
            exact r4.kept (grown_of k5) (by simp; omega) (by simp; omega)
          · exact HRR.out.bel.trans ((K4.mono (T := fun k => k = r ∨ k = w.heap.size + 1) (fun _ _ e => .inl e)).trans k5 (fun _ _ e => .inr e) |>.below HRR.out.bel.size (fun k hk => by rcases hk with e | e <;> omega))
          · have e : ({ C with L := C.L.filter fun f => !left (.string (key f.nm)) } : CD).setL (putL ⟨x, f.b, s0⟩ (C.L.filter fun f => !left (.string (key f.nm)))) = { C with L := C.L.filter fun g => !(left (.string (key g.nm)) && !(Lit.string (key g.nm)).sameKey (.string (key x))) } := by
              rw [hf', hpf]
              unfold CD.setL
              congr 1
              apply List.filter_congr
              intro g _
              rw [same_key, HQN.out]
              cases left (.string (key g.nm)) <;> cases decide (g.nm = x) <;> rfl
            have h5 := hI5
            simp only at h5
            rw [e] at h5
            exact h5
          · rcases mem_putQ hp with rfl | ⟨hp, _⟩
            · have := (own_lt o3 k hk).1
              rw [hza] at this
              omega
            · exact HRR.out.lo p hp k hk
          · have := k5.size
            have := K4.size
            omega
        have HFIN := Lib.hid hfin
        have hlt2 := hlt
        clear hfin hpf hrun hI5 k5 hP hI K4 K3 o4 kv o3 b3 hV0 hV3 hV4 cC
        go_wp2
        go_roundw
        case rel => exact ⟨_, _, _, HFIN.out⟩
        case measure => rw [HFIN.out.rg.left_eq, HRR.out.rg.left_eq]; exact hlt2

set_option maxHeartbeats 4000000 in
set_option maxRecDepth 100000 in
theorem dCopy_none (w : World) (B g : Nat) (Q : List (Value × RF)) (C : CD) (h : ImAt w B g (.map none) Q C) :
    Calls Try.prog 35 #[.pointer (some ⟨g, 0, none⟩)] w (CopyPost w C) := by
  obtain ⟨t0, t1, t2, t3, t4, t5⟩ := h.cell
  have hQ : Q = [] := by
    rcases h.2.2.2.1 with ⟨_, e⟩ | ⟨b, e, _⟩
    · exact e
    · cases e
  have hL : C.L = [] := by rw [← h.2.1, hQ]; rfl
  obtain ⟨rm, hrm⟩ : ∃ x : Int, x = (C.room : Int) := ⟨_, rfl⟩
  obtain ⟨u, hu⟩ : ∃ x : Int, x = ((tot C.L : Nat) : Int) := ⟨_, rfl⟩
  obtain ⟨nn, hnn⟩ : ∃ x : Int, x = (C.n : Int) := ⟨_, rfl⟩
  obtain ⟨ct, hct⟩ : ∃ x, x = C.cut := ⟨_, rfl⟩
  obtain ⟨lf, hlf⟩ : ∃ x, x = C.left := ⟨_, rfl⟩
  rw [← hrm] at t0
  rw [← hu] at t1
  rw [← hnn] at t3
  rw [← hct] at t4
  rw [← hlf] at t5
  have hmm : ∀ W, (Instr.makeMap 60 (some (.int .i64 0))).run Try.prog W = .ok (.map (some W.heap.size)) (W.alloc (.map #[] 0)) := fun W => run_makeMap_n W 0
  have hln : (Builtin.len_ #[60] 3 #[.map none]).run Try.prog (w.alloc (.cells #[.int .i64 rm, .int .i64 u, .map none, .int .i64 nn, .bool ct, .int .i64 lf] 62)) = .ok (.int .i64 ((0 : Nat) : Int)) (w.alloc (.cells #[.int .i64 rm, .int .i64 u, .map none, .int .i64 nn, .bool ct, .int .i64 lf] 62)) := Maps.len_nil Try.underlying60 _
  have t2a := alloc_cell t2 (.cells #[.int .i64 rm, .int .i64 u, .map none, .int .i64 nn, .bool ct, .int .i64 lf] 62)
  obtain ⟨X, hX⟩ : ∃ X, X = (w.alloc (.cells #[.int .i64 rm, .int .i64 u, .map (some (w.heap.size + 1)), .int .i64 nn, .bool ct, .int .i64 lf] 62)).alloc (.map #[] 0) := ⟨_, rfl⟩
  have hbX : Below w.heap.size w X := by rw [hX]; exact ((Below.refl _ w).alloc (Nat.le_refl _) _).alloc (by simp) _
  have t2b : ((w.alloc (.cells #[.int .i64 rm, .int .i64 u, .map (some (w.heap.size + 1)), .int .i64 nn, .bool ct, .int .i64 lf] 62)).alloc (.map #[] 0)).cell? ⟨g, 2, none⟩ = some (.map none) := alloc_cell (alloc_cell t2 _) _
  have hNew : ImR X w.heap.size w.heap.size (.map (some (w.heap.size + 1))) [] (tot C.L : Nat) C := by
    refine ⟨Nat.le_refl _, by rw [hL]; rfl, ?_, ?_, (fun q hq => by cases hq), List.Pairwise.nil⟩
    · rw [hX, Below.heap_alloc _ _ _ (by simp), heap_alloc_new]
      unfold stC
      rw [hrm, hu, hnn, hct, hlf]
    · have := MapAt.made (w.alloc (.cells #[.int .i64 rm, .int .i64 u, .map (some (w.heap.size + 1)), .int .i64 nn, .bool ct, .int .i64 lf] 62)) w.heap.size (by simp)
      rw [show (w.alloc (.cells #[.int .i64 rm, .int .i64 u, .map (some (w.heap.size + 1)), .int .i64 nn, .bool ct, .int .i64 lf] 62)).heap.size = w.heap.size + 1 by simp] at this
      rw [hX]; exact this
  have hrg := run_range_nilMap (P := Try.prog) X 60 _ _ Try.underlying60
  have hnx : ∀ ty, (Instr.next (.pointer (some ⟨X.heap.size, 0, none⟩)) false ty).run Try.prog (X.alloc (.mapIter none 0 #[] 0)) = _ := fun ty => run_next_nilMap (P := Try.prog) X ty 0 0 #[]
  have hsX : X.heap.size = w.heap.size + 1 + 1 := by rw [hX]; simp
  rw [hsX] at hrg hnx
  rw [hX] at hrg hnx
  have HNEW := Lib.hid hNew
  have HBX := Lib.hid hbX
  have HX := Lib.hid hX
  clear h hrm hu hnn hct hlf hNew hbX hX hsX hQ hL
  go_enter Try.func35, Try.ntmps35
  go_wp2
  refine wp_loop_rounds 1 ?_
  rw [rounds_succ]
  go_wp2
  go_ret
  have e := HX.out
  rw [← e]
  exact ⟨_, _, _, rfl, HNEW.out.alloc _, HBX.out.alloc HBX.out.size _⟩
theorem dCopy (w : World) (B g : Nat) (mv : Value) (Q : List (Value × RF)) (C : CD) (h : ImAt w B g mv Q C) (hi : Inv C) :
    Calls Try.prog 35 #[.pointer (some ⟨g, 0, none⟩)] w (CopyPost w C) := by
  rcases h.2.2.2.1 with ⟨e, _⟩ | ⟨b, e, _⟩
  · subst e; exact dCopy_none w B g Q C h
  · subst e; exact dCopy_some w B g b Q C h hi

end Go.Proofs.Ytbolminblofhgaa
