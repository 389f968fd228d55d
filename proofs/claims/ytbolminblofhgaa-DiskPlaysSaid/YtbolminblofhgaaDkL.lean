/-
  The reference's Append, of a file that there is.
-/
import Derived.Test.YtbolminblofhgaaDkK
set_option linter.unusedVariables false
namespace Go.Proofs.Ytbolminblofhgaa
open Go.RowKit

set_option maxHeartbeats 8000000 in
set_option maxRecDepth 100000 in
theorem rAppend_some (w : World) (B g : Nat) (v : Value) (Q : List (Value × RF)) (M : RD) (nm : ByteArray) (A : Option Addr) (m c : Nat) (l : List UInt8) (h : DkAt w B g v Q M) (hn : M.n ≤ 1000000) (hq : Q.length ≤ 100000) (hB : B ≤ w.heap.size) (hr : Rise M.L) (ht : tot M.L ≤ 8388608) (hrm : M.room ≤ 8388608) (hl : l.length = m) (hm : m ≤ 1000000) (hb : Bts w A l) (hA : A = none → c = 0) (hAS : ∀ x, A = some x → x.block ≠ g) (ho : offM M = false) (hbd : badN nm = false) (k : Nat) (hf : fnd nm M.L = some k) :
    Calls Try.prog 29 #[.pointer (some ⟨g, 0, none⟩), .string nm, .slice A m c] w (RkRes w B g v Q ((appL M.room nm l M.L).1, { M.op with L := (appL M.room nm l M.L).2 })) := by
  obtain ⟨i0, hi, hz0, hz1, hz2⟩ := info_parts infoByte8
  have cO := rOff w B g v Q M h hn
  rw [ho] at cO
  have hrise := h.rise
  obtain ⟨hk, hn1, hg1⟩ := fnd_get hr hf
  have hkl : k < Q.length := by rw [hrise]; exact hk
  obtain ⟨gr, cp, hv, hBr⟩ := h.row (by intro e; rw [e] at hkl; simp at hkl)
  subst hv
  have HX : Hid (appL M.room nm l M.L = if M.room < tot M.L + l.length then (3, M.L) else (0, putL ⟨nm, (M.L[k]'hk).b ++ l, (M.L[k]'hk).s⟩ M.L)) := by
    show _ = _
    unfold appL
    rw [if_neg (by rw [hbd]; decide), hg1]
    by_cases e : M.room < tot M.L + l.length
    · rw [if_pos (.inr e), if_pos e]
    · rw [if_neg (fun h => by rcases h with ⟨h, _⟩ | h; (cases h); exact e h), if_neg e]
  obtain ⟨X, hX⟩ : ∃ X, X = appL M.room nm l M.L := ⟨_, rfl⟩
  rw [← hX] at HX ⊢
  clear h hX
  go_enter Try.func29, Try.ntmps29
  go_wp2_with (go_at_call 48; (with_reducible refine cO.mono ?_))
  rintro e W1 ⟨rfl, h1, k1⟩
  have cB := rBad_any nm W1
  rw [hbd] at cB
  have H1 := Lib.hid h1
  clear h1 cO
  go_wp2_with (go_at_call 49; (with_reducible refine cB.mono ?_))
  rintro e W2' ⟨rfl, q2, rfl⟩
  obtain ⟨W2, hW2⟩ : ∃ W, W = W1.drewN q2 := ⟨_, rfl⟩
  have h2 : DkAt W2 B g (.slice (some ⟨gr, 0, none⟩) Q.length cp) Q M.op := by rw [hW2]; exact H1.out.drewN q2
  have k2 : Kept (fun k => k = g) w W2 := by rw [hW2]; exact k1.drewN q2
  rw [← hW2]
  clear hW2 H1 k1 cB
  have cF := rFind_yes (nm := nm) h2 (by omega) hf
  have H2 := Lib.hid h2
  clear h2
  go_wp2_with (go_at_call 50; (with_reducible refine cF.mono ?_))
  rintro e W3' ⟨rfl, q3, rfl⟩
  obtain ⟨W3, hW3⟩ : ∃ W, W = W2.drewN q3 := ⟨_, rfl⟩
  have h3 : DkAt W3 B g (.slice (some ⟨gr, 0, none⟩) Q.length cp) Q M.op := by rw [hW3]; exact H2.out.drewN q3
  have k3 : Kept (fun k => k = g) w W3 := by rw [hW3]; exact k2.drewN q3
  rw [← hW3]
  clear hW3 H2 k2 cF
  have hb3 : Bts W3 A l := Bts.kept hb k3 (fun x hx e => hAS x hx e)
  obtain ⟨d0', d1, _, _⟩ := h3.cell
  have d0 : W3.cell? ⟨g, 0, none⟩ = Option.some (.int .i64 M.room) := d0'
  obtain ⟨rm, hrmd⟩ : ∃ x, x = M.room := ⟨_, rfl⟩
  obtain ⟨u, hu⟩ : ∃ x, x = tot M.L := ⟨_, rfl⟩
  rw [← hrmd] at d0 hrm HX
  rw [← hu] at ht HX
  have HRM := Lib.hid hrmd
  have HU := Lib.hid hu
  have H3 := Lib.hid h3
  have HB3 := Lib.hid hb3
  have HF := Lib.hid hf
  have HRISE := Lib.hid hrise
  clear d0' hrmd hu h3 hb3 hb hf hrise
  go_wp2
  go_loopw [8, 9] (fun n i wr => ∃ j : Nat, i = .int .i64 j ∧ j ≤ Q.length ∧ n = .int .i64 (tot (M.L.take j) : Nat) ∧ W3 = wr) (fun _ i _ => Q.length - (intOf i).toNat)
  case atStart => exact ⟨0, rfl, Nat.zero_le _, rfl, rfl⟩
  case round =>
    obtain ⟨j, rfl, hj, rfl, hwr⟩ := hrel
    subst hwr
    by_cases hlt : j < Q.length
    · have hlt2 : j < M.L.length := by have := HRISE.out; omega
      have hts := tot_take_succ M.L j hlt2
      have htk := tot_take_le M.L (j + 1)
      obtain ⟨_, r1, _⟩ := H3.out.cells j hlt
      obtain ⟨pa, pc, hpv⟩ := own_slice (H3.out.2.2.2.2 _ (List.getElem_mem hlt))
      rw [hpv, H3.out.at' j hlt hlt2] at r1
      obtain ⟨fn, hfn⟩ : ∃ n, n = (M.L[j]'hlt2).b.length := ⟨_, rfl⟩
      obtain ⟨tk, htkd⟩ : ∃ n, n = tot (M.L.take j) := ⟨_, rfl⟩
      have r1' : W3.cell? ⟨gr, j * 3 + 1, none⟩ = Option.some (.slice pa fn pc) := by rw [r1, hfn]; rfl
      rw [← hfn, ← htkd] at hts
      have hbd2 : tk + fn ≤ 8388608 := by have := HU.out; omega
      have HTS := Lib.hid hts
      rw [← htkd]
      clear hfn htkd hts htk r1 hpv
      go_wp2
      go_roundw
      case rel => exact ⟨j + 1, by go_num, by omega, by rw [HTS.out]; go_num, by first | rfl | trivial⟩
      case measure => simp [intOf]; omega
    · have hju : tot (M.L.take j) = u := by rw [HU.out, List.take_of_length_le (by have := HRISE.out; omega)]
      rw [hju]
      clear hju
      have hw1 : IntKind.i64.wrap ((rm : Int) - (u : Int)) = (rm : Int) - (u : Int) := IntWalk.i64_in _ (by omega)
      have hw2 : wrap64 ((rm : Int) - (u : Int)) = (rm : Int) - (u : Int) := IntWalk.wrap64_in _ (by omega)
      by_cases hd : (rm : Int) - (u : Int) < m
      · skip
        have HE : Hid (X = (3, M.L)) := by show _ = _; rw [HX.out, if_pos (by omega)]
        clear HX
        go_wp2
        go_ret
        rw [HE.out]
        exact ⟨_, Q, rfl, H3.out, k3.mono (fun k _ e => .inl e), fun k e => .inl e⟩
      · have HE : Hid (X = (0, putL ⟨nm, (M.L[k]'hk).b ++ l, (M.L[k]'hk).s⟩ M.L)) := by show _ = _; rw [HX.out, if_neg (by omega)]
        clear HX
        have hki : ¬ (k : Int) < 0 := by omega
        go_wp2
        clear d0 hw1 hw2
        obtain ⟨_, r1, _⟩ := H3.out.cells k hkl
        have hmQ := List.getElem_mem hkl
        have hbo := H3.out.2.2.2.2 _ hmQ
        have f1 := H3.out.2.2.2.1.frozenAt (k * 3 + 1)
        have hatk : (Q[k]'hkl).2 = M.L[k]'hk := H3.out.at' k hkl hk
        rw [hatk] at hbo
        obtain ⟨pv, hpv0⟩ : ∃ p, p = (Q[k]'hkl).1 := ⟨_, rfl⟩
        obtain ⟨f, hff⟩ : ∃ f, f = M.L[k]'hk := ⟨_, rfl⟩
        rw [← hpv0] at r1 hbo
        rw [← hff] at hbo HE hatk
        obtain ⟨pa, pc, hpv⟩ := own_slice hbo
        subst hpv
        have hfl : f.b.length ≤ 8388608 := by have := mem_tot (List.getElem_mem hk); rw [hff]; have := HU.out; omega
        have hAp : pa = none → pc = 0 := own_cap hbo
        have hbp : Bts W3 pa f.b := Bts.own hbo
        have HMQ := Lib.hid hmQ
        have HPV := Lib.hid hpv0
        have HATK := Lib.hid hatk
        have hltg : g < W3.heap.size := H3.out.lt
        have hltr : gr < W3.heap.size := H3.out.ltS gr (.inr rfl)
        have hki0 : (0 : Int) ≤ (k : Int) := by omega
        have hki1 : (k : Int) < (Q.length : Int) := by omega
        have hbz : Below W3.heap.size W3 (W3.alloc (.cells #[] 5)).drew := ((Below.refl _ W3).alloc (Nat.le_refl _) _).drew
        have hA1 : Bts (W3.alloc (.cells #[] 5)).drew pa f.b := hbp.later hbz
        have hO0 : (W3.alloc (.cells #[] 5)).ownsRow W3.heap.size 5 1 (.slice (some ⟨W3.heap.size, 0, none⟩) 0 0) 0 [] := World.ownsRow_lit W3 #[] 0 (Nat.le_refl _) (Nat.zero_le _) rfl
        have hO := hO0.drew
        have hsA : (W3.alloc (.cells #[] 5)).drew.heap.size = W3.heap.size + 1 := by simp
        have fA : (W3.alloc (.cells #[] 5)).drew.frozen? ⟨gr, k * 3 + 1, none⟩ = false := alloc_frozen r1 f1 _
        have HFF := Lib.hid hff
        clear hatk hmQ hpv0 hbp hO0 hff
        have hgr : g ≠ gr := fun e => H3.out.apart (by rw [e]; rfl)
        have dA : (W3.alloc (.cells #[] 5)).drew.cell? ⟨g, 1, none⟩ = Option.some (.slice (some ⟨gr, 0, none⟩) Q.length cp) := alloc_cell d1 _
        have rA : (W3.alloc (.cells #[] 5)).drew.cell? ⟨gr, k * 3 + 1, none⟩ = Option.some (.slice pa f.b.length pc) := alloc_cell r1 _
        have nO : ∀ i, i < W3.heap.size → some i ≠ (Value.slice (some ⟨W3.heap.size, 0, none⟩) 0 0).ownBlock := fun i hi e => by injection e with e; exact absurd e (by show i ≠ W3.heap.size; omega)
        go_region_law
          (first
            | ((refine step_append_btsAt (W3.alloc (.cells #[] 5)).drew (by rfl) (.tmp 72) (.tmp 80) 39 (by rfl) W3.heap.size 5 i0 Try.underlying39 hi hz0 hz1 hz2 (.slice (some ⟨W3.heap.size, 0, none⟩) 0 0) 0 [] (by rfl) hO pa f.b.length pc f.b (by rfl) rfl hA1 hAp (by omega) (by simp) f.b.length (by omega) ?_; intro aA cA wA hownA hgA hatA; have hA3 := HB3.out.later (below_grown hbz (Nat.le_refl _) hO hgA); have zA : W3.heap.size < wA.heap.size := (by have := hgA.size; rw [hsA] at this; omega); have nA : ∀ i, i < W3.heap.size → some i ≠ (Value.slice aA f.b.length cA).ownBlock := (fun i hi e => by have := (own_lt hownA i e.symm).1; omega); have gA := (hgA.cell_far ⟨g, 1, none⟩ (by rw [hsA]; show g < _; omega) (nO g hltg)).trans dA; have rB := (hgA.cell_far ⟨gr, k * 3 + 1, none⟩ (by rw [hsA]; show gr < _; omega) (nO gr hltr)).trans rA; have f3 := (hgA.frozen_far ⟨gr, k * 3 + 1, none⟩ (by rw [hsA]; show gr < _; omega) (nO gr hltr)).trans fA))
            | ((refine step_append_btsAt wA (by rfl) (.tmp 81) (.tmp 82) 39 (by rfl) W3.heap.size 5 i0 Try.underlying39 hi hz0 hz1 hz2 (.slice aA f.b.length cA) f.b.length ([] ++ Lib.byteCells f.b) (by rfl) hownA A m c l (by rfl) hl hA3 hA (by omega) (by omega) (f.b.length + m) rfl ?_; intro aB cB wB hownB hgB hatB; have gB := (hgB.cell_far ⟨g, 1, none⟩ (by show g < _; omega) (nA g hltg)).trans gA; have rC := (hgB.cell_far ⟨gr, k * 3 + 1, none⟩ (by show gr < _; omega) (nA gr hltr)).trans rB; have f4 := (hgB.frozen_far ⟨gr, k * 3 + 1, none⟩ (by show gr < _; omega) (nA gr hltr)).trans f3)))
        all_goals (
          have hbA : Below W3.heap.size W3 wA := below_grown hbz (Nat.le_refl _) hO hgA
          have hbB : Below W3.heap.size W3 wB := below_grown hbA (Nat.le_refl _) hownA hgB
          have h8 := H3.out.kept (S := fun _ => False) (Kept.of_below hbB) (fun _ _ h => h) (fun _ _ _ _ h => h)
          have hzw := k3.size
          have ho8 : wB.ownsRow B 5 1 (.slice aB (f.b.length + m) cB) (f.b ++ l).length (Lib.byteCells (f.b ++ l)) := by
            have := own_low hownB (Nat.le_trans hB hzw)
            rw [List.nil_append, byteCells_app] at this
            rw [List.length_append, hl]
            exact this
          have h9 := h8.setB k hkl (.slice aB (f.b.length + m) cB) (f.b ++ l) ho8
          have hfr : ∀ i, (Value.slice aB (f.b.length + m) cB).ownBlock = Option.some i → W3.heap.size ≤ i := fun i e => by
            have := (own_lt hownB i e).1
            exact this
          have K9 : Kept (DkS g (.slice (some ⟨gr, 0, none⟩) Q.length cp)) w (wB.setCell ⟨gr, k * 3 + 1, none⟩ (.slice aB (f.b.length + m) cB)) :=
            ((k3.mono (T := DkS g (.slice (some ⟨gr, 0, none⟩) Q.length cp)) (fun k _ e => .inl e)).trans (Kept.of_below (S := fun _ => False) hbB) (fun _ _ h => h.elim)).setCell (p := ⟨gr, k * 3 + 1, none⟩) (fun _ => .inr rfl) _
          have H9 := Lib.hid h9
          have HFRR := Lib.hid hfr
          have HK9 := Lib.hid K9
          clear h9 h8 ho8 hownB hownA hgA hgB hatA hatB hbA hbB hfr K9 gA gB rB rC f3 f4 dA rA fA hA3 nA zA nO hO hsA hbz hA1
          go_wp2
          go_ret
          rw [HE.out]
          have hps := put_set hr ⟨nm, f.b ++ l, f.s⟩ k hk hn1
          rw [hps]
          have h10 := H9.out
          have hfnm : f.nm = nm := by rw [HFF.out]; exact hn1
          have e3 : (Q[k]'hkl).2 = (⟨nm, f.b, f.s⟩ : RF) := HATK.out.trans (by rw [← hfnm])
          rw [e3] at h10
          refine ⟨_, _, rfl, h10, HK9.out, ?_⟩
          · rintro i (e | ⟨x, hx, e⟩)
            · exact .inl (.inl e)
            · rcases List.mem_or_eq_of_mem_set hx with hm2 | rfl
              · exact .inl (.inr ⟨x, hm2, e⟩)
              · exact .inr (Nat.le_trans hzw (HFRR.out i e)))
theorem rAppend (w : World) (B g : Nat) (v : Value) (Q : List (Value × RF)) (M : RD) (nm : ByteArray) (A : Option Addr) (m c : Nat) (l : List UInt8) (h : DkAt w B g v Q M) (hn : M.n ≤ 1000000) (hq : Q.length ≤ 100000) (hB : B ≤ w.heap.size) (hr : Rise M.L) (ht : tot M.L ≤ 8388608) (hrm : M.room ≤ 8388608) (hl : l.length = m) (hm : m ≤ 1000000) (hb : Bts w A l) (hA : A = none → c = 0) (hAS : ∀ x, A = some x → x.block ≠ g) :
    Calls Try.prog 29 #[.pointer (some ⟨g, 0, none⟩), .string nm, .slice A m c] w (RkRes w B g v Q (resM M (appL M.room nm l M.L))) := by
  cases ho : offM M with
  | true => rw [resM_off ho]; exact rAppend_9 w B g v Q M nm _ h hn ho
  | false =>
    rw [resM_on ho]
    cases hbd : badN nm with
    | true =>
      rw [show appL M.room nm l M.L = (1, M.L) by unfold appL; rw [if_pos hbd]]
      exact rAppend_1 w B g v Q M nm _ h hn ho hbd
    | false =>
      cases hf : fnd nm M.L with
      | none => exact rAppend_none w B g v Q M nm A m c l h hn hq hB hr ht hrm hl hm hb hA hAS ho hbd hf
      | some k => exact rAppend_some w B g v Q M nm A m c l h hn hq hB hr ht hrm hl hm hb hA hAS ho hbd k hf

end Go.Proofs.Ytbolminblofhgaa
