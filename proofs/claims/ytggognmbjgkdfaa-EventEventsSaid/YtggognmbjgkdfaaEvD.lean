/-
  Package event: all of texts (slices.ContainsFunc, IndexFunc), isPut.
-/
import Derived.Test.YtggognmbjgkdfaaEvC
set_option linter.unusedVariables false
namespace Go.Proofs.Ytggognmbjgkdfaa
open Go.RowKit

/-- Where the first that may not be stands; -1: there is none. -/
def badIdx {α : Type} (ok : α → Bool) (l : List α) : Int := match l.findIdx? (fun x => !ok x) with | some k => k | none => -1
theorem badIdx_yes {α : Type} {ok : α → Bool} {l : List α} (h : l.all ok = true) : badIdx ok l = -1 := by
  unfold badIdx
  rw [List.findIdx?_eq_none_iff.2 (fun x hx => by simp [List.all_eq_true.1 h x hx])]
theorem badIdx_no {α : Type} {ok : α → Bool} {l : List α} (h : l.all ok = false) : ∃ k : Nat, badIdx ok l = (k : Int) := by
  obtain ⟨x, hx, hn⟩ := List.all_eq_false.1 h
  unfold badIdx
  cases e : l.findIdx? (fun x => !ok x) with
  | none =>
    have := List.findIdx?_eq_none_iff.1 e x hx
    simp at this
    exact absurd this hn
  | some k => exact ⟨k, rfl⟩

theorem name_t (s : ByteArray) (w : World) (hs : s.size ≤ maxLen) : Calls Try.prog 81 #[.string s] w (TelPost (.bool (nmS s)) w) := Name_any s w hs
theorem key_t (s : ByteArray) (w : World) (hs : s.size ≤ maxLen) : Calls Try.prog 74 #[.string s] w (TelPost (.bool (kyS s)) w) := Key_any s w hs
theorem valid_t (s : ByteArray) (w : World) (hs : s.size ≤ maxLen) : Calls Try.prog 83 #[.string s] w (TelPost (.bool (vldS s)) w) := Valid_any s w hs

set_option maxHeartbeats 2000000 in
set_option maxRecDepth 100000 in
theorem allClosS (x : ByteArray) (G : Nat) (w : World) (hx : x.size ≤ maxLen) (hc : w.cell? ⟨G, 0, none⟩ = some (.func (.func 83) #[] #[])) :
    Calls Try.prog 114 #[.string x, .pointer (some ⟨G, 0, none⟩)] w (TelPost (.bool (!vldS x)) w) := by
  have cV := valid_t x w hx
  go_enter Try.func114, Try.ntmps114
  go_wp2_with (first | (go_at_call 83; (with_reducible refine cV.mono ?_)) | ((with_reducible refine cV.mono ?_)))
  rintro e W ⟨rfl, b⟩
  have HB := Lib.hid b
  clear b cV
  go_wp2
  go_ret
  exact ⟨rfl, HB.out⟩

set_option maxHeartbeats 4000000 in
set_option maxRecDepth 100000 in
theorem idxS (a : Option Addr) (n c G : Nat) (l : List ByteArray) (w : World) (hn : n = l.length) (hm : n ≤ 1000000) (hl : ∀ x ∈ l, x.size ≤ maxLen) (h : StrsIn w a l) (hc : w.cell? ⟨G, 0, none⟩ = some (.func (.func 83) #[] #[])) :
    Calls Try.prog 119 #[.slice a n c, .func (.func 114) #[] #[.pointer (some ⟨G, 0, none⟩)]] w (TelPost (.int .i64 (badIdx vldS l)) w) := by
  have HN := Lib.hid hn
  have HC := Lib.hid hc
  have HS := Lib.hid h
  have HLL := Lib.hid hl
  clear hn hc h hl
  go_enter Try.func119, Try.ntmps119
  go_wp2
  go_loopw [8] (fun i wr => ∃ j : Nat, i = .int .i64 j ∧ j ≤ n ∧ Hid (∀ t, t < j → ∀ ht : t < l.length, vldS (l[t]'ht) = true) ∧ Below w.heap.size w wr) (fun i _ => n - (intOf i).toNat)
  case atStart => exact ⟨0, rfl, Nat.zero_le _, fun t ht => by omega, Below.refl _ _⟩
  case round =>
    obtain ⟨j, rfl, hj, HNE, hb⟩ := hrel
    by_cases hlt : j < n
    · have hlt2 : j < l.length := by have := HN.out; omega
      obtain ⟨x, rfl, hx⟩ := HS.out j hlt2
      have hxw := cell_later hb hx
      have hct := cell_later hb HC.out
      have HNE2 : Hid (vldS (l[j]'hlt2) = true → ∀ t, t < j + 1 → ∀ ht : t < l.length, vldS (l[t]'ht) = true) := fun h t ht hl => by
        by_cases e : t = j
        · subst e; exact h
        · exact HNE.out t (by omega) hl
      have HF : Hid (vldS (l[j]'hlt2) = false → badIdx vldS l = (j : Int)) := fun h => by
        unfold badIdx
        rw [show l.findIdx? (fun x => !vldS x) = some j from by
          rw [List.findIdx?_eq_some_iff_getElem]
          exact ⟨hlt2, by simp [h], fun t ht => by simp [HNE.out t ht (by omega)]⟩]
      have cC := allClosS (l[j]'hlt2) G wr (HLL.out _ (List.getElem_mem hlt2)) hct
      obtain ⟨s, hs⟩ : ∃ s, s = l[j]'hlt2 := ⟨_, rfl⟩
      rw [← hs] at hxw cC HNE2 HF
      have HB := Lib.hid hb
      clear hx hs hb hct
      cases hv : vldS s with
      | false =>
        rw [hv] at cC
        have HV := Lib.hid (HF.out hv)
        clear HF HNE2 hv
        go_wp2_with (go_at_call 114; (with_reducible refine cC.mono ?_))
        rintro e W ⟨rfl, b⟩
        have HB2 := Lib.hid (HB.out.trans (b.mono HB.out.size))
        clear b cC
        go_wp2
        go_ret
        rw [HV.out]
        exact ⟨rfl, HB2.out⟩
      | true =>
        rw [hv] at cC
        have HV := Lib.hid (HNE2.out hv)
        clear HF HNE2 hv
        go_wp2_with (go_at_call 114; (with_reducible refine cC.mono ?_))
        rintro e W ⟨rfl, b⟩
        have HB2 := Lib.hid (HB.out.trans (b.mono HB.out.size))
        clear b cC
        go_wp2
        go_roundw
        case rel => exact ⟨j + 1, by go_num, by omega, HV.out, HB2.out⟩
        case measure => simp [intOf]; omega
    · have HF : Hid (badIdx vldS l = -1) := by
        show _ = _
        refine badIdx_yes (List.all_eq_true.2 fun x hx => ?_)
        obtain ⟨t, ht, rfl⟩ := List.getElem_of_mem hx
        have := HN.out
        exact HNE.out t (by omega) ht
      have HB := Lib.hid hb
      clear hb
      go_wp2
      go_ret
      rw [HF.out]
      exact ⟨rfl, HB.out⟩

set_option maxHeartbeats 2000000 in
set_option maxRecDepth 100000 in
theorem containsS (a : Option Addr) (n c G : Nat) (l : List ByteArray) (w : World) (hn : n = l.length) (hm : n ≤ 1000000) (hl : ∀ x ∈ l, x.size ≤ maxLen) (h : StrsIn w a l) (hc : w.cell? ⟨G, 0, none⟩ = some (.func (.func 83) #[] #[])) :
    Calls Try.prog 113 #[.slice a n c, .func (.func 114) #[] #[.pointer (some ⟨G, 0, none⟩)]] w (TelPost (.bool (!l.all vldS)) w) := by
  have cI := idxS a n c G l w hn hm hl h hc
  have hy := badIdx_yes (ok := vldS) (l := l)
  have hno := badIdx_no (ok := vldS) (l := l)
  clear hn h hl hc
  cases ha : l.all vldS with
  | true =>
    rw [hy ha] at cI
    clear hy hno ha
    go_enter Try.func113, Try.ntmps113
    go_wp2_with (go_at_call 119; (with_reducible refine cI.mono ?_))
    rintro e W ⟨rfl, b⟩
    have HB := Lib.hid b
    clear b cI
    go_wp2
    go_ret
    exact ⟨rfl, HB.out⟩
  | false =>
    obtain ⟨k, hk⟩ := hno ha
    rw [hk] at cI
    have hk0 : (0 : Int) ≤ (k : Int) := by omega
    clear hy hno ha hk
    go_enter Try.func113, Try.ntmps113
    go_wp2_with (go_at_call 119; (with_reducible refine cI.mono ?_))
    rintro e W ⟨rfl, b⟩
    have HB := Lib.hid b
    clear b cI
    go_wp2
    go_ret
    exact ⟨rfl, HB.out⟩

set_option maxHeartbeats 2000000 in
set_option maxRecDepth 100000 in
theorem allS (a : Option Addr) (n c : Nat) (l : List ByteArray) (w : World) (hn : n = l.length) (hm : n ≤ 1000000) (hl : ∀ x ∈ l, x.size ≤ maxLen) (h : StrsIn w a l) :
    Calls Try.prog 104 #[.slice a n c, .func (.func 83) #[] #[]] w (TelPost (.bool (l.all vldS)) w) := by
  have bA := (Below.refl w.heap.size w).alloc (Nat.le_refl _) (.cells #[.func (.func 83) #[] #[]] 84)
  have cC := containsS a n c w.heap.size l _ hn hm hl (h.later bA) (one_cell w _ _)
  have HBA := Lib.hid bA
  clear hn h hl bA
  go_enter Try.func104, Try.ntmps104
  go_wp2_with (go_at_call 113; (with_reducible refine cC.mono ?_))
  rintro e W ⟨rfl, b⟩
  have HB := Lib.hid (HBA.out.trans (b.mono (by simp)))
  clear b cC
  go_wp2
  go_ret
  exact ⟨rfl, HB.out⟩

set_option maxHeartbeats 4000000 in
set_option maxRecDepth 100000 in
theorem isPut_any (p : Pt) (b : Option Addr) (n c : Nat) (w : World) (hf : PtFit p) (hl : p.d.length = n) (hn : n ≤ 1000000) (h : StrsIn w b p.d) :
    Calls Try.prog 75 #[.agg #[.string p.s, .int .i64 p.e, .slice b n c]] w (TelPost (.bool (putOk p)) w) := by
  have bA := (Below.refl w.heap.size w).alloc (Nat.le_refl _) (.cells #[.string p.s, .int .i64 p.e, .slice b n c] 71)
  have gA := heap_alloc_new w (.cells #[.string p.s, .int .i64 p.e, .slice b n c] 71)
  have cN := name_t p.s (w.alloc (.cells #[.string p.s, .int .i64 p.e, .slice b n c] 71)) hf.s
  have H := Lib.hid (show putOk p = (nmS p.s && exOk p.e && !p.d.isEmpty && p.d.all vldS) from rfl)
  have hE := @exOk_iff p.e
  have HE := Lib.hid hE
  have cA : Hid (∀ V, Below w.heap.size w V → Calls Try.prog 104 #[.slice b n c, .func (.func 83) #[] #[]] V (TelPost (.bool (p.d.all vldS)) V)) := fun V hV => allS b n c p.d V hl.symm hn hf.d (h.later hV)
  obtain ⟨s, e, d⟩ := p
  simp only at *
  have HD := Lib.hid hl.symm
  have HBA := Lib.hid bA
  have HGA := Lib.hid gA
  obtain ⟨x, hx⟩ : ∃ x, x = d.all vldS := ⟨_, rfl⟩
  rw [← hx] at cA H
  clear hf hl bA gA hE h hx
  cases hN : nmS s with
  | false =>
    rw [hN] at cN
    have HV : Hid (putOk ⟨s, e, d⟩ = false) := by show _ = _; rw [H.out, hN]; rfl
    clear hN
    go_enter Try.func75, Try.ntmps75
    go_wp2_with (go_at_call 81; (with_reducible refine cN.mono ?_))
    rintro e1 W ⟨rfl, b1⟩
    have HB := Lib.hid (HBA.out.trans (b1.mono (by simp)))
    clear b1 cN
    go_wp2
    go_ret
    rw [HV.out]
    exact ⟨rfl, HB.out⟩
  | true =>
    rw [hN] at cN
    have HV : Hid (putOk ⟨s, e, d⟩ = (exOk e && !d.isEmpty && x)) := by show _ = _; rw [H.out, hN]; simp
    clear hN
    go_enter Try.func75, Try.ntmps75
    go_wp2_with (go_at_call 81; (with_reducible refine cN.mono ?_))
    rintro e1 W ⟨rfl, b1⟩
    have HB := Lib.hid (HBA.out.trans (b1.mono (by simp)))
    have g1 := box_below HGA.out b1 (by simp)
    obtain ⟨x0, x1, x2, _⟩ := box_cells g1
    clear b1 cN g1
    have HW := Lib.hid HB.out.size
    by_cases h1 : -1 ≤ e
    · by_cases h2 : e ≤ 1099511627776
      · by_cases h3 : 0 < (n : Int)
        · have cA2 := cA.out W HB.out
          have HV2 : Hid (putOk ⟨s, e, d⟩ = x) := by
            show _ = _
            rw [HV.out, HE.out.2 ⟨h1, h2⟩]
            have : d.isEmpty = false := by rw [List.isEmpty_eq_false_iff]; intro h0; have := HD.out; rw [h0] at this; simp at this; omega
            rw [this]; rfl
          clear cA HV
          go_wp2_with (go_at_call 104; (with_reducible refine cA2.mono ?_))
          rintro e1 W3 ⟨rfl, b3⟩
          have HB3 := Lib.hid (HB.out.trans (b3.mono HB.out.size))
          clear b3 cA2
          go_wp2
          go_ret
          rw [HV2.out]
          exact ⟨rfl, HB3.out⟩
        · have h3' : ¬ (0 < n) := by omega
          have HV2 : Hid (putOk ⟨s, e, d⟩ = false) := by
            show _ = _
            rw [HV.out]
            have : d.isEmpty = true := by rw [List.isEmpty_iff]; exact List.length_eq_zero_iff.1 (by have := HD.out; omega)
            rw [this]; simp
          clear cA HV
          go_wp2
          go_ret
          rw [HV2.out]
          exact ⟨rfl, HB.out⟩
      · have HV2 : Hid (putOk ⟨s, e, d⟩ = false) := by
          show _ = _
          rw [HV.out, show exOk e = false from by cases hq : exOk e with | false => rfl | true => exact absurd (HE.out.1 hq).2 h2]
          rfl
        clear cA HV
        go_wp2
        go_ret
        rw [HV2.out]
        exact ⟨rfl, HB.out⟩
    · have HV2 : Hid (putOk ⟨s, e, d⟩ = false) := by
        show _ = _
        rw [HV.out, show exOk e = false from by cases hq : exOk e with | false => rfl | true => exact absurd (HE.out.1 hq).1 h1]
        rfl
      clear cA HV
      go_wp2
      go_ret
      rw [HV2.out]
      exact ⟨rfl, HB.out⟩

end Go.Proofs.Ytggognmbjgkdfaa
