/-
  The reference's disk: its small functions (bad, off, New, Cut, Sync).
-/
import Derived.Test.YtbolminblofhgaaDkA
import Derived.OneCell
set_option linter.unusedVariables false
namespace Go.Proofs.Ytbolminblofhgaa
open Go.RowKit

/-- The blocks that are the disk's own. -/
def DkS (g : Nat) (v : Value) (k : Nat) : Prop := k = g ∨ v.ownBlock = some k

theorem DkAt.apart {w : World} {B g : Nat} {v : Value} {Q : List (Value × RF)} {M : RD} (h : DkAt w B g v Q M) : v.ownBlock ≠ some g := by
  obtain ⟨_, _, hg, ho, _⟩ := h
  rcases ho.2 with ⟨hv, _⟩ | ⟨g', cap, cur, hv, _, hg', _⟩
  · rw [hv]; intro e; cases e
  · rw [hv]
    intro e
    injection e with e
    have e' : g' = g := e
    subst e'
    rw [hg] at hg'
    injection hg' with hg'
    injection hg' with _ e2 _
    exact absurd e2 (by decide)
theorem DkAt.apartB {w : World} {B g : Nat} {v : Value} {Q : List (Value × RF)} {M : RD} (h : DkAt w B g v Q M) (q : Value × RF) (hq : q ∈ Q) : ∀ k, q.1.ownBlock = some k → ¬ DkS g v k := by
  obtain ⟨_, _, hg, ho, hb⟩ := h
  have hq := hb q hq
  intro k hk
  rcases hq.2 with ⟨hv, _⟩ | ⟨g', cap, cur, hv, _, hg', _⟩
  · rw [hv] at hk; cases hk
  · rw [hv] at hk
    injection hk with hk
    have e' : g' = k := hk
    subst e'
    rintro (e | e)
    · subst e
      rw [hg] at hg'
      injection hg' with hg'
      injection hg' with _ e2 _
      exact absurd e2 (by decide)
    · rcases ho.2 with ⟨hv2, _⟩ | ⟨g2, cap2, cur2, hv2, _, hg2, _⟩
      · rw [hv2] at e; cases e
      · rw [hv2] at e
        injection e with e
        have e' : g2 = g' := e
        subst e'
        rw [hg2] at hg'
        injection hg' with hg'
        injection hg' with _ e2 _
        exact absurd e2 (by decide)
theorem DkAt.frozen {w : World} {B g : Nat} {v : Value} {Q : List (Value × RF)} {M : RD} (h : DkAt w B g v Q M) (j : Nat) : w.frozen? ⟨g, j, none⟩ = false := frozen_of_row _ g j _ _ h.2.2.1
theorem DkAt.lt {w : World} {B g : Nat} {v : Value} {Q : List (Value × RF)} {M : RD} (h : DkAt w B g v Q M) : g < w.heap.size := lt_of_block h.2.2.1

/-- Another number in the struct. -/
theorem DkAt.setN {w : World} {B g : Nat} {v : Value} {Q : List (Value × RF)} {M : RD} (h : DkAt w B g v Q M) (n : Nat) : DkAt (w.setCell ⟨g, 2, none⟩ (.int .i64 n)) B g v Q { M with n := n } := by
  have ha := h.apart
  have hx := h.apartB
  obtain ⟨h1, h2, hg, ho, hb⟩ := h
  exact ⟨h1, h2, heap_setCell_same _ g 2 _ _ _ hg, ownsRow_setCell_other ho ha _, fun q hq => ownsRow_setCell_other (hb q hq) (fun e => hx q hq _ e (.inl rfl)) _⟩
theorem DkAt.setLast {w : World} {B g : Nat} {v : Value} {Q : List (Value × RF)} {M : RD} (h : DkAt w B g v Q M) (n : Int) : DkAt (w.setCell ⟨g, 3, none⟩ (.int .i64 n)) B g v Q { M with last := n } := by
  have ha := h.apart
  have hx := h.apartB
  obtain ⟨h1, h2, hg, ho, hb⟩ := h
  exact ⟨h1, h2, heap_setCell_same _ g 3 _ _ _ hg, ownsRow_setCell_other ho ha _, fun q hq => ownsRow_setCell_other (hb q hq) (fun e => hx q hq _ e (.inl rfl)) _⟩
theorem DkAt.kept {w w' : World} {B g : Nat} {v : Value} {Q : List (Value × RF)} {M : RD} {S : Nat → Prop} (h : DkAt w B g v Q M) (hk : Kept S w w') (hs : ∀ k, DkS g v k → ¬ S k) (hb : ∀ q ∈ Q, ∀ k, q.1.ownBlock = some k → ¬ S k) : DkAt w' B g v Q M :=
  ⟨h.1, h.2.1, (hk.block g h.lt (hs g (.inl rfl))).trans h.2.2.1, Kept.own h.2.2.2.1 hk (fun k e => hs k (.inr e)), fun q hq => Kept.own (h.2.2.2.2 q hq) hk (hb q hq)⟩

/-- A name that may not be. -/
def badN (nm : ByteArray) : Bool := decide (nm.size = 0 ∨ 100 < nm.size)

set_option maxHeartbeats 2000000 in
set_option maxRecDepth 100000 in
theorem rBad_any (nm : ByteArray) (w : World) :
    Calls Try.prog 49 #[.string nm] w fun e w' => e = .returned (.bool (badN nm)) ∧ ∃ q, w' = w.drewN q := by
  go_enter Try.func49, Try.ntmps49
  go_wp2
  · rename_i he
    have h0 : nm.size = 0 := by
      have := congrArg List.length he
      rw [ByteArray.toList_eq] at this
      simpa using this
    go_ret
    exact ⟨by simp [badN, h0], 0, rfl⟩
  · rename_i he
    have h0 : nm.size ≠ 0 := fun h => he (by
      rw [ByteArray.toList_eq]
      exact List.length_eq_zero_iff.1 (by simpa using h))
    have h1 : nm.toList.isEmpty = false := by simpa using he
    go_ret
    refine ⟨?_, 0, rfl⟩
    rw [h1]
    by_cases hb : 100 < nm.size
    · have : (100 : Int) < (nm.size : Int) := by omega
      simp [badN, hb, this]
    · have : ¬ (100 : Int) < (nm.size : Int) := by omega
      simp [badN, hb, this, h0]

def offM (M : RD) : Bool := decide (0 ≤ M.last ∧ M.last < (M.n : Int) + 1)

set_option maxHeartbeats 2000000 in
set_option maxRecDepth 100000 in
theorem rOff_any (w : World) (B g : Nat) (v : Value) (Q : List (Value × RF)) (M : RD) (h : DkAt w B g v Q M) (hn : M.n ≤ 1000000) :
    Calls Try.prog 48 #[.pointer (some ⟨g, 0, none⟩)] w fun e w' => e = .returned (.bool (offM M)) ∧ ∃ q, w' = (w.setCell ⟨g, 2, none⟩ (.int .i64 ((M.n : Int) + 1))).drewN q := by
  obtain ⟨c0, c1, c2, c3⟩ := h.cell
  have f2 := h.frozen 2
  obtain ⟨la, hla⟩ : ∃ x, x = M.last := ⟨_, rfl⟩
  obtain ⟨n, hnn⟩ : ∃ x, x = M.n := ⟨_, rfl⟩
  have HO : Hid (offM M = decide (0 ≤ la ∧ la < (n : Int) + 1)) := by show _ = _; rw [hla, hnn]; rfl
  rw [← hla] at c3
  rw [← hnn] at c2 hn ⊢
  clear hla hnn h c0 c1
  by_cases h1 : 0 ≤ la
  · have d1 : decide (0 ≤ la) = true := by simp [h1]
    by_cases h2 : la < (n : Int) + 1
    · have d2 : decide (la < (n : Int) + 1) = true := by simp [h2]
      go_enter Try.func48, Try.ntmps48
      go_wp2
      go_quiet (fail)
      go_wp2
      go_ret
      exact ⟨by rw [HO.out, show decide (0 ≤ la ∧ la < (n : Int) + 1) = true from decide_eq_true (by omega)]; rfl, nq, rfl⟩
    · have d2 : decide (la < (n : Int) + 1) = false := by simp [h2]
      go_enter Try.func48, Try.ntmps48
      go_wp2
      go_quiet (fail)
      go_wp2
      go_ret
      exact ⟨by rw [HO.out, show decide (0 ≤ la ∧ la < (n : Int) + 1) = false from decide_eq_false (by omega)]; rfl, nq, rfl⟩
  · have d1 : decide (0 ≤ la) = false := by simp [h1]
    go_enter Try.func48, Try.ntmps48
    go_wp2
    go_quiet (fail)
    go_wp2
    go_ret
    exact ⟨by rw [HO.out, show decide (0 ≤ la ∧ la < (n : Int) + 1) = false from decide_eq_false (by omega)]; rfl, nq, rfl⟩

/-- One op more. -/
def RD.op (M : RD) : RD := { M with n := M.n + 1 }
def OffPost (w : World) (B g : Nat) (v : Value) (Q : List (Value × RF)) (M : RD) (b : Bool) (e : Ending) (w' : World) : Prop :=
  e = .returned (.bool b) ∧ DkAt w' B g v Q M.op ∧ Kept (fun k => k = g) w w'
theorem DkAt.drewN {w : World} {B g : Nat} {v : Value} {Q : List (Value × RF)} {M : RD} (h : DkAt w B g v Q M) (q : Nat) : DkAt (w.drewN q) B g v Q M :=
  h.kept (S := fun _ => False) ((Kept.refl _ w).drewN q) (fun _ _ h => h) (fun _ _ _ _ h => h)
theorem rOff (w : World) (B g : Nat) (v : Value) (Q : List (Value × RF)) (M : RD) (h : DkAt w B g v Q M) (hn : M.n ≤ 1000000) :
    Calls Try.prog 48 #[.pointer (some ⟨g, 0, none⟩)] w (OffPost w B g v Q M (offM M)) := by
  refine (rOff_any w B g v Q M h hn).mono ?_
  rintro e w' ⟨rfl, q, rfl⟩
  exact ⟨rfl, (by have := h.setN (M.n + 1); simpa [RD.op] using this.drewN q), ((Kept.refl (fun k => k = g) w).setCell (p := ⟨g, 2, none⟩) (fun _ => rfl) _).drewN q⟩

/-- What Cut leaves. -/
def RD.cut (M : RD) (k : Int) : RD := { M with last := (M.n : Int) + min (max k 0) 1152921504606846976 }

set_option maxHeartbeats 2000000 in
set_option maxRecDepth 100000 in
theorem rCut (w : World) (B g : Nat) (v : Value) (Q : List (Value × RF)) (M : RD) (k : Int) (h : DkAt w B g v Q M) (hn : M.n ≤ 1000000) :
    Calls Try.prog 33 #[.pointer (some ⟨g, 0, none⟩), .int .i64 k] w fun e w' => e = .returned (.tuple #[]) ∧ DkAt w' B g v Q (M.cut k) ∧ Kept (fun k => k = g) w w' := by
  obtain ⟨c0, c1, c2, c3⟩ := h.cell
  have f2 := h.frozen 3
  have H := Lib.hid h
  clear h c0 c1
  go_enter Try.func33, Try.ntmps33
  go_wp2
  all_goals refine bodyPost_end (v := .tuple #[]) (by simp [results, Try.results33, go_sem]) rfl ?_
  all_goals refine ⟨rfl, ?_, (Kept.refl (fun k => k = g) w).setCell (p := ⟨g, 3, none⟩) (fun _ => rfl) _⟩
  · have := H.out.setLast (M.n : Int)
    rw [show M.cut k = { M with last := (M.n : Int) } by unfold RD.cut; congr 1; omega]
    exact this
  · have := H.out.setLast ((M.n : Int) + 1152921504606846976)
    rw [show M.cut k = { M with last := (M.n : Int) + 1152921504606846976 } by unfold RD.cut; congr 1; omega]
    exact this
  · have := H.out.setLast ((M.n : Int) + k)
    rw [show M.cut k = { M with last := (M.n : Int) + k } by unfold RD.cut; congr 1; omega]
    exact this

end Go.Proofs.Ytbolminblofhgaa
