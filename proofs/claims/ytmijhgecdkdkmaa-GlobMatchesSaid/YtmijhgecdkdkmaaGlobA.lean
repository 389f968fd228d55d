/-
  What glob's small functions answer: isBare, spanAt.
-/
import Derived.Test.YtmijhgecdkdkmaaForms
import Derived.Deep.QuietTactic
import Derived.BigQuiet
import Derived.WalkLawsBesides
set_option linter.unusedVariables false
namespace Go.Proofs.Ytmijhgecdkdkmaa
open Go.RowKit

/-- A sign: a rune, and whether it stands bare. -/
abbrev Sg := Nat × Bool

/-- A row of signs, as it is read. -/
def SgAt (w : World) (v : Value) (S : List Sg) : Prop :=
  ∃ a cap, v = .slice a S.length cap ∧ (S ≠ [] → ∃ g o, a = some ⟨g, o, none⟩ ∧ ∀ i (h : i < S.length), w.cell? ⟨g, o + i * 2, none⟩ = some (.int .i32 S[i].1) ∧ w.cell? ⟨g, o + i * 2 + 1, none⟩ = some (.bool S[i].2))

theorem SgAt.below {w w' : World} {v : Value} {S : List Sg} (h : SgAt w v S) (hb : Below w.heap.size w w') : SgAt w' v S := by
  obtain ⟨a, cap, hv, hc⟩ := h
  refine ⟨a, cap, hv, fun hne => ?_⟩
  obtain ⟨g, o, ha, hd⟩ := hc hne
  refine ⟨g, o, ha, fun i hi => ?_⟩
  obtain ⟨h1, h2⟩ := hd i hi
  have hl := World.block_lt_of_cell? _ _ h1
  exact ⟨(hb.cell (p := ⟨g, o + i * 2, none⟩) hl).trans h1, (hb.cell (p := ⟨g, o + i * 2 + 1, none⟩) hl).trans h2⟩

/-- Does the rune r stand bare at that place? -/
def bareAt (S : List Sg) (k r : Nat) : Bool := match S[k]? with | some s => s.1 == r && s.2 | none => false

theorem bareAt_lt {S : List Sg} {k r : Nat} (h : k < S.length) : bareAt S k r = (S[k].1 == r && S[k].2) := by
  unfold bareAt; rw [List.getElem?_eq_getElem h]
theorem bareAt_ge {S : List Sg} {k r : Nat} (h : S.length ≤ k) : bareAt S k r = false := by
  unfold bareAt; rw [List.getElem?_eq_none h]

set_option maxHeartbeats 1000000 in
set_option maxRecDepth 100000 in
theorem isBare_any (v : Value) (S : List Sg) (k r : Nat) (w : World) (h : SgAt w v S) (hk : k ≤ 1000000) (hS : S.length ≤ 1000000) (hr : r ≤ 1114111) :
    Calls Try.prog 53 #[v, .int .i64 k, .int .i32 r] w fun e w' => e = .returned (.bool (bareAt S k r)) ∧ w = w' := by
  obtain ⟨a, cap, rfl, hc⟩ := h
  by_cases hlt : k < S.length
  · obtain ⟨g, o, rfl, hd⟩ := hc (by intro e; rw [e] at hlt; simp at hlt)
    obtain ⟨h1, h2⟩ := hd k hlt
    clear hc hd
    have HB : Hid (bareAt S k r = (S[k].1 == r && S[k].2)) := bareAt_lt hlt
    obtain ⟨x, hx⟩ : ∃ x, x = S[k].1 := ⟨_, rfl⟩
    obtain ⟨b, hb⟩ : ∃ b, b = S[k].2 := ⟨_, rfl⟩
    rw [← hx, ← hb] at HB
    rw [← hx] at h1
    rw [← hb] at h2
    clear hx hb
    have h0 : (0 : Int) ≤ (k : Int) := by omega
    have hl : (k : Int) < (S.length : Int) := by omega
    by_cases hxr : x = r
    · subst hxr
      have HB : Hid (bareAt S k x = b) := by rw [HB.out]; show _ = _; simp
      cases b
      · go_enter Try.func53, Try.ntmps53
        go_wp2
        go_ret
        exact ⟨by rw [HB.out]; rfl, rfl⟩
      · go_enter Try.func53, Try.ntmps53
        go_wp2
        go_ret
        exact ⟨by rw [HB.out]; rfl, rfl⟩
    · have HB : Hid (bareAt S k r = false) := by rw [HB.out]; show _ = _; simp [hxr]
      have hne : ¬ (x : Int) = (r : Int) := by omega
      go_enter Try.func53, Try.ntmps53
      go_wp2
      go_ret
      exact ⟨by rw [HB.out]; rfl, rfl⟩
  · have HB : Hid (bareAt S k r = false) := bareAt_ge (by omega)
    have hl : ¬ (k : Int) < (S.length : Int) := by omega
    clear hc
    go_enter Try.func53, Try.ntmps53
    go_wp2
    go_ret
    exact ⟨by rw [HB.out]; rfl, rfl⟩

/-- The same, its place any number that is k; in any world behind w. -/
theorem isBare_b {v : Value} {S : List Sg} {w wx : World} (h : SgAt w v S) (hb : Below w.heap.size w wx) (hS : S.length ≤ 1000) (i ri : Int) (k r : Nat) (hi : i = (k : Int)) (hri : ri = (r : Int)) (hk : k ≤ 2000) (hr : r ≤ 1114111) :
    Calls Try.prog 53 #[v, .int .i64 i, .int .i32 ri] wx fun e w' => e = .returned (.bool (bareAt S k r)) ∧ wx = w' := by
  subst hi hri; exact isBare_any v S k r wx (h.below hb) (by omega) (by omega) hr

/-- What stands at a place of a set, and how many signs it is. -/
def spanF (S : List Sg) (k : Nat) : (Nat × Nat) × Nat :=
  let x := (S.getD k (0, false)).1
  if k + 2 < S.length ∧ bareAt S (k + 1) 45 = true ∧ bareAt S (k + 2) 93 = false then ((x, (S.getD (k + 2) (0, false)).1), 3) else ((x, x), 1)

theorem spanF_w (S : List Sg) (k : Nat) : (spanF S k).2 = 1 ∨ ((spanF S k).2 = 3 ∧ k + 2 < S.length) := by
  unfold spanF; simp only; split
  · rename_i h; right; exact ⟨rfl, h.1⟩
  · left; rfl

def spanVal (x : (Nat × Nat) × Nat) : Ending := .returned (.tuple #[.agg #[.int .i32 x.1.1, .int .i32 x.1.2], .int .i64 x.2])

set_option maxHeartbeats 4000000 in
set_option maxRecDepth 100000 in
theorem spanAt_any (v : Value) (S : List Sg) (k : Nat) (w : World) (h : SgAt w v S) (hk : k < S.length) (hS : S.length ≤ 1000) :
    Calls Try.prog 57 #[v, .int .i64 k] w fun e w' => e = spanVal (spanF S k) ∧ Below w.heap.size w w' := by
  have hbr := fun (wx : World) (hb : Below w.heap.size w wx) => isBare_b h hb hS
  have hbA := (Below.refl w.heap.size w).alloc (Nat.le_refl _)
  obtain ⟨a, cap, rfl, hc⟩ := h
  obtain ⟨g, o, rfl, hd⟩ := hc (by intro e; rw [e] at hk; simp at hk)
  have h1 := (hd k hk).1
  have hg1 := World.block_lt_of_cell? _ _ h1
  have h0 : (0 : Int) ≤ (k : Int) := by omega
  have hl : (k : Int) < (S.length : Int) := by omega
  have hx : S.getD k (0, false) = S[k] := by simp [List.getD_eq_getElem?_getD, hk]
  obtain ⟨x, hxd⟩ : ∃ x, x = S[k].1 := ⟨_, rfl⟩
  rw [← hxd] at h1
  by_cases h2 : k + 2 < S.length
  · have h3 := (hd (k + 2) h2).1
    have hy : S.getD (k + 2) (0, false) = S[k + 2] := by simp [List.getD_eq_getElem?_getD, h2]
    obtain ⟨y, hyd⟩ : ∃ y, y = S[k + 2].1 := ⟨_, rfl⟩
    rw [← hyd] at h3
    have h2i : (k : Int) + 2 < (S.length : Int) := by omega
    cases b1 : bareAt S (k + 1) 45 with
    | false =>
      have HS : Hid (spanF S k = ((x, x), 1)) := by show _ = _; unfold spanF; simp only [b1, hx, hxd]; simp
      clear hc hd hx hxd hy hyd
      go_enter Try.func57, Try.ntmps57
      go_wp2_with (first | (go_at_call 53; (with_reducible refine (hbr _ (hbA _) _ _ (k + 1) 45 (by omega) (by omega) (by omega) (by omega)).mono ?_); rintro e w' ⟨rfl, rfl⟩))
      refine bodyPost_ret (v := .tuple #[.agg #[.int .i32 x, .int .i32 x], .int .i64 1]) (by simp [results, Try.results57, go_sem]) rfl ⟨?_, hbA _⟩
      rw [HS.out]
      rfl
    | true =>
      cases b2 : bareAt S (k + 2) 93 with
      | true =>
        have HS : Hid (spanF S k = ((x, x), 1)) := by show _ = _; unfold spanF; simp only [b2, hx, hxd]; simp
        clear hc hd hx hxd hy hyd
        go_enter Try.func57, Try.ntmps57
        go_wp2_with (first | (go_at_call 53; (with_reducible refine (hbr _ (hbA _) _ _ (k + 2) 93 (by omega) (by omega) (by omega) (by omega)).mono ?_); rintro e w' ⟨rfl, rfl⟩) | (go_at_call 53; (with_reducible refine (hbr _ (hbA _) _ _ (k + 1) 45 (by omega) (by omega) (by omega) (by omega)).mono ?_); rintro e w' ⟨rfl, rfl⟩))
        refine bodyPost_ret (v := .tuple #[.agg #[.int .i32 x, .int .i32 x], .int .i64 1]) (by simp [results, Try.results57, go_sem]) rfl ⟨?_, hbA _⟩
        rw [HS.out]
        rfl
      | false =>
        have HS : Hid (spanF S k = ((x, y), 3)) := by show _ = _; unfold spanF; simp only [b1, b2, hx, hxd, hy, hyd]; simp [h2]
        clear hc hd hx hxd hy hyd
        go_enter Try.func57, Try.ntmps57
        go_wp2_with (first | (go_at_call 53; (with_reducible refine (hbr _ (hbA _) _ _ (k + 2) 93 (by omega) (by omega) (by omega) (by omega)).mono ?_); rintro e w' ⟨rfl, rfl⟩) | (go_at_call 53; (with_reducible refine (hbr _ (hbA _) _ _ (k + 1) 45 (by omega) (by omega) (by omega) (by omega)).mono ?_); rintro e w' ⟨rfl, rfl⟩))
        refine bodyPost_ret (v := .tuple #[.agg #[.int .i32 x, .int .i32 y], .int .i64 3]) (by simp [results, Try.results57, go_sem]) rfl ⟨?_, hbA _⟩
        rw [HS.out]
        rfl
  · have HS : Hid (spanF S k = ((x, x), 1)) := by show _ = _; unfold spanF; simp only [hx, hxd]; simp [h2]
    have h2i : ¬ (k : Int) + 2 < (S.length : Int) := by omega
    clear hc hd hx hxd
    go_enter Try.func57, Try.ntmps57
    go_wp2_with (first | fail)
    refine bodyPost_ret (v := .tuple #[.agg #[.int .i32 x, .int .i32 x], .int .i64 1]) (by simp [results, Try.results57, go_sem]) rfl ⟨?_, hbA _⟩
    rw [HS.out]
    rfl

end Go.Proofs.Ytmijhgecdkdkmaa
