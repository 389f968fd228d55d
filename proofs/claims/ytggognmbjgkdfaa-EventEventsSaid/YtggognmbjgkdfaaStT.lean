/-
  The reference's Eye: a number, a stamp, read of bytes.
-/
import Derived.Test.YtggognmbjgkdfaaStS
import Derived.Deep.RegionHeld3
set_option linter.unusedVariables false
namespace Go.Proofs.Ytggognmbjgkdfaa
open Go.RowKit

/-- A number of at most so much: it, where it stands then, whether it is none. -/
def numF (l : List UInt8) (I : Nat) (bad : Bool) (most : Nat) : Nat × Nat × Bool :=
  if bad = true then (0, I, true)
  else if (unv (l.drop I)).2 = 0 ∨ most < (unv (l.drop I)).1 then (0, I, true)
  else ((unv (l.drop I)).1, I + (unv (l.drop I)).2, false)
theorem numF_le (l : List UInt8) (I : Nat) (bad : Bool) (most : Nat) (h : I ≤ l.length) : (numF l I bad most).2.1 ≤ l.length := by
  unfold numF
  have hb := (unv_bounds (l.drop I)).2
  rw [List.length_drop] at hb
  split
  · exact h
  · split
    · exact h
    · simp only
      omega
def EyeAt (w : World) (g : Nat) (a : Option Addr) (n c I : Nat) (bad : Bool) : Prop :=
  w.heap[g]? = some (.cells #[.slice a n c, .int .i64 I, .bool bad] 83 (0, 0))
def NumPost (g : Nat) (a : Option Addr) (n c : Nat) (q : Nat × Nat × Bool) (w : World) (e : Ending) (w' : World) : Prop :=
  e = .returned (.int .i64 q.1) ∧ EyeAt w' g a n c q.2.1 q.2.2 ∧ Kept (fun k => k = g) w w'

set_option maxHeartbeats 16000000 in
set_option maxRecDepth 100000 in
theorem num_eye (g : Nat) (a : Option Addr) (n c I : Nat) (bad : Bool) (l : List UInt8) (most : Nat) (w : World) (hl : l.length = n) (hn : n ≤ 1000000) (hnc : n ≤ c) (hI : I ≤ n) (hm : most ≤ 1125899906842624) (h : EyeAt w g a n c I bad) (hbt : Bts w a l) :
    Calls Try.prog 72 #[.pointer (some ⟨g, 0, none⟩), .int .i64 most] w (NumPost g a n c (numF l I bad most) w) := by
  unfold EyeAt at h
  have HL := Lib.hid hl
  have HBT := Lib.hid hbt
  have ew : IntKind.u64.wrap (most : Int) = (most : Int) := IntWalk.u64_in _ (by omega)
  obtain ⟨x0, x1, x2, k0, k1, k2⟩ := box_cells h
  clear hl hbt
  cases bad with
  | true =>
    have HQ : Hid (numF l I true most = (0, I, true)) := by show _ = _; unfold numF; rw [if_pos rfl]
    have HG := Lib.hid h
    clear h
    go_enter Try.func72, Try.ntmps72
    go_wp2
    go_ret
    exact ⟨by rw [HQ.out]; rfl, by rw [HQ.out]; exact HG.out, Kept.refl _ _⟩
  | false =>
    obtain ⟨⟨uv, us⟩, hU⟩ : ∃ U, unv (l.drop I) = U := ⟨_, rfl⟩
    have hub := unv_bounds (l.drop I)
    rw [hU, List.length_drop, HL.out] at hub
    simp only at hub
    have c1 : c = I → ∀ wx, Below w.heap.size w wx → Calls Try.prog 101 #[.slice a (n - I) 0] wx fun e w' => e = .returned (.tuple #[.int .u64 uv, .int .i64 us]) ∧ wx = w' := fun hcm wx hx => by
      have hnil : l.drop I = [] := List.drop_eq_nil_of_le (by have := HL.out; omega)
      have := rUnvarint_any a (n - I) 0 (l.drop I) wx (by rw [List.length_drop, HL.out]) (by unfold maxLen; omega) (by rw [hnil]; exact Bts.nil _ _)
      rw [hU] at this
      exact this
    have c2 : ∀ wx, Below w.heap.size w wx → Calls Try.prog 101 #[.slice (Option.map (fun x => x.add I) a) (n - I) (c - I)] wx fun e w' => e = .returned (.tuple #[.int .u64 uv, .int .i64 us]) ∧ wx = w' := fun wx hx => by
      have := rUnvarint_any (Option.map (fun x => x.add I) a) (n - I) (c - I) (l.drop I) wx (by rw [List.length_drop, HL.out]) (by unfold maxLen; omega) (bts_drop (HBT.out.later hx) I)
      rw [hU] at this
      exact this
    have C1 := Lib.hid c1
    have C2 := Lib.hid c2
    clear c1 c2
    by_cases hz : us = 0
    · subst hz
      have HQ : Hid (numF l I false most = (0, I, true)) := by show _ = _; unfold numF; rw [if_neg (by decide), hU, if_pos (.inl rfl)]
      clear hU
      by_cases hcm : c = I
      · go_enter Try.func72, Try.ntmps72
        go_wp2_with fail
        go_region_held3 (fun w' => Below w.heap.size w w' ∧ w'.cell? ⟨g, 0, none⟩ = some (.slice a n c) ∧ w'.cell? ⟨g, 1, none⟩ = some (.int .i64 I))
          (first | exact ⟨(Below.refl _ _).drew, x0, x1⟩ | go_keep)
          (first
            | (go_at_call 101; (with_reducible refine (C1.out hcm _ (And.left (by assumption))).mono ?_); rintro e W3 ⟨rfl, rfl⟩)
            | fail)
        all_goals (
          have HB := Lib.hid (show Kept (fun k => k = g) w _ from (Kept.of_below (S := fun k => k = g) (Below.refl _ w).drew).setCell (p := ⟨g, 2, none⟩) (fun _ => rfl) (.bool true))
          have HG := Lib.hid (heap_setCell_same w.drew g 2 _ _ (.bool true) h)
          clear h
          go_wp2
          go_ret
          exact ⟨by rw [HQ.out]; rfl, by rw [HQ.out]; exact HG.out, HB.out⟩)
      · go_enter Try.func72, Try.ntmps72
        go_wp2_with fail
        go_region_held3 (fun w' => Below w.heap.size w w' ∧ w'.cell? ⟨g, 0, none⟩ = some (.slice a n c) ∧ w'.cell? ⟨g, 1, none⟩ = some (.int .i64 I))
          (first | exact ⟨(Below.refl _ _).drew, x0, x1⟩ | go_keep)
          (first
            | (go_at_call 101; (with_reducible refine (C2.out _ (And.left (by assumption))).mono ?_); rintro e W3 ⟨rfl, rfl⟩)
            | fail)
        all_goals (
          have HB := Lib.hid (show Kept (fun k => k = g) w _ from (Kept.of_below (S := fun k => k = g) (Below.refl _ w).drew).setCell (p := ⟨g, 2, none⟩) (fun _ => rfl) (.bool true))
          have HG := Lib.hid (heap_setCell_same w.drew g 2 _ _ (.bool true) h)
          clear h
          go_wp2
          go_ret
          exact ⟨by rw [HQ.out]; rfl, by rw [HQ.out]; exact HG.out, HB.out⟩)
    · have e0 : ((us : Int) == 0) = false := beq_false_of_ne (by omega)
      by_cases hbig : (most : Int) < (uv : Int)
      · have HQ : Hid (numF l I false most = (0, I, true)) := by show _ = _; unfold numF; rw [if_neg (by decide), hU, if_pos (.inr (by omega))]
        have hcm : ¬ c = I := by omega
        clear hU hz
        go_enter Try.func72, Try.ntmps72
        go_wp2_with fail
        go_region_held3 (fun w' => Below w.heap.size w w' ∧ w'.cell? ⟨g, 0, none⟩ = some (.slice a n c) ∧ w'.cell? ⟨g, 1, none⟩ = some (.int .i64 I))
          (first | exact ⟨(Below.refl _ _).drew, x0, x1⟩ | go_keep)
          (first
            | (go_at_call 101; (with_reducible refine (C2.out _ (And.left (by assumption))).mono ?_); rintro e W3 ⟨rfl, rfl⟩)
            | fail)
        all_goals (
          have HB := Lib.hid (show Kept (fun k => k = g) w _ from (Kept.of_below (S := fun k => k = g) (Below.refl _ w).drew).setCell (p := ⟨g, 2, none⟩) (fun _ => rfl) (.bool true))
          have HG := Lib.hid (heap_setCell_same w.drew g 2 _ _ (.bool true) h)
          clear h
          go_wp2
          go_ret
          exact ⟨by rw [HQ.out]; rfl, by rw [HQ.out]; exact HG.out, HB.out⟩)
      · have HQ : Hid (numF l I false most = (uv, I + us, false)) := by show _ = _; unfold numF; rw [if_neg (by decide), hU, if_neg (by omega)]
        have hcm : ¬ c = I := by omega
        have ei : IntKind.i64.wrap (uv : Int) = (uv : Int) := toI_small (by omega)
        clear hU hz
        go_enter Try.func72, Try.ntmps72
        go_wp2_with fail
        go_region_held3 (fun w' => Below w.heap.size w w' ∧ w'.cell? ⟨g, 0, none⟩ = some (.slice a n c) ∧ w'.cell? ⟨g, 1, none⟩ = some (.int .i64 I))
          (first | exact ⟨(Below.refl _ _).drew, x0, x1⟩ | go_keep)
          (first
            | (go_at_call 101; (with_reducible refine (C2.out _ (And.left (by assumption))).mono ?_); rintro e W3 ⟨rfl, rfl⟩)
            | fail)
        all_goals (
          have HB := Lib.hid (show Kept (fun k => k = g) w _ from (Kept.of_below (S := fun k => k = g) (Below.refl _ w).drew).setCell (p := ⟨g, 1, none⟩) (fun _ => rfl) (.int .i64 ((I : Int) + us)))
          have HG := Lib.hid (heap_setCell_same w.drew g 1 _ _ (.int .i64 ((I : Int) + us)) h)
          clear h
          go_wp2
          go_ret
          exact ⟨by rw [HQ.out]; rfl, by rw [HQ.out]; exact HG.out, HB.out⟩)

end Go.Proofs.Ytggognmbjgkdfaa
