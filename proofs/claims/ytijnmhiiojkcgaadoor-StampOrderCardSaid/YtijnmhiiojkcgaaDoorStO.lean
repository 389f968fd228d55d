/-
  StampOrder.
-/
import Derived.Test.YtijnmhiiojkcgaaDoorStN
import Derived.Test.YtijnmhiiojkcgaaDoorStF
set_option linter.unusedVariables false
namespace Go.Proofs.YtijnmhiiojkcgaaDoor
open Go.RowKit

theorem keep2 {w V W : World} {g1 g2 : Nat} {x1 y1 z1 x2 y2 z2 : Int} (h : Below w.heap.size w V ∧ Box3 V g1 x1 y1 z1 ∧ Box3 V g2 x2 y2 z2) (hb : Below V.heap.size V W) :
    Below w.heap.size w W ∧ Box3 W g1 x1 y1 z1 ∧ Box3 W g2 x2 y2 z2 :=
  ⟨h.1.trans (hb.mono h.1.size), h.2.1.later hb, h.2.2.later hb⟩

set_option maxHeartbeats 16000000 in
set_option maxRecDepth 100000 in
theorem StampOrder_body (a0 a1 : Sm) (a : Option Addr) (n c : Nat) (ss : List Sm) (w : World) (h0 : SmI a0) (h1 : SmI a1) (h2 : SmsIn w a n ss ∧ (∀ x ∈ ss, SmI x) ∧ n ≤ maxLen) (ht : Tab w) :
    Calls Tryd.prog 3 #[.agg #[.int .i64 a0.w, .int .i64 a0.l, .int .i64 a0.n], .agg #[.int .i64 a1.w, .int .i64 a1.l, .int .i64 a1.n], .slice a n c] w (TelPost (.bool true) w) := by
  obtain ⟨hin, _, hn⟩ := h2
  unfold maxLen at hn
  have HT := Lib.hid ht
  have bA := ((Below.refl w.heap.size w).alloc (Nat.le_refl _) (.cells #[.int .i64 a0.w, .int .i64 a0.l, .int .i64 a0.n] 23)).alloc (by simp) (.cells #[.int .i64 a1.w, .int .i64 a1.l, .int .i64 a1.n] 23)
  have hA0 := (Box3.new w a0.w a0.l a0.n 23).later ((Below.refl _ _).alloc (Nat.le_refl _) (.cells #[.int .i64 a1.w, .int .i64 a1.l, .int .i64 a1.n] 23))
  have hA1 := Box3.new (w.alloc (.cells #[.int .i64 a0.w, .int .i64 a0.l, .int .i64 a0.n] 23)) a1.w a1.l a1.n 23
  rw [World.size_alloc] at hA1
  have HA0 := Lib.hid hA0
  have HA1 := Lib.hid hA1
  have HB := Lib.hid bA
  have CA := Lib.hid fun wx (hx : Below w.heap.size w wx) => awake_any wx (HT.out.later hx)
  by_cases hbig : (200 : Int) < n
  · have cA := CA.out _ bA
    clear bA hA0 hA1 ht
    go_enter Tryd.func3, Tryd.ntmps3
    go_wp2_with (go_at_call 10; (with_reducible refine cA.mono ?_))
    rintro e W1 ⟨rfl, b1⟩
    have HZ := Lib.hid (HB.out.trans (b1.mono (by simp; omega)))
    clear b1
    go_wp2
    go_ret
    exact ⟨rfl, HZ.out⟩
  · have CL := Lib.hid fun wx (hx : Below w.heap.size w wx) => less_any a0 a1 wx
    have CRL := Lib.hid fun wx (hx : Below w.heap.size w wx) => rLess_any a0 a1 wx
    have CM := Lib.hid fun wx (hx : Below w.heap.size w wx) => max_any a n c ss wx (by omega) (hin.later hx)
    have CRM := Lib.hid fun wx (hx : Below w.heap.size w wx) => rMax_any a n c ss wx (by omega) (hin.later hx)
    have CN := Lib.hid fun wx (hx : Below w.heap.size w wx) => min_any a n c ss wx (by omega) (hin.later hx)
    have CRN := Lib.hid fun wx (hx : Below w.heap.size w wx) => rMin_any a n c ss wx (by omega) (hin.later hx)
    have CS := Lib.hid fun wx (hx : Below w.heap.size w wx) => sound_any a0 wx
    have CRS := Lib.hid fun wx (hx : Below w.heap.size w wx) => rSound_any a0 wx
    clear bA hA0 hA1 ht hin
    go_enter Tryd.func3, Tryd.ntmps3
    go_wp2_with fail
    go_region_held3 (fun w' => Below w.heap.size w w' ∧ (w'.cell? ⟨w.heap.size, 0, none⟩ = some (.int .i64 a0.w) ∧ w'.cell? ⟨w.heap.size, 1, none⟩ = some (.int .i64 a0.l) ∧ w'.cell? ⟨w.heap.size, 2, none⟩ = some (.int .i64 a0.n)) ∧ (w'.cell? ⟨w.heap.size + 1, 0, none⟩ = some (.int .i64 a1.w) ∧ w'.cell? ⟨w.heap.size + 1, 1, none⟩ = some (.int .i64 a1.l) ∧ w'.cell? ⟨w.heap.size + 1, 2, none⟩ = some (.int .i64 a1.n)))
      (first | exact ⟨HB.out.drew, HA0.out.later (Below.refl _ _).drew, HA1.out.later (Below.refl _ _).drew⟩ | exact hs9 | exact hs8 | exact hs7 | exact hs6 | exact hs5 | exact hs4 | exact hs3 | exact hs2 | exact hs1 | exact keep2 (by assumption) (Below.refl _ _).drew | go_keep)
      (first
        | (go_at_call 11; (with_reducible refine (CL.out _ (And.left (by assumption))).mono ?_); rintro e V1 ⟨rfl, b1⟩; have hs1 := keep2 (by assumption) b1)
        | (go_at_call 12; (with_reducible refine (CRL.out _ (And.left (by assumption))).mono ?_); rintro e V2 ⟨rfl, b2⟩; have hs2 := keep2 (by assumption) b2)
        | (go_at_call 13; (with_reducible refine (CM.out _ (And.left (by assumption))).mono ?_); rintro e V3 ⟨rfl, b3⟩; have hs3 := keep2 (by assumption) b3)
        | (go_at_call 14; (with_reducible refine (CRM.out _ (And.left (by assumption))).mono ?_); rintro e V4 ⟨rfl, b4⟩; have hs4 := keep2 (by assumption) b4)
        | (go_at_call 15; (with_reducible refine (CN.out _ (And.left (by assumption))).mono ?_); rintro e V5 ⟨rfl, b5⟩; have hs5 := keep2 (by assumption) b5)
        | (go_at_call 16; (with_reducible refine (CRN.out _ (And.left (by assumption))).mono ?_); rintro e V6 ⟨rfl, b6⟩; have hs6 := keep2 (by assumption) b6)
        | (go_at_call 17; (with_reducible refine (CS.out _ (And.left (by assumption))).mono ?_); rintro e V7 ⟨rfl, b7⟩; have hs7 := keep2 (by assumption) b7)
        | (go_at_call 18; (with_reducible refine (CRS.out _ (And.left (by assumption))).mono ?_); rintro e V8 ⟨rfl, b8⟩; have hs8 := keep2 (by assumption) b8)
        | (go_at_call 10; (with_reducible refine (CA.out _ (And.left (by assumption))).mono ?_); rintro e V9 ⟨rfl, b9⟩; have hs9 := keep2 (by assumption) b9))
    all_goals (
      have HZ := Lib.hid hs9.1
      go_wp2
      go_ret
      exact ⟨rfl, HZ.out⟩)

end Go.Proofs.YtijnmhiiojkcgaaDoor
