/-
  StampCodes.
-/
import Derived.Test.YtijnmhiiojkcgaaDoorStN
import Derived.Test.YtijnmhiiojkcgaaDoorStQ
import Derived.Test.YtijnmhiiojkcgaaDoorStU
set_option linter.unusedVariables false
namespace Go.Proofs.YtijnmhiiojkcgaaDoor
open Go.RowKit

def DPost (X : Sm) (k er : Int) (w : World) (e : Ending) (w' : World) : Prop :=
  e = .returned (.tuple #[.agg #[.int .i64 X.w, .int .i64 X.l, .int .i64 X.n], .int .i64 k, .int .i64 er]) ∧ Below w.heap.size w w'
theorem decode_pp (a : Option Addr) (n c : Nat) (l : List UInt8) (X : Sm) (k er : Int) (hX : X = ((decL l).getD (⟨0, 0, 0⟩, 0)).1) (hk : k = (((decL l).getD (⟨0, 0, 0⟩, 0)).2 : Nat)) (he : er = if (decL l).isSome then 0 else 10) (w : World) (hl : l.length = n) (hn : n ≤ 1000000) (hnc : n ≤ c) (h : Bts w a l) :
    Calls Tryd.prog 23 #[.slice a n c] w (DPost X k er w) := by
  subst hX hk he
  exact decode_any a n c l w hl hn hnc h
theorem rDecode_pp (a : Option Addr) (n c : Nat) (l : List UInt8) (X : Sm) (k er : Int) (hX : X = ((decL l).getD (⟨0, 0, 0⟩, 0)).1) (hk : k = (((decL l).getD (⟨0, 0, 0⟩, 0)).2 : Nat)) (he : er = if (decL l).isSome then 0 else 10) (w : World) (hl : l.length = n) (hn : n ≤ 1000000) (hnc : n ≤ c) (h : Bts w a l) :
    Calls Tryd.prog 24 #[.slice a n c] w (DPost X k er w) := by
  subst hX hk he
  exact rDecode_any a n c l w hl hn hnc h
theorem codeL_len (a : Sm) : (codeL a).length ≤ 30 := by
  unfold codeL
  split
  · rename_i hs
    have hs := of_decide_eq_true hs
    exact codeP_len _ _ _ _ (by omega) (by omega) (by omega)
  · simp
set_option maxHeartbeats 8000000 in
set_option maxRecDepth 100000 in
theorem StampCodes_body (a0 : Sm) (a : Option Addr) (n c : Nat) (z : List Int) (w : World) (h0 : SmI a0) (h1 : RowIn .u8 w a n c z) (ht : Tab w) :
    Calls Tryd.prog 5 #[.agg #[.int .i64 a0.w, .int .i64 a0.l, .int .i64 a0.n], .slice a n c] w (TelPost (.bool true) w) := by
  obtain ⟨l, hl, hbt, hnc, _, _⟩ := h1.bts
  have HT := Lib.hid ht
  have bA := (Below.refl w.heap.size w).alloc (Nat.le_refl _) (.cells #[.int .i64 a0.w, .int .i64 a0.l, .int .i64 a0.n] 23)
  have HA := Lib.hid (Box3.new w a0.w a0.l a0.n 23)
  have HBA := Lib.hid bA
  by_cases hbig : (300 : Int) < n
  · have cA := awake_any _ (HT.out.later bA)
    clear bA ht h1
    go_enter Tryd.func5, Tryd.ntmps5
    go_wp2_with (go_at_call 10; (with_reducible refine cA.mono ?_))
    rintro e W1 ⟨rfl, b1⟩
    have HB := Lib.hid (HBA.out.trans (b1.mono (by simp)))
    clear b1
    go_wp2
    go_ret
    exact ⟨rfl, HB.out⟩
  · obtain ⟨X, hX⟩ : ∃ X, X = ((decL l).getD (⟨0, 0, 0⟩, 0)).1 := ⟨_, rfl⟩
    obtain ⟨k, hk⟩ : ∃ k : Int, k = (((decL l).getD (⟨0, 0, 0⟩, 0)).2 : Nat) := ⟨_, rfl⟩
    obtain ⟨er, he⟩ : ∃ er : Int, er = if (decL l).isSome then 0 else 10 := ⟨_, rfl⟩
    have c1 := decode_pp a n c l X k er hX hk he _ hl (by omega) hnc (hbt.later bA)
    have c2 := fun wx (hx : Below w.heap.size w wx) => rDecode_pp a n c l X k er hX hk he wx hl (by omega) hnc (hbt.later hx)
    have C2 := Lib.hid c2
    obtain ⟨m, hm⟩ : ∃ m, m = (codeL a0).length := ⟨_, rfl⟩
    have HM : Hid ((codeL a0).length = m) := hm.symm
    have hm30 : m ≤ 1000000 := by rw [hm]; have := codeL_len a0; omega
    have c3 := fun wx => encode_any a0 wx
    have c4 := fun wx => rEncode_any a0 wx
    simp only [← hm] at c3 c4
    have C3 := Lib.hid c3
    have C4 := Lib.hid c4
    have C5 := Lib.hid fun wx (hx : Below w.heap.size w wx) => awake_any wx (HT.out.later hx)
    clear hX hk he bA ht c2 c3 c4 hm h1 hbt hl
    go_enter Tryd.func5, Tryd.ntmps5
    go_wp2_with (go_at_call 23; (with_reducible refine c1.mono ?_))
    rintro e W1 ⟨rfl, b1⟩
    have b1' := b1.alloc b1.size (.cells #[.int .i64 X.w, .int .i64 X.l, .int .i64 X.n] 23)
    have hX1 := Box3.new W1 X.w X.l X.n 23
    have HA1 := Lib.hid (HA.out.later b1')
    have HX1 := Lib.hid hX1
    have HB1 := Lib.hid (HBA.out.trans (b1'.mono (by simp)))
    have d2 := C2.out _ HB1.out
    clear c1 b1 b1' hX1
    go_wp2_with (go_at_call 24; (with_reducible refine d2.mono ?_))
    rintro e W2 ⟨rfl, b2⟩
    have b2' := b2.alloc b2.size (.cells #[.int .i64 X.w, .int .i64 X.l, .int .i64 X.n] 23)
    have HY := Lib.hid (Box3.new W2 X.w X.l X.n 23)
    have HA2 := Lib.hid (HA1.out.later b2')
    have HX2 := Lib.hid (HX1.out.later b2')
    have HB2 := Lib.hid (HB1.out.trans (b2'.mono (HB1.out.size)))
    clear b2 b2' d2
    go_wp2_with fail
    go_region_held3 (fun w' => Below w.heap.size w w' ∧ (w'.cell? ⟨w.heap.size, 0, none⟩ = some (.int .i64 a0.w) ∧ w'.cell? ⟨w.heap.size, 1, none⟩ = some (.int .i64 a0.l) ∧ w'.cell? ⟨w.heap.size, 2, none⟩ = some (.int .i64 a0.n)) ∧ (w'.cell? ⟨W1.heap.size, 0, none⟩ = some (.int .i64 X.w) ∧ w'.cell? ⟨W1.heap.size, 1, none⟩ = some (.int .i64 X.l) ∧ w'.cell? ⟨W1.heap.size, 2, none⟩ = some (.int .i64 X.n)) ∧ (w'.cell? ⟨W2.heap.size, 0, none⟩ = some (.int .i64 X.w) ∧ w'.cell? ⟨W2.heap.size, 1, none⟩ = some (.int .i64 X.l) ∧ w'.cell? ⟨W2.heap.size, 2, none⟩ = some (.int .i64 X.n)))
      (first | exact ⟨HB2.out.drew, HA2.out.later (Below.refl _ _).drew, HX2.out.later (Below.refl _ _).drew, HY.out.later (Below.refl _ _).drew⟩ | exact hs6 | exact hs5 | exact hs4 | exact hs3 | exact keep3 (by assumption) (Below.refl _ _).drew | go_keep)
      (first
        | (go_at_call 26; (with_reducible refine (C3.out _).mono ?_); rintro e W3 ⟨ea, ec, rfl, eo, b3⟩; have hs3 := keep3 (by assumption) b3)
        | (go_at_call 27; (with_reducible refine (C4.out _).mono ?_); rintro e W4 ⟨ra, rc, rfl, ro, b4⟩; have hs4 := keep3 (by assumption) b4)
        | (go_at_call 25; (with_reducible refine (Bytes_same ea ra m m ec rc (codeL a0) W4 HM.out HM.out hm30 (Bts.own (ownsLater eo b4)) (Bts.own ro)).mono ?_); rintro e W5 ⟨rfl, b5⟩; have hs5 := keep3 (by assumption) b5)
        | (go_at_call 10; (with_reducible refine (C5.out _ (And.left (by assumption))).mono ?_); rintro e W6 ⟨rfl, b6⟩; have hs6 := keep3 (by assumption) b6)
        | fail)
    all_goals (
      have HZ := Lib.hid hs6.1
      go_wp2
      go_ret
      exact ⟨rfl, HZ.out⟩)

end Go.Proofs.YtijnmhiiojkcgaaDoor
