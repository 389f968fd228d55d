/-
  FrameLimit, FrameFlips: the walks.
-/
import Derived.Test.YtkoboogbdpagpaaFrL1
import Derived.Deep.OwnRows
import Derived.StillTailTactics
set_option linter.unusedVariables false
namespace Go.Proofs.Ytkoboogbdpagpaa
open Go.RowKit

/-- The two posts, the length by a name of its own. -/
def Own2N (B n : Nat) (l : List UInt8) (b : Bool) (w : World) (e : Ending) (w' : World) : Prop :=
  ∃ a cap, e = .returned (.tuple #[.slice a n cap, .bool b]) ∧ w'.ownsRow B 5 1 (.slice a n cap) n (Lib.byteCells l) ∧ Below B w w'
def Own3N (B n : Nat) (l : List UInt8) (m k : Nat) (w : World) (e : Ending) (w' : World) : Prop :=
  ∃ a cap, e = .returned (.tuple #[.slice a n cap, .int .i64 m, .int .i64 k]) ∧ w'.ownsRow B 5 1 (.slice a n cap) n (Lib.byteCells l) ∧ Below B w w'
theorem own2N {f : FuncId} {args : Array Value} {B n : Nat} {l : List UInt8} {b : Bool} {w : World} (h : Calls Try.prog f args w (Own2Post B l b w)) (hl : l.length = n) : Calls Try.prog f args w (Own2N B n l b w) := by
  subst hl; exact h
theorem own3N {f : FuncId} {args : Array Value} {B n m k : Nat} {l : List UInt8} {x : List UInt8 × Nat × Nat} {w : World} (h : Calls Try.prog f args w (Own3Post B x w)) (hx : x = (l, m, k)) (hl : l.length = n) : Calls Try.prog f args w (Own3N B n l m k w) := by
  subst hx hl; exact h

theorem zeros_bts (w : World) (n : Nat) : Bts (w.alloc (.cells (madeCells #[.int .u8 0] n) 5)) (some ⟨w.heap.size, 0, none⟩) (List.replicate n (0 : UInt8)) := by
  right
  refine ⟨_, rfl, fun j hj => new_cells8 w _ 5 w.heap.size rfl j _ ?_⟩
  have hj' : j < n := by simpa using hj
  have e : j % 1 = 0 := Nat.mod_one j
  simp [madeCells, hj', e]

set_option maxHeartbeats 2000000 in
set_option maxRecDepth 100000 in
theorem FrameLimit_walk (a0 : Int) (w0 : (Lit.int .i64 a0).wf = true) (w : World) :
    Calls Try.prog 7 #[.int .i64 a0] w fun e w' => e = .returned (.bool true) ∧ Below w.heap.size w w' := by
  have B0 := Below.refl w.heap.size w
  clear w0
  by_cases hneg : a0 < 0
  · go_enter Try.func7, Try.ntmps7
    go_wp2_with (first | (go_at_call 9; refine (awake_b w _ (by assumption)).mono ?_; rintro e W1 ⟨rfl, b1⟩))
    all_goals (go_ret; exact ⟨rfl, by assumption⟩)
  by_cases hbig : 131082 < a0
  · go_enter Try.func7, Try.ntmps7
    go_wp2_with (first | (go_at_call 9; refine (awake_b w _ (by assumption)).mono ?_; rintro e W1 ⟨rfl, b1⟩))
    all_goals (go_ret; exact ⟨rfl, by assumption⟩)
  obtain ⟨n, rfl⟩ := Int.eq_ofNat_of_zero_le (show 0 ≤ a0 by omega)
  have hn : n ≤ 131082 := by omega
  have hmk := run_make_row' (P := Try.prog) 22 5 (.int .u8 0) 1 Try.underlying22 infoByte8 rfl .i64 .i64 n (by omega) (by omega)
  have hz := zeros_bts w n
  have hb1 : Below w.heap.size w (w.alloc (.cells (madeCells #[.int .u8 0] n) 5)) := (Below.refl _ w).alloc (Nat.le_refl _) _
  by_cases hlim : 131072 < n
  · have hli : (131072 : Int) < (n : Int) := by omega
    go_enter Try.func7, Try.ntmps7
    go_wp2_with (go_at_call 10; (with_reducible refine (Put_no _ n n _ hlim).mono ?_))
    rintro e W1 ⟨p1, k1, rfl, o1, b1⟩
    have hbW : Below w.heap.size w W1 := hb1.trans (b1.mono (by first | omega | exact hb1.size))
    clear o1 hmk hz b1
    go_wp2_with (first | (go_at_call 9; refine (awake_b w _ (by assumption)).mono ?_; rintro e W4 ⟨rfl, b4⟩))
    all_goals (go_ret; exact ⟨rfl, by assumption⟩)
  · have hli : ¬ (131072 : Int) < (n : Int) := by omega
    have hL : (frm (List.replicate n (0 : UInt8))).length = n + 8 := by rw [frm_len, List.length_replicate]
    have hX := frm_next (List.replicate n (0 : UInt8)) [] (by rw [List.length_replicate]; omega)
    rw [List.append_nil, List.length_replicate] at hX
    have HX := Lib.hid hX
    have HL := Lib.hid hL
    have HR := Lib.hid (show (List.replicate n (0 : UInt8)).length = n by simp)
    have c1 := Put_yes _ n n _ _ (by simp) (by omega) (Nat.le_refl _) hz (fun h => by cases h)
    have c1 := own2N c1 hL
    clear hL hX
    go_enter Try.func7, Try.ntmps7
    go_wp2_with (go_at_call 10; (with_reducible refine c1.mono ?_))
    rintro e W1 ⟨p1, k1, rfl, o1, b1⟩
    have hbW : Below w.heap.size w W1 := hb1.trans (b1.mono (by first | omega | exact hb1.size))
    have q1 := Bts.own o1
    have r1 := own_room o1
    have z1 := own_none o1
    have c2 := Next_any p1 (n + 8) k1 _ W1 HL.out (by omega) r1 q1 z1
    have c2 := own3N c2 HX.out HR.out
    clear o1 hmk hz b1 c1 hb1 q1 r1 z1
    go_wp2_with (go_at_call 15; (with_reducible refine c2.mono ?_))
    rintro e W2 ⟨p2, k2, rfl, o2, b2⟩
    have hbW2 : Below w.heap.size w W2 := hbW.trans (b2.mono hbW.size)
    clear o2 c2 b2
    go_wp2_with (first | (go_at_call 9; refine (awake_b w _ (by assumption)).mono ?_; rintro e W4 ⟨rfl, b4⟩))
    all_goals (go_ret; exact ⟨rfl, by assumption⟩)

/-- A number from 0 to ahead of n. -/
def rndI (k : Int) (n : Nat) : Int := if k.tmod n < 0 then k.tmod n + n else k.tmod n
theorem rndI_range (k : Int) (n : Nat) (hn : 0 < n) : 0 ≤ rndI k n ∧ rndI k n < n := by
  have h1 := Int.tmod_lt_of_pos k (by omega : (0 : Int) < (n : Int))
  have h2 : -(n : Int) < k.tmod n := by
    have := Int.tmod_lt_of_pos (-k) (by omega : (0 : Int) < (n : Int))
    rw [Int.neg_tmod] at this
    omega
  unfold rndI
  split <;> omega

set_option maxHeartbeats 1000000 in
set_option maxRecDepth 100000 in
theorem Round_eq (k : Int) (n : Nat) (w : World) (hn : 0 < n) (hn2 : n ≤ 1000000) (hk0 : -9223372036854775808 ≤ k) (hk1 : k ≤ 9223372036854775807) :
    Calls Try.prog 21 #[.int .i64 k, .int .i64 n] w fun e w' => e = .returned (.int .i64 (rndI k n)) ∧ w' = w := by
  have h1 := Int.tmod_lt_of_pos k (by omega : (0 : Int) < (n : Int))
  have h2 : -(n : Int) < k.tmod n := by
    have := Int.tmod_lt_of_pos (-k) (by omega : (0 : Int) < (n : Int))
    rw [Int.neg_tmod] at this
    omega
  have H := Lib.hid (show rndI k n = if k.tmod n < 0 then k.tmod n + n else k.tmod n from rfl)
  by_cases hs : k.tmod n < 0
  · go_enter Try.func21, Try.ntmps21
    go_wp2
    go_ret
    exact ⟨retI (by rw [H.out, if_pos (by omega)]), rfl⟩
  · go_enter Try.func21, Try.ntmps21
    go_wp2
    go_ret
    exact ⟨retI (by rw [H.out, if_neg (by omega)]), rfl⟩

theorem flip_byte (b : UInt8) (r : Nat) (hr : r < 255) : ∃ c : UInt8, bits .xor .u8 (b.toNat : Int) (IntKind.u8.wrap ((r : Int) + 1)) = (c.toNat : Int) ∧ c ≠ b := by
  have hb := UInt8.toNat_lt b
  have e1 : IntKind.u8.wrap ((r : Int) + 1) = ((r + 1 : Nat) : Int) := by rw [IntWalk.u8_in _ (by omega)]; omega
  have hlt : b.toNat ^^^ (r + 1) < 256 := Nat.xor_lt_two_pow (n := 8) (by omega) (by omega)
  refine ⟨UInt8.ofNat (b.toNat ^^^ (r + 1)), ?_, ?_⟩
  · rw [e1, u8_xor_nat b.toNat (r + 1) (by omega) (by omega), UInt8.toNat_ofNat', Nat.mod_eq_of_lt hlt]
  · intro e
    have h := congrArg UInt8.toNat e
    rw [UInt8.toNat_ofNat', Nat.mod_eq_of_lt hlt] at h
    have : b.toNat ^^^ (r + 1) = b.toNat ^^^ 0 := by rw [h, Nat.xor_zero]
    have := xor_left this
    omega

theorem byteCells_set (l : List UInt8) (j : Nat) (b : UInt8) : (Lib.byteCells l).set j (.int .u8 b.toNat) = Lib.byteCells (l.set j b) := by
  simp only [Lib.byteCells, List.map_set]

set_option maxHeartbeats 4000000 in
set_option maxRecDepth 100000 in
theorem FrameFlips_walk (a0 : Option Addr) (len0 cap0 : Nat) (z0 : List Int) (a1 : Int) (a2 : Int) (w : World) (w0 : RowIn .u8 w a0 len0 cap0 z0) (w1 : (Lit.int .i64 a1).wf = true) (w2 : (Lit.int .i64 a2).wf = true) :
    Calls Try.prog 6 #[.slice a0 len0 cap0, .int .i64 a1, .int .i64 a2] w fun e w' => e = .returned (.bool true) ∧ Below w.heap.size w w' := by
  obtain ⟨l, hl, hB, hcap, hmax, hnil⟩ := w0.bts
  have hc1 : -9223372036854775808 ≤ a1 ∧ a1 ≤ 9223372036854775807 := by
    simp [Lit.wf, IntKind.min, IntKind.max, IntKind.signed, IntKind.bits] at w1; omega
  have hc2 : -9223372036854775808 ≤ a2 ∧ a2 ≤ 9223372036854775807 := by
    simp [Lit.wf, IntKind.min, IntKind.max, IntKind.signed, IntKind.bits] at w2; omega
  have B0 := Below.refl w.heap.size w
  clear w0 w1 w2
  by_cases hbig : 3000 < len0
  · go_enter Try.func6, Try.ntmps6
    go_wp2_with (first | (go_at_call 9; refine (awake_b w _ (by assumption)).mono ?_; rintro e W1 ⟨rfl, b1⟩))
    all_goals (go_ret; exact ⟨rfl, by assumption⟩)
  by_cases hz : len0 = 0
  · subst hz
    go_enter Try.func6, Try.ntmps6
    go_wp2_with (first | (go_at_call 9; refine (awake_b w _ (by assumption)).mono ?_; rintro e W1 ⟨rfl, b1⟩))
    all_goals (go_ret; exact ⟨rfl, by assumption⟩)
  have hzi : ((len0 : Int) == 0) = false := by simpa using hz
  have c1 := Put_yes a0 len0 cap0 l w hl (by omega) hcap hB hnil
  have hF : (frm l).length = len0 + 8 := by rw [frm_len, hl]
  have c1 := own2N c1 hF
  have cR1 : ∀ wx, Calls Try.prog 21 #[.int .i64 a1, .int .i64 len0] wx fun e w' => e = .returned (.int .i64 (rndI a1 len0)) ∧ wx = w' := fun wx => (Round_eq a1 len0 wx (by omega) (by omega) hc1.1 hc1.2).mono fun e w' ⟨he, hw⟩ => ⟨he, hw.symm⟩
  have cR2 := fun wx => Round_eq a2 255 wx (by omega) (by omega) hc2.1 hc2.2
  have g1 := rndI_range a1 len0 (by omega)
  have g2 := rndI_range a2 255 (by omega)
  obtain ⟨r1, hr1⟩ := Int.eq_ofNat_of_zero_le g1.1
  obtain ⟨r2, hr2⟩ := Int.eq_ofNat_of_zero_le g2.1
  rw [hr1] at cR1 g1
  rw [hr2] at cR2 g2
  have hr1' : r1 < len0 := by omega
  have hr2' : r2 < 255 := by omega
  have HL := Lib.hid hl
  have HF := Lib.hid hF
  clear hr1 hr2 g1 g2 hc1 hc2 hmax hl hF
  go_enter Try.func6, Try.ntmps6
  go_wp2_with (go_at_call 10; (with_reducible refine c1.mono ?_))
  rintro e W1 ⟨p1, k1, rfl, o1, b1⟩
  obtain ⟨g, rfl, hk1, _⟩ := own_some o1 (by omega)
  have hj : 4 + r1 < (frm l).length := by rw [HF.out]; omega
  have x0 := o1.cellAt (4 + r1) (by omega)
  rw [byteCells_at _ _ hj] at x0
  have y0 := o1.frozenAt (4 + r1)
  obtain ⟨b, hb⟩ : ∃ b, b = (frm l)[4 + r1] := ⟨_, rfl⟩
  rw [← hb] at x0
  have hcell : l[r1]'(by rw [HL.out]; exact hr1') = b := by
    rw [hb]
    unfold frm
    simp [List.getElem_append, le4_len, HL.out, hr1', show ¬ (4 + r1 < 4) by omega]
  have HC := Lib.hid hcell
  clear hb hcell c1
  go_wp2_with (first | (go_at_call 21; (with_reducible refine (cR1 _).mono ?_); rintro e W2 ⟨rfl, rfl⟩))
  have cS : Calls Try.prog 21 #[.int .i64 a2, .int .i64 255] W1.drew fun e w'' => e = .returned (.int .i64 r2) ∧ w'' = W1.drew := cR2 _
  have s0 : (0 : Int) ≤ 4 + (r1 : Int) := by omega
  have s1 : 4 + (r1 : Int) < (len0 : Int) + 8 := by omega
  have s2 : (4 + (r1 : Int)).toNat = 4 + r1 := by omega
  obtain ⟨c, hx, hcb⟩ := flip_byte b r2 hr2'
  have st := (o1.stored (4 + r1) (.int .u8 c.toNat)).1
  rw [byteCells_set] at st
  have hbw2 : Below w.heap.size w (W1.setCell ⟨g, 4 + r1, none⟩ (.int .u8 c.toNat)).drew := (b1.setCell (p := ⟨g, 4 + r1, none⟩) (o1.lt g rfl).1 _).drew
  have HN := Lib.hid (frm_flip l (by rw [HL.out]; omega) r1 (by rw [HL.out]; exact hr1') c (by rw [HC.out]; exact hcb))
  have x0' : W1.drew.cell? ⟨g, 4 + r1, none⟩ = some (.int .u8 b.toNat) := x0
  have y0' : W1.drew.frozen? ⟨g, 4 + r1, none⟩ = false := y0
  have s3 : IntKind.i64.wrap ((r2 : Int) + 1) = (r2 : Int) + 1 := IntWalk.i64_in _ (by omega)
  go_wp2_with fail
  refine wp_region_still_tail 12 (by kernel_rfl) (by kernel_rfl) ?_
  simp only [List.take_succ_cons, List.take_zero, List.drop_succ_cons, List.drop_zero]
  repeat still_step
  still_call cS
  repeat still_step
  refine wpStill_nil ?_
  change wpList _ _ _ _ _ W1.drew
  have o3 := ownL st (Below.refl _ _).drew
  have q3 := Bts.own o3
  have r3 := own_room o3
  have c3 := own3N (Next_any (some ⟨g, 0, none⟩) (len0 + 8) k1 ((frm l).set (4 + r1) c) _ (by rw [List.length_set]; exact HF.out) (by omega) r3 q3 (fun h => by cases h)) HN.out rfl
  clear st o3 q3 r3 o1 b1
  go_wp2_with (go_at_call 15; (with_reducible refine c3.mono ?_))
  rintro e W3 ⟨p3, k3, rfl, o3, b3⟩
  have hb3 : Below w.heap.size w W3 := hbw2.trans (b3.mono hbw2.size)
  clear o3 b3 c3
  go_wp2_with (first | (go_at_call 9; refine (awake_b w _ (by assumption)).mono ?_; rintro e W4 ⟨rfl, b4⟩))
  all_goals (go_ret; exact ⟨rfl, by assumption⟩)

end Go.Proofs.Ytkoboogbdpagpaa
