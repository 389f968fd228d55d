/-
  BitsBack: what was laid is read as it was; cut short it is none. The walk of the law's text.
-/
import Derived.Test.YtojdphnggjgikaaBitG
set_option linter.unusedVariables false
namespace Go.Proofs.Ytojdphnggjgikaa
open Go.RowKit

theorem u8_small (y : Nat) (h : y < 256) : (y.toUInt8).toNat = y := Lib.toUInt8_toNat h

theorem unvF_uv (y : Nat) : ∀ (k acc : Nat) (r : List UInt8), k ≤ 9 → y * 2 ^ (7 * k) < 2 ^ 64 → (0 < k → 0 < y) → unvF k acc (Lib.uvarint y ++ r) = (acc + y * 2 ^ (7 * k), k + (Lib.uvarint y).length) := by
  induction y using Nat.strongRecOn with
  | _ y ih =>
    intro k acc r hk hy h0
    have h9 : k = 9 → y ≤ 1 := by
      rintro rfl
      have e : 2 ^ (7 * 9) = 9223372036854775808 := by decide
      rw [e] at hy
      omega
    by_cases hs : y < 128
    · rw [Lib.uvarint_small hs]
      have hb : (y.toUInt8).toNat = y := u8_small y (by omega)
      simp only [List.singleton_append, unvF_cons, hb]
      rw [if_neg (by omega), if_neg (by omega), if_neg (by omega)]
      rfl
    · have hb : ((y % 128 + 128).toUInt8).toNat = y % 128 + 128 := u8_small _ (by omega)
      have hk8 : k ≤ 8 := by omega
      have e : 2 ^ (7 * (k + 1)) = 128 * 2 ^ (7 * k) := by rw [show 7 * (k + 1) = 7 * k + 7 by omega, Nat.pow_add]; omega
      have hd : y = 128 * (y / 128) + y % 128 := (Nat.div_add_mod y 128).symm
      have hm : y / 128 * (128 * 2 ^ (7 * k)) + y % 128 * 2 ^ (7 * k) = y * 2 ^ (7 * k) := by
        conv => rhs; rw [hd]
        rw [Nat.add_mul, ← Nat.mul_assoc, Nat.mul_comm (y / 128) 128]
      rw [Lib.uvarint_big (by omega)]
      simp only [List.cons_append, unvF_cons, hb]
      rw [if_neg (by omega), if_pos (by omega), ih (y / 128) (by omega) (k + 1) _ r (by omega) (by rw [e]; omega) (by omega), e]
      rw [show (y % 128 + 128) % 128 = y % 128 by omega]
      simp only [List.length_cons]
      congr 1 <;> omega

theorem unvF_cut (y : Nat) : ∀ (k acc r : Nat), k ≤ 9 → y * 2 ^ (7 * k) < 2 ^ 64 → r < (Lib.uvarint y).length → unvF k acc ((Lib.uvarint y).take r) = (0, 0) := by
  induction y using Nat.strongRecOn with
  | _ y ih =>
    intro k acc r hk hy hr
    cases r with
    | zero => rfl
    | succ r =>
      have h9 : k = 9 → y ≤ 1 := by
        rintro rfl
        have e : 2 ^ (7 * 9) = 9223372036854775808 := by decide
        rw [e] at hy
        omega
      by_cases hs : y < 128
      · rw [Lib.uvarint_small hs] at hr
        simp at hr
      · have hb : ((y % 128 + 128).toUInt8).toNat = y % 128 + 128 := u8_small _ (by omega)
        have e : 2 ^ (7 * (k + 1)) = 128 * 2 ^ (7 * k) := by rw [show 7 * (k + 1) = 7 * k + 7 by omega, Nat.pow_add]; omega
        have hd : y = 128 * (y / 128) + y % 128 := (Nat.div_add_mod y 128).symm
        have hm : y / 128 * (128 * 2 ^ (7 * k)) + y % 128 * 2 ^ (7 * k) = y * 2 ^ (7 * k) := by
          conv => rhs; rw [hd]
          rw [Nat.add_mul, ← Nat.mul_assoc, Nat.mul_comm (y / 128) 128]
        rw [Lib.uvarint_big (by omega)] at hr ⊢
        simp only [List.length_cons] at hr
        simp only [List.take_succ_cons, unvF_cons, hb]
        rw [if_neg (by omega), if_pos (by omega)]
        exact ih (y / 128) (by omega) (k + 1) _ r (by omega) (by rw [e]; omega) (by omega)

theorem unv_uv (y : Nat) (hy : y < 18446744073709551616) (r : List UInt8) : unv (Lib.uvarint y ++ r) = (y, (Lib.uvarint y).length) := by
  have := unvF_uv y 0 0 r (by omega) (by simpa using hy) (by omega)
  simpa [unv] using this
theorem unv_cut (y : Nat) (hy : y < 18446744073709551616) (r : Nat) (hr : r < (Lib.uvarint y).length) : unv ((Lib.uvarint y).take r) = (0, 0) :=
  unvF_cut y 0 0 r (by omega) (by simpa using hy) hr

/-- A text laid, and whatever stands behind. -/
theorem takeL_txt (s : ByteArray) (hs : s.size < 18446744073709551616) (r : List UInt8) : takeL (txt [] s ++ r) = (s, (txt [] s).length) := by
  have hu : unv (txt [] s ++ r) = (s.size, (Lib.uvarint s.size).length) := by
    have := unv_uv s.size hs (s.data.toList ++ r)
    simpa [txt] using this
  have hp := Lib.uvarint_pos s.size
  have hL : (txt [] s).length = (Lib.uvarint s.size).length + s.size := by rw [txt_len]; simp
  have e : ((txt [] s ++ r).drop (Lib.uvarint s.size).length).take s.size = s.data.toList := by
    have : txt [] s ++ r = Lib.uvarint s.size ++ (s.data.toList ++ r) := by simp [txt]
    rw [this, List.drop_left, List.take_left' (by simp)]
  rw [takeL_yes, hu, hL]
  · simp only [Prod.mk.injEq]
    refine ⟨?_, trivial⟩
    rw [e]
  · rw [hu]
    simp only [List.length_append, hL]
    omega
/-- Cut short it is none. -/
theorem takeL_cut (s : ByteArray) (hs : s.size < 18446744073709551616) (r : Nat) (hr : r < (txt [] s).length) : takeL ((txt [] s).take r) = (⟨#[]⟩, 0) := by
  have hL : (txt [] s).length = (Lib.uvarint s.size).length + s.size := by rw [txt_len]; simp
  have e0 : txt [] s = Lib.uvarint s.size ++ s.data.toList := by simp [txt]
  apply takeL_no
  by_cases h : r < (Lib.uvarint s.size).length
  · left
    rw [e0, List.take_append_of_le_length (by omega), unv_cut s.size hs r h]
  · right
    have e1 : (txt [] s).take r = Lib.uvarint s.size ++ s.data.toList.take (r - (Lib.uvarint s.size).length) := by
      rw [e0, List.take_append, List.take_of_length_le (by omega)]
    have hp := Lib.uvarint_pos s.size
    rw [e1, unv_uv s.size hs]
    simp only [List.length_append, List.length_take]
    have : s.data.toList.length = s.size := by simp
    omega

theorem txt_of (l : List UInt8) (s : ByteArray) : txt l s = l ++ txt [] s := by simp [txt]

def RoundPost (n : Nat) (w : World) (e : Ending) (w' : World) : Prop := ∃ r : Nat, e = .returned (.int .i64 r) ∧ r < n ∧ w = w'

set_option maxHeartbeats 1000000 in
set_option maxRecDepth 100000 in
theorem Round_any (k : Int) (n : Nat) (w : World) (hn : 0 < n) (hn2 : n ≤ 1000000) (hk0 : -9223372036854775808 ≤ k) (hk1 : k ≤ 9223372036854775807) :
    Calls Try.prog 25 #[.int .i64 k, .int .i64 n] w (RoundPost n w) := by
  have h1 := Int.tmod_lt_of_pos k (by omega : (0 : Int) < (n : Int))
  have h2 : -(n : Int) < k.tmod n := by
    have := Int.tmod_lt_of_pos (-k) (by omega : (0 : Int) < (n : Int))
    rw [Int.neg_tmod] at this
    omega
  by_cases hs : k.tmod n < 0
  · go_enter Try.func25, Try.ntmps25
    go_wp2
    go_ret
    exact ⟨(k.tmod n + n).toNat, ret_i64 (by omega), by omega, rfl⟩
  · go_enter Try.func25, Try.ntmps25
    go_wp2
    go_ret
    exact ⟨(k.tmod n).toNat, ret_i64 (by omega), by omega, rfl⟩

set_option maxHeartbeats 4000000 in
set_option maxRecDepth 100000 in
theorem BitsBack_walk (a0 : Int) (a1 : ByteArray) (a2 : Option Addr) (len2 cap2 : Nat) (z2 : List Int) (a3 : Int) (w : World) (w0 : (Lit.int .u64 a0).wf = true) (w1 : a1.size ≤ maxLen) (w2 : RowIn .u8 w a2 len2 cap2 z2) (w3 : (Lit.int .i64 a3).wf = true) :
    Calls Try.prog 6 #[.int .u64 a0, .string a1, .slice a2 len2 cap2, .int .i64 a3] w fun e w' => e = .returned (.bool true) ∧ Below w.heap.size w w' := by
  obtain ⟨i0, hi, hz0, hz1, hz2⟩ := info_parts infoByte8
  obtain ⟨l, hl, hB, hcap, hmax, hnil⟩ := w2.bts
  obtain ⟨v, rfl, hv⟩ := u64_of a0 w0
  have hcut : -9223372036854775808 ≤ a3 ∧ a3 ≤ 9223372036854775807 := by
    simp [Lit.wf, IntKind.min, IntKind.max, IntKind.signed, IntKind.bits] at w3; omega
  have B0 := Below.refl w.heap.size w
  clear w0 w1 w2 w3
  by_cases hbig : 1000 < a1.size
  · go_enter Try.func6, Try.ntmps6
    go_wp2_with (first | (go_at_call 9; refine (awake_b w _ (by assumption)).mono ?_; rintro e W1 ⟨rfl, b1⟩))
    all_goals (go_ret; exact ⟨rfl, by assumption⟩)
  by_cases hbig2 : 1000 < len2
  · go_enter Try.func6, Try.ntmps6
    go_wp2_with (first | (go_at_call 9; refine (awake_b w _ (by assumption)).mono ?_; rintro e W1 ⟨rfl, b1⟩))
    all_goals (go_ret; exact ⟨rfl, by assumption⟩)
  have hlen := Lib.uvarint_length64 (x := v) (by omega)
  have hpos := Lib.uvarint_pos v
  have hlens := Lib.uvarint_length64 (x := a1.size) (by omega)
  have hposs := Lib.uvarint_pos a1.size
  have hTL : (txt [] a1).length = (Lib.uvarint a1.size).length + a1.size := by rw [txt_len]; simp
  have hLB := txt_of (Lib.uvarint v) a1
  have hU := unv_uv v (by omega) (txt [] a1 ++ l)
  have hK := takeL_txt a1 (by omega) l
  have hC := takeL_cut a1 (by omega)
  have cV := fun wx => Varint_any v (by omega) wx
  have cT := fun wx a cap (hx : Bts wx a (Lib.uvarint v)) (hA : a = none → cap = 0) => Text_any a (Lib.uvarint v).length cap (Lib.uvarint v) a1 wx rfl (by omega) (by omega) hx hA
  obtain ⟨U, hUd⟩ : ∃ U, U = Lib.uvarint v := ⟨_, rfl⟩
  obtain ⟨S, hSd⟩ : ∃ S, S = txt [] a1 := ⟨_, rfl⟩
  obtain ⟨L, hLd⟩ : ∃ L, L = txt U a1 := ⟨_, rfl⟩
  rw [← hUd] at hLB hU cV cT hlen hpos
  rw [← hLd] at hLB cT
  rw [← hSd] at hLB hU hK hC hTL
  obtain ⟨nU, hnU⟩ : ∃ n, n = U.length := ⟨_, rfl⟩
  obtain ⟨nS, hnS⟩ : ∃ n, n = S.length := ⟨_, rfl⟩
  obtain ⟨nL, hnL⟩ : ∃ n, n = L.length := ⟨_, rfl⟩
  have hnL2 : nL = nU + nS := by rw [hnL, hLB, List.length_append, hnU, hnS]
  rw [← hnU] at cV cT hU hlen hpos
  rw [← hnL] at cT
  rw [← hnS] at hK hC hTL
  have hnS1 : 0 < nS := by omega
  have hnS2 : nS ≤ 2000 := by omega
  have hdrop : L.drop nU = S := by rw [hLB, hnU, List.drop_left]
  have hLl : L ++ l = U ++ (S ++ l) := by rw [hLB, List.append_assoc]
  have cU : ∀ wx a cap, Bts wx a (L ++ l) → Calls Try.prog 10 #[.slice a (nL + len2) cap] wx fun e w' => e = .returned (.tuple #[.int .u64 v, .int .i64 nU]) ∧ wx = w' := fun wx a cap hx => by
    have h := Unvarint_any a (nL + len2) cap (L ++ l) wx (by rw [List.length_append, hnL, hl]) (by unfold maxLen; omega) hx
    rw [hLl, hU] at h
    exact h
  have cK : ∀ wx a m cap, m = nS + len2 → m ≤ cap → Bts wx a (S ++ l) → Calls Try.prog 19 #[.slice a m cap] wx fun e w' => e = .returned (.tuple #[.string a1, .int .i64 nS]) ∧ wx = w' := fun wx a m cap hm hc hx => by
    subst hm
    have h := Take_any a (nS + len2) cap (S ++ l) wx (by rw [List.length_append, hnS, hl]) (by omega) hc hx
    rw [hK] at h
    exact h
  have cC : ∀ wx a cap r, r < nS → r ≤ cap → Bts wx a (S.take r) → Calls Try.prog 19 #[.slice a r cap] wx fun e w' => e = .returned (.tuple #[.string ⟨#[]⟩, .int .i64 0]) ∧ wx = w' := fun wx a cap r hr hc hx => by
    have h := Take_any a r cap (S.take r) wx (by rw [List.length_take]; omega) (by omega) hc hx
    rw [hC r hr] at h
    exact h
  have hsub : (nS : Int) = (nL : Int) - (nU : Int) := by omega
  have cR : ∀ wx, Calls Try.prog 25 #[.int .i64 a3, .int .i64 ((nL : Int) - (nU : Int))] wx (RoundPost nS wx) := fun wx => by
    rw [← hsub]
    exact Round_any a3 nS wx hnS1 (by omega) hcut.1 hcut.2
  have hsub2 : ((nS : Int) == (nL : Int) - (nU : Int)) = true := by rw [hsub]; simp
  clear hsub hcut
  have HL := Lib.hid hnL2
  have HD := Lib.hid hdrop
  have HX := Lib.hid hnL
  have HS := Lib.hid hnS
  have HM := Lib.hid hl
  have hnL3 : nL ≤ 3000 := by omega
  have hnL4 : nU < nL := by omega
  clear hUd hSd hLd hLB hU hK hC hTL hnU hnS hnL hdrop hLl hmax hlens hposs hl hnL2
  go_enter Try.func6, Try.ntmps6
  go_wp2_with (go_at_call 13; (with_reducible refine (cV _).mono ?_))
  rintro e W1 ⟨p1, k1, rfl, o1, b1⟩
  obtain ⟨g1, rfl, _, _⟩ := own_some o1 (by omega)
  have q1 := Bts.own o1
  clear o1 cV
  go_wp2_with (go_at_call 21; (with_reducible refine (cT _ _ _ q1 (fun h => by cases h)).mono ?_))
  rintro e W2 ⟨p2, k2, rfl, o2, b2⟩
  obtain ⟨g2, rfl, hk2, hk2m⟩ := own_some o2 (by omega)
  have q2 := Bts.own o2
  have hb2 : Below w.heap.size w W2 := b1.trans (b2.mono b1.size)
  have hBl2 := hB.later hb2
  clear o2 cT q1 b1 b2
  -- the first row
  have oA : (W2.alloc (.cells #[] 5)).ownsRow W2.heap.size 5 1 (.slice (some ⟨W2.heap.size, 0, none⟩) 0 0) 0 [] := World.ownsRow_lit W2 #[] 0 (Nat.le_refl _) (Nat.zero_le _) rfl
  have bA : Below W2.heap.size W2 (W2.alloc (.cells #[] 5)) := (Below.refl _ W2).alloc (Nat.le_refl _) _
  have qA := q2.later bA
  go_wp2_with (at_builtin; refine wpList_append_bts _ rfl _ _ 22 rfl W2.heap.size 5 i0 Try.underlying22 hi hz0 hz1 hz2 _ _ _ rfl oA _ _ _ L rfl HX.out.symm qA (fun h => by cases h) (by omega) bA.size ?_)
  intro v3 W3 o3 hg3
  obtain ⟨p3, k3, rfl⟩ := own_slice o3
  have b3 := below_grown bA (Nat.le_refl _) oA hg3
  have qB := hBl2.later b3
  clear oA bA qA hg3
  go_wp2_with (at_builtin; refine wpList_append_bts _ rfl _ _ 22 rfl W2.heap.size 5 i0 Try.underlying22 hi hz0 hz1 hz2 _ _ _ rfl o3 _ _ _ l rfl HM.out qB hnil (by omega) b3.size ?_)
  intro v4 W4 o4 hg4
  obtain ⟨p4, k4, rfl⟩ := own_slice o4
  have b4 := below_grown b3 (Nat.le_refl _) o3 hg4
  rw [byteCells_app] at o4
  have q4 := Bts.own o4
  have hb4 : Below w.heap.size w W4 := hb2.trans (b4.mono hb2.size)
  have qL4 := q2.later b4
  have hBl4 := hB.later hb4
  clear o3 qB hg4 o4 b3 b4 hb2 q2 hBl2
  go_wp2_with (go_at_call 10; (with_reducible refine (cU _ _ _ q4).mono ?_))
  first | rintro e W5 ⟨rfl, rfl⟩ | rintro e W5 rfl rfl
  clear q4 cU
  have hne : ¬ k2 = nU := by omega
  have oA : (W4.alloc (.cells #[] 5)).ownsRow W4.heap.size 5 1 (.slice (some ⟨W4.heap.size, 0, none⟩) 0 0) 0 [] := World.ownsRow_lit W4 #[] 0 (Nat.le_refl _) (Nat.zero_le _) rfl
  have bA : Below W4.heap.size W4 (W4.alloc (.cells #[] 5)) := (Below.refl _ W4).alloc (Nat.le_refl _) _
  have qS4 : Bts W4 (some ⟨g2, nU, none⟩) S := by
    have h := qL4.drop nU
    rw [Addr.add_lit, Nat.zero_add, HD.out] at h
    exact h
  have qA := qS4.later bA
  go_wp2_with (at_builtin; refine wpList_append_bts _ rfl _ _ 22 rfl W4.heap.size 5 i0 Try.underlying22 hi hz0 hz1 hz2 _ _ _ rfl oA _ _ _ S rfl ?d1 qA (fun h => by cases h) ?d2 bA.size ?_)
  case d1 => have h1 := HS.out; have h2 := HL.out; omega
  case d2 => omega
  intro v5 W5 o5 hg5
  obtain ⟨p5, k5, rfl⟩ := own_slice o5
  have b5 := below_grown bA (Nat.le_refl _) oA hg5
  have qB := hBl4.later b5
  clear oA bA qA hg5
  go_wp2_with (at_builtin; refine wpList_append_bts _ rfl _ _ 22 rfl W4.heap.size 5 i0 Try.underlying22 hi hz0 hz1 hz2 _ _ _ rfl o5 _ _ _ l rfl HM.out qB hnil ?d3 b5.size ?_)
  case d3 => omega
  intro v6 W6 o6 hg6
  obtain ⟨p6, k6, rfl⟩ := own_slice o6
  have b6 := below_grown b5 (Nat.le_refl _) o5 hg6
  rw [byteCells_app] at o6
  have q6 := Bts.own o6
  obtain ⟨g6, rfl, hk6, _⟩ := own_some o6 (by omega)
  have hb6 : Below w.heap.size w W6 := hb4.trans (b6.mono hb4.size)
  have qS6 := qS4.later b6
  clear o5 qB hg6 o6 b5 b6 hb4 qS4 hBl4
  go_wp2_with (go_at_call 19; (with_reducible refine (cK _ _ _ _ ?d5 hk6 q6).mono ?_))
  case d5 => have h2 := HL.out; omega
  first | rintro e W7 ⟨rfl, rfl⟩ | rintro e W7 rfl rfl
  clear q6 cK
  go_wp2_with (go_at_call 25; (with_reducible refine (cR _).mono ?_))
  rintro e W8 ⟨r, rfl, hr, rfl⟩
  have qR := qS6.take r
  have hrk : r ≤ k2 - nU := by have h2 := HL.out; omega
  have hrn : nU + r ≤ nL := by have h2 := HL.out; omega
  clear cR
  go_wp2_with (first | (go_at_call 19; (with_reducible refine (cC _ _ _ r hr hrk qR).mono ?_); rintro e W9 ⟨rfl, rfl⟩) | (go_at_call 9; refine (awake_b w _ (by assumption)).mono ?_; rintro e W4 ⟨rfl, b4⟩))
  all_goals (go_ret; exact ⟨rfl, by assumption⟩)

end Go.Proofs.Ytojdphnggjgikaa
