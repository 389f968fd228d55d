/-
  What was laid is read as it was, plainly; StampBack.
-/
import Derived.Test.YtijnmhiiojkcgaaDoorStV
set_option linter.unusedVariables false
namespace Go.Proofs.YtijnmhiiojkcgaaDoor
open Go.RowKit

theorem u8_small (y : Nat) (h : y < 256) : (y.toUInt8).toNat = y := Lib.toUInt8_toNat h

theorem unvF_uv (y : Nat) : ∀ (k acc : Nat) (r : List UInt8), k ≤ 9 → y * 2 ^ (7 * k) < 2 ^ 64 → (0 < k → 0 < y) → unvF k acc (Lib.uvarint y ++ r) = (acc + y * 2 ^ (7 * k), k + (Lib.uvarint y).length) := by
  induction y using Nat.strongRecOn with
  | _ y ih =>
    intro k acc r hk hy h0
    have h9 : k = 9 → y ≤ 1 := by
      rintro rfl
      have e : 2 ^ (7 * 9) = 9223372036854775808 := by decide
      rw [e] at hy
      omega
    by_cases hs : y < 128
    · rw [Lib.uvarint_small hs]
      have hb : (y.toUInt8).toNat = y := u8_small y (by omega)
      simp only [List.singleton_append, unvF_cons, hb]
      rw [if_neg (by omega), if_neg (by omega), if_neg (by omega)]
      rfl
    · have hb : ((y % 128 + 128).toUInt8).toNat = y % 128 + 128 := u8_small _ (by omega)
      have hk8 : k ≤ 8 := by omega
      have e : 2 ^ (7 * (k + 1)) = 128 * 2 ^ (7 * k) := by rw [show 7 * (k + 1) = 7 * k + 7 by omega, Nat.pow_add]; omega
      have hd : y = 128 * (y / 128) + y % 128 := (Nat.div_add_mod y 128).symm
      have hm : y / 128 * (128 * 2 ^ (7 * k)) + y % 128 * 2 ^ (7 * k) = y * 2 ^ (7 * k) := by
        conv => rhs; rw [hd]
        rw [Nat.add_mul, ← Nat.mul_assoc, Nat.mul_comm (y / 128) 128]
      rw [Lib.uvarint_big (by omega)]
      simp only [List.cons_append, unvF_cons, hb]
      rw [if_neg (by omega), if_pos (by omega), ih (y / 128) (by omega) (k + 1) _ r (by omega) (by rw [e]; omega) (by omega), e]
      rw [show (y % 128 + 128) % 128 = y % 128 by omega]
      simp only [List.length_cons]
      congr 1 <;> omega

theorem unv_uv (y : Nat) (hy : y < 18446744073709551616) (r : List UInt8) : unv (Lib.uvarint y ++ r) = (y, (Lib.uvarint y).length) := by
  have := unvF_uv y 0 0 r (by omega) (by simpa using hy) (by omega)
  simpa [unv] using this

theorem dec_code {a : Sm} (h : soundB a = true) (r : List UInt8) : decL (codeL a ++ r) = some (a, (codeL a).length) := by
  obtain ⟨w, l, n⟩ := a
  have hs := of_decide_eq_true h
  simp only at hs
  have hc : codeL ⟨w, l, n⟩ = (Lib.uvarint w.toNat ++ Lib.uvarint l.toNat) ++ Lib.uvarint n.toNat := by unfold codeL; rw [if_pos h]; rfl
  rw [hc]
  have e1 : unv ((Lib.uvarint w.toNat ++ Lib.uvarint l.toNat) ++ Lib.uvarint n.toNat ++ r) = (w.toNat, (Lib.uvarint w.toNat).length) := by
    rw [List.append_assoc, List.append_assoc]
    exact unv_uv _ (by omega) _
  have d1 : ((Lib.uvarint w.toNat ++ Lib.uvarint l.toNat) ++ Lib.uvarint n.toNat ++ r).drop (Lib.uvarint w.toNat).length = Lib.uvarint l.toNat ++ (Lib.uvarint n.toNat ++ r) := by
    rw [List.append_assoc, List.append_assoc, List.drop_left]
  have e2 : unv (Lib.uvarint l.toNat ++ (Lib.uvarint n.toNat ++ r)) = (l.toNat, (Lib.uvarint l.toNat).length) := unv_uv _ (by omega) _
  have d2 : ((Lib.uvarint w.toNat ++ Lib.uvarint l.toNat) ++ Lib.uvarint n.toNat ++ r).drop ((Lib.uvarint w.toNat).length + (Lib.uvarint l.toNat).length) = Lib.uvarint n.toNat ++ r := by
    rw [← List.drop_drop, d1, List.drop_left]
  have e3 : unv (Lib.uvarint n.toNat ++ r) = (n.toNat, (Lib.uvarint n.toNat).length) := unv_uv _ (by omega) _
  have p1 := Lib.uvarint_pos w.toNat
  have p2 := Lib.uvarint_pos l.toNat
  have p3 := Lib.uvarint_pos n.toNat
  unfold decL
  simp only
  rw [e1]
  simp only
  rw [if_neg (by omega), d1, e2]
  simp only
  rw [if_neg (by omega), d2, e3]
  simp only
  rw [if_neg (by omega)]
  congr 2
  · apply Sm.ext' <;> simp only <;> omega
  · simp only [List.length_append]
theorem code_nil {a : Sm} (h : soundB a = false) : codeL a = [] := by unfold codeL; rw [if_neg (by rw [h]; simp)]
theorem code_pos {a : Sm} (h : soundB a = true) : 0 < (codeL a).length := by
  unfold codeL
  rw [if_pos h]
  have := Lib.uvarint_pos a.n.toNat
  simp [codeP]
  omega

set_option maxHeartbeats 8000000 in
set_option maxRecDepth 100000 in
theorem StampBack_body (a0 : Sm) (a : Option Addr) (n c : Nat) (z : List Int) (w : World) (h0 : SmI a0) (h1 : RowIn .u8 w a n c z) (ht : Tab w) :
    Calls Tryd.prog 8 #[.agg #[.int .i64 a0.w, .int .i64 a0.l, .int .i64 a0.n], .slice a n c] w (TelPost (.bool true) w) := by
  obtain ⟨i0, hi, hz0, hz1, hz2'⟩ := info_parts infoByte8
  obtain ⟨l, hl, hbt, hnc, hcm, hnone⟩ := h1.bts
  have HT := Lib.hid ht
  have bA := (Below.refl w.heap.size w).alloc (Nat.le_refl _) (.cells #[.int .i64 a0.w, .int .i64 a0.l, .int .i64 a0.n] 23)
  have HA := Lib.hid (Box3.new w a0.w a0.l a0.n 23)
  have HBA := Lib.hid bA
  by_cases hbig : (300 : Int) < n
  · have cA := awake_any _ (HT.out.later bA)
    clear bA ht h1
    go_enter Tryd.func8, Tryd.ntmps8
    go_wp2_with (go_at_call 10; (with_reducible refine cA.mono ?_))
    rintro e W1 ⟨rfl, b1⟩
    have HB := Lib.hid (HBA.out.trans (b1.mono (by simp)))
    clear b1
    go_wp2
    go_ret
    exact ⟨rfl, HB.out⟩
  · obtain ⟨m, hm⟩ : ∃ m, m = (codeL a0).length := ⟨_, rfl⟩
    have hm30 : m ≤ 30 := by rw [hm]; exact codeL_len a0
    have HM : Hid ((codeL a0).length = m) := hm.symm
    have cE := encode_any a0 (w.alloc (.cells #[.int .i64 a0.w, .int .i64 a0.l, .int .i64 a0.n] 23))
    rw [← hm] at cE
    have HBT := Lib.hid hbt
    have HL := Lib.hid hl
    have HI := Lib.hid h0
    have CT := Lib.hid fun wx (hx : Below w.heap.size w wx) => text_any a0 h0 wx (HT.out.later hx)
    have CA := Lib.hid fun wx (hx : Below w.heap.size w wx) => awake_any wx (HT.out.later hx)
    have CS := Lib.hid fun wx => sound_any a0 wx
    have hz1' : w.heap.size ≤ (w.alloc (.cells #[.int .i64 a0.w, .int .i64 a0.l, .int .i64 a0.n] 23)).heap.size := bA.size
    have hTl : (⟨(textL a0).toArray⟩ : ByteArray).size ≤ 1000000 := by
      have t1 := Lib.itoa_length_le a0.w h0.1.1 h0.1.2
      have t2 := Lib.itoa_length_le a0.l h0.2.1.1 h0.2.1.2
      have t3 := Lib.itoa_length_le a0.n h0.2.2.1 h0.2.2.2
      simp [ByteArray.size, textL]
      omega
    obtain ⟨T, hT⟩ : ∃ T, T = (⟨(textL a0).toArray⟩ : ByteArray) := ⟨_, rfl⟩
    rw [← hT] at CT hTl
    have hTL : T.data.toList = textL a0 := by rw [hT]
    obtain ⟨X, hX⟩ : ∃ X, X = (parseL T.data.toList).getD ⟨0, 0, 0⟩ := ⟨_, rfl⟩
    obtain ⟨pb, hpb⟩ : ∃ pb, pb = (parseL T.data.toList).isSome := ⟨_, rfl⟩
    have CP := Lib.hid fun wx (hx : Below w.heap.size w wx) => parse_pp T hTl X pb hX hpb wx (HT.out.later hx)
    rw [hTL] at hX hpb
    clear bA ht h1 hbt hl h0 hm hT hTL hTl
    go_enter Tryd.func8, Tryd.ntmps8
    go_wp2_with (go_at_call 26; (with_reducible refine cE.mono ?_))
    rintro e W1 ⟨ea, ec, rfl, eo, b1⟩
    have b1 : Below (w.alloc (.cells #[.int .i64 a0.w, .int .i64 a0.l, .int .i64 a0.n] 23)).heap.size (w.alloc (.cells #[.int .i64 a0.w, .int .i64 a0.l, .int .i64 a0.n] 23)) W1 := by rw [World.size_alloc]; exact b1
    have HE := Lib.hid (Bts.own eo)
    have HN := Lib.hid (show ea = none → ec = 0 from fun h => own_none eo h)
    have HB1 := Lib.hid (HBA.out.trans (b1.mono hz1'))
    have hA1 := HA.out.later b1
    have cT1 := CT.out _ HB1.out
    obtain ⟨x0, x1, x2⟩ := hA1
    have HA1 := Lib.hid (show Box3 W1 _ _ _ _ from ⟨x0, x1, x2⟩)
    clear eo b1 cE
    go_wp2_with (go_at_call 21; (with_reducible refine cT1.mono ?_))
    rintro e W2 ⟨rfl, b2⟩
    have HB2 := Lib.hid (HB1.out.trans (b2.mono HB1.out.size))
    have HA2 := Lib.hid (HA1.out.later b2)
    have HE2 := Lib.hid (HE.out.later b2)
    have cP1 := CP.out _ HB2.out
    clear b2 cT1 x0 x1 x2
    go_wp2_with (go_at_call 19; (with_reducible refine cP1.mono ?_))
    rintro e W3 ⟨rfl, b3⟩
    have b3' := b3.alloc b3.size (.cells #[.int .i64 X.w, .int .i64 X.l, .int .i64 X.n] 23)
    have HX3 := Lib.hid (Box3.new W3 X.w X.l X.n 23)
    have HB3 := Lib.hid (HB2.out.trans (b3'.mono HB2.out.size))
    have hA3 := HA2.out.later b3'
    have HE3 := Lib.hid (HE2.out.later b3')
    obtain ⟨x0, x1, x2⟩ := hA3
    have HA3 := Lib.hid (show Box3 (W3.alloc (.cells #[.int .i64 X.w, .int .i64 X.l, .int .i64 X.n] 23)) _ _ _ _ from ⟨x0, x1, x2⟩)
    have cS1 := CS.out (W3.alloc (.cells #[.int .i64 X.w, .int .i64 X.l, .int .i64 X.n] 23))
    clear b3 b3' cP1
    cases hsb : soundB a0 with
    | false =>
      rw [hsb] at cS1
      have hm0 : m = 0 := by rw [← HM.out, code_nil hsb]; rfl
      rw [parse_unsound hsb] at hpb
      have hpf : pb = false := hpb
      clear hX hpb hsb
      subst hm0 hpf
      go_wp2_with (go_at_call 17; (with_reducible refine cS1.mono ?_))
      rintro e W4 ⟨rfl, b4⟩
      have HB4 := Lib.hid (HB3.out.trans (b4.mono HB3.out.size))
      have cA1 := CA.out _ HB4.out
      clear b4 cS1 x0 x1 x2
      go_wp2_with (go_at_call 10; (with_reducible refine cA1.mono ?_))
      rintro e W5 ⟨rfl, b5⟩
      have HB5 := Lib.hid (HB4.out.trans (b5.mono HB4.out.size))
      clear b5 cA1
      go_wp2
      go_ret
      exact ⟨rfl, HB5.out⟩
    | true =>
      rw [hsb] at cS1
      have hmp : 0 < m := by rw [← HM.out]; exact code_pos hsb
      have hdec := dec_code hsb l
      rw [parse_text hsb] at hX hpb
      have hX2 : X = a0 := hX
      have hp2 : pb = true := hpb
      clear hX hpb
      subst hX2 hp2
      have HDC := Lib.hid hdec
      clear hsb hdec
      go_wp2_with (go_at_call 17; (with_reducible refine cS1.mono ?_))
      rintro e W4 ⟨rfl, b4⟩
      have HB4 := Lib.hid (HB3.out.trans (b4.mono HB3.out.size))
      have HA4 := Lib.hid (HA3.out.later b4)
      have HX4 := Lib.hid (HX3.out.later b4)
      have HE4 := Lib.hid (HE3.out.later b4)
      have oA : (W4.alloc (.cells #[] 5)).ownsRow W4.heap.size 5 1 (.slice (some ⟨W4.heap.size, 0, none⟩) 0 0) 0 [] := World.ownsRow_lit W4 #[] 0 (Nat.le_refl _) (Nat.zero_le _) rfl
      have bA : Below W4.heap.size W4 (W4.alloc (.cells #[] 5)) := (Below.refl _ W4).alloc (Nat.le_refl _) _
      have qA := HE4.out.later bA
      clear b4 cS1 x0 x1 x2
      go_wp2_with (at_builtin; refine wpList_append_bts _ rfl _ _ 35 rfl W4.heap.size 5 i0 Tryd.underlying35 hi hz0 hz1 hz2' _ _ _ rfl oA _ _ _ (codeL X) rfl HM.out qA HN.out (by omega) bA.size ?_)
      intro v5 W5 o5 g5
      obtain ⟨p5, c5, rfl⟩ := own_slice o5
      have b5 := below_grown bA (Nat.le_refl _) oA g5
      have HB5 := Lib.hid (HB4.out.trans (b5.mono HB4.out.size))
      have qB := HBT.out.later HB5.out
      clear oA bA qA g5
      go_wp2_with (at_builtin; refine wpList_append_bts _ rfl _ _ 35 rfl W4.heap.size 5 i0 Tryd.underlying35 hi hz0 hz1 hz2' _ _ _ rfl o5 _ _ _ l rfl HL.out qB hnone (by omega) b5.size ?_)
      intro v6 W6 o6 g6
      obtain ⟨p6, c6, rfl⟩ := own_slice o6
      have b6 := below_grown b5 (Nat.le_refl _) o5 g6
      rw [byteCells_app] at o6
      have HB6 := Lib.hid (HB4.out.trans (b6.mono HB4.out.size))
      have cD := decode_pp p6 (m + n) c6 (codeL X ++ l) X (m : Int) 0 (by rw [HDC.out]; rfl) (by rw [HDC.out]; show (m : Int) = ((codeL X).length : Nat); rw [HM.out]) (by rw [HDC.out]; rfl) W6 (by rw [List.length_append, HM.out, HL.out]) (by omega) (own_room o6) (Bts.own o6)
      have HA6 := Lib.hid (HA4.out.later b6)
      have HX6 := Lib.hid (HX4.out.later b6)
      clear o5 qB g6 o6 b5 b6
      go_wp2_with (go_at_call 23; (with_reducible refine cD.mono ?_))
      rintro e W7 ⟨rfl, b7⟩
      have b7' := b7.alloc b7.size (.cells #[.int .i64 X.w, .int .i64 X.l, .int .i64 X.n] 23)
      obtain ⟨y0, y1, y2⟩ := Box3.new W7 X.w X.l X.n 23
      have HB7 := Lib.hid (HB6.out.trans (b7'.mono HB6.out.size))
      obtain ⟨x0, x1, x2⟩ := HA6.out.later b7'
      obtain ⟨t0, t1, t2⟩ := HX6.out.later b7'
      have cA1 := CA.out _ HB7.out
      clear b7 b7' cD
      go_wp2_with (go_at_call 10; (with_reducible refine cA1.mono ?_))
      rintro e W8 ⟨rfl, b8⟩
      have HB8 := Lib.hid (HB7.out.trans (b8.mono HB7.out.size))
      clear b8 cA1 x0 x1 x2 y0 y1 y2 t0 t1 t2
      go_wp2
      go_ret
      exact ⟨rfl, HB8.out⟩

end Go.Proofs.YtijnmhiiojkcgaaDoor
