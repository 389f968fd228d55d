/-
  The check sum of rows of bytes, plain; the reference's Sum.
-/
import Derived.Test.YtkoboogbdpagpaaByA
set_option linter.unusedVariables false
namespace Go.Proofs.Ytkoboogbdpagpaa
open Go.RowKit

/-- One step of the register. -/
def bStep (r : Nat) : Nat := if r % 2 = 1 then (r / 2) ^^^ 3988292384 else r / 2
def bIter : Nat → Nat → Nat
  | 0, r => r
  | k + 1, r => bStep (bIter k r)
/-- A byte. -/
def cByte (r : Nat) (b : UInt8) : Nat := bIter 8 (r ^^^ b.toNat)
def crcR (l : List UInt8) : Nat := l.foldl cByte 4294967295
def crc (l : List UInt8) : Nat := 4294967295 - crcR l

theorem bStep_lt (r : Nat) (h : r < 4294967296) : bStep r < 4294967296 := by
  unfold bStep
  split
  · exact Nat.xor_lt_two_pow (n := 32) (by omega) (by omega)
  · omega
theorem bIter_lt (k r : Nat) (h : r < 4294967296) : bIter k r < 4294967296 := by
  induction k with
  | zero => exact h
  | succ k ih => exact bStep_lt _ ih
theorem xor_byte_lt (r : Nat) (b : UInt8) (h : r < 4294967296) : r ^^^ b.toNat < 4294967296 := Nat.xor_lt_two_pow (n := 32) (by omega) (by have := UInt8.toNat_lt b; omega)
theorem cByte_lt (r : Nat) (b : UInt8) (h : r < 4294967296) : cByte r b < 4294967296 := bIter_lt 8 _ (xor_byte_lt r b h)
theorem foldl_lt : ∀ (l : List UInt8) (r : Nat), r < 4294967296 → l.foldl cByte r < 4294967296
  | [], r, h => h
  | b :: l, r, h => foldl_lt l _ (cByte_lt r b h)
theorem crcR_lt (l : List UInt8) : crcR l < 4294967296 := foldl_lt l _ (by decide)
theorem crc_lt (l : List UInt8) : crc l < 4294967296 := by unfold crc; omega
theorem crcR_snoc (l : List UInt8) (b : UInt8) : crcR (l ++ [b]) = cByte (crcR l) b := by simp [crcR]

theorem xor_right {a b c : Nat} (h : a ^^^ c = b ^^^ c) : a = b := by
  have := congrArg (· ^^^ c) h
  simpa [Nat.xor_assoc, Nat.xor_self, Nat.xor_zero] using this
theorem xor_left {a b c : Nat} (h : c ^^^ a = c ^^^ b) : a = b := by
  rw [Nat.xor_comm c a, Nat.xor_comm c b] at h
  exact xor_right h

/-- A step loses nothing. -/
theorem bStep_inj {r s : Nat} (hr : r < 4294967296) (hs : s < 4294967296) (h : bStep r = bStep s) : r = s := by
  have top : ∀ x : Nat, x < 2147483648 → (x ^^^ 3988292384).testBit 31 = true := fun x hx => by
    rw [Nat.testBit_xor, Nat.testBit_lt_two_pow (show x < 2 ^ 31 by omega)]; decide
  have low : ∀ x : Nat, x < 2147483648 → x.testBit 31 = false := fun x hx => Nat.testBit_lt_two_pow (show x < 2 ^ 31 by omega)
  unfold bStep at h
  by_cases h1 : r % 2 = 1 <;> by_cases h2 : s % 2 = 1
  · rw [if_pos h1, if_pos h2] at h
    have := xor_right h
    omega
  · rw [if_pos h1, if_neg h2] at h
    have a := top (r / 2) (by omega)
    rw [h, low (s / 2) (by omega)] at a
    cases a
  · rw [if_neg h1, if_pos h2] at h
    have a := top (s / 2) (by omega)
    rw [← h, low (r / 2) (by omega)] at a
    cases a
  · rw [if_neg h1, if_neg h2] at h
    omega
theorem bIter_inj : ∀ (k : Nat) {r s : Nat}, r < 4294967296 → s < 4294967296 → bIter k r = bIter k s → r = s
  | 0, _, _, _, _, h => h
  | k + 1, r, s, hr, hs, h => bIter_inj k hr hs (bStep_inj (bIter_lt k r hr) (bIter_lt k s hs) h)
theorem cByte_inj {r s : Nat} {b : UInt8} (hr : r < 4294967296) (hs : s < 4294967296) (h : cByte r b = cByte s b) : r = s :=
  xor_right (bIter_inj 8 (xor_byte_lt r b hr) (xor_byte_lt s b hs) h)
theorem cByte_byte {r : Nat} {b c : UInt8} (hr : r < 4294967296) (h : cByte r b = cByte r c) : b = c :=
  UInt8.toNat_inj.1 (xor_left (bIter_inj 8 (xor_byte_lt r b hr) (xor_byte_lt r c hr) h))
theorem foldl_inj : ∀ (l : List UInt8) {r s : Nat}, r < 4294967296 → s < 4294967296 → l.foldl cByte r = l.foldl cByte s → r = s
  | [], _, _, _, _, h => h
  | b :: l, r, s, hr, hs, h => cByte_inj hr hs (foldl_inj l (cByte_lt r b hr) (cByte_lt s b hs) h)

/-- One byte changed: another sum. -/
theorem crc_flip (l m : List UInt8) (b c : UInt8) (h : crc (l ++ b :: m) = crc (l ++ c :: m)) : b = c := by
  have h1 := crcR_lt (l ++ b :: m)
  have h2 := crcR_lt (l ++ c :: m)
  have h3 : crcR (l ++ b :: m) = crcR (l ++ c :: m) := by unfold crc at h; omega
  unfold crcR at h3
  rw [List.foldl_append, List.foldl_append, List.foldl_cons, List.foldl_cons] at h3
  have hl : l.foldl cByte 4294967295 < 4294967296 := foldl_lt l _ (by decide)
  exact cByte_byte hl (foldl_inj m (cByte_lt _ b hl) (cByte_lt _ c hl) h3)

theorem bit1_u32 (r : Nat) (h : r < 4294967296) : bits .and .u32 (r : Int) 1 = (r : Int) % 2 := by
  have := u32_and_nat r 1 h (by decide)
  rw [show ((1 : Nat) : Int) = 1 from rfl, Nat.and_one_is_mod] at this
  rw [this]; omega
theorem xor_poly (r : Nat) (h : r < 4294967296) : bits .xor .u32 ((r : Int) / 2) 3988292384 = ((r / 2 ^^^ 3988292384 : Nat) : Int) := by
  have := u32_xor_nat (r / 2) 3988292384 (by omega) (by decide)
  rw [← this]; rfl
theorem xor_byte (r : Nat) (b : UInt8) (h : r < 4294967296) : bits .xor .u32 (r : Int) ((b.toNat : Int) % 4294967296) = ((r ^^^ b.toNat : Nat) : Int) := by
  have hb := UInt8.toNat_lt b
  have := u32_xor_nat r b.toNat h (by omega)
  rw [← this]; congr 1; omega
theorem not_u32 (r : Nat) (h : r < 4294967296) : bits .xor .u32 IntKind.u32.max (r : Int) = ((4294967295 - r : Nat) : Int) := by
  show IntKind.u32.wrap ((BitVec.ofInt 32 IntKind.u32.max ^^^ BitVec.ofInt 32 (r : Int)).toNat : Int) = _
  have h1 : BitVec.ofInt 32 IntKind.u32.max = BitVec.allOnes 32 := by decide
  rw [h1, BitVec.allOnes_xor, BitVec.toNat_not, ofInt_u32 r h]
  rw [IntWalk.u32_in _ (by omega)]

set_option maxHeartbeats 4000000 in
set_option maxRecDepth 100000 in
theorem rSum_any (a : Option Addr) (n cap : Nat) (l : List UInt8) (w : World) (hl : l.length = n) (hn : n ≤ 1000000) (h : Bts w a l) :
    Calls Try.prog 14 #[.slice a n cap] w fun e w' => e = .returned (.int .u32 (crc l)) ∧ w = w' := by
  go_enter Try.func14, Try.ntmps14
  go_wp2
  go_loop [3, 4] (fun v i => ∃ k r : Nat, i = .int .i64 k ∧ v = .int .u32 r ∧ k ≤ n ∧ r < 4294967296 ∧ Hid (r = crcR (l.take k))) (fun _ i => n - (intOf i).toNat)
  case atStart => exact ⟨0, 4294967295, rfl, rfl, Nat.zero_le _, by decide, rfl⟩
  case round =>
    obtain ⟨k, r, rfl, rfl, hk, hr, HR⟩ := hrel
    by_cases hlt : k < n
    · obtain ⟨x, rfl, hc⟩ := h.at k (by omega)
      have htk : l.take (k + 1) = l.take k ++ [l[k]'(by omega)] := List.take_succ_eq_append_getElem (by omega)
      obtain ⟨b, hb⟩ : ∃ b, b = l[k]'(by omega) := ⟨_, rfl⟩
      rw [← hb] at hc htk
      have HX := Lib.hid (xor_byte r b hr)
      have hx := xor_byte_lt r b hr
      have HT : Hid (bIter 8 (r ^^^ b.toNat) = crcR (l.take (k + 1))) := by
        show _ = _
        rw [htk, crcR_snoc, ← HR.out]; rfl
      clear hb htk
      go_wp2
      go_loop [3, 5] (fun v i => ∃ j : Nat, i = .int .i64 j ∧ v = .int .u32 (bIter j (r ^^^ b.toNat) : Nat) ∧ j ≤ 8) (fun _ i => 8 - (intOf i).toNat)
      case atStart => exact ⟨0, rfl, by rw [HX.out]; rfl, by omega⟩
      case round =>
        obtain ⟨j, rfl, rfl, hj⟩ := hrel
        by_cases hj8 : j < 8
        · have hq := bIter_lt j _ hx
          have HS : Hid (bIter (j + 1) (r ^^^ b.toNat) = if (bIter j (r ^^^ b.toNat)) % 2 = 1 then (bIter j (r ^^^ b.toNat)) / 2 ^^^ 3988292384 else (bIter j (r ^^^ b.toNat)) / 2) := rfl
          obtain ⟨q, hqd⟩ : ∃ q, q = bIter j (r ^^^ b.toNat) := ⟨_, rfl⟩
          rw [← hqd] at hq HS ⊢
          have HB := Lib.hid (bit1_u32 q hq)
          have HP := Lib.hid (xor_poly q hq)
          clear hqd
          by_cases h1 : q % 2 = 1
          · have e1 : (bits .and .u32 (q : Int) 1 == 1) = true := by rw [HB.out]; simpa using (by omega : (q : Int) % 2 = 1)
            have hj' : (j : Int) < 8 := by omega
            go_wp2
            go_round
            case rel => exact ⟨j + 1, by go_num, by rw [HS.out, if_pos h1, HP.out], by omega⟩
            case measure => simp [intOf]; omega
          · have e1 : (bits .and .u32 (q : Int) 1 == 1) = false := by rw [HB.out]; simpa using (by omega : ¬ (q : Int) % 2 = 1)
            have hj' : (j : Int) < 8 := by omega
            go_wp2
            go_round
            case rel => exact ⟨j + 1, by go_num, by rw [HS.out, if_neg h1]; go_num, by omega⟩
            case measure => simp [intOf]; omega
        · obtain rfl : j = 8 := by omega
          have hq := bIter_lt 8 _ hx
          obtain ⟨q, hqd⟩ : ∃ q, q = bIter 8 (r ^^^ b.toNat) := ⟨_, rfl⟩
          rw [← hqd] at hq HT ⊢
          clear hqd
          go_wp2
          go_round
          case rel => exact ⟨k + 1, q, by go_num, rfl, by omega, hq, HT⟩
          case measure => simp [intOf]; omega
    · have HN := Lib.hid (not_u32 r hr)
      have HC : Hid (crc l = 4294967295 - r) := by
        show _ = _
        rw [HR.out, List.take_of_length_le (by omega)]; rfl
      go_wp2
      go_ret
      exact ⟨retI (by rw [HN.out, HC.out]), rfl⟩

end Go.Proofs.Ytkoboogbdpagpaa
