/-
  Numbers' groups, read and laid, over the texts of bytes: bits.Unvarint, Varint, lay, and the reference's.
-/
import Derived.Test.YtggognmbjgkdfaaByA
import Derived.Lib.VarintMem
import Derived.Lib.VarintBits
import Derived.Laws.ShiftsVarLaws
set_option linter.unusedVariables false
namespace Go.Proofs.Ytggognmbjgkdfaa
open Go.RowKit

/-- Reading a number: k bytes are read, acc is what they spell. -/
def unvF (k acc : Nat) : List UInt8 → Nat × Nat
  | [] => (0, 0)
  | b :: r =>
    if k = 9 ∧ 1 < b.toNat then (0, 0)
    else if 128 ≤ b.toNat then unvF (k + 1) (acc + b.toNat % 128 * 2 ^ (7 * k)) r
    else if b.toNat = 0 ∧ 0 < k then (0, 0)
    else (acc + b.toNat * 2 ^ (7 * k), k + 1)
def unv (l : List UInt8) : Nat × Nat := unvF 0 0 l

set_option maxRecDepth 100000 in
theorem andNot_nat : ∀ a : Fin 256, bits .andNot .u8 (a.val : Int) 128 = ((a.val % 128 : Nat) : Int) := by decide +kernel
theorem and127_nat (b : UInt8) : bits .and .u8 (b.toNat : Int) 127 = ((b.toNat % 128 : Nat) : Int) := by
  have := UInt8.toNat_lt b
  rw [u8_and127 _ (by omega) (by omega)]; omega
theorem andNot128 (b : UInt8) : bits .andNot .u8 (b.toNat : Int) 128 = ((b.toNat % 128 : Nat) : Int) := andNot_nat ⟨b.toNat, UInt8.toNat_lt b⟩

theorem cast_pow (k : Nat) : ((2 ^ k : Nat) : Int) = (2 : Int) ^ k := by simp

/-- One more group. -/
theorem grp_or (acc c k : Nat) (hk : k ≤ 9) (hacc : acc < 2 ^ (7 * k)) (hc : c < 128) (h9 : k = 9 → c ≤ 1) :
    bits .or .u64 (acc : Int) (IntKind.u64.wrap (IntKind.u64.wrap (c : Int) * 2 ^ (7 * k))) = ((acc + c * 2 ^ (7 * k) : Nat) : Int) := by
  have hlt : c * 2 ^ (7 * k) < 2 ^ 64 := by
    by_cases h : k = 9
    · subst h
      have := h9 rfl
      have : c = 0 ∨ c = 1 := by omega
      rcases this with rfl | rfl <;> decide
    · have h1 : 2 ^ (7 * k) ≤ 2 ^ 56 := Nat.pow_le_pow_right (by decide) (by omega)
      calc c * 2 ^ (7 * k) ≤ 127 * 2 ^ 56 := Nat.mul_le_mul (by omega) h1
        _ < 2 ^ 64 := by decide
  have e1 : IntKind.u64.wrap (c : Int) = (c : Int) := IntWalk.u64_in _ (by omega)
  have e2 : ((c * 2 ^ (7 * k) : Nat) : Int) = (c : Int) * 2 ^ (7 * k) := by rw [Int.natCast_mul, cast_pow]
  rw [e1, ← e2, IntWalk.u64_in _ (by omega)]
  have h63 : 2 ^ (7 * k) ≤ 2 ^ 63 := Nat.pow_le_pow_right (by decide) (by omega)
  have := bits_join_low .u64 64 (by decide) wraps_u64 (7 * k) (acc : Int) ((c * 2 ^ (7 * k) : Nat) : Int) (by omega) (by rw [← cast_pow]; omega) (by omega) (by omega) (by rw [← cast_pow, ← Int.natCast_emod]; simp) (by omega)
  rw [this]
  omega

theorem grp_lt (acc c k : Nat) (hacc : acc < 2 ^ (7 * k)) (hc : c < 128) : acc + c * 2 ^ (7 * k) < 2 ^ (7 * (k + 1)) := by
  have e : 2 ^ (7 * (k + 1)) = 128 * 2 ^ (7 * k) := by rw [show 7 * (k + 1) = 7 * k + 7 by omega, Nat.pow_add]; omega
  have h : c * 2 ^ (7 * k) ≤ 127 * 2 ^ (7 * k) := Nat.mul_le_mul_right _ (by omega)
  omega

theorem unvF_cons (k acc : Nat) (b : UInt8) (r : List UInt8) : unvF k acc (b :: r) =
    if k = 9 ∧ 1 < b.toNat then (0, 0)
    else if 128 ≤ b.toNat then unvF (k + 1) (acc + b.toNat % 128 * 2 ^ (7 * k)) r
    else if b.toNat = 0 ∧ 0 < k then (0, 0)
    else (acc + b.toNat * 2 ^ (7 * k), k + 1) := rfl

theorem pair_ret {a b : Nat} {p : Nat × Nat} (h : p = (a, b)) : Ending.returned (.tuple #[.int .u64 (p.1 : Int), .int .i64 (p.2 : Int)]) = .returned (.tuple #[.int .u64 (a : Int), .int .i64 (b : Int)]) := by rw [h]

/-- What a round meets, part by part. -/
theorem unv_ways (k acc : Nat) (b : UInt8) (r : List UInt8) :
    (k = 9 ∧ 1 < b.toNat ∧ unvF k acc (b :: r) = (0, 0)) ∨
    (¬ (k = 9 ∧ 1 < b.toNat) ∧ 128 ≤ b.toNat ∧ unvF k acc (b :: r) = unvF (k + 1) (acc + b.toNat % 128 * 2 ^ (7 * k)) r) ∨
    (¬ 128 ≤ b.toNat ∧ b.toNat = 0 ∧ 0 < k ∧ unvF k acc (b :: r) = (0, 0)) ∨
    (¬ (k = 9 ∧ 1 < b.toNat) ∧ ¬ 128 ≤ b.toNat ∧ ¬ (b.toNat = 0 ∧ 0 < k) ∧ unvF k acc (b :: r) = (acc + b.toNat % 128 * 2 ^ (7 * k), k + 1)) := by
  rw [unvF_cons]
  by_cases h1 : k = 9 ∧ 1 < b.toNat
  · exact .inl ⟨h1.1, h1.2, if_pos h1⟩
  · rw [if_neg h1]
    by_cases h2 : 128 ≤ b.toNat
    · exact .inr (.inl ⟨h1, h2, if_pos h2⟩)
    · rw [if_neg h2]
      by_cases h3 : b.toNat = 0 ∧ 0 < k
      · exact .inr (.inr (.inl ⟨h2, h3.1, h3.2, if_pos h3⟩))
      · rw [if_neg h3]
        exact .inr (.inr (.inr ⟨h1, h2, h3, by rw [Nat.mod_eq_of_lt (by omega)]⟩))

set_option maxHeartbeats 2000000 in
set_option maxRecDepth 100000 in
theorem Unvarint_any (a : Option Addr) (n cap : Nat) (l : List UInt8) (w : World) (hl : l.length = n) (hs : n ≤ maxLen) (h : Bts w a l) :
    Calls Try.prog 112 #[.slice a n cap] w fun e w' => e = .returned (.tuple #[.int .u64 (unv l).1, .int .i64 (unv l).2]) ∧ w = w' := by
  unfold maxLen at hs
  go_enter Try.func112, Try.ntmps112
  go_wp2
  go_loop [2, 8] (fun v i => ∃ k acc : Nat, i = .int .i64 k ∧ v = .int .u64 acc ∧ k ≤ n ∧ k ≤ 9 ∧ acc < 2 ^ (7 * k) ∧ Hid (unv l = unvF k acc (l.drop k)))
    (fun _ i => n - (intOf i).toNat)
  case atStart => exact ⟨0, 0, rfl, rfl, Nat.zero_le _, by omega, by decide, rfl⟩
  case round =>
    obtain ⟨k, acc, rfl, rfl, hk, hk9, hacc, HU⟩ := hrel
    by_cases hlt : k < n
    · obtain ⟨x, rfl, hc⟩ := h.at k (by omega)
      have hdrop : l.drop k = l[k]'(by omega) :: l.drop (k + 1) := List.drop_eq_getElem_cons (by omega)
      have hways := unv_ways k acc (l[k]'(by omega)) (l.drop (k + 1))
      rw [← hdrop] at hways
      obtain ⟨b, hb⟩ : ∃ b, b = l[k]'(by omega) := ⟨_, rfl⟩
      rw [← hb] at hc hways
      have hb8 := UInt8.toNat_lt b
      have hmod : b.toNat % 128 < 128 := Nat.mod_lt _ (by decide)
      have HC := Lib.hid (andNot128 b)
      have hglt := grp_lt acc (b.toNat % 128) k hacc hmod
      clear hb hdrop
      rcases hways with ⟨h9, h1, he⟩ | ⟨h1, h2, he⟩ | ⟨h2, h3, h4, he⟩ | ⟨h1, h2, h3, he⟩
      · have HE := Lib.hid he
        have h9' : ((k : Int) == 9) = true := by simpa using (by omega : (k : Int) = 9)
        clear he h9
        have hg : (1 : Int) < (b.toNat : Int) := by omega
        go_wp2
        go_ret2
        exact ⟨(pair_ret (HU.out.trans HE.out)).symm, rfl⟩
      · have HE := Lib.hid he
        have HG := Lib.hid (grp_or acc (b.toNat % 128) k hk9 hacc hmod (by omega))
        have hk8 : k ≤ 8 := by omega
        have hg : (128 : Int) ≤ (b.toNat : Int) := by omega
        have h9' : ((k : Int) == 9) = false := by simpa using (by omega : ¬ (k : Int) = 9)
        clear he h1
        go_wp2
        go_round
        case rel => exact ⟨k + 1, _, by go_num, by rw [HC.out, HG.out], by omega, by omega, hglt, HU.out.trans HE.out⟩
        case measure => simp [intOf]; omega
      · have HE := Lib.hid he
        clear he
        have hg : ¬ (128 : Int) ≤ (b.toNat : Int) := by omega
        have hg1 : decide ((1 : Int) < (b.toNat : Int)) = false := by simpa using (by omega : (b.toNat : Int) ≤ 1)
        have hg2 : ((b.toNat : Int) == 0) = true := by simpa using h3
        have hg3 : (0 : Int) < (k : Int) := by omega
        clear h2 h3
        by_cases h9 : k = 9
        · have h9' : ((k : Int) == 9) = true := by simpa using (by omega : (k : Int) = 9)
          clear h9
          go_wp2
          go_ret2
          exact ⟨(pair_ret (HU.out.trans HE.out)).symm, rfl⟩
        · have h9' : ((k : Int) == 9) = false := by simpa using (by omega : ¬ (k : Int) = 9)
          go_wp2
          go_ret2
          exact ⟨(pair_ret (HU.out.trans HE.out)).symm, rfl⟩
      · have HE := Lib.hid he
        have HG := Lib.hid (grp_or acc (b.toNat % 128) k hk9 hacc hmod (by omega))
        clear he
        have hg : ¬ (128 : Int) ≤ (b.toNat : Int) := by omega
        by_cases h9 : k = 9
        · have h9' : ((k : Int) == 9) = true := by simpa using (by omega : (k : Int) = 9)
          have hg1 : decide ((1 : Int) < (b.toNat : Int)) = false := by simpa using (by omega : (b.toNat : Int) ≤ 1)
          have hg2 : ((b.toNat : Int) == 0) = false := by simpa using (by omega : ¬ (b.toNat : Int) = 0)
          clear h1 h2 h3 h9
          go_wp2
          go_ret2
          exact ⟨by rw [HC.out, HG.out]; exact (pair_ret (HU.out.trans HE.out)).symm, rfl⟩
        · have h9' : ((k : Int) == 9) = false := by simpa using (by omega : ¬ (k : Int) = 9)
          by_cases h0 : b.toNat = 0
          · have hg3 : ¬ 0 < k := by omega
            have hg2 : ((b.toNat : Int) == 0) = true := by simpa using h0
            clear h1 h2 h3 h0
            go_wp2
            go_ret2
            exact ⟨by rw [HC.out, HG.out]; exact (pair_ret (HU.out.trans HE.out)).symm, rfl⟩
          · have hg2 : ((b.toNat : Int) == 0) = false := by simpa using (by omega : ¬ (b.toNat : Int) = 0)
            clear h1 h2 h3 h0
            go_wp2
            go_ret2
            exact ⟨by rw [HC.out, HG.out]; exact (pair_ret (HU.out.trans HE.out)).symm, rfl⟩
    · have HE : Hid (unvF k acc (l.drop k) = (0, 0)) := by
        show unvF k acc (l.drop k) = (0, 0)
        rw [List.drop_eq_nil_of_le (by omega)]; rfl
      go_wp2
      go_ret2
      exact ⟨(pair_ret (HU.out.trans HE.out)).symm, rfl⟩

set_option maxHeartbeats 2000000 in
set_option maxRecDepth 100000 in
theorem rUnvarint_any (a : Option Addr) (n cap : Nat) (l : List UInt8) (w : World) (hl : l.length = n) (hs : n ≤ maxLen) (h : Bts w a l) :
    Calls Try.prog 101 #[.slice a n cap] w fun e w' => e = .returned (.tuple #[.int .u64 (unv l).1, .int .i64 (unv l).2]) ∧ w = w' := by
  unfold maxLen at hs
  go_enter Try.func101, Try.ntmps101
  go_wp2
  go_loop [4, 5] (fun v i => ∃ k acc : Nat, i = .int .i64 k ∧ v = .int .u64 acc ∧ k ≤ n ∧ k ≤ 9 ∧ acc < 2 ^ (7 * k) ∧ Hid (unv l = unvF k acc (l.drop k)))
    (fun _ i => n - (intOf i).toNat)
  case atStart => exact ⟨0, 0, rfl, rfl, Nat.zero_le _, by omega, by decide, rfl⟩
  case round =>
    obtain ⟨k, acc, rfl, rfl, hk, hk9, hacc, HU⟩ := hrel
    by_cases hlt : k < n
    · obtain ⟨x, rfl, hc⟩ := h.at k (by omega)
      have hdrop : l.drop k = l[k]'(by omega) :: l.drop (k + 1) := List.drop_eq_getElem_cons (by omega)
      have hways := unv_ways k acc (l[k]'(by omega)) (l.drop (k + 1))
      rw [← hdrop] at hways
      obtain ⟨b, hb⟩ : ∃ b, b = l[k]'(by omega) := ⟨_, rfl⟩
      rw [← hb] at hc hways
      have hb8 := UInt8.toNat_lt b
      have hk10 : (k : Int) < 10 := by omega
      have hmod : b.toNat % 128 < 128 := Nat.mod_lt _ (by decide)
      have HC := Lib.hid (and127_nat b)
      have hglt := grp_lt acc (b.toNat % 128) k hacc hmod
      clear hb hdrop
      rcases hways with ⟨h9, h1, he⟩ | ⟨h1, h2, he⟩ | ⟨h2, h3, h4, he⟩ | ⟨h1, h2, h3, he⟩
      · have HE := Lib.hid he
        have h9' : ((k : Int) == 9) = true := by simpa using (by omega : (k : Int) = 9)
        clear he h9
        have hg : (1 : Int) < (b.toNat : Int) := by omega
        go_wp2
        go_ret2
        exact ⟨(pair_ret (HU.out.trans HE.out)).symm, rfl⟩
      · have HE := Lib.hid he
        have HG := Lib.hid (grp_or acc (b.toNat % 128) k hk9 hacc hmod (by omega))
        have hk8 : k ≤ 8 := by omega
        have hg : decide ((b.toNat : Int) < 128) = false := by simpa using (by omega : (128 : Int) ≤ (b.toNat : Int))
        have h9' : ((k : Int) == 9) = false := by simpa using (by omega : ¬ (k : Int) = 9)
        clear he h1
        go_wp2
        go_round
        case rel => exact ⟨k + 1, _, by go_num, by rw [HC.out, HG.out], by omega, by omega, hglt, HU.out.trans HE.out⟩
        case measure => simp [intOf]; omega
      · have HE := Lib.hid he
        clear he
        have hg : (b.toNat : Int) < 128 := by omega
        have hg1 : decide ((1 : Int) < (b.toNat : Int)) = false := by simpa using (by omega : (b.toNat : Int) ≤ 1)
        have hg2 : ((b.toNat : Int) == 0) = true := by simpa using h3
        have hg3 : (0 : Int) < (k : Int) := by omega
        clear h2 h3
        by_cases h9 : k = 9
        · have h9' : ((k : Int) == 9) = true := by simpa using (by omega : (k : Int) = 9)
          clear h9
          go_wp2
          go_ret2
          exact ⟨(pair_ret (HU.out.trans HE.out)).symm, rfl⟩
        · have h9' : ((k : Int) == 9) = false := by simpa using (by omega : ¬ (k : Int) = 9)
          go_wp2
          go_ret2
          exact ⟨(pair_ret (HU.out.trans HE.out)).symm, rfl⟩
      · have HE := Lib.hid he
        have HG := Lib.hid (grp_or acc (b.toNat % 128) k hk9 hacc hmod (by omega))
        clear he
        have hg : (b.toNat : Int) < 128 := by omega
        by_cases h9 : k = 9
        · have h9' : ((k : Int) == 9) = true := by simpa using (by omega : (k : Int) = 9)
          have hg1 : decide ((1 : Int) < (b.toNat : Int)) = false := by simpa using (by omega : (b.toNat : Int) ≤ 1)
          have hg2 : ((b.toNat : Int) == 0) = false := by simpa using (by omega : ¬ (b.toNat : Int) = 0)
          clear h1 h2 h3 h9
          go_wp2
          go_ret2
          exact ⟨by rw [HC.out, HG.out]; exact (pair_ret (HU.out.trans HE.out)).symm, rfl⟩
        · have h9' : ((k : Int) == 9) = false := by simpa using (by omega : ¬ (k : Int) = 9)
          by_cases h0 : b.toNat = 0
          · have hg3 : ¬ 0 < k := by omega
            have hg2 : ((b.toNat : Int) == 0) = true := by simpa using h0
            clear h1 h2 h3 h0
            go_wp2
            go_ret2
            exact ⟨by rw [HC.out, HG.out]; exact (pair_ret (HU.out.trans HE.out)).symm, rfl⟩
          · have hg2 : ((b.toNat : Int) == 0) = false := by simpa using (by omega : ¬ (b.toNat : Int) = 0)
            clear h1 h2 h3 h0
            go_wp2
            go_ret2
            exact ⟨by rw [HC.out, HG.out]; exact (pair_ret (HU.out.trans HE.out)).symm, rfl⟩
    · have HE : Hid (unvF k acc (l.drop k) = (0, 0)) := by
        show unvF k acc (l.drop k) = (0, 0)
        rw [List.drop_eq_nil_of_le (by omega)]; rfl
      go_wp2
      go_ret2
      exact ⟨(pair_ret (HU.out.trans HE.out)).symm, rfl⟩

theorem or128_mod (y : Nat) : bits .or .u8 ((y : Int) % 256) 128 = ((y % 128 + 128 : Nat) : Int) := by
  rw [Lib.u8_or128_any _ (by omega) (by omega)]
  omega

set_option maxHeartbeats 2000000 in
set_option maxRecDepth 100000 in
theorem lay_any (B n cap : Nat) (a : Option Addr) (l : List UInt8) (x : Nat) (hx : x < 2 ^ 64) (w : World) (hown : w.ownsRow B 5 1 (.slice a n cap) n (Lib.byteCells l)) (hB : B ≤ w.heap.size) (hlim : n ≤ 1000000) :
    Calls Try.prog 78 #[.slice a n cap, .int .u64 x] w (OwnPost B (n + (Lib.uvarint x).length) (l ++ Lib.uvarint x) w) := by
  obtain ⟨i0, hi, hz0, hz1, hz2⟩ := info_parts infoByte8
  have hlen := Lib.uvarint_length64 (x := x) (by omega)
  go_enter Try.func78, Try.ntmps78
  go_wp2
  go_loopw [0, 1] (fun vb vx wr => ∃ (y : Nat) (pre : List UInt8) (a : Option Addr) (cap : Nat), vx = .int .u64 y ∧ vb = .slice a (n + pre.length) cap ∧ y < 18446744073709551616 ∧ y ≤ x ∧ Hid (Lib.uvarint x = pre ++ Lib.uvarint y) ∧ wr.ownsRow B 5 1 (.slice a (n + pre.length) cap) (n + pre.length) (Lib.byteCells (l ++ pre)) ∧ Below B w wr)
    (fun _ vx _ => (intOf vx).toNat)
  case atStart => exact ⟨x, [], a, cap, rfl, rfl, by omega, Nat.le_refl _, rfl, by simpa using hown, Below.refl _ _⟩
  case round =>
    obtain ⟨y, pre, a, cap, rfl, rfl, hy64, hy, HS, ho, hb⟩ := hrel
    have hpl : pre.length + (Lib.uvarint y).length ≤ 10 := by
      have h2 := congrArg List.length HS.out
      rw [List.length_append] at h2
      omega
    have hyp := Lib.uvarint_pos y
    have hbz := hb.size
    by_cases h128 : 128 ≤ y
    · have hor := or128_mod y
      go_wp2_with (at_builtin; refine wpList_append_own _ rfl _ _ 25 rfl B 5 i0 (.int .u8 0) 1 1 Try.underlying25 hi hz0 hz1 hz2 rfl (by decide) _ _ _ rfl (ho.alloc _) ⟨wr.heap.size, 0, none⟩ 1 1 [Value.int .u8 ((y % 128 + 128 : Nat) : Int)] rfl rfl ?c1 ?c2 ?c3 ?c4 ?c5 ?_)
      case c1 => intro j u hj; exact new_cells8 _ _ _ _ rfl j u hj
      case c2 => intro u hu; simp at hu; subst hu; rfl
      case c3 => unfold maxLen; omega
      case c4 => omega
      case c5 => simp; omega
      intro v' w1 ho1 hg _
      obtain ⟨a1, cap1, rfl⟩ := own_slice ho1
      have hb1 := below_app hb hB ho hg
      clear hg ho hb hor
      go_wp2
      go_roundw
      case rel =>
        have e : Lib.uvarint x = (pre ++ [(y % 128 + 128).toUInt8]) ++ Lib.uvarint (y / 128) := by rw [HS.out, Lib.uvarint_big h128]; simp
        refine ⟨y / 128, pre ++ [(y % 128 + 128).toUInt8], a1, cap1, by go_num, by simp; omega, by omega, by omega, e, ?_, hb1⟩
        rw [← List.append_assoc, Lib.byteCells_snoc _ (by omega), List.length_append, List.length_singleton, ← Nat.add_assoc]
        exact ho1
      case measure => simp [intOf]; omega
    · have hsm : Lib.uvarint y = [y.toUInt8] := Lib.uvarint_small (by omega)
      have e : Lib.uvarint x = pre ++ [y.toUInt8] := by rw [HS.out, hsm]
      go_wp2_with (at_builtin; refine wpList_append_own _ rfl _ _ 25 rfl B 5 i0 (.int .u8 0) 1 1 Try.underlying25 hi hz0 hz1 hz2 rfl (by decide) _ _ _ rfl (ho.alloc _) ⟨wr.heap.size, 0, none⟩ 1 1 [Value.int .u8 (y : Int)] rfl rfl ?d1 ?d2 ?d3 ?d4 ?d5 ?_)
      case d1 => intro j u hj; exact new_cells8 _ _ _ _ rfl j u hj
      case d2 => intro u hu; simp at hu; subst hu; rfl
      case d3 => unfold maxLen; omega
      case d4 => omega
      case d5 => simp; omega
      intro v' w1 ho1 hg _
      obtain ⟨a1, cap1, rfl⟩ := own_slice ho1
      have hb1 := below_app hb hB ho hg
      clear hg ho hb hsm
      have E := Lib.hid e
      clear e
      go_wp2
      go_ret
      rw [← Lib.byteCells_snoc _ (by omega)] at ho1
      rw [E.out, List.length_append, List.length_singleton, ← Nat.add_assoc, ← List.append_assoc]
      exact ⟨a1, cap1, rfl, ho1, hb1⟩

set_option maxHeartbeats 1000000 in
set_option maxRecDepth 100000 in
theorem Varint_any (x : Nat) (hx : x < 2 ^ 64) (w : World) :
    Calls Try.prog 48 #[.int .u64 x] w (OwnPost w.heap.size (Lib.uvarint x).length (Lib.uvarint x) w) := by
  have c := lay_any w.heap.size 0 0 none [] x hx w (World.ownsRow_nil _ _ _ _) (Nat.le_refl _) (by omega)
  rw [Nat.zero_add, List.nil_append] at c
  go_enter Try.func48, Try.ntmps48
  go_wp2_with (go_at_call 78; refine c.mono ?_; rintro e W1 ⟨a1, cap1, rfl, h1, h2⟩)
  go_ret
  exact ⟨a1, cap1, rfl, h1, h2⟩

theorem or128_u64 (y : Nat) (hy : y < 18446744073709551616) : IntKind.u8.wrap (bits .or .u64 (bits .and .u64 (y : Int) 127) 128) = ((y % 128 + 128 : Nat) : Int) := by
  have h1 : bits .and .u64 (y : Int) 127 = (y : Int) % 128 := bits_mask .u64 64 (by decide) wraps_u64 7 (by decide) (y : Int) (by omega) (by omega)
  have h2 : bits .or .u64 ((y : Int) % 128) 128 = (y : Int) % 128 + 128 := bits_join_low .u64 64 (by decide) wraps_u64 7 ((y : Int) % 128) 128 (by omega) (by omega) (by omega) (by omega) (by decide) (by omega)
  rw [h1, h2, IntWalk.u8_in _ (by omega)]
  omega

set_option maxHeartbeats 2000000 in
set_option maxRecDepth 100000 in
theorem rVarint_any (x : Nat) (hx : x < 2 ^ 64) (w : World) :
    Calls Try.prog 52 #[.int .u64 x] w (OwnPost w.heap.size (Lib.uvarint x).length (Lib.uvarint x) w) := by
  obtain ⟨i0, hi, hz0, hz1, hz2⟩ := info_parts infoByte8
  have hlen := Lib.uvarint_length64 (x := x) (by omega)
  go_enter Try.func52, Try.ntmps52
  go_wp2
  go_loopw [0, 3] (fun vx vb wr => ∃ (y : Nat) (pre : List UInt8) (a : Option Addr) (cap : Nat), vx = .int .u64 y ∧ vb = .slice a (pre.length) cap ∧ y < 18446744073709551616 ∧ y ≤ x ∧ Hid (Lib.uvarint x = pre ++ Lib.uvarint y) ∧ wr.ownsRow w.heap.size 5 1 (.slice a (pre.length) cap) (pre.length) (Lib.byteCells pre) ∧ Below w.heap.size w wr)
    (fun vx _ _ => (intOf vx).toNat)
  case atStart => exact ⟨x, [], none, 0, rfl, rfl, by omega, Nat.le_refl _, rfl, World.ownsRow_nil _ _ _ _, Below.refl _ _⟩
  case round =>
    obtain ⟨y, pre, a, cap, rfl, rfl, hy64, hy, HS, ho, hb⟩ := hrel
    have hpl : pre.length + (Lib.uvarint y).length ≤ 10 := by
      have h2 := congrArg List.length HS.out
      rw [List.length_append] at h2
      omega
    have hyp := Lib.uvarint_pos y
    have hbz := hb.size
    by_cases h128 : 128 ≤ y
    · have hor := or128_u64 y hy64
      go_wp2_with (at_builtin; refine wpList_append_own _ rfl _ _ 25 rfl w.heap.size 5 i0 (.int .u8 0) 1 1 Try.underlying25 hi hz0 hz1 hz2 rfl (by decide) _ _ _ rfl (ho.alloc _) ⟨wr.heap.size, 0, none⟩ 1 1 [Value.int .u8 ((y % 128 + 128 : Nat) : Int)] rfl rfl ?c1 ?c2 ?c3 ?c4 ?c5 ?_)
      case c1 => intro j u hj; exact new_cells8 _ _ _ _ rfl j u hj
      case c2 => intro u hu; simp at hu; subst hu; rfl
      case c3 => unfold maxLen; omega
      case c4 => omega
      case c5 => simp; omega
      intro v' w1 ho1 hg _
      obtain ⟨a1, cap1, rfl⟩ := own_slice ho1
      have hb1 := below_app hb (Nat.le_refl _) ho hg
      clear hg ho hb hor
      go_wp2
      go_roundw
      case rel =>
        have e : Lib.uvarint x = (pre ++ [(y % 128 + 128).toUInt8]) ++ Lib.uvarint (y / 128) := by rw [HS.out, Lib.uvarint_big h128]; simp
        refine ⟨y / 128, pre ++ [(y % 128 + 128).toUInt8], a1, cap1, by go_num, by simp, by omega, by omega, e, ?_, hb1⟩
        rw [Lib.byteCells_snoc _ (by omega), List.length_append, List.length_singleton]
        exact ho1
      case measure => simp [intOf]; omega
    · have hsm : Lib.uvarint y = [y.toUInt8] := Lib.uvarint_small (by omega)
      have e : Lib.uvarint x = pre ++ [y.toUInt8] := by rw [HS.out, hsm]
      go_wp2_with (at_builtin; refine wpList_append_own _ rfl _ _ 25 rfl w.heap.size 5 i0 (.int .u8 0) 1 1 Try.underlying25 hi hz0 hz1 hz2 rfl (by decide) _ _ _ rfl (ho.alloc _) ⟨wr.heap.size, 0, none⟩ 1 1 [Value.int .u8 (y : Int)] rfl rfl ?d1 ?d2 ?d3 ?d4 ?d5 ?_)
      case d1 => intro j u hj; exact new_cells8 _ _ _ _ rfl j u hj
      case d2 => intro u hu; simp at hu; subst hu; rfl
      case d3 => unfold maxLen; omega
      case d4 => omega
      case d5 => simp; omega
      intro v' w1 ho1 hg _
      obtain ⟨a1, cap1, rfl⟩ := own_slice ho1
      have hb1 := below_app hb (Nat.le_refl _) ho hg
      clear hg ho hb hsm
      have E := Lib.hid e
      clear e
      go_wp2
      go_ret
      rw [← Lib.byteCells_snoc _ (by omega)] at ho1
      rw [E.out, List.length_append, List.length_singleton]
      exact ⟨a1, cap1, rfl, ho1, hb1⟩

end Go.Proofs.Ytggognmbjgkdfaa
