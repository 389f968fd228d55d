/-
  What the statements' own helpers answer: Round, Letters.
-/
import Derived.Test.YtggognmbjgkdfaaProg
import Derived.Lib.Bytes
import Derived.Lib.OthersKept
import Derived.Laws.IdiomStrings
import Derived.Laws.OwnMore
import Derived.WalkKit
import Derived.WalkSpells
import Derived.WalkLawsBesides
import Derived.BigCall
import Derived.KernelRfl
set_option linter.unusedVariables false
namespace Go.Proofs.Ytggognmbjgkdfaa
open Go.RowKit

theorem ret_i64 {a b : Int} (h : a = b) : Ending.returned (.int .i64 a) = .returned (.int .i64 b) := by rw [h]

set_option maxHeartbeats 1000000 in
theorem Round_any (k n : Int) (w : World) (hk0 : -4611686018427387904 ≤ k) (hk1 : k ≤ 4611686018427387904) (hn0 : 1 ≤ n) (hn1 : n ≤ 4611686018427387904) :
    Calls Try.prog 34 #[.int .i64 k, .int .i64 n] w fun e w' => e = .returned (.int .i64 (k % n)) ∧ w = w' := by
  by_cases hk : 0 ≤ k
  · have h1 : 0 ≤ k % n := Int.emod_nonneg _ (by omega)
    have h2 : k % n < n := Int.emod_lt_of_pos _ (by omega)
    go_enter Try.func34, Try.ntmps34
    go_wp2
    go_ret
    exact ⟨rfl, rfl⟩
  · have hneg : k.tmod n = -((-k) % n) := by
      rw [show k = -(-k) by omega, Int.neg_tmod, Int.tmod_eq_emod_of_nonneg (by omega)]; simp
    have h1 : 0 ≤ (-k) % n := Int.emod_nonneg _ (by omega)
    have h2 : (-k) % n < n := Int.emod_lt_of_pos _ (by omega)
    have hk' : ¬ 0 ≤ k := hk
    by_cases ht : k.tmod n < 0
    · have ht1 : -n < k.tmod n := by omega
      have he : k.tmod n + n = k % n := by
        have e1 : (k % n) = (k.tmod n + n) % n := by
          have := Int.mul_tdiv_add_tmod k n
          rw [Int.add_emod_right]
          conv => lhs; rw [← this]
          rw [Int.mul_add_emod_self_left]
        rw [e1, Int.emod_eq_of_lt (by omega) (by omega)]
      have HE : Hid (k.tmod n + n = k % n) := he
      clear he hneg h1 h2
      go_enter Try.func34, Try.ntmps34
      go_wp2
      go_ret
      exact ⟨ret_i64 HE.out, rfl⟩
    · have h0 : k.tmod n = 0 := by omega
      have he : k % n = 0 := by
        have := Int.mul_tdiv_add_tmod k n
        rw [h0] at this
        rw [← this]; simp
      have HE : Hid (k.tmod n = k % n) := (by rw [h0, he] : k.tmod n = k % n)
      have ht2 : k.tmod n < n := by omega
      have ht3 : 0 ≤ k.tmod n := by omega
      clear he hneg h1 h2 h0
      go_enter Try.func34, Try.ntmps34
      go_wp2
      go_ret
      exact ⟨ret_i64 HE.out, rfl⟩

/-- What Letters tells. -/
def letter (k : Int) (i : Nat) : UInt8 := (97 + ((i : Int) * i + k) % 26).toNat.toUInt8
def letters (n : Nat) (k : Int) : List UInt8 := (List.range n).map (letter k)

theorem infoByte' : (Try.prog.info? 5).map (fun i => (i.zero, i.size, i.bytes)) = some (some (.int .u8 0), 1, 1) := by kernel_rfl

/-- The cells of Letters' row when i letters are written. -/
def letterCells (n : Nat) (k : Int) (i : Nat) : List Value := (List.range n).map fun j => if j < i then .int .u8 (letter k j).toNat else .int .u8 0

theorem made_zero (n : Nat) (k : Int) : (madeCells #[Value.int .u8 0] n).toList = letterCells n k 0 := by
  simp [madeCells, letterCells, Nat.mod_one]

theorem letterCells_get (n : Nat) (k : Int) (i j : Nat) (h : j < n) : (letterCells n k i)[j]? = some (if j < i then .int .u8 (letter k j).toNat else .int .u8 0) := by
  simp [letterCells, h]

theorem letterCells_set (n : Nat) (k : Int) (i : Nat) (h : i < n) : (letterCells n k i).set i (.int .u8 (letter k i).toNat) = letterCells n k (i + 1) := by
  apply List.ext_getElem?
  intro j
  rw [List.getElem?_set]
  by_cases hj : j < n
  · rw [letterCells_get n k i j hj, letterCells_get n k (i + 1) j hj]
    by_cases e : i = j
    · subst e; simp [letterCells, h]
    · rw [if_neg e]
      by_cases hlt : j < i
      · rw [if_pos hlt, if_pos (by omega)]
      · rw [if_neg hlt, if_neg (by omega)]
  · have h1 : (letterCells n k i)[j]? = none := List.getElem?_eq_none (by simp [letterCells]; omega)
    have h2 : (letterCells n k (i + 1))[j]? = none := List.getElem?_eq_none (by simp [letterCells]; omega)
    rw [h1, h2, if_neg (by omega)]

theorem letter_val (k : Int) (i : Nat) : (((letter k i).toNat : Nat) : Int) = 97 + ((i : Int) * i + k) % 26 := by
  have h1 : 0 ≤ ((i : Int) * i + k) % 26 := Int.emod_nonneg _ (by omega)
  have h2 : ((i : Int) * i + k) % 26 < 26 := Int.emod_lt_of_pos _ (by omega)
  unfold letter
  generalize ((i : Int) * i + k) % 26 = m at *
  have : (97 + m).toNat < 256 := by omega
  simp [Nat.mod_eq_of_lt this]
  omega

set_option maxHeartbeats 2000000 in
set_option maxRecDepth 100000 in
theorem Letters_any (n : Nat) (k : Int) (w : World) (hn : n ≤ 1000000) (hk0 : -1000000000000 ≤ k) (hk1 : k ≤ 1000000000000) :
    Calls Try.prog 35 #[.int .i64 n, .int .i64 k] w fun e w' => e = .returned (.string ⟨(letters n k).toArray⟩) ∧ Below w.heap.size w w' := by
  obtain ⟨i0, hi, hz0, hz1, hz2⟩ := info_parts infoByte'
  go_enter Try.func35, Try.ntmps35
  go_wp2_with (at_make; refine wpList_make_full _ rfl _ _ 25 rfl w.heap.size 5 i0 (.int .u8 0) 1 Try.underlying25 hi hz0 hz1 .i64 .i64 _ _ n rfl rfl ?c1 ?c2 ?c3 ?c4 ?c5 ?_)
  case c1 => rfl
  case c2 => rfl
  case c3 => rw [hz2]; omega
  case c4 => unfold maxLen; omega
  case c5 => exact Nat.le_refl _
  intro w1 hown hgrow
  rw [made_zero n k] at hown
  have hb1 : Below w.heap.size w w1 := (Below.refl _ w).grown hgrow (Nat.le_refl _) (fun k hk => by cases hk)
  clear hgrow hi hz0 hz1 hz2
  go_wp2
  go_loopw [6] (fun i wr => ∃ (j : Nat), i = .int .i64 j ∧ j ≤ n ∧ wr.ownsRow w.heap.size 5 1 (.slice (some ⟨w.heap.size, 0, none⟩) n n) n (letterCells n k j) ∧ Below w.heap.size w wr) (fun i _ => n - (intOf i).toNat)
  case atStart => exact ⟨0, rfl, Nat.zero_le _, hown, hb1⟩
  case round =>
    obtain ⟨j, rfl, hjn, ho, hb⟩ := hrel
    by_cases hlt : j < n
    · have hcell : wr.cell? ⟨w.heap.size, j, none⟩ = some (.int .u8 0) := by
        rw [ho.cellAt j (by omega), letterCells_get n k j j hlt]; simp
      have hfz : wr.frozen? ⟨w.heap.size, j, none⟩ = false := ho.frozenAt j
      have hsq0 : (0 : Int) ≤ (j : Int) * j := Int.mul_nonneg (by omega) (by omega)
      have hsq1 : (j : Int) * j ≤ 1000000000000 := by
        have : (j : Int) * j ≤ 1000000 * 1000000 := Int.mul_le_mul (by omega) (by omega) (by omega) (by omega)
        omega
      have hm0 : 0 ≤ ((j : Int) * j + k) % 26 := Int.emod_nonneg _ (by omega)
      have hm1 : ((j : Int) * j + k) % 26 < 26 := Int.emod_lt_of_pos _ (by omega)
      go_wp2_with (go_at_call 34; refine (Round_any _ _ _ (by omega) (by omega) (by omega) (by omega)).mono ?_; rintro e w' ⟨rfl, rfl⟩)
      go_roundw
      case rel =>
        have hst := (ho.stored j (.int .u8 (letter k j).toNat)).1
        rw [letterCells_set n k j hlt, letter_val] at hst
        exact ⟨j + 1, by go_num, by omega, hst, hb.setCell (p := ⟨w.heap.size, j, none⟩) (Nat.le_refl _) _⟩
      case measure =>
        simp [intOf]
        omega
    · obtain rfl : j = n := by omega
      have hlen : (letters j k).length = j := by simp [letters]
      have hconv : (convert 25 9 (.slice (some ⟨w.heap.size, 0, none⟩) j j)).run Try.prog wr = .ok (.string ⟨(letters j k).toArray⟩) wr := by
        have h := run_convert_bytes_back (P := Try.prog) wr 25 9 5 ⟨w.heap.size, 0, none⟩ j (letters j k) Try.underlying25 Try.underlying5 Try.underlying9 (by
          intro i hi
          rw [hlen] at hi
          have hadd : (⟨w.heap.size, 0, none⟩ : Addr).add i = ⟨w.heap.size, i, none⟩ := by unfold Addr.add; split <;> simp_all
          rw [hadd, ho.cellAt i (by omega), letterCells_get j k j i hi, if_pos hi]
          simp [letters])
        rw [hlen] at h
        exact h
      go_wp2
      go_ret
      exact ⟨rfl, hb⟩

end Go.Proofs.Ytggognmbjgkdfaa
