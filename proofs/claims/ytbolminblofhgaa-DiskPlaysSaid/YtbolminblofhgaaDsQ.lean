/-
  What the statements' own helpers answer: Round, Letters, bytes (exactly); slices of numbers that came in.
-/
import Derived.Test.YtbolminblofhgaaDsP
import Derived.Lib.Bytes
import Derived.Lib.ConvBytes
import Derived.Laws.IdiomStrings
set_option linter.unusedVariables false
namespace Go.Proofs.Ytbolminblofhgaa
open Go.RowKit

set_option maxHeartbeats 2000000 in
set_option maxRecDepth 100000 in
theorem RoundE (n m : Int) (w : World) (h1 : 0 < m) (h2 : m ≤ 1000000000) (hl : -9223372036854775808 ≤ n) (hh : n ≤ 9223372036854775807) :
    Calls Try.prog 21 #[.int .i64 n, .int .i64 m] w fun e w' => e = .returned (.int .i64 (n % m)) ∧ w = w' := by
  have hm0 : (m == 0) = false := by simp; omega
  have t1 := Int.tmod_lt_of_pos n h1
  have t2 : -m < n.tmod m := by
    have := Int.tmod_lt_of_pos (-n) h1
    rw [Int.neg_tmod] at this
    omega
  have t3 : Hid (n % m = if n.tmod m < 0 then n.tmod m + m else n.tmod m) := by
    show _ = _
    have e1 := Int.tmod_add_mul_tdiv n m
    have e3 := Int.emod_nonneg n (by omega : m ≠ 0)
    have e4 := Int.emod_lt_of_pos n h1
    split
    · have : (n.tmod m + m) % m = n % m := by
        rw [Int.add_emod_right]
        conv => rhs; rw [← e1, Int.add_mul_emod_self_left]
      rw [← this]
      exact Int.emod_eq_of_lt (by omega) (by omega)
    · have : (n.tmod m) % m = n % m := by
        conv => rhs; rw [← e1, Int.add_mul_emod_self_left]
      rw [← this]
      exact Int.emod_eq_of_lt (by omega) (by omega)
  by_cases hs : n.tmod m < 0
  · go_enter Try.func21, Try.ntmps21
    go_wp2
    go_ret
    exact ⟨retI (by rw [t3.out, if_pos hs]), rfl⟩
  · go_enter Try.func21, Try.ntmps21
    go_wp2
    go_ret
    exact ⟨retI (by rw [t3.out, if_neg (by omega)]), rfl⟩

/-- What Letters tells. -/
def letter (k : Int) (i : Nat) : UInt8 := (97 + ((i : Int) * i + k) % 26).toNat.toUInt8
def letters (n : Nat) (k : Int) : List UInt8 := (List.range n).map (letter k)

theorem infoByte' : (Try.prog.info? 5).map (fun i => (i.zero, i.size, i.bytes)) = some (some (.int .u8 0), 1, 1) := by kernel_rfl

/-- The cells of Letters' row when i letters are written. -/
def letterCells (n : Nat) (k : Int) (i : Nat) : List Value := (List.range n).map fun j => if j < i then .int .u8 (letter k j).toNat else .int .u8 0

theorem made_zero (n : Nat) (k : Int) : (madeCells #[Value.int .u8 0] n).toList = letterCells n k 0 := by
  simp [madeCells, letterCells, Nat.mod_one]

theorem letterCells_get (n : Nat) (k : Int) (i j : Nat) (h : j < n) : (letterCells n k i)[j]? = some (if j < i then .int .u8 (letter k j).toNat else .int .u8 0) := by
  simp [letterCells, h]

theorem letterCells_set (n : Nat) (k : Int) (i : Nat) (h : i < n) : (letterCells n k i).set i (.int .u8 (letter k i).toNat) = letterCells n k (i + 1) := by
  apply List.ext_getElem?
  intro j
  rw [List.getElem?_set]
  by_cases hj : j < n
  · rw [letterCells_get n k i j hj, letterCells_get n k (i + 1) j hj]
    by_cases e : i = j
    · subst e; simp [letterCells, h]
    · rw [if_neg e]
      by_cases hlt : j < i
      · rw [if_pos hlt, if_pos (by omega)]
      · rw [if_neg hlt, if_neg (by omega)]
  · have h1 : (letterCells n k i)[j]? = none := List.getElem?_eq_none (by simp [letterCells]; omega)
    have h2 : (letterCells n k (i + 1))[j]? = none := List.getElem?_eq_none (by simp [letterCells]; omega)
    rw [h1, h2, if_neg (by omega)]

theorem letter_val (k : Int) (i : Nat) : (((letter k i).toNat : Nat) : Int) = 97 + ((i : Int) * i + k) % 26 := by
  have h1 : 0 ≤ ((i : Int) * i + k) % 26 := Int.emod_nonneg _ (by omega)
  have h2 : ((i : Int) * i + k) % 26 < 26 := Int.emod_lt_of_pos _ (by omega)
  unfold letter
  generalize ((i : Int) * i + k) % 26 = m at *
  have : (97 + m).toNat < 256 := by omega
  simp [Nat.mod_eq_of_lt this]
  omega

set_option maxHeartbeats 2000000 in
set_option maxRecDepth 100000 in
theorem Letters_any (n : Nat) (k : Int) (w : World) (hn : n ≤ 1000000) (hk0 : -1000000000000 ≤ k) (hk1 : k ≤ 1000000000000) :
    Calls Try.prog 22 #[.int .i64 n, .int .i64 k] w fun e w' => e = .returned (.string ⟨(letters n k).toArray⟩) ∧ Below w.heap.size w w' := by
  obtain ⟨i0, hi, hz0, hz1, hz2⟩ := info_parts infoByte'
  have cR26 : ∀ (x : Int) (W : World), -9223372036854775808 ≤ x → x ≤ 9223372036854775807 → Calls Try.prog 21 #[.int .i64 x, .int .i64 26] W fun e w' => e = .returned (.int .i64 (x % 26)) ∧ W = w' := fun x W h1 h2 => RoundE x 26 W (by omega) (by omega) h1 h2
  go_enter Try.func22, Try.ntmps22
  go_wp2_with (at_make; refine wpList_make_full _ rfl _ _ 39 rfl w.heap.size 5 i0 (.int .u8 0) 1 Try.underlying39 hi hz0 hz1 .i64 .i64 _ _ n rfl rfl ?c1 ?c2 ?c3 ?c4 ?c5 ?_)
  case c1 => rfl
  case c2 => rfl
  case c3 => rw [hz2]; omega
  case c4 => unfold maxLen; omega
  case c5 => exact Nat.le_refl _
  intro w1 hown hgrow
  rw [made_zero n k] at hown
  have hb1 : Below w.heap.size w w1 := (Below.refl _ w).grown hgrow (Nat.le_refl _) (fun k hk => by cases hk)
  clear hgrow hi hz0 hz1 hz2
  go_wp2
  go_loopw [6] (fun i wr => ∃ (j : Nat), i = .int .i64 j ∧ j ≤ n ∧ wr.ownsRow w.heap.size 5 1 (.slice (some ⟨w.heap.size, 0, none⟩) n n) n (letterCells n k j) ∧ Below w.heap.size w wr) (fun i _ => n - (intOf i).toNat)
  case atStart => exact ⟨0, rfl, Nat.zero_le _, hown, hb1⟩
  case round =>
    obtain ⟨j, rfl, hjn, ho, hb⟩ := hrel
    by_cases hlt : j < n
    · have hcell : wr.cell? ⟨w.heap.size, j, none⟩ = some (.int .u8 0) := by
        rw [ho.cellAt j (by omega), letterCells_get n k j j hlt]; simp
      have hfz : wr.frozen? ⟨w.heap.size, j, none⟩ = false := ho.frozenAt j
      have hsq0 : (0 : Int) ≤ (j : Int) * j := Int.mul_nonneg (by omega) (by omega)
      have hsq1 : (j : Int) * j ≤ 1000000000000 := by
        have : (j : Int) * j ≤ 1000000 * 1000000 := Int.mul_le_mul (by omega) (by omega) (by omega) (by omega)
        omega
      have hm0 : 0 ≤ ((j : Int) * j + k) % 26 := Int.emod_nonneg _ (by omega)
      have hm1 : ((j : Int) * j + k) % 26 < 26 := Int.emod_lt_of_pos _ (by omega)
      go_wp2_with (go_at_call 21; (with_reducible refine (cR26 _ _ (by omega) (by omega)).mono ?_); rintro e w' ⟨rfl, rfl⟩)
      go_roundw
      case rel =>
        have hst := (ho.stored j (.int .u8 (letter k j).toNat)).1
        rw [letterCells_set n k j hlt, letter_val] at hst
        exact ⟨j + 1, by go_num, by omega, hst, hb.setCell (p := ⟨w.heap.size, j, none⟩) (Nat.le_refl _) _⟩
      case measure =>
        simp [intOf]
        omega
    · obtain rfl : j = n := by omega
      have hlen : (letters j k).length = j := by simp [letters]
      have hconv : (convert 39 9 (.slice (some ⟨w.heap.size, 0, none⟩) j j)).run Try.prog wr = .ok (.string ⟨(letters j k).toArray⟩) wr := by
        have h := run_convert_bytes_back (P := Try.prog) wr 39 9 5 ⟨w.heap.size, 0, none⟩ j (letters j k) Try.underlying39 Try.underlying5 Try.underlying9 (by
          intro i hi
          rw [hlen] at hi
          have hadd : (⟨w.heap.size, 0, none⟩ : Addr).add i = ⟨w.heap.size, i, none⟩ := by unfold Addr.add; split <;> simp_all
          rw [hadd, ho.cellAt i (by omega), letterCells_get j k j i hi, if_pos hi]
          simp [letters])
        rw [hlen] at h
        exact h
      go_wp2
      go_ret
      exact ⟨rfl, hb⟩

theorem letters_len (n : Nat) (k : Int) : (letters n k).length = n := by simp [letters]
def LetPost (w : World) (l : List UInt8) (e : Ending) (w' : World) : Prop := e = .returned (.string ⟨l.toArray⟩) ∧ Below w.heap.size w w'
set_option maxHeartbeats 2000000 in
set_option maxRecDepth 100000 in
theorem Letters_neg (n : Int) (k : Int) (w : World) (hn : n < 0) (hn0 : -9223372036854775808 ≤ n) :
    Calls Try.prog 22 #[.int .i64 n, .int .i64 k] w (LetPost w []) := by
  obtain ⟨i0, hi, hz0, hz1, hz2⟩ := info_parts infoByte'
  have hmx : max n 0 = 0 := by omega
  go_enter Try.func22, Try.ntmps22
  go_wp2_with (at_make; refine wpList_make_full _ rfl _ _ 39 rfl w.heap.size 5 i0 (.int .u8 0) 1 Try.underlying39 hi hz0 hz1 .i64 .i64 _ _ 0 rfl rfl ?c1 ?c2 ?c3 ?c4 ?c5 ?_)
  case c1 => rfl
  case c2 => rfl
  case c3 => omega
  case c4 => unfold maxLen; omega
  case c5 => exact Nat.le_refl _
  intro w1 hown hgrow
  have hb1 : Below w.heap.size w w1 := (Below.refl _ w).grown hgrow (Nat.le_refl _) (fun k hk => by cases hk)
  clear hgrow hi hz0 hz1 hz2 hown
  have hcv := conv_bts w1 (some ⟨w.heap.size, 0, none⟩) 0 0 [] rfl (.inl rfl)
  go_wp2
  go_loopw [6] (fun i wr => i = .int .i64 0 ∧ wr = w1) (fun i _ => 0)
  case atStart => exact ⟨rfl, rfl⟩
  case round =>
    obtain ⟨rfl, rfl⟩ := hrel
    go_wp2
    go_ret
    exact ⟨rfl, hb1⟩

/-- What bytes hands out. -/
def BytesPost (w : World) (l : List UInt8) (e : Ending) (w' : World) : Prop :=
  ∃ g cap, e = .returned (.slice (some ⟨g, 0, none⟩) l.length cap) ∧ w.heap.size ≤ g ∧ g < w'.heap.size ∧ l.length ≤ cap ∧ cap ≤ maxLen ∧ Bts w' (some ⟨g, 0, none⟩) l ∧ Below w.heap.size w w'
theorem bytes_world (W : World) (s : ByteArray) : Below W.heap.size W (Lib.bytesWorld W 5 s) :=
  ⟨rfl, rfl, rfl, by rw [Lib.bytesWorld_size]; omega, fun k hk => Lib.bytesWorld_at_old W _ s k hk⟩

set_option maxHeartbeats 2000000 in
set_option maxRecDepth 100000 in
theorem bytes_of (n k : Int) (l : List UInt8) (w : World) (hl : l.length ≤ 1000000) (cL : Calls Try.prog 22 #[.int .i64 n, .int .i64 k] w (LetPost w l)) :
    Calls Try.prog 15 #[.int .i64 n, .int .i64 k] w (BytesPost w l) := by
  go_enter Try.func15, Try.ntmps15
  go_wp2_with (go_at_call 22; (with_reducible refine cL.mono ?_))
  rintro e W1 ⟨rfl, hb⟩
  have hc := Lib.run_convert_string_bytes (P := Try.prog) W1 9 39 5 ⟨l.toArray⟩ Try.underlying9 Try.underlying39 Try.underlying5
  have hs : (⟨l.toArray⟩ : ByteArray).size = l.length := by simp [ByteArray.size]
  have hB := bytes_world W1 ⟨l.toArray⟩
  have hcell := Lib.bytesWorld_cell W1 5 ⟨l.toArray⟩
  have hsz := Lib.bytesWorld_size W1 5 ⟨l.toArray⟩
  have hge := grownCap_ge W1 (⟨l.toArray⟩ : ByteArray).size 0 5
  have hle := grownCap_le_maxLen W1 (⟨l.toArray⟩ : ByteArray).size 0 5 (by rw [hs]; unfold maxLen; omega)
  rw [hs] at hc hge hle hcell
  obtain ⟨c, hcc⟩ : ∃ c, c = grownCap W1 l.length 0 5 := ⟨_, rfl⟩
  rw [← hcc] at hc hge hle
  obtain ⟨W2, hW2⟩ : ∃ W, W = Lib.bytesWorld W1 5 ⟨l.toArray⟩ := ⟨_, rfl⟩
  rw [← hW2] at hc hB hcell hsz
  have hbt : Bts W2 (some ⟨W1.heap.size, 0, none⟩) l := .inr ⟨_, rfl, fun j hj => by
    have e : (⟨W1.heap.size, 0, none⟩ : Addr).add j = ⟨W1.heap.size, j, none⟩ := by
      unfold Addr.add
      by_cases h0 : j = 0 <;> simp [h0]
    rw [e, hcell j hj]
    simp [List.getElem?_eq_getElem hj]⟩
  have H := Lib.hid (And.intro hge (And.intro hle (And.intro hbt (And.intro hsz hB))))
  clear hge hle hbt hsz hB hcell hcc hW2 hs cL
  go_wp2
  go_ret
  obtain ⟨h1, h2, h3, h4, h5⟩ := H.out
  exact ⟨W1.heap.size, c, rfl, hb.size, by omega, h1, h2, h3, hb.trans (h5.mono hb.size)⟩

theorem bytes_nat (n : Nat) (k : Int) (w : World) (hn : n ≤ 1000000) (hk0 : -1000000000000 ≤ k) (hk1 : k ≤ 1000000000000) :
    Calls Try.prog 15 #[.int .i64 n, .int .i64 k] w (BytesPost w (letters n k)) :=
  bytes_of n k _ w (by rw [letters_len]; omega) (Letters_any n k w hn hk0 hk1)

/-! ### slices of numbers that came in -/
theorem wf_bounds {n : Int} (h : (Lit.int .i64 n).wf = true) : -9223372036854775808 ≤ n ∧ n ≤ 9223372036854775807 := by
  unfold Lit.wf at h
  rw [Bool.and_eq_true, decide_eq_true_eq, decide_eq_true_eq] at h
  have h1 : IntKind.i64.min = -9223372036854775808 := by decide
  have h2 : IntKind.i64.max = 9223372036854775807 := by decide
  rw [h1, h2] at h
  exact h
theorem RowIn.its {w : World} {a : Option Addr} {len cap : Nat} {zs : List Int} (h : RowIn .i64 w a len cap zs) :
    Its w a (zs.take len) ∧ (zs.take len).length = len ∧ len ≤ cap ∧ ∀ p ∈ zs.take len, -9223372036854775808 ≤ p ∧ p ≤ 9223372036854775807 := by
  rcases h with ⟨rfl, rfl, rfl, rfl⟩ | ⟨x, rfl, h1, h2, h3, h4, h5⟩
  · exact ⟨.inl rfl, rfl, Nat.le_refl _, fun p hp => by cases hp⟩
  · refine ⟨.inr ⟨x, rfl, fun j hj => ?_⟩, by rw [List.length_take]; omega, h1, fun p hp => wf_bounds (h5 p (List.mem_of_mem_take hp))⟩
    rw [List.length_take] at hj
    rw [h4 j (by omega), List.getElem_take]
    simp [List.getD, List.getElem?_eq_getElem (show j < zs.length by omega)]

end Go.Proofs.Ytbolminblofhgaa
