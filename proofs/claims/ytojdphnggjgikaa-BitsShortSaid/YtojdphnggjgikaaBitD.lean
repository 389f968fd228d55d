/-
  Two rows of bytes held against each other; signs; hashes; what the document fixes.
-/
import Derived.Test.YtojdphnggjgikaaBitC
import Derived.Deep.QuietTactic
import Derived.BigQuiet
import Derived.LoopTactic
import Derived.WalkLawsBesides
import Derived.Laws.BitsAllLaws
set_option linter.unusedVariables false
namespace Go.Proofs.Ytojdphnggjgikaa
open Go.RowKit

/-- Two rows of bytes are the same. -/
def sameB (l m : List UInt8) : Bool := decide (l = m)
theorem sameB_self (l : List UInt8) : sameB l l = true := by simp [sameB]

theorem take_more (l m : List UInt8) (j : Nat) (h1 : j < l.length) (h2 : j < m.length) (h : l.take j = m.take j) (he : l[j]'h1 = m[j]'h2) : l.take (j + 1) = m.take (j + 1) := by
  rw [List.take_succ_eq_append_getElem h1, List.take_succ_eq_append_getElem h2, h, he]

set_option maxHeartbeats 2000000 in
set_option maxRecDepth 100000 in
theorem Bytes_any (a b : Option Addr) (n m ca cb : Nat) (l r : List UInt8) (w : World) (hl : l.length = n) (hr : r.length = m) (hn : n ≤ 1000000) (hm : m ≤ 1000000) (ha : Bts w a l) (hb : Bts w b r) :
    Calls Try.prog 12 #[.slice a n ca, .slice b m cb] w fun e w' => e = .returned (.bool (sameB l r)) ∧ Below w.heap.size w w' := by
  by_cases hnm : n = m
  · subst hnm
    go_enter Try.func12, Try.ntmps12
    go_wp2
    go_loopw [5] (fun i wr => ∃ j : Nat, i = .int .i64 j ∧ j ≤ n ∧ Hid (l.take j = r.take j) ∧ Below w.heap.size w wr) (fun i _ => n - (intOf i).toNat)
    case atStart => exact ⟨0, rfl, Nat.zero_le _, rfl, Below.refl _ _⟩
    case round =>
      obtain ⟨j, rfl, hj, HT, hbw⟩ := hrel
      by_cases hlt : j < n
      · obtain ⟨x, rfl, hx⟩ := (ha.later hbw).at j (by omega)
        obtain ⟨y, rfl, hy⟩ := (hb.later hbw).at j (by omega)
        by_cases hxy : l[j]'(by omega) = r[j]'(by omega)
        · have HE := Lib.hid (take_more l r j (by omega) (by omega) HT.out hxy)
          rw [← hxy] at hy
          obtain ⟨c, hc⟩ : ∃ c, c = l[j]'(by omega) := ⟨_, rfl⟩
          rw [← hc] at hx hy
          clear hc hxy HT
          go_wp2_with fail
          go_quiet (fail)
          go_wp2
          go_roundw
          case rel => exact ⟨j + 1, by go_num, by omega, HE, below_drewN hbw _⟩
          case measure => simp [intOf]; omega
        · have HN : Hid (sameB l r = false) := by
            show sameB l r = false
            simp only [sameB, decide_eq_false_iff_not]
            rintro rfl
            exact hxy rfl
          have hne : (((l[j]'(by omega)).toNat : Int) != ((r[j]'(by omega)).toNat : Int)) = true := bne_iff_ne.2 (fun e => hxy (UInt8.toNat_inj.1 (by omega)))
          obtain ⟨c, hc⟩ : ∃ c, c = l[j]'(by omega) := ⟨_, rfl⟩
          obtain ⟨d, hd⟩ : ∃ d, d = r[j]'(by omega) := ⟨_, rfl⟩
          rw [← hc] at hx hne
          rw [← hd] at hy hne
          clear hc hd hxy HT
          go_wp2_with fail
          go_quiet (fail)
          go_wp2
          go_ret
          rw [HN.out]
          exact ⟨rfl, below_drewN hbw _⟩
      · have HS : Hid (sameB l r = true) := by
          show sameB l r = true
          have h := HT.out
          rw [List.take_of_length_le (by omega), List.take_of_length_le (by omega)] at h
          rw [h]; exact sameB_self _
        go_wp2
        go_ret
        rw [HS.out]
        exact ⟨rfl, hbw⟩
  · have HN : Hid (sameB l r = false) := by
      show sameB l r = false
      simp only [sameB, decide_eq_false_iff_not]
      rintro rfl
      exact hnm (hl.symm.trans hr)
    have hne : ((n : Int) != (m : Int)) = true := bne_iff_ne.2 (by omega)
    go_enter Try.func12, Try.ntmps12
    go_wp2
    go_ret
    rw [HN.out]
    exact ⟨rfl, Below.refl _ _⟩

theorem Bytes_same (a b : Option Addr) (n m ca cb : Nat) (l : List UInt8) (w : World) (hl : l.length = n) (hr : l.length = m) (hn : n ≤ 1000000) (ha : Bts w a l) (hb : Bts w b l) :
    Calls Try.prog 12 #[.slice a n ca, .slice b m cb] w fun e w' => e = .returned (.bool true) ∧ Below w.heap.size w w' := by
  have := Bytes_any a b n m ca cb l l w hl hr hn (by omega) ha hb
  rw [sameB_self] at this
  exact this

/-- One more byte of a hash. -/
def hStep (h : Int) (b : UInt8) : Int := bits .xor .u32 h ((b.toNat : Int) % 4294967296) * 16777619 % 4294967296
def hashL (l : List UInt8) : Int := l.foldl hStep 2166136261

theorem hashL_snoc (l : List UInt8) (b : UInt8) : hashL (l ++ [b]) = hStep (hashL l) b := by simp [hashL]
theorem hashL_range (l : List UInt8) : 0 ≤ hashL l ∧ hashL l < 4294967296 := by
  rcases List.eq_nil_or_concat l with rfl | ⟨m, b, rfl⟩
  · decide
  · rw [List.concat_eq_append, hashL_snoc]
    unfold hStep
    omega
theorem take_snoc8 (s : ByteArray) (k : Nat) (h : k < s.size) : s.data.toList.take (k + 1) = s.data.toList.take k ++ [s[k]] := by
  rw [List.take_succ_eq_append_getElem (by simpa using h)]; rfl

set_option maxHeartbeats 2000000 in
set_option maxRecDepth 100000 in
theorem Hash_any (s : ByteArray) (w : World) (hs : s.size ≤ maxLen) :
    Calls Try.prog 23 #[.string s] w fun e w' => e = .returned (.int .u32 (hashL s.data.toList)) ∧ w = w' := by
  unfold maxLen at hs
  go_enter Try.func23, Try.ntmps23
  go_wp2
  go_loop [3, 7] (fun h i => ∃ (k : Nat) (v : Int), i = .int .i64 k ∧ h = .int .u32 v ∧ k ≤ s.size ∧ 0 ≤ v ∧ v < 4294967296 ∧ Hid (v = hashL (s.data.toList.take k)))
    (fun _ i => s.size - (intOf i).toNat)
  case atStart => exact ⟨0, _, rfl, rfl, Nat.zero_le _, by decide, by decide, rfl⟩
  case round =>
    obtain ⟨k, v, rfl, rfl, hk, hv0, hv1, HV⟩ := hrel
    by_cases hlt : k < s.size
    · go_wp2
      go_round
      case rel => exact ⟨k + 1, _, by go_num, rfl, by omega, by omega, by omega, by rw [take_snoc8 s k hlt]; show _ = _; rw [hashL_snoc, ← HV.out]; rfl⟩
      case measure => simp [intOf]; omega
    · go_wp2
      go_ret
      rw [HV.out, List.take_of_length_le (by simp; omega)]
      exact ⟨rfl, rfl⟩

set_option maxHeartbeats 2000000 in
set_option maxRecDepth 100000 in
theorem rHash_any (s : ByteArray) (w : World) (hs : s.size ≤ maxLen) :
    Calls Try.prog 24 #[.string s] w fun e w' => e = .returned (.int .i64 (hashL s.data.toList)) ∧ w = w' := by
  unfold maxLen at hs
  go_enter Try.func24, Try.ntmps24
  go_wp2
  go_loop [3, 4] (fun h i => ∃ (k : Nat) (v : Int), i = .int .i64 k ∧ h = .int .u32 v ∧ k ≤ s.size ∧ 0 ≤ v ∧ v < 4294967296 ∧ Hid (v = hashL (s.data.toList.take k)))
    (fun _ i => s.size - (intOf i).toNat)
  case atStart => exact ⟨0, _, rfl, rfl, Nat.zero_le _, by decide, by decide, rfl⟩
  case round =>
    obtain ⟨k, v, rfl, rfl, hk, hv0, hv1, HV⟩ := hrel
    by_cases hlt : k < s.size
    · go_wp2
      go_round
      case rel => exact ⟨k + 1, _, by go_num, rfl, by omega, by omega, by omega, by rw [take_snoc8 s k hlt]; show _ = _; rw [hashL_snoc, ← HV.out]; rfl⟩
      case measure => simp [intOf]; omega
    · go_wp2
      go_ret
      rw [HV.out, List.take_of_length_le (by simp; omega)]
      exact ⟨rfl, rfl⟩


theorem not64 (a : Nat) (ha : a < 18446744073709551616) : bits .xor .u64 IntKind.u64.max (a : Int) = 18446744073709551615 - (a : Int) := by
  show IntKind.u64.wrap ((BitVec.ofInt 64 IntKind.u64.max ^^^ BitVec.ofInt 64 (a : Int)).toNat : Int) = _
  have h1 : BitVec.ofInt 64 IntKind.u64.max = BitVec.allOnes 64 := by decide
  rw [h1, BitVec.allOnes_xor, BitVec.toNat_not, ofInt_u64 a (by omega)]
  simp [IntKind.wrap, IntKind.bits, IntKind.signed]
  omega
theorem not64i (x : Int) (h0 : 0 ≤ x) (h1 : x < 18446744073709551616) : bits .xor .u64 IntKind.u64.max x = 18446744073709551615 - x := by
  obtain ⟨a, rfl⟩ := Int.eq_ofNat_of_zero_le h0
  exact not64 a (by omega)
theorem wrapU (n : Int) : IntKind.u64.wrap n = n % 18446744073709551616 := by simp [IntKind.wrap, IntKind.bits, IntKind.signed]
theorem bit1 (v : Nat) (h : v < 18446744073709551616) : bits .and .u64 (v : Int) 1 = (v : Int) % 2 := bits_mask .u64 64 (by decide) wraps_u64 1 (by decide) (v : Int) (by omega) (by omega)

/-- A sign folded, and unfolded. -/
def zigI (n : Int) : Int := if n < 0 then -2 * n - 1 else 2 * n
def zagI (v : Nat) : Int := if v % 2 = 1 then -((v / 2 : Nat) : Int) - 1 else ((v / 2 : Nat) : Int)

theorem zigI_range (n : Int) (h0 : -9223372036854775808 ≤ n) (h1 : n ≤ 9223372036854775807) : 0 ≤ zigI n ∧ zigI n < 18446744073709551616 := by
  unfold zigI; split <;> omega
theorem zagI_range (v : Nat) (hv : v < 18446744073709551616) : -9223372036854775808 ≤ zagI v ∧ zagI v ≤ 9223372036854775807 := by
  unfold zagI; split <;> omega
theorem zag_zig (n : Int) : zagI (zigI n).toNat = n := by
  unfold zagI zigI; split <;> split <;> omega
theorem zig_zag (v : Nat) : zigI (zagI v) = (v : Int) := by
  unfold zagI zigI; split <;> split <;> omega

theorem ret_u64 {a b : Int} (h : a = b) : Ending.returned (.int .u64 a) = .returned (.int .u64 b) := by rw [h]
theorem ret_i64 {a b : Int} (h : a = b) : Ending.returned (.int .i64 a) = .returned (.int .i64 b) := by rw [h]

set_option maxHeartbeats 1000000 in
theorem Zig_any (n : Int) (w : World) (h0 : -9223372036854775808 ≤ n) (h1 : n ≤ 9223372036854775807) :
    Calls Try.prog 15 #[.int .i64 n] w fun e w' => e = .returned (.int .u64 (zigI n)) ∧ w = w' := by
  have H := Lib.hid (show zigI n = if n < 0 then -2 * n - 1 else 2 * n from rfl)
  by_cases hn : n < 0
  · go_enter Try.func15, Try.ntmps15
    go_wp2
    go_ret
    refine ⟨ret_u64 ?_, rfl⟩
    rw [H.out, if_pos hn, wrapU, wrapU, not64i _ (by omega) (by omega)]
    omega
  · go_enter Try.func15, Try.ntmps15
    go_wp2
    go_ret
    refine ⟨ret_u64 ?_, rfl⟩
    rw [H.out, if_neg (by omega)]
    omega

theorem rZig_any (n : Int) (w : World) (h0 : -9223372036854775808 ≤ n) (h1 : n ≤ 9223372036854775807) :
    Calls Try.prog 16 #[.int .i64 n] w fun e w' => e = .returned (.int .u64 (zigI n)) ∧ w = w' := by
  have H := Lib.hid (show zigI n = if n < 0 then -2 * n - 1 else 2 * n from rfl)
  by_cases hn : n < 0
  · go_enter Try.func16, Try.ntmps16
    go_wp2
    go_ret
    refine ⟨ret_u64 ?_, rfl⟩
    rw [H.out, if_pos hn]
    omega
  · go_enter Try.func16, Try.ntmps16
    go_wp2
    go_ret
    refine ⟨ret_u64 ?_, rfl⟩
    rw [H.out, if_neg (by omega)]
    omega

theorem Zag_any (v : Nat) (w : World) (hv : v < 18446744073709551616) :
    Calls Try.prog 17 #[.int .u64 v] w fun e w' => e = .returned (.int .i64 (zagI v)) ∧ w = w' := by
  have H := Lib.hid (show zagI v = if v % 2 = 1 then -((v / 2 : Nat) : Int) - 1 else ((v / 2 : Nat) : Int) from rfl)
  by_cases hn : v % 2 = 1
  · have hb : (bits .and .u64 (v : Int) 1 == 1) = true := by rw [bit1 v hv]; simpa using (by omega : (v : Int) % 2 = 1)
    go_enter Try.func17, Try.ntmps17
    go_wp2
    go_ret
    refine ⟨ret_i64 ?_, rfl⟩
    rw [H.out, if_pos hn, not64i _ (by omega) (by omega)]
    unfold wrap64
    omega
  · have hb : (bits .and .u64 (v : Int) 1 == 1) = false := by rw [bit1 v hv]; simpa using (by omega : ¬ (v : Int) % 2 = 1)
    go_enter Try.func17, Try.ntmps17
    go_wp2
    go_ret
    refine ⟨ret_i64 ?_, rfl⟩
    rw [H.out, if_neg hn]
    omega

theorem rZag_any (v : Nat) (w : World) (hv : v < 18446744073709551616) :
    Calls Try.prog 18 #[.int .u64 v] w fun e w' => e = .returned (.int .i64 (zagI v)) ∧ w = w' := by
  have H := Lib.hid (show zagI v = if v % 2 = 1 then -((v / 2 : Nat) : Int) - 1 else ((v / 2 : Nat) : Int) from rfl)
  by_cases hn : v % 2 = 1
  · have hb : ((v : Int) % 2 == 1) = true := by simpa using (by omega : (v : Int) % 2 = 1)
    go_enter Try.func18, Try.ntmps18
    go_wp2
    go_ret
    refine ⟨ret_i64 ?_, rfl⟩
    rw [H.out, if_pos hn]
    omega
  · have hb : ((v : Int) % 2 == 1) = false := by simpa using (by omega : ¬ (v : Int) % 2 = 1)
    go_enter Try.func18, Try.ntmps18
    go_wp2
    go_ret
    refine ⟨ret_i64 ?_, rfl⟩
    rw [H.out, if_neg hn]
    omega

end Go.Proofs.Ytojdphnggjgikaa
