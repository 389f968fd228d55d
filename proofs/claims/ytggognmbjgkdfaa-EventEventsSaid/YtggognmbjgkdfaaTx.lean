/-
  Texts laid and taken: bits.Text, bits.Take, and the reference's; signs folded: Zig, Zag, and the reference's.
-/
import Derived.Test.YtggognmbjgkdfaaStA
import Derived.Test.YtggognmbjgkdfaaStR
set_option linter.unusedVariables false
namespace Go.Proofs.Ytggognmbjgkdfaa
open Go.RowKit

theorem not64 (a : Nat) (ha : a < 18446744073709551616) : bits .xor .u64 IntKind.u64.max (a : Int) = 18446744073709551615 - (a : Int) := by
  show IntKind.u64.wrap ((BitVec.ofInt 64 IntKind.u64.max ^^^ BitVec.ofInt 64 (a : Int)).toNat : Int) = _
  have h1 : BitVec.ofInt 64 IntKind.u64.max = BitVec.allOnes 64 := by decide
  rw [h1, BitVec.allOnes_xor, BitVec.toNat_not, ofInt_u64 a (by omega)]
  simp [IntKind.wrap, IntKind.bits, IntKind.signed]
  omega
theorem not64i (x : Int) (h0 : 0 ≤ x) (h1 : x < 18446744073709551616) : bits .xor .u64 IntKind.u64.max x = 18446744073709551615 - x := by
  obtain ⟨a, rfl⟩ := Int.eq_ofNat_of_zero_le h0
  exact not64 a (by omega)
theorem wrapU (n : Int) : IntKind.u64.wrap n = n % 18446744073709551616 := by simp [IntKind.wrap, IntKind.bits, IntKind.signed]
theorem bit1 (v : Nat) (h : v < 18446744073709551616) : bits .and .u64 (v : Int) 1 = (v : Int) % 2 := bits_mask .u64 64 (by decide) wraps_u64 1 (by decide) (v : Int) (by omega) (by omega)

/-- A sign folded, and unfolded. -/
def zigI (n : Int) : Int := if n < 0 then -2 * n - 1 else 2 * n
def zagI (v : Nat) : Int := if v % 2 = 1 then -((v / 2 : Nat) : Int) - 1 else ((v / 2 : Nat) : Int)

theorem zigI_range (n : Int) (h0 : -9223372036854775808 ≤ n) (h1 : n ≤ 9223372036854775807) : 0 ≤ zigI n ∧ zigI n < 18446744073709551616 := by
  unfold zigI; split <;> omega
theorem zagI_range (v : Nat) (hv : v < 18446744073709551616) : -9223372036854775808 ≤ zagI v ∧ zagI v ≤ 9223372036854775807 := by
  unfold zagI; split <;> omega
theorem zag_zig (n : Int) : zagI (zigI n).toNat = n := by
  unfold zagI zigI; split <;> split <;> omega
theorem zig_zag (v : Nat) : zigI (zagI v) = (v : Int) := by
  unfold zagI zigI; split <;> split <;> omega

theorem ret_u64 {a b : Int} (h : a = b) : Ending.returned (.int .u64 a) = .returned (.int .u64 b) := by rw [h]
theorem ret_i64 {a b : Int} (h : a = b) : Ending.returned (.int .i64 a) = .returned (.int .i64 b) := by rw [h]

set_option maxHeartbeats 1000000 in
theorem Zig_any (n : Int) (w : World) (h0 : -9223372036854775808 ≤ n) (h1 : n ≤ 9223372036854775807) :
    Calls Try.prog 49 #[.int .i64 n] w fun e w' => e = .returned (.int .u64 (zigI n)) ∧ w = w' := by
  have H := Lib.hid (show zigI n = if n < 0 then -2 * n - 1 else 2 * n from rfl)
  by_cases hn : n < 0
  · go_enter Try.func49, Try.ntmps49
    go_wp2
    go_ret
    refine ⟨ret_u64 ?_, rfl⟩
    rw [H.out, if_pos hn, wrapU, wrapU, not64i _ (by omega) (by omega)]
    omega
  · go_enter Try.func49, Try.ntmps49
    go_wp2
    go_ret
    refine ⟨ret_u64 ?_, rfl⟩
    rw [H.out, if_neg (by omega)]
    omega

theorem rZig_any (n : Int) (w : World) (h0 : -9223372036854775808 ≤ n) (h1 : n ≤ 9223372036854775807) :
    Calls Try.prog 53 #[.int .i64 n] w fun e w' => e = .returned (.int .u64 (zigI n)) ∧ w = w' := by
  have H := Lib.hid (show zigI n = if n < 0 then -2 * n - 1 else 2 * n from rfl)
  by_cases hn : n < 0
  · go_enter Try.func53, Try.ntmps53
    go_wp2
    go_ret
    refine ⟨ret_u64 ?_, rfl⟩
    rw [H.out, if_pos hn]
    omega
  · go_enter Try.func53, Try.ntmps53
    go_wp2
    go_ret
    refine ⟨ret_u64 ?_, rfl⟩
    rw [H.out, if_neg (by omega)]
    omega

theorem Zag_any (v : Nat) (w : World) (hv : v < 18446744073709551616) :
    Calls Try.prog 98 #[.int .u64 v] w fun e w' => e = .returned (.int .i64 (zagI v)) ∧ w = w' := by
  have H := Lib.hid (show zagI v = if v % 2 = 1 then -((v / 2 : Nat) : Int) - 1 else ((v / 2 : Nat) : Int) from rfl)
  by_cases hn : v % 2 = 1
  · have hb : (bits .and .u64 (v : Int) 1 == 1) = true := by rw [bit1 v hv]; simpa using (by omega : (v : Int) % 2 = 1)
    go_enter Try.func98, Try.ntmps98
    go_wp2
    go_ret
    refine ⟨ret_i64 ?_, rfl⟩
    rw [H.out, if_pos hn, not64i _ (by omega) (by omega)]
    unfold wrap64
    omega
  · have hb : (bits .and .u64 (v : Int) 1 == 1) = false := by rw [bit1 v hv]; simpa using (by omega : ¬ (v : Int) % 2 = 1)
    go_enter Try.func98, Try.ntmps98
    go_wp2
    go_ret
    refine ⟨ret_i64 ?_, rfl⟩
    rw [H.out, if_neg hn]
    omega

theorem rZag_any (v : Nat) (w : World) (hv : v < 18446744073709551616) :
    Calls Try.prog 73 #[.int .u64 v] w fun e w' => e = .returned (.int .i64 (zagI v)) ∧ w = w' := by
  have H := Lib.hid (show zagI v = if v % 2 = 1 then -((v / 2 : Nat) : Int) - 1 else ((v / 2 : Nat) : Int) from rfl)
  by_cases hn : v % 2 = 1
  · have hb : ((v : Int) % 2 == 1) = true := by simpa using (by omega : (v : Int) % 2 = 1)
    go_enter Try.func73, Try.ntmps73
    go_wp2
    go_ret
    refine ⟨ret_i64 ?_, rfl⟩
    rw [H.out, if_pos hn]
    omega
  · have hb : ((v : Int) % 2 == 1) = false := by simpa using (by omega : ¬ (v : Int) % 2 = 1)
    go_enter Try.func73, Try.ntmps73
    go_wp2
    go_ret
    refine ⟨ret_i64 ?_, rfl⟩
    rw [H.out, if_neg hn]
    omega

/-- A text laid. -/
def txt (l : List UInt8) (s : ByteArray) : List UInt8 := l ++ Lib.uvarint s.size ++ s.data.toList
theorem txt_len (l : List UInt8) (s : ByteArray) : (txt l s).length = l.length + (Lib.uvarint s.size).length + s.size := by
  simp [txt]; omega

set_option maxHeartbeats 2000000 in
set_option maxRecDepth 100000 in
theorem Text_any (a : Option Addr) (n cap : Nat) (l : List UInt8) (s : ByteArray) (w : World) (hl : l.length = n) (hn : n ≤ 1000000) (hs : s.size ≤ 1000000) (hb : Bts w a l) (hA : a = none → cap = 0) :
    Calls Try.prog 77 #[.slice a n cap, .string s] w (OwnPost w.heap.size (txt l s).length (txt l s) w) := by
  obtain ⟨i0, hi, hz0, hz1, hz2⟩ := info_parts infoByte8
  have hlen := Lib.uvarint_length64 (x := s.size) (by omega)
  obtain ⟨W1, hmk, ho1, hg1⟩ := run_make_own (P := Try.prog) w w.heap.size 25 5 i0 (.int .u8 0) 1 Try.underlying25 hi hz0 hz1 .i64 .i64 (n + 10 + s.size) (by rw [hz2]; omega) (by unfold maxLen; omega) (Nat.le_refl _)
  have hb1 : Below w.heap.size w W1 := (Below.refl _ _).grown hg1 (Nat.le_refl _) (fun k hk => by cases hk)
  have hB1 : Bts W1 a l := hb.later hb1
  have ec : ((n + 10 + s.size : Nat) : Int) = (n : Int) + 10 + (s.size : Int) := by omega
  rw [ec] at hmk
  clear ec hg1
  go_enter Try.func77, Try.ntmps77
  go_wp2_with (at_builtin; refine wpList_append_bts _ rfl _ _ 25 rfl w.heap.size 5 i0 Try.underlying25 hi hz0 hz1 hz2 _ _ _ rfl ho1 _ _ _ l rfl hl hB1 hA (by omega) hb1.size ?_)
  intro v2 W2 ho2 hg2
  obtain ⟨a2, k2, rfl⟩ := own_slice ho2
  have hb2 := below_grown hb1 (Nat.le_refl _) ho1 hg2
  have cl := lay_any w.heap.size n k2 a2 l s.size (by omega) W2 ho2 hb2.size hn
  clear ho1 hmk hg2 ho2 hB1
  go_wp2_with (go_at_call 78; refine cl.mono ?_)
  rintro e W3 ⟨a3, k3, rfl, ho3, b3⟩
  have hb3 := hb2.trans b3
  clear cl b3 hb2
  go_wp2_with (at_builtin; refine Lib.wpList_append_own_string _ rfl _ _ 25 9 rfl w.heap.size 5 i0 Try.underlying25 Try.underlying9 hi hz0 hz1 hz2 _ _ _ rfl ho3 s rfl (by unfold maxLen; omega) (by omega) hb3.size ?_)
  intro v4 W4 ho4 hg4 _
  obtain ⟨a4, k4, rfl⟩ := own_slice ho4
  have hb4 := below_grown hb3 (Nat.le_refl _) ho3 hg4
  rw [byteCells_str, byteCells_app] at ho4
  have e : n + (Lib.uvarint s.size).length + s.size = (txt l s).length := by rw [txt_len, hl]
  have e2 : l ++ Lib.uvarint s.size ++ s.data.toList = txt l s := rfl
  rw [e2] at ho4
  have H4 := Lib.hid ho4
  have E := Lib.hid e
  clear ho3 hg4 ho4 hb3 e e2
  go_wp2
  go_ret
  have h5 := H4.out
  rw [E.out] at h5 ⊢
  exact ⟨a4, k4, rfl, h5, hb4⟩

set_option maxHeartbeats 2000000 in
set_option maxRecDepth 100000 in
theorem rText_any (a : Option Addr) (n cap : Nat) (l : List UInt8) (s : ByteArray) (w : World) (hl : l.length = n) (hn : n ≤ 1000000) (hs : s.size ≤ 1000000) (hb : Bts w a l) (hA : a = none → cap = 0) :
    Calls Try.prog 51 #[.slice a n cap, .string s] w (OwnPost w.heap.size (txt l s).length (txt l s) w) := by
  obtain ⟨i0, hi, hz0, hz1, hz2⟩ := info_parts infoByte8
  have hlen := Lib.uvarint_length64 (x := s.size) (by omega)
  have ho1 : (w.alloc (.cells #[] 5)).ownsRow w.heap.size 5 1 (.slice (some ⟨w.heap.size, 0, none⟩) 0 0) 0 [] := World.ownsRow_lit w #[] 0 (Nat.le_refl _) (Nat.zero_le _) rfl
  have hb1 : Below w.heap.size w (w.alloc (.cells #[] 5)) := (Below.refl _ w).alloc (Nat.le_refl _) _
  have hB1 := hb.later hb1
  go_enter Try.func51, Try.ntmps51
  go_wp2_with (at_builtin; refine wpList_append_bts _ rfl _ _ 25 rfl w.heap.size 5 i0 Try.underlying25 hi hz0 hz1 hz2 _ _ _ rfl ho1 _ _ _ l rfl hl hB1 hA (by omega) hb1.size ?_)
  intro v2 W2 ho2 hg2
  obtain ⟨a2, k2, rfl⟩ := own_slice ho2
  have hb2 := below_grown hb1 (Nat.le_refl _) ho1 hg2
  have H2 := Lib.hid ho2
  clear ho1 hg2 ho2 hB1
  go_wp2_with (go_at_call 52; refine (rVarint_any s.size (by omega) _).mono ?_)
  rintro e W3 ⟨a3, k3, rfl, ho3, b3⟩
  have hb3 : Below w.heap.size w W3 := hb2.trans (b3.mono hb2.size)
  have H2b := H2.out
  have hO3 : W3.ownsRow w.heap.size 5 1 (.slice a2 n k2) n (Lib.byteCells l) := H2b.kept (row := none) ⟨b3.os, b3.tape, b3.output, b3.size, fun j hj _ => b3.block j hj⟩ (by cases a2 <;> simp [Value.ownBlock])
  have hS3 := Bts.own ho3
  have hA3 : a3 = none → k3 = 0 := by
    intro h
    subst h
    rcases ho3.2 with ⟨h0, _⟩ | ⟨g, cap', cur, h0, _⟩
    · injection h0
    · cases h0
  clear H2 H2b ho3 b3 hb2
  go_wp2_with (at_builtin; refine wpList_append_bts _ rfl _ _ 25 rfl w.heap.size 5 i0 Try.underlying25 hi hz0 hz1 hz2 _ _ _ rfl hO3 _ _ _ (Lib.uvarint s.size) rfl rfl hS3 hA3 (by omega) hb3.size ?_)
  intro v4 W4 ho4 hg4
  obtain ⟨a4, k4, rfl⟩ := own_slice ho4
  have hb4 := below_grown hb3 (Nat.le_refl _) hO3 hg4
  clear hO3 hS3 hA3 hg4 hb3
  go_wp2_with (at_builtin; refine Lib.wpList_append_own_string _ rfl _ _ 25 9 rfl w.heap.size 5 i0 Try.underlying25 Try.underlying9 hi hz0 hz1 hz2 _ _ _ rfl ho4 s rfl (by unfold maxLen; omega) (by omega) hb4.size ?_)
  intro v5 W5 ho5 hg5 _
  obtain ⟨a5, k5, rfl⟩ := own_slice ho5
  have hb5 := below_grown hb4 (Nat.le_refl _) ho4 hg5
  rw [byteCells_str, byteCells_app, byteCells_app, ← List.append_assoc] at ho5
  have e : n + (Lib.uvarint s.size).length + s.size = (txt l s).length := by rw [txt_len, hl]
  have e2 : l ++ Lib.uvarint s.size ++ s.data.toList = txt l s := rfl
  rw [e2] at ho5
  have H5 := Lib.hid ho5
  have E := Lib.hid e
  clear ho4 hg5 ho5 hb4 e e2
  go_wp2
  go_ret
  have h5 := H5.out
  rw [E.out] at h5 ⊢
  exact ⟨a5, k5, rfl, h5, hb5⟩

/-- What bytes are read as, as a text. -/
def takeL (l : List UInt8) : ByteArray × Nat :=
  if (unv l).2 = 0 ∨ l.length - (unv l).2 < (unv l).1 then (⟨#[]⟩, 0)
  else (⟨((l.drop (unv l).2).take (unv l).1).toArray⟩, (unv l).2 + (unv l).1)

theorem takeL_no {l : List UInt8} (h : (unv l).2 = 0 ∨ l.length - (unv l).2 < (unv l).1) : takeL l = (⟨#[]⟩, 0) := if_pos h
theorem takeL_yes {l : List UInt8} (h : ¬ ((unv l).2 = 0 ∨ l.length - (unv l).2 < (unv l).1)) : takeL l = (⟨((l.drop (unv l).2).take (unv l).1).toArray⟩, (unv l).2 + (unv l).1) := if_neg h
theorem tk_ret {s t : ByteArray} {m k : Int} (h1 : s = t) (h2 : m = k) : Ending.returned (.tuple #[.string s, .int .i64 m]) = .returned (.tuple #[.string t, .int .i64 k]) := by rw [h1, h2]

set_option maxHeartbeats 2000000 in
set_option maxRecDepth 100000 in
theorem Take_any (a : Option Addr) (n cap : Nat) (l : List UInt8) (w : World) (hl : l.length = n) (hn : n ≤ 1000000) (hc : n ≤ cap) (h : Bts w a l) :
    Calls Try.prog 94 #[.slice a n cap] w fun e w' => e = .returned (.tuple #[.string (takeL l).1, .int .i64 (takeL l).2]) ∧ w = w' := by
  have c1 := Unvarint_any a n cap l w hl (by unfold maxLen; omega) h
  have hb := unv_bounds l
  have HN := Lib.hid (takeL_no (l := l))
  have HY := Lib.hid (takeL_yes (l := l))
  obtain ⟨x, hx⟩ : ∃ x, x = (unv l).1 := ⟨_, rfl⟩
  obtain ⟨y, hy⟩ : ∃ y, y = (unv l).2 := ⟨_, rfl⟩
  rw [← hx, ← hy] at c1 hb HN HY
  rw [hl] at hb HN HY
  obtain ⟨hb1, hb2⟩ := hb
  clear hx hy
  by_cases h0 : y = 0
  · have h0' : ((y : Int) == 0) = true := by simpa using h0
    have H0 := Lib.hid h0
    clear h0 HY h
    go_enter Try.func94, Try.ntmps94
    go_wp2_with (first | (go_at_call 112; (with_reducible refine c1.mono ?_); rintro e W2 ⟨rfl, rfl⟩))
    go_ret2
    rw [HN.out (.inl H0.out)]
    exact ⟨rfl, rfl⟩
  · have h0' : ((y : Int) == 0) = false := by simpa using h0
    by_cases h1 : n - y < x
    · have h1' : (n : Int) - (y : Int) < (x : Int) := by omega
      clear HY h
      go_enter Try.func94, Try.ntmps94
      go_wp2_with (first | (go_at_call 112; (with_reducible refine c1.mono ?_); rintro e W2 ⟨rfl, rfl⟩))
      go_ret2
      rw [HN.out (.inr h1)]
      exact ⟨rfl, rfl⟩
    · have h1' : (x : Int) ≤ (n : Int) - (y : Int) := by omega
      obtain ⟨x0, rfl⟩ : ∃ x0, a = some x0 := by
        obtain ⟨x0, hx0, _⟩ := h.at 0 (by omega)
        exact ⟨x0, hx0⟩
      have hsub : Bts w (some (x0.add y)) ((l.drop y).take x) := (h.drop y).take x
      have hlen : ((l.drop y).take x).length = x := by rw [List.length_take, List.length_drop]; omega
      have k1 := fun c => conv_bts w (some (x0.add y)) x c _ hlen hsub
      obtain ⟨s, hs⟩ : ∃ s : ByteArray, s = ⟨((l.drop y).take x).toArray⟩ := ⟨_, rfl⟩
      rw [← hs] at k1 HY
      have HR := Lib.hid (HY.out (by omega))
      by_cases hcy : cap = y
      · have hx0 : x = 0 := by omega
        have k2 := fun c => conv_bts w (some x0) x c [] (by simpa using hx0.symm) (Bts.nil _ _)
        have es : s = ⟨#[]⟩ := by rw [hs, hx0]; simp
        rw [show (⟨([] : List UInt8).toArray⟩ : ByteArray) = s from es.symm] at k2
        clear hs es hx0 HN HY h hsub hlen h0 h1 k1 hl
        subst hcy
        go_enter Try.func94, Try.ntmps94
        go_wp2_with (first | (go_at_call 112; (with_reducible refine c1.mono ?_); rintro e W2 ⟨rfl, rfl⟩))
        all_goals (go_ret2; rw [HR.out]; exact ⟨tk_ret rfl (by simp), rfl⟩)
      · clear hs HN HY h hsub hlen h0 h1 hl
        go_enter Try.func94, Try.ntmps94
        go_wp2_with (first | (go_at_call 112; (with_reducible refine c1.mono ?_); rintro e W2 ⟨rfl, rfl⟩))
        all_goals (go_ret2; rw [HR.out]; exact ⟨tk_ret rfl (by simp), rfl⟩)

set_option maxHeartbeats 2000000 in
set_option maxRecDepth 100000 in
theorem rTake_any (a : Option Addr) (n cap : Nat) (l : List UInt8) (w : World) (hl : l.length = n) (hn : n ≤ 1000000) (hc : n ≤ cap) (h : Bts w a l) :
    Calls Try.prog 100 #[.slice a n cap] w fun e w' => e = .returned (.tuple #[.string (takeL l).1, .int .i64 (takeL l).2]) ∧ w = w' := by
  have c1 := rUnvarint_any a n cap l w hl (by unfold maxLen; omega) h
  have hb := unv_bounds l
  have HN := Lib.hid (takeL_no (l := l))
  have HY := Lib.hid (takeL_yes (l := l))
  obtain ⟨x, hx⟩ : ∃ x, x = (unv l).1 := ⟨_, rfl⟩
  obtain ⟨y, hy⟩ : ∃ y, y = (unv l).2 := ⟨_, rfl⟩
  rw [← hx, ← hy] at c1 hb HN HY
  rw [hl] at hb HN HY
  obtain ⟨hb1, hb2⟩ := hb
  clear hx hy
  by_cases h0 : y = 0
  · have h0' : ((y : Int) == 0) = true := by simpa using h0
    have H0 := Lib.hid h0
    clear h0 HY h
    go_enter Try.func100, Try.ntmps100
    go_wp2_with (first | (go_at_call 101; (with_reducible refine c1.mono ?_); rintro e W2 ⟨rfl, rfl⟩))
    go_ret2
    rw [HN.out (.inl H0.out)]
    exact ⟨rfl, rfl⟩
  · have h0' : ((y : Int) == 0) = false := by simpa using h0
    by_cases h1 : n - y < x
    · have h1' : (n : Int) - (y : Int) < (x : Int) := by omega
      clear HY h
      go_enter Try.func100, Try.ntmps100
      go_wp2_with (first | (go_at_call 101; (with_reducible refine c1.mono ?_); rintro e W2 ⟨rfl, rfl⟩))
      go_ret2
      rw [HN.out (.inr h1)]
      exact ⟨rfl, rfl⟩
    · have h1' : (x : Int) ≤ (n : Int) - (y : Int) := by omega
      obtain ⟨x0, rfl⟩ : ∃ x0, a = some x0 := by
        obtain ⟨x0, hx0, _⟩ := h.at 0 (by omega)
        exact ⟨x0, hx0⟩
      have hsub : Bts w (some (x0.add y)) ((l.drop y).take x) := (h.drop y).take x
      have hlen : ((l.drop y).take x).length = x := by rw [List.length_take, List.length_drop]; omega
      have k1 := fun c => conv_bts w (some (x0.add y)) x c _ hlen hsub
      obtain ⟨s, hs⟩ : ∃ s : ByteArray, s = ⟨((l.drop y).take x).toArray⟩ := ⟨_, rfl⟩
      rw [← hs] at k1 HY
      have HR := Lib.hid (HY.out (by omega))
      by_cases hcy : cap = y
      · have hx0 : x = 0 := by omega
        have k2 := fun c => conv_bts w (some x0) x c [] (by simpa using hx0.symm) (Bts.nil _ _)
        have es : s = ⟨#[]⟩ := by rw [hs, hx0]; simp
        rw [show (⟨([] : List UInt8).toArray⟩ : ByteArray) = s from es.symm] at k2
        clear hs es hx0 HN HY h hsub hlen h0 h1 k1 hl
        subst hcy
        go_enter Try.func100, Try.ntmps100
        go_wp2_with (first | (go_at_call 101; (with_reducible refine c1.mono ?_); rintro e W2 ⟨rfl, rfl⟩))
        all_goals (go_ret2; rw [HR.out]; exact ⟨tk_ret rfl (by simp), rfl⟩)
      · clear hs HN HY h hsub hlen h0 h1 hl
        go_enter Try.func100, Try.ntmps100
        go_wp2_with (first | (go_at_call 101; (with_reducible refine c1.mono ?_); rintro e W2 ⟨rfl, rfl⟩))
        all_goals (go_ret2; rw [HR.out]; exact ⟨tk_ret rfl (by simp), rfl⟩)

end Go.Proofs.Ytggognmbjgkdfaa
