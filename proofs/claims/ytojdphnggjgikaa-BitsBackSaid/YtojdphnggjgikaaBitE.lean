/-
  What the document fixes of bits (its examples): the program says so. BitsFolds, BitsHash, BitsVarints: the walks.
-/
import Derived.Test.YtojdphnggjgikaaBitD
set_option linter.unusedVariables false
namespace Go.Proofs.Ytojdphnggjgikaa
open Go.RowKit

/-- A callee's contract, held against the world in which the call began. -/
theorem base {P : Program} {f : Nat} {args : Array Value} {e0 : Ending} {w wx : World} (hb : Below w.heap.size w wx)
    (h : Calls P f args wx fun e w' => e = e0 ∧ Below wx.heap.size wx w') : Calls P f args wx fun e w' => e = e0 ∧ Below w.heap.size w w' :=
  h.mono fun e w' ⟨he, hb'⟩ => ⟨he, hb.trans (hb'.mono hb.size)⟩

theorem uv300 : Lib.uvarint 300 = [172, 2] := by
  rw [Lib.uvarint_big (by decide), Lib.uvarint_small (by decide)]; rfl

def AwPost (w : World) (e : Ending) (w' : World) : Prop :=
  ∃ g cap, e = .returned (.slice (some ⟨g, 0, none⟩) 2 cap) ∧ w'.cell? ⟨g, 0, none⟩ = some (.int .u8 172) ∧ w'.cell? ⟨g, 1, none⟩ = some (.int .u8 2) ∧ Below w.heap.size w w'

theorem aw_Varint (w : World) : Calls Try.prog 13 #[.int .u64 300] w (AwPost w) := by
  have h := Varint_any 300 (by decide) w
  rw [uv300] at h
  refine h.mono ?_
  rintro e w' ⟨a, cap, rfl, ho, hb⟩
  rcases ho.2 with ⟨h0, _⟩ | ⟨g, cap', cur, hv, _⟩
  · injection h0 with _ h0 _; cases h0
  · injection hv with h1 h2 h3
    subst h1
    exact ⟨g, cap, rfl, ho.cellAt 0 (by decide), ho.cellAt 1 (by decide), hb⟩

theorem aw_Hash (w : World) : Calls Try.prog 23 #[.string ⟨#[97]⟩] w fun e w' => e = .returned (.int .u32 3826002220) ∧ w = w' := by
  have h := Hash_any ⟨#[97]⟩ w (by decide)
  have e : hashL (⟨#[97]⟩ : ByteArray).data.toList = 3826002220 := by decide +kernel
  rw [e] at h
  exact h
theorem aw_Zig (w : World) : Calls Try.prog 15 #[.int .i64 (-1)] w fun e w' => e = .returned (.int .u64 1) ∧ w = w' := Zig_any (-1) w (by decide) (by decide)

set_option maxHeartbeats 1000000 in
set_option maxRecDepth 100000 in
theorem awake_any (w : World) :
    Calls Try.prog 9 #[] w fun e w' => e = .returned (.bool true) ∧ Below w.heap.size w w' := by
  go_enter Try.func9, Try.ntmps9
  go_wp2_with (go_at_call 13; refine (aw_Varint _).mono ?_; rintro e W1 ⟨g, cap, rfl, h0, h1, hb⟩)
  go_wp2_with (first | (go_at_call 15; refine (aw_Zig _).mono ?_; rintro e W2 ⟨rfl, rfl⟩) | (go_at_call 23; refine (aw_Hash _).mono ?_; rintro e W2 ⟨rfl, rfl⟩))
  go_ret
  exact ⟨rfl, hb⟩
theorem awake_b (w wx : World) (hb : Below w.heap.size w wx) :
    Calls Try.prog 9 #[] wx fun e w' => e = .returned (.bool true) ∧ Below w.heap.size w w' := base hb (awake_any wx)

set_option maxHeartbeats 2000000 in
set_option maxRecDepth 100000 in
theorem BitsFolds_walk (n v : Int) (hn : (Lit.int .i64 n).wf = true) (hv : (Lit.int .u64 v).wf = true) (w : World) :
    Calls Try.prog 4 #[.int .i64 n, .int .u64 v] w fun e w' => e = .returned (.bool true) ∧ Below w.heap.size w w' := by
  have hn' : -9223372036854775808 ≤ n ∧ n ≤ 9223372036854775807 := by
    simp [Lit.wf, IntKind.min, IntKind.max, IntKind.signed, IntKind.bits] at hn; omega
  have hv' : 0 ≤ v ∧ v < 18446744073709551616 := by
    simp [Lit.wf, IntKind.min, IntKind.max, IntKind.signed, IntKind.bits] at hv; omega
  clear hn hv
  obtain ⟨m, rfl⟩ := Int.eq_ofNat_of_zero_le hv'.1
  have hz := zigI_range n hn'.1 hn'.2
  have hzz := zag_zig n
  have hg := zagI_range m (by omega)
  have hgg := zig_zag m
  have c1 := fun wx => Zig_any n wx hn'.1 hn'.2
  have c2 := fun wx => rZig_any n wx hn'.1 hn'.2
  have c3 := fun wx => Zag_any m wx (by omega)
  have c4 := fun wx => rZag_any m wx (by omega)
  have c5 := fun wx => Zag_any (zigI n).toNat wx (by omega)
  have c6 := fun wx => Zig_any (zagI m) wx hg.1 hg.2
  rw [hzz, Int.toNat_of_nonneg hz.1] at c5
  rw [hgg] at c6
  obtain ⟨z, hzd⟩ : ∃ z, z = zigI n := ⟨_, rfl⟩
  obtain ⟨g, hgd⟩ : ∃ g, g = zagI m := ⟨_, rfl⟩
  rw [← hzd] at c1 c2 c5
  rw [← hgd] at c3 c4 c6
  have B0 := Below.refl w.heap.size w
  clear hz hzz hg hgg hzd hgd hn' hv'
  go_enter Try.func4, Try.ntmps4
  go_wp2_with (first | (go_at_call 15; (with_reducible refine (c1 _).mono ?_); rintro e W2 ⟨rfl, rfl⟩) | (go_at_call 15; (with_reducible refine (c6 _).mono ?_); rintro e W2 ⟨rfl, rfl⟩) | (go_at_call 16; (with_reducible refine (c2 _).mono ?_); rintro e W2 ⟨rfl, rfl⟩) | (go_at_call 17; (with_reducible refine (c3 _).mono ?_); rintro e W2 ⟨rfl, rfl⟩) | (go_at_call 17; (with_reducible refine (c5 _).mono ?_); rintro e W2 ⟨rfl, rfl⟩) | (go_at_call 18; (with_reducible refine (c4 _).mono ?_); rintro e W2 ⟨rfl, rfl⟩) | (go_at_call 9; refine (awake_b w _ (by assumption)).mono ?_; rintro e W1 ⟨rfl, b1⟩))
  all_goals (go_ret; exact ⟨rfl, by assumption⟩)

theorem hashL_next (s : ByteArray) (c : UInt8) : hashL (s ++ ⟨#[c]⟩).data.toList = hStep (hashL s.data.toList) c := by
  rw [← hashL_snoc]; congr 1

theorem u8_of (c : Int) (hc : (Lit.int .u8 c).wf = true) : ∃ b : UInt8, c = (b.toNat : Int) := by
  have h : 0 ≤ c ∧ c < 256 := by
    simp [Lit.wf, IntKind.min, IntKind.max, IntKind.signed, IntKind.bits] at hc; omega
  exact ⟨UInt8.ofNat c.toNat, by rw [UInt8.toNat_ofNat']; omega⟩
theorem u64_of (v : Int) (hv : (Lit.int .u64 v).wf = true) : ∃ m : Nat, v = (m : Int) ∧ m < 18446744073709551616 := by
  have h : 0 ≤ v ∧ v < 18446744073709551616 := by
    simp [Lit.wf, IntKind.min, IntKind.max, IntKind.signed, IntKind.bits] at hv; omega
  exact ⟨v.toNat, by omega, by omega⟩

set_option maxHeartbeats 2000000 in
set_option maxRecDepth 100000 in
theorem BitsVarints_walk (a0 : Option Addr) (len0 cap0 : Nat) (z0 : List Int) (a1 : Int) (w : World) (w0 : RowIn .u8 w a0 len0 cap0 z0) (w1 : (Lit.int .u64 a1).wf = true) :
    Calls Try.prog 3 #[.slice a0 len0 cap0, .int .u64 a1] w fun e w' => e = .returned (.bool true) ∧ Below w.heap.size w w' := by
  obtain ⟨l, hl, hB, hcap, hmax, _⟩ := w0.bts
  obtain ⟨m, rfl, hm⟩ := u64_of a1 w1
  have B0 := Below.refl w.heap.size w
  clear w0 w1
  by_cases hbig : 1000 < len0
  · go_enter Try.func3, Try.ntmps3
    go_wp2_with (first | (go_at_call 9; refine (awake_b w _ (by assumption)).mono ?_; rintro e W1 ⟨rfl, b1⟩))
    all_goals (go_ret; exact ⟨rfl, by assumption⟩)
  · have hlen := Lib.uvarint_length64 (x := m) (by omega)
    have c1 := fun wx (hx : Bts wx a0 l) => Unvarint_any a0 len0 cap0 l wx hl (by omega) hx
    have c2 := fun wx (hx : Bts wx a0 l) => rUnvarint_any a0 len0 cap0 l wx hl (by omega) hx
    obtain ⟨x, hx⟩ : ∃ x, x = (unv l).1 := ⟨_, rfl⟩
    obtain ⟨y, hy⟩ : ∃ y, y = (unv l).2 := ⟨_, rfl⟩
    rw [← hx, ← hy] at c1 c2
    have HL := Lib.hid hl
    clear hx hy hmax hl
    go_enter Try.func3, Try.ntmps3
    go_wp2_with (first | (go_at_call 10; refine (c1 _ hB).mono ?_; rintro e W2 ⟨rfl, rfl⟩) | (go_at_call 11; refine (c2 _ hB).mono ?_; rintro e W2 ⟨rfl, rfl⟩) | (go_at_call 13; refine (Varint_any m (by omega) _).mono ?_; rintro e W1 ⟨p1, k1, rfl, o1, b1⟩))
    go_wp2_with (first | (go_at_call 14; refine (rVarint_any m (by omega) _).mono ?_; rintro e W2 ⟨p2, k2, rfl, o2, b2⟩))
    have hb2 : Below w.heap.size w W2 := b1.trans (b2.mono b1.size)
    have q1 := (Bts.own o1).later b2
    have q2 := Bts.own o2
    clear o1 o2 c1 c2
    go_wp2_with (first | (go_at_call 12; refine (Bytes_same p1 p2 _ _ k1 k2 _ _ rfl rfl (by omega) q1 q2).mono ?_; rintro e W3 ⟨rfl, b3⟩))
    have hb3 : Below w.heap.size w W3 := hb2.trans (b3.mono hb2.size)
    clear q1 q2
    go_wp2_with (first | (go_at_call 9; refine (awake_b w _ (by assumption)).mono ?_; rintro e W4 ⟨rfl, b4⟩))
    all_goals (go_ret; exact ⟨rfl, by assumption⟩)

set_option maxHeartbeats 2000000 in
set_option maxRecDepth 100000 in
theorem BitsHash_walk (s : ByteArray) (c : Int) (hs : s.size ≤ maxLen) (hc : (Lit.int .u8 c).wf = true) (w : World) :
    Calls Try.prog 7 #[.string s, .int .u8 c] w fun e w' => e = .returned (.bool true) ∧ Below w.heap.size w w' := by
  obtain ⟨b, rfl⟩ := u8_of c hc
  have B0 := Below.refl w.heap.size w
  clear hc
  by_cases hbig : 1000 < s.size
  · go_enter Try.func7, Try.ntmps7
    go_wp2_with (first | (go_at_call 9; refine (awake_b w _ (by assumption)).mono ?_; rintro e W1 ⟨rfl, b1⟩))
    all_goals (go_ret; exact ⟨rfl, by assumption⟩)
  · have c1 := fun wx => Hash_any s wx (by unfold maxLen; omega)
    have c2 := fun wx => Hash_any (s ++ ⟨#[b]⟩) wx (by unfold maxLen; simp [ByteArray.size_append]; show s.size + 1 ≤ _; omega)
    have c3 : ∀ wx, Calls Try.prog 23 #[.string ⟨#[]⟩] wx fun e w' => e = .returned (.int .u32 2166136261) ∧ wx = w' := fun wx => by
      have h := Hash_any ⟨#[]⟩ wx (by decide)
      have e : hashL (⟨#[]⟩ : ByteArray).data.toList = 2166136261 := rfl
      rw [e] at h
      exact h
    rw [hashL_next] at c2
    unfold hStep at c2
    obtain ⟨v, hv⟩ : ∃ v, v = hashL s.data.toList := ⟨_, rfl⟩
    rw [← hv] at c1 c2
    clear hv
    have hconv : (convert 22 9 (.slice (some ⟨w.heap.size, 0, none⟩) 1 1)).run Try.prog (w.alloc (.cells #[.int .u8 b.toNat] 5)) = .ok (.string ⟨#[b]⟩) (w.alloc (.cells #[.int .u8 b.toNat] 5)) := by
      have := run_convert_bytes_arg (P := Try.prog) (w.alloc (.cells #[.int .u8 b.toNat] 5)) 22 5 Try.underlying22 Try.underlying5 w.heap.size 0 1 1 [(b.toNat : Int)] rfl (fun i hi => by
        obtain rfl : i = 0 := by omega
        exact new_cells8 w #[.int .u8 b.toNat] 5 w.heap.size rfl 0 _ rfl) 9 Try.underlying9
      rw [this]
      simp [strOfNums]
    have hb1 : Below w.heap.size w (w.alloc (.cells #[.int .u8 b.toNat] 5)) := (Below.refl _ w).alloc (Nat.le_refl _) _
    go_enter Try.func7, Try.ntmps7
    go_wp2_with (first | (go_at_call 23; (with_reducible refine (c2 _).mono ?_); rintro e W2 ⟨rfl, rfl⟩) | (go_at_call 23; (with_reducible refine (c1 _).mono ?_); rintro e W2 ⟨rfl, rfl⟩) | (go_at_call 23; (with_reducible refine (c3 _).mono ?_); rintro e W2 ⟨rfl, rfl⟩) | (go_at_call 9; refine (awake_b w _ (by assumption)).mono ?_; rintro e W1 ⟨rfl, b1⟩))
    all_goals (go_ret; exact ⟨rfl, by assumption⟩)

end Go.Proofs.Ytojdphnggjgikaa
