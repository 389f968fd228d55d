/-
  A number is laid: bits.lay, Varint, and the reference's Varint.
-/
import Derived.Test.YtojdphnggjgikaaBitB
import Derived.StillTailTactics
import Derived.KernelRfl
set_option linter.unusedVariables false
namespace Go.Proofs.Ytojdphnggjgikaa
open Go.RowKit

theorem infoByte8 : (Try.prog.info? 5).map (fun i => (i.zero, i.size, i.bytes)) = some (some (.int .u8 0), 1, 1) := by kernel_rfl

theorem or128_mod (y : Nat) : bits .or .u8 ((y : Int) % 256) 128 = ((y % 128 + 128 : Nat) : Int) := by
  rw [Lib.u8_or128_any _ (by omega) (by omega)]
  omega

theorem new_cells8 (W : World) (C : Array Value) (t : TypeId) (k : Nat) (hk : k = W.heap.size) (j : Nat) (u : Value) (h : C.toList[j]? = some u) : (W.alloc (.cells C t)).cell? ((⟨k, 0, none⟩ : Addr).add j) = some u := by
  have hadd : (⟨k, 0, none⟩ : Addr).add j = ⟨k, j, none⟩ := by unfold Addr.add; split <;> simp_all
  have hg : (W.alloc (.cells C t)).heap[k]? = some (.cells C t (0, 0)) := by
    show (W.heap.push _)[k]? = _
    rw [hk]; simp
  rw [hadd, cell_of_row _ k j C t _ hg]
  simpa using h

/-- What a call leaves that appends l to a row. -/
def OwnPost (B n : Nat) (l : List UInt8) (w : World) (e : Ending) (w' : World) : Prop :=
  ∃ a cap, e = .returned (.slice a n cap) ∧ w'.ownsRow B 5 1 (.slice a n cap) n (Lib.byteCells l) ∧ Below B w w'

theorem own_slice {w : World} {B : Nat} {e : TypeId} {k n : Nat} {v : Value} {xs : List Value} (h : w.ownsRow B e k v n xs) : ∃ a cap, v = .slice a n cap := by
  rcases h.2 with ⟨hv, hn⟩ | ⟨g, cap, cur, hv, _⟩
  · exact ⟨none, 0, by rw [hv, hn]⟩
  · exact ⟨_, _, hv⟩

theorem below_app {B : Nat} {w wr w' : World} {o : Obj} {v : Value} {n k : Nat} {e : TypeId} {xs : List Value} (hb : Below B w wr) (hB : B ≤ w.heap.size) (hown : wr.ownsRow B e k v n xs) (hg : (wr.alloc o).grownBy w' v.ownBlock) : Below B w w' := by
  have := hb.size
  exact (hb.alloc (by omega) o).grown hg (by simp; omega) fun k hk => (hown.lt k hk).1

set_option maxHeartbeats 2000000 in
set_option maxRecDepth 100000 in
theorem lay_any (B n cap : Nat) (a : Option Addr) (l : List UInt8) (x : Nat) (hx : x < 2 ^ 64) (w : World) (hown : w.ownsRow B 5 1 (.slice a n cap) n (Lib.byteCells l)) (hB : B ≤ w.heap.size) (hlim : n ≤ 1000000) :
    Calls Try.prog 26 #[.slice a n cap, .int .u64 x] w (OwnPost B (n + (Lib.uvarint x).length) (l ++ Lib.uvarint x) w) := by
  obtain ⟨i0, hi, hz0, hz1, hz2⟩ := info_parts infoByte8
  have hlen := Lib.uvarint_length64 (x := x) (by omega)
  go_enter Try.func26, Try.ntmps26
  go_wp2
  go_loopw [0, 1] (fun vb vx wr => ∃ (y : Nat) (pre : List UInt8) (a : Option Addr) (cap : Nat), vx = .int .u64 y ∧ vb = .slice a (n + pre.length) cap ∧ y < 18446744073709551616 ∧ y ≤ x ∧ Hid (Lib.uvarint x = pre ++ Lib.uvarint y) ∧ wr.ownsRow B 5 1 (.slice a (n + pre.length) cap) (n + pre.length) (Lib.byteCells (l ++ pre)) ∧ Below B w wr)
    (fun _ vx _ => (intOf vx).toNat)
  case atStart => exact ⟨x, [], a, cap, rfl, rfl, by omega, Nat.le_refl _, rfl, by simpa using hown, Below.refl _ _⟩
  case round =>
    obtain ⟨y, pre, a, cap, rfl, rfl, hy64, hy, HS, ho, hb⟩ := hrel
    have hpl : pre.length + (Lib.uvarint y).length ≤ 10 := by
      have h2 := congrArg List.length HS.out
      rw [List.length_append] at h2
      omega
    have hyp := Lib.uvarint_pos y
    have hbz := hb.size
    by_cases h128 : 128 ≤ y
    · have hor := or128_mod y
      go_wp2_with (at_builtin; refine wpList_append_own _ rfl _ _ 22 rfl B 5 i0 (.int .u8 0) 1 1 Try.underlying22 hi hz0 hz1 hz2 rfl (by decide) _ _ _ rfl (ho.alloc _) ⟨wr.heap.size, 0, none⟩ 1 1 [Value.int .u8 ((y % 128 + 128 : Nat) : Int)] rfl rfl ?c1 ?c2 ?c3 ?c4 ?c5 ?_)
      case c1 => intro j u hj; exact new_cells8 _ _ _ _ rfl j u hj
      case c2 => intro u hu; simp at hu; subst hu; rfl
      case c3 => unfold maxLen; omega
      case c4 => omega
      case c5 => simp; omega
      intro v' w1 ho1 hg _
      obtain ⟨a1, cap1, rfl⟩ := own_slice ho1
      have hb1 := below_app hb hB ho hg
      clear hg ho hb hor
      go_wp2
      go_roundw
      case rel =>
        have e : Lib.uvarint x = (pre ++ [(y % 128 + 128).toUInt8]) ++ Lib.uvarint (y / 128) := by rw [HS.out, Lib.uvarint_big h128]; simp
        refine ⟨y / 128, pre ++ [(y % 128 + 128).toUInt8], a1, cap1, by go_num, by simp; omega, by omega, by omega, e, ?_, hb1⟩
        rw [← List.append_assoc, Lib.byteCells_snoc _ (by omega), List.length_append, List.length_singleton, ← Nat.add_assoc]
        exact ho1
      case measure => simp [intOf]; omega
    · have hsm : Lib.uvarint y = [y.toUInt8] := Lib.uvarint_small (by omega)
      have e : Lib.uvarint x = pre ++ [y.toUInt8] := by rw [HS.out, hsm]
      go_wp2_with (at_builtin; refine wpList_append_own _ rfl _ _ 22 rfl B 5 i0 (.int .u8 0) 1 1 Try.underlying22 hi hz0 hz1 hz2 rfl (by decide) _ _ _ rfl (ho.alloc _) ⟨wr.heap.size, 0, none⟩ 1 1 [Value.int .u8 (y : Int)] rfl rfl ?d1 ?d2 ?d3 ?d4 ?d5 ?_)
      case d1 => intro j u hj; exact new_cells8 _ _ _ _ rfl j u hj
      case d2 => intro u hu; simp at hu; subst hu; rfl
      case d3 => unfold maxLen; omega
      case d4 => omega
      case d5 => simp; omega
      intro v' w1 ho1 hg _
      obtain ⟨a1, cap1, rfl⟩ := own_slice ho1
      have hb1 := below_app hb hB ho hg
      clear hg ho hb hsm
      have E := Lib.hid e
      clear e
      go_wp2
      go_ret
      rw [← Lib.byteCells_snoc _ (by omega)] at ho1
      rw [E.out, List.length_append, List.length_singleton, ← Nat.add_assoc, ← List.append_assoc]
      exact ⟨a1, cap1, rfl, ho1, hb1⟩

set_option maxHeartbeats 1000000 in
set_option maxRecDepth 100000 in
theorem Varint_any (x : Nat) (hx : x < 2 ^ 64) (w : World) :
    Calls Try.prog 13 #[.int .u64 x] w (OwnPost w.heap.size (Lib.uvarint x).length (Lib.uvarint x) w) := by
  have c := lay_any w.heap.size 0 0 none [] x hx w (World.ownsRow_nil _ _ _ _) (Nat.le_refl _) (by omega)
  rw [Nat.zero_add, List.nil_append] at c
  go_enter Try.func13, Try.ntmps13
  go_wp2_with (go_at_call 26; refine c.mono ?_; rintro e W1 ⟨a1, cap1, rfl, h1, h2⟩)
  go_ret
  exact ⟨a1, cap1, rfl, h1, h2⟩

theorem or128_u64 (y : Nat) (hy : y < 18446744073709551616) : IntKind.u8.wrap (bits .or .u64 (bits .and .u64 (y : Int) 127) 128) = ((y % 128 + 128 : Nat) : Int) := by
  have h1 : bits .and .u64 (y : Int) 127 = (y : Int) % 128 := bits_mask .u64 64 (by decide) wraps_u64 7 (by decide) (y : Int) (by omega) (by omega)
  have h2 : bits .or .u64 ((y : Int) % 128) 128 = (y : Int) % 128 + 128 := bits_join_low .u64 64 (by decide) wraps_u64 7 ((y : Int) % 128) 128 (by omega) (by omega) (by omega) (by omega) (by decide) (by omega)
  rw [h1, h2, IntWalk.u8_in _ (by omega)]
  omega

set_option maxHeartbeats 2000000 in
set_option maxRecDepth 100000 in
theorem rVarint_any (x : Nat) (hx : x < 2 ^ 64) (w : World) :
    Calls Try.prog 14 #[.int .u64 x] w (OwnPost w.heap.size (Lib.uvarint x).length (Lib.uvarint x) w) := by
  obtain ⟨i0, hi, hz0, hz1, hz2⟩ := info_parts infoByte8
  have hlen := Lib.uvarint_length64 (x := x) (by omega)
  go_enter Try.func14, Try.ntmps14
  go_wp2
  go_loopw [0, 3] (fun vx vb wr => ∃ (y : Nat) (pre : List UInt8) (a : Option Addr) (cap : Nat), vx = .int .u64 y ∧ vb = .slice a (pre.length) cap ∧ y < 18446744073709551616 ∧ y ≤ x ∧ Hid (Lib.uvarint x = pre ++ Lib.uvarint y) ∧ wr.ownsRow w.heap.size 5 1 (.slice a (pre.length) cap) (pre.length) (Lib.byteCells pre) ∧ Below w.heap.size w wr)
    (fun vx _ _ => (intOf vx).toNat)
  case atStart => exact ⟨x, [], none, 0, rfl, rfl, by omega, Nat.le_refl _, rfl, World.ownsRow_nil _ _ _ _, Below.refl _ _⟩
  case round =>
    obtain ⟨y, pre, a, cap, rfl, rfl, hy64, hy, HS, ho, hb⟩ := hrel
    have hpl : pre.length + (Lib.uvarint y).length ≤ 10 := by
      have h2 := congrArg List.length HS.out
      rw [List.length_append] at h2
      omega
    have hyp := Lib.uvarint_pos y
    have hbz := hb.size
    by_cases h128 : 128 ≤ y
    · have hor := or128_u64 y hy64
      go_wp2_with (at_builtin; refine wpList_append_own _ rfl _ _ 22 rfl w.heap.size 5 i0 (.int .u8 0) 1 1 Try.underlying22 hi hz0 hz1 hz2 rfl (by decide) _ _ _ rfl (ho.alloc _) ⟨wr.heap.size, 0, none⟩ 1 1 [Value.int .u8 ((y % 128 + 128 : Nat) : Int)] rfl rfl ?c1 ?c2 ?c3 ?c4 ?c5 ?_)
      case c1 => intro j u hj; exact new_cells8 _ _ _ _ rfl j u hj
      case c2 => intro u hu; simp at hu; subst hu; rfl
      case c3 => unfold maxLen; omega
      case c4 => omega
      case c5 => simp; omega
      intro v' w1 ho1 hg _
      obtain ⟨a1, cap1, rfl⟩ := own_slice ho1
      have hb1 := below_app hb (Nat.le_refl _) ho hg
      clear hg ho hb hor
      go_wp2
      go_roundw
      case rel =>
        have e : Lib.uvarint x = (pre ++ [(y % 128 + 128).toUInt8]) ++ Lib.uvarint (y / 128) := by rw [HS.out, Lib.uvarint_big h128]; simp
        refine ⟨y / 128, pre ++ [(y % 128 + 128).toUInt8], a1, cap1, by go_num, by simp, by omega, by omega, e, ?_, hb1⟩
        rw [Lib.byteCells_snoc _ (by omega), List.length_append, List.length_singleton]
        exact ho1
      case measure => simp [intOf]; omega
    · have hsm : Lib.uvarint y = [y.toUInt8] := Lib.uvarint_small (by omega)
      have e : Lib.uvarint x = pre ++ [y.toUInt8] := by rw [HS.out, hsm]
      go_wp2_with (at_builtin; refine wpList_append_own _ rfl _ _ 22 rfl w.heap.size 5 i0 (.int .u8 0) 1 1 Try.underlying22 hi hz0 hz1 hz2 rfl (by decide) _ _ _ rfl (ho.alloc _) ⟨wr.heap.size, 0, none⟩ 1 1 [Value.int .u8 (y : Int)] rfl rfl ?d1 ?d2 ?d3 ?d4 ?d5 ?_)
      case d1 => intro j u hj; exact new_cells8 _ _ _ _ rfl j u hj
      case d2 => intro u hu; simp at hu; subst hu; rfl
      case d3 => unfold maxLen; omega
      case d4 => omega
      case d5 => simp; omega
      intro v' w1 ho1 hg _
      obtain ⟨a1, cap1, rfl⟩ := own_slice ho1
      have hb1 := below_app hb (Nat.le_refl _) ho hg
      clear hg ho hb hsm
      have E := Lib.hid e
      clear e
      go_wp2
      go_ret
      rw [← Lib.byteCells_snoc _ (by omega)] at ho1
      rw [E.out, List.length_append, List.length_singleton]
      exact ⟨a1, cap1, rfl, ho1, hb1⟩

end Go.Proofs.Ytojdphnggjgikaa
