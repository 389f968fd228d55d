/-
  Stamps laid: Encode, and the reference's.
-/
import Derived.Test.YtggognmbjgkdfaaStA
import Derived.Test.YtggognmbjgkdfaaStD
set_option linter.unusedVariables false
namespace Go.Proofs.Ytggognmbjgkdfaa
open Go.RowKit

/-- A stamp's bytes. -/
def codeP (w l n : Nat) : Nat → List UInt8
  | 0 => []
  | 1 => Lib.uvarint w
  | 2 => Lib.uvarint w ++ Lib.uvarint l
  | _ => (Lib.uvarint w ++ Lib.uvarint l) ++ Lib.uvarint n
theorem codeP_len (w l n k : Nat) (hw : w < 18446744073709551616) (hl : l < 18446744073709551616) (hn : n < 18446744073709551616) : (codeP w l n k).length ≤ 30 := by
  have h1 := Lib.uvarint_length64 (x := w) hw
  have h2 := Lib.uvarint_length64 (x := l) hl
  have h3 := Lib.uvarint_length64 (x := n) hn
  match k with
  | 0 => simp [codeP]
  | 1 => simp [codeP]; omega
  | 2 => simp [codeP]; omega
  | k + 3 => simp [codeP]; omega
def codeL (a : Sm) : List UInt8 := if soundB a = true then codeP a.w.toNat a.l.toNat a.n.toNat 3 else []

theorem own_none {w : World} {B : Nat} {e : TypeId} {n c : Nat} {a : Option Addr} {xs : List Value} (h : w.ownsRow B e 1 (.slice a n c) n xs) (ha : a = none) : c = 0 := by
  rcases h.2 with ⟨h0, h1⟩ | ⟨g, cap', cur, h0, _⟩
  · injection h0
  · injection h0 with e1 e2 e3
    rw [ha] at e1
    cases e1
theorem ownsLater {w w' : World} {B : Nat} {e : TypeId} {k n : Nat} {v : Value} {xs : List Value} (h : w.ownsRow B e k v n xs) (hb : Below w.heap.size w w') : w'.ownsRow B e k v n xs :=
  Kept.own h (Kept.of_below (S := fun _ => False) hb) (fun _ _ h => h)

theorem ix0 (x y z : Value) (W : World) : (Instr.index 133 (.agg #[x, y, z]) (.int .i64 0)).run Try.prog W = .ok x W := by
  simp [Instr.index, run_underlying Try.underlying133, asIntOf, go_sem]
theorem ix1 (x y z : Value) (W : World) : (Instr.index 133 (.agg #[x, y, z]) (.int .i64 1)).run Try.prog W = .ok y W := by
  simp [Instr.index, run_underlying Try.underlying133, asIntOf, go_sem]
theorem ix2 (x y z : Value) (W : World) : (Instr.index 133 (.agg #[x, y, z]) (.int .i64 2)).run Try.prog W = .ok z W := by
  simp [Instr.index, run_underlying Try.underlying133, asIntOf, go_sem]

set_option maxHeartbeats 16000000 in
set_option maxRecDepth 100000 in
theorem encode_any (a : Sm) (w : World) :
    Calls Try.prog 66 #[.agg #[.int .i64 a.w, .int .i64 a.l, .int .i64 a.n]] w (OwnPost w.heap.size (codeL a).length (codeL a) w) := by
  obtain ⟨i0, hi, hz0, hz1, hz2'⟩ := info_parts infoByte8
  obtain ⟨aw, al, an⟩ := a
  simp only
  have bA := (Below.refl w.heap.size w).alloc (Nat.le_refl _) (.cells #[.int .i64 aw, .int .i64 al, .int .i64 an] 40)
  have gA := heap_alloc_new w (.cells #[.int .i64 aw, .int .i64 al, .int .i64 an] 40)
  have HBA := Lib.hid bA
  have HGA := Lib.hid gA
  have cS := fun wx => sound_any ⟨aw, al, an⟩ wx
  simp only at cS
  clear bA gA
  cases hsb : soundB ⟨aw, al, an⟩ with
  | false =>
    rw [hsb] at cS
    have HC : Hid (codeL ⟨aw, al, an⟩ = []) := by show _ = _; unfold codeL; rw [if_neg (by rw [hsb]; simp)]
    clear hsb
    go_enter Try.func66, Try.ntmps66
    go_wp2_with (go_at_call 84; (with_reducible refine (cS _).mono ?_))
    rintro e W1 ⟨rfl, b1⟩
    have HZ := Lib.hid (HBA.out.trans (b1.mono (by simp)))
    clear b1
    go_wp2
    go_ret
    rw [HC.out]
    exact ⟨none, 0, rfl, World.ownsRow_nil _ _ _ _, HZ.out⟩
  | true =>
    rw [hsb] at cS
    have hs := of_decide_eq_true hsb
    simp only at hs
    obtain ⟨s1, s2, s3, s4, s5, s6⟩ := hs
    obtain ⟨wn, rfl⟩ := Int.eq_ofNat_of_zero_le s1
    obtain ⟨ln, rfl⟩ := Int.eq_ofNat_of_zero_le s3
    obtain ⟨nn, rfl⟩ := Int.eq_ofNat_of_zero_le s5
    have HC : Hid (codeL ⟨(wn : Int), (ln : Int), (nn : Int)⟩ = codeP wn ln nn 3) := by show _ = _; unfold codeL; rw [if_pos hsb]; rfl
    have ew : IntKind.u64.wrap (wn : Int) = (wn : Int) := IntWalk.u64_in _ (by omega)
    have el : IntKind.u64.wrap (ln : Int) = (ln : Int) := IntWalk.u64_in _ (by omega)
    have en : IntKind.u64.wrap (nn : Int) = (nn : Int) := IntWalk.u64_in _ (by omega)
    clear hsb
    go_enter Try.func66, Try.ntmps66
    go_wp2_with (go_at_call 84; (with_reducible refine (cS _).mono ?_))
    rintro e W1 ⟨rfl, b1⟩
    have HZ := Lib.hid (HBA.out.trans (b1.mono (by simp)))
    obtain ⟨x0, x1, x2, _⟩ := box_cells (box_below HGA.out b1 (by simp))
    clear b1 cS
    have hzz := HZ.out.size
    go_wp2
    go_loopw [3, 16] (fun vo vi wr => ∃ (k : Nat) (a : Option Addr) (cap : Nat), vi = .int .i64 k ∧ vo = .slice a (codeP wn ln nn k).length cap ∧ k ≤ 3 ∧ wr.ownsRow W1.heap.size 5 1 (.slice a (codeP wn ln nn k).length cap) (codeP wn ln nn k).length (Lib.byteCells (codeP wn ln nn k)) ∧ Below W1.heap.size W1 wr) (fun _ vi _ => 3 - (intOf vi).toNat)
    case atStart => exact ⟨0, none, 0, rfl, rfl, by omega, World.ownsRow_nil _ _ _ _, Below.refl _ _⟩
    case round =>
      obtain ⟨k, a, cap, rfl, rfl, hk, ho, hb⟩ := hrel
      rcases k with _ | _ | _ | _ | k
      · have hix := ix0 (.int .i64 (wn : Int)) (.int .i64 (ln : Int)) (.int .i64 (nn : Int)) wr
        have cV := fun wx => Varint_any wn (by omega) wx
        have hlx := Lib.uvarint_length64 (x := wn) (by omega)
        have HO := Lib.hid ho
        have HBR := Lib.hid hb
        obtain ⟨m, hm⟩ : ∃ m, m = (codeP wn ln nn 0).length := ⟨_, rfl⟩
        rw [← hm] at HO ⊢
        have hm30 : m ≤ 30 := by rw [hm]; exact codeP_len wn ln nn 0 (by omega) (by omega) (by omega)
        have HM := Lib.hid hm
        clear ho hb hm
        go_wp2_with (go_at_call 48; (with_reducible refine (cV _).mono ?_))
        rintro e W2 ⟨a2, cap2, rfl, o2, b2⟩
        obtain ⟨m2, hm2⟩ : ∃ m2, m2 = (Lib.uvarint wn).length := ⟨_, rfl⟩
        rw [← hm2] at o2 hlx ⊢
        have HM2 := Lib.hid hm2
        clear hm2
        have hS2 := Bts.own o2
        have hnone := Lib.hid (show a2 = none → cap2 = 0 from fun h => own_none o2 h)
        have ho2 := Lib.hid (ownsLater HO.out b2)
        have hb2 := HBR.out.trans (b2.mono HBR.out.size)
        have hz2 := hb2.size
        go_wp2_with (at_builtin; refine wpList_append_bts _ rfl _ _ 25 rfl W1.heap.size 5 i0 Try.underlying25 hi hz0 hz1 hz2' _ _ _ rfl ho2.out _ _ _ (Lib.uvarint wn) rfl HM2.out.symm hS2 hnone.out (by omega) hz2 ?_)
        intro v' W3 o3 g3
        obtain ⟨a3, cap3, rfl⟩ := own_slice o3
        have HB3 := Lib.hid (below_grown hb2 (Nat.le_refl _) ho2.out g3)
        have hnx : m + m2 = (codeP wn ln nn 1).length ∧ Lib.byteCells (codeP wn ln nn 0) ++ Lib.byteCells (Lib.uvarint wn) = Lib.byteCells (codeP wn ln nn 1) := ⟨by rw [HM.out, HM2.out]; simp [codeP] <;> omega, by simp [codeP, Lib.byteCells]⟩
        rw [hnx.2, hnx.1] at o3
        have HO3 := Lib.hid o3
        have HNX := Lib.hid hnx.1
        clear hnx o3 g3 ho2 o2 b2 hb2 hS2 hnone cV hix
        go_wp2
        go_roundw
        case rel => exact ⟨1, a3, cap3, by go_num, by rw [HNX.out], by omega, HO3.out, HB3.out⟩
        case measure => simp [intOf]
      · have hix := ix1 (.int .i64 (wn : Int)) (.int .i64 (ln : Int)) (.int .i64 (nn : Int)) wr
        have cV := fun wx => Varint_any ln (by omega) wx
        have hlx := Lib.uvarint_length64 (x := ln) (by omega)
        have HO := Lib.hid ho
        have HBR := Lib.hid hb
        obtain ⟨m, hm⟩ : ∃ m, m = (codeP wn ln nn 1).length := ⟨_, rfl⟩
        rw [← hm] at HO ⊢
        have hm30 : m ≤ 30 := by rw [hm]; exact codeP_len wn ln nn 1 (by omega) (by omega) (by omega)
        have HM := Lib.hid hm
        clear ho hb hm
        go_wp2_with (go_at_call 48; (with_reducible refine (cV _).mono ?_))
        rintro e W2 ⟨a2, cap2, rfl, o2, b2⟩
        obtain ⟨m2, hm2⟩ : ∃ m2, m2 = (Lib.uvarint ln).length := ⟨_, rfl⟩
        rw [← hm2] at o2 hlx ⊢
        have HM2 := Lib.hid hm2
        clear hm2
        have hS2 := Bts.own o2
        have hnone := Lib.hid (show a2 = none → cap2 = 0 from fun h => own_none o2 h)
        have ho2 := Lib.hid (ownsLater HO.out b2)
        have hb2 := HBR.out.trans (b2.mono HBR.out.size)
        have hz2 := hb2.size
        go_wp2_with (at_builtin; refine wpList_append_bts _ rfl _ _ 25 rfl W1.heap.size 5 i0 Try.underlying25 hi hz0 hz1 hz2' _ _ _ rfl ho2.out _ _ _ (Lib.uvarint ln) rfl HM2.out.symm hS2 hnone.out (by omega) hz2 ?_)
        intro v' W3 o3 g3
        obtain ⟨a3, cap3, rfl⟩ := own_slice o3
        have HB3 := Lib.hid (below_grown hb2 (Nat.le_refl _) ho2.out g3)
        have hnx : m + m2 = (codeP wn ln nn 2).length ∧ Lib.byteCells (codeP wn ln nn 1) ++ Lib.byteCells (Lib.uvarint ln) = Lib.byteCells (codeP wn ln nn 2) := ⟨by rw [HM.out, HM2.out]; simp [codeP] <;> omega, by simp [codeP, Lib.byteCells]⟩
        rw [hnx.2, hnx.1] at o3
        have HO3 := Lib.hid o3
        have HNX := Lib.hid hnx.1
        clear hnx o3 g3 ho2 o2 b2 hb2 hS2 hnone cV hix
        go_wp2
        go_roundw
        case rel => exact ⟨2, a3, cap3, by go_num, by rw [HNX.out], by omega, HO3.out, HB3.out⟩
        case measure => simp [intOf]
      · have hix := ix2 (.int .i64 (wn : Int)) (.int .i64 (ln : Int)) (.int .i64 (nn : Int)) wr
        have cV := fun wx => Varint_any nn (by omega) wx
        have hlx := Lib.uvarint_length64 (x := nn) (by omega)
        have HO := Lib.hid ho
        have HBR := Lib.hid hb
        obtain ⟨m, hm⟩ : ∃ m, m = (codeP wn ln nn 2).length := ⟨_, rfl⟩
        rw [← hm] at HO ⊢
        have hm30 : m ≤ 30 := by rw [hm]; exact codeP_len wn ln nn 2 (by omega) (by omega) (by omega)
        have HM := Lib.hid hm
        clear ho hb hm
        go_wp2_with (go_at_call 48; (with_reducible refine (cV _).mono ?_))
        rintro e W2 ⟨a2, cap2, rfl, o2, b2⟩
        obtain ⟨m2, hm2⟩ : ∃ m2, m2 = (Lib.uvarint nn).length := ⟨_, rfl⟩
        rw [← hm2] at o2 hlx ⊢
        have HM2 := Lib.hid hm2
        clear hm2
        have hS2 := Bts.own o2
        have hnone := Lib.hid (show a2 = none → cap2 = 0 from fun h => own_none o2 h)
        have ho2 := Lib.hid (ownsLater HO.out b2)
        have hb2 := HBR.out.trans (b2.mono HBR.out.size)
        have hz2 := hb2.size
        go_wp2_with (at_builtin; refine wpList_append_bts _ rfl _ _ 25 rfl W1.heap.size 5 i0 Try.underlying25 hi hz0 hz1 hz2' _ _ _ rfl ho2.out _ _ _ (Lib.uvarint nn) rfl HM2.out.symm hS2 hnone.out (by omega) hz2 ?_)
        intro v' W3 o3 g3
        obtain ⟨a3, cap3, rfl⟩ := own_slice o3
        have HB3 := Lib.hid (below_grown hb2 (Nat.le_refl _) ho2.out g3)
        have hnx : m + m2 = (codeP wn ln nn 3).length ∧ Lib.byteCells (codeP wn ln nn 2) ++ Lib.byteCells (Lib.uvarint nn) = Lib.byteCells (codeP wn ln nn 3) := ⟨by rw [HM.out, HM2.out]; simp [codeP] <;> omega, by simp [codeP, Lib.byteCells]⟩
        rw [hnx.2, hnx.1] at o3
        have HO3 := Lib.hid o3
        have HNX := Lib.hid hnx.1
        clear hnx o3 g3 ho2 o2 b2 hb2 hS2 hnone cV hix
        go_wp2
        go_roundw
        case rel => exact ⟨3, a3, cap3, by go_num, by rw [HNX.out], by omega, HO3.out, HB3.out⟩
        case measure => simp [intOf]
      · have HO := Lib.hid ho
        have HB2 := Lib.hid (HZ.out.trans (hb.mono hzz))
        obtain ⟨m, hm⟩ : ∃ m, m = (codeP wn ln nn 3).length := ⟨_, rfl⟩
        have HM := Lib.hid hm
        rw [← hm] at HO
        go_wp2
        go_ret
        rw [HC.out]
        exact ⟨a, cap, by rw [← HM.out]; first | rfl | skip, by rw [← HM.out]; exact own_low HO.out hzz, HB2.out⟩
      · omega

end Go.Proofs.Ytggognmbjgkdfaa
