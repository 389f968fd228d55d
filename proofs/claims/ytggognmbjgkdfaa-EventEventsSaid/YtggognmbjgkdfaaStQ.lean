/-
  The reference's Encode.
-/
import Derived.Test.YtggognmbjgkdfaaStP
import Derived.Deep.RegionHeld3
set_option linter.unusedVariables false
namespace Go.Proofs.Ytggognmbjgkdfaa
open Go.RowKit

theorem keepE {w V W : World} {g : Nat} {x y z : Int} (hg : g < w.heap.size) (h : Below w.heap.size w V ∧ V.cell? ⟨g, 0, none⟩ = some (.int .i64 x) ∧ V.cell? ⟨g, 1, none⟩ = some (.int .i64 y) ∧ V.cell? ⟨g, 2, none⟩ = some (.int .i64 z)) (hb : Below w.heap.size V W) :
    Below w.heap.size w W ∧ W.cell? ⟨g, 0, none⟩ = some (.int .i64 x) ∧ W.cell? ⟨g, 1, none⟩ = some (.int .i64 y) ∧ W.cell? ⟨g, 2, none⟩ = some (.int .i64 z) :=
  ⟨h.1.trans hb, (hb.cell (p := ⟨g, 0, none⟩) hg).trans h.2.1, (hb.cell (p := ⟨g, 1, none⟩) hg).trans h.2.2.1, (hb.cell (p := ⟨g, 2, none⟩) hg).trans h.2.2.2⟩

set_option maxHeartbeats 4000000 in
set_option maxRecDepth 100000 in
theorem num_any (B m cap : Nat) (a : Option Addr) (l : List UInt8) (x : Nat) (hx : x < 9223372036854775808) (w : World) (hown : w.ownsRow B 5 1 (.slice a m cap) m (Lib.byteCells l)) (hB : B ≤ w.heap.size) (hlim : m ≤ 1000000) :
    Calls Try.prog 50 #[.slice a m cap, .int .i64 x] w (OwnPost B (m + (Lib.uvarint x).length) (l ++ Lib.uvarint x) w) := by
  obtain ⟨i0, hi, hz0, hz1, hz2'⟩ := info_parts infoByte8
  have ew : IntKind.u64.wrap (x : Int) = (x : Int) := IntWalk.u64_in _ (by omega)
  have cV := fun wx => rVarint_any x (by omega) wx
  have hlx := Lib.uvarint_length64 (x := x) (by omega)
  have HO := Lib.hid hown
  clear hown
  go_enter Try.func50, Try.ntmps50
  go_wp2_with (go_at_call 52; (with_reducible refine (cV _).mono ?_))
  rintro e W2 ⟨a2, cap2, rfl, o2, b2⟩
  obtain ⟨m2, hm2⟩ : ∃ m2, m2 = (Lib.uvarint x).length := ⟨_, rfl⟩
  rw [← hm2] at o2 hlx ⊢
  have HM2 := Lib.hid hm2
  clear hm2
  have hS2 := Bts.own o2
  have hnone := Lib.hid (show a2 = none → cap2 = 0 from fun h => own_none o2 h)
  have ho2 := Lib.hid (ownsLater HO.out b2)
  have hb2 := b2.mono hB
  have hz2 : B ≤ W2.heap.size := Nat.le_trans hB b2.size
  clear cV ew
  go_wp2_with (at_builtin; refine wpList_append_bts _ rfl _ _ 25 rfl B 5 i0 Try.underlying25 hi hz0 hz1 hz2' _ _ _ rfl ho2.out _ _ _ (Lib.uvarint x) rfl HM2.out.symm hS2 hnone.out (by omega) hz2 ?_)
  intro v' W3 o3 g3
  obtain ⟨a3, cap3, rfl⟩ := own_slice o3
  have HB3 := Lib.hid (below_grown hb2 hB ho2.out g3)
  rw [byteCells_app] at o3
  clear g3 ho2 o2 b2 hb2 hS2 hnone
  go_wp2
  go_ret
  rw [← HM2.out]
  exact ⟨a3, cap3, rfl, o3, HB3.out⟩

set_option maxHeartbeats 16000000 in
set_option maxRecDepth 100000 in
theorem rEncode_any (a : Sm) (w : World) :
    Calls Try.prog 60 #[.agg #[.int .i64 a.w, .int .i64 a.l, .int .i64 a.n]] w (OwnPost w.heap.size (codeL a).length (codeL a) w) := by
  obtain ⟨aw, al, an⟩ := a
  simp only
  have bA := (Below.refl w.heap.size w).alloc (Nat.le_refl _) (.cells #[.int .i64 aw, .int .i64 al, .int .i64 an] 40)
  have gA := heap_alloc_new w (.cells #[.int .i64 aw, .int .i64 al, .int .i64 an] 40)
  have HBA := Lib.hid bA
  have HGA := Lib.hid gA
  have cS := fun wx => rSound_any ⟨aw, al, an⟩ wx
  simp only at cS
  clear bA gA
  cases hsb : soundB ⟨aw, al, an⟩ with
  | false =>
    rw [hsb] at cS
    have HC : Hid (codeL ⟨aw, al, an⟩ = []) := by show _ = _; unfold codeL; rw [if_neg (by rw [hsb]; simp)]
    clear hsb
    go_enter Try.func60, Try.ntmps60
    go_wp2_with (go_at_call 59; (with_reducible refine (cS _).mono ?_))
    rintro e W1 ⟨rfl, b1⟩
    have HZ := Lib.hid (HBA.out.trans (b1.mono (by simp)))
    clear b1
    go_wp2
    go_ret
    rw [HC.out]
    exact ⟨none, 0, rfl, World.ownsRow_nil _ _ _ _, HZ.out⟩
  | true =>
    rw [hsb] at cS
    have hs := of_decide_eq_true hsb
    simp only at hs
    obtain ⟨s1, s2, s3, s4, s5, s6⟩ := hs
    obtain ⟨wn, rfl⟩ := Int.eq_ofNat_of_zero_le s1
    obtain ⟨ln, rfl⟩ := Int.eq_ofNat_of_zero_le s3
    obtain ⟨nn, rfl⟩ := Int.eq_ofNat_of_zero_le s5
    have HC : Hid (codeL ⟨(wn : Int), (ln : Int), (nn : Int)⟩ = (Lib.uvarint wn ++ Lib.uvarint ln) ++ Lib.uvarint nn) := by show _ = _; unfold codeL; rw [if_pos hsb]; rfl
    have h1 := Lib.uvarint_length64 (x := wn) (by omega)
    have h2 := Lib.uvarint_length64 (x := ln) (by omega)
    have hl1 : (Lib.uvarint wn).length ≤ 1000000 := by omega
    have hl2 : (Lib.uvarint wn).length + (Lib.uvarint ln).length ≤ 1000000 := by omega
    have hwn : wn < 9223372036854775808 := by omega
    have hln : ln < 9223372036854775808 := by omega
    have hnn : nn < 9223372036854775808 := by omega
    clear hsb
    go_enter Try.func60, Try.ntmps60
    go_wp2_with (go_at_call 59; (with_reducible refine (cS _).mono ?_))
    rintro e W1 ⟨rfl, b1⟩
    have HZ := Lib.hid (HBA.out.trans (b1.mono (by simp)))
    obtain ⟨x0, x1, x2, _⟩ := box_cells (box_below HGA.out b1 (by simp))
    have hz1 := HZ.out.size
    have hz2 : w.heap.size < W1.heap.size := lt_of_block (box_below HGA.out b1 (by simp))
    have c1 : Hid (∀ wx, Below W1.heap.size W1 wx → Calls Try.prog 50 #[.slice none 0 0, .int .i64 (wn : Int)] wx (OwnPost W1.heap.size (Lib.uvarint wn).length (Lib.uvarint wn) wx)) := by
      show ∀ _, _
      intro wx hx
      have := num_any W1.heap.size 0 0 none [] wn hwn wx (World.ownsRow_nil _ _ _ _) hx.size (by omega)
      rw [Nat.zero_add, List.nil_append] at this
      exact this
    clear b1 cS
    go_wp2_with fail
    go_region_held3 (fun w' => Below W1.heap.size W1 w' ∧ (w'.cell? ⟨w.heap.size, 0, none⟩ = some (.int .i64 (wn : Int)) ∧ w'.cell? ⟨w.heap.size, 1, none⟩ = some (.int .i64 (ln : Int)) ∧ w'.cell? ⟨w.heap.size, 2, none⟩ = some (.int .i64 (nn : Int))))
      (first | exact ⟨(Below.refl _ _).drew, x0, x1, x2⟩ | exact hs3 | exact hs2 | exact hs1 | exact keepE (x := (wn : Int)) (y := (ln : Int)) (z := (nn : Int)) hz2 (by assumption) (Below.refl _ _).drew | go_keep)
      (first
        | (go_at_call 50; (with_reducible refine (c1.out _ (And.left (by assumption))).mono ?_); rintro e V1 ⟨a1, p1, rfl, o1, b1⟩; have hs1 := keepE (x := (wn : Int)) (y := (ln : Int)) (z := (nn : Int)) hz2 (by assumption) b1)
        | (go_at_call 50; (with_reducible refine (num_any W1.heap.size _ p1 a1 _ ln hln V1 o1 (hs1.1.size) hl1).mono ?_); rintro e V2 ⟨a2, p2, rfl, o2, b2⟩; have hs2 := keepE (x := (wn : Int)) (y := (ln : Int)) (z := (nn : Int)) hz2 (by assumption) b2)
        | (go_at_call 50; (with_reducible refine (num_any W1.heap.size _ p2 a2 _ nn hnn V2 o2 (hs2.1.size) hl2).mono ?_); rintro e V3 ⟨a3, p3, rfl, o3, b3⟩; have hs3 := keepE (x := (wn : Int)) (y := (ln : Int)) (z := (nn : Int)) hz2 (by assumption) b3)
        | fail)
    all_goals (
      have HZ2 := Lib.hid (HZ.out.trans (hs3.1.mono hz1))
      have HO3 := Lib.hid (own_low o3 hz1)
      clear hs1 hs2 o1 o2 b1 b2 c1
      go_wp2
      go_ret
      refine ⟨a3, p3, ?_, ?_, HZ2.out⟩
      · rw [HC.out, List.length_append, List.length_append]; rfl
      · rw [HC.out, List.length_append, List.length_append]; exact HO3.out)

end Go.Proofs.Ytggognmbjgkdfaa
