/-
  Events as bytes: package event's layEvent, EncodeEvent.
-/
import Derived.Test.YtggognmbjgkdfaaEnA
import Derived.Test.YtggognmbjgkdfaaStP
set_option linter.unusedVariables false
namespace Go.Proofs.Ytggognmbjgkdfaa
open Go.RowKit

theorem code_len (a : Sm) : (codeL a).length ≤ 30 := by
  cases h : soundB a with
  | false => rw [code_nil h]; simp
  | true =>
    unfold codeL
    rw [if_pos h]
    simp only [soundB, decide_eq_true_eq] at h
    exact codeP_len _ _ _ _ (by omega) (by omega) (by omega)
theorem tx_le {s : ByteArray} {k : Nat} (h : s.size ≤ k) (hk : k ≤ 1000000) : (tx s).length ≤ k + 10 := by
  have := tx_len s
  have := uv_len s.size (by omega)
  omega

set_option maxHeartbeats 8000000 in
set_option maxRecDepth 100000 in
theorem layEvent_any (B m cap : Nat) (a : Option Addr) (l : List UInt8) (e : Ev) (w : World) (hown : w.ownsRow B 5 1 (.slice a m cap) m (Lib.byteCells l)) (hl : l.length = m) (hB : B ≤ w.heap.size) (hlim : m ≤ 500000) (hs : e.s.size ≤ 80000) (he : evOk e = true) :
    Calls Try.prog 58 #[.slice a m cap, .agg #[.string e.s, .int .i64 e.v, .string e.d, .int .i64 e.t.w, .int .i64 e.t.l, .int .i64 e.t.n, .int .i64 e.i]] w (OutPost B (l ++ evC e) w) := by
  obtain ⟨i0, hi, hz0, hz1, hz2'⟩ := info_parts infoByte8
  obtain ⟨_, ⟨v0, v1⟩, d1, _, _, i1, i2⟩ := evOk_iff.1 he
  have bA := (Below.refl w.heap.size w).alloc (Nat.le_refl _) (.cells #[.string e.s, .int .i64 e.v, .string e.d, .int .i64 e.t.w, .int .i64 e.t.l, .int .i64 e.t.n, .int .i64 e.i] 42)
  have gA := heap_alloc_new w (.cells #[.string e.s, .int .i64 e.v, .string e.d, .int .i64 e.t.w, .int .i64 e.t.l, .int .i64 e.t.n, .int .i64 e.i] 42)
  have HE := Lib.hid (show evC e = tx e.s ++ (uv e.v.toNat ++ (tx e.d ++ (codeL e.t ++ uv e.i.toNat))) from rfl)
  have hc := code_len e.t
  have cE := fun wx => encode_any e.t wx
  obtain ⟨s, v, d, t, i⟩ := e
  simp only at *
  obtain ⟨v, rfl⟩ : ∃ n : Nat, v = (n : Int) := ⟨v.toNat, by omega⟩
  obtain ⟨i, rfl⟩ : ∃ n : Nat, i = (n : Int) := ⟨i.toNat, by omega⟩
  simp only [Int.toNat_natCast] at HE
  have t1 := tx_le hs (by omega)
  have t2 := tx_le d1 (by omega)
  have t3 := uv_len v (by omega)
  have t4 := uv_len i (by omega)
  have ho := ownsLater hown bA
  have c1 := layText_any B m cap a l s _ ho hl (Nat.le_trans hB bA.size) (by omega) (by omega)
  have HBA := Lib.hid bA
  have HGA := Lib.hid gA
  have HL := Lib.hid hl
  clear bA gA hown ho he
  go_enter Try.func58, Try.ntmps58
  go_wp2_with (go_at_call 46; (with_reducible refine c1.mono ?_))
  rintro e1 W1 ⟨a1, n1, p1, rfl, l1, o1, b1, y1⟩
  have HB1 := Lib.hid ((HBA.out.mono hB).trans b1)
  have HY1 := Lib.hid ((Stay.of_below HBA.out).trans y1)
  have g1 := y1.cells HGA.out (by decide)
  obtain ⟨x10, x11, x12, x13, x14, x15, x16, _⟩ := box7_cells g1
  have hn1 : n1 = m + (tx s).length := by rw [← l1, List.length_append, hl]
  have HG1 := Lib.hid g1
  have c2 := layNumber_any B n1 p1 a1 _ v W1 o1 l1 (by have := HB1.out.size; omega) (by omega) (by omega)
  have HN1 := Lib.hid hn1
  clear c1 b1 y1 o1 l1 hn1 g1 hl
  go_wp2_with (go_at_call 47; (with_reducible refine c2.mono ?_))
  rintro e2 W2 ⟨a2, n2, p2, rfl, l2, o2, b2, y2⟩
  have HB2 := Lib.hid (HB1.out.trans b2)
  have HY2 := Lib.hid (HY1.out.trans y2)
  have g2 := y2.cells HG1.out (by decide)
  obtain ⟨x20, x21, x22, x23, x24, x25, x26, _⟩ := box7_cells g2
  have hn2 : n2 ≤ m + (tx s).length + 10 := by rw [← l2, List.length_append, List.length_append]; have := HN1.out; have := HL.out; omega
  have HG2 := Lib.hid g2
  have c3 := layText_any B n2 p2 a2 _ d W2 o2 l2 (by have := HB2.out.size; omega) (by omega) (by omega)
  clear c2 b2 y2 o2 l2 g2
  go_wp2_with (go_at_call 46; (with_reducible refine c3.mono ?_))
  rintro e3 W3 ⟨a3, n3, p3, rfl, l3, o3, b3, y3⟩
  have HB3 := Lib.hid (HB2.out.trans b3)
  have HY3 := Lib.hid (HY2.out.trans y3)
  have g3 := y3.cells HG2.out (by decide)
  obtain ⟨x30, x31, x32, x33, x34, x35, x36, _⟩ := box7_cells g3
  have hn3 : n3 ≤ m + (tx s).length + 10 + 1010 := by rw [← l3]; simp only [List.length_append]; have := HL.out; omega
  have HG3 := Lib.hid g3
  have HO3 := Lib.hid o3
  have HL3 := Lib.hid l3
  clear c3 b3 y3 o3 l3 g3
  go_wp2_with (go_at_call 66; (with_reducible refine (cE _).mono ?_))
  rintro e4 W4 ⟨a4, p4, rfl, o4, b4⟩
  obtain ⟨m4, hm4⟩ : ∃ m4, m4 = (codeL t).length := ⟨_, rfl⟩
  rw [← hm4] at o4 hc ⊢
  have HM4 := Lib.hid hm4
  clear hm4
  have hS4 := Bts.own o4
  have hnone := Lib.hid (show a4 = none → p4 = 0 from fun h => own_none o4 h)
  have ho4 := Lib.hid (ownsLater HO3.out b4)
  have hz4 : B ≤ W4.heap.size := by have := HB3.out.size; have := b4.size; omega
  have HY4 := Lib.hid (HY3.out.trans (Stay.of_below b4))
  have HB4 := Lib.hid (HB3.out.trans (b4.mono (by have := HB3.out.size; omega)))
  have HG4 := Lib.hid (nb b4 HG3.out)
  clear b4 o4
  go_wp2_with (at_builtin; refine wpList_append_bts _ rfl _ _ 25 rfl B 5 i0 Try.underlying25 hi hz0 hz1 hz2' _ _ _ rfl ho4.out _ _ _ (codeL t) rfl HM4.out.symm hS4 hnone.out (by omega) hz4 ?_)
  intro v' W5 o5 gr5
  obtain ⟨a5, p5, rfl⟩ := own_slice o5
  have HB5 := Lib.hid (below_grown HB4.out (by have := HBA.out.size; omega) ho4.out gr5)
  have HY5 := Lib.hid (HY4.out.trans (Stay.grown ho4.out gr5))
  have g5 := (Stay.grown ho4.out gr5).cells HG4.out (by decide)
  obtain ⟨x50, x51, x52, x53, x54, x55, x56, _⟩ := box7_cells g5
  rw [byteCells_app] at o5
  have c6 := layNumber_any B (n3 + m4) p5 a5 _ i W5 o5 (by have h1 := HL3.out; have h2 := HM4.out; simp only [List.length_append] at h1 ⊢; omega) (by have := HB5.out.size; omega) (by omega) (by omega)
  clear gr5 ho4 g5 o5 hS4 hnone
  go_wp2_with (go_at_call 47; (with_reducible refine c6.mono ?_))
  rintro e6 W6 ⟨a6, n6, p6, rfl, l6, o6, b6, y6⟩
  have HF := Lib.hid (show OutPost B (l ++ evC ⟨s, v, d, t, i⟩) w (.returned (.slice a6 n6 p6)) W6 from by
    rw [HE.out]
    simp only [List.append_assoc] at l6 o6
    exact ⟨a6, n6, p6, rfl, l6, o6, HB5.out.trans b6, HY5.out.trans y6⟩)
  clear l6 o6 b6 y6 c6
  go_wp2
  go_ret
  exact HF.out

theorem OutPost.no {B : Nat} {w w' : World} (hB : B ≤ w.heap.size) (h : Below w.heap.size w w') : OutPost B [] w (.returned (.slice none 0 0)) w' :=
  ⟨none, 0, 0, rfl, rfl, World.ownsRow_nil _ _ _ _, h.mono hB, Stay.of_below h⟩
theorem OutPost.back {B : Nat} {w w1 w' : World} {l : List UInt8} {e : Ending} (h : OutPost B l w1 e w') (hb : Below w.heap.size w w1) (hB : B ≤ w.heap.size) : OutPost B l w e w' := by
  obtain ⟨a, n, c, h1, h2, h3, h4, h5⟩ := h
  exact ⟨a, n, c, h1, h2, h3, (hb.mono hB).trans h4, (Stay.of_below hb).trans h5⟩

set_option maxHeartbeats 4000000 in
set_option maxRecDepth 100000 in
theorem EncodeEvent_any (e : Ev) (w : World) (hs : e.s.size ≤ 80000) (hd : e.d.size ≤ maxLen) :
    Calls Try.prog 23 #[.agg #[.string e.s, .int .i64 e.v, .string e.d, .int .i64 e.t.w, .int .i64 e.t.l, .int .i64 e.t.n, .int .i64 e.i]] w (OutPost w.heap.size (encE e) w) := by
  have bA := (Below.refl w.heap.size w).alloc (Nat.le_refl _) (.cells #[.string e.s, .int .i64 e.v, .string e.d, .int .i64 e.t.w, .int .i64 e.t.l, .int .i64 e.t.n, .int .i64 e.i] 42)
  have gA := heap_alloc_new w (.cells #[.string e.s, .int .i64 e.v, .string e.d, .int .i64 e.t.w, .int .i64 e.t.l, .int .i64 e.t.n, .int .i64 e.i] 42)
  have cI := isEvent_any e (w.alloc (.cells #[.string e.s, .int .i64 e.v, .string e.d, .int .i64 e.t.w, .int .i64 e.t.l, .int .i64 e.t.n, .int .i64 e.i] 42)) (by unfold maxLen; omega) hd
  have cL := fun (V : World) (he : evOk e = true) => layEvent_any V.heap.size 0 0 none [] e V (World.ownsRow_nil _ _ _ _) rfl (Nat.le_refl _) (by omega) hs he
  obtain ⟨s, v, d, ⟨tw, tl, tn⟩, i⟩ := e
  simp only at *
  have HBA := Lib.hid bA
  have HGA := Lib.hid gA
  clear bA gA hs hd
  cases he : evOk ⟨s, v, d, ⟨tw, tl, tn⟩, i⟩ with
  | false =>
    rw [he] at cI
    have HR := Lib.hid (show encE ⟨s, v, d, ⟨tw, tl, tn⟩, i⟩ = [] by unfold encE; rw [he]; rfl)
    clear he cL
    go_enter Try.func23, Try.ntmps23
    go_wp2_with (go_at_call 56; (with_reducible refine cI.mono ?_))
    rintro e1 W1 ⟨rfl, b1⟩
    have HB1 := Lib.hid (HBA.out.trans (b1.mono HBA.out.size))
    clear b1 cI
    go_wp2
    go_ret
    rw [HR.out]
    exact OutPost.no (Nat.le_refl _) HB1.out
  | true =>
    rw [he] at cI
    have HR := Lib.hid (show encE ⟨s, v, d, ⟨tw, tl, tn⟩, i⟩ = evC ⟨s, v, d, ⟨tw, tl, tn⟩, i⟩ by unfold encE; rw [he]; rfl)
    have cL2 := fun V => cL V he
    clear he cL
    go_enter Try.func23, Try.ntmps23
    go_wp2_with (go_at_call 56; (with_reducible refine cI.mono ?_))
    rintro e1 W1 ⟨rfl, b1⟩
    have HB1 := Lib.hid (HBA.out.trans (b1.mono HBA.out.size))
    have g1 := nb b1 HGA.out
    obtain ⟨x10, x11, x12, x13, x14, x15, x16, _⟩ := box7_cells g1
    clear b1 cI g1
    go_wp2_with (go_at_call 58; (with_reducible refine (cL2 _).mono ?_))
    rintro e2 W2 ⟨a2, n2, p2, rfl, l2, o2, b2, y2⟩
    have HF := Lib.hid (show OutPost w.heap.size (evC ⟨s, v, d, ⟨tw, tl, tn⟩, i⟩) w (.returned (.slice a2 n2 p2)) W2 from ⟨a2, n2, p2, rfl, l2, own_low o2 HB1.out.size, HB1.out.trans (b2.mono HB1.out.size), (Stay.of_below HB1.out).trans y2⟩)
    clear l2 o2 b2 y2 cL2
    go_wp2
    go_ret
    rw [HR.out]
    exact HF.out

end Go.Proofs.Ytggognmbjgkdfaa
