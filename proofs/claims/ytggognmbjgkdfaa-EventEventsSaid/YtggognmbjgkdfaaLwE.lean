/-
  EventEvents: the walk.
-/
import Derived.Test.YtggognmbjgkdfaaEyD
import Derived.Test.YtggognmbjgkdfaaLwA
set_option linter.unusedVariables false
namespace Go.Proofs.Ytggognmbjgkdfaa
open Go.RowKit

theorem bytes_t (a b : Option Addr) (n m ca cb : Nat) (l : List UInt8) (w : World) (hl : l.length = n) (hr : l.length = m) (hn : n ≤ 1000000) (ha : Bts w a l) (hb : Bts w b l) :
    Calls Try.prog 16 #[.slice a n ca, .slice b m cb] w (TelPost (.bool true) w) := Bytes_same a b n m ca cb l w hl hr hn ha hb

/-- What stands through the last statement: the argument, both answers. -/
def Thr (w : World) (p q r : Nat) (x y : Ev) (w' : World) : Prop :=
  Below w.heap.size w w' ∧ w'.heap[p]? = some (.cells #[.string x.s, .int .i64 x.v, .string x.d, .int .i64 x.t.w, .int .i64 x.t.l, .int .i64 x.t.n, .int .i64 x.i] 42 (0, 0)) ∧ w'.heap[q]? = some (.cells #[.string y.s, .int .i64 y.v, .string y.d, .int .i64 y.t.w, .int .i64 y.t.l, .int .i64 y.t.n, .int .i64 y.i] 42 (0, 0)) ∧ w'.heap[r]? = some (.cells #[.string y.s, .int .i64 y.v, .string y.d, .int .i64 y.t.w, .int .i64 y.t.l, .int .i64 y.t.n, .int .i64 y.i] 42 (0, 0))
theorem Thr.later {w V W : World} {p q r : Nat} {x y : Ev} (h : Thr w p q r x y V) (b : Below V.heap.size V W) : Thr w p q r x y W :=
  ⟨h.1.trans (b.mono h.1.size), nb b h.2.1, nb b h.2.2.1, nb b h.2.2.2⟩
theorem keep21 {w V W : World} {a0 a1 a2 a3 a4 a5 a6 a7 a8 a9 a10 a11 a12 a13 a14 a15 a16 a17 a18 a19 a20 : Addr} {u0 u1 u2 u3 u4 u5 u6 u7 u8 u9 u10 u11 u12 u13 u14 u15 u16 u17 u18 u19 u20 : Value} (h : Below w.heap.size w V ∧ V.cell? a0 = some u0 ∧ V.cell? a1 = some u1 ∧ V.cell? a2 = some u2 ∧ V.cell? a3 = some u3 ∧ V.cell? a4 = some u4 ∧ V.cell? a5 = some u5 ∧ V.cell? a6 = some u6 ∧ V.cell? a7 = some u7 ∧ V.cell? a8 = some u8 ∧ V.cell? a9 = some u9 ∧ V.cell? a10 = some u10 ∧ V.cell? a11 = some u11 ∧ V.cell? a12 = some u12 ∧ V.cell? a13 = some u13 ∧ V.cell? a14 = some u14 ∧ V.cell? a15 = some u15 ∧ V.cell? a16 = some u16 ∧ V.cell? a17 = some u17 ∧ V.cell? a18 = some u18 ∧ V.cell? a19 = some u19 ∧ V.cell? a20 = some u20) (hb : Below V.heap.size V W) : Below w.heap.size w W ∧ W.cell? a0 = some u0 ∧ W.cell? a1 = some u1 ∧ W.cell? a2 = some u2 ∧ W.cell? a3 = some u3 ∧ W.cell? a4 = some u4 ∧ W.cell? a5 = some u5 ∧ W.cell? a6 = some u6 ∧ W.cell? a7 = some u7 ∧ W.cell? a8 = some u8 ∧ W.cell? a9 = some u9 ∧ W.cell? a10 = some u10 ∧ W.cell? a11 = some u11 ∧ W.cell? a12 = some u12 ∧ W.cell? a13 = some u13 ∧ W.cell? a14 = some u14 ∧ W.cell? a15 = some u15 ∧ W.cell? a16 = some u16 ∧ W.cell? a17 = some u17 ∧ W.cell? a18 = some u18 ∧ W.cell? a19 = some u19 ∧ W.cell? a20 = some u20 := by
  obtain ⟨h, h0, h1, h2, h3, h4, h5, h6, h7, h8, h9, h10, h11, h12, h13, h14, h15, h16, h17, h18, h19, h20⟩ := h
  exact ⟨h.trans (hb.mono h.size), cell_later hb h0, cell_later hb h1, cell_later hb h2, cell_later hb h3, cell_later hb h4, cell_later hb h5, cell_later hb h6, cell_later hb h7, cell_later hb h8, cell_later hb h9, cell_later hb h10, cell_later hb h11, cell_later hb h12, cell_later hb h13, cell_later hb h14, cell_later hb h15, cell_later hb h16, cell_later hb h17, cell_later hb h18, cell_later hb h19, cell_later hb h20⟩
theorem Thr.cells {w w' : World} {p q r : Nat} {x y : Ev} (h : Thr w p q r x y w') : Below w.heap.size w w' ∧ w'.cell? ⟨p, 0, none⟩ = some (.string x.s) ∧ w'.cell? ⟨p, 1, none⟩ = some (.int .i64 x.v) ∧ w'.cell? ⟨p, 2, none⟩ = some (.string x.d) ∧ w'.cell? ⟨p, 3, none⟩ = some (.int .i64 x.t.w) ∧ w'.cell? ⟨p, 4, none⟩ = some (.int .i64 x.t.l) ∧ w'.cell? ⟨p, 5, none⟩ = some (.int .i64 x.t.n) ∧ w'.cell? ⟨p, 6, none⟩ = some (.int .i64 x.i) ∧ w'.cell? ⟨q, 0, none⟩ = some (.string y.s) ∧ w'.cell? ⟨q, 1, none⟩ = some (.int .i64 y.v) ∧ w'.cell? ⟨q, 2, none⟩ = some (.string y.d) ∧ w'.cell? ⟨q, 3, none⟩ = some (.int .i64 y.t.w) ∧ w'.cell? ⟨q, 4, none⟩ = some (.int .i64 y.t.l) ∧ w'.cell? ⟨q, 5, none⟩ = some (.int .i64 y.t.n) ∧ w'.cell? ⟨q, 6, none⟩ = some (.int .i64 y.i) ∧ w'.cell? ⟨r, 0, none⟩ = some (.string y.s) ∧ w'.cell? ⟨r, 1, none⟩ = some (.int .i64 y.v) ∧ w'.cell? ⟨r, 2, none⟩ = some (.string y.d) ∧ w'.cell? ⟨r, 3, none⟩ = some (.int .i64 y.t.w) ∧ w'.cell? ⟨r, 4, none⟩ = some (.int .i64 y.t.l) ∧ w'.cell? ⟨r, 5, none⟩ = some (.int .i64 y.t.n) ∧ w'.cell? ⟨r, 6, none⟩ = some (.int .i64 y.i) := by
  obtain ⟨b, h1, h2, h3⟩ := h
  obtain ⟨p0, p1, p2, p3, p4, p5, p6, _⟩ := box7_cells h1
  obtain ⟨q0, q1, q2, q3, q4, q5, q6, _⟩ := box7_cells h2
  obtain ⟨r0, r1, r2, r3, r4, r5, r6, _⟩ := box7_cells h3
  exact ⟨b, p0, p1, p2, p3, p4, p5, p6, q0, q1, q2, q3, q4, q5, q6, r0, r1, r2, r3, r4, r5, r6⟩

set_option maxHeartbeats 8000000 in
set_option maxRecDepth 100000 in
theorem EventEvents_body (x : Ev) (a : Option Addr) (n c : Nat) (l : List UInt8) (w : World) (hx : EvIn x) (hl : l.length = n) (hnc : n ≤ c) (hnm : n ≤ maxLen) (hb : Bts w a l) :
    Calls Try.prog 4 #[.agg #[.string x.s, .int .i64 x.v, .string x.d, .int .i64 x.t.w, .int .i64 x.t.l, .int .i64 x.t.n, .int .i64 x.i], .slice a n c] w (TelPost (.bool true) w) := by
  have bA := (Below.refl w.heap.size w).alloc (Nat.le_refl _) (.cells #[.string x.s, .int .i64 x.v, .string x.d, .int .i64 x.t.w, .int .i64 x.t.l, .int .i64 x.t.n, .int .i64 x.i] 42)
  have gA := heap_alloc_new w (.cells #[.string x.s, .int .i64 x.v, .string x.d, .int .i64 x.t.w, .int .i64 x.t.l, .int .i64 x.t.n, .int .i64 x.i] 42)
  have cW := fun wx hb => aw_t w wx hb
  have hxs : x.s.size ≤ maxLen := hx.fit.s
  have hxd : x.d.size ≤ maxLen := hx.fit.d
  have c0 := Sum_0 (w.heap.size + 1) 2 2 [x.s.size, x.d.size] ((w.alloc (.cells #[.string x.s, .int .i64 x.v, .string x.d, .int .i64 x.t.w, .int .i64 x.t.l, .int .i64 x.t.n, .int .i64 x.i] 42)).alloc (.cells #[.int .i64 x.s.size, .int .i64 x.d.size] 3)) rfl (by omega) (fun j hj => by have := two_at (w := w.alloc (.cells #[.string x.s, .int .i64 x.v, .string x.d, .int .i64 x.t.w, .int .i64 x.t.l, .int .i64 x.t.n, .int .i64 x.i] 42)) (m := x.s.size) (k := x.d.size) (t := 3) j hj; rw [World.size_alloc] at this; exact this) (fun z hz => by simp at hz; rcases hz with rfl | rfl; exact .inl hxs; exact .inl hxd)
  have bB := bA.alloc bA.size (.cells #[.int .i64 x.s.size, .int .i64 x.d.size] 3)
  have gB := box_alloc gA (.cells #[.int .i64 x.s.size, .int .i64 x.d.size] 3)
  have HBB := Lib.hid bB
  have HGB := Lib.hid gB
  have HBT := Lib.hid hb
  have HL := Lib.hid hl
  clear bA gA bB gB hb hl
  unfold maxLen at hnm
  go_enter Try.func4, Try.ntmps4
  go_wp2_with (go_at_call 20; (with_reducible refine c0.mono ?_))
  rintro e W1 ⟨t, rfl, ht1, ht2, b1⟩
  have HB1 := Lib.hid (HBB.out.trans (b1.mono HBB.out.size))
  have HG1 := Lib.hid (nb b1 HGB.out)
  have HT2 := Lib.hid ht2
  clear ht2 b1 c0
  by_cases c1 : 6000 < t
  · have c1i : decide (6000 < (t : Int)) = true := decide_eq_true (by omega)
    clear c1
    go_wp2_with (go_at_call 11; (with_reducible refine (cW _ HB1.out).mono ?_))
    rintro e W2 ⟨rfl, b2⟩
    go_wp2
    go_ret
    exact ⟨rfl, b2⟩
  have c1i : decide (6000 < (t : Int)) = false := decide_eq_false (by omega)
  by_cases c2 : 6000 < n
  · have c2i : decide (6000 < (n : Int)) = true := decide_eq_true (by omega)
    clear c1 c2
    go_wp2_with (go_at_call 11; (with_reducible refine (cW _ HB1.out).mono ?_))
    rintro e W2 ⟨rfl, b2⟩
    go_wp2
    go_ret
    exact ⟨rfl, b2⟩
  have c2i : decide (6000 < (n : Int)) = false := decide_eq_false (by omega)
  have hss : x.s.size ≤ 6000 ∧ x.d.size ≤ 6000 := by
    have := HT2.out (by omega)
    simp at this
    omega
  have hlim : (encE x).length ≤ 1000000 := by
    unfold encE
    split
    · have h1 := tx_le hss.1 (by omega)
      have h2 := tx_le hss.2 (by omega)
      rename_i hok
      obtain ⟨_, ⟨v0, v1⟩, d1, _, _, i1, i2⟩ := evOk_iff.1 hok
      have h3 := uv_len x.v.toNat (by omega)
      have h4 := uv_len x.i.toNat (by omega)
      have h5 := code_len x.t
      unfold evC
      simp only [List.length_append]
      omega
    · simp
  obtain ⟨X, hX⟩ : ∃ X, X = ((decE l).getD (ev0, 0)).1 := ⟨_, rfl⟩
  obtain ⟨k, hk⟩ : ∃ k : Nat, k = ((decE l).getD (ev0, 0)).2 := ⟨_, rfl⟩
  obtain ⟨er, her⟩ : ∃ er : Int, er = (if (decE l).isSome then 0 else 10) := ⟨_, rfl⟩
  have cD : ∀ V, Below w.heap.size w V → Calls Try.prog 21 #[.slice a n c] V (TelPost (.tuple #[evV X, .int .i64 k, .int .i64 er]) V) := fun V hV => by
    have := DecodeEvent_any a n c l V HL.out (by omega) hnc (HBT.out.later hV)
    unfold DecEPost at this
    rw [← hX, ← hk, ← her] at this
    exact this
  have cR : ∀ V, Below w.heap.size w V → Calls Try.prog 22 #[.slice a n c] V (TelPost (.tuple #[evV X, .int .i64 k, .int .i64 er]) V) := fun V hV => by
    have := rDecodeEvent_any a n c l V HL.out (by omega) hnc (HBT.out.later hV)
    unfold DecEPost at this
    rw [← hX, ← hk, ← her] at this
    exact this
  unfold evV at cD cR
  have cE := fun V => EncodeEvent_any x V (by omega) (by unfold maxLen; omega)
  have cF := fun V => rEncodeEvent_any x V (by omega) (by omega)
  clear hX hk her hss c1 c2
  have CD := Lib.hid cD
  have CR := Lib.hid cR
  clear cD cR
  go_wp2_with (go_at_call 21; (with_reducible refine (CD.out _ HB1.out).mono ?_))
  rintro e W2 ⟨rfl, b2⟩
  have HB2 := Lib.hid ((HB1.out.trans (b2.mono HB1.out.size)).alloc (HB1.out.trans (b2.mono HB1.out.size)).size (.cells #[.string X.s, .int .i64 X.v, .string X.d, .int .i64 X.t.w, .int .i64 X.t.l, .int .i64 X.t.n, .int .i64 X.i] 42))
  have HG2 := Lib.hid (box_alloc (nb b2 HG1.out) (.cells #[.string X.s, .int .i64 X.v, .string X.d, .int .i64 X.t.w, .int .i64 X.t.l, .int .i64 X.t.n, .int .i64 X.i] 42))
  have HY2 := Lib.hid (heap_alloc_new W2 (.cells #[.string X.s, .int .i64 X.v, .string X.d, .int .i64 X.t.w, .int .i64 X.t.l, .int .i64 X.t.n, .int .i64 X.i] 42))
  clear b2
  go_wp2_with (go_at_call 22; (with_reducible refine (CR.out _ HB2.out).mono ?_))
  rintro e W3 ⟨rfl, b3⟩
  have HT := Lib.hid (show Thr w w.heap.size W2.heap.size W3.heap.size x X (W3.alloc (.cells #[.string X.s, .int .i64 X.v, .string X.d, .int .i64 X.t.w, .int .i64 X.t.l, .int .i64 X.t.n, .int .i64 X.i] 42)) from
    ⟨(HB2.out.trans (b3.mono HB2.out.size)).alloc (HB2.out.trans (b3.mono HB2.out.size)).size _, box_alloc (nb b3 HG2.out) _, box_alloc (nb b3 HY2.out) _, heap_alloc_new W3 _⟩)
  obtain ⟨_, p0, p1, p2, p3, p4, p5, p6, q0, q1, q2, q3, q4, q5, q6, r0, r1, r2, r3, r4, r5, r6⟩ := HT.out.cells
  obtain ⟨Wd, hWd⟩ : ∃ Wd, Wd = W3.alloc (.cells #[.string X.s, .int .i64 X.v, .string X.d, .int .i64 X.t.w, .int .i64 X.t.l, .int .i64 X.t.n, .int .i64 X.i] 42) := ⟨_, rfl⟩
  have hsz3 : Wd.heap.size = W3.heap.size + 1 := by rw [hWd, World.size_alloc]
  clear b3
  clear hWd hsz3 Wd
  go_wp2_with fail
  go_region_held3 (fun w' => Below w.heap.size w w' ∧ w'.cell? ⟨w.heap.size, 0, none⟩ = some (.string x.s) ∧ w'.cell? ⟨w.heap.size, 1, none⟩ = some (.int .i64 x.v) ∧ w'.cell? ⟨w.heap.size, 2, none⟩ = some (.string x.d) ∧ w'.cell? ⟨w.heap.size, 3, none⟩ = some (.int .i64 x.t.w) ∧ w'.cell? ⟨w.heap.size, 4, none⟩ = some (.int .i64 x.t.l) ∧ w'.cell? ⟨w.heap.size, 5, none⟩ = some (.int .i64 x.t.n) ∧ w'.cell? ⟨w.heap.size, 6, none⟩ = some (.int .i64 x.i) ∧ w'.cell? ⟨W2.heap.size, 0, none⟩ = some (.string X.s) ∧ w'.cell? ⟨W2.heap.size, 1, none⟩ = some (.int .i64 X.v) ∧ w'.cell? ⟨W2.heap.size, 2, none⟩ = some (.string X.d) ∧ w'.cell? ⟨W2.heap.size, 3, none⟩ = some (.int .i64 X.t.w) ∧ w'.cell? ⟨W2.heap.size, 4, none⟩ = some (.int .i64 X.t.l) ∧ w'.cell? ⟨W2.heap.size, 5, none⟩ = some (.int .i64 X.t.n) ∧ w'.cell? ⟨W2.heap.size, 6, none⟩ = some (.int .i64 X.i) ∧ w'.cell? ⟨W3.heap.size, 0, none⟩ = some (.string X.s) ∧ w'.cell? ⟨W3.heap.size, 1, none⟩ = some (.int .i64 X.v) ∧ w'.cell? ⟨W3.heap.size, 2, none⟩ = some (.string X.d) ∧ w'.cell? ⟨W3.heap.size, 3, none⟩ = some (.int .i64 X.t.w) ∧ w'.cell? ⟨W3.heap.size, 4, none⟩ = some (.int .i64 X.t.l) ∧ w'.cell? ⟨W3.heap.size, 5, none⟩ = some (.int .i64 X.t.n) ∧ w'.cell? ⟨W3.heap.size, 6, none⟩ = some (.int .i64 X.i))
    (first
      | exact (HT.out.later (Below.refl _ _).drew).cells
      | exact hs4
      | exact hs3
      | exact hs2
      | exact hs1
      | go_keep)
    (first
      | (go_at_call 23; (with_reducible refine (cE _).mono ?_); rintro e V1 ⟨a1, n1, p1, rfl, l1, o1, b1, _⟩; have hs1 := keep21 (by assumption) b1)
      | (go_at_call 24; (with_reducible refine (cF _).mono ?_); rintro e V2 ⟨a2, n2, p2, rfl, l2, o2, b2, _⟩; have hs2 := keep21 (by assumption) b2)
      | (go_at_call 16; (with_reducible refine (bytes_t a1 a2 n1 n2 p1 p2 (encE x) V2 l1 l2 (by omega) (Bts.own (ownsLater o1 b2)) (Bts.own o2)).mono ?_); rintro e V3 ⟨rfl, b3⟩; have hs3 := keep21 hs2 b3)
      | (go_at_call 11; (with_reducible refine (awake_any V3).mono ?_); rintro e V4 ⟨rfl, b4⟩; have hs4 := keep21 hs3 b4)
      | fail)
  all_goals (
    have HB4 := Lib.hid hs4.1
    clear hs1 hs2 hs3 hs4 b1 b2 b3 b4 o1 o2 l1 l2
    go_wp2
    go_ret
    exact ⟨rfl, HB4.out⟩)

theorem EventEvents_walk (a0 : Ev) (a1 : Option Addr) (len1 cap1 : Nat) (z1 : List Int) (w : World) (w0 : EvIn a0) (w1 : RowIn .u8 w a1 len1 cap1 z1) :
    Calls Try.prog 4 #[.agg #[.string a0.s, .int .i64 a0.v, .string a0.d, .int .i64 a0.t.w, .int .i64 a0.t.l, .int .i64 a0.t.n, .int .i64 a0.i], .slice a1 len1 cap1] w fun e w' => e = .returned (.bool true) ∧ Below w.heap.size w w' := by
  obtain ⟨l, hl, hb, hc, hm, _⟩ := w1.bts
  exact EventEvents_body a0 a1 len1 cap1 l w w0 hl hc (Nat.le_trans hc hm) hb

end Go.Proofs.Ytggognmbjgkdfaa
