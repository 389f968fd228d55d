/-
  The reference's Eye: an event; its DecodeEvent.
-/
import Derived.Test.YtggognmbjgkdfaaEyB
set_option linter.unusedVariables false
namespace Go.Proofs.Ytggognmbjgkdfaa
open Go.RowKit

/-- The Eye, the block k that is filled, and the block r of the result. -/
structure EyBox (w W : World) (g : Nat) (a : Option Addr) (n c : Nat) (l : List UInt8) (I : Nat) (bad : Bool) (k : Nat) (cs : Array Value) (r : Nat) (zs : Array Value) (t : TypeId) : Prop where
  mid : EyMid w W g a n c l I bad r zs t
  box : W.heap[k]? = some (.cells cs t (0, 0))
  kr : w.heap.size ≤ k ∧ k ≠ r
theorem EyMid.boxed {w W : World} {g r : Nat} {a : Option Addr} {n c I : Nat} {l : List UInt8} {bad : Bool} {zs : Array Value} {t : TypeId} (h : EyMid w W g a n c l I bad r zs t) (cs : Array Value) : EyBox w (W.alloc (.cells cs t)) g a n c l I bad W.heap.size cs r zs t :=
  ⟨h.later ((Below.refl _ W).alloc (Nat.le_refl _) _), heap_alloc_new W _, h.kept.size, fun e => by have := lt_of_block h.res; omega⟩
theorem EyBox.call {w W W1 : World} {g k r : Nat} {a : Option Addr} {n c I I1 : Nat} {l : List UInt8} {bad b1 : Bool} {cs zs : Array Value} {t : TypeId} (h : EyBox w W g a n c l I bad k cs r zs t) (h1 : EyAt W1 g a n c l I1 b1) (q : Kept (fun k => k = g) W W1) : EyBox w W1 g a n c l I1 b1 k cs r zs t :=
  ⟨h.mid.call h1 q, (q.block k (lt_of_block h.box) (fun e => by have := h.mid.lo; have := h.kr.1; omega)).trans h.box, h.kr⟩
theorem EyBox.later {w W W1 : World} {g k r : Nat} {a : Option Addr} {n c I : Nat} {l : List UInt8} {bad : Bool} {cs zs : Array Value} {t : TypeId} (h : EyBox w W g a n c l I bad k cs r zs t) (b : Below W.heap.size W W1) : EyBox w W1 g a n c l I bad k cs r zs t :=
  ⟨h.mid.later b, nb b h.box, h.kr⟩
theorem EyBox.set {w W : World} {g k r : Nat} {a : Option Addr} {n c I : Nat} {l : List UInt8} {bad : Bool} {cs zs : Array Value} {t : TypeId} (h : EyBox w W g a n c l I bad k cs r zs t) (j : Nat) (v : Value) (cs' : Array Value) (hc : cs' = cs.setIfInBounds j v) : EyBox w (W.setCell ⟨k, j, none⟩ v) g a n c l I bad k cs' r zs t := by
  have hlo := h.mid.lo
  have hkr := h.kr
  have hK : Kept (fun i => i = k) W (W.setCell ⟨k, j, none⟩ v) := (Kept.refl (fun i => i = k) W).setCell (p := ⟨k, j, none⟩) (fun _ => rfl) v
  refine ⟨⟨h.mid.ey.keep hK (fun i e => by omega), (heap_setCell_other W ⟨k, j, none⟩ r v (by show r ≠ k; omega)).trans h.mid.res, h.mid.kept.trans hK (fun i hi e => by omega), hlo, h.mid.rr⟩, ?_, hkr⟩
  rw [hc]
  exact heap_setCell_same W k j cs t v h.box
/-- The Eye turns bad, and the result is laid. -/
theorem EyMid.fail {w W : World} {g r : Nat} {a : Option Addr} {n c I : Nat} {l : List UInt8} {bad : Bool} {zs : Array Value} {t : TypeId} (h : EyMid w W g a n c l I bad r zs t) : EyMid w (W.setCell ⟨g, 2, none⟩ (.bool true)) g a n c l I true r zs t :=
  h.call (h.ey.self (keptSet (Kept.refl _ W) 2 _) h.ey.le (heap_setCell_same W g 2 _ _ _ h.ey.box)) (keptSet (Kept.refl _ W) 2 _)

theorem evC_pos (e : Ev) : 0 < (evC e).length := by
  unfold evC
  rw [List.length_append]
  have := tx_len e.s
  have := uv_pos e.s.size
  omega
theorem encE_nil {e : Ev} : (encE e).length = 0 ↔ evOk e = false := by
  have := evC_pos e
  unfold encE
  cases h : evOk e with
  | false => simp
  | true => simp; intro e2; rw [e2] at this; simp at this
theorem rEv_yes {l : List UInt8} {x : Ev} {r : List UInt8} (h : gEvent 1099511627776 160 l = some (x, r)) (hx : evOk x = true) : rEv l = some (x, r) := by
  unfold rEv; rw [h]; exact if_pos hx
theorem rEv_no {l : List UInt8} {x : Ev} {r : List UInt8} (h : gEvent 1099511627776 160 l = some (x, r)) (hx : evOk x = false) : rEv l = none := by
  unfold rEv; rw [h]; exact if_neg (by rw [hx]; simp)
theorem rEv_none {l : List UInt8} (h : gEvent 1099511627776 160 l = none) : rEv l = none := by
  unfold rEv; rw [h]; rfl
theorem EOk.rev {l : List UInt8} {I I1 : Nat} {x : Ev} {b b1 : Bool} (h : EOk (gEvent 1099511627776 160) l I x I1 b b1) (hb : b1 = true ∨ evOk x = false) (y : Ev) : EOk rEv l I y I1 b true := by
  rcases h with ⟨rfl, rfl, p⟩ | ⟨rfl, p⟩
  · rcases hb with hb | hb
    · cases hb
    · exact .inr ⟨rfl, .inr (rEv_no p hb)⟩
  · rcases p with p | p
    · exact .inr ⟨rfl, .inl p⟩
    · exact .inr ⟨rfl, .inr (rEv_none p)⟩

theorem box7_frozen {w : World} {g : Nat} {a b c d e f i : Value} {t : TypeId} (h : w.heap[g]? = some (.cells #[a, b, c, d, e, f, i] t (0, 0))) :
    w.frozen? ⟨g, 0, none⟩ = false ∧ w.frozen? ⟨g, 1, none⟩ = false ∧ w.frozen? ⟨g, 2, none⟩ = false ∧ w.frozen? ⟨g, 3, none⟩ = false ∧ w.frozen? ⟨g, 4, none⟩ = false ∧ w.frozen? ⟨g, 5, none⟩ = false ∧ w.frozen? ⟨g, 6, none⟩ = false :=
  ⟨frozen_of_row _ g 0 _ _ h, frozen_of_row _ g 1 _ _ h, frozen_of_row _ g 2 _ _ h, frozen_of_row _ g 3 _ _ h, frozen_of_row _ g 4 _ _ h, frozen_of_row _ g 5 _ _ h, frozen_of_row _ g 6 _ _ h⟩
/-- Before the end. -/
structure EyEnd (w W : World) (g : Nat) (a : Option Addr) (n c : Nat) (l : List UInt8) (I : Nat) (bad : Bool) (k : Nat) (x : Ev) (I1 : Nat) (b1 : Bool) : Prop where
  box : EyBox w W g a n c l I1 b1 k #[.string x.s, .int .i64 x.v, .string x.d, .int .i64 x.t.w, .int .i64 x.t.l, .int .i64 x.t.n, .int .i64 x.i] w.heap.size #[.string ⟨#[]⟩, .int .i64 0, .string ⟨#[]⟩, .int .i64 0, .int .i64 0, .int .i64 0, .int .i64 0] 42
  ok : EOk (gEvent 1099511627776 160) l I x I1 bad b1

set_option maxHeartbeats 8000000 in
set_option maxRecDepth 100000 in
theorem event_e (g : Nat) (a : Option Addr) (n c : Nat) (l : List UInt8) (I : Nat) (bad : Bool) (w : World) (h : EyAt w g a n c l I bad) (hn : n ≤ 80000) :
    Calls Try.prog 57 #[.pointer (some ⟨g, 0, none⟩)] w (EGet rEv evV g a n c l I bad w) := by
  have bA := (Below.refl w.heap.size w).alloc (Nat.le_refl _) (.cells #[.string ⟨#[]⟩, .int .i64 0, .string ⟨#[]⟩, .int .i64 0, .int .i64 0, .int .i64 0, .int .i64 0] 42)
  have gA := heap_alloc_new w (.cells #[.string ⟨#[]⟩, .int .i64 0, .string ⟨#[]⟩, .int .i64 0, .int .i64 0, .int .i64 0, .int .i64 0] 42)
  have HM0 := Lib.hid (show EyMid w (w.alloc (.cells #[.string ⟨#[]⟩, .int .i64 0, .string ⟨#[]⟩, .int .i64 0, .int .i64 0, .int .i64 0, .int .i64 0] 42)) g a n c l I bad w.heap.size #[.string ⟨#[]⟩, .int .i64 0, .string ⟨#[]⟩, .int .i64 0, .int .i64 0, .int .i64 0, .int .i64 0] 42 from
    ⟨h.keep (S := fun _ => False) (Kept.of_below bA) (fun i e => e.elim), gA, Kept.of_below bA, lt_of_block h.box, Nat.le_refl _⟩)
  have HL := Lib.hid h.len
  clear bA gA h
  go_enter Try.func57, Try.ntmps57
  have q1 := text_e g a n c l _ _ _ HM0.out.ey
  go_wp2_with (go_at_call 71; (with_reducible refine q1.mono ?_))
  rintro e W1 ⟨x1, I1, b1, rfl, k1, y1, z1⟩
  have HN1 := Lib.hid (HM0.out.call y1 z1)
  have HO1 := Lib.hid k1
  have HB1 := Lib.hid (HN1.out.boxed #[.string x1, .int .i64 0, .string ⟨#[]⟩, .int .i64 0, .int .i64 0, .int .i64 0, .int .i64 0])
  clear q1 k1 y1 z1
  have q2 := num_q g a n c l _ _ 1099511627776 1099511627776 rfl _ HB1.out.mid.ey (by decide)
  go_wp2_with (go_at_call 72; (with_reducible refine q2.mono ?_))
  rintro e W2 ⟨x2, I2, b2, rfl, k2, _, y2, z2⟩
  have HN2 := Lib.hid (HB1.out.call y2 z2)
  have HO2 := Lib.hid k2
  skip
  obtain ⟨p0, p1, p2, p3, p4, p5, p6, f0, f1, f2, f3, f4, f5, f6⟩ := box7_cells HN2.out.box
  clear q2 k2 y2 z2
  have HS20 := Lib.hid (HN2.out.set 1 (.int .i64 x2) #[.string x1, .int .i64 x2, .string ⟨#[]⟩, .int .i64 0, .int .i64 0, .int .i64 0, .int .i64 0] rfl)
  have q3 := text_e g a n c l _ _ _ HS20.out.mid.ey
  go_wp2_with (go_at_call 71; (with_reducible refine q3.mono ?_))
  rintro e W3 ⟨x3, I3, b3, rfl, k3, y3, z3⟩
  have HN3 := Lib.hid (HS20.out.call y3 z3)
  have HO3 := Lib.hid k3
  clear p0 p1 p2 p3 p4 p5 p6 f0 f1 f2 f3 f4 f5 f6
  obtain ⟨p0, p1, p2, p3, p4, p5, p6, f0, f1, f2, f3, f4, f5, f6⟩ := box7_cells HN3.out.box
  clear q3 k3 y3 z3
  have HS30 := Lib.hid (HN3.out.set 2 (.string x3) #[.string x1, .int .i64 x2, .string x3, .int .i64 0, .int .i64 0, .int .i64 0, .int .i64 0] rfl)
  have q4 := stamp_e g a n c l _ _ _ HS30.out.mid.ey
  go_upto_region 5 with (go_at_call 85; (with_reducible refine q4.mono ?_); rintro e W4 ⟨x4, I4, b4, rfl, k4, y4, z4⟩; have HN4 := Lib.hid (HS30.out.call y4 z4); have HO4 := Lib.hid k4; clear p0 p1 p2 p3 p4 p5 p6 f0 f1 f2 f3 f4 f5 f6; obtain ⟨p0, p1, p2, p3, p4, p5, p6, f0, f1, f2, f3, f4, f5, f6⟩ := box7_cells HN4.out.box; clear q4 k4 y4 z4; have HS40 := Lib.hid (HN4.out.set 3 (.int .i64 x4.w) #[.string x1, .int .i64 x2, .string x3, .int .i64 x4.w, .int .i64 0, .int .i64 0, .int .i64 0] rfl); have HS41 := Lib.hid (HS40.out.set 4 (.int .i64 x4.l) #[.string x1, .int .i64 x2, .string x3, .int .i64 x4.w, .int .i64 x4.l, .int .i64 0, .int .i64 0] rfl); have HS42 := Lib.hid (HS41.out.set 5 (.int .i64 x4.n) #[.string x1, .int .i64 x2, .string x3, .int .i64 x4.w, .int .i64 x4.l, .int .i64 x4.n, .int .i64 0] rfl))
  go_cut [17] (fun s17 wx => ∃ x I1 b1, EyEnd w wx g a n c l I bad W1.heap.size x I1 b1)
  case first =>
    have q5 := num_q g a n c l _ _ 160 160 rfl _ HS42.out.mid.ey (by decide)
    go_wp2_with (go_at_call 72; (with_reducible refine q5.mono ?_))
    rintro e W5 ⟨x5, I5, b5, rfl, k5, _, y5, z5⟩
    have HN5 := Lib.hid (HS42.out.call y5 z5)
    have HO5 := Lib.hid k5
    clear p0 p1 p2 p3 p4 p5 p6 f0 f1 f2 f3 f4 f5 f6
    obtain ⟨p0, p1, p2, p3, p4, p5, p6, f0, f1, f2, f3, f4, f5, f6⟩ := box7_cells HN5.out.box
    clear q5 k5 y5 z5
    have HS50 := Lib.hid (HN5.out.set 6 (.int .i64 x5) #[.string x1, .int .i64 x2, .string x3, .int .i64 x4.w, .int .i64 x4.l, .int .i64 x4.n, .int .i64 x5] rfl)
    have HE := Lib.hid (show ∃ x I1 b1, EyEnd w _ g a n c l I bad W1.heap.size x I1 b1 from ⟨⟨x1, (x2 : Int), x3, x4, (x5 : Int)⟩, I5, b5, HS50.out, event_eok HO1.out HO2.out HO3.out HO4.out HO5.out⟩)
    go_wp2_with fail
    go_meet
    exact HE.out
  case rest =>
    clear p0 p1 p2 p3 p4 p5 p6 f0 f1 f2 f3 f4 f5 f6
    obtain ⟨x, I6, b6, he⟩ := hcut
    have HE := Lib.hid he
    clear he
    obtain ⟨y0, y1, y2, y3, y4, y5, y6, _⟩ := box7_cells HE.out.box.box
    obtain ⟨v0, v1, v2, _, _, g2⟩ := box_cells HE.out.box.mid.ey.box
    clear HN1 HN2 HN3 HN4 HB1 HM0 HO1 HO2 HO3 HO4 HS20 HS30 HS40 HS41 HS42
    cases b6 with
    | true =>
      have HF0 := Lib.hid HE.out.box.mid.fail
      have G4 := set7 HF0.out.res (.string ⟨#[]⟩) (.int .i64 0) (.string ⟨#[]⟩) (.int .i64 0) (.int .i64 0) (.int .i64 0) (.int .i64 0)
      obtain ⟨p0, p1, p2, p3, p4, p5, p6, t0, t1, t2, t3, t4, t5, t6⟩ := box7_cells HF0.out.res
      obtain ⟨r0, r1, r2, r3, r4, r5, r6, _⟩ := box7_cells G4
      clear G4 y0 y1 y2 y3 y4 y5 y6
      have HF := Lib.hid (HF0.out.to (keptSet (keptSet (keptSet (keptSet (keptSet (keptSet (keptSet (Kept.refl _ _) 0 (.string ⟨#[]⟩)) 1 (.int .i64 0)) 2 (.string ⟨#[]⟩)) 3 (.int .i64 0)) 4 (.int .i64 0)) 5 (.int .i64 0)) 6 (.int .i64 0)))
      go_wp2
      refine bodyPost_ret (v := evV ev0) (by simp [results, evV, ev0, Try.results57, go_sem, r0, r1, r2, r3, r4, r5, r6]) rfl ?_
      exact ⟨ev0, I6, true, rfl, HE.out.ok.rev (.inl rfl) ev0, HF.out.1, HF.out.2⟩
    | false =>
      have hp : gEvent 1099511627776 160 (l.drop I) = some (x, l.drop I6) := by
        rcases HE.out.ok with ⟨_, _, p⟩ | ⟨p, _⟩
        · exact p
        · cases p
      have hsz := gEvent_size _ _ _ _ _ hp
      simp only [List.length_drop, HL.out] at hsz
      have hss : x.s.size ≤ 80000 ∧ x.d.size ≤ 80000 := by unfold evSum at hsz; omega
      have cE := fun V => rEncodeEvent_any x V hss.1 hss.2
      have HP := Lib.hid hp
      have hlo := HE.out.box.mid.lo
      clear hp hsz hss
      cases hok : evOk x with
      | false =>
        have hen := encE_nil.2 hok
        have HOK := Lib.hid hok
        clear hok
        go_wp2_with (go_at_call 24; (with_reducible refine (cE _).mono ?_))
        rintro e V1 ⟨a7, n7, c7, rfl, l7, o7, b7, y7⟩
        obtain rfl : n7 = 0 := by rw [← l7]; exact hen
        have HX := Lib.hid (HE.out.box.later b7)
        have HF0 := Lib.hid HX.out.mid.fail
        obtain ⟨v0, v1, v2, _, _, g2⟩ := box_cells HX.out.mid.ey.box
        have G4 := set7 HF0.out.res (.string ⟨#[]⟩) (.int .i64 0) (.string ⟨#[]⟩) (.int .i64 0) (.int .i64 0) (.int .i64 0) (.int .i64 0)
        obtain ⟨p0, p1, p2, p3, p4, p5, p6, t0, t1, t2, t3, t4, t5, t6⟩ := box7_cells HF0.out.res
        obtain ⟨r0, r1, r2, r3, r4, r5, r6, _⟩ := box7_cells G4
        have HF := Lib.hid (HF0.out.to (keptSet (keptSet (keptSet (keptSet (keptSet (keptSet (keptSet (Kept.refl _ _) 0 (.string ⟨#[]⟩)) 1 (.int .i64 0)) 2 (.string ⟨#[]⟩)) 3 (.int .i64 0)) 4 (.int .i64 0)) 5 (.int .i64 0)) 6 (.int .i64 0)))
        clear G4 y0 y1 y2 y3 y4 y5 y6 l7 o7 b7 y7 cE
        go_wp2
        refine bodyPost_ret (v := evV ev0) (by simp [results, evV, ev0, Try.results57, go_sem, r0, r1, r2, r3, r4, r5, r6]) rfl ?_
        exact ⟨ev0, I6, true, rfl, HE.out.ok.rev (.inr HOK.out) ev0, HF.out.1, HF.out.2⟩
      | true =>
        have hen : ¬ (encE x).length = 0 := fun e => by rw [encE_nil.1 e] at hok; cases hok
        have HOK := Lib.hid hok
        clear hok
        go_wp2_with (go_at_call 24; (with_reducible refine (cE _).mono ?_))
        rintro e V1 ⟨a7, n7, c7, rfl, l7, o7, b7, y7⟩
        have hne : ((n7 : Int) == 0) = false := by rw [beq_eq_false_iff_ne]; omega
        have HX := Lib.hid (HE.out.box.later b7)
        obtain ⟨v0, v1, v2, _, _, g2⟩ := box_cells HX.out.mid.ey.box
        obtain ⟨y0, y1, y2, y3, y4, y5, y6, _⟩ := box7_cells HX.out.box
        have G4 := set7 HX.out.mid.res (.string x.s) (.int .i64 x.v) (.string x.d) (.int .i64 x.t.w) (.int .i64 x.t.l) (.int .i64 x.t.n) (.int .i64 x.i)
        obtain ⟨p0, p1, p2, p3, p4, p5, p6, t0, t1, t2, t3, t4, t5, t6⟩ := box7_cells HX.out.mid.res
        obtain ⟨r0, r1, r2, r3, r4, r5, r6, _⟩ := box7_cells G4
        have HF := Lib.hid (HX.out.mid.to (keptSet (keptSet (keptSet (keptSet (keptSet (keptSet (keptSet (Kept.refl _ _) 0 (.string x.s)) 1 (.int .i64 x.v)) 2 (.string x.d)) 3 (.int .i64 x.t.w)) 4 (.int .i64 x.t.l)) 5 (.int .i64 x.t.n)) 6 (.int .i64 x.i)))
        clear G4 l7 o7 b7 y7 cE
        go_wp2
        refine bodyPost_ret (v := evV x) (by simp [results, evV, Try.results57, go_sem, r0, r1, r2, r3, r4, r5, r6]) rfl ?_
        refine ⟨x, I6, false, rfl, ?_, HF.out.1, HF.out.2⟩
        rcases HE.out.ok with ⟨q, _, p⟩ | ⟨p, _⟩
        · exact .inl ⟨q, rfl, rEv_yes p HOK.out⟩
        · cases p

end Go.Proofs.Ytggognmbjgkdfaa
