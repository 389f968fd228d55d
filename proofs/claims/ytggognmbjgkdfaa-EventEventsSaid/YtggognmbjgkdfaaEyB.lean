/-
  The reference's Eye: a stamp, an event; its DecodeEvent.
-/
import Derived.Test.YtggognmbjgkdfaaEyA
set_option linter.unusedVariables false
namespace Go.Proofs.Ytggognmbjgkdfaa
open Go.RowKit

theorem pSm_nums (l : List UInt8) : pSm l = (pNum 1125899906842624 l).bind fun a => (pNum 65535 a.2).bind fun b => (pNum 5 b.2).bind fun c => some (⟨(a.1 : Int), (b.1 : Int), (c.1 : Int)⟩, c.2) := by
  unfold pSm decL
  simp only
  by_cases h1 : (unv l).2 = 0 ∨ 1125899906842624 < (unv l).1
  · rw [if_pos h1, show pNum 1125899906842624 l = none from if_pos h1]; rfl
  · rw [if_neg h1, show pNum 1125899906842624 l = some ((unv l).1, l.drop (unv l).2) from if_neg h1]
    show _ = (pNum 65535 (l.drop (unv l).2)).bind _
    by_cases h2 : (unv (l.drop (unv l).2)).2 = 0 ∨ 65535 < (unv (l.drop (unv l).2)).1
    · rw [if_pos h2, show pNum 65535 (l.drop (unv l).2) = none from if_pos h2]; rfl
    · rw [if_neg h2, show pNum 65535 (l.drop (unv l).2) = some ((unv (l.drop (unv l).2)).1, (l.drop (unv l).2).drop (unv (l.drop (unv l).2)).2) from if_neg h2]
      show _ = (pNum 5 ((l.drop (unv l).2).drop (unv (l.drop (unv l).2)).2)).bind _
      rw [List.drop_drop]
      by_cases h3 : (unv (l.drop ((unv l).2 + (unv (l.drop (unv l).2)).2))).2 = 0 ∨ 5 < (unv (l.drop ((unv l).2 + (unv (l.drop (unv l).2)).2))).1
      · rw [if_pos h3, show pNum 5 (l.drop ((unv l).2 + (unv (l.drop (unv l).2)).2)) = none from if_pos h3]; rfl
      · rw [if_neg h3, show pNum 5 (l.drop ((unv l).2 + (unv (l.drop (unv l).2)).2)) = some (_, _) from if_neg h3, List.drop_drop]; rfl

theorem EOk.bad {α : Type} {p : List UInt8 → Option (α × List UInt8)} {l : List UInt8} {I : Nat} {x : α} {I1 : Nat} {b1 : Bool} (h : EOk p l I x I1 true b1) : b1 = true := by
  rcases h with ⟨h, _⟩ | ⟨h, _⟩
  · cases h
  · exact h
theorem stamp_eok {l : List UInt8} {I I1 I2 I3 x y z : Nat} {b b1 b2 b3 : Bool} (h1 : EOk (pNum 1125899906842624) l I x I1 b b1) (h2 : EOk (pNum 65535) l I1 y I2 b1 b2) (h3 : EOk (pNum 5) l I2 z I3 b2 b3) : EOk pSm l I ⟨(x : Int), (y : Int), (z : Int)⟩ I3 b b3 := by
  unfold EOk
  rw [pSm_nums]
  rcases h1 with ⟨rfl, rfl, p1⟩ | ⟨rfl, p1⟩
  · rcases h2 with ⟨_, rfl, p2⟩ | ⟨rfl, p2⟩
    · rcases h3 with ⟨_, rfl, p3⟩ | ⟨rfl, p3⟩
      · exact .inl ⟨rfl, rfl, by simp [p1, p2, p3]⟩
      · exact .inr ⟨rfl, .inr (by rcases p3 with p3 | p3; cases p3; simp [p1, p2, p3])⟩
    · obtain rfl := h3.bad
      exact .inr ⟨rfl, .inr (by rcases p2 with p2 | p2; cases p2; simp [p1, p2])⟩
  · obtain rfl := h2.bad
    obtain rfl := h3.bad
    refine .inr ⟨rfl, ?_⟩
    rcases p1 with p1 | p1
    · exact .inl p1
    · exact .inr (by simp [p1])
theorem event_eok {l : List UInt8} {I I1 I2 I3 I4 I5 v i : Nat} {b b1 b2 b3 b4 b5 : Bool} {s d : ByteArray} {t : Sm} (h1 : EOk pTxt l I s I1 b b1) (h2 : EOk (pNum 1099511627776) l I1 v I2 b1 b2) (h3 : EOk pTxt l I2 d I3 b2 b3) (h4 : EOk pSm l I3 t I4 b3 b4) (h5 : EOk (pNum 160) l I4 i I5 b4 b5) :
    EOk (gEvent 1099511627776 160) l I ⟨s, (v : Int), d, t, (i : Int)⟩ I5 b b5 := by
  unfold gEvent
  rcases h1 with ⟨rfl, rfl, p1⟩ | ⟨rfl, p1⟩
  · rcases h2 with ⟨_, rfl, p2⟩ | ⟨rfl, p2⟩
    · rcases h3 with ⟨_, rfl, p3⟩ | ⟨rfl, p3⟩
      · rcases h4 with ⟨_, rfl, p4⟩ | ⟨rfl, p4⟩
        · rcases h5 with ⟨_, rfl, p5⟩ | ⟨rfl, p5⟩
          · have ev := toI_small (v := v) (by have := (pNum_some p2).2.2.1; omega)
            have ei := toI_small (v := i) (by have := (pNum_some p5).2.2.1; omega)
            exact .inl ⟨rfl, rfl, by simp [p1, p2, p3, p4, p5, ev, ei]⟩
          · exact .inr ⟨rfl, .inr (by rcases p5 with p5 | p5; cases p5; simp [p1, p2, p3, p4, p5])⟩
        · obtain rfl := h5.bad
          exact .inr ⟨rfl, .inr (by rcases p4 with p4 | p4; cases p4; simp [p1, p2, p3, p4])⟩
      · obtain rfl := h4.bad
        obtain rfl := h5.bad
        exact .inr ⟨rfl, .inr (by rcases p3 with p3 | p3; cases p3; simp [p1, p2, p3])⟩
    · obtain rfl := h3.bad
      obtain rfl := h4.bad
      obtain rfl := h5.bad
      exact .inr ⟨rfl, .inr (by rcases p2 with p2 | p2; cases p2; simp [p1, p2])⟩
  · obtain rfl := h2.bad
    obtain rfl := h3.bad
    obtain rfl := h4.bad
    obtain rfl := h5.bad
    refine .inr ⟨rfl, ?_⟩
    rcases p1 with p1 | p1
    · exact .inl p1
    · exact .inr (by simp [p1])
theorem known_eok {l : List UInt8} {I I1 I2 I3 v : Nat} {b b1 b2 b3 : Bool} {s : ByteArray} {t : Sm} (h1 : EOk pTxt l I s I1 b b1) (h2 : EOk (pNum 1099511627776) l I1 v I2 b1 b2) (h4 : EOk pSm l I2 t I3 b2 b3) :
    EOk (gKnown 1099511627776) l I ⟨s, (v : Int), t⟩ I3 b b3 := by
  unfold gKnown
  rcases h1 with ⟨rfl, rfl, p1⟩ | ⟨rfl, p1⟩
  · rcases h2 with ⟨_, rfl, p2⟩ | ⟨rfl, p2⟩
    · rcases h4 with ⟨_, rfl, p4⟩ | ⟨rfl, p4⟩
      · have ev := toI_small (v := v) (by have := (pNum_some p2).2.2.1; omega)
        exact .inl ⟨rfl, rfl, by simp [p1, p2, p4, ev]⟩
      · exact .inr ⟨rfl, .inr (by rcases p4 with p4 | p4; cases p4; simp [p1, p2, p4])⟩
    · obtain rfl := h4.bad
      exact .inr ⟨rfl, .inr (by rcases p2 with p2 | p2; cases p2; simp [p1, p2])⟩
  · obtain rfl := h2.bad
    obtain rfl := h4.bad
    refine .inr ⟨rfl, ?_⟩
    rcases p1 with p1 | p1
    · exact .inl p1
    · exact .inr (by simp [p1])

/-- The Eye, and the block of the result. -/
structure EyMid (w W : World) (g : Nat) (a : Option Addr) (n c : Nat) (l : List UInt8) (I : Nat) (bad : Bool) (r : Nat) (zs : Array Value) (t : TypeId) : Prop where
  ey : EyAt W g a n c l I bad
  res : W.heap[r]? = some (.cells zs t (0, 0))
  kept : Kept (fun i => i = g) w W
  lo : g < w.heap.size
  rr : w.heap.size ≤ r
theorem EyMid.call {w W W1 : World} {g r : Nat} {a : Option Addr} {n c I I1 : Nat} {l : List UInt8} {bad b1 : Bool} {zs : Array Value} {t : TypeId} (h : EyMid w W g a n c l I bad r zs t) (h1 : EyAt W1 g a n c l I1 b1) (k : Kept (fun k => k = g) W W1) : EyMid w W1 g a n c l I1 b1 r zs t :=
  ⟨h1, (k.block r (lt_of_block h.res) (fun e => by have := h.lo; have := h.rr; omega)).trans h.res, h.kept.trans k (fun _ _ h => h), h.lo, h.rr⟩
theorem EyMid.later {w W W1 : World} {g r : Nat} {a : Option Addr} {n c I : Nat} {l : List UInt8} {bad : Bool} {zs : Array Value} {t : TypeId} (h : EyMid w W g a n c l I bad r zs t) (b : Below W.heap.size W W1) : EyMid w W1 g a n c l I bad r zs t :=
  ⟨h.ey.keep (S := fun _ => False) (Kept.of_below b) (fun i e => e.elim), nb b h.res, h.kept.trans (T := fun _ => False) (Kept.of_below b) (fun _ _ e => e.elim), h.lo, h.rr⟩
theorem EyMid.to {w W W' : World} {g r : Nat} {a : Option Addr} {n c I : Nat} {l : List UInt8} {bad : Bool} {zs : Array Value} {t : TypeId} (h : EyMid w W g a n c l I bad r zs t) (hK : Kept (fun i => i = r) W W') : EyAt W' g a n c l I bad ∧ Kept (fun i => i = g) w W' :=
  ⟨h.ey.keep hK (fun i e => by have := h.lo; have := h.rr; omega), h.kept.trans hK (fun i hi e => by have := h.rr; omega)⟩

set_option maxHeartbeats 8000000 in
set_option maxRecDepth 100000 in
theorem stamp_e (g : Nat) (a : Option Addr) (n c : Nat) (l : List UInt8) (I : Nat) (bad : Bool) (w : World) (h : EyAt w g a n c l I bad) :
    Calls Try.prog 85 #[.pointer (some ⟨g, 0, none⟩)] w (EGet pSm (fun t => .agg #[.int .i64 t.w, .int .i64 t.l, .int .i64 t.n]) g a n c l I bad w) := by
  have bA := (Below.refl w.heap.size w).alloc (Nat.le_refl _) (.cells #[.int .i64 0, .int .i64 0, .int .i64 0] 40)
  have gA := heap_alloc_new w (.cells #[.int .i64 0, .int .i64 0, .int .i64 0] 40)
  have HM0 := Lib.hid (show EyMid w (w.alloc (.cells #[.int .i64 0, .int .i64 0, .int .i64 0] 40)) g a n c l I bad w.heap.size #[.int .i64 0, .int .i64 0, .int .i64 0] 40 from
    ⟨h.keep (S := fun _ => False) (Kept.of_below bA) (fun i e => e.elim), gA, Kept.of_below bA, lt_of_block h.box, Nat.le_refl _⟩)
  clear bA gA h
  go_enter Try.func85, Try.ntmps85
  have q1 := num_q g a n c l _ _ 1125899906842624 1125899906842624 rfl _ HM0.out.ey (by decide)
  go_wp2_with (go_at_call 72; (with_reducible refine q1.mono ?_))
  rintro e W1 ⟨x1, I1, b1, rfl, k1, _, y1, z1⟩
  have HM1 := Lib.hid (HM0.out.call y1 z1)
  have HO1 := Lib.hid k1
  clear q1 k1 y1 z1
  have q2 := num_q g a n c l _ _ 65535 65535 rfl _ HM1.out.ey (by decide)
  go_wp2_with (go_at_call 72; (with_reducible refine q2.mono ?_))
  rintro e W2 ⟨x2, I2, b2, rfl, k2, _, y2, z2⟩
  have HM2 := Lib.hid (HM1.out.call y2 z2)
  have HO2 := Lib.hid k2
  clear q2 k2 y2 z2
  have q3 := num_q g a n c l _ _ 5 5 rfl _ HM2.out.ey (by decide)
  go_wp2_with (go_at_call 72; (with_reducible refine q3.mono ?_))
  rintro e W3 ⟨x3, I3, b3, rfl, k3, _, y3, z3⟩
  have HM3 := Lib.hid (HM2.out.call y3 z3)
  have HO3 := Lib.hid k3
  clear q3 k3 y3 z3
  obtain ⟨_, _, _, f0, f1, f2⟩ := box_cells HM3.out.res
  have G4 := set3 HM3.out.res (.int .i64 x1) (.int .i64 x2) (.int .i64 x3)
  obtain ⟨r0, r1, r2, _⟩ := box_cells G4
  have HF := Lib.hid (HM3.out.to (keptSet (keptSet (keptSet (Kept.refl _ _) 0 (.int .i64 x1)) 1 (.int .i64 x2)) 2 (.int .i64 x3)))
  clear G4
  go_wp2
  refine bodyPost_ret (v := .agg #[.int .i64 x1, .int .i64 x2, .int .i64 x3]) (by simp [results, Try.results85, go_sem, r0, r1, r2]) rfl ?_
  exact ⟨⟨(x1 : Int), (x2 : Int), (x3 : Int)⟩, I3, b3, rfl, stamp_eok HO1.out HO2.out HO3.out, HF.out.1, HF.out.2⟩

end Go.Proofs.Ytggognmbjgkdfaa
