/-
  Package event's reader: what it takes, as plain readers take it; an event.
-/
import Derived.Test.YtggognmbjgkdfaaRdA
import Derived.Test.YtggognmbjgkdfaaMkA
set_option linter.unusedVariables false
namespace Go.Proofs.Ytggognmbjgkdfaa
open Go.RowKit

/-- What is taken by p off l is x, and l1 is left; or there is none, and the reader is bad. -/
def Ok {α : Type} (p : List UInt8 → Option (α × List UInt8)) (l : List UInt8) (x : α) (l1 : List UInt8) (b b1 : Bool) : Prop :=
  (p l = some (x, l1) ∧ b1 = b) ∨ (p l = none ∧ l1 = [] ∧ b1 = true)
def GetTo {α : Type} (p : List UInt8 → Option (α × List UInt8)) (V : α → Value) (g : Nat) (l : List UInt8) (bad : Bool) (w : World) (e : Ending) (w' : World) : Prop :=
  ∃ x l1 b1, e = .returned (V x) ∧ Ok p l x l1 bad b1 ∧ RdTo g l1 b1 w w'
theorem pNum_nil (M : Nat) : pNum M [] = none := by unfold pNum; rw [if_pos (Or.inl (show (unv []).2 = 0 from rfl))]
theorem pTxt_nil : pTxt [] = none := by unfold pTxt; rw [if_pos (by rfl)]
theorem pSm_nil : pSm [] = none := by unfold pSm; rfl

theorem num_ok (l : List UInt8) (b : Bool) : Ok (pNum U64) l (unv l).1 (stL (unv l).2 l) b (stB (unv l).2 b) := by
  have hb := (unv_bounds l).1
  by_cases h : (unv l).2 = 0
  · exact .inr ⟨by unfold pNum; rw [if_pos (Or.inl h)], if_pos h, if_pos h⟩
  · refine .inl ⟨?_, if_neg h⟩
    unfold pNum stL U64
    rw [if_neg (by omega), if_neg h]
theorem txt_ok (l : List UInt8) (b : Bool) : Ok pTxt l (takeL l).1 (stL (takeL l).2 l) b (stB (takeL l).2 b) := by
  by_cases h : (takeL l).2 = 0
  · exact .inr ⟨by unfold pTxt; rw [if_pos h], if_pos h, if_pos h⟩
  · refine .inl ⟨?_, if_neg h⟩
    unfold pTxt stL
    rw [if_neg h, if_neg h]
theorem sm_ok (l : List UInt8) (b : Bool) : Ok pSm l (smOf l).1 (stL (smOf l).2 l) b (stB (smOf l).2 b) := by
  unfold pSm smOf
  cases h : decL l with
  | none => exact .inr ⟨by simp [h], if_pos rfl, if_pos rfl⟩
  | some p =>
    have h0 := (dec3_bounds h).1
    have h1 : ¬ p.2 = 0 := by omega
    refine .inl ⟨?_, ?_⟩
    · show (decL l).map _ = _
      rw [h]
      show some (p.1, l.drop p.2) = some (p.1, stL p.2 l)
      unfold stL
      rw [if_neg h1]
    · show stB p.2 b = b
      exact if_neg h1

theorem text_g (g : Nat) (a : Option Addr) (n c : Nat) (l : List UInt8) (bad : Bool) (w : World) (h : RdAt w g a n c l bad) :
    Calls Try.prog 68 #[.pointer (some ⟨g, 0, none⟩)] w (GetTo pTxt Value.string g l bad w) :=
  (text_any g a n c l bad w h).mono fun e w' k => ⟨_, _, _, k.1, txt_ok l bad, k.2⟩
theorem number_g (g : Nat) (a : Option Addr) (n c : Nat) (l : List UInt8) (bad : Bool) (w : World) (h : RdAt w g a n c l bad) :
    Calls Try.prog 96 #[.pointer (some ⟨g, 0, none⟩)] w (GetTo (pNum U64) (fun v => .int .u64 v) g l bad w) :=
  (number_any g a n c l bad w h).mono fun e w' k => ⟨_, _, _, k.1, num_ok l bad, k.2⟩
theorem whole_g (g : Nat) (a : Option Addr) (n c : Nat) (l : List UInt8) (bad : Bool) (w : World) (h : RdAt w g a n c l bad) :
    Calls Try.prog 79 #[.pointer (some ⟨g, 0, none⟩)] w (GetTo (pNum U64) (fun v => .int .i64 (toI v)) g l bad w) :=
  (whole_any g a n c l bad w h).mono fun e w' k => ⟨_, _, _, k.1, num_ok l bad, k.2⟩
theorem stamp_g (g : Nat) (a : Option Addr) (n c : Nat) (l : List UInt8) (bad : Bool) (w : World) (h : RdAt w g a n c l bad) :
    Calls Try.prog 80 #[.pointer (some ⟨g, 0, none⟩)] w (GetTo pSm (fun t => .agg #[.int .i64 t.w, .int .i64 t.l, .int .i64 t.n]) g l bad w) :=
  (stamp_any g a n c l bad w h).mono fun e w' k => ⟨_, _, _, k.1, sm_ok l bad, k.2⟩

theorem Ok.nil {α : Type} {p : List UInt8 → Option (α × List UInt8)} (hp : p [] = none) {x : α} {l1 : List UInt8} {b b1 : Bool} (h : Ok p [] x l1 b b1) : l1 = [] ∧ b1 = true := by
  rcases h with ⟨h, _⟩ | ⟨_, h⟩
  · rw [hp] at h; cases h
  · exact h
theorem event_ok {l l1 l2 l3 l4 l5 : List UInt8} {b b1 b2 b3 b4 b5 : Bool} {s d : ByteArray} {v i : Nat} {t : Sm} (h1 : Ok pTxt l s l1 b b1) (h2 : Ok (pNum U64) l1 v l2 b1 b2) (h3 : Ok pTxt l2 d l3 b2 b3) (h4 : Ok pSm l3 t l4 b3 b4) (h5 : Ok (pNum U64) l4 i l5 b4 b5) :
    Ok (gEvent U64 U64) l ⟨s, toI v, d, t, toI i⟩ l5 b b5 := by
  unfold gEvent
  rcases h1 with ⟨p1, rfl⟩ | ⟨p1, rfl, rfl⟩
  · rcases h2 with ⟨p2, rfl⟩ | ⟨p2, rfl, rfl⟩
    · rcases h3 with ⟨p3, rfl⟩ | ⟨p3, rfl, rfl⟩
      · rcases h4 with ⟨p4, rfl⟩ | ⟨p4, rfl, rfl⟩
        · rcases h5 with ⟨p5, rfl⟩ | ⟨p5, rfl, rfl⟩
          · exact .inl ⟨by simp [p1, p2, p3, p4, p5], rfl⟩
          · exact .inr ⟨by simp [p1, p2, p3, p4, p5], rfl, rfl⟩
        · obtain ⟨rfl, rfl⟩ := h5.nil (pNum_nil _)
          exact .inr ⟨by simp [p1, p2, p3, p4], rfl, rfl⟩
      · obtain ⟨rfl, rfl⟩ := h4.nil pSm_nil
        obtain ⟨rfl, rfl⟩ := h5.nil (pNum_nil _)
        exact .inr ⟨by simp [p1, p2, p3], rfl, rfl⟩
    · obtain ⟨rfl, rfl⟩ := h3.nil pTxt_nil
      obtain ⟨rfl, rfl⟩ := h4.nil pSm_nil
      obtain ⟨rfl, rfl⟩ := h5.nil (pNum_nil _)
      exact .inr ⟨by simp [p1, p2], rfl, rfl⟩
  · obtain ⟨rfl, rfl⟩ := h2.nil (pNum_nil _)
    obtain ⟨rfl, rfl⟩ := h3.nil pTxt_nil
    obtain ⟨rfl, rfl⟩ := h4.nil pSm_nil
    obtain ⟨rfl, rfl⟩ := h5.nil (pNum_nil _)
    exact .inr ⟨by simp [p1], rfl, rfl⟩
theorem known_ok {l l1 l2 l3 : List UInt8} {b b1 b2 b3 : Bool} {s : ByteArray} {v : Nat} {t : Sm} (h1 : Ok pTxt l s l1 b b1) (h2 : Ok (pNum U64) l1 v l2 b1 b2) (h4 : Ok pSm l2 t l3 b2 b3) :
    Ok (gKnown U64) l ⟨s, toI v, t⟩ l3 b b3 := by
  unfold gKnown
  rcases h1 with ⟨p1, rfl⟩ | ⟨p1, rfl, rfl⟩
  · rcases h2 with ⟨p2, rfl⟩ | ⟨p2, rfl, rfl⟩
    · rcases h4 with ⟨p4, rfl⟩ | ⟨p4, rfl, rfl⟩
      · exact .inl ⟨by simp [p1, p2, p4], rfl⟩
      · exact .inr ⟨by simp [p1, p2, p4], rfl, rfl⟩
    · obtain ⟨rfl, rfl⟩ := h4.nil pSm_nil
      exact .inr ⟨by simp [p1, p2], rfl, rfl⟩
  · obtain ⟨rfl, rfl⟩ := h2.nil (pNum_nil _)
    obtain ⟨rfl, rfl⟩ := h4.nil pSm_nil
    exact .inr ⟨by simp [p1], rfl, rfl⟩

def evV (e : Ev) : Value := .agg #[.string e.s, .int .i64 e.v, .string e.d, .int .i64 e.t.w, .int .i64 e.t.l, .int .i64 e.t.n, .int .i64 e.i]
def knV (k : Kn) : Value := .agg #[.string k.k, .int .i64 k.f, .int .i64 k.t.w, .int .i64 k.t.l, .int .i64 k.t.n]

/-- The reader, a block k that is filled, and one, r, that is filled at the end. -/
structure RdMid (w W : World) (g : Nat) (l : List UInt8) (bad : Bool) (k : Nat) (cs : Array Value) (r : Nat) (zs : Array Value) (t : TypeId) : Prop where
  rd : ∃ a n c, RdAt W g a n c l bad
  box : W.heap[k]? = some (.cells cs t (0, 0))
  res : W.heap[r]? = some (.cells zs t (0, 0))
  kept : Kept (fun i => i = g) w W
  lo : g < w.heap.size
  kr : w.heap.size ≤ k ∧ w.heap.size ≤ r ∧ k ≠ r
theorem RdMid.call {w W W1 : World} {g k r : Nat} {l l1 : List UInt8} {bad b1 : Bool} {cs zs : Array Value} {t : TypeId} (h : RdMid w W g l bad k cs r zs t) (h1 : RdTo g l1 b1 W W1) : RdMid w W1 g l1 b1 k cs r zs t := by
  obtain ⟨a, n, c, k1, k2⟩ := h1
  have hlo := h.lo
  have hkr := h.kr
  exact ⟨⟨a, n, c, k1⟩, (k2.block k (lt_of_block h.box) (fun e => by omega)).trans h.box, (k2.block r (lt_of_block h.res) (fun e => by omega)).trans h.res, h.kept.trans k2 (fun _ _ h => h), hlo, hkr⟩
theorem RdMid.set {w W : World} {g k r : Nat} {l : List UInt8} {bad : Bool} {cs zs : Array Value} {t : TypeId} (h : RdMid w W g l bad k cs r zs t) (j : Nat) (v : Value) (cs' : Array Value) (hc : cs' = cs.setIfInBounds j v) : RdMid w (W.setCell ⟨k, j, none⟩ v) g l bad k cs' r zs t := by
  obtain ⟨a, n, c, k1⟩ := h.rd
  have hlo := h.lo
  have hkr := h.kr
  have hK : Kept (fun i => i = k) W (W.setCell ⟨k, j, none⟩ v) := (Kept.refl (fun i => i = k) W).setCell (p := ⟨k, j, none⟩) (fun _ => rfl) v
  refine ⟨⟨a, n, c, k1.keep hK (fun i e => by omega)⟩, ?_, (heap_setCell_other W ⟨k, j, none⟩ r v (by show r ≠ k; omega)).trans h.res, h.kept.trans hK (fun i hi e => by omega), hlo, hkr⟩
  rw [hc]
  exact heap_setCell_same W k j cs t v h.box
theorem RdMid.to {w W W' : World} {g k r : Nat} {l : List UInt8} {bad : Bool} {cs zs : Array Value} {t : TypeId} (h : RdMid w W g l bad k cs r zs t) (hK : Kept (fun i => i = r) W W') : RdTo g l bad w W' := by
  obtain ⟨a, n, c, k1⟩ := h.rd
  have hlo := h.lo
  have hkr := h.kr
  exact ⟨a, n, c, k1.keep hK (fun i e => by omega), h.kept.trans hK (fun i hi e => by omega)⟩
theorem keptSet {g : Nat} {W W1 : World} (h : Kept (fun i => i = g) W W1) (j : Nat) (v : Value) : Kept (fun i => i = g) W (W1.setCell ⟨g, j, none⟩ v) := h.setCell (p := ⟨g, j, none⟩) (fun _ => rfl) v

set_option maxHeartbeats 8000000 in
set_option maxRecDepth 100000 in
theorem event_any (g : Nat) (a : Option Addr) (n c : Nat) (l : List UInt8) (bad : Bool) (w : World) (h : RdAt w g a n c l bad) :
    Calls Try.prog 55 #[.pointer (some ⟨g, 0, none⟩)] w (GetTo (gEvent U64 U64) evV g l bad w) := by
  have b1 := (Below.refl w.heap.size w).alloc (Nat.le_refl _) (.cells #[.string ⟨#[]⟩, .int .i64 0, .string ⟨#[]⟩, .int .i64 0, .int .i64 0, .int .i64 0, .int .i64 0] 42)
  have b2 := b1.alloc b1.size (.cells #[.string ⟨#[]⟩, .int .i64 0, .string ⟨#[]⟩, .int .i64 0, .int .i64 0, .int .i64 0, .int .i64 0] 42)
  have g1 := box_alloc (heap_alloc_new w (.cells #[.string ⟨#[]⟩, .int .i64 0, .string ⟨#[]⟩, .int .i64 0, .int .i64 0, .int .i64 0, .int .i64 0] 42)) (.cells #[.string ⟨#[]⟩, .int .i64 0, .string ⟨#[]⟩, .int .i64 0, .int .i64 0, .int .i64 0, .int .i64 0] 42)
  have g2 := heap_alloc_new (w.alloc (.cells #[.string ⟨#[]⟩, .int .i64 0, .string ⟨#[]⟩, .int .i64 0, .int .i64 0, .int .i64 0, .int .i64 0] 42)) (.cells #[.string ⟨#[]⟩, .int .i64 0, .string ⟨#[]⟩, .int .i64 0, .int .i64 0, .int .i64 0, .int .i64 0] 42)
  rw [World.size_alloc] at g2
  have HM0 := Lib.hid (show RdMid w _ g l bad (w.heap.size + 1) _ w.heap.size _ _ from ⟨⟨a, n, c, h.kept b2⟩, g2, g1, Kept.of_below b2, lt_of_block h.box, by omega⟩)
  clear b1 b2 g1 g2 h
  go_enter Try.func55, Try.ntmps55
  obtain ⟨a1, n1, c1, r1⟩ := HM0.out.rd
  have q1 := text_g g a1 n1 c1 _ _ _ r1
  clear r1
  go_wp2_with (go_at_call 68; (with_reducible refine q1.mono ?_))
  rintro e W1 ⟨x1, l1, b1, rfl, k1, t1⟩
  have HN1 := Lib.hid (HM0.out.call t1)
  have HO1 := Lib.hid k1
  obtain ⟨_, _, _, _, _, _, _, f0, f1, f2, f3, f4, f5, f6⟩ := box7_cells HN1.out.box
  clear k1 t1 q1
  have HS10 := Lib.hid (HN1.out.set 0 (.string x1) #[.string x1, .int .i64 0, .string ⟨#[]⟩, .int .i64 0, .int .i64 0, .int .i64 0, .int .i64 0] rfl)
  obtain ⟨a2, n2, c2, r2⟩ := HS10.out.rd
  have q2 := whole_g g a2 n2 c2 _ _ _ r2
  clear r2
  go_wp2_with (go_at_call 79; (with_reducible refine q2.mono ?_))
  rintro e W2 ⟨x2, l2, b2, rfl, k2, t2⟩
  have HN2 := Lib.hid (HS10.out.call t2)
  have HO2 := Lib.hid k2
  obtain ⟨_, _, _, _, _, _, _, f0, f1, f2, f3, f4, f5, f6⟩ := box7_cells HN2.out.box
  clear k2 t2 q2
  have HS20 := Lib.hid (HN2.out.set 1 (.int .i64 (toI x2)) #[.string x1, .int .i64 (toI x2), .string ⟨#[]⟩, .int .i64 0, .int .i64 0, .int .i64 0, .int .i64 0] rfl)
  obtain ⟨a3, n3, c3, r3⟩ := HS20.out.rd
  have q3 := text_g g a3 n3 c3 _ _ _ r3
  clear r3
  go_wp2_with (go_at_call 68; (with_reducible refine q3.mono ?_))
  rintro e W3 ⟨x3, l3, b3, rfl, k3, t3⟩
  have HN3 := Lib.hid (HS20.out.call t3)
  have HO3 := Lib.hid k3
  obtain ⟨_, _, _, _, _, _, _, f0, f1, f2, f3, f4, f5, f6⟩ := box7_cells HN3.out.box
  clear k3 t3 q3
  have HS30 := Lib.hid (HN3.out.set 2 (.string x3) #[.string x1, .int .i64 (toI x2), .string x3, .int .i64 0, .int .i64 0, .int .i64 0, .int .i64 0] rfl)
  obtain ⟨a4, n4, c4, r4⟩ := HS30.out.rd
  have q4 := stamp_g g a4 n4 c4 _ _ _ r4
  clear r4
  go_wp2_with (go_at_call 80; (with_reducible refine q4.mono ?_))
  rintro e W4 ⟨x4, l4, b4, rfl, k4, t4⟩
  have HN4 := Lib.hid (HS30.out.call t4)
  have HO4 := Lib.hid k4
  obtain ⟨_, _, _, _, _, _, _, f0, f1, f2, f3, f4, f5, f6⟩ := box7_cells HN4.out.box
  clear k4 t4 q4
  have HS40 := Lib.hid (HN4.out.set 3 (.int .i64 x4.w) #[.string x1, .int .i64 (toI x2), .string x3, .int .i64 x4.w, .int .i64 0, .int .i64 0, .int .i64 0] rfl)
  have HS41 := Lib.hid (HS40.out.set 4 (.int .i64 x4.l) #[.string x1, .int .i64 (toI x2), .string x3, .int .i64 x4.w, .int .i64 x4.l, .int .i64 0, .int .i64 0] rfl)
  have HS42 := Lib.hid (HS41.out.set 5 (.int .i64 x4.n) #[.string x1, .int .i64 (toI x2), .string x3, .int .i64 x4.w, .int .i64 x4.l, .int .i64 x4.n, .int .i64 0] rfl)
  obtain ⟨a5, n5, c5, r5⟩ := HS42.out.rd
  have q5 := whole_g g a5 n5 c5 _ _ _ r5
  clear r5
  go_wp2_with (go_at_call 79; (with_reducible refine q5.mono ?_))
  rintro e W5 ⟨x5, l5, b5, rfl, k5, t5⟩
  have HN5 := Lib.hid (HS42.out.call t5)
  have HO5 := Lib.hid k5
  obtain ⟨_, _, _, _, _, _, _, f0, f1, f2, f3, f4, f5, f6⟩ := box7_cells HN5.out.box
  clear k5 t5 q5
  have HS50 := Lib.hid (HN5.out.set 6 (.int .i64 (toI x5)) #[.string x1, .int .i64 (toI x2), .string x3, .int .i64 x4.w, .int .i64 x4.l, .int .i64 x4.n, .int .i64 (toI x5)] rfl)
  obtain ⟨y0, y1, y2, y3, y4, y5, y6, _⟩ := box7_cells HS50.out.box
  obtain ⟨_, _, _, _, _, _, _, z0, z1, z2, z3, z4, z5, z6⟩ := box7_cells HS50.out.res
  have G7 := set7 HS50.out.res (.string x1) (.int .i64 (toI x2)) (.string x3) (.int .i64 x4.w) (.int .i64 x4.l) (.int .i64 x4.n) (.int .i64 (toI x5))
  obtain ⟨r0, r1, r2, r3, r4, r5, r6, _⟩ := box7_cells G7
  clear G7
  have HF := Lib.hid (HS50.out.to (keptSet (keptSet (keptSet (keptSet (keptSet (keptSet (keptSet (Kept.refl _ _) 0 (.string x1)) 1 (.int .i64 (toI x2))) 2 (.string x3)) 3 (.int .i64 x4.w)) 4 (.int .i64 x4.l)) 5 (.int .i64 x4.n)) 6 (.int .i64 (toI x5))))
  go_wp2
  refine bodyPost_ret (v := evV ⟨x1, toI x2, x3, x4, toI x5⟩) (by simp [results, evV, Try.results55, go_sem, r0, r1, r2, r3, r4, r5, r6]) rfl ?_
  exact ⟨_, _, _, rfl, event_ok HO1.out HO2.out HO3.out HO4.out HO5.out, HF.out⟩

end Go.Proofs.Ytggognmbjgkdfaa
