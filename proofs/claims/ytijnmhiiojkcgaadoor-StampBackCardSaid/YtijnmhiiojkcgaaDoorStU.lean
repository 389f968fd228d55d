/-
  The reference's Decode.
-/
import Derived.Test.YtijnmhiiojkcgaaDoorStT
set_option linter.unusedVariables false
namespace Go.Proofs.YtijnmhiiojkcgaaDoor
open Go.RowKit

def q1 (l : List UInt8) : Nat × Nat × Bool := numF l 0 false 1125899906842624
def q2 (l : List UInt8) : Nat × Nat × Bool := numF l (q1 l).2.1 (q1 l).2.2 65535
def q3 (l : List UInt8) : Nat × Nat × Bool := numF l (q2 l).2.1 (q2 l).2.2 5
theorem numF_bad (l : List UInt8) (I most : Nat) : numF l I true most = (0, I, true) := by unfold numF; rw [if_pos rfl]
theorem numF_no {l : List UInt8} {I most : Nat} (h : (unv (l.drop I)).2 = 0 ∨ most < (unv (l.drop I)).1) : numF l I false most = (0, I, true) := by unfold numF; rw [if_neg (by decide), if_pos h]
theorem numF_yes {l : List UInt8} {I most : Nat} (h : ¬ ((unv (l.drop I)).2 = 0 ∨ most < (unv (l.drop I)).1)) : numF l I false most = ((unv (l.drop I)).1, I + (unv (l.drop I)).2, false) := by unfold numF; rw [if_neg (by decide), if_neg h]
theorem dec_num (l : List UInt8) : decL l = if (q3 l).2.2 = true then none else some (⟨((q1 l).1 : Int), ((q2 l).1 : Int), ((q3 l).1 : Int)⟩, (q3 l).2.1) := by
  unfold decL
  simp only
  by_cases b1 : (unv l).2 = 0 ∨ 1125899906842624 < (unv l).1
  · have e1 : q1 l = (0, 0, true) := numF_no (by rw [List.drop_zero]; exact b1)
    have e2 : q2 l = (0, 0, true) := by unfold q2; rw [e1]; exact numF_bad _ _ _
    have e3 : q3 l = (0, 0, true) := by unfold q3; rw [e2]; exact numF_bad _ _ _
    rw [if_pos b1, e3, if_pos rfl]
  · have e1 : q1 l = ((unv l).1, (unv l).2, false) := by
      have := numF_yes (l := l) (I := 0) (most := 1125899906842624) (by rw [List.drop_zero]; exact b1)
      rw [List.drop_zero, Nat.zero_add] at this
      exact this
    rw [if_neg b1]
    by_cases b2 : (unv (l.drop (unv l).2)).2 = 0 ∨ 65535 < (unv (l.drop (unv l).2)).1
    · have e2 : q2 l = (0, (unv l).2, true) := by unfold q2; rw [e1]; exact numF_no b2
      have e3 : q3 l = (0, (unv l).2, true) := by unfold q3; rw [e2]; exact numF_bad _ _ _
      rw [if_pos b2, e3, if_pos rfl]
    · have e2 : q2 l = ((unv (l.drop (unv l).2)).1, (unv l).2 + (unv (l.drop (unv l).2)).2, false) := by unfold q2; rw [e1]; exact numF_yes b2
      rw [if_neg b2]
      by_cases b3 : (unv (l.drop ((unv l).2 + (unv (l.drop (unv l).2)).2))).2 = 0 ∨ 5 < (unv (l.drop ((unv l).2 + (unv (l.drop (unv l).2)).2))).1
      · have e3 : q3 l = (0, (unv l).2 + (unv (l.drop (unv l).2)).2, true) := by unfold q3; rw [e2]; exact numF_no b3
        rw [if_pos b3, e3, if_pos rfl]
      · have e3 : q3 l = ((unv (l.drop ((unv l).2 + (unv (l.drop (unv l).2)).2))).1, (unv l).2 + (unv (l.drop (unv l).2)).2 + (unv (l.drop ((unv l).2 + (unv (l.drop (unv l).2)).2))).2, false) := by unfold q3; rw [e2]; exact numF_yes b3
        rw [if_neg b3, e3, if_neg (by simp), e1, e2]
theorem q1_le (l : List UInt8) : (q1 l).2.1 ≤ l.length := numF_le _ _ _ _ (Nat.zero_le _)
theorem q2_le (l : List UInt8) : (q2 l).2.1 ≤ l.length := numF_le _ _ _ _ (q1_le l)

theorem bts_kept {w w' : World} {a : Option Addr} {l : List UInt8} {g : Nat} (h : Bts w a l) (hk : Kept (fun k => k = g) w w') (hg : l = [] ∨ ∀ x, a = some x → x.block ≠ g) : Bts w' a l := by
  rcases hg with hg | hg
  · exact .inl hg
  rcases h with h | ⟨x, rfl, hc⟩
  · exact .inl h
  · refine .inr ⟨x, rfl, fun j hj => ?_⟩
    have := hc j hj
    rw [hk.cell (World.block_lt_of_cell? w _ this) (by rw [add_blk]; exact hg x rfl), this]

def EyeSPost (g : Nat) (a : Option Addr) (n c : Nat) (l : List UInt8) (w : World) (e : Ending) (w' : World) : Prop :=
  e = .returned (.agg #[.int .i64 (q1 l).1, .int .i64 (q2 l).1, .int .i64 (q3 l).1]) ∧ EyeAt w' g a n c (q3 l).2.1 (q3 l).2.2 ∧ Kept (fun k => k = g) w w'

set_option maxHeartbeats 8000000 in
set_option maxRecDepth 100000 in
theorem stamp_eye (g : Nat) (a : Option Addr) (n c : Nat) (l : List UInt8) (w : World) (hl : l.length = n) (hn : n ≤ 1000000) (hnc : n ≤ c) (h : EyeAt w g a n c 0 false) (hbt : Bts w a l) (ha : l = [] ∨ ∀ x, a = some x → x.block ≠ g) :
    Calls Tryd.prog 38 #[.pointer (some ⟨g, 0, none⟩)] w (EyeSPost g a n c l w) := by
  have hg := lt_of_block h
  have K0 : Kept (fun k => k = g) w (w.alloc (.cells #[.int .i64 0, .int .i64 0, .int .i64 0] 23)) := (Kept.refl _ w).alloc _
  have gR := heap_alloc_new w (.cells #[.int .i64 0, .int .i64 0, .int .i64 0] 23)
  have c1 := num_eye g a n c 0 false l 1125899906842624 _ hl hn hnc (Nat.zero_le _) (Nat.le_refl _) (box_alloc h (.cells #[.int .i64 0, .int .i64 0, .int .i64 0] 23)) (bts_kept hbt K0 ha)
  rw [show numF l 0 false 1125899906842624 = q1 l from rfl] at c1
  have HR := Lib.hid gR
  have HK0 := Lib.hid K0
  have HBT := Lib.hid hbt
  have HA := Lib.hid ha
  have HL := Lib.hid hl
  obtain ⟨⟨v1, I1, d1⟩, hq1⟩ : ∃ p, p = q1 l := ⟨_, rfl⟩
  obtain ⟨⟨v2, I2, d2⟩, hq2⟩ : ∃ p, p = q2 l := ⟨_, rfl⟩
  obtain ⟨⟨v3, I3, d3⟩, hq3⟩ : ∃ p, p = q3 l := ⟨_, rfl⟩
  have e2 : numF l I1 d1 65535 = (v2, I2, d2) := by rw [hq2]; unfold q2; rw [← hq1]
  have e3 : numF l I2 d2 5 = (v3, I3, d3) := by rw [hq3]; unfold q3; rw [← hq2]
  have l1 : I1 ≤ n := by have := q1_le l; rw [← hq1, hl] at this; exact this
  have l2 : I2 ≤ n := by have := q2_le l; rw [← hq2, hl] at this; exact this
  have HQ : Hid ((v1, I1, d1) = q1 l ∧ (v2, I2, d2) = q2 l ∧ (v3, I3, d3) = q3 l) := ⟨hq1, hq2, hq3⟩
  rw [← hq1, show ((1125899906842624 : Nat) : Int) = 1125899906842624 from rfl] at c1
  have HE2 := Lib.hid e2
  have HE3 := Lib.hid e3
  clear hq1 hq2 hq3 e2 e3 gR K0 hbt ha hl h
  go_enter Tryd.func38, Tryd.ntmps38
  go_wp2_with (go_at_call 45; (with_reducible refine c1.mono ?_))
  rintro e W1 ⟨rfl, y1, k1⟩
  have HK1 := Lib.hid (HK0.out.trans k1 (fun _ _ h => h))
  have r1 := (k1.block w.heap.size (lt_of_block HR.out) (by omega)).trans HR.out
  have c2 := num_eye g a n c I1 d1 l 65535 W1 HL.out hn hnc l1 (by decide) y1 (bts_kept HBT.out HK1.out HA.out)
  rw [HE2.out, show ((65535 : Nat) : Int) = 65535 from rfl] at c2
  have HR1 := Lib.hid r1
  clear c1 k1 y1 r1
  go_wp2_with (go_at_call 45; (with_reducible refine c2.mono ?_))
  rintro e W2 ⟨rfl, y2, k2⟩
  have HK2 := Lib.hid (HK1.out.trans k2 (fun _ _ h => h))
  have r2 := (k2.block w.heap.size (lt_of_block HR1.out) (by omega)).trans HR1.out
  have c3 := num_eye g a n c I2 d2 l 5 W2 HL.out hn hnc l2 (by decide) y2 (bts_kept HBT.out HK2.out HA.out)
  rw [HE3.out, show ((5 : Nat) : Int) = 5 from rfl] at c3
  have HR2 := Lib.hid r2
  clear c2 k2 y2 r2
  go_wp2_with (go_at_call 45; (with_reducible refine c3.mono ?_))
  rintro e W3 ⟨rfl, y3, k3⟩
  have HK3 := Lib.hid (HK2.out.trans k3 (fun _ _ h => h))
  have r3 := (k3.block w.heap.size (lt_of_block HR2.out) (by omega)).trans HR2.out
  obtain ⟨x0, x1, x2, f0, f1, f2⟩ := box_cells r3
  have GE := set3 r3 (.int .i64 (v1 : Int)) (.int .i64 (v2 : Int)) (.int .i64 (v3 : Int))
  obtain ⟨t0, t1, t2, _⟩ := box_cells GE
  have HY := Lib.hid (show EyeAt (((W3.setCell ⟨w.heap.size, 0, none⟩ (.int .i64 (v1 : Int))).setCell ⟨w.heap.size, 1, none⟩ (.int .i64 (v2 : Int))).setCell ⟨w.heap.size, 2, none⟩ (.int .i64 (v3 : Int))) g a n c I3 d3 from set3_other y3 (by omega) _ _ _)
  have HK := Lib.hid (((HK3.out.setCell (p := ⟨w.heap.size, 0, none⟩) (fun h => by simp at h) (.int .i64 (v1 : Int))).setCell (p := ⟨w.heap.size, 1, none⟩) (fun h => by simp at h) (.int .i64 (v2 : Int))).setCell (p := ⟨w.heap.size, 2, none⟩) (fun h => by simp at h) (.int .i64 (v3 : Int)))
  clear c3 k3 y3 r3 GE
  go_wp2
  refine bodyPost_ret (v := .agg #[.int .i64 (v1 : Int), .int .i64 (v2 : Int), .int .i64 (v3 : Int)]) (by simp [results, Tryd.results38, go_sem, t0, t1, t2]) rfl ?_
  refine ⟨?_, ?_, HK.out⟩
  · rw [← HQ.out.1, ← HQ.out.2.1, ← HQ.out.2.2]
  · rw [← HQ.out.2.2]; exact HY.out

set_option maxHeartbeats 8000000 in
set_option maxRecDepth 100000 in
theorem rDecode_any (a : Option Addr) (n c : Nat) (l : List UInt8) (w : World) (hl : l.length = n) (hn : n ≤ 1000000) (hnc : n ≤ c) (hbt : Bts w a l) :
    Calls Tryd.prog 24 #[.slice a n c] w (DecPost (decL l) w) := by
  have g0 := box_alloc (heap_alloc_new w (.cells #[.int .i64 0, .int .i64 0, .int .i64 0] 23)) (.cells #[.slice a n c, .int .i64 0, .bool false] 64)
  have g1 := heap_alloc_new (w.alloc (.cells #[.int .i64 0, .int .i64 0, .int .i64 0] 23)) (.cells #[.slice a n c, .int .i64 0, .bool false] 64)
  rw [World.size_alloc] at g1
  have bA := ((Below.refl w.heap.size w).alloc (Nat.le_refl _) (.cells #[.int .i64 0, .int .i64 0, .int .i64 0] 23)).alloc (by simp) (.cells #[.slice a n c, .int .i64 0, .bool false] 64)
  have cS := stamp_eye (w.heap.size + 1) a n c l _ hl hn hnc g1 (hbt.later bA) (by
    rcases hbt with h | ⟨x, hx, hc⟩
    · exact .inl h
    · by_cases h0 : l = []
      · exact .inl h0
      · right
        intro y hy
        rw [hx] at hy
        injection hy with hy
        subst hy
        have := World.block_lt_of_cell? w _ (hc 0 (List.length_pos_iff.2 h0))
        rw [add_blk] at this
        omega)
  have HD := Lib.hid (dec_num l)
  have HB := Lib.hid bA
  have HG0 := Lib.hid g0
  clear g0 g1 bA hbt hl
  go_enter Tryd.func24, Tryd.ntmps24
  go_wp2_with (go_at_call 38; (with_reducible refine cS.mono ?_))
  rintro e W1 ⟨rfl, y1, k1⟩
  obtain ⟨⟨v3, I3, d3⟩, hq3⟩ : ∃ p, p = q3 l := ⟨_, rfl⟩
  obtain ⟨v1, hv1⟩ : ∃ v, v = (q1 l).1 := ⟨_, rfl⟩
  obtain ⟨v2, hv2⟩ : ∃ v, v = (q2 l).1 := ⟨_, rfl⟩
  rw [← hq3, ← hv1, ← hv2] at HD
  rw [← hq3] at y1
  rw [← hq3, ← hv1, ← hv2]
  simp only at y1 HD
  have r1 := (k1.block w.heap.size (by simp; omega) (by omega)).trans HG0.out
  have bT := (k1.below (B := w.heap.size) (by simp; omega) (fun k hk => by omega))
  have HBT := Lib.hid (HB.out.trans bT)
  have HZ1 : w.heap.size + 1 < W1.heap.size := lt_of_block y1
  have HR1 := Lib.hid (box_alloc r1 (.cells #[.int .i64 (v1 : Int), .int .i64 (v2 : Int), .int .i64 (v3 : Int)] 23))
  have HY1 := Lib.hid (box_alloc y1 (.cells #[.int .i64 (v1 : Int), .int .i64 (v2 : Int), .int .i64 (v3 : Int)] 23))
  have HX1 := Lib.hid (heap_alloc_new W1 (.cells #[.int .i64 (v1 : Int), .int .i64 (v2 : Int), .int .i64 (v3 : Int)] 23))
  have HB1 := Lib.hid (HBT.out.alloc HBT.out.size (.cells #[.int .i64 (v1 : Int), .int .i64 (v2 : Int), .int .i64 (v3 : Int)] 23))
  clear hq3 hv1 hv2 y1 k1 r1 bT cS
  obtain ⟨y0, y1, y2, _⟩ := box_cells HY1.out
  obtain ⟨r0, r1, r2, f0, f1, f2⟩ := box_cells HR1.out
  obtain ⟨x0, x1, x2, _⟩ := box_cells HX1.out
  have GE0 := set3 HR1.out (.int .i64 0) (.int .i64 0) (.int .i64 0)
  obtain ⟨t0, t1, t2, _⟩ := box_cells GE0
  have HZ0 := Lib.hid (below3 HB1.out (Nat.le_refl _) (.int .i64 0) (.int .i64 0) (.int .i64 0))
  clear GE0
  cases d3 with
  | true =>
    have HF : Hid (decL l = none) := by show _ = _; rw [HD.out, if_pos rfl]
    go_wp2
    refine bodyPost_ret (v := .tuple #[.agg #[.int .i64 0, .int .i64 0, .int .i64 0], .int .i64 0, .int .i64 10]) (by simp [results, Tryd.results24, go_sem, t0, t1, t2]) rfl ?_
    exact ⟨by rw [HF.out]; rfl, HZ0.out⟩
  | false =>
    have HF : Hid (decL l = some (⟨(v1 : Int), (v2 : Int), (v3 : Int)⟩, I3)) := by show _ = _; rw [HD.out, if_neg (by simp)]
    clear t0 t1 t2
    have hz1 : w.heap.size + 1 < W1.heap.size := HZ1
    have GE1 := set3 HR1.out (.int .i64 (v1 : Int)) (.int .i64 (v2 : Int)) (.int .i64 (v3 : Int))
    have HGE := Lib.hid GE1
    have HZ2 := Lib.hid (below3 HB1.out (Nat.le_refl _) (.int .i64 (v1 : Int)) (.int .i64 (v2 : Int)) (.int .i64 (v3 : Int)))
    obtain ⟨W0, hW0⟩ : ∃ W0, W0 = W1.alloc (.cells #[.int .i64 (v1 : Int), .int .i64 (v2 : Int), .int .i64 (v3 : Int)] 23) := ⟨_, rfl⟩
    go_wp2
    rw [← hW0] at HGE HZ2 y0 y1 y2 r0 r1 r2 f0 f1 f2 x0 x1 x2 ⊢
    clear hW0 GE1 HR1 HY1 HX1 HB1 HZ0 HBT
    go_region_law (fail)
    all_goals (
      obtain ⟨t0, t1, t2, _⟩ := box_cells HGE.out
      clear y0 y1 y2 r0 r1 r2 f0 f1 f2 x0 x1 x2
      go_wp2
      refine bodyPost_ret (v := .tuple #[.agg #[.int .i64 (v1 : Int), .int .i64 (v2 : Int), .int .i64 (v3 : Int)], .int .i64 I3, .int .i64 0]) (by simp [results, Tryd.results24, go_sem, t0, t1, t2]) rfl ?_
      exact ⟨by rw [HF.out]; rfl, by first | exact HZ2.out | exact HZ2.out.drew⟩)

end Go.Proofs.YtijnmhiiojkcgaaDoor
