/-
  What the reference's set answers.
-/
import Derived.Test.YtmijhgecdkdkmaaRefT
import Derived.Test.YtmijhgecdkdkmaaRefR
set_option linter.unusedVariables false
namespace Go.Proofs.Ytmijhgecdkdkmaa
open Go.RowKit

/-- A row of runes, as it is read. -/
def RnAt (w : World) (v : Value) (T : List Nat) : Prop :=
  ∃ a cap, v = .slice a T.length cap ∧ (T ≠ [] → ∃ g o, a = some ⟨g, o, none⟩ ∧ ∀ i (h : i < T.length), w.cell? ⟨g, o + i * 4, none⟩ = some (.int .i32 T[i]))

theorem RnAt.below {w w' : World} {v : Value} {T : List Nat} (h : RnAt w v T) (hb : Below w.heap.size w w') : RnAt w' v T := by
  obtain ⟨a, cap, hv, hc⟩ := h
  refine ⟨a, cap, hv, fun hne => ?_⟩
  obtain ⟨g, o, ha, hd⟩ := hc hne
  refine ⟨g, o, ha, fun i hi => ?_⟩
  have h1 := hd i hi
  have hl := World.block_lt_of_cell? _ _ h1
  exact (hb.cell (p := ⟨g, o + i * 4, none⟩) hl).trans h1

/-- The four cells of a piece of the reference. -/
theorem rp_cells {W : World} {B R : Nat} {u0 u1 u2 u3 : Value} (h : W.ownsRow B 65 4 (.slice (some ⟨R, 0, none⟩) 1 1) 1 [u0, u1, u2, u3]) :
    (W.cell? ⟨R, 0, none⟩ = some u0 ∧ W.cell? ⟨R, 1, none⟩ = some u1 ∧ W.cell? ⟨R, 2, none⟩ = some u2 ∧ W.cell? ⟨R, 3, none⟩ = some u3) ∧
    W.frozen? ⟨R, 0, none⟩ = false ∧ W.frozen? ⟨R, 1, none⟩ = false ∧ W.frozen? ⟨R, 2, none⟩ = false ∧ W.frozen? ⟨R, 3, none⟩ = false :=
  ⟨⟨h.cellAt 0 (by omega), h.cellAt 1 (by omega), h.cellAt 2 (by omega), h.cellAt 3 (by omega)⟩, h.frozenAt 0, h.frozenAt 1, h.frozenAt 2, h.frozenAt 3⟩
theorem rp_stored {W : World} {B R : Nat} {u0 u1 u2 u3 : Value} (v0 v1 v2 v3 : Value) (h : W.ownsRow B 65 4 (.slice (some ⟨R, 0, none⟩) 1 1) 1 [u0, u1, u2, u3]) :
    ((((W.setCell ⟨R, 0, none⟩ v0).setCell ⟨R, 1, none⟩ v1).setCell ⟨R, 2, none⟩ v2).setCell ⟨R, 3, none⟩ v3).ownsRow B 65 4 (.slice (some ⟨R, 0, none⟩) 1 1) 1 [v0, v1, v2, v3] :=
  ((((h.stored 0 v0).1.stored 1 v1).1.stored 2 v2).1.stored 3 v3).1
/-- A store into one block leaves a row in another. -/
theorem rp_kept {W : World} {B B' R n k : Nat} {t : TypeId} {sv : Value} {xs ys : List Value} (hx : W.ownsRow B 65 4 (.slice (some ⟨R, 0, none⟩) 1 1) 1 ys) (h : W.ownsRow B' t k sv n xs) (hne : sv.ownBlock = none ∨ sv.ownBlock ≠ some R) (v0 v1 v2 v3 : Value) :
    ((((W.setCell ⟨R, 0, none⟩ v0).setCell ⟨R, 1, none⟩ v1).setCell ⟨R, 2, none⟩ v2).setCell ⟨R, 3, none⟩ v3).ownsRow B' t k sv n xs := by
  have s0 := hx.stored 0 v0
  have s1 := s0.1.stored 1 v1
  have s2 := s1.1.stored 2 v2
  have s3 := s2.1.stored 3 v3
  exact (((h.kept s0.2 hne).kept s1.2 hne).kept s2.2 hne).kept s3.2 hne

/-- The runes behind a set's head. -/
def setBody (T : List Nat) : List Nat := if T.head? = some 94 then T.tail else T

def RSetPost (T : List Nat) (w : World) (e : Ending) (w' : World) : Prop :=
  Below w.heap.size w w' ∧ match rsS (T.length + 1) true (setBody T) [] with
  | none => ∃ a b la ln lc ha hn hc, e = .returned (.tuple #[.agg #[.bool a, .bool b, .slice la ln lc, .slice ha hn hc], .int .i64 (-1)])
  | some (sp, T') => ∃ la lc ha hc, e = .returned (.tuple #[.agg #[.bool false, .bool (T.head? == some 94), .slice la sp.length lc, .slice ha sp.length hc], .int .i64 ((T.length : Int) - (T'.length : Int))]) ∧
      Bounds w' w.heap.size (.slice la sp.length lc) (.slice ha sp.length hc) ⟨sp, T.head? == some 94, false⟩

theorem infoInt : (Try.prog.info? 21).map (fun i => (i.zero, i.size, i.bytes)) = some (some (.int .i32 0), 1, 4) := by kernel_rfl

/-- Where the reference's set stands in its loop. -/
def RsRel (T : List Nat) (w : World) (t : Bool) (i fl : Value) (wr : World) : Prop :=
  ∃ (k f : Nat) (first : Bool) (acc : List (Nat × Nat)) (lo hi : Value), i = .int .i64 k ∧ fl = .bool first ∧ k ≤ T.length ∧ T.length ≤ k + f ∧ acc.length ≤ k ∧
    Hid (rsS (T.length + 1) true (setBody T) [] = rsS f first (T.drop k) acc) ∧
    wr.ownsRow w.heap.size 65 4 (.slice (some ⟨w.heap.size, 0, none⟩) 1 1) 1 [.bool false, .bool false, .slice none 0 0, .slice none 0 0] ∧
    wr.ownsRow w.heap.size 65 4 (.slice (some ⟨w.heap.size + 1, 0, none⟩) 1 1) 1 [.bool false, .bool t, lo, hi] ∧
    wr.ownsRow (w.heap.size + 2) 21 1 lo acc.length (rowOf iC (acc.map (·.1))) ∧ wr.ownsRow (w.heap.size + 2) 21 1 hi acc.length (rowOf iC (acc.map (·.2))) ∧
    (lo.ownBlock = none ∨ lo.ownBlock ≠ hi.ownBlock) ∧ Below w.heap.size w wr

theorem rs_close {f r : Nat} {T1 : List Nat} {acc : List (Nat × Nat)} (h : r = 93) : rsS (f + 1) false (r :: T1) acc = some (acc, T1) := by rw [rsS, if_pos h]; rfl
theorem rs_empty {f r : Nat} {T1 : List Nat} {acc : List (Nat × Nat)} (h : r = 93) : rsS (f + 1) true (r :: T1) acc = none := by rw [rsS, if_pos h]; rfl
theorem rs_dash {f r : Nat} {T1 : List Nat} {acc : List (Nat × Nat)} (h : r = 45) (h1 : T1.head? ≠ some 93) : rsS (f + 1) false (r :: T1) acc = none := by rw [rsS, if_neg (by omega), if_pos ⟨h, rfl, h1⟩]
theorem rs_item0 {f r : Nat} {first : Bool} {T1 : List Nat} {acc : List (Nat × Nat)} (h : r ≠ 93) (hd : ¬ (r = 45 ∧ first = false ∧ T1.head? ≠ some 93)) (hi : item (r :: T1) = none) : rsS (f + 1) first (r :: T1) acc = none := by rw [rsS, if_neg h, if_neg hd, hi]
theorem rs_go {f r x : Nat} {first : Bool} {T1 T2 : List Nat} {acc : List (Nat × Nat)} (h : r ≠ 93) (hd : ¬ (r = 45 ∧ first = false ∧ T1.head? ≠ some 93)) (hi : item (r :: T1) = some (x, T2)) (hn : dash T2 = none) : rsS (f + 1) first (r :: T1) acc = rsS f false T2 (acc ++ [(x, x)]) := by rw [rsS, if_neg h, if_neg hd, hi]; simp only [hn]
theorem rs_item1 {f r x : Nat} {first : Bool} {T1 T2 T3 : List Nat} {acc : List (Nat × Nat)} (h : r ≠ 93) (hd : ¬ (r = 45 ∧ first = false ∧ T1.head? ≠ some 93)) (hi : item (r :: T1) = some (x, T2)) (hn : dash T2 = some T3) (hj : item T3 = none) : rsS (f + 1) first (r :: T1) acc = none := by rw [rsS, if_neg h, if_neg hd, hi]; simp only [hn, hj]
theorem rs_over {f r x y : Nat} {first : Bool} {T1 T2 T3 T4 : List Nat} {acc : List (Nat × Nat)} (h : r ≠ 93) (hd : ¬ (r = 45 ∧ first = false ∧ T1.head? ≠ some 93)) (hi : item (r :: T1) = some (x, T2)) (hn : dash T2 = some T3) (hj : item T3 = some (y, T4)) (ho : y < x) : rsS (f + 1) first (r :: T1) acc = none := by rw [rsS, if_neg h, if_neg hd, hi]; simp only [hn, hj]; rw [if_pos ho]
theorem rs_go2 {f r x y : Nat} {first : Bool} {T1 T2 T3 T4 : List Nat} {acc : List (Nat × Nat)} (h : r ≠ 93) (hd : ¬ (r = 45 ∧ first = false ∧ T1.head? ≠ some 93)) (hi : item (r :: T1) = some (x, T2)) (hn : dash T2 = some T3) (hj : item T3 = some (y, T4)) (ho : ¬ y < x) : rsS (f + 1) first (r :: T1) acc = rsS f false T4 (acc ++ [(x, y)]) := by rw [rsS, if_neg h, if_neg hd, hi]; simp only [hn, hj]; rw [if_neg ho]

theorem dash_a {T : List Nat} {j : Nat} (h : ¬ j + 1 < T.length) : dash (T.drop j) = none := by
  have hl : (T.drop j).length ≤ 1 := by rw [List.length_drop]; omega
  cases hx : T.drop j with
  | nil => rfl
  | cons a r =>
    rw [hx] at hl
    cases r with
    | nil => simp [dash]
    | cons b r => simp at hl
theorem dash_b {T : List Nat} {j : Nat} (h : j < T.length) (h1 : T[j] ≠ 45) : dash (T.drop j) = none := by
  have e := List.drop_eq_getElem_cons h
  rw [e]
  generalize T.drop (j + 1) = U
  generalize T[j] = z at h1
  cases U <;> simp [dash, h1]
theorem dash_d {T : List Nat} {j : Nat} (h : j + 1 < T.length) (h1 : T[j + 1] = 93) : dash (T.drop j) = none := by
  have e := List.drop_eq_getElem_cons (show j < T.length by omega)
  have e2 := List.drop_eq_getElem_cons h
  rw [h1] at e2
  rw [e, e2]
  generalize T[j] = z
  by_cases hz : z = 45
  · subst hz; simp [dash]
  · simp [dash, hz]
theorem dash_e {T : List Nat} {j : Nat} (h : j + 1 < T.length) (h1 : T[j] = 45) (h2 : T[j + 1] ≠ 93) : dash (T.drop j) = some (T.drop (j + 1)) := by
  rw [List.drop_eq_getElem_cons (show j < T.length by omega), List.drop_eq_getElem_cons h, h1]
  unfold dash
  simp only
  rw [if_neg h2]
theorem item_plain {T : List Nat} {j : Nat} (h : j < T.length) (h1 : T[j] ≠ 92) : item (T.drop j) = some (T[j], T.drop (j + 1)) := by
  rw [List.drop_eq_getElem_cons h]; simp [item, h1]
theorem item_esc {T : List Nat} {j : Nat} (h : j + 1 < T.length) (h1 : T[j] = 92) : item (T.drop j) = some (T[j + 1], T.drop (j + 2)) := by
  rw [List.drop_eq_getElem_cons (show j < T.length by omega), List.drop_eq_getElem_cons h, h1]; rfl
theorem item_end {T : List Nat} {j : Nat} (h0 : j < T.length) (h : ¬ j + 1 < T.length) (h1 : T[j] = 92) : item (T.drop j) = none := by
  rw [List.drop_eq_getElem_cons h0, h1, List.drop_of_length_le (by omega)]; rfl
theorem head_drop {T : List Nat} {j : Nat} (h : j < T.length) : (T.drop j).head? = some T[j] := by
  rw [List.drop_eq_getElem_cons h]; rfl

end Go.Proofs.Ytmijhgecdkdkmaa
