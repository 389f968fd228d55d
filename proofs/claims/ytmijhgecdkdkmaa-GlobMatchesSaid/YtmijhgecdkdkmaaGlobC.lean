/-
  What glob.set answers.
-/
import Derived.Test.YtmijhgecdkdkmaaGlobB
set_option linter.unusedVariables false
namespace Go.Proofs.Ytmijhgecdkdkmaa
open Go.RowKit

/-- A piece of a pattern. -/
structure Pc where
  spans : List (Nat × Nat)
  turned : Bool
  many : Bool

def spC (x : Nat × Nat) : List Value := [.int .i32 x.1, .int .i32 x.2]

/-- What set goes through, from a place on. -/
def setL : Nat → List Sg → Nat → Nat → List (Nat × Nat) → Option (List (Nat × Nat) × Nat)
  | 0, _, _, _, _ => none
  | f + 1, S, first, k, acc =>
    if k < S.length then
      if bareAt S k 93 = true then (if k = first then none else some (acc, k + 1))
      else if bareAt S k 45 = true ∧ k ≠ first ∧ bareAt S (k + 1) 93 = false then none
      else if (spanF S k).1.2 < (spanF S k).1.1 then none
      else setL f S first (k + (spanF S k).2) (acc ++ [(spanF S k).1])
    else none

def setFirst (S : List Sg) : Nat := if bareAt S 1 94 = true then 2 else 1
/-- The piece with which the signs begin, a [ ahead, and how many they are; 0: there is none. -/
def setR (S : List Sg) : Pc × Nat := match setL S.length S (setFirst S) (setFirst S) [] with
  | some (sp, n) => (⟨sp, bareAt S 1 94, false⟩, n)
  | none => (⟨[], false, false⟩, 0)

/-- A piece as a value, its spans at sv. -/
def pcVal (sv : Value) (p : Pc) : Value := .agg #[sv, .bool p.turned, .bool p.many]

def PcPost (x : Pc × Nat) (w : World) (e : Ending) (w' : World) : Prop :=
  ∃ sv, e = .returned (.tuple #[pcVal sv x.1, .int .i64 x.2]) ∧ w'.ownsRow w.heap.size 92 2 sv x.1.spans.length (rowOf spC x.1.spans) ∧ Below w.heap.size w w'

theorem infoSpan : (Try.prog.info? 92).map (fun i => (i.zero, i.size, i.bytes)) = some (some (.agg #[.int .i32 0, .int .i32 0]), 2, 8) := by kernel_rfl

/-- Where set stands in its loop. -/
def SetRel (S : List Sg) (w : World) (t : Bool) (i : Value) (wr : World) : Prop :=
  ∃ (k f : Nat) (acc : List (Nat × Nat)) (sv : Value), i = .int .i64 k ∧ S.length ≤ k + f ∧ k ≤ S.length + 3 ∧ acc.length ≤ k ∧ setFirst S ≤ k ∧
    Hid (setL S.length S (setFirst S) (setFirst S) [] = setL f S (setFirst S) k acc) ∧
    wr.ownsRow w.heap.size 76 3 (.slice (some ⟨w.heap.size, 0, none⟩) 1 1) 1 [sv, .bool t, .bool false] ∧
    wr.ownsRow (w.heap.size + 1) 92 2 sv acc.length (rowOf spC acc) ∧ Below w.heap.size w wr

theorem setL_past {f : Nat} {S : List Sg} {first k : Nat} {acc : List (Nat × Nat)} (h : ¬ k < S.length) : setL f S first k acc = none := by
  cases f with
  | zero => rfl
  | succ f => unfold setL; rw [if_neg h]
theorem setL_close {f : Nat} {S : List Sg} {first k : Nat} {acc : List (Nat × Nat)} (h : k < S.length) (h1 : bareAt S k 93 = true) (h2 : k ≠ first) : setL (f + 1) S first k acc = some (acc, k + 1) := by
  rw [setL, if_pos h, if_pos h1, if_neg h2]
theorem setL_empty {f : Nat} {S : List Sg} {first k : Nat} {acc : List (Nat × Nat)} (h : k < S.length) (h1 : bareAt S k 93 = true) (h2 : k = first) : setL (f + 1) S first k acc = none := by
  rw [setL, if_pos h, if_pos h1, if_pos h2]
theorem setL_dash {f : Nat} {S : List Sg} {first k : Nat} {acc : List (Nat × Nat)} (h : k < S.length) (h1 : bareAt S k 93 = false) (h2 : bareAt S k 45 = true) (h3 : k ≠ first) (h4 : bareAt S (k + 1) 93 = false) : setL (f + 1) S first k acc = none := by
  rw [setL, if_pos h, if_neg (by simp [h1]), if_pos ⟨h2, h3, h4⟩]
theorem setL_over {f : Nat} {S : List Sg} {first k a b n : Nat} {acc : List (Nat × Nat)} (h : k < S.length) (h1 : bareAt S k 93 = false) (h2 : ¬ (bareAt S k 45 = true ∧ k ≠ first ∧ bareAt S (k + 1) 93 = false)) (hp : spanF S k = ((a, b), n)) (h3 : b < a) : setL (f + 1) S first k acc = none := by
  rw [setL, if_pos h, if_neg (by simp [h1]), if_neg h2, hp, if_pos h3]
theorem setL_more {f : Nat} {S : List Sg} {first k a b n : Nat} {acc : List (Nat × Nat)} (h : k < S.length) (h1 : bareAt S k 93 = false) (h2 : ¬ (bareAt S k 45 = true ∧ k ≠ first ∧ bareAt S (k + 1) 93 = false)) (hp : spanF S k = ((a, b), n)) (h3 : ¬ b < a) : setL (f + 1) S first k acc = setL f S first (k + n) (acc ++ [(a, b)]) := by
  rw [setL, if_pos h, if_neg (by simp [h1]), if_neg h2, hp, if_neg h3]

theorem setR_none {S : List Sg} {f k : Nat} {acc : List (Nat × Nat)} (HL : Hid (setL S.length S (setFirst S) (setFirst S) [] = setL f S (setFirst S) k acc)) (h : setL f S (setFirst S) k acc = none) : setR S = (⟨[], false, false⟩, 0) := by
  unfold setR; rw [HL.out, h]
theorem setR_some {S : List Sg} {f k n : Nat} {acc : List (Nat × Nat)} (HL : Hid (setL S.length S (setFirst S) (setFirst S) [] = setL f S (setFirst S) k acc)) (h : setL f S (setFirst S) k acc = some (acc, n)) : setR S = (⟨acc, bareAt S 1 94, false⟩, n) := by
  unfold setR; rw [HL.out, h]

/-- The three cells of a piece. -/
theorem pc_cells {W : World} {B R : Nat} {sv u1 u2 : Value} (h : W.ownsRow B 76 3 (.slice (some ⟨R, 0, none⟩) 1 1) 1 [sv, u1, u2]) :
    (W.cell? ⟨R, 0, none⟩ = some sv ∧ W.cell? ⟨R, 1, none⟩ = some u1 ∧ W.cell? ⟨R, 2, none⟩ = some u2) ∧ W.frozen? ⟨R, 0, none⟩ = false ∧ W.frozen? ⟨R, 1, none⟩ = false ∧ W.frozen? ⟨R, 2, none⟩ = false :=
  ⟨⟨h.cellAt 0 (by omega), h.cellAt 1 (by omega), h.cellAt 2 (by omega)⟩, h.frozenAt 0, h.frozenAt 1, h.frozenAt 2⟩

/-- A store into the piece leaves its spans. -/
theorem sp_kept {W : World} {R n : Nat} {sv : Value} {xs ys : List Value} (hx : W.ownsRow R 76 3 (.slice (some ⟨R, 0, none⟩) 1 1) 1 ys) (h : W.ownsRow (R + 1) 92 2 sv n xs) (v0 v1 v2 : Value) :
    (((W.setCell ⟨R, 0, none⟩ v0).setCell ⟨R, 1, none⟩ v1).setCell ⟨R, 2, none⟩ v2).ownsRow (R + 1) 92 2 sv n xs := by
  have hne : sv.ownBlock = none ∨ sv.ownBlock ≠ some R := by
    cases hv : sv.ownBlock with
    | none => exact Or.inl rfl
    | some b => right; intro e; have := (h.lt _ hv).1; simp at e; omega
  have h0 := h.kept (hx.stored 0 v0).2 hne
  have h1 := h0.kept ((hx.stored 0 v0).1.stored 1 v1).2 hne
  exact h1.kept (((hx.stored 0 v0).1.stored 1 v1).1.stored 2 v2).2 hne

/-- A piece stored whole. -/
theorem pc_stored {W : World} {B R : Nat} {sv u1 u2 : Value} (v0 v1 v2 : Value) (h : W.ownsRow B 76 3 (.slice (some ⟨R, 0, none⟩) 1 1) 1 [sv, u1, u2]) :
    (((W.setCell ⟨R, 0, none⟩ v0).setCell ⟨R, 1, none⟩ v1).setCell ⟨R, 2, none⟩ v2).ownsRow B 76 3 (.slice (some ⟨R, 0, none⟩) 1 1) 1 [v0, v1, v2] :=
  (((h.stored 0 v0).1.stored 1 v1).1.stored 2 v2).1

set_option maxHeartbeats 4000000 in
set_option maxRecDepth 100000 in
theorem set_any (v : Value) (S : List Sg) (w : World) (h : SgAt w v S) (hS : S.length ≤ 1000) :
    Calls Try.prog 54 #[v] w (PcPost (setR S) w) := by
  obtain ⟨i0, hi, hz0, hz1, hz2⟩ := info_parts infoSpan
  have hbr := fun (wx : World) (hb : Below w.heap.size w wx) => isBare_b h hb hS
  have hsp := fun (wx : World) (hb : Below w.heap.size w wx) k hk => spanAt_any v S k wx (h.below hb) hk hS
  have hbA := (Below.refl w.heap.size w).alloc (Nat.le_refl _)
  obtain ⟨a, cap, rfl, hc⟩ := h
  cases b1 : bareAt S 1 94 with
  | true =>
    have HF : Hid (setFirst S = 2) := by show _ = _; unfold setFirst; rw [if_pos b1]
    clear hc
    go_enter Try.func54, Try.ntmps54
    go_wp2_with (go_at_call 53; (with_reducible refine (hbr _ (hbA _) _ _ 1 94 (by omega) (by omega) (by omega) (by omega)).mono ?_); rintro e w' ⟨rfl, rfl⟩)
    go_loopw [4] (fun i wr => SetRel S w true i wr) (fun i _ => S.length + 3 - (intOf i).toNat)
    case atStart =>
      refine ⟨2, S.length, [], .slice none 0 0, rfl, by omega, by omega, by simp, by rw [HF.out]; omega, ?_, World.ownsRow_lit w #[.slice none 0 0, .bool true, .bool false] 1 (Nat.le_refl _) (by unfold maxLen; omega) rfl, ⟨rfl, .inl ⟨rfl, rfl⟩⟩, hbA _⟩
      show _ = _
      rw [HF.out]
    case round =>
      obtain ⟨k, f, acc, sv, rfl, hkf, hk3, hal, hfk, HL, hx, hown, hbw⟩ := hrel
      obtain ⟨sa, sc, hsv⟩ := own_form hown
      subst hsv
      have hxs := (hx.lt _ rfl).2
      obtain ⟨⟨hx0, hx1, hx2⟩, hy0, hy1, hy2⟩ := pc_cells hx
      by_cases hlt : k < S.length
      · obtain ⟨f, rfl⟩ : ∃ g, f = g + 1 := ⟨f - 1, by omega⟩
        have hlti : (k : Int) < (S.length : Int) := by omega
        cases b93 : bareAt S k 93 with
        | true =>
          by_cases hk1 : k = 2
          · have HN : Hid (setR S = (⟨[], false, false⟩, 0)) := setR_none HL (setL_empty hlt b93 (by rw [HF.out]; exact hk1))
            have e1 : ((k : Int) == 2) = true := by rw [hk1]; rfl
            clear hk1
            have hst := pc_stored (.slice none 0 0) (.bool false) (.bool false) hx
            have hcc := (pc_cells hst).1
            have hbf : Below w.heap.size w _ := ((hbw.setCell (p := ⟨w.heap.size, 0, none⟩) (Nat.le_refl _) (.slice none 0 0)).setCell (p := ⟨w.heap.size, 1, none⟩) (Nat.le_refl _) (.bool false)).setCell (p := ⟨w.heap.size, 2, none⟩) (Nat.le_refl _) (.bool false)
            go_wp2_with (first | (go_at_call 53; (with_reducible refine (hbr _ (by assumption) _ _ k 93 (by omega) (by omega) (by omega) (by omega)).mono ?_); rintro e w' ⟨rfl, rfl⟩) | (go_at_call 53; (with_reducible refine (hbr _ (by assumption) _ _ k 45 (by omega) (by omega) (by omega) (by omega)).mono ?_); rintro e w' ⟨rfl, rfl⟩) | (go_at_call 53; (with_reducible refine (hbr _ (by assumption) _ _ (k + 1) 93 (by omega) (by omega) (by omega) (by omega)).mono ?_); rintro e w' ⟨rfl, rfl⟩))
            refine bodyPost_ret (v := .tuple #[.agg #[.slice none 0 0, .bool false, .bool false], .int .i64 0]) (by simp [results, Try.results54, go_sem, hcc]) rfl ?_
            rw [HN.out]
            exact ⟨.slice none 0 0, rfl, ⟨rfl, .inl ⟨rfl, rfl⟩⟩, hbf⟩
          · have HN : Hid (setR S = (⟨acc, bareAt S 1 94, false⟩, k + 1)) := setR_some HL (setL_close hlt b93 (by rw [HF.out]; exact hk1))
            have e1 : ((k : Int) == 2) = false := beq_false_of_ne (by omega)
            clear hk1
            have hst := pc_stored (.slice sa acc.length sc) (.bool true) (.bool false) hx
            have hcc := (pc_cells hst).1
            have hos : (((wr.setCell ⟨w.heap.size, 0, none⟩ (.slice sa acc.length sc)).setCell ⟨w.heap.size, 1, none⟩ (.bool true)).setCell ⟨w.heap.size, 2, none⟩ (.bool false)).ownsRow (w.heap.size + 1) 92 2 (.slice sa acc.length sc) acc.length (rowOf spC acc) := sp_kept hx hown _ _ _
            have hbf : Below w.heap.size w _ := ((hbw.setCell (p := ⟨w.heap.size, 0, none⟩) (Nat.le_refl _) (.slice sa acc.length sc)).setCell (p := ⟨w.heap.size, 1, none⟩) (Nat.le_refl _) (.bool true)).setCell (p := ⟨w.heap.size, 2, none⟩) (Nat.le_refl _) (.bool false)
            go_wp2_with (go_at_call 53; (with_reducible refine (hbr _ (by assumption) _ _ k 93 (by omega) (by omega) (by omega) (by omega)).mono ?_); rintro e w' ⟨rfl, rfl⟩)
            refine bodyPost_ret (v := .tuple #[.agg #[.slice sa acc.length sc, .bool true, .bool false], .int .i64 ((k : Int) + 1)]) (by simp [results, Try.results54, go_sem, hcc]) rfl ?_
            rw [HN.out, b1]
            exact ⟨.slice sa acc.length sc, rfl, own_base hos (by omega), hbf⟩
        | false =>
          obtain ⟨⟨⟨a1, a2⟩, wd⟩, hp⟩ : ∃ p, p = spanF S k := ⟨_, rfl⟩
          have hwd := spanF_w S k
          rw [← hp] at hwd
          simp only at hwd
          have hspk : ∀ (wx : World), Below w.heap.size w wx → k < S.length → Calls Try.prog 57 #[.slice a S.length cap, .int .i64 k] wx fun e w' => e = .returned (.tuple #[.agg #[.int .i32 a1, .int .i32 a2], .int .i64 wd]) ∧ Below wx.heap.size wx w' := fun wx hb hk => by
            have := hsp wx hb k hk; rw [← hp] at this; exact this
          have hcase : (bareAt S k 45 = true ∧ ¬ k = 2 ∧ bareAt S (k + 1) 93 = false) ∨ bareAt S k 45 = false ∨ (bareAt S k 45 = true ∧ k = 2) ∨ (bareAt S k 45 = true ∧ ¬ k = 2 ∧ bareAt S (k + 1) 93 = true) := by
            cases bareAt S k 45 <;> cases bareAt S (k + 1) 93 <;> by_cases h : k = 2 <;> simp [h]
          rcases hcase with ⟨b45, hk1, b93'⟩ | hcase
          · have HN : Hid (setR S = (⟨[], false, false⟩, 0)) := setR_none HL (setL_dash hlt b93 b45 (by rw [HF.out]; exact hk1) b93')
            have e1 : ((k : Int) == 2) = false := beq_false_of_ne (by omega)
            have e2 : ((k : Int) != 2) = true := bne_iff_ne.2 (by omega)
            clear hk1
            have hst := pc_stored (.slice none 0 0) (.bool false) (.bool false) hx
            have hcc := (pc_cells hst).1
            have hbf : Below w.heap.size w _ := ((hbw.setCell (p := ⟨w.heap.size, 0, none⟩) (Nat.le_refl _) (.slice none 0 0)).setCell (p := ⟨w.heap.size, 1, none⟩) (Nat.le_refl _) (.bool false)).setCell (p := ⟨w.heap.size, 2, none⟩) (Nat.le_refl _) (.bool false)
            go_wp2_with (first | (go_at_call 53; (with_reducible refine (hbr _ (by assumption) _ _ k 93 (by omega) (by omega) (by omega) (by omega)).mono ?_); rintro e w' ⟨rfl, rfl⟩) | (go_at_call 53; (with_reducible refine (hbr _ (by assumption) _ _ k 45 (by omega) (by omega) (by omega) (by omega)).mono ?_); rintro e w' ⟨rfl, rfl⟩) | (go_at_call 53; (with_reducible refine (hbr _ (by assumption) _ _ (k + 1) 93 (by omega) (by omega) (by omega) (by omega)).mono ?_); rintro e w' ⟨rfl, rfl⟩))
            refine bodyPost_ret (v := .tuple #[.agg #[.slice none 0 0, .bool false, .bool false], .int .i64 0]) (by simp [results, Try.results54, go_sem, hcc]) rfl ?_
            rw [HN.out]
            exact ⟨.slice none 0 0, rfl, ⟨rfl, .inl ⟨rfl, rfl⟩⟩, hbf⟩
          have HC : Hid (¬ (bareAt S k 45 = true ∧ k ≠ setFirst S ∧ bareAt S (k + 1) 93 = false)) := by
            rintro ⟨c1, c2, c3⟩
            rw [HF.out] at c2
            rcases hcase with h | ⟨_, h⟩ | ⟨_, _, h⟩
            · rw [c1] at h; simp at h
            · exact c2 h
            · rw [c3] at h; simp at h
          by_cases hov : a2 < a1
          · have HN : Hid (setR S = (⟨[], false, false⟩, 0)) := setR_none HL (setL_over hlt b93 HC.out hp.symm hov)
            have hovi : (a2 : Int) < (a1 : Int) := by omega
            clear hp
            rcases hcase with b45 | ⟨b45, hk1⟩ | ⟨b45, hk1, b93'⟩
            · go_wp2_with (first | (go_at_call 53; (with_reducible refine (hbr _ (by assumption) _ _ k 93 (by omega) (by omega) (by omega) (by omega)).mono ?_); rintro e w' ⟨rfl, rfl⟩) | (go_at_call 53; (with_reducible refine (hbr _ (by assumption) _ _ k 45 (by omega) (by omega) (by omega) (by omega)).mono ?_); rintro e w' ⟨rfl, rfl⟩) | (go_at_call 53; (with_reducible refine (hbr _ (by assumption) _ _ (k + 1) 93 (by omega) (by omega) (by omega) (by omega)).mono ?_); rintro e w' ⟨rfl, rfl⟩) | (go_at_call 57; refine (hspk _ (by assumption) hlt).mono ?_; rintro e W2 ⟨rfl, b2⟩; have hX := own_later hx b2; have hS2 := own_later hown b2; have hsz := (hX.lt _ rfl).2; obtain ⟨⟨z0, z1, z2⟩, y0, y1, y2⟩ := pc_cells hX))
              have hst := (pc_stored (.slice none 0 0) (.bool false) (.bool false) hX).alloc (.cells #[.int .i32 a1, .int .i32 a2] 92)
              have hcc := (pc_cells hst).1
              have hbf : Below w.heap.size w _ := ((((hbw.trans (b2.mono hbw.size)).setCell (p := ⟨w.heap.size, 0, none⟩) (Nat.le_refl _) (.slice none 0 0)).setCell (p := ⟨w.heap.size, 1, none⟩) (Nat.le_refl _) (.bool false)).setCell (p := ⟨w.heap.size, 2, none⟩) (Nat.le_refl _) (.bool false)).alloc (by simp [World.setCell]; omega) (.cells #[.int .i32 a1, .int .i32 a2] 92)
              refine bodyPost_ret (v := .tuple #[.agg #[.slice none 0 0, .bool false, .bool false], .int .i64 0]) (by simp [results, Try.results54, go_sem, hcc]) rfl ?_
              rw [HN.out]
              exact ⟨.slice none 0 0, rfl, ⟨rfl, .inl ⟨rfl, rfl⟩⟩, hbf⟩
            · have e2 : ((k : Int) != 2) = false := by rw [hk1]; rfl
              clear hk1
              go_wp2_with (first | (go_at_call 53; (with_reducible refine (hbr _ (by assumption) _ _ k 93 (by omega) (by omega) (by omega) (by omega)).mono ?_); rintro e w' ⟨rfl, rfl⟩) | (go_at_call 53; (with_reducible refine (hbr _ (by assumption) _ _ k 45 (by omega) (by omega) (by omega) (by omega)).mono ?_); rintro e w' ⟨rfl, rfl⟩) | (go_at_call 53; (with_reducible refine (hbr _ (by assumption) _ _ (k + 1) 93 (by omega) (by omega) (by omega) (by omega)).mono ?_); rintro e w' ⟨rfl, rfl⟩) | (go_at_call 57; refine (hspk _ (by assumption) hlt).mono ?_; rintro e W2 ⟨rfl, b2⟩; have hX := own_later hx b2; have hS2 := own_later hown b2; have hsz := (hX.lt _ rfl).2; obtain ⟨⟨z0, z1, z2⟩, y0, y1, y2⟩ := pc_cells hX))
              have hst := (pc_stored (.slice none 0 0) (.bool false) (.bool false) hX).alloc (.cells #[.int .i32 a1, .int .i32 a2] 92)
              have hcc := (pc_cells hst).1
              have hbf : Below w.heap.size w _ := ((((hbw.trans (b2.mono hbw.size)).setCell (p := ⟨w.heap.size, 0, none⟩) (Nat.le_refl _) (.slice none 0 0)).setCell (p := ⟨w.heap.size, 1, none⟩) (Nat.le_refl _) (.bool false)).setCell (p := ⟨w.heap.size, 2, none⟩) (Nat.le_refl _) (.bool false)).alloc (by simp [World.setCell]; omega) (.cells #[.int .i32 a1, .int .i32 a2] 92)
              refine bodyPost_ret (v := .tuple #[.agg #[.slice none 0 0, .bool false, .bool false], .int .i64 0]) (by simp [results, Try.results54, go_sem, hcc]) rfl ?_
              rw [HN.out]
              exact ⟨.slice none 0 0, rfl, ⟨rfl, .inl ⟨rfl, rfl⟩⟩, hbf⟩
            · have e2 : ((k : Int) != 2) = true := bne_iff_ne.2 (by omega)
              clear hk1
              go_wp2_with (first | (go_at_call 53; (with_reducible refine (hbr _ (by assumption) _ _ k 93 (by omega) (by omega) (by omega) (by omega)).mono ?_); rintro e w' ⟨rfl, rfl⟩) | (go_at_call 53; (with_reducible refine (hbr _ (by assumption) _ _ k 45 (by omega) (by omega) (by omega) (by omega)).mono ?_); rintro e w' ⟨rfl, rfl⟩) | (go_at_call 53; (with_reducible refine (hbr _ (by assumption) _ _ (k + 1) 93 (by omega) (by omega) (by omega) (by omega)).mono ?_); rintro e w' ⟨rfl, rfl⟩) | (go_at_call 57; refine (hspk _ (by assumption) hlt).mono ?_; rintro e W2 ⟨rfl, b2⟩; have hX := own_later hx b2; have hS2 := own_later hown b2; have hsz := (hX.lt _ rfl).2; obtain ⟨⟨z0, z1, z2⟩, y0, y1, y2⟩ := pc_cells hX))
              have hst := (pc_stored (.slice none 0 0) (.bool false) (.bool false) hX).alloc (.cells #[.int .i32 a1, .int .i32 a2] 92)
              have hcc := (pc_cells hst).1
              have hbf : Below w.heap.size w _ := ((((hbw.trans (b2.mono hbw.size)).setCell (p := ⟨w.heap.size, 0, none⟩) (Nat.le_refl _) (.slice none 0 0)).setCell (p := ⟨w.heap.size, 1, none⟩) (Nat.le_refl _) (.bool false)).setCell (p := ⟨w.heap.size, 2, none⟩) (Nat.le_refl _) (.bool false)).alloc (by simp [World.setCell]; omega) (.cells #[.int .i32 a1, .int .i32 a2] 92)
              refine bodyPost_ret (v := .tuple #[.agg #[.slice none 0 0, .bool false, .bool false], .int .i64 0]) (by simp [results, Try.results54, go_sem, hcc]) rfl ?_
              rw [HN.out]
              exact ⟨.slice none 0 0, rfl, ⟨rfl, .inl ⟨rfl, rfl⟩⟩, hbf⟩
          · have HL2 : Hid (setL S.length S (setFirst S) (setFirst S) [] = setL f S (setFirst S) (k + wd) (acc ++ [(a1, a2)])) := HL.out.trans (setL_more hlt b93 HC.out hp.symm hov)
            have hovi : ¬ (a2 : Int) < (a1 : Int) := by omega
            have hw1 : 1 ≤ wd ∧ wd ≤ 3 := by omega
            clear hp hwd hov
            rcases hcase with b45 | ⟨b45, hk1⟩ | ⟨b45, hk1, b93'⟩
            · go_wp2_with (first | (go_at_call 53; (with_reducible refine (hbr _ (by assumption) _ _ k 93 (by omega) (by omega) (by omega) (by omega)).mono ?_); rintro e w' ⟨rfl, rfl⟩) | (go_at_call 53; (with_reducible refine (hbr _ (by assumption) _ _ k 45 (by omega) (by omega) (by omega) (by omega)).mono ?_); rintro e w' ⟨rfl, rfl⟩) | (go_at_call 53; (with_reducible refine (hbr _ (by assumption) _ _ (k + 1) 93 (by omega) (by omega) (by omega) (by omega)).mono ?_); rintro e w' ⟨rfl, rfl⟩) | (go_at_call 57; refine (hspk _ (by assumption) hlt).mono ?_; rintro e W2 ⟨rfl, b2⟩; have hX := own_later hx b2; have hS2 := own_later hown b2; have hsz := (hX.lt _ rfl).2; obtain ⟨⟨z0, z1, z2⟩, y0, y1, y2⟩ := pc_cells hX) | (at_builtin; refine wpList_append_own_at _ rfl _ _ 74 rfl (w.heap.size + 1) 92 i0 (.agg #[.int .i32 0, .int .i32 0]) 2 8 Try.underlying74 hi hz0 hz1 hz2 rfl (by decide) _ _ _ rfl ((hS2.alloc _).alloc _) _ _ _ (spC (a1, a2)) rfl rfl ?c21 ?c22 ?c23 ?c24 ?c25 ?_))
              case c21 => intro j u hj; exact new_row _ _ _ _ (by simp) j u hj
              case c22 => intro u hu; simp [spC] at hu; rcases hu with rfl | rfl <;> rfl
              case c23 => unfold maxLen; omega
              case c24 => omega
              case c25 => simp; omega
              intro v' w3 hown3 hgrow _ _
              have hx3 := ((hX.alloc _).alloc _).kept hgrow (.inr (fun e => by have := (hS2.lt w.heap.size e.symm).1; omega))
              have hb3 : Below w.heap.size w w3 := (((hbw.trans (b2.mono hbw.size)).alloc (by omega) _).alloc (by simp; omega) _).grown hgrow (by simp; omega) (fun k hk => by have := (hS2.lt k hk).1; omega)
              obtain ⟨a', c', hv⟩ := own_form hown3
              subst hv
              obtain ⟨⟨q0, q1, q2⟩, r0, r1, r2⟩ := pc_cells hx3
              have hne3 : (Value.slice a' (acc.length + 1) c').ownBlock = none ∨ (Value.slice a' (acc.length + 1) c').ownBlock ≠ some w.heap.size := by
                cases hv : (Value.slice a' (acc.length + 1) c').ownBlock with
                | none => exact Or.inl rfl
                | some b => right; intro e; have := (hown3.lt _ hv).1; simp at e; omega
              have hown4 := hown3.kept (hx3.stored 0 (.slice a' (acc.length + 1) c')).2 hne3
              clear hgrow
              go_wp2
              go_roundw
              case rel =>
                refine ⟨k + wd, f, acc ++ [(a1, a2)], .slice a' (acc.length + 1) c', by go_num, by omega, by omega, by simp; omega, by omega, HL2, (hx3.stored 0 _).1, ?_, hb3.setCell (Nat.le_refl _) _⟩
                rw [rowOf_append, rowOf_one, List.length_append]
                exact hown4
              case measure => simp [intOf]; omega
            · have e2 : ((k : Int) != 2) = false := by rw [hk1]; rfl
              clear hk1
              go_wp2_with (first | (go_at_call 53; (with_reducible refine (hbr _ (by assumption) _ _ k 93 (by omega) (by omega) (by omega) (by omega)).mono ?_); rintro e w' ⟨rfl, rfl⟩) | (go_at_call 53; (with_reducible refine (hbr _ (by assumption) _ _ k 45 (by omega) (by omega) (by omega) (by omega)).mono ?_); rintro e w' ⟨rfl, rfl⟩) | (go_at_call 53; (with_reducible refine (hbr _ (by assumption) _ _ (k + 1) 93 (by omega) (by omega) (by omega) (by omega)).mono ?_); rintro e w' ⟨rfl, rfl⟩) | (go_at_call 57; refine (hspk _ (by assumption) hlt).mono ?_; rintro e W2 ⟨rfl, b2⟩; have hX := own_later hx b2; have hS2 := own_later hown b2; have hsz := (hX.lt _ rfl).2; obtain ⟨⟨z0, z1, z2⟩, y0, y1, y2⟩ := pc_cells hX) | (at_builtin; refine wpList_append_own_at _ rfl _ _ 74 rfl (w.heap.size + 1) 92 i0 (.agg #[.int .i32 0, .int .i32 0]) 2 8 Try.underlying74 hi hz0 hz1 hz2 rfl (by decide) _ _ _ rfl ((hS2.alloc _).alloc _) _ _ _ (spC (a1, a2)) rfl rfl ?d21 ?d22 ?d23 ?d24 ?d25 ?_))
              case d21 => intro j u hj; exact new_row _ _ _ _ (by simp) j u hj
              case d22 => intro u hu; simp [spC] at hu; rcases hu with rfl | rfl <;> rfl
              case d23 => unfold maxLen; omega
              case d24 => omega
              case d25 => simp; omega
              intro v' w3 hown3 hgrow _ _
              have hx3 := ((hX.alloc _).alloc _).kept hgrow (.inr (fun e => by have := (hS2.lt w.heap.size e.symm).1; omega))
              have hb3 : Below w.heap.size w w3 := (((hbw.trans (b2.mono hbw.size)).alloc (by omega) _).alloc (by simp; omega) _).grown hgrow (by simp; omega) (fun k hk => by have := (hS2.lt k hk).1; omega)
              obtain ⟨a', c', hv⟩ := own_form hown3
              subst hv
              obtain ⟨⟨q0, q1, q2⟩, r0, r1, r2⟩ := pc_cells hx3
              have hne3 : (Value.slice a' (acc.length + 1) c').ownBlock = none ∨ (Value.slice a' (acc.length + 1) c').ownBlock ≠ some w.heap.size := by
                cases hv : (Value.slice a' (acc.length + 1) c').ownBlock with
                | none => exact Or.inl rfl
                | some b => right; intro e; have := (hown3.lt _ hv).1; simp at e; omega
              have hown4 := hown3.kept (hx3.stored 0 (.slice a' (acc.length + 1) c')).2 hne3
              clear hgrow
              go_wp2
              go_roundw
              case rel =>
                refine ⟨k + wd, f, acc ++ [(a1, a2)], .slice a' (acc.length + 1) c', by go_num, by omega, by omega, by simp; omega, by omega, HL2, (hx3.stored 0 _).1, ?_, hb3.setCell (Nat.le_refl _) _⟩
                rw [rowOf_append, rowOf_one, List.length_append]
                exact hown4
              case measure => simp [intOf]; omega
            · have e2 : ((k : Int) != 2) = true := bne_iff_ne.2 (by omega)
              clear hk1
              go_wp2_with (first | (go_at_call 53; (with_reducible refine (hbr _ (by assumption) _ _ k 93 (by omega) (by omega) (by omega) (by omega)).mono ?_); rintro e w' ⟨rfl, rfl⟩) | (go_at_call 53; (with_reducible refine (hbr _ (by assumption) _ _ k 45 (by omega) (by omega) (by omega) (by omega)).mono ?_); rintro e w' ⟨rfl, rfl⟩) | (go_at_call 53; (with_reducible refine (hbr _ (by assumption) _ _ (k + 1) 93 (by omega) (by omega) (by omega) (by omega)).mono ?_); rintro e w' ⟨rfl, rfl⟩) | (go_at_call 57; refine (hspk _ (by assumption) hlt).mono ?_; rintro e W2 ⟨rfl, b2⟩; have hX := own_later hx b2; have hS2 := own_later hown b2; have hsz := (hX.lt _ rfl).2; obtain ⟨⟨z0, z1, z2⟩, y0, y1, y2⟩ := pc_cells hX) | (at_builtin; refine wpList_append_own_at _ rfl _ _ 74 rfl (w.heap.size + 1) 92 i0 (.agg #[.int .i32 0, .int .i32 0]) 2 8 Try.underlying74 hi hz0 hz1 hz2 rfl (by decide) _ _ _ rfl ((hS2.alloc _).alloc _) _ _ _ (spC (a1, a2)) rfl rfl ?e21 ?e22 ?e23 ?e24 ?e25 ?_))
              case e21 => intro j u hj; exact new_row _ _ _ _ (by simp) j u hj
              case e22 => intro u hu; simp [spC] at hu; rcases hu with rfl | rfl <;> rfl
              case e23 => unfold maxLen; omega
              case e24 => omega
              case e25 => simp; omega
              intro v' w3 hown3 hgrow _ _
              have hx3 := ((hX.alloc _).alloc _).kept hgrow (.inr (fun e => by have := (hS2.lt w.heap.size e.symm).1; omega))
              have hb3 : Below w.heap.size w w3 := (((hbw.trans (b2.mono hbw.size)).alloc (by omega) _).alloc (by simp; omega) _).grown hgrow (by simp; omega) (fun k hk => by have := (hS2.lt k hk).1; omega)
              obtain ⟨a', c', hv⟩ := own_form hown3
              subst hv
              obtain ⟨⟨q0, q1, q2⟩, r0, r1, r2⟩ := pc_cells hx3
              have hne3 : (Value.slice a' (acc.length + 1) c').ownBlock = none ∨ (Value.slice a' (acc.length + 1) c').ownBlock ≠ some w.heap.size := by
                cases hv : (Value.slice a' (acc.length + 1) c').ownBlock with
                | none => exact Or.inl rfl
                | some b => right; intro e; have := (hown3.lt _ hv).1; simp at e; omega
              have hown4 := hown3.kept (hx3.stored 0 (.slice a' (acc.length + 1) c')).2 hne3
              clear hgrow
              go_wp2
              go_roundw
              case rel =>
                refine ⟨k + wd, f, acc ++ [(a1, a2)], .slice a' (acc.length + 1) c', by go_num, by omega, by omega, by simp; omega, by omega, HL2, (hx3.stored 0 _).1, ?_, hb3.setCell (Nat.le_refl _) _⟩
                rw [rowOf_append, rowOf_one, List.length_append]
                exact hown4
              case measure => simp [intOf]; omega
      · have HN : Hid (setR S = (⟨[], false, false⟩, 0)) := setR_none HL (setL_past hlt)
        have hlti : ¬ (k : Int) < (S.length : Int) := by omega
        have hst := pc_stored (.slice none 0 0) (.bool false) (.bool false) hx
        have hcc := (pc_cells hst).1
        have hbf : Below w.heap.size w _ := ((hbw.setCell (p := ⟨w.heap.size, 0, none⟩) (Nat.le_refl _) (.slice none 0 0)).setCell (p := ⟨w.heap.size, 1, none⟩) (Nat.le_refl _) (.bool false)).setCell (p := ⟨w.heap.size, 2, none⟩) (Nat.le_refl _) (.bool false)
        go_wp2_with (first | (go_at_call 53; (with_reducible refine (hbr _ (by assumption) _ _ k 93 (by omega) (by omega) (by omega) (by omega)).mono ?_); rintro e w' ⟨rfl, rfl⟩) | (go_at_call 53; (with_reducible refine (hbr _ (by assumption) _ _ k 45 (by omega) (by omega) (by omega) (by omega)).mono ?_); rintro e w' ⟨rfl, rfl⟩) | (go_at_call 53; (with_reducible refine (hbr _ (by assumption) _ _ (k + 1) 93 (by omega) (by omega) (by omega) (by omega)).mono ?_); rintro e w' ⟨rfl, rfl⟩))
        refine bodyPost_ret (v := .tuple #[.agg #[.slice none 0 0, .bool false, .bool false], .int .i64 0]) (by simp [results, Try.results54, go_sem, hcc]) rfl ?_
        rw [HN.out]
        exact ⟨.slice none 0 0, rfl, ⟨rfl, .inl ⟨rfl, rfl⟩⟩, hbf⟩
  | false =>
    have HF : Hid (setFirst S = 1) := by show _ = _; unfold setFirst; rw [if_neg (by simp [b1])]
    clear hc
    go_enter Try.func54, Try.ntmps54
    go_wp2_with (go_at_call 53; (with_reducible refine (hbr _ (hbA _) _ _ 1 94 (by omega) (by omega) (by omega) (by omega)).mono ?_); rintro e w' ⟨rfl, rfl⟩)
    go_loopw [4] (fun i wr => SetRel S w false i wr) (fun i _ => S.length + 3 - (intOf i).toNat)
    case atStart =>
      refine ⟨1, S.length, [], .slice none 0 0, rfl, by omega, by omega, by simp, by rw [HF.out]; omega, ?_, World.ownsRow_lit w #[.slice none 0 0, .bool false, .bool false] 1 (Nat.le_refl _) (by unfold maxLen; omega) rfl, ⟨rfl, .inl ⟨rfl, rfl⟩⟩, hbA _⟩
      show _ = _
      rw [HF.out]
    case round =>
      obtain ⟨k, f, acc, sv, rfl, hkf, hk3, hal, hfk, HL, hx, hown, hbw⟩ := hrel
      obtain ⟨sa, sc, hsv⟩ := own_form hown
      subst hsv
      have hxs := (hx.lt _ rfl).2
      obtain ⟨⟨hx0, hx1, hx2⟩, hy0, hy1, hy2⟩ := pc_cells hx
      by_cases hlt : k < S.length
      · obtain ⟨f, rfl⟩ : ∃ g, f = g + 1 := ⟨f - 1, by omega⟩
        have hlti : (k : Int) < (S.length : Int) := by omega
        cases b93 : bareAt S k 93 with
        | true =>
          by_cases hk1 : k = 1
          · have HN : Hid (setR S = (⟨[], false, false⟩, 0)) := setR_none HL (setL_empty hlt b93 (by rw [HF.out]; exact hk1))
            have e1 : ((k : Int) == 1) = true := by rw [hk1]; rfl
            clear hk1
            have hst := pc_stored (.slice none 0 0) (.bool false) (.bool false) hx
            have hcc := (pc_cells hst).1
            have hbf : Below w.heap.size w _ := ((hbw.setCell (p := ⟨w.heap.size, 0, none⟩) (Nat.le_refl _) (.slice none 0 0)).setCell (p := ⟨w.heap.size, 1, none⟩) (Nat.le_refl _) (.bool false)).setCell (p := ⟨w.heap.size, 2, none⟩) (Nat.le_refl _) (.bool false)
            go_wp2_with (first | (go_at_call 53; (with_reducible refine (hbr _ (by assumption) _ _ k 93 (by omega) (by omega) (by omega) (by omega)).mono ?_); rintro e w' ⟨rfl, rfl⟩) | (go_at_call 53; (with_reducible refine (hbr _ (by assumption) _ _ k 45 (by omega) (by omega) (by omega) (by omega)).mono ?_); rintro e w' ⟨rfl, rfl⟩) | (go_at_call 53; (with_reducible refine (hbr _ (by assumption) _ _ (k + 1) 93 (by omega) (by omega) (by omega) (by omega)).mono ?_); rintro e w' ⟨rfl, rfl⟩))
            refine bodyPost_ret (v := .tuple #[.agg #[.slice none 0 0, .bool false, .bool false], .int .i64 0]) (by simp [results, Try.results54, go_sem, hcc]) rfl ?_
            rw [HN.out]
            exact ⟨.slice none 0 0, rfl, ⟨rfl, .inl ⟨rfl, rfl⟩⟩, hbf⟩
          · have HN : Hid (setR S = (⟨acc, bareAt S 1 94, false⟩, k + 1)) := setR_some HL (setL_close hlt b93 (by rw [HF.out]; exact hk1))
            have e1 : ((k : Int) == 1) = false := beq_false_of_ne (by omega)
            clear hk1
            have hst := pc_stored (.slice sa acc.length sc) (.bool false) (.bool false) hx
            have hcc := (pc_cells hst).1
            have hos : (((wr.setCell ⟨w.heap.size, 0, none⟩ (.slice sa acc.length sc)).setCell ⟨w.heap.size, 1, none⟩ (.bool false)).setCell ⟨w.heap.size, 2, none⟩ (.bool false)).ownsRow (w.heap.size + 1) 92 2 (.slice sa acc.length sc) acc.length (rowOf spC acc) := sp_kept hx hown _ _ _
            have hbf : Below w.heap.size w _ := ((hbw.setCell (p := ⟨w.heap.size, 0, none⟩) (Nat.le_refl _) (.slice sa acc.length sc)).setCell (p := ⟨w.heap.size, 1, none⟩) (Nat.le_refl _) (.bool false)).setCell (p := ⟨w.heap.size, 2, none⟩) (Nat.le_refl _) (.bool false)
            go_wp2_with (go_at_call 53; (with_reducible refine (hbr _ (by assumption) _ _ k 93 (by omega) (by omega) (by omega) (by omega)).mono ?_); rintro e w' ⟨rfl, rfl⟩)
            refine bodyPost_ret (v := .tuple #[.agg #[.slice sa acc.length sc, .bool false, .bool false], .int .i64 ((k : Int) + 1)]) (by simp [results, Try.results54, go_sem, hcc]) rfl ?_
            rw [HN.out, b1]
            exact ⟨.slice sa acc.length sc, rfl, own_base hos (by omega), hbf⟩
        | false =>
          obtain ⟨⟨⟨a1, a2⟩, wd⟩, hp⟩ : ∃ p, p = spanF S k := ⟨_, rfl⟩
          have hwd := spanF_w S k
          rw [← hp] at hwd
          simp only at hwd
          have hspk : ∀ (wx : World), Below w.heap.size w wx → k < S.length → Calls Try.prog 57 #[.slice a S.length cap, .int .i64 k] wx fun e w' => e = .returned (.tuple #[.agg #[.int .i32 a1, .int .i32 a2], .int .i64 wd]) ∧ Below wx.heap.size wx w' := fun wx hb hk => by
            have := hsp wx hb k hk; rw [← hp] at this; exact this
          have hcase : (bareAt S k 45 = true ∧ ¬ k = 1 ∧ bareAt S (k + 1) 93 = false) ∨ bareAt S k 45 = false ∨ (bareAt S k 45 = true ∧ k = 1) ∨ (bareAt S k 45 = true ∧ ¬ k = 1 ∧ bareAt S (k + 1) 93 = true) := by
            cases bareAt S k 45 <;> cases bareAt S (k + 1) 93 <;> by_cases h : k = 1 <;> simp [h]
          rcases hcase with ⟨b45, hk1, b93'⟩ | hcase
          · have HN : Hid (setR S = (⟨[], false, false⟩, 0)) := setR_none HL (setL_dash hlt b93 b45 (by rw [HF.out]; exact hk1) b93')
            have e1 : ((k : Int) == 1) = false := beq_false_of_ne (by omega)
            have e2 : ((k : Int) != 1) = true := bne_iff_ne.2 (by omega)
            clear hk1
            have hst := pc_stored (.slice none 0 0) (.bool false) (.bool false) hx
            have hcc := (pc_cells hst).1
            have hbf : Below w.heap.size w _ := ((hbw.setCell (p := ⟨w.heap.size, 0, none⟩) (Nat.le_refl _) (.slice none 0 0)).setCell (p := ⟨w.heap.size, 1, none⟩) (Nat.le_refl _) (.bool false)).setCell (p := ⟨w.heap.size, 2, none⟩) (Nat.le_refl _) (.bool false)
            go_wp2_with (first | (go_at_call 53; (with_reducible refine (hbr _ (by assumption) _ _ k 93 (by omega) (by omega) (by omega) (by omega)).mono ?_); rintro e w' ⟨rfl, rfl⟩) | (go_at_call 53; (with_reducible refine (hbr _ (by assumption) _ _ k 45 (by omega) (by omega) (by omega) (by omega)).mono ?_); rintro e w' ⟨rfl, rfl⟩) | (go_at_call 53; (with_reducible refine (hbr _ (by assumption) _ _ (k + 1) 93 (by omega) (by omega) (by omega) (by omega)).mono ?_); rintro e w' ⟨rfl, rfl⟩))
            refine bodyPost_ret (v := .tuple #[.agg #[.slice none 0 0, .bool false, .bool false], .int .i64 0]) (by simp [results, Try.results54, go_sem, hcc]) rfl ?_
            rw [HN.out]
            exact ⟨.slice none 0 0, rfl, ⟨rfl, .inl ⟨rfl, rfl⟩⟩, hbf⟩
          have HC : Hid (¬ (bareAt S k 45 = true ∧ k ≠ setFirst S ∧ bareAt S (k + 1) 93 = false)) := by
            rintro ⟨c1, c2, c3⟩
            rw [HF.out] at c2
            rcases hcase with h | ⟨_, h⟩ | ⟨_, _, h⟩
            · rw [c1] at h; simp at h
            · exact c2 h
            · rw [c3] at h; simp at h
          by_cases hov : a2 < a1
          · have HN : Hid (setR S = (⟨[], false, false⟩, 0)) := setR_none HL (setL_over hlt b93 HC.out hp.symm hov)
            have hovi : (a2 : Int) < (a1 : Int) := by omega
            clear hp
            rcases hcase with b45 | ⟨b45, hk1⟩ | ⟨b45, hk1, b93'⟩
            · go_wp2_with (first | (go_at_call 53; (with_reducible refine (hbr _ (by assumption) _ _ k 93 (by omega) (by omega) (by omega) (by omega)).mono ?_); rintro e w' ⟨rfl, rfl⟩) | (go_at_call 53; (with_reducible refine (hbr _ (by assumption) _ _ k 45 (by omega) (by omega) (by omega) (by omega)).mono ?_); rintro e w' ⟨rfl, rfl⟩) | (go_at_call 53; (with_reducible refine (hbr _ (by assumption) _ _ (k + 1) 93 (by omega) (by omega) (by omega) (by omega)).mono ?_); rintro e w' ⟨rfl, rfl⟩) | (go_at_call 57; refine (hspk _ (by assumption) hlt).mono ?_; rintro e W2 ⟨rfl, b2⟩; have hX := own_later hx b2; have hS2 := own_later hown b2; have hsz := (hX.lt _ rfl).2; obtain ⟨⟨z0, z1, z2⟩, y0, y1, y2⟩ := pc_cells hX))
              have hst := (pc_stored (.slice none 0 0) (.bool false) (.bool false) hX).alloc (.cells #[.int .i32 a1, .int .i32 a2] 92)
              have hcc := (pc_cells hst).1
              have hbf : Below w.heap.size w _ := ((((hbw.trans (b2.mono hbw.size)).setCell (p := ⟨w.heap.size, 0, none⟩) (Nat.le_refl _) (.slice none 0 0)).setCell (p := ⟨w.heap.size, 1, none⟩) (Nat.le_refl _) (.bool false)).setCell (p := ⟨w.heap.size, 2, none⟩) (Nat.le_refl _) (.bool false)).alloc (by simp [World.setCell]; omega) (.cells #[.int .i32 a1, .int .i32 a2] 92)
              refine bodyPost_ret (v := .tuple #[.agg #[.slice none 0 0, .bool false, .bool false], .int .i64 0]) (by simp [results, Try.results54, go_sem, hcc]) rfl ?_
              rw [HN.out]
              exact ⟨.slice none 0 0, rfl, ⟨rfl, .inl ⟨rfl, rfl⟩⟩, hbf⟩
            · have e2 : ((k : Int) != 1) = false := by rw [hk1]; rfl
              clear hk1
              go_wp2_with (first | (go_at_call 53; (with_reducible refine (hbr _ (by assumption) _ _ k 93 (by omega) (by omega) (by omega) (by omega)).mono ?_); rintro e w' ⟨rfl, rfl⟩) | (go_at_call 53; (with_reducible refine (hbr _ (by assumption) _ _ k 45 (by omega) (by omega) (by omega) (by omega)).mono ?_); rintro e w' ⟨rfl, rfl⟩) | (go_at_call 53; (with_reducible refine (hbr _ (by assumption) _ _ (k + 1) 93 (by omega) (by omega) (by omega) (by omega)).mono ?_); rintro e w' ⟨rfl, rfl⟩) | (go_at_call 57; refine (hspk _ (by assumption) hlt).mono ?_; rintro e W2 ⟨rfl, b2⟩; have hX := own_later hx b2; have hS2 := own_later hown b2; have hsz := (hX.lt _ rfl).2; obtain ⟨⟨z0, z1, z2⟩, y0, y1, y2⟩ := pc_cells hX))
              have hst := (pc_stored (.slice none 0 0) (.bool false) (.bool false) hX).alloc (.cells #[.int .i32 a1, .int .i32 a2] 92)
              have hcc := (pc_cells hst).1
              have hbf : Below w.heap.size w _ := ((((hbw.trans (b2.mono hbw.size)).setCell (p := ⟨w.heap.size, 0, none⟩) (Nat.le_refl _) (.slice none 0 0)).setCell (p := ⟨w.heap.size, 1, none⟩) (Nat.le_refl _) (.bool false)).setCell (p := ⟨w.heap.size, 2, none⟩) (Nat.le_refl _) (.bool false)).alloc (by simp [World.setCell]; omega) (.cells #[.int .i32 a1, .int .i32 a2] 92)
              refine bodyPost_ret (v := .tuple #[.agg #[.slice none 0 0, .bool false, .bool false], .int .i64 0]) (by simp [results, Try.results54, go_sem, hcc]) rfl ?_
              rw [HN.out]
              exact ⟨.slice none 0 0, rfl, ⟨rfl, .inl ⟨rfl, rfl⟩⟩, hbf⟩
            · have e2 : ((k : Int) != 1) = true := bne_iff_ne.2 (by omega)
              clear hk1
              go_wp2_with (first | (go_at_call 53; (with_reducible refine (hbr _ (by assumption) _ _ k 93 (by omega) (by omega) (by omega) (by omega)).mono ?_); rintro e w' ⟨rfl, rfl⟩) | (go_at_call 53; (with_reducible refine (hbr _ (by assumption) _ _ k 45 (by omega) (by omega) (by omega) (by omega)).mono ?_); rintro e w' ⟨rfl, rfl⟩) | (go_at_call 53; (with_reducible refine (hbr _ (by assumption) _ _ (k + 1) 93 (by omega) (by omega) (by omega) (by omega)).mono ?_); rintro e w' ⟨rfl, rfl⟩) | (go_at_call 57; refine (hspk _ (by assumption) hlt).mono ?_; rintro e W2 ⟨rfl, b2⟩; have hX := own_later hx b2; have hS2 := own_later hown b2; have hsz := (hX.lt _ rfl).2; obtain ⟨⟨z0, z1, z2⟩, y0, y1, y2⟩ := pc_cells hX))
              have hst := (pc_stored (.slice none 0 0) (.bool false) (.bool false) hX).alloc (.cells #[.int .i32 a1, .int .i32 a2] 92)
              have hcc := (pc_cells hst).1
              have hbf : Below w.heap.size w _ := ((((hbw.trans (b2.mono hbw.size)).setCell (p := ⟨w.heap.size, 0, none⟩) (Nat.le_refl _) (.slice none 0 0)).setCell (p := ⟨w.heap.size, 1, none⟩) (Nat.le_refl _) (.bool false)).setCell (p := ⟨w.heap.size, 2, none⟩) (Nat.le_refl _) (.bool false)).alloc (by simp [World.setCell]; omega) (.cells #[.int .i32 a1, .int .i32 a2] 92)
              refine bodyPost_ret (v := .tuple #[.agg #[.slice none 0 0, .bool false, .bool false], .int .i64 0]) (by simp [results, Try.results54, go_sem, hcc]) rfl ?_
              rw [HN.out]
              exact ⟨.slice none 0 0, rfl, ⟨rfl, .inl ⟨rfl, rfl⟩⟩, hbf⟩
          · have HL2 : Hid (setL S.length S (setFirst S) (setFirst S) [] = setL f S (setFirst S) (k + wd) (acc ++ [(a1, a2)])) := HL.out.trans (setL_more hlt b93 HC.out hp.symm hov)
            have hovi : ¬ (a2 : Int) < (a1 : Int) := by omega
            have hw1 : 1 ≤ wd ∧ wd ≤ 3 := by omega
            clear hp hwd hov
            rcases hcase with b45 | ⟨b45, hk1⟩ | ⟨b45, hk1, b93'⟩
            · go_wp2_with (first | (go_at_call 53; (with_reducible refine (hbr _ (by assumption) _ _ k 93 (by omega) (by omega) (by omega) (by omega)).mono ?_); rintro e w' ⟨rfl, rfl⟩) | (go_at_call 53; (with_reducible refine (hbr _ (by assumption) _ _ k 45 (by omega) (by omega) (by omega) (by omega)).mono ?_); rintro e w' ⟨rfl, rfl⟩) | (go_at_call 53; (with_reducible refine (hbr _ (by assumption) _ _ (k + 1) 93 (by omega) (by omega) (by omega) (by omega)).mono ?_); rintro e w' ⟨rfl, rfl⟩) | (go_at_call 57; refine (hspk _ (by assumption) hlt).mono ?_; rintro e W2 ⟨rfl, b2⟩; have hX := own_later hx b2; have hS2 := own_later hown b2; have hsz := (hX.lt _ rfl).2; obtain ⟨⟨z0, z1, z2⟩, y0, y1, y2⟩ := pc_cells hX) | (at_builtin; refine wpList_append_own_at _ rfl _ _ 74 rfl (w.heap.size + 1) 92 i0 (.agg #[.int .i32 0, .int .i32 0]) 2 8 Try.underlying74 hi hz0 hz1 hz2 rfl (by decide) _ _ _ rfl ((hS2.alloc _).alloc _) _ _ _ (spC (a1, a2)) rfl rfl ?c11 ?c12 ?c13 ?c14 ?c15 ?_))
              case c11 => intro j u hj; exact new_row _ _ _ _ (by simp) j u hj
              case c12 => intro u hu; simp [spC] at hu; rcases hu with rfl | rfl <;> rfl
              case c13 => unfold maxLen; omega
              case c14 => omega
              case c15 => simp; omega
              intro v' w3 hown3 hgrow _ _
              have hx3 := ((hX.alloc _).alloc _).kept hgrow (.inr (fun e => by have := (hS2.lt w.heap.size e.symm).1; omega))
              have hb3 : Below w.heap.size w w3 := (((hbw.trans (b2.mono hbw.size)).alloc (by omega) _).alloc (by simp; omega) _).grown hgrow (by simp; omega) (fun k hk => by have := (hS2.lt k hk).1; omega)
              obtain ⟨a', c', hv⟩ := own_form hown3
              subst hv
              obtain ⟨⟨q0, q1, q2⟩, r0, r1, r2⟩ := pc_cells hx3
              have hne3 : (Value.slice a' (acc.length + 1) c').ownBlock = none ∨ (Value.slice a' (acc.length + 1) c').ownBlock ≠ some w.heap.size := by
                cases hv : (Value.slice a' (acc.length + 1) c').ownBlock with
                | none => exact Or.inl rfl
                | some b => right; intro e; have := (hown3.lt _ hv).1; simp at e; omega
              have hown4 := hown3.kept (hx3.stored 0 (.slice a' (acc.length + 1) c')).2 hne3
              clear hgrow
              go_wp2
              go_roundw
              case rel =>
                refine ⟨k + wd, f, acc ++ [(a1, a2)], .slice a' (acc.length + 1) c', by go_num, by omega, by omega, by simp; omega, by omega, HL2, (hx3.stored 0 _).1, ?_, hb3.setCell (Nat.le_refl _) _⟩
                rw [rowOf_append, rowOf_one, List.length_append]
                exact hown4
              case measure => simp [intOf]; omega
            · have e2 : ((k : Int) != 1) = false := by rw [hk1]; rfl
              clear hk1
              go_wp2_with (first | (go_at_call 53; (with_reducible refine (hbr _ (by assumption) _ _ k 93 (by omega) (by omega) (by omega) (by omega)).mono ?_); rintro e w' ⟨rfl, rfl⟩) | (go_at_call 53; (with_reducible refine (hbr _ (by assumption) _ _ k 45 (by omega) (by omega) (by omega) (by omega)).mono ?_); rintro e w' ⟨rfl, rfl⟩) | (go_at_call 53; (with_reducible refine (hbr _ (by assumption) _ _ (k + 1) 93 (by omega) (by omega) (by omega) (by omega)).mono ?_); rintro e w' ⟨rfl, rfl⟩) | (go_at_call 57; refine (hspk _ (by assumption) hlt).mono ?_; rintro e W2 ⟨rfl, b2⟩; have hX := own_later hx b2; have hS2 := own_later hown b2; have hsz := (hX.lt _ rfl).2; obtain ⟨⟨z0, z1, z2⟩, y0, y1, y2⟩ := pc_cells hX) | (at_builtin; refine wpList_append_own_at _ rfl _ _ 74 rfl (w.heap.size + 1) 92 i0 (.agg #[.int .i32 0, .int .i32 0]) 2 8 Try.underlying74 hi hz0 hz1 hz2 rfl (by decide) _ _ _ rfl ((hS2.alloc _).alloc _) _ _ _ (spC (a1, a2)) rfl rfl ?d11 ?d12 ?d13 ?d14 ?d15 ?_))
              case d11 => intro j u hj; exact new_row _ _ _ _ (by simp) j u hj
              case d12 => intro u hu; simp [spC] at hu; rcases hu with rfl | rfl <;> rfl
              case d13 => unfold maxLen; omega
              case d14 => omega
              case d15 => simp; omega
              intro v' w3 hown3 hgrow _ _
              have hx3 := ((hX.alloc _).alloc _).kept hgrow (.inr (fun e => by have := (hS2.lt w.heap.size e.symm).1; omega))
              have hb3 : Below w.heap.size w w3 := (((hbw.trans (b2.mono hbw.size)).alloc (by omega) _).alloc (by simp; omega) _).grown hgrow (by simp; omega) (fun k hk => by have := (hS2.lt k hk).1; omega)
              obtain ⟨a', c', hv⟩ := own_form hown3
              subst hv
              obtain ⟨⟨q0, q1, q2⟩, r0, r1, r2⟩ := pc_cells hx3
              have hne3 : (Value.slice a' (acc.length + 1) c').ownBlock = none ∨ (Value.slice a' (acc.length + 1) c').ownBlock ≠ some w.heap.size := by
                cases hv : (Value.slice a' (acc.length + 1) c').ownBlock with
                | none => exact Or.inl rfl
                | some b => right; intro e; have := (hown3.lt _ hv).1; simp at e; omega
              have hown4 := hown3.kept (hx3.stored 0 (.slice a' (acc.length + 1) c')).2 hne3
              clear hgrow
              go_wp2
              go_roundw
              case rel =>
                refine ⟨k + wd, f, acc ++ [(a1, a2)], .slice a' (acc.length + 1) c', by go_num, by omega, by omega, by simp; omega, by omega, HL2, (hx3.stored 0 _).1, ?_, hb3.setCell (Nat.le_refl _) _⟩
                rw [rowOf_append, rowOf_one, List.length_append]
                exact hown4
              case measure => simp [intOf]; omega
            · have e2 : ((k : Int) != 1) = true := bne_iff_ne.2 (by omega)
              clear hk1
              go_wp2_with (first | (go_at_call 53; (with_reducible refine (hbr _ (by assumption) _ _ k 93 (by omega) (by omega) (by omega) (by omega)).mono ?_); rintro e w' ⟨rfl, rfl⟩) | (go_at_call 53; (with_reducible refine (hbr _ (by assumption) _ _ k 45 (by omega) (by omega) (by omega) (by omega)).mono ?_); rintro e w' ⟨rfl, rfl⟩) | (go_at_call 53; (with_reducible refine (hbr _ (by assumption) _ _ (k + 1) 93 (by omega) (by omega) (by omega) (by omega)).mono ?_); rintro e w' ⟨rfl, rfl⟩) | (go_at_call 57; refine (hspk _ (by assumption) hlt).mono ?_; rintro e W2 ⟨rfl, b2⟩; have hX := own_later hx b2; have hS2 := own_later hown b2; have hsz := (hX.lt _ rfl).2; obtain ⟨⟨z0, z1, z2⟩, y0, y1, y2⟩ := pc_cells hX) | (at_builtin; refine wpList_append_own_at _ rfl _ _ 74 rfl (w.heap.size + 1) 92 i0 (.agg #[.int .i32 0, .int .i32 0]) 2 8 Try.underlying74 hi hz0 hz1 hz2 rfl (by decide) _ _ _ rfl ((hS2.alloc _).alloc _) _ _ _ (spC (a1, a2)) rfl rfl ?e11 ?e12 ?e13 ?e14 ?e15 ?_))
              case e11 => intro j u hj; exact new_row _ _ _ _ (by simp) j u hj
              case e12 => intro u hu; simp [spC] at hu; rcases hu with rfl | rfl <;> rfl
              case e13 => unfold maxLen; omega
              case e14 => omega
              case e15 => simp; omega
              intro v' w3 hown3 hgrow _ _
              have hx3 := ((hX.alloc _).alloc _).kept hgrow (.inr (fun e => by have := (hS2.lt w.heap.size e.symm).1; omega))
              have hb3 : Below w.heap.size w w3 := (((hbw.trans (b2.mono hbw.size)).alloc (by omega) _).alloc (by simp; omega) _).grown hgrow (by simp; omega) (fun k hk => by have := (hS2.lt k hk).1; omega)
              obtain ⟨a', c', hv⟩ := own_form hown3
              subst hv
              obtain ⟨⟨q0, q1, q2⟩, r0, r1, r2⟩ := pc_cells hx3
              have hne3 : (Value.slice a' (acc.length + 1) c').ownBlock = none ∨ (Value.slice a' (acc.length + 1) c').ownBlock ≠ some w.heap.size := by
                cases hv : (Value.slice a' (acc.length + 1) c').ownBlock with
                | none => exact Or.inl rfl
                | some b => right; intro e; have := (hown3.lt _ hv).1; simp at e; omega
              have hown4 := hown3.kept (hx3.stored 0 (.slice a' (acc.length + 1) c')).2 hne3
              clear hgrow
              go_wp2
              go_roundw
              case rel =>
                refine ⟨k + wd, f, acc ++ [(a1, a2)], .slice a' (acc.length + 1) c', by go_num, by omega, by omega, by simp; omega, by omega, HL2, (hx3.stored 0 _).1, ?_, hb3.setCell (Nat.le_refl _) _⟩
                rw [rowOf_append, rowOf_one, List.length_append]
                exact hown4
              case measure => simp [intOf]; omega
      · have HN : Hid (setR S = (⟨[], false, false⟩, 0)) := setR_none HL (setL_past hlt)
        have hlti : ¬ (k : Int) < (S.length : Int) := by omega
        have hst := pc_stored (.slice none 0 0) (.bool false) (.bool false) hx
        have hcc := (pc_cells hst).1
        have hbf : Below w.heap.size w _ := ((hbw.setCell (p := ⟨w.heap.size, 0, none⟩) (Nat.le_refl _) (.slice none 0 0)).setCell (p := ⟨w.heap.size, 1, none⟩) (Nat.le_refl _) (.bool false)).setCell (p := ⟨w.heap.size, 2, none⟩) (Nat.le_refl _) (.bool false)
        go_wp2_with (first | (go_at_call 53; (with_reducible refine (hbr _ (by assumption) _ _ k 93 (by omega) (by omega) (by omega) (by omega)).mono ?_); rintro e w' ⟨rfl, rfl⟩) | (go_at_call 53; (with_reducible refine (hbr _ (by assumption) _ _ k 45 (by omega) (by omega) (by omega) (by omega)).mono ?_); rintro e w' ⟨rfl, rfl⟩) | (go_at_call 53; (with_reducible refine (hbr _ (by assumption) _ _ (k + 1) 93 (by omega) (by omega) (by omega) (by omega)).mono ?_); rintro e w' ⟨rfl, rfl⟩))
        refine bodyPost_ret (v := .tuple #[.agg #[.slice none 0 0, .bool false, .bool false], .int .i64 0]) (by simp [results, Try.results54, go_sem, hcc]) rfl ?_
        rw [HN.out]
        exact ⟨.slice none 0 0, rfl, ⟨rfl, .inl ⟨rfl, rfl⟩⟩, hbf⟩

end Go.Proofs.Ytmijhgecdkdkmaa
