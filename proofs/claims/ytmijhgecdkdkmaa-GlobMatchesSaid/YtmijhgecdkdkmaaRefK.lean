/-
  Plain mathematics of the reference's Match: what its rows of bools hold within its loops.
-/
import Derived.Test.YtmijhgecdkdkmaaRefM
import Derived.Test.YtmijhgecdkdkmaaRefV
set_option linter.unusedVariables false
namespace Go.Proofs.Ytmijhgecdkdkmaa
open Go.RowKit

/-- A row of bools, from 0 to m. -/
def bRow (f : Nat → Bool) (m : Nat) : List Value := (List.range (m + 1)).map fun k => Value.bool (f k)

theorem bRow_len (f : Nat → Bool) (m : Nat) : (bRow f m).length = m + 1 := by simp [bRow]
theorem bRow_get (f : Nat → Bool) (m j : Nat) (h : j ≤ m) : (bRow f m)[j]? = some (.bool (f j)) := by
  simp only [bRow, List.getElem?_map, List.getElem?_range (show j < m + 1 by omega), Option.map_some]
theorem bRow_same (f g : Nat → Bool) (m : Nat) (h : ∀ k, k ≤ m → f k = g k) : bRow f m = bRow g m := by
  unfold bRow
  exact List.map_congr_left fun k hk => by rw [h k (by have := List.mem_range.1 hk; omega)]
theorem bRow_set (f : Nat → Bool) (m j : Nat) (b : Bool) (h : j ≤ m) : (bRow f m).set j (.bool b) = bRow (fun k => if k = j then b else f k) m := by
  apply List.ext_getElem?
  intro i
  by_cases hi : i ≤ m
  · rw [bRow_get _ _ _ hi, List.getElem?_set, bRow_get _ _ _ hi, bRow_len]
    by_cases hij : j = i
    · subst hij; rw [if_pos rfl, if_pos (by omega), if_pos rfl]
    · rw [if_neg hij, if_neg (fun e => hij e.symm)]
  · rw [List.getElem?_eq_none (by rw [List.length_set, bRow_len]; omega), List.getElem?_eq_none (by rw [bRow_len]; omega)]
theorem bRow_made (m : Nat) : (madeCells (Value.bool false).cells ((m + 1) * 1)).toList = bRow (fun _ => false) m := by
  apply List.ext_getElem
  · rw [bRow_len, Array.length_toList, size_madeCells]; omega
  · intro i h1 h2
    have e : i % 1 = 0 := Nat.mod_one i
    simp [madeCells, bRow, Value.cells, e]

/-- What the piece ahead of a place gives it. -/
def part3 (P : List Pc) (can : Nat → Bool) (r : Nat) : Nat → Bool
  | 0 => false
  | j + 1 => match P[j]? with | some x => if x.many = true then can (j + 1) || can j else can j && takesR x r | none => false

theorem nxt3_part (P : List Pc) (can : Nat → Bool) (r k : Nat) : nxt3 P can r k = (c1 P k (can k) || part3 P can r k) := by
  cases k with
  | zero => simp [nxt3, part3]
  | succ j => rfl

/-- The first inner loop, behind i pieces. -/
def F3 (P : List Pc) (can : Nat → Bool) (r i k : Nat) : Bool := if k < i then nxt3 P can r k else if k = i then part3 P can r k else false
/-- The second one. -/
def F4 (P : List Pc) (can : Nat → Bool) (r i k : Nat) : Bool := if k ≤ i then nxt4 P can r k else nxt3 P can r k

theorem F3_start (P : List Pc) (can : Nat → Bool) (r k : Nat) : F3 P can r 0 k = false := by
  unfold F3
  rw [if_neg (by omega)]
  split
  · rename_i h; subst h; rfl
  · rfl
theorem F3_end (P : List Pc) (can : Nat → Bool) (r k : Nat) (h : k ≤ P.length) : F3 P can r P.length k = nxt3 P can r k := by
  unfold F3
  by_cases hk : k < P.length
  · rw [if_pos hk]
  · obtain rfl : k = P.length := by omega
    rw [if_neg (by omega), if_pos rfl, nxt3_part]
    unfold c1
    rw [List.getElem?_eq_none (Nat.le_refl _)]
    simp
theorem F3_next (P : List Pc) (can : Nat → Bool) (r i : Nat) : F3 P can r i (i + 1) = false := by
  unfold F3; rw [if_neg (by omega), if_neg (by omega)]
theorem F3_here (P : List Pc) (can : Nat → Bool) (r i : Nat) : F3 P can r i i = part3 P can r i := by
  unfold F3; rw [if_neg (by omega), if_pos rfl]

theorem F3_many (P : List Pc) (can : Nat → Bool) (r i : Nat) (h : i < P.length) (hm : P[i].many = true) (k : Nat) :
    (if k = i then (part3 P can r i || can i) else if k = i + 1 then (can (i + 1) || can i) else F3 P can r i k) = F3 P can r (i + 1) k := by
  by_cases h1 : k = i
  · subst h1
    rw [if_pos rfl]
    unfold F3
    rw [if_pos (by omega), nxt3_part]
    unfold c1
    rw [List.getElem?_eq_getElem h]
    simp only [hm, Bool.and_true]
    rw [Bool.or_comm]
  · rw [if_neg h1]
    by_cases h2 : k = i + 1
    · subst h2
      rw [if_pos rfl, F3_here]
      simp only [part3, List.getElem?_eq_getElem h, hm, if_true]
    · rw [if_neg h2]
      unfold F3
      by_cases h3 : k < i
      · rw [if_pos h3, if_pos (by omega)]
      · rw [if_neg h3, if_neg h1, if_neg (by omega), if_neg h2]
theorem F3_one (P : List Pc) (can : Nat → Bool) (r i : Nat) (h : i < P.length) (hm : P[i].many = false) (k : Nat) :
    (if k = i + 1 then (can i && takesR P[i] r) else F3 P can r i k) = F3 P can r (i + 1) k := by
  by_cases h2 : k = i + 1
  · subst h2
    rw [if_pos rfl, F3_here]
    simp [part3, List.getElem?_eq_getElem h, hm]
  · rw [if_neg h2]
    unfold F3
    by_cases h3 : k < i
    · rw [if_pos h3, if_pos (by omega)]
    · rw [if_neg h3]
      by_cases h1 : k = i
      · subst h1
        rw [if_pos rfl, if_pos (by omega), nxt3_part]
        unfold c1
        rw [List.getElem?_eq_getElem h]
        simp [hm]
      · rw [if_neg h1, if_neg (by omega), if_neg h2]

theorem F4_start (P : List Pc) (can : Nat → Bool) (r k : Nat) : F4 P can r 0 k = nxt3 P can r k := by
  unfold F4
  split
  · obtain rfl : k = 0 := by omega
    rfl
  · rfl
theorem F4_here (P : List Pc) (can : Nat → Bool) (r i : Nat) : F4 P can r i i = nxt4 P can r i := by unfold F4; rw [if_pos (Nat.le_refl _)]
theorem F4_end (P : List Pc) (can : Nat → Bool) (r i k : Nat) (h : k ≤ i) : F4 P can r i k = nxt4 P can r k := by unfold F4; rw [if_pos h]
theorem F4_set (P : List Pc) (can : Nat → Bool) (r i : Nat) (h : i < P.length) (hm : P[i].many = true) (hb : nxt4 P can r i = true) (k : Nat) :
    (if k = i + 1 then true else F4 P can r i k) = F4 P can r (i + 1) k := by
  by_cases h2 : k = i + 1
  · subst h2
    rw [if_pos rfl, F4_here]
    simp [nxt4, List.getElem?_eq_getElem h, hm, hb]
  · rw [if_neg h2]
    unfold F4
    by_cases h3 : k ≤ i
    · rw [if_pos h3, if_pos (by omega)]
    · rw [if_neg h3, if_neg (by omega)]
theorem F4_leave (P : List Pc) (can : Nat → Bool) (r i : Nat) (h : i < P.length) (hb : P[i].many = false ∨ nxt4 P can r i = false) (k : Nat) :
    F4 P can r i k = F4 P can r (i + 1) k := by
  unfold F4
  by_cases h3 : k ≤ i
  · rw [if_pos h3, if_pos (by omega)]
  · rw [if_neg h3]
    by_cases h2 : k = i + 1
    · subst h2
      rw [if_pos (Nat.le_refl _)]
      rcases hb with hb | hb <;> simp [nxt4, List.getElem?_eq_getElem h, hb]
    · rw [if_neg (by omega)]

/-- Behind the first stars. -/
theorem start_same (P : List Pc) (i : Nat) (hi : i ≤ P.length) (hs : ∀ j (h : j < i), (P[j]'(by omega)).many = true) (he : i = P.length ∨ ∃ h : i < P.length, P[i].many = false) (k : Nat) (hk : k ≤ P.length) :
    decide (k ≤ i) = true ↔ GB P k [] := by
  rw [← bits_start P k hk]
  have key : ∀ k, k ≤ P.length → (skipF P 0 1).testBit k = decide (k ≤ i) := by
    intro k
    induction k with
    | zero => intro _; rw [skipF_low P 0 1 0 (Nat.le_refl _)]; simp
    | succ j ih =>
      intro hk
      have hj : j < P.length := by omega
      have h1 := skipF_next P 0 1 j hj
      rw [show 0 + j + 1 = j + 1 by omega, show 0 + j = j by omega, ih (by omega)] at h1
      rw [h1]
      have h0 : (1 : Nat).testBit (j + 1) = false := by simp [Nat.testBit_succ]
      rw [h0, Bool.false_or]
      by_cases hji : j < i
      · rw [hs j hji]; simp; omega
      · by_cases hje : j = i
        · subst hje
          rcases he with he | ⟨h, hm⟩
          · omega
          · rw [hm]; simp
        · rw [show decide (j ≤ i) = false from decide_eq_false (by omega), Bool.and_false]; simp; omega
  rw [key k hk]

theorem infoBool : (Try.prog.info? 4).map (fun i => (i.zero, i.size, i.bytes)) = some (some (.bool false), 1, 1) := by kernel_rfl

/-- The cells of one of the reference's pieces. -/
theorem rpcs_at {w : World} {B : Nat} {v : Value} {P : List Pc} (h : RPcs w B v P) (k : Nat) (hk : k < P.length) :
    ∃ g cap lo hi, v = .slice (some ⟨g, 0, none⟩) P.length cap ∧ w.cell? ⟨g, k * 4, none⟩ = some (.bool P[k].many) ∧ w.cell? ⟨g, k * 4 + 1, none⟩ = some (.bool P[k].turned) ∧ w.cell? ⟨g, k * 4 + 2, none⟩ = some lo ∧ w.cell? ⟨g, k * 4 + 3, none⟩ = some hi ∧ Bounds w B lo hi P[k] := by
  obtain ⟨Q, rfl, ho, hs⟩ := h
  have hk' : k < Q.length := by simpa using hk
  obtain ⟨g, cap, hv, _, hc⟩ := own_cells ho (fun _ => rfl) rfl (by intro e; rw [e] at hk'; simp at hk')
  have hq := hs _ (List.getElem_mem hk')
  have h0 := hc k hk' 0 (by omega)
  have h1 := hc k hk' 1 (by omega)
  have h2 := hc k hk' 2 (by omega)
  have h3 := hc k hk' 3 (by omega)
  simp only [rpC, List.getElem?_cons_zero, List.getElem?_cons_succ, Nat.add_zero] at h0 h1 h2 h3
  exact ⟨g, cap, _, _, by simpa using hv, by simpa using h0, by simpa using h1, h2, h3, by simpa using hq⟩

theorem rpcs_form {w : World} {B : Nat} {v : Value} {P : List Pc} (h : RPcs w B v P) : ∃ a cap, v = .slice a P.length cap := by
  obtain ⟨Q, rfl, ho, hs⟩ := h
  obtain ⟨a, c, hv⟩ := own_form ho
  exact ⟨a, c, by simpa using hv⟩

end Go.Proofs.Ytmijhgecdkdkmaa
