/-
  Package disk: what a crash leaves, plainly.
-/
import Derived.Test.YtbolminblofhgaaDsK
set_option linter.unusedVariables false
namespace Go.Proofs.Ytbolminblofhgaa
open Go.RowKit

/-- A slice at a holds the numbers l. -/
def Its (w : World) (a : Option Addr) (l : List Int) : Prop :=
  l = [] ∨ ∃ x, a = some x ∧ ∀ j (hj : j < l.length), w.cell? (x.add j) = some (.int .i64 (l[j]'hj))
theorem Its.later {w w' : World} {a : Option Addr} {l : List Int} (h : Its w a l) (hb : Below w.heap.size w w') : Its w' a l := by
  rcases h with h | ⟨x, rfl, hc⟩
  · exact .inl h
  · exact .inr ⟨x, rfl, fun j hj => (hb.cell (World.block_lt_of_cell? w _ (hc j hj))).trans (hc j hj)⟩
theorem Its.head {w : World} {a : Option Addr} {p : Int} {l : List Int} (h : Its w a (p :: l)) : ∃ x, a = some x ∧ w.cell? x = some (.int .i64 p) ∧ Its w (some (x.add 1)) l := by
  rcases h with h | ⟨x, rfl, hc⟩
  · cases h
  · refine ⟨x, rfl, ?_, ?_⟩
    · have := hc 0 (by simp)
      rw [show x.add 0 = x by unfold Addr.add; simp] at this
      exact this
    · by_cases hl : l = []
      · exact .inl hl
      · exact .inr ⟨_, rfl, fun j hj => by
          have := hc (j + 1) (by simp; omega)
          rw [add_two, Nat.add_comm 1 j]
          exact this⟩

@[elab_as_elim] theorem snoc_ind {α : Type} {P : List α → Prop} (l : List α) (nil : P []) (snoc : ∀ l a, P l → P (l ++ [a])) : P l := by
  have h : ∀ r : List α, P r.reverse := fun r => by
    induction r with
    | nil => exact nil
    | cons a r ih => rw [List.reverse_cons]; exact snoc _ _ ih
  have := h l.reverse
  rwa [List.reverse_reverse] at this

/-- How many of a file's bytes stay. -/
def keepN (f : RF) (ps : List Int) : Nat := if f.s < f.b.length then match ps with | p :: _ => f.s + (p % ((f.b.length : Int) - f.s + 1)).toNat | [] => f.s else f.s
def restP (f : RF) (ps : List Int) : List Int := if f.s < f.b.length then ps.tail else ps
def crOne (st : List RF × List Int) (f : RF) : List RF × List Int := (st.1 ++ [⟨f.nm, f.b.take (keepN f st.2), keepN f st.2⟩], restP f st.2)
def crSt (ps : List Int) (L : List RF) : List RF × List Int := L.foldl crOne ([], ps)
def crashL (ps : List Int) (L : List RF) : List RF := (crSt ps L).1

theorem crSt_snoc (ps : List Int) (L : List RF) (f : RF) : crSt ps (L ++ [f]) = crOne (crSt ps L) f := by unfold crSt; rw [List.foldl_append]; rfl
theorem keepN_le (f : RF) (ps : List Int) (h : f.s ≤ f.b.length) : f.s ≤ keepN f ps ∧ keepN f ps ≤ f.b.length := by
  unfold keepN
  split
  · cases ps with
    | nil => exact ⟨Nat.le_refl _, h⟩
    | cons p r =>
      have h1 := Int.emod_nonneg p (show ((f.b.length : Int) - f.s + 1) ≠ 0 by omega)
      have h2 := Int.emod_lt_of_pos p (show (0 : Int) < ((f.b.length : Int) - f.s + 1) by omega)
      simp only
      omega
  · exact ⟨Nat.le_refl _, h⟩
theorem crSt_names (ps : List Int) (L : List RF) : (crSt ps L).1.map (·.nm) = L.map (·.nm) := by
  induction L using snoc_ind with
  | nil => rfl
  | snoc L f ih => rw [crSt_snoc]; simp [crOne, ih]
theorem crSt_len (ps : List Int) (L : List RF) : (crSt ps L).1.length = L.length := by
  have := congrArg List.length (crSt_names ps L)
  simpa using this
theorem crSt_tot (ps : List Int) (L : List RF) (h : ∀ f ∈ L, f.s ≤ f.b.length) : tot (crSt ps L).1 ≤ tot L := by
  induction L using snoc_ind with
  | nil => exact Nat.le_refl _
  | snoc L f ih =>
    rw [crSt_snoc]
    have h1 := ih fun g hg => h g (List.mem_append_left _ hg)
    have h2 := (keepN_le f (crSt ps L).2 (h f (by simp))).2
    simp only [crOne, tot, List.map_append, List.sum_append, List.map_cons, List.map_nil, List.sum_cons, List.sum_nil, List.length_take] at h1 ⊢
    omega
theorem insL_last (f : RF) : ∀ L : List RF, (∀ g ∈ L, bytesBefore (key f.nm) (key g.nm) = false) → insL f L = L ++ [f]
  | [], _ => rfl
  | y :: r, h => by
    unfold insL
    rw [if_neg (by rw [h y (by simp)]; decide), insL_last f r fun g hg => h g (by simp [hg])]
    rfl
theorem putL_last (f : RF) (L : List RF) (h : ∀ g ∈ L, bytesBefore (key g.nm) (key f.nm) = true) : putL f L = L ++ [f] := by
  have h1 : ∀ g ∈ L, g.nm ≠ f.nm := fun g hg e => by
    have h2 : (Lit.string (key g.nm)).before (Lit.string (key f.nm)) = true := h g hg
    rw [e, WideShapes.before_irrefl] at h2
    cases h2
  unfold putL delL
  rw [List.filter_eq_self.2 (fun g hg => by simpa using h1 g hg)]
  refine insL_last f L fun g hg => ?_
  cases hb : bytesBefore (key f.nm) (key g.nm)
  · rfl
  · have h2 : (Lit.string (key g.nm)).before (Lit.string (key f.nm)) = true := h g hg
    have h3 : (Lit.string (key f.nm)).before (Lit.string (key g.nm)) = true := hb
    have := WideShapes.before_trans h2 h3
    rw [WideShapes.before_irrefl] at this
    cases this
theorem crash_step {L : List RF} (hr : Rise L) (ps : List Int) (j : Nat) (hj : j < L.length) :
    crSt ps (L.take (j + 1)) = crOne (crSt ps (L.take j)) (L[j]'hj) ∧ ∀ b n, putL ⟨(L[j]'hj).nm, b, n⟩ (crSt ps (L.take j)).1 = (crSt ps (L.take j)).1 ++ [⟨(L[j]'hj).nm, b, n⟩] := by
  refine ⟨by rw [← crSt_snoc, List.take_succ_eq_append_getElem hj], fun b n => putL_last _ _ fun g hg => ?_⟩
  have hm : g.nm ∈ (crSt ps (L.take j)).1.map (·.nm) := List.mem_map.2 ⟨g, hg, rfl⟩
  rw [crSt_names] at hm
  obtain ⟨f, hf, he⟩ := List.mem_map.1 hm
  obtain ⟨i, hi, rfl⟩ := List.getElem_of_mem hf
  have hi2 : i < j := by simp at hi; omega
  show bytesBefore (key g.nm) (key (L[j]'hj).nm) = true
  rw [← he, List.getElem_take]
  exact List.pairwise_iff_getElem.1 hr i j (by omega) hj hi2
theorem crSt_syn (ps : List Int) (L : List RF) (h : ∀ f ∈ L, f.s ≤ f.b.length) : ∀ f ∈ (crSt ps L).1, f.s ≤ f.b.length := by
  induction L using snoc_ind with
  | nil => intro f hf; cases hf
  | snoc L g ih =>
    intro f hf
    rw [crSt_snoc] at hf
    rcases List.mem_append.1 hf with hf | hf
    · exact ih (fun x hx => h x (List.mem_append_left _ hx)) f hf
    · simp only [List.mem_singleton] at hf
      subst hf
      have := (keepN_le g (crSt ps L).2 (h g (by simp))).2
      show keepN g (crSt ps L).2 ≤ (g.b.take (keepN g (crSt ps L).2)).length
      rw [List.length_take]; omega
theorem crSt_nm (ps : List Int) (L : List RF) (h : ∀ f ∈ L, f.nm.size ≤ 100) : ∀ f ∈ (crSt ps L).1, f.nm.size ≤ 100 := by
  intro f hf
  have hm : f.nm ∈ (crSt ps L).1.map (·.nm) := List.mem_map.2 ⟨f, hf, rfl⟩
  rw [crSt_names] at hm
  obtain ⟨g, hg, he⟩ := List.mem_map.1 hm
  rw [← he]; exact h g hg
theorem crash_inv {C : CD} (hi : Inv C) (ps : List Int) : Inv ⟨C.room, crashL ps C.L, 0, false, 0⟩ :=
  ⟨hi.room, Nat.le_trans (crSt_tot ps C.L hi.syn) hi.tot, by rw [show (crashL ps C.L).length = C.L.length from crSt_len ps C.L]; exact hi.len, crSt_syn ps C.L hi.syn, crSt_nm ps C.L hi.nm, by show (-9223372036854775808 : Int) ≤ 0; omega, by show (0 : Int) ≤ 9223372036854775807; omega⟩

end Go.Proofs.Ytbolminblofhgaa
