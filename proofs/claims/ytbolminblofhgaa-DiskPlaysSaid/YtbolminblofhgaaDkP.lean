/-
  Both disks as one: what they have in common (Sim), call by call.
-/
import Derived.Test.YtbolminblofhgaaDkO
import Derived.Test.YtbolminblofhgaaDkL
import Derived.Test.YtbolminblofhgaaDsU
set_option linter.unusedVariables false
namespace Go.Proofs.Ytbolminblofhgaa
open Go.RowKit

structure Sim (C : CD) (M : RD) : Prop where
  room : M.room = C.room
  L : M.L = C.L
  n : M.n = C.n
  cut : (C.cut = false ∧ M.last = -1) ∨ (C.cut = true ∧ 0 ≤ M.last ∧ (max C.left 0 = max (M.last - M.n) 0 ∨ (1152921504606846976 ≤ C.left + M.n ∧ 1152921504606846976 ≤ M.last)))

theorem Sim.off {C : CD} {M : RD} (h : Sim C M) (hn : M.n ≤ 1000000) : offM M = offC C := by
  unfold offM offC
  rcases h.cut with ⟨h1, h2⟩ | ⟨h1, h2, h3⟩
  · rw [h1, h2]; simp
  · rw [h1, Bool.true_and]
    congr 1
    apply propext
    rcases h3 with h3 | ⟨h3, h4⟩
    · constructor
      · intro h; omega
      · intro h; omega
    · constructor
      · intro h; omega
      · intro h; omega
theorem Sim.op {C : CD} {M : RD} (h : Sim C M) (hn : M.n ≤ 1000000) : Sim C.op M.op := by
  refine ⟨h.room, h.L, by show M.n + 1 = C.n + 1; rw [h.n], ?_⟩
  unfold CD.op RD.op
  simp only
  rcases h.cut with ⟨h1, h2⟩ | ⟨h1, h2, h3⟩
  · exact .inl ⟨h1, h2⟩
  · refine .inr ⟨h1, h2, ?_⟩
    rw [h1, Bool.true_and]
    rcases h3 with h3 | ⟨h3, h4⟩
    · left
      split
      · rename_i e; simp only [decide_eq_true_eq] at e; omega
      · rename_i e; simp only [decide_eq_true_eq] at e; omega
    · right
      split
      · omega
      · rename_i e; simp only [decide_eq_true_eq] at e; omega
theorem Sim.setL {C : CD} {M : RD} (h : Sim C M) (L : List RF) : Sim (C.setL L) { M with L := L } := ⟨h.room, rfl, h.n, h.cut⟩
theorem Sim.res {C : CD} {M : RD} (h : Sim C M) (hn : M.n ≤ 1000000) (x : Int × List RF) : (resM M x).1 = (resC C x).1 ∧ Sim (resC C x).2 (resM M x).2 := by
  have ho := h.off hn
  cases hc : offC C with
  | true =>
    rw [resC_off hc, resM_off (ho.trans hc)]
    exact ⟨rfl, h.op hn⟩
  | false =>
    rw [resC_on hc, resM_on (ho.trans hc)]
    exact ⟨rfl, (h.op hn).setL _⟩
theorem Sim.cutN {C : CD} {M : RD} (h : Sim C M) (k : Int) : Sim (C.cutN k) (M.cut k) := by
  refine ⟨h.room, h.L, h.n, .inr ⟨rfl, ?_, ?_⟩⟩
  · show 0 ≤ (M.n : Int) + min (max k 0) 1152921504606846976
    omega
  · show max k 0 = max ((M.n : Int) + min (max k 0) 1152921504606846976 - M.n) 0 ∨ (1152921504606846976 ≤ k + M.n ∧ 1152921504606846976 ≤ (M.n : Int) + min (max k 0) 1152921504606846976)
    by_cases hk : k ≤ 1152921504606846976
    · left; omega
    · right; omega
theorem Sim.new (room : Nat) : Sim (newC room) ⟨room, [], 0, -1⟩ := ⟨rfl, rfl, rfl, .inl ⟨rfl, rfl⟩⟩
theorem Sim.crash {C : CD} {M : RD} (h : Sim C M) (ps : List Int) : Sim ⟨C.room, crashL ps C.L, 0, false, 0⟩ ⟨M.room, crashL ps M.L, 0, -1⟩ := ⟨h.room, by rw [h.L], rfl, .inl ⟨rfl, rfl⟩⟩

/-! ### both in one world -/
structure Two (w : World) (B g : Nat) (mv : Value) (Q : List (Value × RF)) (C : CD) (g2 : Nat) (v : Value) (P : List (Value × RF)) (M : RD) : Prop where
  im : ImAt w B g mv Q C
  dk : DkAt w B g2 v P M
  inv : Inv C
  sim : Sim C M
  far : ∀ k, ImS g mv Q k → ¬ DkAll g2 v P k

/-- Behind a call on package disk's. -/
theorem Two.left {w w' : World} {B g g2 : Nat} {mv mv' v : Value} {Q Q' P : List (Value × RF)} {C C' : CD} {M : RD} (h : Two w B g mv Q C g2 v P M) (hk : Kept (ImS g mv Q) w w') (hi : ImAt w' B g mv' Q' C') (hn : ∀ k, ImS g mv' Q' k → ImS g mv Q k ∨ w.heap.size ≤ k) :
    DkAt w' B g2 v P M ∧ ∀ k, ImS g mv' Q' k → ¬ DkAll g2 v P k := by
  refine ⟨h.dk.kept hk (fun k e e2 => h.far k e2 (.inl e)) (fun q hq k e e2 => h.far k e2 (.inr ⟨q, hq, e⟩)), fun k e e2 => ?_⟩
  rcases hn k e with e3 | e3
  · exact h.far k e3 e2
  · have := (h.dk.ltAll k e2).2; omega
/-- Behind a call on the reference's. -/
theorem right_of {w w' : World} {B g g2 : Nat} {mv v v' : Value} {Q P P' : List (Value × RF)} {C : CD} (him : ImAt w B g mv Q C) (far : ∀ k, ImS g mv Q k → ¬ DkAll g2 v P k) (hk : Kept (DkS g2 v) w w') (hn : ∀ k, DkAll g2 v' P' k → DkAll g2 v P k ∨ w.heap.size ≤ k) :
    ImAt w' B g mv Q C ∧ ∀ k, ImS g mv Q k → ¬ DkAll g2 v' P' k := by
  refine ⟨him.kept hk (fun k e e2 => far k e (.inl e2)), fun k e e2 => ?_⟩
  rcases hn k e2 with e3 | e3
  · exact far k e e3
  · have := (him.ltS k e).2; omega

end Go.Proofs.Ytbolminblofhgaa
