/-
  A slice of steps that came in: what the walk is told of it, from how it reads.
-/
import Derived.Test.YtbolminblofhgaaDkX
import Derived.Deep.Slices
import Derived.Deep.Fields
import Derived.ChangeSlices
set_option linter.unusedVariables false
namespace Go.Proofs.Ytbolminblofhgaa
open Go.RowKit Go.ChangeShapes Go.WideShapes Go.Deep

theorem cellsStep : Try.prog.cellsOf 36 = 5 := by kernel_rfl
theorem cellsInt : Try.prog.cellsOf 3 = 1 := by kernel_rfl
theorem cellsStr : Try.prog.cellsOf 9 = 1 := by kernel_rfl
theorem cellsPicks : Try.prog.cellsOf 34 = 1 := by kernel_rfl

theorem five_of {α : Type} {l : List α} (h : l.length = 5) : ∃ a b c d e, l = [a, b, c, d, e] := by
  match l, h with
  | [a, b, c, d, e], _ => exact ⟨a, b, c, d, e, rfl⟩

section
variable {H : Type} {enc : TypeId × Value → H} {w : World} {base : Nat} {spare : Nat → Bool} {held : Bool}
theorem picks_open {fuel : Nat} {v : Value} {y : DataW H × List MemPlace} (h : DataW.trod enc Try.prog w base spare held fuel 34 [v] = some y) :
    ∃ (a : Option Addr) (n c : Nat) (zs : List Int), v = .slice a n c ∧ Its w a zs ∧ zs.length = n ∧ n ≤ c ∧ c ≤ maxLen ∧ ∀ p ∈ zs, -9223372036854775808 ≤ p ∧ p ≤ 9223372036854775807 := by
  rcases open_ints Try.underlying34 Try.underlying3 cellsInt h with ⟨hcs, _⟩ | ⟨x, l, c, zs, hcs, _, hl, hm, hz, _, hcell, hwz⟩
  · injection hcs with hcs
    exact ⟨none, 0, 0, [], hcs, .inl rfl, rfl, Nat.le_refl _, Nat.zero_le _, fun p hp => by cases hp⟩
  · injection hcs with hcs
    have hzl : l ≤ zs.length := by rw [hz]; split <;> omega
    refine ⟨some x, l, c, zs.take l, hcs, .inr ⟨x, rfl, fun j hj => ?_⟩, by rw [List.length_take]; omega, hl, hm, fun p hp => wf_bounds (hwz p (List.mem_of_mem_take hp))⟩
    rw [List.length_take] at hj
    rw [hcell j (by omega), List.getElem_take]
    simp [List.getD_eq_getElem?_getD, List.getElem?_eq_getElem (show j < zs.length by omega)]
set_option maxRecDepth 100000 in
theorem step_open {fuel : Nat} {x : Addr} {i : Nat} {cs : List Value} {y : DataW H × List MemPlace} (hc : w.cells? base (x.add (i * 5)) 5 = some cs) (h : DataW.trod enc Try.prog w base spare held fuel 36 cs = some y) : ∃ s, StAt w x i s := by
  obtain ⟨_, hcl, hat⟩ := World.cells?_some hc
  obtain ⟨ys, n', _, _, _, hyl, hf⟩ := DataW.trod_struct Try.underlying36 h
  have hyl5 : ys.length = 5 := hyl
  obtain ⟨v0, v1, v2, v3, v4, rfl⟩ := five_of hcl
  obtain ⟨y0, y1, y2, y3, y4, rfl⟩ := five_of hyl5
  · skip
    have h0 : DataW.trod enc Try.prog w base spare held n' 3 (([v0, v1, v2, v3, v4].drop 0).take (Try.prog.cellsOf 3)) = some y0 := hf 0 _ rfl
    have h1 : DataW.trod enc Try.prog w base spare held n' 9 (([v0, v1, v2, v3, v4].drop 1).take (Try.prog.cellsOf 9)) = some y1 := hf 1 _ rfl
    have h2 : DataW.trod enc Try.prog w base spare held n' 9 (([v0, v1, v2, v3, v4].drop 2).take (Try.prog.cellsOf 9)) = some y2 := hf 2 _ rfl
    have h3 : DataW.trod enc Try.prog w base spare held n' 3 (([v0, v1, v2, v3, v4].drop 3).take (Try.prog.cellsOf 3)) = some y3 := hf 3 _ rfl
    have h4 : DataW.trod enc Try.prog w base spare held n' 34 (([v0, v1, v2, v3, v4].drop 4).take (Try.prog.cellsOf 34)) = some y4 := hf 4 _ rfl
    rw [cellsInt] at h0 h3
    rw [cellsStr] at h1 h2
    rw [cellsPicks] at h4
    obtain ⟨k, e0, _, w0⟩ := DataW.trod_int Try.underlying3 (cs := [v0]) (x := y0) h0
    obtain ⟨sA, e1, _, w1⟩ := DataW.trod_string Try.underlying9 (cs := [v1]) (x := y1) h1
    obtain ⟨sB, e2, _, w2⟩ := DataW.trod_string Try.underlying9 (cs := [v2]) (x := y2) h2
    obtain ⟨N, e3, _, w3⟩ := DataW.trod_int Try.underlying3 (cs := [v3]) (x := y3) h3
    obtain ⟨a, n, c, zs, e4, p1, p2, p3, p4, p5⟩ := picks_open (v := v4) (y := y4) h4
    injection e0 with e0
    injection e1 with e1
    injection e2 with e2
    injection e3 with e3
    subst e0 e1 e2 e3 e4
    have c0 := hat 0 (by omega)
    have c1 := hat 1 (by omega)
    have c2 := hat 2 (by omega)
    have c3 := hat 3 (by omega)
    have c4 := hat 4 (by omega)
    rw [Go.Deep.add_add] at c0 c1 c2 c3 c4
    exact ⟨⟨k, sA, sB, N, a, n, c, zs⟩, c0, c1, c2, c3, c4, p1, p2, p3, p4, (wf_bounds w3).1, (wf_bounds w3).2, w1, w2, p5⟩
theorem steps_open {fuel : Nat} {a : Option Addr} {len cap : Nat} {y : DataW H × List MemPlace} (h : DataW.trod enc Try.prog w base spare held fuel 22 [.slice a len cap] = some y) : ∃ ss, StepsIn w a len cap ss ∧ len ≤ maxLen := by
  rcases open_slice Try.underlying22 h with ⟨hcs, _⟩ | ⟨x, l, c, m, n, D, Pl, hcs, _, hl, hm, hmm, _, hi⟩
  · injection hcs with hcs
    injection hcs with e1 e2 e3
    subst e1 e2 e3
    exact ⟨[], .inl ⟨rfl, rfl, rfl, rfl⟩, Nat.zero_le _⟩
  · injection hcs with hcs
    injection hcs with e1 e2 e3
    subst e1 e2 e3
    have hml : len ≤ m := by rw [hmm]; split <;> omega
    have hex : ∀ i, ∃ s : St, i < len → StAt w x i s := fun i => by
      by_cases hlt : i < len
      · obtain ⟨cs', hc, ht⟩ := hi i (by omega)
        rw [cellsStep] at hc
        obtain ⟨s, hs⟩ := step_open hc ht
        exact ⟨s, fun _ => hs⟩
      · exact ⟨⟨0, .empty, .empty, 0, none, 0, 0, []⟩, fun h => absurd h hlt⟩
    obtain ⟨f, hf⟩ := Classical.axiomOfChoice hex
    refine ⟨(List.range len).map f, .inr ⟨x, rfl, hl, hm, by simp, fun i hi => ?_⟩, by omega⟩
    have hi' : i < len := by simpa using hi
    simpa using hf i hi'
end

theorem DiskPlays_walk (a0 : Int) (a1 : Option Addr) (len1 cap1 : Nat) (ss : List St) (w : World) (w0 : (Lit.int .i64 a0).wf = true) (w1 : StepsIn w a1 len1 cap1 ss ∧ len1 ≤ maxLen) :
    Calls Try.prog 3 #[.int .i64 a0, .slice a1 len1 cap1] w (AwPost w) := DiskPlays_body a0 a1 len1 cap1 ss w w0 w1.1 w1.2

end Go.Proofs.Ytbolminblofhgaa
