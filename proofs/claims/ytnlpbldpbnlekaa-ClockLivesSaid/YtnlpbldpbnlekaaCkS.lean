/-
  Arguments opened: a stamp, steps of a clock.
-/
import Derived.Test.YtnlpbldpbnlekaaStE
import Derived.Deep.Slices
import Derived.Deep.Fields
import Derived.ChangeSlices
set_option linter.unusedVariables false
namespace Go.Proofs.Ytnlpbldpbnlekaa
open Go.RowKit Go.ChangeShapes Go.WideShapes Go.Deep

theorem cellsStamp : Try.prog.cellsOf 32 = 3 := by kernel_rfl
theorem cellsStep : Try.prog.cellsOf 34 = 5 := by kernel_rfl
theorem cellsInt : Try.prog.cellsOf 3 = 1 := by kernel_rfl

theorem three_of {α : Type} {l : List α} (h : l.length = 3) : ∃ a b c, l = [a, b, c] := by
  match l, h with
  | [a, b, c], _ => exact ⟨a, b, c, rfl⟩
theorem five_of {α : Type} {l : List α} (h : l.length = 5) : ∃ a b c d e, l = [a, b, c, d, e] := by
  match l, h with
  | [a, b, c, d, e], _ => exact ⟨a, b, c, d, e, rfl⟩

/-- A step, plainly. -/
structure St where
  kind : Int
  N : Int
  s : Sm
structure StAt (w : World) (x : Addr) (i : Nat) (s : St) : Prop where
  c0 : w.cell? (x.add (i * 5)) = some (.int .i64 s.kind)
  c1 : w.cell? (x.add (i * 5 + 1)) = some (.int .i64 s.N)
  c2 : w.cell? (x.add (i * 5 + 2)) = some (.int .i64 s.s.w)
  c3 : w.cell? (x.add (i * 5 + 3)) = some (.int .i64 s.s.l)
  c4 : w.cell? (x.add (i * 5 + 4)) = some (.int .i64 s.s.n)
def StepsIn (w : World) (a : Option Addr) (n : Nat) (ss : List St) : Prop :=
  ss.length = n ∧ (ss = [] ∨ ∃ x, a = some x ∧ ∀ i (hi : i < ss.length), StAt w x i (ss[i]'hi))
theorem StepsIn.at {w : World} {a : Option Addr} {n : Nat} {ss : List St} (h : StepsIn w a n ss) (i : Nat) (hi : i < ss.length) : ∃ x, a = some x ∧ StAt w x i (ss[i]'hi) := by
  rcases h.2 with rfl | ⟨x, h1, h⟩
  · simp at hi
  · exact ⟨x, h1, h i hi⟩
theorem StAt.later {w w' : World} {x : Addr} {i : Nat} {s : St} (h : StAt w x i s) (hb : Below w.heap.size w w') : StAt w' x i s := by
  have f : ∀ {a : Addr} {u : Value}, w.cell? a = some u → w'.cell? a = some u := fun hc => (hb.cell (World.block_lt_of_cell? w _ hc)).trans hc
  exact ⟨f h.c0, f h.c1, f h.c2, f h.c3, f h.c4⟩
theorem StepsIn.later {w w' : World} {a : Option Addr} {n : Nat} {ss : List St} (h : StepsIn w a n ss) (hb : Below w.heap.size w w') : StepsIn w' a n ss := by
  refine ⟨h.1, ?_⟩
  rcases h.2 with e | ⟨x, h1, h2⟩
  · exact .inl e
  · exact .inr ⟨x, h1, fun i hi => (h2 i hi).later hb⟩

section
variable {H : Type} {enc : TypeId × Value → H} {w : World} {base : Nat} {spare : Nat → Bool} {held : Bool}
set_option maxRecDepth 100000 in
theorem sm_of {fuel : Nat} {cs : List Value} {y : DataW H × List MemPlace} (hcl : cs.length = 3) (h : DataW.trod enc Try.prog w base spare held fuel 32 cs = some y) :
    ∃ a : Sm, cs = [.int .i64 a.w, .int .i64 a.l, .int .i64 a.n] := by
  obtain ⟨ys, n', _, _, _, hyl, hf⟩ := DataW.trod_struct Try.underlying32 h
  have hyl3 : ys.length = 3 := hyl
  obtain ⟨v0, v1, v2, rfl⟩ := three_of hcl
  obtain ⟨y0, y1, y2, rfl⟩ := three_of hyl3
  have h0 : DataW.trod enc Try.prog w base spare held n' 3 (([v0, v1, v2].drop 0).take (Try.prog.cellsOf 3)) = some y0 := hf 0 _ rfl
  have h1 : DataW.trod enc Try.prog w base spare held n' 3 (([v0, v1, v2].drop 1).take (Try.prog.cellsOf 3)) = some y1 := hf 1 _ rfl
  have h2 : DataW.trod enc Try.prog w base spare held n' 3 (([v0, v1, v2].drop 2).take (Try.prog.cellsOf 3)) = some y2 := hf 2 _ rfl
  rw [cellsInt] at h0 h1 h2
  obtain ⟨f, e0, _, w0⟩ := DataW.trod_int Try.underlying3 (cs := [v0]) (x := y0) h0
  obtain ⟨t, e1, _, w1⟩ := DataW.trod_int Try.underlying3 (cs := [v1]) (x := y1) h1
  obtain ⟨g, e2, _, w2⟩ := DataW.trod_int Try.underlying3 (cs := [v2]) (x := y2) h2
  injection e0 with e0
  injection e1 with e1
  injection e2 with e2
  subst e0 e1 e2
  exact ⟨⟨f, t, g⟩, rfl⟩

theorem sm_open {r : Reach} {b0 : Nat} {v : Value} {d : DataW H} {p : List MemPlace} (hv : Value.okWide Try.prog w r b0 32 v) (h : DataW.Trod enc Try.prog w base spare held 32 v d p) :
    ∃ a : Sm, v = .agg #[.int .i64 a.w, .int .i64 a.l, .int .i64 a.n] := by
  obtain ⟨⟨l⟩, rfl, hsz⟩ := okWide_struct Try.underlying32 hv
  obtain ⟨fuel, hf⟩ := h
  obtain ⟨a, ha⟩ := sm_of (cs := l) (by rw [cellsStamp] at hsz; exact hsz) hf
  subst ha
  exact ⟨a, rfl⟩

set_option maxRecDepth 100000 in
theorem step_open {fuel : Nat} {x : Addr} {i : Nat} {cs : List Value} {y : DataW H × List MemPlace} (hc : w.cells? base (x.add (i * 5)) 5 = some cs) (h : DataW.trod enc Try.prog w base spare held fuel 34 cs = some y) : ∃ s, StAt w x i s := by
  obtain ⟨_, hcl, hat⟩ := World.cells?_some hc
  obtain ⟨ys, n', _, _, _, hyl, hf⟩ := DataW.trod_struct Try.underlying34 h
  have hyl3 : ys.length = 3 := hyl
  obtain ⟨v0, v1, v2, v3, v4, rfl⟩ := five_of hcl
  obtain ⟨y0, y1, y2, rfl⟩ := three_of hyl3
  have h0 : DataW.trod enc Try.prog w base spare held n' 3 (([v0, v1, v2, v3, v4].drop 0).take (Try.prog.cellsOf 3)) = some y0 := hf 0 _ rfl
  have h1 : DataW.trod enc Try.prog w base spare held n' 3 (([v0, v1, v2, v3, v4].drop 1).take (Try.prog.cellsOf 3)) = some y1 := hf 1 _ rfl
  have h2 : DataW.trod enc Try.prog w base spare held n' 32 (([v0, v1, v2, v3, v4].drop 2).take (Try.prog.cellsOf 32)) = some y2 := hf 2 _ rfl
  rw [cellsInt] at h0 h1
  rw [cellsStamp] at h2
  obtain ⟨k, e0, _, _⟩ := DataW.trod_int Try.underlying3 (cs := [v0]) (x := y0) h0
  obtain ⟨n, e1, _, _⟩ := DataW.trod_int Try.underlying3 (cs := [v1]) (x := y1) h1
  obtain ⟨s, e2⟩ := sm_of (cs := [v2, v3, v4]) rfl h2
  injection e0 with e0
  injection e1 with e1
  injection e2 with e2 e3
  injection e3 with e3 e4
  injection e4 with e4
  subst e0 e1 e2 e3 e4
  have c0 := hat 0 (by omega)
  have c1 := hat 1 (by omega)
  have c2 := hat 2 (by omega)
  have c3 := hat 3 (by omega)
  have c4 := hat 4 (by omega)
  rw [Go.Deep.add_add] at c0 c1 c2 c3 c4
  exact ⟨⟨k, n, s⟩, c0, c1, c2, c3, c4⟩
theorem steps_open {fuel : Nat} {a : Option Addr} {len cap : Nat} {y : DataW H × List MemPlace} (h : DataW.trod enc Try.prog w base spare held fuel 22 [.slice a len cap] = some y) : ∃ ss, StepsIn w a len ss ∧ len ≤ maxLen := by
  rcases open_slice Try.underlying22 h with ⟨hcs, _⟩ | ⟨x, l, c, m, n, D, Pl, hcs, _, hl, hm, hmm, _, hi⟩
  · injection hcs with hcs
    injection hcs with e1 e2 e3
    subst e1 e2 e3
    exact ⟨[], ⟨rfl, .inl rfl⟩, Nat.zero_le _⟩
  · injection hcs with hcs
    injection hcs with e1 e2 e3
    subst e1 e2 e3
    have hml : len ≤ m := by rw [hmm]; split <;> omega
    have hex : ∀ i, ∃ s : St, i < len → StAt w x i s := fun i => by
      by_cases hlt : i < len
      · obtain ⟨cs', hc, ht⟩ := hi i (by omega)
        rw [cellsStep] at hc
        obtain ⟨s, hs⟩ := step_open hc ht
        exact ⟨s, fun _ => hs⟩
      · exact ⟨⟨0, 0, ⟨0, 0, 0⟩⟩, fun h => absurd h hlt⟩
    obtain ⟨f, hf⟩ := Classical.axiomOfChoice hex
    refine ⟨(List.range len).map f, ⟨by simp, .inr ⟨x, rfl, fun i hi => ?_⟩⟩, by omega⟩
    have hi' : i < len := by simpa using hi
    simpa using hf i hi'
end

end Go.Proofs.Ytnlpbldpbnlekaa
