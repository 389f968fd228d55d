/-
  A slice of steps that came in, with packets in them: what the walk is told of it, from how it reads.
-/
import Derived.Test.YtenpoolminfofaaNtT
import Derived.Deep.Slices
import Derived.Deep.Fields
import Derived.ChangeSlices
set_option linter.unusedVariables false
namespace Go.Proofs.Ytenpoolminfofaa
open Go.RowKit Go.ChangeShapes Go.WideShapes Go.Deep

theorem cellsStep : Try.prog.cellsOf 31 = 3 := by kernel_rfl
theorem cellsPkt : Try.prog.cellsOf 36 = 3 := by kernel_rfl
theorem cellsInt : Try.prog.cellsOf 3 = 1 := by kernel_rfl
theorem cellsByte : Try.prog.cellsOf 5 = 1 := by kernel_rfl
theorem cellsBs : Try.prog.cellsOf 34 = 1 := by kernel_rfl
theorem cellsPs : Try.prog.cellsOf 27 = 1 := by kernel_rfl

theorem three_of {α : Type} {l : List α} (h : l.length = 3) : ∃ a b c, l = [a, b, c] := by
  match l, h with
  | [a, b, c], _ => exact ⟨a, b, c, rfl⟩

section
variable {H : Type} {enc : TypeId × Value → H} {w : World} {base : Nat} {spare : Nat → Bool} {held : Bool}
theorem bytes_open {fuel : Nat} {v : Value} {y : DataW H × List MemPlace} (h : DataW.trod enc Try.prog w base spare held fuel 34 [v] = some y) :
    ∃ (a : Option Addr) (c : Nat) (l : List UInt8), v = .slice a l.length c ∧ Bts w a l ∧ (a = none → c = 0) := by
  rcases open_ints Try.underlying34 Try.underlying5 cellsByte h with ⟨hcs, _⟩ | ⟨x, l, c, zs, hcs, _, hl, hm, hz, _, hcell, hwz⟩
  · injection hcs with hcs
    exact ⟨none, 0, [], hcs, .inl rfl, fun _ => rfl⟩
  · injection hcs with hcs
    have hzl : l ≤ zs.length := by rw [hz]; split <;> omega
    have hlen : ((zs.take l).map fun n => UInt8.ofNat n.toNat).length = l := by simp; omega
    refine ⟨some x, c, (zs.take l).map fun n => UInt8.ofNat n.toNat, by rw [hlen]; exact hcs, .inr ⟨x, rfl, fun j hj => ?_⟩, fun h => by cases h⟩
    rw [hlen] at hj
    have hzj : j < zs.length := by omega
    rw [hcell j hzj]
    have hwf := hwz (zs[j]'hzj) (List.getElem_mem hzj)
    have hb : 0 ≤ zs[j]'hzj ∧ zs[j]'hzj < 256 := by
      simp [Lit.wf, IntKind.min, IntKind.max, IntKind.signed, IntKind.bits] at hwf
      omega
    simp only [List.getD_eq_getElem?_getD, List.getElem?_eq_getElem hzj, Option.getD_some, List.getElem_map, List.getElem_take]
    congr 2
    rw [UInt8.toNat_ofNat']
    omega
set_option maxRecDepth 100000 in
theorem packet_open {fuel : Nat} {x : Addr} {i : Nat} {cs : List Value} {y : DataW H × List MemPlace} (hc : w.cells? base (x.add (i * 3)) 3 = some cs) (h : DataW.trod enc Try.prog w base spare held fuel 36 cs = some y) : ∃ q : PkI, PkAt w x i q ∧ (q.1.1 = none → q.1.2 = 0) := by
  obtain ⟨_, hcl, hat⟩ := World.cells?_some hc
  obtain ⟨ys, n', _, _, _, hyl, hf⟩ := DataW.trod_struct Try.underlying36 h
  have hyl3 : ys.length = 3 := hyl
  obtain ⟨v0, v1, v2, rfl⟩ := three_of hcl
  obtain ⟨y0, y1, y2, rfl⟩ := three_of hyl3
  have h0 : DataW.trod enc Try.prog w base spare held n' 3 (([v0, v1, v2].drop 0).take (Try.prog.cellsOf 3)) = some y0 := hf 0 _ rfl
  have h1 : DataW.trod enc Try.prog w base spare held n' 3 (([v0, v1, v2].drop 1).take (Try.prog.cellsOf 3)) = some y1 := hf 1 _ rfl
  have h2 : DataW.trod enc Try.prog w base spare held n' 34 (([v0, v1, v2].drop 2).take (Try.prog.cellsOf 34)) = some y2 := hf 2 _ rfl
  rw [cellsInt] at h0 h1
  rw [cellsBs] at h2
  obtain ⟨f, e0, _, w0⟩ := DataW.trod_int Try.underlying3 (cs := [v0]) (x := y0) h0
  obtain ⟨t, e1, _, w1⟩ := DataW.trod_int Try.underlying3 (cs := [v1]) (x := y1) h1
  obtain ⟨a, c, l, e2, hb, hn⟩ := bytes_open (v := v2) (y := y2) h2
  injection e0 with e0
  injection e1 with e1
  subst e0 e1 e2
  have c0 := hat 0 (by omega)
  have c1 := hat 1 (by omega)
  have c2 := hat 2 (by omega)
  rw [Go.Deep.add_add] at c0 c1 c2
  exact ⟨((a, c), ⟨f, t, l⟩), ⟨c0, c1, c2, hb⟩, hn⟩
theorem packets_open {fuel : Nat} {v : Value} {y : DataW H × List MemPlace} (h : DataW.trod enc Try.prog w base spare held fuel 27 [v] = some y) :
    ∃ (a : Option Addr) (n c : Nat) (qs : List PkI), v = .slice a n c ∧ PksIn w a n qs ∧ (∀ q ∈ qs, q.1.1 = none → q.1.2 = 0) ∧ n ≤ maxLen := by
  rcases open_slice Try.underlying27 h with ⟨hcs, _⟩ | ⟨x, l, c, m, n, D, Pl, hcs, _, hl, hm, hmm, _, hi⟩
  · injection hcs with hcs
    exact ⟨none, 0, 0, [], hcs, ⟨rfl, .inl rfl⟩, fun q hq => (by cases hq), Nat.zero_le _⟩
  · injection hcs with hcs
    have hml : l ≤ m := by rw [hmm]; split <;> omega
    have hex : ∀ i, ∃ q : PkI, i < l → PkAt w x i q ∧ (q.1.1 = none → q.1.2 = 0) := fun i => by
      by_cases hlt : i < l
      · obtain ⟨cs', hc, ht⟩ := hi i (by omega)
        rw [cellsPkt] at hc
        obtain ⟨q, hq⟩ := packet_open hc ht
        exact ⟨q, fun _ => hq⟩
      · exact ⟨((none, 0), ⟨0, 0, []⟩), fun h => absurd h hlt⟩
    obtain ⟨f, hf⟩ := Classical.axiomOfChoice hex
    refine ⟨some x, l, c, (List.range l).map f, hcs, ⟨by simp, .inr ⟨x, rfl, fun i hi => ?_⟩⟩, fun q hq => ?_, by omega⟩
    · have hi' : i < l := by simpa using hi
      simpa using (hf i hi').1
    · obtain ⟨i, hi, rfl⟩ := List.mem_map.1 hq
      exact (hf i (List.mem_range.1 hi)).2
set_option maxRecDepth 100000 in
theorem step_open {fuel : Nat} {x : Addr} {i : Nat} {cs : List Value} {y : DataW H × List MemPlace} (hc : w.cells? base (x.add (i * 3)) 3 = some cs) (h : DataW.trod enc Try.prog w base spare held fuel 31 cs = some y) : ∃ s, SpAt w x i s := by
  obtain ⟨_, hcl, hat⟩ := World.cells?_some hc
  obtain ⟨ys, n', _, _, _, hyl, hf⟩ := DataW.trod_struct Try.underlying31 h
  have hyl3 : ys.length = 3 := hyl
  obtain ⟨v0, v1, v2, rfl⟩ := three_of hcl
  obtain ⟨y0, y1, y2, rfl⟩ := three_of hyl3
  have h0 : DataW.trod enc Try.prog w base spare held n' 3 (([v0, v1, v2].drop 0).take (Try.prog.cellsOf 3)) = some y0 := hf 0 _ rfl
  have h1 : DataW.trod enc Try.prog w base spare held n' 27 (([v0, v1, v2].drop 1).take (Try.prog.cellsOf 27)) = some y1 := hf 1 _ rfl
  have h2 : DataW.trod enc Try.prog w base spare held n' 3 (([v0, v1, v2].drop 2).take (Try.prog.cellsOf 3)) = some y2 := hf 2 _ rfl
  rw [cellsInt] at h0 h2
  rw [cellsPs] at h1
  obtain ⟨k, e0, _, w0⟩ := DataW.trod_int Try.underlying3 (cs := [v0]) (x := y0) h0
  obtain ⟨K, e2, _, w2⟩ := DataW.trod_int Try.underlying3 (cs := [v2]) (x := y2) h2
  obtain ⟨a, n, c, qs, e1, p1, p2, p3⟩ := packets_open (v := v1) (y := y1) h1
  injection e0 with e0
  injection e2 with e2
  subst e0 e1 e2
  have c0 := hat 0 (by omega)
  have c1 := hat 1 (by omega)
  have c2 := hat 2 (by omega)
  rw [Go.Deep.add_add] at c0 c1 c2
  exact ⟨⟨k, a, n, c, qs, K⟩, c0, c1, c2, p1, p2, p3⟩
theorem steps_open {fuel : Nat} {a : Option Addr} {len cap : Nat} {y : DataW H × List MemPlace} (h : DataW.trod enc Try.prog w base spare held fuel 22 [.slice a len cap] = some y) : ∃ ss, SpsIn w a len ss := by
  rcases open_slice Try.underlying22 h with ⟨hcs, _⟩ | ⟨x, l, c, m, n, D, Pl, hcs, _, hl, hm, hmm, _, hi⟩
  · injection hcs with hcs
    injection hcs with e1 e2 e3
    subst e1 e2 e3
    exact ⟨[], rfl, .inl rfl⟩
  · injection hcs with hcs
    injection hcs with e1 e2 e3
    subst e1 e2 e3
    have hml : len ≤ m := by rw [hmm]; split <;> omega
    have hex : ∀ i, ∃ s : Sp, i < len → SpAt w x i s := fun i => by
      by_cases hlt : i < len
      · obtain ⟨cs', hc, ht⟩ := hi i (by omega)
        rw [cellsStep] at hc
        obtain ⟨s, hs⟩ := step_open hc ht
        exact ⟨s, fun _ => hs⟩
      · exact ⟨⟨0, none, 0, 0, [], 0⟩, fun h => absurd h hlt⟩
    obtain ⟨f, hf⟩ := Classical.axiomOfChoice hex
    refine ⟨(List.range len).map f, by simp, .inr ⟨x, rfl, fun i hi => ?_⟩⟩
    have hi' : i < len := by simpa using hi
    simpa using hf i hi'
end

theorem NetPlays_walk (a0 : Option Addr) (len0 cap0 : Nat) (ss : List Sp) (w : World) (w0 : SpsIn w a0 len0 ss) :
    Calls Try.prog 3 #[.slice a0 len0 cap0] w (AwPost w) := NetPlays_body a0 len0 cap0 ss w w0

end Go.Proofs.Ytenpoolminfofaa
