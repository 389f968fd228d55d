/-
  Arguments opened: texts, puts, a batch, an event, events, a stream, a stamp, numbers.
-/
import Derived.Test.YtggognmbjgkdfaaMkA
import Derived.Test.YtggognmbjgkdfaaEvC
import Derived.Deep.Slices
import Derived.Deep.Fields
import Derived.ChangeSlices
set_option linter.unusedVariables false
namespace Go.Proofs.Ytggognmbjgkdfaa
open Go.RowKit Go.ChangeShapes Go.WideShapes Go.Deep

theorem cellsInt : Try.prog.cellsOf 3 = 1 := by kernel_rfl
theorem cellsStr : Try.prog.cellsOf 9 = 1 := by kernel_rfl
theorem cellsStrs : Try.prog.cellsOf 69 = 1 := by kernel_rfl
theorem cellsPuts : Try.prog.cellsOf 22 = 1 := by kernel_rfl
theorem cellsEvs : Try.prog.cellsOf 50 = 1 := by kernel_rfl
theorem cellsKns : Try.prog.cellsOf 51 = 1 := by kernel_rfl
theorem cellsStamp : Try.prog.cellsOf 40 = 3 := by kernel_rfl
theorem cellsPut : Try.prog.cellsOf 71 = 3 := by kernel_rfl
theorem cellsEvent : Try.prog.cellsOf 42 = 7 := by kernel_rfl
theorem cellsKnown : Try.prog.cellsOf 99 = 5 := by kernel_rfl
theorem cellsBatch : Try.prog.cellsOf 24 = 2 := by kernel_rfl
theorem cellsStream : Try.prog.cellsOf 53 = 3 := by kernel_rfl

theorem two_of {α : Type} {l : List α} (h : l.length = 2) : ∃ a b, l = [a, b] := by
  match l, h with
  | [a, b], _ => exact ⟨a, b, rfl⟩
theorem three_of {α : Type} {l : List α} (h : l.length = 3) : ∃ a b c, l = [a, b, c] := by
  match l, h with
  | [a, b, c], _ => exact ⟨a, b, c, rfl⟩
theorem five_of {α : Type} {l : List α} (h : l.length = 5) : ∃ a b c d e, l = [a, b, c, d, e] := by
  match l, h with
  | [a, b, c, d, e], _ => exact ⟨a, b, c, d, e, rfl⟩
theorem seven_of {α : Type} {l : List α} (h : l.length = 7) : ∃ a b c d e f g, l = [a, b, c, d, e, f, g] := by
  match l, h with
  | [a, b, c, d, e, f, g], _ => exact ⟨a, b, c, d, e, f, g, rfl⟩
def InI (n : Int) : Prop := -9223372036854775808 ≤ n ∧ n ≤ 9223372036854775807
theorem ini_of {n : Int} (h : (Lit.int .i64 n).wf = true) : InI n := by
  simp [Lit.wf, IntKind.min, IntKind.max, IntKind.signed, IntKind.bits] at h
  exact ⟨by omega, by omega⟩
def SmI (a : Sm) : Prop := InI a.w ∧ InI a.l ∧ InI a.n

section
variable {H : Type} {enc : TypeId × Value → H} {w : World} {base : Nat} {spare : Nat → Bool} {held : Bool}
/-- A slice of elements, each opened by itself. -/
theorem slice_open {α : Type} [Inhabited α] (t e k : Nat) (hk : Try.prog.cellsOf e = k) (ht : Try.prog.underlying t = some (.slice e)) (At : Addr → Nat → α → Prop)
    (hel : ∀ {fuel : Nat} {x : Addr} {i : Nat} {cs : List Value} {y : DataW H × List MemPlace}, w.cells? base (x.add (i * k)) k = some cs → DataW.trod enc Try.prog w base spare held fuel e cs = some y → ∃ s : α, At x i s)
    {fuel : Nat} {v : Value} {y : DataW H × List MemPlace} (h : DataW.trod enc Try.prog w base spare held fuel t [v] = some y) :
    ∃ (a : Option Addr) (n c : Nat) (l : List α), v = .slice a n c ∧ l.length = n ∧ n ≤ c ∧ c ≤ maxLen ∧ (∀ i (hi : i < l.length), ∃ x, a = some x ∧ At x i (l[i]'hi)) := by
  rcases open_slice ht h with ⟨hcs, _⟩ | ⟨x, l, c, m, n, D, Pl, hcs, _, hl, hm, hmm, _, hi⟩
  · injection hcs with hcs
    exact ⟨none, 0, 0, [], hcs, rfl, Nat.le_refl _, Nat.zero_le _, fun i hi => by simp at hi⟩
  · injection hcs with hcs
    have hml : l ≤ m := by rw [hmm]; split <;> omega
    have hex : ∀ i, ∃ s : α, i < l → At x i s := fun i => by
      by_cases hlt : i < l
      · obtain ⟨cs', hc, ht⟩ := hi i (by omega)
        rw [hk] at hc
        obtain ⟨s, hs⟩ := hel hc ht
        exact ⟨s, fun _ => hs⟩
      · exact ⟨default, fun h => absurd h hlt⟩
    obtain ⟨f, hf⟩ := Classical.axiomOfChoice hex
    refine ⟨some x, l, c, (List.range l).map f, hcs, by simp, hl, hm, fun i hi => ⟨x, rfl, ?_⟩⟩
    have hi' : i < l := by simpa using hi
    simpa using hf i hi'

theorem str_cell {fuel : Nat} {x : Addr} {i : Nat} {cs : List Value} {y : DataW H × List MemPlace} (hc : w.cells? base (x.add (i * 1)) 1 = some cs) (h : DataW.trod enc Try.prog w base spare held fuel 9 cs = some y) :
    ∃ s : ByteArray, w.cell? (x.add i) = some (.string s) ∧ s.size ≤ maxLen := by
  obtain ⟨_, hcl, hat⟩ := World.cells?_some hc
  obtain ⟨s, e0, _, w0⟩ := DataW.trod_string Try.underlying9 h
  subst e0
  have c0 := hat 0 (by omega)
  rw [Go.Deep.add_add, Nat.mul_one, Nat.add_zero] at c0
  exact ⟨s, c0, w0⟩
theorem strs_open {fuel : Nat} {v : Value} {y : DataW H × List MemPlace} (h : DataW.trod enc Try.prog w base spare held fuel 69 [v] = some y) :
    ∃ (a : Option Addr) (n c : Nat) (l : List ByteArray), v = .slice a n c ∧ l.length = n ∧ n ≤ c ∧ c ≤ maxLen ∧ StrsIn w a l ∧ ∀ s ∈ l, s.size ≤ maxLen := by
  obtain ⟨a, n, c, l, h1, h2, h3, h4, h5⟩ := slice_open (α := ByteArray) 69 9 1 cellsStr Try.underlying69 (fun x i s => w.cell? (x.add i) = some (.string s) ∧ s.size ≤ maxLen) (fun hc ht => str_cell hc ht) h
  refine ⟨a, n, c, l, h1, h2, h3, h4, fun i hi => ?_, fun s hs => ?_⟩
  · obtain ⟨x, e, hx, _⟩ := h5 i hi
    exact ⟨x, e, hx⟩
  · obtain ⟨i, hi, rfl⟩ := List.getElem_of_mem hs
    obtain ⟨x, e, _, hx⟩ := h5 i hi
    exact hx

theorem int_cell {fuel : Nat} {x : Addr} {i : Nat} {cs : List Value} {y : DataW H × List MemPlace} (hc : w.cells? base (x.add (i * 1)) 1 = some cs) (h : DataW.trod enc Try.prog w base spare held fuel 3 cs = some y) :
    ∃ s : Int, w.cell? (x.add i) = some (.int .i64 s) ∧ InI s := by
  obtain ⟨_, hcl, hat⟩ := World.cells?_some hc
  obtain ⟨s, e0, _, w0⟩ := DataW.trod_int Try.underlying3 h
  subst e0
  have c0 := hat 0 (by omega)
  rw [Go.Deep.add_add, Nat.mul_one, Nat.add_zero] at c0
  exact ⟨s, c0, ini_of w0⟩
theorem ints_open {fuel : Nat} {v : Value} {y : DataW H × List MemPlace} (h : DataW.trod enc Try.prog w base spare held fuel 63 [v] = some y) :
    ∃ (a : Option Addr) (n c : Nat) (l : List Int), v = .slice a n c ∧ l.length = n ∧ n ≤ c ∧ c ≤ maxLen ∧ IntsIn w a l ∧ ∀ s ∈ l, InI s := by
  obtain ⟨a, n, c, l, h1, h2, h3, h4, h5⟩ := slice_open (α := Int) 63 3 1 cellsInt Try.underlying63 (fun x i s => w.cell? (x.add i) = some (.int .i64 s) ∧ InI s) (fun hc ht => int_cell hc ht) h
  refine ⟨a, n, c, l, h1, h2, h3, h4, fun i hi => ?_, fun s hs => ?_⟩
  · obtain ⟨x, e, hx, _⟩ := h5 i hi
    exact ⟨x, e, hx⟩
  · obtain ⟨i, hi, rfl⟩ := List.getElem_of_mem hs
    obtain ⟨x, e, _, hx⟩ := h5 i hi
    exact hx

set_option maxRecDepth 100000 in
theorem put_cells {fuel : Nat} {x : Addr} {i : Nat} {cs : List Value} {y : DataW H × List MemPlace} (hc : w.cells? base (x.add (i * 3)) 3 = some cs) (h : DataW.trod enc Try.prog w base spare held fuel 71 cs = some y) :
    ∃ p : Pt, ∃ b c, PtAt w x i p b c ∧ PtFit p ∧ InI p.e := by
  obtain ⟨_, hcl, hat⟩ := World.cells?_some hc
  obtain ⟨ys, n', _, _, _, hyl, hf⟩ := DataW.trod_struct Try.underlying71 h
  have hyl3 : ys.length = 3 := hyl
  obtain ⟨v0, v1, v2, rfl⟩ := three_of hcl
  obtain ⟨y0, y1, y2, rfl⟩ := three_of hyl3
  have h0 : DataW.trod enc Try.prog w base spare held n' 9 (([v0, v1, v2].drop 0).take (Try.prog.cellsOf 9)) = some y0 := hf 0 _ rfl
  have h1 : DataW.trod enc Try.prog w base spare held n' 3 (([v0, v1, v2].drop 1).take (Try.prog.cellsOf 3)) = some y1 := hf 1 _ rfl
  have h2 : DataW.trod enc Try.prog w base spare held n' 69 (([v0, v1, v2].drop 2).take (Try.prog.cellsOf 69)) = some y2 := hf 2 _ rfl
  rw [cellsStr] at h0
  rw [cellsInt] at h1
  rw [cellsStrs] at h2
  obtain ⟨s, e0, _, w0⟩ := DataW.trod_string Try.underlying9 (cs := [v0]) (x := y0) h0
  obtain ⟨e, e1, _, w1⟩ := DataW.trod_int Try.underlying3 (cs := [v1]) (x := y1) h1
  obtain ⟨b, n, c, l, rfl, rfl, k1, k2, k3, k4⟩ := strs_open (v := v2) (y := y2) h2
  injection e0 with e0
  injection e1 with e1
  subst e0 e1
  have c0 := hat 0 (by omega)
  have c1 := hat 1 (by omega)
  have c2 := hat 2 (by omega)
  rw [Go.Deep.add_add] at c0 c1 c2
  exact ⟨⟨s, e, l⟩, b, c, ⟨c0, c1, c2, k1, k3⟩, ⟨w0, by show l.length ≤ maxLen; omega, k4⟩, ini_of w1⟩
instance : Inhabited Pt := ⟨⟨⟨#[]⟩, 0, []⟩⟩
set_option maxRecDepth 100000 in
theorem puts_open {fuel : Nat} {v : Value} {y : DataW H × List MemPlace} (h : DataW.trod enc Try.prog w base spare held fuel 22 [v] = some y) :
    ∃ (a : Option Addr) (n c : Nat) (l : List Pt), v = .slice a n c ∧ l.length = n ∧ n ≤ c ∧ c ≤ maxLen ∧ PtsIn w a l ∧ ∀ p ∈ l, PtFit p ∧ InI p.e := by
  obtain ⟨a, n, c, l, h1, h2, h3, h4, h5⟩ := slice_open (α := Pt) 22 71 3 cellsPut Try.underlying22 (fun x i p => ∃ b c, PtAt w x i p b c ∧ PtFit p ∧ InI p.e) (fun hc ht => put_cells hc ht) h
  refine ⟨a, n, c, l, h1, h2, h3, h4, fun i hi => ?_, fun s hs => ?_⟩
  · obtain ⟨x, e, b, c, hx, _⟩ := h5 i hi
    exact ⟨x, b, c, e, hx⟩
  · obtain ⟨i, hi, rfl⟩ := List.getElem_of_mem hs
    obtain ⟨x, e, b, c, _, hx⟩ := h5 i hi
    exact hx

/-- A batch that came in. -/
structure BaIn (w : World) (b : Ba) (a : Option Addr) (n c : Nat) : Prop where
  len : b.p.length = n
  cap : n ≤ c
  at_ : PtsIn w a b.p
  fit : BaFit b
  ini : ∀ p ∈ b.p, InI p.e
set_option maxRecDepth 100000 in
theorem ba_open {r : Reach} {b0 : Nat} {v : Value} {d : DataW H} {p : List MemPlace} (hv : Value.okWide Try.prog w r b0 24 v) (h : DataW.Trod enc Try.prog w base spare held 24 v d p) :
    ∃ (b : Ba) (a : Option Addr) (n c : Nat), v = .agg #[.string b.k, .slice a n c] ∧ BaIn w b a n c := by
  obtain ⟨⟨l⟩, rfl, hsz⟩ := okWide_struct Try.underlying24 hv
  obtain ⟨fuel, hf0⟩ := h
  rw [cellsBatch] at hsz
  obtain ⟨v0, v1, rfl⟩ := two_of hsz
  obtain ⟨ys, n', _, _, _, hyl, hf⟩ := DataW.trod_struct Try.underlying24 hf0
  have hyl2 : ys.length = 2 := hyl
  obtain ⟨y0, y1, rfl⟩ := two_of hyl2
  have h0 : DataW.trod enc Try.prog w base spare held n' 9 (([v0, v1].drop 0).take (Try.prog.cellsOf 9)) = some y0 := hf 0 _ rfl
  have h1 : DataW.trod enc Try.prog w base spare held n' 22 (([v0, v1].drop 1).take (Try.prog.cellsOf 22)) = some y1 := hf 1 _ rfl
  rw [cellsStr] at h0
  rw [cellsPuts] at h1
  obtain ⟨s, e0, _, w0⟩ := DataW.trod_string Try.underlying9 (cs := [v0]) (x := y0) h0
  obtain ⟨a, n, c, l, rfl, rfl, k1, k2, k3, k4⟩ := puts_open (v := v1) (y := y1) h1
  injection e0 with e0
  subst e0
  exact ⟨⟨s, l⟩, a, l.length, c, rfl, ⟨rfl, k1, k3, ⟨w0, by show l.length ≤ maxLen; omega, fun p hp => (k4 p hp).1⟩, fun p hp => (k4 p hp).2⟩⟩

set_option maxRecDepth 100000 in
theorem sm_of {fuel : Nat} {cs : List Value} {y : DataW H × List MemPlace} (hcl : cs.length = 3) (h : DataW.trod enc Try.prog w base spare held fuel 40 cs = some y) :
    ∃ a : Sm, cs = [.int .i64 a.w, .int .i64 a.l, .int .i64 a.n] ∧ SmI a := by
  obtain ⟨ys, n', _, _, _, hyl, hf⟩ := DataW.trod_struct Try.underlying40 h
  have hyl3 : ys.length = 3 := hyl
  obtain ⟨v0, v1, v2, rfl⟩ := three_of hcl
  obtain ⟨y0, y1, y2, rfl⟩ := three_of hyl3
  have h0 : DataW.trod enc Try.prog w base spare held n' 3 (([v0, v1, v2].drop 0).take (Try.prog.cellsOf 3)) = some y0 := hf 0 _ rfl
  have h1 : DataW.trod enc Try.prog w base spare held n' 3 (([v0, v1, v2].drop 1).take (Try.prog.cellsOf 3)) = some y1 := hf 1 _ rfl
  have h2 : DataW.trod enc Try.prog w base spare held n' 3 (([v0, v1, v2].drop 2).take (Try.prog.cellsOf 3)) = some y2 := hf 2 _ rfl
  rw [cellsInt] at h0 h1 h2
  obtain ⟨f, e0, _, w0⟩ := DataW.trod_int Try.underlying3 (cs := [v0]) (x := y0) h0
  obtain ⟨t, e1, _, w1⟩ := DataW.trod_int Try.underlying3 (cs := [v1]) (x := y1) h1
  obtain ⟨g, e2, _, w2⟩ := DataW.trod_int Try.underlying3 (cs := [v2]) (x := y2) h2
  injection e0 with e0
  injection e1 with e1
  injection e2 with e2
  subst e0 e1 e2
  exact ⟨⟨f, t, g⟩, rfl, ini_of w0, ini_of w1, ini_of w2⟩
set_option maxRecDepth 100000 in
theorem sm_open {r : Reach} {b0 : Nat} {v : Value} {d : DataW H} {p : List MemPlace} (hv : Value.okWide Try.prog w r b0 40 v) (h : DataW.Trod enc Try.prog w base spare held 40 v d p) :
    ∃ a : Sm, v = .agg #[.int .i64 a.w, .int .i64 a.l, .int .i64 a.n] ∧ SmI a := by
  obtain ⟨⟨l⟩, rfl, hsz⟩ := okWide_struct Try.underlying40 hv
  obtain ⟨fuel, hf⟩ := h
  obtain ⟨a, ha, hi⟩ := sm_of (cs := l) (by rw [cellsStamp] at hsz; exact hsz) hf
  subst ha
  exact ⟨a, rfl, hi⟩

/-- An event's fit. -/
structure EvIn (e : Ev) : Prop where
  fit : EvFit e
  v : InI e.v
  i : InI e.i
  t : SmI e.t
set_option maxRecDepth 100000 in
theorem ev_of {fuel : Nat} {cs : List Value} {y : DataW H × List MemPlace} (hcl : cs.length = 7) (h : DataW.trod enc Try.prog w base spare held fuel 42 cs = some y) :
    ∃ a : Ev, cs = evCells a ∧ EvIn a := by
  obtain ⟨v0, v1, v2, v3, v4, v5, v6, rfl⟩ := seven_of hcl
  obtain ⟨ys, n', _, _, _, hyl, hf⟩ := DataW.trod_struct Try.underlying42 h
  have hyl3 : ys.length = 5 := hyl
  obtain ⟨y0, y1, y2, y3, y4, rfl⟩ := five_of hyl3
  have h0 : DataW.trod enc Try.prog w base spare held n' 9 (([v0, v1, v2, v3, v4, v5, v6].drop 0).take (Try.prog.cellsOf 9)) = some y0 := hf 0 _ rfl
  have h1 : DataW.trod enc Try.prog w base spare held n' 3 (([v0, v1, v2, v3, v4, v5, v6].drop 1).take (Try.prog.cellsOf 3)) = some y1 := hf 1 _ rfl
  have h2 : DataW.trod enc Try.prog w base spare held n' 9 (([v0, v1, v2, v3, v4, v5, v6].drop 2).take (Try.prog.cellsOf 9)) = some y2 := hf 2 _ rfl
  have h3 : DataW.trod enc Try.prog w base spare held n' 40 (([v0, v1, v2, v3, v4, v5, v6].drop 3).take (Try.prog.cellsOf 40)) = some y3 := hf 3 _ rfl
  have h4 : DataW.trod enc Try.prog w base spare held n' 3 (([v0, v1, v2, v3, v4, v5, v6].drop 6).take (Try.prog.cellsOf 3)) = some y4 := hf 4 _ rfl
  rw [cellsInt] at h1 h4
  rw [cellsStr] at h0 h2
  rw [cellsStamp] at h3
  obtain ⟨s, e0, _, w0⟩ := DataW.trod_string Try.underlying9 (cs := [v0]) (x := y0) h0
  obtain ⟨x1, e1, _, w1⟩ := DataW.trod_int Try.underlying3 (cs := [v1]) (x := y1) h1
  obtain ⟨x2, e2, _, w2⟩ := DataW.trod_string Try.underlying9 (cs := [v2]) (x := y2) h2
  obtain ⟨x3, e3, w3⟩ := sm_of (cs := [v3, v4, v5]) rfl h3
  obtain ⟨x4, e4, _, w4⟩ := DataW.trod_int Try.underlying3 (cs := [v6]) (x := y4) h4
  injection e0 with e0
  injection e1 with e1
  injection e2 with e2
  injection e4 with e4
  injection e3 with e3 e5
  injection e5 with e5 e6
  injection e6 with e6
  subst e0 e1 e2 e3 e4 e5 e6
  exact ⟨⟨s, x1, x2, x3, x4⟩, rfl, ⟨⟨w0, w2⟩, ini_of w1, ini_of w4, w3⟩⟩
set_option maxRecDepth 100000 in
theorem ev_open {r : Reach} {b0 : Nat} {v : Value} {d : DataW H} {p : List MemPlace} (hv : Value.okWide Try.prog w r b0 42 v) (h : DataW.Trod enc Try.prog w base spare held 42 v d p) :
    ∃ a : Ev, v = .agg #[.string a.s, .int .i64 a.v, .string a.d, .int .i64 a.t.w, .int .i64 a.t.l, .int .i64 a.t.n, .int .i64 a.i] ∧ EvIn a := by
  obtain ⟨⟨l⟩, rfl, hsz⟩ := okWide_struct Try.underlying42 hv
  obtain ⟨fuel, hf⟩ := h
  obtain ⟨a, ha, hi⟩ := ev_of (cs := l) (by rw [cellsEvent] at hsz; exact hsz) hf
  subst ha
  exact ⟨a, rfl, hi⟩
set_option maxRecDepth 100000 in
theorem ev_cells {fuel : Nat} {x : Addr} {i : Nat} {cs : List Value} {y : DataW H × List MemPlace} (hc : w.cells? base (x.add (i * 7)) 7 = some cs) (h : DataW.trod enc Try.prog w base spare held fuel 42 cs = some y) :
    ∃ e : Ev, EvAt w x i e ∧ EvIn e := by
  obtain ⟨_, hcl, hat⟩ := World.cells?_some hc
  obtain ⟨e, he, hi⟩ := ev_of hcl h
  subst he
  have c0 := hat 0 (by omega)
  have c1 := hat 1 (by omega)
  have c2 := hat 2 (by omega)
  have c3 := hat 3 (by omega)
  have c4 := hat 4 (by omega)
  have c5 := hat 5 (by omega)
  have c6 := hat 6 (by omega)
  rw [Go.Deep.add_add] at c0 c1 c2 c3 c4 c5 c6
  exact ⟨e, ⟨c0, c1, c2, c3, c4, c5, c6⟩, hi⟩
instance : Inhabited Ev := ⟨⟨⟨#[]⟩, 0, ⟨#[]⟩, ⟨0, 0, 0⟩, 0⟩⟩
set_option maxRecDepth 100000 in
theorem evs_open {fuel : Nat} {v : Value} {y : DataW H × List MemPlace} (h : DataW.trod enc Try.prog w base spare held fuel 50 [v] = some y) :
    ∃ (a : Option Addr) (n c : Nat) (l : List Ev), v = .slice a n c ∧ l.length = n ∧ n ≤ c ∧ c ≤ maxLen ∧ EvsIn w a l ∧ ∀ p ∈ l, EvIn p := by
  obtain ⟨a, n, c, l, h1, h2, h3, h4, h5⟩ := slice_open (α := Ev) 50 42 7 cellsEvent Try.underlying50 (fun x i p => EvAt w x i p ∧ EvIn p) (fun hc ht => ev_cells hc ht) h
  refine ⟨a, n, c, l, h1, h2, h3, h4, fun i hi => ?_, fun s hs => ?_⟩
  · obtain ⟨x, e, hx, _⟩ := h5 i hi
    exact ⟨x, e, hx⟩
  · obtain ⟨i, hi, rfl⟩ := List.getElem_of_mem hs
    obtain ⟨x, e, _, hx⟩ := h5 i hi
    exact hx

/-- What is known of a key: its fit. -/
structure KnIn (e : Kn) : Prop where
  k : e.k.size ≤ maxLen
  f : InI e.f
  t : SmI e.t
set_option maxRecDepth 100000 in
theorem kn_cells {fuel : Nat} {x : Addr} {i : Nat} {cs : List Value} {y : DataW H × List MemPlace} (hc : w.cells? base (x.add (i * 5)) 5 = some cs) (h : DataW.trod enc Try.prog w base spare held fuel 99 cs = some y) :
    ∃ e : Kn, KnAt w x i e ∧ KnIn e := by
  obtain ⟨_, hcl, hat⟩ := World.cells?_some hc
  obtain ⟨ys, n', _, _, _, hyl, hf⟩ := DataW.trod_struct Try.underlying99 h
  have hyl3 : ys.length = 3 := hyl
  obtain ⟨v0, v1, v2, v3, v4, rfl⟩ := five_of hcl
  obtain ⟨y0, y1, y2, rfl⟩ := three_of hyl3
  have h0 : DataW.trod enc Try.prog w base spare held n' 9 (([v0, v1, v2, v3, v4].drop 0).take (Try.prog.cellsOf 9)) = some y0 := hf 0 _ rfl
  have h1 : DataW.trod enc Try.prog w base spare held n' 3 (([v0, v1, v2, v3, v4].drop 1).take (Try.prog.cellsOf 3)) = some y1 := hf 1 _ rfl
  have h2 : DataW.trod enc Try.prog w base spare held n' 40 (([v0, v1, v2, v3, v4].drop 2).take (Try.prog.cellsOf 40)) = some y2 := hf 2 _ rfl
  rw [cellsStr] at h0
  rw [cellsInt] at h1
  rw [cellsStamp] at h2
  obtain ⟨s, e0, _, w0⟩ := DataW.trod_string Try.underlying9 (cs := [v0]) (x := y0) h0
  obtain ⟨x1, e1, _, w1⟩ := DataW.trod_int Try.underlying3 (cs := [v1]) (x := y1) h1
  obtain ⟨x3, e3, w3⟩ := sm_of (cs := [v2, v3, v4]) rfl h2
  injection e0 with e0
  injection e1 with e1
  injection e3 with e3 e5
  injection e5 with e5 e6
  injection e6 with e6
  subst e0 e1 e3 e5 e6
  have c0 := hat 0 (by omega)
  have c1 := hat 1 (by omega)
  have c2 := hat 2 (by omega)
  have c3 := hat 3 (by omega)
  have c4 := hat 4 (by omega)
  rw [Go.Deep.add_add] at c0 c1 c2 c3 c4
  exact ⟨⟨s, x1, x3⟩, ⟨c0, c1, c2, c3, c4⟩, ⟨w0, ini_of w1, w3⟩⟩
instance : Inhabited Kn := ⟨⟨⟨#[]⟩, 0, ⟨0, 0, 0⟩⟩⟩
set_option maxRecDepth 100000 in
theorem kns_open {fuel : Nat} {v : Value} {y : DataW H × List MemPlace} (h : DataW.trod enc Try.prog w base spare held fuel 51 [v] = some y) :
    ∃ (a : Option Addr) (n c : Nat) (l : List Kn), v = .slice a n c ∧ l.length = n ∧ n ≤ c ∧ c ≤ maxLen ∧ KnsIn w a l ∧ ∀ p ∈ l, KnIn p := by
  obtain ⟨a, n, c, l, h1, h2, h3, h4, h5⟩ := slice_open (α := Kn) 51 99 5 cellsKnown Try.underlying51 (fun x i p => KnAt w x i p ∧ KnIn p) (fun hc ht => kn_cells hc ht) h
  refine ⟨a, n, c, l, h1, h2, h3, h4, fun i hi => ?_, fun s hs => ?_⟩
  · obtain ⟨x, e, hx, _⟩ := h5 i hi
    exact ⟨x, e, hx⟩
  · obtain ⟨i, hi, rfl⟩ := List.getElem_of_mem hs
    obtain ⟨x, e, _, hx⟩ := h5 i hi
    exact hx

/-- A stream that came in. -/
structure SrIn (w : World) (s : Sr) (a : Option Addr) (n c : Nat) (b : Option Addr) (m d : Nat) : Prop where
  elen : s.e.length = n
  klen : s.k.length = m
  ecap : n ≤ c
  kcap : m ≤ d
  evs : EvsIn w a s.e
  kns : KnsIn w b s.k
  fit : SrFit s
  ei : ∀ e ∈ s.e, EvIn e
  ki : ∀ k ∈ s.k, KnIn k
set_option maxRecDepth 100000 in
theorem sr_open {r : Reach} {b0 : Nat} {v : Value} {d : DataW H} {p : List MemPlace} (hv : Value.okWide Try.prog w r b0 53 v) (h : DataW.Trod enc Try.prog w base spare held 53 v d p) :
    ∃ (s : Sr) (a : Option Addr) (n c : Nat) (b : Option Addr) (m d : Nat), v = .agg #[.string s.n, .slice a n c, .slice b m d] ∧ SrIn w s a n c b m d := by
  obtain ⟨⟨l⟩, rfl, hsz⟩ := okWide_struct Try.underlying53 hv
  obtain ⟨fuel, hf0⟩ := h
  rw [cellsStream] at hsz
  obtain ⟨v0, v1, v2, rfl⟩ := three_of hsz
  obtain ⟨ys, n', _, _, _, hyl, hf⟩ := DataW.trod_struct Try.underlying53 hf0
  have hyl3 : ys.length = 3 := hyl
  obtain ⟨y0, y1, y2, rfl⟩ := three_of hyl3
  have h0 : DataW.trod enc Try.prog w base spare held n' 9 (([v0, v1, v2].drop 0).take (Try.prog.cellsOf 9)) = some y0 := hf 0 _ rfl
  have h1 : DataW.trod enc Try.prog w base spare held n' 50 (([v0, v1, v2].drop 1).take (Try.prog.cellsOf 50)) = some y1 := hf 1 _ rfl
  have h2 : DataW.trod enc Try.prog w base spare held n' 51 (([v0, v1, v2].drop 2).take (Try.prog.cellsOf 51)) = some y2 := hf 2 _ rfl
  rw [cellsStr] at h0
  rw [cellsEvs] at h1
  rw [cellsKns] at h2
  obtain ⟨s, e0, _, w0⟩ := DataW.trod_string Try.underlying9 (cs := [v0]) (x := y0) h0
  obtain ⟨a, n, c, l, rfl, rfl, k1, k2, k3, k4⟩ := evs_open (v := v1) (y := y1) h1
  obtain ⟨b, m, d, q, rfl, rfl, j1, j2, j3, j4⟩ := kns_open (v := v2) (y := y2) h2
  injection e0 with e0
  subst e0
  exact ⟨⟨s, l, q⟩, a, l.length, c, b, q.length, d, rfl, ⟨rfl, rfl, k1, j1, k3, j3, ⟨w0, by show l.length ≤ maxLen; omega, by show q.length ≤ maxLen; omega, fun e he => (k4 e he).fit, fun k hk => (j4 k hk).k⟩, k4, j4⟩⟩
end

end Go.Proofs.Ytggognmbjgkdfaa
