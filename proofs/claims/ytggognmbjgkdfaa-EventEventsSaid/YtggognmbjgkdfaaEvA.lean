/-
  Events, puts, batches, streams: plainly, and as they lie.
-/
import Derived.Test.YtggognmbjgkdfaaStB
set_option linter.unusedVariables false
namespace Go.Proofs.Ytggognmbjgkdfaa
open Go.RowKit

/-- A put, a batch, an event, what is known of a key, a stream. -/
structure Pt where
  s : ByteArray
  e : Int
  d : List ByteArray
structure Ba where
  k : ByteArray
  p : List Pt
structure Ev where
  s : ByteArray
  v : Int
  d : ByteArray
  t : Sm
  i : Int
structure Kn where
  k : ByteArray
  f : Int
  t : Sm
structure Sr where
  n : ByteArray
  e : List Ev
  k : List Kn

/-- Texts that lie in a row. -/
def StrsIn (w : World) (a : Option Addr) (l : List ByteArray) : Prop :=
  ∀ j (hj : j < l.length), ∃ x, a = some x ∧ w.cell? (x.add j) = some (.string (l[j]'hj))
structure PtAt (w : World) (x : Addr) (i : Nat) (p : Pt) (b : Option Addr) (c : Nat) : Prop where
  c0 : w.cell? (x.add (i * 3)) = some (.string p.s)
  c1 : w.cell? (x.add (i * 3 + 1)) = some (.int .i64 p.e)
  c2 : w.cell? (x.add (i * 3 + 2)) = some (.slice b p.d.length c)
  le : p.d.length ≤ c
  ds : StrsIn w b p.d
def PtsIn (w : World) (a : Option Addr) (ps : List Pt) : Prop :=
  ∀ i (hi : i < ps.length), ∃ x b c, a = some x ∧ PtAt w x i (ps[i]'hi) b c
structure EvAt (w : World) (x : Addr) (i : Nat) (e : Ev) : Prop where
  c0 : w.cell? (x.add (i * 7)) = some (.string e.s)
  c1 : w.cell? (x.add (i * 7 + 1)) = some (.int .i64 e.v)
  c2 : w.cell? (x.add (i * 7 + 2)) = some (.string e.d)
  c3 : w.cell? (x.add (i * 7 + 3)) = some (.int .i64 e.t.w)
  c4 : w.cell? (x.add (i * 7 + 4)) = some (.int .i64 e.t.l)
  c5 : w.cell? (x.add (i * 7 + 5)) = some (.int .i64 e.t.n)
  c6 : w.cell? (x.add (i * 7 + 6)) = some (.int .i64 e.i)
def EvsIn (w : World) (a : Option Addr) (l : List Ev) : Prop :=
  ∀ i (hi : i < l.length), ∃ x, a = some x ∧ EvAt w x i (l[i]'hi)
structure KnAt (w : World) (x : Addr) (i : Nat) (k : Kn) : Prop where
  c0 : w.cell? (x.add (i * 5)) = some (.string k.k)
  c1 : w.cell? (x.add (i * 5 + 1)) = some (.int .i64 k.f)
  c2 : w.cell? (x.add (i * 5 + 2)) = some (.int .i64 k.t.w)
  c3 : w.cell? (x.add (i * 5 + 3)) = some (.int .i64 k.t.l)
  c4 : w.cell? (x.add (i * 5 + 4)) = some (.int .i64 k.t.n)
def KnsIn (w : World) (a : Option Addr) (l : List Kn) : Prop :=
  ∀ i (hi : i < l.length), ∃ x, a = some x ∧ KnAt w x i (l[i]'hi)

theorem cell_later {w w' : World} (hb : Below w.heap.size w w') {a : Addr} {u : Value} (hc : w.cell? a = some u) : w'.cell? a = some u := (hb.cell (World.block_lt_of_cell? w _ hc)).trans hc
theorem StrsIn.later {w w' : World} {a : Option Addr} {l : List ByteArray} (h : StrsIn w a l) (hb : Below w.heap.size w w') : StrsIn w' a l := fun j hj => by
  obtain ⟨x, hx, hc⟩ := h j hj
  exact ⟨x, hx, cell_later hb hc⟩
theorem PtAt.later {w w' : World} {x : Addr} {i : Nat} {p : Pt} {b : Option Addr} {c : Nat} (h : PtAt w x i p b c) (hb : Below w.heap.size w w') : PtAt w' x i p b c :=
  ⟨cell_later hb h.c0, cell_later hb h.c1, cell_later hb h.c2, h.le, h.ds.later hb⟩
theorem PtsIn.later {w w' : World} {a : Option Addr} {ps : List Pt} (h : PtsIn w a ps) (hb : Below w.heap.size w w') : PtsIn w' a ps := fun i hi => by
  obtain ⟨x, b, c, hx, hp⟩ := h i hi
  exact ⟨x, b, c, hx, hp.later hb⟩
theorem EvAt.later {w w' : World} {x : Addr} {i : Nat} {e : Ev} (h : EvAt w x i e) (hb : Below w.heap.size w w') : EvAt w' x i e :=
  ⟨cell_later hb h.c0, cell_later hb h.c1, cell_later hb h.c2, cell_later hb h.c3, cell_later hb h.c4, cell_later hb h.c5, cell_later hb h.c6⟩
theorem EvsIn.later {w w' : World} {a : Option Addr} {l : List Ev} (h : EvsIn w a l) (hb : Below w.heap.size w w') : EvsIn w' a l := fun i hi => by
  obtain ⟨x, hx, hp⟩ := h i hi
  exact ⟨x, hx, hp.later hb⟩
theorem KnAt.later {w w' : World} {x : Addr} {i : Nat} {e : Kn} (h : KnAt w x i e) (hb : Below w.heap.size w w') : KnAt w' x i e :=
  ⟨cell_later hb h.c0, cell_later hb h.c1, cell_later hb h.c2, cell_later hb h.c3, cell_later hb h.c4⟩
theorem KnsIn.later {w w' : World} {a : Option Addr} {l : List Kn} (h : KnsIn w a l) (hb : Below w.heap.size w w') : KnsIn w' a l := fun i hi => by
  obtain ⟨x, hx, hp⟩ := h i hi
  exact ⟨x, hx, hp.later hb⟩

end Go.Proofs.Ytggognmbjgkdfaa
