/-
  Stamps read: Parse, plainly; what is read of a stamp's own text.
-/
import Derived.Test.YtijnmhiiojkcgaaDoorStH
import Derived.Test.YtijnmhiiojkcgaaDoorStD
import Derived.Test.YtijnmhiiojkcgaaDoorPure
set_option linter.unusedVariables false
namespace Go.Proofs.YtijnmhiiojkcgaaDoor
open Go.RowKit

/-- What has been read: three numbers, and at which one it is. -/
structure PS where
  x : Int
  y : Int
  z : Int
  k : Nat
def stp (st : PS) (r : Int) : Option PS :=
  if st.k = 0 then (if 48 ≤ r ∧ r ≤ 57 ∧ st.x ≤ 1125899906842624 then some ⟨10 * st.x + (r - 48), st.y, st.z, 0⟩ else if r = 46 then some ⟨st.x, st.y, st.z, 1⟩ else none)
  else if st.k = 1 then (if 48 ≤ r ∧ r ≤ 57 ∧ st.y ≤ 1125899906842624 then some ⟨st.x, 10 * st.y + (r - 48), st.z, 1⟩ else if r = 64 then some ⟨st.x, st.y, st.z, 2⟩ else none)
  else (if 48 ≤ r ∧ r ≤ 57 ∧ st.z ≤ 1125899906842624 then some ⟨st.x, st.y, 10 * st.z + (r - 48), 2⟩ else none)
theorem stp0 (x y z r : Int) : stp ⟨x, y, z, 0⟩ r = if 48 ≤ r ∧ r ≤ 57 ∧ x ≤ 1125899906842624 then some ⟨10 * x + (r - 48), y, z, 0⟩ else if r = 46 then some ⟨x, y, z, 1⟩ else none := rfl
theorem stp1 (x y z r : Int) : stp ⟨x, y, z, 1⟩ r = if 48 ≤ r ∧ r ≤ 57 ∧ y ≤ 1125899906842624 then some ⟨x, 10 * y + (r - 48), z, 1⟩ else if r = 64 then some ⟨x, y, z, 2⟩ else none := rfl
theorem stp2 (x y z r : Int) : stp ⟨x, y, z, 2⟩ r = if 48 ≤ r ∧ r ≤ 57 ∧ z ≤ 1125899906842624 then some ⟨x, y, 10 * z + (r - 48), 2⟩ else none := rfl
def run (o : Option PS) (l : List UInt8) : Option PS := l.foldl (fun o b => o.bind fun st => stp st (b.toNat : Int)) o
theorem run_none (l : List UInt8) : run none l = none := by
  induction l with
  | nil => rfl
  | cons b l ih => exact ih
theorem run_append (o : Option PS) (a b : List UInt8) : run o (a ++ b) = run (run o a) b := by simp [run]
theorem run_cons (st : PS) (b : UInt8) (l : List UInt8) : run (some st) (b :: l) = run (stp st (b.toNat : Int)) l := rfl
def start0 : PS := ⟨0, 0, 0, 0⟩
def stm (st : PS) : Sm := ⟨st.x, st.y, st.z⟩
/-- The stamp that a text is of. -/
def parseL (l : List UInt8) : Option Sm := (run (some start0) l).bind fun st => if soundB (stm st) = true ∧ textL (stm st) = l then some (stm st) else none

theorem run_take (l : List UInt8) (p : Nat) (st : PS) (hp : p < l.length) (h : run (some start0) (l.take p) = some st) :
    run (some start0) (l.take (p + 1)) = stp st ((l[p]'hp).toNat : Int) := by
  rw [List.take_add_one, List.getElem?_eq_getElem hp, run_append, h]
  rfl
theorem run_fail (l : List UInt8) (p : Nat) (st : PS) (hp : p < l.length) (h : run (some start0) (l.take p) = some st) (hf : stp st ((l[p]'hp).toNat : Int) = none) : parseL l = none := by
  have h1 := run_take l p st hp h
  rw [hf] at h1
  have h2 : run (some start0) l = none := by
    rw [← List.take_append_drop (p + 1) l, run_append, h1, run_none]
  unfold parseL
  rw [h2]
  rfl

/-- A text's rune at a place: its byte, where that is below 128; else what is no sign of a stamp's. -/
theorem ascii_at (s : ByteArray) (p : Nat) (hp : p < s.data.toList.length) :
    ((s.data.toList[p]'hp).toNat < 128 ∧ Utf8.decode s p = ((s.data.toList[p]'hp).toNat, 1)) ∨ (128 ≤ (s.data.toList[p]'hp).toNat ∧ 128 ≤ (Utf8.decode s p).1) := by
  rw [dec_at, dec_def]
  have e : (s.data.toList.drop p).getD 0 0 = s.data.toList[p]'hp := by
    rw [getD_drop, Nat.add_zero, List.getD_eq_getElem?_getD, List.getElem?_eq_getElem hp]; rfl
  rw [e]
  by_cases h : (s.data.toList[p]'hp).toNat < 128
  · left
    refine ⟨h, ?_⟩
    unfold Lib.decodeN
    rw [if_pos h]
  · right
    refine ⟨by omega, ?_⟩
    unfold Lib.decodeN
    rw [if_neg h]
    repeat' split
    all_goals (dsimp only; omega)

/-- What is held while a text is read. -/
structure ParAt (w wr : World) (st : PS) : Prop where
  res : wr.heap[w.heap.size]? = some (.cells #[.int .i64 0, .int .i64 0, .int .i64 0] 23 (0, 0))
  nums : wr.heap[w.heap.size + 1]? = some (.cells #[.int .i64 st.x, .int .i64 st.y, .int .i64 st.z] 55 (0, 0))
  below : Below w.heap.size w wr
  bx : 0 ≤ st.x ∧ st.x ≤ 11258999068426249
  by_ : 0 ≤ st.y ∧ st.y ≤ 11258999068426249
  bz : 0 ≤ st.z ∧ st.z ≤ 11258999068426249
theorem ParAt.step {w wr W : World} {st : PS} (h : ParAt w wr st) (hb : Below wr.heap.size wr W) : ParAt w W st :=
  ⟨box_below h.res hb (lt_of_block h.res), box_below h.nums hb (lt_of_block h.nums), h.below.trans (hb.mono h.below.size), h.bx, h.by_, h.bz⟩
theorem ParAt.other {w wr W : World} {st : PS} (h : ParAt w wr st) (h0 : W.heap[w.heap.size]? = wr.heap[w.heap.size]?) (h1 : W.heap[w.heap.size + 1]? = wr.heap[w.heap.size + 1]?) (hb : Below w.heap.size w W) : ParAt w W st :=
  ⟨h0.trans h.res, h1.trans h.nums, hb, h.bx, h.by_, h.bz⟩
def ParPost (o : Option Sm) (w : World) (e : Ending) (w' : World) : Prop :=
  e = .returned (.tuple #[.agg #[.int .i64 (o.getD ⟨0, 0, 0⟩).w, .int .i64 (o.getD ⟨0, 0, 0⟩).l, .int .i64 (o.getD ⟨0, 0, 0⟩).n], .bool o.isSome]) ∧ Below w.heap.size w w'

theorem txt_eq {s t : ByteArray} (h : s = t) : (s.toList == t.toList) = true := by rw [h]; exact beq_self_eq_true _
theorem txt_ne {s t : ByteArray} (h : ¬ s = t) : (s.toList == t.toList) = false := beq_false_of_ne fun e => h (by
  rw [ByteArray.toList_eq, ByteArray.toList_eq] at e
  exact ByteArray.ext (Array.toList_inj.1 e))

theorem box3 (x y z : Int) (k : Nat) (hk : k < 3) (v : Int) (W : World) (g : Nat) (t : TypeId) (h : W.heap[g]? = some (.cells #[.int .i64 x, .int .i64 y, .int .i64 z] t (0, 0))) :
    (W.setCell ⟨g, k, none⟩ (.int .i64 v)).heap[g]? = some (.cells #[.int .i64 (if k = 0 then v else x), .int .i64 (if k = 1 then v else y), .int .i64 (if k = 2 then v else z)] t (0, 0)) := by
  have := heap_setCell_same W g k _ t (.int .i64 v) h
  rw [this]
  rcases k with _ | _ | _ | k
  · rfl
  · rfl
  · rfl
  · omega
end Go.Proofs.YtijnmhiiojkcgaaDoor
