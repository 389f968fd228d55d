/-
  Bytes that a slice holds; numbers' groups read and written; hashes: plain.
-/
import Derived.Test.YtojdphnggjgikaaProg
import Derived.Lib.VarintMem
import Derived.Lib.VarintBits
import Derived.Lib.AppendStr
import Derived.Lib.OthersKept
import Derived.Laws.OwnMore
import Derived.Laws.MakeOwn
import Derived.Laws.BytesArg
import Derived.Below
import Derived.WalkKit
set_option linter.unusedVariables false
namespace Go.Proofs.Ytojdphnggjgikaa
open Go.RowKit

/-- What the walk is told of a slice of numbers that came in. -/
def RowIn (k : IntKind) (w : World) (a : Option Addr) (len cap : Nat) (zs : List Int) : Prop :=
  (a = none ∧ len = 0 ∧ cap = 0 ∧ zs = []) ∨
  ∃ x, a = some x ∧ len ≤ cap ∧ cap ≤ maxLen ∧ zs.length = cap ∧ (∀ i, i < zs.length → w.cell? (x.add i) = some (.int k (zs.getD i 0))) ∧ ∀ n ∈ zs, (Lit.int k n).wf = true

/-- A slice at a holds the bytes l. -/
def Bts (w : World) (a : Option Addr) (l : List UInt8) : Prop :=
  l = [] ∨ ∃ x, a = some x ∧ ∀ j (hj : j < l.length), w.cell? (x.add j) = some (.int .u8 (l[j]'hj).toNat)

theorem add_blk (a : Addr) (n : Nat) : (a.add n).block = a.block := by unfold Addr.add; split <;> rfl
theorem add_two (a : Addr) (i j : Nat) : (a.add i).add j = a.add (i + j) := by
  unfold Addr.add
  by_cases hi : i = 0 <;> by_cases hj : j = 0 <;> simp [hi, hj, Nat.add_assoc]

theorem Bts.at {w : World} {a : Option Addr} {l : List UInt8} (h : Bts w a l) (j : Nat) (hj : j < l.length) : ∃ x, a = some x ∧ w.cell? (x.add j) = some (.int .u8 (l[j]'hj).toNat) := by
  rcases h with rfl | ⟨x, rfl, hc⟩
  · simp at hj
  · exact ⟨x, rfl, hc j hj⟩

theorem Bts.nil (w : World) (a : Option Addr) : Bts w a [] := .inl rfl

theorem Bts.later {w w' : World} {a : Option Addr} {l : List UInt8} (h : Bts w a l) (hb : Below w.heap.size w w') : Bts w' a l := by
  rcases h with h | ⟨x, rfl, hc⟩
  · exact .inl h
  · exact .inr ⟨x, rfl, fun j hj => (hb.cell (World.block_lt_of_cell? w _ (hc j hj))).trans (hc j hj)⟩

theorem Bts.base {w w1 w2 : World} {a : Option Addr} {l : List UInt8} (h : Bts w1 a l) (hb : Below w1.heap.size w1 w2) : Bts w2 a l := h.later hb

theorem byteCells_at (l : List UInt8) (j : Nat) (hj : j < l.length) : (Lib.byteCells l)[j]? = some (.int .u8 (l[j]'hj).toNat) := by
  simp [Lib.byteCells, List.getElem?_eq_getElem hj]

theorem Bts.own {w : World} {B : Nat} {e : TypeId} {a : Option Addr} {n cap : Nat} {l : List UInt8} (h : w.ownsRow B e 1 (.slice a n cap) n (Lib.byteCells l)) : Bts w a l := by
  rcases h.2 with ⟨hv, hn⟩ | ⟨g, cap', cur, hv, _⟩
  · refine .inl (List.length_eq_zero_iff.1 ?_)
    have := h.1
    rw [Lib.byteCells_length] at this
    omega
  · injection hv with h1 h2 h3
    subst h1
    exact .inr ⟨_, rfl, fun j hj => h.cells (g := g) rfl j _ (byteCells_at l j hj)⟩

theorem own_size {w : World} {B : Nat} {e : TypeId} {v : Value} {n : Nat} {l : List UInt8} (h : w.ownsRow B e 1 v n (Lib.byteCells l)) : l.length = n := by
  have := h.1
  rw [Lib.byteCells_length] at this
  omega

theorem Bts.cells {w : World} {x : Addr} {l : List UInt8} (h : Bts w (some x) l) : ∀ j u, (Lib.byteCells l)[j]? = some u → w.cell? (x.add j) = some u := by
  intro j u hu
  have hj : j < l.length := by
    have := (List.getElem?_eq_some_iff.1 hu).1
    rwa [Lib.byteCells_length] at this
  obtain ⟨y, hy, hc⟩ := h.at j hj
  injection hy with hy
  subst hy
  rw [byteCells_at l j hj] at hu
  injection hu with hu
  rw [hc, hu]

theorem byteCells_one (l : List UInt8) : ∀ u ∈ Lib.byteCells l, u.oneCell' = true := by
  intro u hu
  simp only [Lib.byteCells, List.mem_map] at hu
  obtain ⟨b, _, rfl⟩ := hu
  rfl

/-- A slice that came in holds bytes. -/
theorem RowIn.bts {w : World} {a : Option Addr} {len cap : Nat} {zs : List Int} (h : RowIn .u8 w a len cap zs) :
    ∃ l : List UInt8, l.length = len ∧ Bts w a l ∧ len ≤ cap ∧ cap ≤ maxLen ∧ (a = none → cap = 0) := by
  rcases h with ⟨rfl, rfl, rfl, rfl⟩ | ⟨x, rfl, h1, h2, h3, h4, h5⟩
  · exact ⟨[], rfl, .inl rfl, Nat.le_refl _, Nat.zero_le _, fun _ => rfl⟩
  · refine ⟨(zs.take len).map fun n => UInt8.ofNat n.toNat, by simp; omega, .inr ⟨x, rfl, fun j hj => ?_⟩, h1, h2, fun h => by cases h⟩
    have hl : j < len := by simp at hj; omega
    have hz : j < zs.length := by omega
    rw [h4 j hz]
    have hwf := h5 (zs[j]'hz) (List.getElem_mem hz)
    have hb : 0 ≤ zs[j]'hz ∧ zs[j]'hz < 256 := by
      simp [Lit.wf, IntKind.min, IntKind.max, IntKind.signed, IntKind.bits] at hwf
      omega
    simp only [List.getD_eq_getElem?_getD, List.getElem?_eq_getElem hz, Option.getD_some, List.getElem_map, List.getElem_take]
    congr 2
    rw [UInt8.toNat_ofNat']
    omega

/-- A slice of a slice. -/
theorem Bts.drop {w : World} {x : Addr} {l : List UInt8} (h : Bts w (some x) l) (k : Nat) : Bts w (some (x.add k)) (l.drop k) := by
  rcases h with rfl | ⟨y, hy, hc⟩
  · exact .inl (by simp)
  · injection hy with hy
    subst hy
    refine .inr ⟨_, rfl, fun j hj => ?_⟩
    rw [add_two]
    have : k + j < l.length := by simp at hj; omega
    rw [hc _ this]
    simp
theorem Bts.take {w : World} {a : Option Addr} {l : List UInt8} (h : Bts w a l) (k : Nat) : Bts w a (l.take k) := by
  rcases h with rfl | ⟨y, hy, hc⟩
  · exact .inl (by simp)
  · refine .inr ⟨y, hy, fun j hj => ?_⟩
    have : j < l.length := by simp at hj; omega
    rw [hc _ this]
    simp

/-- Reading a number: k bytes are read, acc is what they spell. -/
def unvF (k acc : Nat) : List UInt8 → Nat × Nat
  | [] => (0, 0)
  | b :: r =>
    if k = 9 ∧ 1 < b.toNat then (0, 0)
    else if 128 ≤ b.toNat then unvF (k + 1) (acc + b.toNat % 128 * 2 ^ (7 * k)) r
    else if b.toNat = 0 ∧ 0 < k then (0, 0)
    else (acc + b.toNat * 2 ^ (7 * k), k + 1)
def unv (l : List UInt8) : Nat × Nat := unvF 0 0 l

end Go.Proofs.Ytojdphnggjgikaa
