/-
  The reference's disk: the row behind one append (what put needs).
-/
import Derived.Test.YtbolminblofhgaaDkD
import Derived.Deep.RegionHeld3
import Derived.Deep.RegionLaw
import Derived.Deep.AppendLies
import Derived.Deep.DeepCutAuto
set_option linter.unusedVariables false
namespace Go.Proofs.Ytbolminblofhgaa
open Go.RowKit

theorem alloc_cell {W : World} {a : Addr} {v : Value} (h : W.cell? a = some v) (o : Obj) : (W.alloc o).cell? a = some v := by
  have hlt := World.block_lt_of_cell? W _ h
  rw [World.cell?_of_block (w := W) (Below.heap_alloc W o a.block hlt)]; exact h
theorem alloc_frozen {W : World} {a : Addr} {v : Value} (h : W.cell? a = some v) (hf : W.frozen? a = false) (o : Obj) : (W.alloc o).frozen? a = false := by
  have hlt := World.block_lt_of_cell? W _ h
  rw [World.frozen?_of_block (w := W) (Below.heap_alloc W o a.block hlt)]; exact hf
theorem grown_cell {W W' : World} {row : Option Nat} {a : Addr} {v : Value} (hg : W.grownBy W' row) (h : W.cell? a = some v) (hr : some a.block ≠ row) : W'.cell? a = some v := by
  have hlt := World.block_lt_of_cell? W _ h
  rw [World.cell?_of_block (w := W) (hg.block a.block hlt hr)]; exact h
theorem grown_frozen {W W' : World} {row : Option Nat} {a : Addr} {v : Value} (hg : W.grownBy W' row) (h : W.cell? a = some v) (hf : W.frozen? a = false) (hr : some a.block ≠ row) : W'.frozen? a = false := by
  have hlt := World.block_lt_of_cell? W _ h
  rw [World.frozen?_of_block (w := W) (hg.block a.block hlt hr)]; exact hf

theorem DkAt.mkRow {w : World} {B g : Nat} {v v' : Value} {Q' : List (Value × RF)} {M : RD} (hB : B ≤ g) (hg : w.heap[g]? = some (.cells #[.int .i64 M.room, v, .int .i64 M.n, .int .i64 M.last] 65 (0, 0))) (ho : w.ownsRow B 88 3 v' Q'.length (rowOf fC Q')) (hb : ∀ q ∈ Q', w.ownsRow B 5 1 q.1 q.2.b.length (Lib.byteCells q.2.b)) (L' : List RF) (hL : Q'.map Prod.snd = L') :
    DkAt (w.setCell ⟨g, 1, none⟩ v') B g v' Q' { M with L := L' } :=
  ⟨hB, hL, heap_setCell_same _ g 1 _ _ _ hg, ownsRow_setCell_other ho (own_ne hg ho (by decide)) _, fun q hq => ownsRow_setCell_other (hb q hq) (own_ne hg (hb q hq) (by decide)) _⟩

/-- The row behind 'append' of one file. -/
theorem DkAt.appended {w W0 X w3 : World} {B g gg cap cp : Nat} {a : Option Addr} {Q : List (Value × RF)} {M : RD} (q : Value × RF) (h : DkAt w B g (.slice a Q.length cp) Q M) (K0 : Kept (fun _ => False) w W0) (KX : Kept (fun _ => False) W0 X) (hf : w.ownsRow B 5 1 q.1 q.2.b.length (Lib.byteCells q.2.b))
    (ho : w3.ownsRow B 88 3 (.slice (some ⟨gg, 0, none⟩) (Q.length + 1) cap) (Q.length + 1) (rowOf fC Q ++ fC q)) (hg : X.grownBy w3 (Value.slice a Q.length cp).ownBlock) (hat : (Value.slice a Q.length cp).ownBlock = some gg ∨ w.heap.size ≤ gg) :
    DkAt (w3.setCell ⟨g, 1, none⟩ (.slice (some ⟨gg, 0, none⟩) (Q.length + 1) cap)) B g (.slice (some ⟨gg, 0, none⟩) (Q.length + 1) cap) (Q ++ [q]) { M with L := M.L ++ [q.2] } ∧
    Kept (DkS g (.slice a Q.length cp)) w (w3.setCell ⟨g, 1, none⟩ (.slice (some ⟨gg, 0, none⟩) (Q.length + 1) cap)) := by
  have K1 : Kept (fun i => (Value.slice a Q.length cp).ownBlock = some i) w w3 := ((K0.trans KX (fun _ _ h => h)).mono (T := fun i => (Value.slice a Q.length cp).ownBlock = some i) (fun _ _ h => h.elim)).grown hg (fun i hi _ => hi)
  have hg3 := (K1.block g h.lt (fun e => h.apart e)).trans h.2.2.1
  have hfB : ∀ k, q.1.ownBlock = some k → ¬ (Value.slice a Q.length cp).ownBlock = some k := fun k e e2 => by
    have := own_lt hf k e
    rcases h.2.2.2.1.2 with ⟨hv, _⟩ | ⟨g2, cap2, cur2, hv2, _, hg2, _⟩
    · rw [hv] at e2; cases e2
    · have e3 : g2 = k := by rw [hv2] at e2; injection e2
      subst e3
      exact own_ne hg2 hf (by decide) e
  refine ⟨DkAt.mkRow h.1 hg3 ?_ ?_ _ ?_, (K1.mono (T := DkS g (.slice a Q.length cp)) (fun _ _ e => .inr e)).setCell (p := ⟨g, 1, none⟩) (fun _ => .inl rfl) _⟩
  · rw [List.length_append, rowOf_append, rowOf_one]; exact ho
  · intro x hx
    rcases List.mem_append.1 hx with hm | hm
    · exact Kept.own (h.2.2.2.2 x hm) K1 (fun k e e2 => h.apartB x hm k e (.inr e2))
    · simp only [List.mem_singleton] at hm
      subst hm
      exact Kept.own hf K1 hfB
  · rw [List.map_append, h.2.1]; rfl

def fV (q : Value × RF) : Value := .agg #[.string q.2.nm, q.1, .int .i64 q.2.s]

end Go.Proofs.Ytbolminblofhgaa
