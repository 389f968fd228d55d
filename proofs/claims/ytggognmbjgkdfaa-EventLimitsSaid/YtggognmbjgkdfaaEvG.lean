/-
  Rows of texts, of puts, that a call owns.
-/
import Derived.Test.YtggognmbjgkdfaaMkC
set_option linter.unusedVariables false
namespace Go.Proofs.Ytggognmbjgkdfaa
open Go.RowKit

def strC (l : List ByteArray) : List Value := l.map Value.string
theorem strC_app (a b : List ByteArray) : strC a ++ strC b = strC (a ++ b) := by simp [strC]
theorem strC_one (l : List ByteArray) : ∀ u ∈ strC l, u.oneCell' = true := by
  intro u hu
  obtain ⟨s, _, rfl⟩ := List.mem_map.1 hu
  rfl
theorem infoStr : (Try.prog.info? 9).map (fun i => (i.zero, i.size, i.bytes)) = some (some (.string ⟨#[]⟩), 1, 16) := by kernel_rfl
theorem infoPut : (Try.prog.info? 71).map (fun i => (i.zero, i.size, i.bytes)) = some (some (.agg #[.string ⟨#[]⟩, .int .i64 0, .slice none 0 0]), 3, 48) := by kernel_rfl
theorem strs_of_own {w : World} {B n c : Nat} {a : Option Addr} {l : List ByteArray} (h : w.ownsRow B 9 1 (.slice a n c) n (strC l)) (hl : l.length = n) : StrsIn w a l := by
  intro i hi
  rcases h.2 with ⟨hv, hn⟩ | ⟨g, cap, cur, hv, hb, _⟩
  · omega
  · injection hv with e1 e2 e3
    subst e1
    refine ⟨_, rfl, ?_⟩
    rw [add0, h.cellAt i (by omega)]
    simp [strC, List.getElem?_eq_getElem hi]

theorem own_apart {W : World} {B B' k k' n n' : Nat} {t t' : TypeId} {v v' : Value} {xs xs' : List Value} (h : W.ownsRow B t k v n xs) (h' : W.ownsRow B' t' k' v' n' xs') (hne : t ≠ t') : v.ownBlock = none ∨ v.ownBlock ≠ v'.ownBlock := by
  rcases h.2 with ⟨hv, _⟩ | ⟨g, cap, cur, hv, _, hg, _⟩
  · left; rw [hv]; rfl
  · right
    rcases h'.2 with ⟨hv', _⟩ | ⟨g', cap', cur', hv', _, hg', _⟩
    · rw [hv, hv']; intro e; simp [Value.ownBlock] at e
    · rw [hv, hv']
      intro e
      simp [Value.ownBlock] at e
      rw [e, hg'] at hg
      simp at hg
      exact hne hg.2.symm

/-- A put with the slice of its data. -/
def ptC (q : Value × Pt) : List Value := [.string q.2.s, .int .i64 q.2.e, q.1]
theorem ptC_len (q : Value × Pt) : (ptC q).length = 3 := rfl
def PtOwn (w : World) (B : Nat) (q : Value × Pt) : Prop := w.ownsRow B 9 1 q.1 q.2.d.length (strC q.2.d)
theorem PtOwn.slice {w : World} {B : Nat} {q : Value × Pt} (h : PtOwn w B q) : ∃ a c, q.1 = .slice a q.2.d.length c := own_slice h
theorem ptC_one {w : World} {B : Nat} {q : Value × Pt} (h : PtOwn w B q) : ∀ u ∈ ptC q, u.oneCell' = true := by
  obtain ⟨a, c, hv⟩ := h.slice
  intro u hu
  simp only [ptC, List.mem_cons, List.mem_nil_iff, or_false] at hu
  rcases hu with rfl | rfl | rfl
  · rfl
  · rfl
  · rw [hv]; rfl
structure PtsOwn (w : World) (B : Nat) (v : Value) (n : Nat) (Q : List (Value × Pt)) : Prop where
  len : Q.length = n
  row : w.ownsRow B 71 3 v n (rowOf ptC Q)
  each : ∀ q ∈ Q, PtOwn w B q
theorem PtsOwn.later {w w' : World} {B n : Nat} {v : Value} {Q : List (Value × Pt)} (h : PtsOwn w B v n Q) (hb : Below w.heap.size w w') : PtsOwn w' B v n Q :=
  ⟨h.len, ownsLater h.row hb, fun q hq => ownsLater (h.each q hq) hb⟩
theorem PtsOwn.low {w : World} {B B' n : Nat} {v : Value} {Q : List (Value × Pt)} (h : PtsOwn w B v n Q) (hB : B' ≤ B) : PtsOwn w B' v n Q :=
  ⟨h.len, own_low h.row hB, fun q hq => own_low (h.each q hq) hB⟩
theorem PtsOwn.nil (w : World) (B : Nat) : PtsOwn w B (.slice none 0 0) 0 [] := ⟨rfl, World.ownsRow_nil _ _ _ _, fun q hq => by cases hq⟩
theorem PtsOwn.app {W W3 : World} {B n : Nat} {v v3 : Value} {Q : List (Value × Pt)} {q : Value × Pt} {o : Obj} (h : PtsOwn W B v n Q) (hq : PtOwn W B q) (o3 : W3.ownsRow B 71 3 v3 (n + 1) (rowOf ptC Q ++ ptC q)) (g3 : (W.alloc o).grownBy W3 v.ownBlock) : PtsOwn W3 B v3 (n + 1) (Q ++ [q]) := by
  have hk : ∀ r, PtOwn W B r → PtOwn W3 B r := fun r hr => (World.ownsRow.alloc hr o).kept g3 (own_apart (World.ownsRow.alloc hr o) (h.row.alloc o) (by decide))
  refine ⟨by rw [List.length_append, h.len]; rfl, by rw [rowOf_append, rowOf_one]; exact o3, fun r hr => ?_⟩
  rcases List.mem_append.1 hr with hr | hr
  · exact hk r (h.each r hr)
  · rw [List.mem_singleton] at hr
    subst hr
    exact hk _ hq
theorem PtsOwn.ptsIn {w : World} {B n c : Nat} {a : Option Addr} {Q : List (Value × Pt)} (h : PtsOwn w B (.slice a n c) n Q) : PtsIn w a (Q.map Prod.snd) := by
  intro i hi
  have hi' : i < Q.length := by simpa using hi
  obtain ⟨g, cap, hv, _, hc⟩ := own_cells h.row ptC_len h.len (by intro e; rw [e] at hi'; simp at hi')
  injection hv with e1 _ _
  subst e1
  have f := fun j hj => hc i hi' j hj
  have hq := h.each _ (List.getElem_mem hi')
  obtain ⟨b, d, hbd⟩ := hq.slice
  refine ⟨⟨g, 0, none⟩, b, d, rfl, ?_⟩
  rw [List.getElem_map]
  have hr : w.ownsRow B 9 1 (.slice b (Q[i]'hi').2.d.length d) (Q[i]'hi').2.d.length (strC (Q[i]'hi').2.d) := by rw [← hbd]; exact hq
  refine ⟨?_, ?_, ?_, own_room hr, strs_of_own hr rfl⟩ <;> rw [add0]
  · exact f 0 (by omega)
  · exact f 1 (by omega)
  · rw [f 2 (by omega)]; show some (Q[i]'hi').1 = _; rw [hbd]

end Go.Proofs.Ytggognmbjgkdfaa
