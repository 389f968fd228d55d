/-
  Objects that change: what a call leaves alone ('Kept'); rows of structs ('rowOf'); what owned rows keep; a row appended to a row within a region that draws. Of no package of the project's.
-/
import Derived.Test.YtggognmbjgkdfaaByA
import Derived.OneCell
import Derived.Deep.RegionHeld3
import Derived.Deep.RegionLaw
import Derived.Deep.AppendLies
import Derived.Deep.DeepCutAuto
set_option linter.unusedVariables false
namespace Go.Proofs.Ytggognmbjgkdfaa
open Go.RowKit

/-- All blocks but those of S are as they were. -/
structure Kept (S : Nat → Prop) (w w' : World) : Prop where
  os : w'.os = w.os
  tape : w'.tape = w.tape
  output : w'.output = w.output
  size : w.heap.size ≤ w'.heap.size
  block : ∀ k, k < w.heap.size → ¬ S k → w'.heap[k]? = w.heap[k]?

theorem Kept.refl (S : Nat → Prop) (w : World) : Kept S w w := ⟨rfl, rfl, rfl, Nat.le_refl _, fun _ _ _ => rfl⟩
theorem Kept.mono {S T : Nat → Prop} {w w' : World} (h : Kept S w w') (hs : ∀ k, k < w.heap.size → S k → T k) : Kept T w w' :=
  ⟨h.os, h.tape, h.output, h.size, fun k hk ht => h.block k hk fun hS => ht (hs k hk hS)⟩
theorem Kept.trans {S T : Nat → Prop} {a b c : World} (h : Kept S a b) (k : Kept T b c) (hT : ∀ i, i < a.heap.size → T i → S i) : Kept S a c :=
  ⟨k.os.trans h.os, k.tape.trans h.tape, k.output.trans h.output, Nat.le_trans h.size k.size, fun i hi hs => (k.block i (Nat.lt_of_lt_of_le hi h.size) fun ht => hs (hT i hi ht)).trans (h.block i hi hs)⟩
theorem Kept.of_below {S : Nat → Prop} {w w' : World} (h : Below w.heap.size w w') : Kept S w w' := ⟨h.os, h.tape, h.output, h.size, fun k hk _ => h.block k hk⟩
theorem Kept.below {S : Nat → Prop} {B : Nat} {w w' : World} (h : Kept S w w') (hB : B ≤ w.heap.size) (hS : ∀ k, S k → B ≤ k) : Below B w w' :=
  ⟨h.os, h.tape, h.output, h.size, fun k hk => h.block k (by omega) fun hs => by have := hS k hs; omega⟩
theorem Kept.drew {S : Nat → Prop} {a w : World} (h : Kept S a w) : Kept S a w.drew := ⟨h.os, h.tape, h.output, h.size, h.block⟩
theorem Kept.drewN {S : Nat → Prop} {a w : World} (h : Kept S a w) (n : Nat) : Kept S a (w.drewN n) := h.trans (T := fun _ => False) (Kept.of_below (below_drewN (Below.refl _ _) _)) (fun _ _ h => h.elim)
theorem Kept.alloc {S : Nat → Prop} {a w : World} (h : Kept S a w) (o : Obj) : Kept S a (w.alloc o) :=
  h.trans (T := fun _ => False) (Kept.of_below ((Below.refl _ _).alloc (Nat.le_refl _) o)) (fun _ _ h => h.elim)
theorem Kept.setCell {S : Nat → Prop} {a w : World} (h : Kept S a w) {p : Addr} (hp : p.block < a.heap.size → S p.block) (u : Value) : Kept S a (w.setCell p u) :=
  h.trans (T := fun k => k = p.block) ⟨rfl, rfl, rfl, by simp [World.setCell], fun k _ hk => Below.heap_setCell _ _ _ _ hk⟩ (fun i hi h => by subst h; exact hp hi)
theorem Kept.grown {S : Nat → Prop} {a w w' : World} {row : Option Nat} (h : Kept S a w) (hg : w.grownBy w' row) (hr : ∀ k, row = some k → k < a.heap.size → S k) : Kept S a w' :=
  h.trans (T := fun k => row = some k) ⟨hg.os, hg.tape, hg.output, hg.size, fun k hk ht => hg.block k hk fun e => ht e.symm⟩ (fun i hi h => hr i h hi)
theorem Kept.cell {S : Nat → Prop} {w w' : World} (h : Kept S w w') {p : Addr} (hp : p.block < w.heap.size) (hs : ¬ S p.block) : w'.cell? p = w.cell? p := World.cell?_of_block (w := w) (h.block p.block hp hs)
theorem Kept.own {S : Nat → Prop} {B : Nat} {e : TypeId} {k n : Nat} {v : Value} {xs : List Value} {w w' : World} (h : w.ownsRow B e k v n xs) (hk : Kept S w w') (hs : ∀ g, v.ownBlock = some g → ¬ S g) : w'.ownsRow B e k v n xs := by
  refine ⟨h.1, ?_⟩
  rcases h.2 with hn | ⟨g, cap, cur, hv, hb, hg, rest⟩
  · exact .inl hn
  · refine .inr ⟨g, cap, cur, hv, hb, ?_, rest⟩
    have hlt : g < w.heap.size := (Array.getElem?_eq_some_iff.1 hg).1
    rw [hk.block g hlt (hs g (by rw [hv]; rfl))]
    exact hg

/-- The cells of a row, each element as f lays it. -/
def rowOf {α : Type} (f : α → List Value) (es : List α) : List Value := es.flatMap f
theorem rowOf_append {α : Type} (f : α → List Value) (a b : List α) : rowOf f (a ++ b) = rowOf f a ++ rowOf f b := by simp [rowOf]
theorem rowOf_one {α : Type} (f : α → List Value) (a : α) : rowOf f [a] = f a := by simp [rowOf]
theorem rowOf_len {α : Type} (f : α → List Value) (k : Nat) (hf : ∀ e, (f e).length = k) (es : List α) : (rowOf f es).length = es.length * k := by
  induction es with
  | nil => simp [rowOf]
  | cons e r ih =>
    have : rowOf f (e :: r) = f e ++ rowOf f r := by simp [rowOf]
    rw [this, List.length_append, ih, hf, List.length_cons, Nat.add_mul]; omega
theorem rowOf_get {α : Type} (f : α → List Value) (k : Nat) (hf : ∀ e, (f e).length = k) (es : List α) (i j : Nat) (hi : i < es.length) (hj : j < k) : (rowOf f es)[i * k + j]? = (f (es[i]'hi))[j]? := by
  induction es generalizing i with
  | nil => simp at hi
  | cons e r ih =>
    have hc : rowOf f (e :: r) = f e ++ rowOf f r := by simp [rowOf]
    rw [hc]
    cases i with
    | zero => rw [List.getElem?_append_left (by rw [hf]; omega)]; simp
    | succ i =>
      rw [List.getElem?_append_right (by rw [hf, Nat.add_mul]; omega), hf, show (i + 1) * k + j - k = i * k + j by rw [Nat.add_mul]; omega]
      simpa using ih i (by simpa using hi)
theorem own_cells {B k n : Nat} {e : TypeId} {v : Value} {w : World} {α : Type} {f : α → List Value} {es : List α} (h : w.ownsRow B e k v n (rowOf f es)) (hf : ∀ x, (f x).length = k) (hl : es.length = n) (h0 : es ≠ []) :
    ∃ g cap, v = .slice (some ⟨g, 0, none⟩) n cap ∧ B ≤ g ∧ ∀ i (hi : i < es.length) j, j < k → w.cell? ⟨g, i * k + j, none⟩ = (f es[i])[j]? := by
  rcases h.2 with ⟨hv, hn⟩ | ⟨g, cap, cur, hv, hb, _⟩
  · exact absurd (List.length_eq_zero_iff.1 (hl.trans hn)) h0
  · subst hv
    refine ⟨g, cap, rfl, hb, fun i hi j hj => ?_⟩
    have h1 : i * k + j < n * k := by
      have : (i + 1) * k ≤ n * k := Nat.mul_le_mul_right _ (by omega)
      rw [Nat.add_mul] at this; omega
    rw [h.cellAt (i * k + j) h1, rowOf_get f k hf es i j hi hj]

theorem own_ne {w : World} {B g : Nat} {cs : Array Value} {t e : TypeId} {m : Nat × Nat} {k n : Nat} {v : Value} {xs : List Value} (hg : w.heap[g]? = some (.cells cs t m)) (ho : w.ownsRow B e k v n xs) (he : e ≠ t) : v.ownBlock ≠ some g := by
  rcases ho.2 with ⟨hv, _⟩ | ⟨g', cap, cur, hv, _, hg', _⟩
  · rw [hv]; intro e; cases e
  · rw [hv]
    intro e
    injection e with e
    have e' : g' = g := e
    subst e'
    rw [hg] at hg'
    injection hg' with hg'
    injection hg' with _ e2 _
    exact he e2.symm
theorem own_lt {w : World} {B : Nat} {e : TypeId} {k n : Nat} {v : Value} {xs : List Value} (ho : w.ownsRow B e k v n xs) (i : Nat) (hi : v.ownBlock = some i) : B ≤ i ∧ i < w.heap.size := by
  rcases ho.2 with ⟨hv, _⟩ | ⟨g', cap, cur, hv, hb, hg', _⟩
  · rw [hv] at hi; cases hi
  · rw [hv] at hi
    injection hi with hi
    have e' : g' = i := hi
    subst e'
    exact ⟨hb, (Array.getElem?_eq_some_iff.1 hg').1⟩
theorem own_low {B B' : Nat} {e : TypeId} {k : Nat} {v : Value} {n : Nat} {xs : List Value} {w : World} (h : w.ownsRow B e k v n xs) (hb : B' ≤ B) : w.ownsRow B' e k v n xs := by
  refine ⟨h.1, ?_⟩
  rcases h.2 with hn | ⟨g, cap, cur, hv, hg, rest⟩
  · exact .inl hn
  · exact .inr ⟨g, cap, cur, hv, Nat.le_trans hb hg, rest⟩
theorem alloc_cell {W : World} {a : Addr} {v : Value} (h : W.cell? a = some v) (o : Obj) : (W.alloc o).cell? a = some v := by
  have hlt := World.block_lt_of_cell? W _ h
  rw [World.cell?_of_block (w := W) (Below.heap_alloc W o a.block hlt)]; exact h
theorem alloc_frozen {W : World} {a : Addr} {v : Value} (h : W.cell? a = some v) (hf : W.frozen? a = false) (o : Obj) : (W.alloc o).frozen? a = false := by
  have hlt := World.block_lt_of_cell? W _ h
  rw [World.frozen?_of_block (w := W) (Below.heap_alloc W o a.block hlt)]; exact hf
theorem grown_cell {W W' : World} {row : Option Nat} {a : Addr} {v : Value} (hg : W.grownBy W' row) (h : W.cell? a = some v) (hr : some a.block ≠ row) : W'.cell? a = some v := by
  have hlt := World.block_lt_of_cell? W _ h
  rw [World.cell?_of_block (w := W) (hg.block a.block hlt hr)]; exact h
theorem grown_frozen {W W' : World} {row : Option Nat} {a : Addr} {v : Value} (hg : W.grownBy W' row) (h : W.cell? a = some v) (hf : W.frozen? a = false) (hr : some a.block ≠ row) : W'.frozen? a = false := by
  have hlt := World.block_lt_of_cell? W _ h
  rw [World.frozen?_of_block (w := W) (hg.block a.block hlt hr)]; exact hf

section
variable {P : Program} (w : World)
/-- A row that is owned appended to another, as one step of a region that draws. -/
theorem step_append_row {ops : Array Oper} {o : Oper} {a : Act} {K : Act → World → Prop} {Q : Exit → Act → World → Prop} {E : Prop} (hgd : o.guard = none) (s x : Operand) (t : TypeId)
    (ho : o.op = .call { callee := .builtin .append, args := #[s, x], argTypes := #[t, t] })
    (base : Nat) (e : TypeId) (i : TypeInfo) (z : Value) (size bytes : Nat) (ht : P.underlying t = some (.slice e)) (hi : P.info? e = some i) (hz : i.zero = some z)
    (hsize : i.size = size) (hby : i.bytes = bytes) (hzs : z.cells.size = size) (hsz : 0 < size)
    (v : Value) (n : Nat) (xs : List Value) (hs : a.eval s = v) (hown : w.ownsRow base e size v n xs)
    (B2 : Nat) (A : Option Addr) (m c : Nat) (news : List Value) (hx : a.eval x = .slice A m c) (hsrc : w.ownsRow B2 e size (.slice A m c) m news) (h1 : ∀ u ∈ news, u.oneCell' = true) (h63 : n + m ≤ maxLen) (hbytes : (n + m) * bytes ≤ 140737488355328) (hbase : base ≤ w.heap.size) (N : Nat) (hN : n + m = N)
    (h : ∀ (A' : Option Addr) (c' : Nat) w', w'.ownsRow base e size (.slice A' N c') N (xs ++ news) → w.grownBy w' v.ownBlock → ((Value.slice A' N c').ownBlock = v.ownBlock ∨ (Value.slice A' N c').ownBlock = some w.heap.size) → K (a.put o.dst (.slice A' N c')) w') :
    if Region.wanted o (yielded ops a.tmps) = true then Oper.wp P o a w K Q else E := by
  have hw : Region.wanted o (yielded ops a.tmps) = true := by simp [Region.wanted, hgd]
  rw [if_pos hw]
  subst hN
  have hR : ∃ v' w', (Builtin.append_ #[t, t] o.type #[v, .slice A m c]).run P w = .ok v' w' ∧ w'.ownsRow base e size v' (n + m) (xs ++ news) ∧ w.grownBy w' v.ownBlock ∧ (v'.ownBlock = v.ownBlock ∨ v'.ownBlock = some w.heap.size) := by
    rcases hsrc.2 with ⟨h0, hm⟩ | ⟨g', cap', cur, h0, _⟩
    · injection h0 with e1 e2 e3
      subst e1 e2 e3
      have hn : news = [] := by
        have := hsrc.1
        simpa using this
      subst hn
      exact ⟨v, w, run_append_owned_none w base t o.type e i size ht hi v n xs hown, by simpa using hown, World.grownBy.refl w _, .inl rfl⟩
    · injection h0 with e1 e2 e3
      subst e1 e3
      obtain ⟨v', w', k1, k2, k3, _, k4⟩ := run_append_own_at (P := P) w base t o.type e i z size bytes ht hi hz hsize hby hzs hsz v n xs hown ⟨g', 0, none⟩ m c news hsrc.1 (fun j u hj => hsrc.cells (g := g') rfl j u hj) h1 h63 hbytes hbase
      exact ⟨v', w', k1, k2, k3, k4⟩
  obtain ⟨v', w', hr, h2, h3, h4⟩ := hR
  obtain ⟨A', c', rfl⟩ := own_slice h2
  unfold Oper.wp execOp
  simp only [ho, resolve, invoke, builtin, Sem.run_bind, Sem.run_pure, Result.andThen_ok, List.map_toArray, List.map_cons, List.map_nil, hs, hx, hr]
  exact h _ _ w' h2 h3 h4
end

theorem fld (x : Addr) (n k : Nat) (hk : k ≠ 0) : x.add (n + k) = ⟨(x.add n).block, (x.add n).off + k, none⟩ := by
  unfold Addr.add
  by_cases h : n = 0
  · subst h; simp [hk]
  · simp [h]; omega


end Go.Proofs.Ytggognmbjgkdfaa
