/-
  Objects that change: what a call leaves alone ('Kept'); rows of structs ('rowOf'); the reference's disk as it lies ('DkAt').
-/
import Derived.Test.YtbolminblofhgaaByA
set_option linter.unusedVariables false
namespace Go.Proofs.Ytbolminblofhgaa
open Go.RowKit

/-- All blocks but those of S are as they were. -/
structure Kept (S : Nat → Prop) (w w' : World) : Prop where
  os : w'.os = w.os
  tape : w'.tape = w.tape
  output : w'.output = w.output
  size : w.heap.size ≤ w'.heap.size
  block : ∀ k, k < w.heap.size → ¬ S k → w'.heap[k]? = w.heap[k]?

theorem Kept.refl (S : Nat → Prop) (w : World) : Kept S w w := ⟨rfl, rfl, rfl, Nat.le_refl _, fun _ _ _ => rfl⟩
theorem Kept.mono {S T : Nat → Prop} {w w' : World} (h : Kept S w w') (hs : ∀ k, k < w.heap.size → S k → T k) : Kept T w w' :=
  ⟨h.os, h.tape, h.output, h.size, fun k hk ht => h.block k hk fun hS => ht (hs k hk hS)⟩
theorem Kept.trans {S T : Nat → Prop} {a b c : World} (h : Kept S a b) (k : Kept T b c) (hT : ∀ i, i < a.heap.size → T i → S i) : Kept S a c :=
  ⟨k.os.trans h.os, k.tape.trans h.tape, k.output.trans h.output, Nat.le_trans h.size k.size, fun i hi hs => (k.block i (Nat.lt_of_lt_of_le hi h.size) fun ht => hs (hT i hi ht)).trans (h.block i hi hs)⟩
theorem Kept.of_below {S : Nat → Prop} {w w' : World} (h : Below w.heap.size w w') : Kept S w w' := ⟨h.os, h.tape, h.output, h.size, fun k hk _ => h.block k hk⟩
theorem Kept.below {S : Nat → Prop} {B : Nat} {w w' : World} (h : Kept S w w') (hB : B ≤ w.heap.size) (hS : ∀ k, S k → B ≤ k) : Below B w w' :=
  ⟨h.os, h.tape, h.output, h.size, fun k hk => h.block k (by omega) fun hs => by have := hS k hs; omega⟩
theorem Kept.drew {S : Nat → Prop} {a w : World} (h : Kept S a w) : Kept S a w.drew := ⟨h.os, h.tape, h.output, h.size, h.block⟩
theorem Kept.drewN {S : Nat → Prop} {a w : World} (h : Kept S a w) (n : Nat) : Kept S a (w.drewN n) := h.trans (T := fun _ => False) (Kept.of_below (below_drewN (Below.refl _ _) _)) (fun _ _ h => h.elim)
theorem Kept.alloc {S : Nat → Prop} {a w : World} (h : Kept S a w) (o : Obj) : Kept S a (w.alloc o) :=
  h.trans (T := fun _ => False) (Kept.of_below ((Below.refl _ _).alloc (Nat.le_refl _) o)) (fun _ _ h => h.elim)
theorem Kept.setCell {S : Nat → Prop} {a w : World} (h : Kept S a w) {p : Addr} (hp : p.block < a.heap.size → S p.block) (u : Value) : Kept S a (w.setCell p u) :=
  h.trans (T := fun k => k = p.block) ⟨rfl, rfl, rfl, by simp [World.setCell], fun k _ hk => Below.heap_setCell _ _ _ _ hk⟩ (fun i hi h => by subst h; exact hp hi)
theorem Kept.grown {S : Nat → Prop} {a w w' : World} {row : Option Nat} (h : Kept S a w) (hg : w.grownBy w' row) (hr : ∀ k, row = some k → k < a.heap.size → S k) : Kept S a w' :=
  h.trans (T := fun k => row = some k) ⟨hg.os, hg.tape, hg.output, hg.size, fun k hk ht => hg.block k hk fun e => ht e.symm⟩ (fun i hi h => hr i h hi)
theorem Kept.cell {S : Nat → Prop} {w w' : World} (h : Kept S w w') {p : Addr} (hp : p.block < w.heap.size) (hs : ¬ S p.block) : w'.cell? p = w.cell? p := World.cell?_of_block (w := w) (h.block p.block hp hs)
theorem Kept.own {S : Nat → Prop} {B : Nat} {e : TypeId} {k n : Nat} {v : Value} {xs : List Value} {w w' : World} (h : w.ownsRow B e k v n xs) (hk : Kept S w w') (hs : ∀ g, v.ownBlock = some g → ¬ S g) : w'.ownsRow B e k v n xs := by
  refine ⟨h.1, ?_⟩
  rcases h.2 with hn | ⟨g, cap, cur, hv, hb, hg, rest⟩
  · exact .inl hn
  · refine .inr ⟨g, cap, cur, hv, hb, ?_, rest⟩
    have hlt : g < w.heap.size := (Array.getElem?_eq_some_iff.1 hg).1
    rw [hk.block g hlt (hs g (by rw [hv]; rfl))]
    exact hg

/-- The cells of a row, each element as f lays it. -/
def rowOf {α : Type} (f : α → List Value) (es : List α) : List Value := es.flatMap f
theorem rowOf_append {α : Type} (f : α → List Value) (a b : List α) : rowOf f (a ++ b) = rowOf f a ++ rowOf f b := by simp [rowOf]
theorem rowOf_one {α : Type} (f : α → List Value) (a : α) : rowOf f [a] = f a := by simp [rowOf]
theorem rowOf_len {α : Type} (f : α → List Value) (k : Nat) (hf : ∀ e, (f e).length = k) (es : List α) : (rowOf f es).length = es.length * k := by
  induction es with
  | nil => simp [rowOf]
  | cons e r ih =>
    have : rowOf f (e :: r) = f e ++ rowOf f r := by simp [rowOf]
    rw [this, List.length_append, ih, hf, List.length_cons, Nat.add_mul]; omega
theorem rowOf_get {α : Type} (f : α → List Value) (k : Nat) (hf : ∀ e, (f e).length = k) (es : List α) (i j : Nat) (hi : i < es.length) (hj : j < k) : (rowOf f es)[i * k + j]? = (f (es[i]'hi))[j]? := by
  induction es generalizing i with
  | nil => simp at hi
  | cons e r ih =>
    have hc : rowOf f (e :: r) = f e ++ rowOf f r := by simp [rowOf]
    rw [hc]
    cases i with
    | zero => rw [List.getElem?_append_left (by rw [hf]; omega)]; simp
    | succ i =>
      rw [List.getElem?_append_right (by rw [hf, Nat.add_mul]; omega), hf, show (i + 1) * k + j - k = i * k + j by rw [Nat.add_mul]; omega]
      simpa using ih i (by simpa using hi)
theorem own_cells {B k n : Nat} {e : TypeId} {v : Value} {w : World} {α : Type} {f : α → List Value} {es : List α} (h : w.ownsRow B e k v n (rowOf f es)) (hf : ∀ x, (f x).length = k) (hl : es.length = n) (h0 : es ≠ []) :
    ∃ g cap, v = .slice (some ⟨g, 0, none⟩) n cap ∧ B ≤ g ∧ ∀ i (hi : i < es.length) j, j < k → w.cell? ⟨g, i * k + j, none⟩ = (f es[i])[j]? := by
  rcases h.2 with ⟨hv, hn⟩ | ⟨g, cap, cur, hv, hb, _⟩
  · exact absurd (List.length_eq_zero_iff.1 (hl.trans hn)) h0
  · subst hv
    refine ⟨g, cap, rfl, hb, fun i hi j hj => ?_⟩
    have h1 : i * k + j < n * k := by
      have : (i + 1) * k ≤ n * k := Nat.mul_le_mul_right _ (by omega)
      rw [Nat.add_mul] at this; omega
    rw [h.cellAt (i * k + j) h1, rowOf_get f k hf es i j hi hj]

/-- A file: its name, its bytes, how many are synced. -/
structure RF where
  nm : ByteArray
  b : List UInt8
  s : Nat
/-- A disk: its room, its files, its ops, the last op that is done. -/
structure RD where
  room : Nat
  L : List RF
  n : Nat
  last : Int

def fC (q : Value × RF) : List Value := [.string q.2.nm, q.1, .int .i64 q.2.s]
theorem fC_len (q : Value × RF) : (fC q).length = 3 := rfl

/-- The reference's disk, its struct in block g, its row v. -/
def DkAt (w : World) (B g : Nat) (v : Value) (Q : List (Value × RF)) (M : RD) : Prop :=
  B ≤ g ∧ Q.map Prod.snd = M.L ∧ w.heap[g]? = some (.cells #[.int .i64 M.room, v, .int .i64 M.n, .int .i64 M.last] 65 (0, 0)) ∧
  w.ownsRow B 88 3 v Q.length (rowOf fC Q) ∧ ∀ q ∈ Q, w.ownsRow B 5 1 q.1 q.2.b.length (Lib.byteCells q.2.b)

theorem DkAt.cell {w : World} {B g : Nat} {v : Value} {Q : List (Value × RF)} {M : RD} (h : DkAt w B g v Q M) :
    w.cell? ⟨g, 0, none⟩ = some (.int .i64 M.room) ∧ w.cell? ⟨g, 1, none⟩ = some v ∧ w.cell? ⟨g, 2, none⟩ = some (.int .i64 M.n) ∧ w.cell? ⟨g, 3, none⟩ = some (.int .i64 M.last) := by
  obtain ⟨_, _, hg, _⟩ := h
  refine ⟨?_, ?_, ?_, ?_⟩ <;> rw [cell_of_row _ g _ _ _ _ hg] <;> rfl

theorem txt_eq {s t : ByteArray} (h : s = t) : (s.toList == t.toList) = true := by rw [h]; exact beq_self_eq_true _
theorem txt_ne {s t : ByteArray} (h : ¬ s = t) : (s.toList == t.toList) = false := beq_false_of_ne fun e => h (by
  rw [ByteArray.toList_eq, ByteArray.toList_eq] at e
  exact ByteArray.ext (Array.toList_inj.1 e))

/-- Where a name stands. -/
def fnd (nm : ByteArray) (L : List RF) : Option Nat := L.findIdx? fun f => decide (f.nm = nm)
def fndI (o : Option Nat) : Int := match o with | some k => k | none => -1

set_option maxHeartbeats 2000000 in
set_option maxRecDepth 100000 in
theorem rFind_any (w : World) (B g : Nat) (v : Value) (Q : List (Value × RF)) (M : RD) (nm : ByteArray) (h : DkAt w B g v Q M) (hn : Q.length ≤ 1000000) :
    Calls Try.prog 50 #[.pointer (some ⟨g, 0, none⟩), .string nm] w fun e w' => e = .returned (.int .i64 (fndI (fnd nm M.L))) ∧ ∃ q, w' = w.drewN q := by
  obtain ⟨c0, c1, c2, c3⟩ := h.cell
  obtain ⟨a, cap, rfl⟩ := own_slice h.2.2.2.1
  have HL := Lib.hid h.2.1
  have HO := Lib.hid h.2.2.2.1
  clear h c0 c2 c3
  go_enter Try.func50, Try.ntmps50
  go_wp2
  go_loopw [5] (fun i wr => ∃ j : Nat, i = .int .i64 j ∧ j ≤ Q.length ∧ (∀ t, t < j → ∀ ht : t < Q.length, (Q[t]'ht).2.nm ≠ nm) ∧ ∃ q, wr = w.drewN q) (fun i _ => Q.length - (intOf i).toNat)
  case atStart => exact ⟨0, rfl, Nat.zero_le _, fun t ht => by omega, 0, rfl⟩
  case round =>
    obtain ⟨j, rfl, hj, hne, q, rfl⟩ := hrel
    have HNE := Lib.hid hne
    clear hne
    by_cases hlt : j < Q.length
    · obtain ⟨gr, cp, hv, _, hcl⟩ := own_cells HO.out fC_len rfl (by intro e; rw [e] at hlt; simp at hlt)
      injection hv with e1 e2 e3
      subst e1 e3
      have hx : (w.drewN q).cell? ⟨gr, j * 3, none⟩ = some (.string (Q[j]'hlt).2.nm) := by rw [show (w.drewN q).cell? ⟨gr, j * 3, none⟩ = w.cell? ⟨gr, j * 3 + 0, none⟩ from rfl, hcl j hlt 0 (by omega)]; rfl
      clear hcl
      have HF : Hid ((Q[j]'hlt).2.nm = nm → fnd nm M.L = some j) := fun he => by
        unfold fnd
        rw [← HL.out, List.findIdx?_eq_some_iff_getElem]
        refine ⟨by simpa using hlt, by simp [he], fun t ht => by simpa using HNE.out t ht (by omega)⟩
      obtain ⟨s, hs⟩ : ∃ s, s = (Q[j]'hlt).2.nm := ⟨_, rfl⟩
      rw [← hs] at hx
      have HS := Lib.hid hs
      clear hs
      by_cases he : s = nm
      · have hq := txt_eq he
        go_wp2
        go_ret
        exact ⟨by rw [HF.out (HS.out.symm.trans he)]; rfl, q, rfl⟩
      · have hq := txt_ne he
        have HN2 : Hid (∀ t, t < j + 1 → ∀ ht : t < Q.length, (Q[t]'ht).2.nm ≠ nm) := fun t ht hl => by
          by_cases e : t = j
          · subst e; rw [← HS.out]; exact he
          · exact HNE.out t (by omega) hl
        go_wp2
        go_roundw
        case rel => exact ⟨j + 1, by go_num, by omega, HN2.out, q, rfl⟩
        case measure => simp [intOf]; omega
    · have HN : Hid (fnd nm M.L = none) := by
        show _ = _
        unfold fnd
        rw [← HL.out, List.findIdx?_eq_none_iff]
        intro f hf
        obtain ⟨q', hq', rfl⟩ := List.mem_map.1 hf
        obtain ⟨t, ht, rfl⟩ := List.getElem_of_mem hq'
        simpa using HNE.out t (by omega) ht
      go_wp2
      go_ret
      exact ⟨by rw [HN.out]; rfl, q, rfl⟩

end Go.Proofs.Ytbolminblofhgaa
