/-
  Package disk: put.
-/
import Derived.Test.YtbolminblofhgaaDsC
set_option linter.unusedVariables false
namespace Go.Proofs.Ytbolminblofhgaa
open Go.RowKit

theorem apart_put {q : Value × RF} {Q : List (Value × RF)} (ha : Apart (delQ q.2.nm Q)) (h : ∀ p ∈ delQ q.2.nm Q, ∀ k, p.1.ownBlock = some k → q.1.ownBlock ≠ some k) : Apart (putQ q Q) := by
  unfold Apart putQ
  refine ((insQ_perm q _).pairwise_iff (fun {a b} hab k hk e => hab k e hk)).2 (List.pairwise_cons.2 ⟨fun p hp k hk e => h p hp k e hk, ha⟩)

def CD.setL (C : CD) (L : List RF) : CD := { C with L := L }

/-- What put wants: the disk, but for the file that is replaced. -/
structure PutPre (w : World) (B g : Nat) (mv : Value) (Q : List (Value × RF)) (u : Int) (C : CD) (q : Value × RF) : Prop where
  base : B ≤ g
  snd : Q.map Prod.snd = C.L
  st : w.heap[g]? = some (.cells (stC C u mv) 62 (0, 0))
  map : MapAt w B mv Q
  own : ∀ p ∈ delQ q.2.nm Q, w.ownsRow B 5 1 p.1 p.2.b.length (Lib.byteCells p.2.b)
  apart : Apart (delQ q.2.nm Q)
  new : w.ownsRow B 5 1 q.1 q.2.b.length (Lib.byteCells q.2.b)
  far : ∀ p ∈ delQ q.2.nm Q, ∀ k, p.1.ownBlock = some k → q.1.ownBlock ≠ some k

theorem PutPre.below {w w' : World} {B g : Nat} {mv : Value} {Q : List (Value × RF)} {u : Int} {C : CD} {q : Value × RF} (h : PutPre w B g mv Q u C q) (hb : Below w.heap.size w w') : PutPre w' B g mv Q u C q := by
  have hk : Kept (fun _ => False) w w' := Kept.of_below hb
  exact ⟨h.base, h.snd, (hk.block g (lt_of_block h.st) (fun h => h)).trans h.st, h.map.kept hk (fun _ _ h => h), fun p hp => Kept.own (h.own p hp) hk (fun _ _ h => h), h.apart, Kept.own h.new hk (fun _ _ h => h), h.far⟩

/-- The store into the map, as it stands there. -/
theorem PutPre.store {w : World} {B g b : Nat} {Q : List (Value × RF)} {u : Int} {C : CD} {q : Value × RF} (h : PutPre w B g (.map (some b)) Q u C q) (hn : q.2.nm.size ≤ 1000000) (hl : Q.length ≤ 1000000) :
    ∃ w', (Instr.mapUpdate 60 (.map (some b)) (.string q.2.nm) (fileV q)).run Try.prog w = .ok () w' ∧ ImR w' B g (.map (some b)) (putQ q Q) u (C.setL (putL q.2 C.L)) ∧ Kept (fun k => k = b) w w' ∧ w'.heap.size = w.heap.size := by
  obtain ⟨w', hr, hm, hk, hs⟩ := h.map.store q (by unfold maxLen; omega) hl
  refine ⟨w', hr, ⟨h.base, by rw [putQ_snd, h.snd]; rfl, (hk.block g (lt_of_block h.st) (fun e => h.map.ne h.st (by rw [e]))).trans h.st, hm, fun p hp => ?_, apart_put h.apart h.far⟩, hk, hs⟩
  rcases mem_putQ hp with rfl | ⟨hp, hne⟩
  · exact Kept.own h.new hk (fun k hk e => h.map.ne_own h.new k hk (by rw [e]))
  · have hp' : p ∈ delQ q.2.nm Q := List.mem_filter.2 ⟨hp, by simpa using hne⟩
    exact Kept.own (h.own p hp') hk (fun k hk e => h.map.ne_own (h.own p hp') k hk (by rw [e]))

def PutPost (w : World) (B g : Nat) (mv : Value) (Q : List (Value × RF)) (u : Int) (C : CD) (q : Value × RF) (e : Ending) (w' : World) : Prop :=
  ∃ mv', e = .returned (.tuple #[]) ∧ ImR w' B g mv' (putQ q Q) u (C.setL (putL q.2 C.L)) ∧ Kept (fun k => k = g ∨ mv = .map (some k)) w w' ∧ ∀ k, mv' = .map (some k) → mv = .map (some k) ∨ w.heap.size ≤ k

set_option maxHeartbeats 2000000 in
set_option maxRecDepth 100000 in
theorem dPut_some (w : World) (B g b : Nat) (Q : List (Value × RF)) (u : Int) (C : CD) (a : Option Addr) (m c s : Nat) (nm : ByteArray) (f : List UInt8) (h : PutPre w B g (.map (some b)) Q u C (.slice a m c, ⟨nm, f, s⟩)) (hn : nm.size ≤ 1000000) (hl : Q.length ≤ 1000000) :
    Calls Try.prog 42 #[.pointer (some ⟨g, 0, none⟩), .string nm, .agg #[.slice a m c, .int .i64 s]] w (PutPost w B g (.map (some b)) Q u C (.slice a m c, ⟨nm, f, s⟩)) := by
  obtain ⟨W0, hW0⟩ : ∃ W, W = w.alloc (.cells #[.slice a m c, .int .i64 s] 77) := ⟨_, rfl⟩
  have hb0 : Below w.heap.size w W0 := by rw [hW0]; exact (Below.refl _ _).alloc (Nat.le_refl _) _
  have h0 := h.below hb0
  have hp := heap_alloc_new w (.cells #[.slice a m c, .int .i64 s] 77)
  rw [← hW0] at hp
  obtain ⟨p0, p1, _, _⟩ := pair_cells hp
  have hst := h0.st
  have c2w : (w.alloc (.cells #[.slice a m c, .int .i64 s] 77)).cell? ⟨g, 2, none⟩ = some (.map (some b)) := by rw [← hW0, cell_of_row _ _ _ _ _ _ hst]; rfl
  have c2 : W0.cell? ⟨g, 2, none⟩ = some (.map (some b)) := by rw [cell_of_row _ _ _ _ _ _ hst]; rfl
  obtain ⟨W1, hrun, hI, hK, hs⟩ := (h0.below (w' := W0.drew) ((Below.refl _ _).drew)).store (q := (.slice a m c, ⟨nm, f, s⟩)) hn hl
  have hrun : (Instr.mapUpdate 60 (.map (some b)) (.string nm) (.agg #[.slice a m c, .int .i64 s])).run Try.prog W0.drew = .ok () W1 := hrun
  have HI := Lib.hid hI
  have HK := Lib.hid ((Kept.of_below (S := fun k => k = b) hb0).drew.trans hK (fun _ _ h => h))
  clear h0 h hst hI hK hs
  have qT : ∀ (w : World) (r : Option Nat), (binOp .eql 60 (.map r) (.map none)).run Try.prog w = .ok (.bool r.isNone) w := fun w r => run_eql_map_nil w _ _ _ r Try.underlying60
  go_enter Try.func42, Try.ntmps42
  go_wp2
  rw [← hW0]
  clear hW0 hb0 hp
  go_still_tail 6, (by kernel_rfl)
  change wpList _ _ _ _ _ W0.drew
  go_wp2
  refine bodyPost_end (v := .tuple #[]) (by simp [results, Try.results42, go_sem]) rfl ?_
  exact ⟨_, rfl, HI.out, HK.out.mono (fun k _ e => .inr (by rw [e])), fun k e => .inl e⟩

theorem PutPre.made {w : World} {B g : Nat} {Q : List (Value × RF)} {u : Int} {C : CD} {q : Value × RF} (h : PutPre w B g (.map none) Q u C q) (hB : B ≤ w.heap.size) :
    PutPre ((w.alloc (.map #[] 0)).setCell ⟨g, 2, none⟩ (.map (some w.heap.size))) B g (.map (some w.heap.size)) Q u C q := by
  have hQ : Q = [] := by
    rcases h.map with ⟨_, e⟩ | ⟨b, e, _⟩
    · exact e
    · cases e
  subst hQ
  have h1 := h.below ((Below.refl w.heap.size w).alloc (Nat.le_refl _) (.map #[] 0))
  have hg := lt_of_block h.st
  have hk : Kept (fun k => k = g) (w.alloc (.map #[] 0)) ((w.alloc (.map #[] 0)).setCell ⟨g, 2, none⟩ (.map (some w.heap.size))) := Kept.cellG 2 _
  refine ⟨h.base, h.snd, ?_, (MapAt.made w B hB).kept hk (fun k e e2 => ?_), fun p hp => by simp [delQ] at hp, h.apart, Kept.own h1.new hk (fun k hk e => own_ne h1.st h1.new (by decide) (e ▸ hk)), fun p hp => by simp [delQ] at hp⟩
  · rw [heap_setCell_same _ g 2 _ _ _ h1.st]; rfl
  · injection e with e; injection e with e; omega

set_option maxHeartbeats 2000000 in
set_option maxRecDepth 100000 in
theorem dPut_none (w : World) (B g : Nat) (Q : List (Value × RF)) (u : Int) (C : CD) (a : Option Addr) (m c s : Nat) (nm : ByteArray) (f : List UInt8) (h : PutPre w B g (.map none) Q u C (.slice a m c, ⟨nm, f, s⟩)) (hn : nm.size ≤ 1000000) (hl : Q.length ≤ 1000000) (hB : B ≤ w.heap.size) :
    Calls Try.prog 42 #[.pointer (some ⟨g, 0, none⟩), .string nm, .agg #[.slice a m c, .int .i64 s]] w (PutPost w B g (.map none) Q u C (.slice a m c, ⟨nm, f, s⟩)) := by
  obtain ⟨W0, hW0⟩ : ∃ W, W = w.alloc (.cells #[.slice a m c, .int .i64 s] 77) := ⟨_, rfl⟩
  have hb0 : Below w.heap.size w W0 := by rw [hW0]; exact (Below.refl _ _).alloc (Nat.le_refl _) _
  have h0 := h.below hb0
  have hp := heap_alloc_new w (.cells #[.slice a m c, .int .i64 s] 77)
  rw [← hW0] at hp
  have hst := h0.st
  have c2w : (w.alloc (.cells #[.slice a m c, .int .i64 s] 77)).cell? ⟨g, 2, none⟩ = some (.map none) := by rw [← hW0, cell_of_row _ _ _ _ _ _ hst]; rfl
  have c2 : W0.cell? ⟨g, 2, none⟩ = some (.map none) := by rw [cell_of_row _ _ _ _ _ _ hst]; rfl
  have f2 : W0.frozen? ⟨g, 2, none⟩ = false := frozen_of_row _ g 2 _ _ hst
  have hsz : W0.heap.size = w.heap.size + 1 := by rw [hW0]; simp
  have hm0 := h0.made (by omega)
  have hglt := lt_of_block hst
  rw [hsz] at hm0
  have hstm : (W0.alloc (.map #[] 0)).heap[g]? = some (.cells (stC C u (.map none)) 62 (0, 0)) := by rw [Below.heap_alloc _ _ _ hglt]; exact hst
  have c2m : ((w.alloc (.cells #[.slice a m c, .int .i64 s] 77)).alloc (.map #[] 0)).cell? ⟨g, 2, none⟩ = some (.map none) := by rw [← hW0, cell_of_row _ _ _ _ _ _ hstm]; rfl
  have f2m : ((w.alloc (.cells #[.slice a m c, .int .i64 s] 77)).alloc (.map #[] 0)).frozen? ⟨g, 2, none⟩ = false := by rw [← hW0]; exact frozen_of_row _ g 2 _ _ hstm
  obtain ⟨W2, hW2⟩ : ∃ W, W = (W0.alloc (.map #[] 0)).setCell ⟨g, 2, none⟩ (.map (some (w.heap.size + 1))) := ⟨_, rfl⟩
  rw [← hW2] at hm0
  have hK2 : Kept (fun k => k = g) w W2 := by rw [hW2]; exact ((Kept.of_below hb0).alloc _).trans (Kept.cellG 2 _) (fun _ _ h => h)
  have hp2 : W2.heap[w.heap.size]? = some (.cells #[.slice a m c, .int .i64 s] 77 (0, 0)) := by
    have hgw := lt_of_block h.st
    rw [hW2, heap_setCell_other _ _ _ _ (by show w.heap.size ≠ g; omega), Below.heap_alloc _ _ _ (by omega)]; exact hp
  obtain ⟨p0, p1, _, _⟩ := pair_cells hp2
  have c3 : W2.cell? ⟨g, 2, none⟩ = some (.map (some (w.heap.size + 1))) := by rw [cell_of_row _ _ _ _ _ _ hm0.st]; rfl
  obtain ⟨W1, hrun, hI, hK, hs⟩ := (hm0.below (w' := W2.drew) ((Below.refl _ _).drew)).store (q := (.slice a m c, ⟨nm, f, s⟩)) hn hl
  have hrun : (Instr.mapUpdate 60 (.map (some (w.heap.size + 1))) (.string nm) (.agg #[.slice a m c, .int .i64 s])).run Try.prog W2.drew = .ok () W1 := hrun
  have HI := Lib.hid hI
  have HK := Lib.hid (hK2.drew.trans hK (T := fun k => k = w.heap.size + 1) (fun k hk e => by omega))
  have HSZ := Lib.hid hsz
  clear h0 h hst hI hK hs hm0 hK2 hsz hp hp2 hstm c2 f2
  have hmm := @run_makeMap Try.prog
  have qT : ∀ (w : World) (r : Option Nat), (binOp .eql 60 (.map r) (.map none)).run Try.prog w = .ok (.bool r.isNone) w := fun w r => run_eql_map_nil w _ _ _ r Try.underlying60
  go_enter Try.func42, Try.ntmps42
  go_wp2
  rw [← hW0, ← hW2]
  clear hW0 hb0 hW2
  go_still_tail 6, (by kernel_rfl)
  change wpList _ _ _ _ _ W2.drew
  go_wp2
  refine bodyPost_end (v := .tuple #[]) (by simp [results, Try.results42, go_sem]) rfl ?_
  exact ⟨_, rfl, HI.out, HK.out.mono (fun k _ e => .inl e), fun k e => .inr (by injection e with e; injection e with e; omega)⟩

end Go.Proofs.Ytbolminblofhgaa
