/-
  Package disk: Read, Names.
-/
import Derived.Test.YtbolminblofhgaaDsJ
import Derived.Test.YtbolminblofhgaaIter
set_option linter.unusedVariables false
namespace Go.Proofs.Ytbolminblofhgaa
open Go.RowKit Go.Maps Go.Sort Go.Shelf

theorem own_cap {w : World} {B : Nat} {e : TypeId} {a : Option Addr} {k n cap : Nat} {xs : List Value} (h : w.ownsRow B e k (.slice a n cap) n xs) : a = none → cap = 0 := by
  rintro rfl
  rcases h.2 with ⟨h0, _⟩ | ⟨g, cap', cur, h0, _⟩
  · injection h0
  · injection h0 with h1 _ _; cases h1

/-- What Read tells. -/
def rdL (nm : ByteArray) (L : List RF) : List UInt8 × Int := match getL nm L with | some f => (f.b, 0) | none => ([], 4)
def ReadPost (w : World) (x : List UInt8 × Int) (e : Ending) (w' : World) : Prop :=
  ∃ a cap, e = .returned (.tuple #[.slice a x.1.length cap, .int .i64 x.2]) ∧ w'.ownsRow w.heap.size 5 1 (.slice a x.1.length cap) x.1.length (Lib.byteCells x.1) ∧ Below w.heap.size w w'

set_option maxHeartbeats 2000000 in
set_option maxRecDepth 100000 in
theorem dRead_no (w : World) (B g : Nat) (mv : Value) (Q : List (Value × RF)) (u : Int) (C : CD) (nm : ByteArray) (h : ImR w B g mv Q u C) (hnm : nm.size ≤ 1000000) (hg : getQ nm Q = none) :
    Calls Try.prog 19 #[.pointer (some ⟨g, 0, none⟩), .string nm] w (ReadPost w ([], 4)) := by
  obtain ⟨t0, t1, t2, _, _, _⟩ := h.cell
  have lk := (h.2.2.2.1.look nm (by unfold maxLen; omega)).1
  rw [show hsQ nm Q = false by unfold hsQ; rw [hg]; rfl, show lkV nm Q = .agg #[.slice none 0 0, .int .i64 0] by unfold lkV; rw [hg]; rfl] at lk
  clear h hg t0 t1
  go_enter Try.func19, Try.ntmps19
  go_wp2
  go_ret2
  exact ⟨none, 0, rfl, ⟨rfl, .inl ⟨rfl, rfl⟩⟩, (Below.refl _ _).alloc (Nat.le_refl _) _⟩

set_option maxHeartbeats 2000000 in
set_option maxRecDepth 100000 in
theorem dRead_yes (w : World) (B g : Nat) (mv : Value) (Q : List (Value × RF)) (u : Int) (C : CD) (nm : ByteArray) (h : ImR w B g mv Q u C) (hnm : nm.size ≤ 1000000) (a0 : Option Addr) (n0 k0 : Nat) (f : RF) (hg : getQ nm Q = some (.slice a0 n0 k0, f)) (hl : f.b.length = n0) (hn : n0 ≤ 10000000) :
    Calls Try.prog 19 #[.pointer (some ⟨g, 0, none⟩), .string nm] w (ReadPost w (f.b, 0)) := by
  obtain ⟨t0, t1, t2, _, _, _⟩ := h.cell
  have lk := (h.2.2.2.1.look nm (by unfold maxLen; omega)).1
  rw [show hsQ nm Q = true by unfold hsQ; rw [hg]; rfl, show lkV nm Q = .agg #[.slice a0 n0 k0, .int .i64 f.s] by unfold lkV; rw [hg]; rfl] at lk
  obtain ⟨hqm, hqn⟩ := getQ_mem hg
  have ho := h.2.2.2.2.1 _ hqm
  simp only [hl] at ho
  have hA : a0 = none → k0 = 0 := own_cap ho
  have hb : Bts (w.alloc (.cells #[.slice a0 n0 k0, .int .i64 f.s] 77)) a0 f.b := (Bts.own ho).later ((Below.refl _ _).alloc (Nat.le_refl _) _)
  have cC := dClone a0 n0 k0 f.b _ hl hn hb hA
  have HL := Lib.hid hl
  clear h hg t0 t1 ho hb hA hqm hqn hl
  go_enter Try.func19, Try.ntmps19
  go_wp2_with (go_at_call 45; (with_reducible refine cC.mono ?_))
  rintro e W2 ⟨a2, c2, rfl, o2, b2⟩
  go_wp2
  go_ret2
  have e := HL.out
  subst e
  exact ⟨a2, c2, rfl, own_low o2 (by simp), ((Below.refl _ w).alloc (Nat.le_refl _) _).trans (b2.mono (by simp))⟩

theorem dRead (w : World) (B g : Nat) (mv : Value) (Q : List (Value × RF)) (C : CD) (nm : ByteArray) (h : ImAt w B g mv Q C) (hi : Inv C) (hnm : nm.size ≤ 1000000) :
    Calls Try.prog 19 #[.pointer (some ⟨g, 0, none⟩), .string nm] w (ReadPost w (rdL nm C.L)) := by
  have hgq := h.getL nm
  unfold rdL
  cases hg : getQ nm Q with
  | none =>
    rw [hg] at hgq
    rw [← hgq]
    exact dRead_no w B g mv Q _ C nm h hnm hg
  | some q =>
    obtain ⟨v0, f⟩ := q
    rw [hg] at hgq
    rw [← hgq]
    obtain ⟨hqm, hqn⟩ := getQ_mem hg
    obtain ⟨a0, k0, hv0⟩ := own_slice (h.2.2.2.2.1 _ hqm)
    simp only at hv0
    subst hv0
    have hr := h.rise
    have hfl : f.b.length ≤ tot C.L := by
      have := (tot_del nm hr.ne).1
      rw [← hgq] at this; simp only [Option.map_some] at this; omega
    have := hi.tot
    have := hi.room
    exact dRead_yes w B g mv Q _ C nm h hnm a0 _ k0 f hg rfl (by omega)

/-! ### Names -/
theorem before_lt : ∀ a b : List UInt8, bytesBefore a b = true ↔ a < b
  | [], [] => by simp [bytesBefore]
  | [], _ :: _ => by simp [bytesBefore]
  | _ :: _, [] => by simp [bytesBefore]
  | x :: r, y :: s => by
    have ih := before_lt r s
    unfold bytesBefore
    rw [List.cons_lt_cons_iff]
    simp only [Bool.or_eq_true, decide_eq_true_eq, Bool.and_eq_true, beq_iff_eq, ih]
def NamesPost (w : World) (L : List RF) (e : Ending) (w' : World) : Prop :=
  ∃ a cap, e = .returned (.slice a L.length cap) ∧ w'.ownsRow w.heap.size 9 1 (.slice a L.length cap) L.length (L.map fun f => .string f.nm) ∧ Below w.heap.size w w'
theorem names_of {Q : List (Value × RF)} (hr : Rise (Q.map Prod.snd)) {ss : List (List UInt8)} (h : ss.Perm (strKeys (mapD Q))) :
    ss.length = Q.length ∧ (ss.mergeSort (fun x y => decide (x ≤ y))).map encStr = (Q.map Prod.snd).map fun f => .string f.nm := by
  have hk : strKeys (mapD Q) = (Q.map Prod.snd).map fun f => key f.nm := by
    show (Q.map entD).map (fun p => strOf p.1) = _
    rw [List.map_map, List.map_map]; rfl
  refine ⟨by rw [h.length_eq, hk]; simp, ?_⟩
  rw [mergeSort_of_perm h, hk]
  have hs : ((Q.map Prod.snd).map fun f => key f.nm).Pairwise (fun x y => decide (x ≤ y) = true) := by
    rw [List.pairwise_map]
    exact hr.imp fun {a b} hab => by
      rw [decide_eq_true_eq]
      exact List.le_of_lt ((before_lt _ _).1 hab)
  rw [List.mergeSort_of_pairwise hs, List.map_map]
  rfl

set_option maxHeartbeats 2000000 in
set_option maxRecDepth 100000 in
theorem dNames_some (w : World) (B g b : Nat) (Q : List (Value × RF)) (u : Int) (C : CD) (h : ImR w B g (.map (some b)) Q u C) (hQL : Q.length ≤ 1000000) :
    Calls Try.prog 23 #[.pointer (some ⟨g, 0, none⟩)] w (NamesPost w C.L) := by
  obtain ⟨t0, t1, t2, _, _, _⟩ := h.cell
  have hr := h.2.2.2.1.rise
  have hs := h.2.1
  have hown : w.ownsMap Try.prog 9 Rf b Q.length (mapD Q) := by
    rcases h.2.2.2.1 with ⟨e, _⟩ | ⟨b', e, _, ho⟩
    · cases e
    · injection e with e; injection e with e; subst e; exact ho
  have HR := Lib.hid hr
  have HS := Lib.hid hs
  have hsz := sizeD Q
  have cK := fun W => (Try.maps_Keys_47 (some b) W)
  have cS := Try.slices_Sorted_keys_46_47 b Q.length (mapD Q) Rf w hown (by rw [hsz]; unfold maxLen; omega) (by rw [hsz]; omega)
  clear h hr hs t0 t1 hown hsz
  refine (callsIn_wide (n := 6)).1 ?_
  have hfK : Fence.wide.fn 47 := trivial
  have hfS : Fence.wide.fn 46 := trivial
  refine callsIn_of_wp Try.func23 rfl trivial ?_ rfl
  simp only [Try.ntmps23, List.size_toArray, List.length_cons, List.length_nil, Nat.reduceAdd, Nat.reduceSub, Array.replicate_succ, Array.replicate_zero, List.push_toArray, List.append_toArray, List.nil_append, List.cons_append]
  gi_wp2_with (first
    | (gi_at_call 47; refine (cK _).mono ?_; rintro e w' ⟨rfl, rfl⟩)
    | (gi_at_call 46; refine cS.mono ?_; rintro e w' ⟨v, ss, rfl, hS, hrow, hnil, hb⟩))
  go_ret
  obtain ⟨e1, e2⟩ := names_of HR.out hS
  rw [HS.out] at e2
  rw [e2, e1, show Q.length = C.L.length by rw [← HS.out]; simp] at hrow
  obtain ⟨a, cap, rfl⟩ := own_slice hrow
  exact ⟨a, cap, rfl, own_low hrow (by simp), ((Below.refl _ w).alloc (Nat.le_refl _) _).trans (hb.mono (by simp))⟩

set_option maxHeartbeats 2000000 in
set_option maxRecDepth 100000 in
theorem dNames_none (w : World) (B g : Nat) (Q : List (Value × RF)) (u : Int) (C : CD) (h : ImR w B g (.map none) Q u C) :
    Calls Try.prog 23 #[.pointer (some ⟨g, 0, none⟩)] w (NamesPost w C.L) := by
  obtain ⟨t0, t1, t2, _, _, _⟩ := h.cell
  have hL : C.L = [] := by
    rcases h.2.2.2.1 with ⟨_, e⟩ | ⟨b', e, _, ho⟩
    · rw [← h.2.1, e]; rfl
    · cases e
  have HL := Lib.hid hL
  have cK := fun W => (Try.maps_Keys_47 none W)
  have cS := Try.slices_Sorted_keys_nil_46_47 w
  clear h hL t0 t1
  refine (callsIn_wide (n := 6)).1 ?_
  have hfK : Fence.wide.fn 47 := trivial
  have hfS : Fence.wide.fn 46 := trivial
  refine callsIn_of_wp Try.func23 rfl trivial ?_ rfl
  simp only [Try.ntmps23, List.size_toArray, List.length_cons, List.length_nil, Nat.reduceAdd, Nat.reduceSub, Array.replicate_succ, Array.replicate_zero, List.push_toArray, List.append_toArray, List.nil_append, List.cons_append]
  gi_wp2_with (first
    | (gi_at_call 47; refine (cK _).mono ?_; rintro e w' ⟨rfl, rfl⟩)
    | (gi_at_call 46; refine cS.mono ?_; rintro e w' ⟨v, ss, rfl, hS, hrow, hnil, hb⟩))
  go_ret
  rw [HL.out]
  have hv : v = .slice none 0 0 := hnil.2 hS
  subst hv
  exact ⟨none, 0, rfl, ⟨rfl, .inl ⟨rfl, rfl⟩⟩, ((Below.refl _ w).alloc (Nat.le_refl _) _).trans (hb.mono (by simp))⟩

theorem dNames (w : World) (B g : Nat) (mv : Value) (Q : List (Value × RF)) (u : Int) (C : CD) (h : ImR w B g mv Q u C) (hQL : C.L.length ≤ 1000000) :
    Calls Try.prog 23 #[.pointer (some ⟨g, 0, none⟩)] w (NamesPost w C.L) := by
  have hQ : Q.length = C.L.length := by rw [← h.2.1]; simp
  rcases h.2.2.2.1 with ⟨e, _⟩ | ⟨b, e, _⟩
  · subst e; exact dNames_none w B g Q u C h
  · subst e; exact dNames_some w B g b Q u C h (by omega)

end Go.Proofs.Ytbolminblofhgaa
