/-
  Package disk: a disk as it lies ('ImR', 'ImAt'); op, named, rest, New, Ops, Cut.
-/
import Derived.Test.YtbolminblofhgaaDsA
import Derived.Test.YtbolminblofhgaaDkD
set_option linter.unusedVariables false
namespace Go.Proofs.Ytbolminblofhgaa
open Go.RowKit

/-- A disk of package disk. -/
structure CD where
  room : Nat
  L : List RF
  n : Nat
  cut : Bool
  left : Int
structure Inv (C : CD) : Prop where
  room : C.room ≤ 8388608
  tot : tot C.L ≤ C.room
  len : C.L.length ≤ 3000
  syn : ∀ f ∈ C.L, f.s ≤ f.b.length
  nm : ∀ f ∈ C.L, f.nm.size ≤ 100
  lo : -9223372036854775808 ≤ C.left
  hi : C.left ≤ 9223372036854775807

def Apart (Q : List (Value × RF)) : Prop := Q.Pairwise fun p q => ∀ k, p.1.ownBlock = some k → q.1.ownBlock ≠ some k
def ImS (g : Nat) (mv : Value) (Q : List (Value × RF)) (k : Nat) : Prop := k = g ∨ mv = .map (some k) ∨ ∃ q ∈ Q, q.1.ownBlock = some k

def stC (C : CD) (u : Int) (mv : Value) : Array Value := #[.int .i64 C.room, .int .i64 u, mv, .int .i64 C.n, .bool C.cut, .int .i64 C.left]
/-- A disk, its struct in block g, its map mv, its files' slices in Q; u: what its count of bytes says. -/
def ImR (w : World) (B g : Nat) (mv : Value) (Q : List (Value × RF)) (u : Int) (C : CD) : Prop :=
  B ≤ g ∧ Q.map Prod.snd = C.L ∧ w.heap[g]? = some (.cells (stC C u mv) 62 (0, 0)) ∧ MapAt w B mv Q ∧
  (∀ q ∈ Q, w.ownsRow B 5 1 q.1 q.2.b.length (Lib.byteCells q.2.b)) ∧ Apart Q
def ImAt (w : World) (B g : Nat) (mv : Value) (Q : List (Value × RF)) (C : CD) : Prop := ImR w B g mv Q (tot C.L) C

theorem ImR.cell {w : World} {B g : Nat} {mv : Value} {Q : List (Value × RF)} {u : Int} {C : CD} (h : ImR w B g mv Q u C) :
    w.cell? ⟨g, 0, none⟩ = some (.int .i64 C.room) ∧ w.cell? ⟨g, 1, none⟩ = some (.int .i64 u) ∧ w.cell? ⟨g, 2, none⟩ = some mv ∧ w.cell? ⟨g, 3, none⟩ = some (.int .i64 C.n) ∧ w.cell? ⟨g, 4, none⟩ = some (.bool C.cut) ∧ w.cell? ⟨g, 5, none⟩ = some (.int .i64 C.left) := by
  obtain ⟨_, _, hg, _⟩ := h
  unfold stC at hg
  refine ⟨?_, ?_, ?_, ?_, ?_, ?_⟩ <;> rw [cell_of_row _ g _ _ _ _ hg] <;> rfl
theorem ImR.frozen {w : World} {B g : Nat} {mv : Value} {Q : List (Value × RF)} {u : Int} {C : CD} (h : ImR w B g mv Q u C) (j : Nat) : w.frozen? ⟨g, j, none⟩ = false := frozen_of_row _ g j _ _ h.2.2.1
theorem ImR.lt {w : World} {B g : Nat} {mv : Value} {Q : List (Value × RF)} {u : Int} {C : CD} (h : ImR w B g mv Q u C) : g < w.heap.size := lt_of_block h.2.2.1
theorem ImR.ltS {w : World} {B g : Nat} {mv : Value} {Q : List (Value × RF)} {u : Int} {C : CD} (h : ImR w B g mv Q u C) : ∀ k, ImS g mv Q k → B ≤ k ∧ k < w.heap.size := by
  rintro k (rfl | e | ⟨q, hq, e⟩)
  · exact ⟨h.1, h.lt⟩
  · exact h.2.2.2.1.lt k e
  · exact own_lt (h.2.2.2.2.1 q hq) k e
theorem ImR.mapNe {w : World} {B g : Nat} {mv : Value} {Q : List (Value × RF)} {u : Int} {C : CD} (h : ImR w B g mv Q u C) : mv ≠ .map (some g) := h.2.2.2.1.ne h.2.2.1
theorem ImR.ownNe {w : World} {B g : Nat} {mv : Value} {Q : List (Value × RF)} {u : Int} {C : CD} (h : ImR w B g mv Q u C) : ∀ q ∈ Q, q.1.ownBlock ≠ some g ∧ ∀ k, q.1.ownBlock = some k → mv ≠ .map (some k) := fun q hq =>
  ⟨own_ne h.2.2.1 (h.2.2.2.2.1 q hq) (by decide), h.2.2.2.1.ne_own (h.2.2.2.2.1 q hq)⟩
theorem ImR.kept {w w' : World} {B g : Nat} {mv : Value} {Q : List (Value × RF)} {u : Int} {C : CD} {S : Nat → Prop} (h : ImR w B g mv Q u C) (hk : Kept S w w') (hs : ∀ k, ImS g mv Q k → ¬ S k) : ImR w' B g mv Q u C :=
  ⟨h.1, h.2.1, (hk.block g h.lt (hs g (.inl rfl))).trans h.2.2.1, h.2.2.2.1.kept hk (fun k e => hs k (.inr (.inl e))), fun q hq => Kept.own (h.2.2.2.2.1 q hq) hk (fun k e => hs k (.inr (.inr ⟨q, hq, e⟩))), h.2.2.2.2.2⟩
theorem ImR.below {w w' : World} {B g : Nat} {mv : Value} {Q : List (Value × RF)} {u : Int} {C : CD} (h : ImR w B g mv Q u C) (hk : Below w.heap.size w w') : ImR w' B g mv Q u C :=
  h.kept (S := fun _ => False) (Kept.of_below hk) (fun _ _ h => h)
theorem ImR.alloc {w : World} {B g : Nat} {mv : Value} {Q : List (Value × RF)} {u : Int} {C : CD} (h : ImR w B g mv Q u C) (o : Obj) : ImR (w.alloc o) B g mv Q u C := h.below ((Below.refl _ _).alloc (Nat.le_refl _) o)
theorem ImR.drewN {w : World} {B g : Nat} {mv : Value} {Q : List (Value × RF)} {u : Int} {C : CD} (h : ImR w B g mv Q u C) (n : Nat) : ImR (w.drewN n) B g mv Q u C := h.below (below_drewN (Below.refl _ _) _)
theorem ImR.drew {w : World} {B g : Nat} {mv : Value} {Q : List (Value × RF)} {u : Int} {C : CD} (h : ImR w B g mv Q u C) : ImR w.drew B g mv Q u C := h.kept (S := fun _ => False) (Kept.refl _ w).drew (fun _ _ h => h)
/-- Another cell of the struct. -/
theorem ImR.set {w : World} {B g : Nat} {mv : Value} {Q : List (Value × RF)} {u u' : Int} {C C' : CD} (h : ImR w B g mv Q u C) (j : Nat) (x : Value) (hx : (stC C u mv).setIfInBounds j x = stC C' u' mv) (hL : C'.L = C.L) : ImR (w.setCell ⟨g, j, none⟩ x) B g mv Q u' C' := by
  have hm := h.mapNe
  have hn := h.ownNe
  obtain ⟨h1, h2, hg, hM, ho, ha⟩ := h
  have hk : Kept (fun k => k = g) w (w.setCell ⟨g, j, none⟩ x) := (Kept.refl (fun k => k = g) w).setCell (p := ⟨g, j, none⟩) (fun _ => rfl) x
  refine ⟨h1, by rw [hL]; exact h2, by rw [heap_setCell_same _ g j _ _ _ hg, hx], hM.kept hk (fun k e hk => ?_), fun q hq => Kept.own (ho q hq) hk (fun k e hk => ?_), ha⟩
  · rw [hk] at e; exact hm e
  · rw [hk] at e; exact (hn q hq).1 e
theorem Kept.cellG {w : World} {g : Nat} (j : Nat) (x : Value) : Kept (fun k => k = g) w (w.setCell ⟨g, j, none⟩ x) := (Kept.refl (fun k => k = g) w).setCell (p := ⟨g, j, none⟩) (fun _ => rfl) x

/-! ### op -/
def offC (C : CD) : Bool := C.cut && decide (C.left ≤ 0)
def CD.op (C : CD) : CD := { C with n := C.n + 1, left := if C.cut && decide (0 < C.left) then C.left - 1 else C.left }
theorem Inv.op {C : CD} (h : Inv C) : Inv C.op := by
  refine ⟨h.room, h.tot, h.len, h.syn, h.nm, ?_, ?_⟩
  · have := h.lo; have := h.hi
    unfold CD.op; simp only
    split
    · rename_i hc
      simp only [Bool.and_eq_true, decide_eq_true_eq] at hc
      omega
    · omega
  · have := h.hi
    unfold CD.op; simp only
    split <;> omega
def OpPost (w : World) (B g : Nat) (mv : Value) (Q : List (Value × RF)) (u : Int) (C : CD) (b : Bool) (e : Ending) (w' : World) : Prop :=
  e = .returned (.bool b) ∧ ImR w' B g mv Q u C.op ∧ Kept (fun k => k = g) w w' ∧ w'.heap.size = w.heap.size

set_option maxHeartbeats 2000000 in
set_option maxRecDepth 100000 in
theorem dOp (w : World) (B g : Nat) (mv : Value) (Q : List (Value × RF)) (u : Int) (C : CD) (h : ImR w B g mv Q u C) (hi : Inv C) (hn : C.n ≤ 1000000) :
    Calls Try.prog 40 #[.pointer (some ⟨g, 0, none⟩)] w (OpPost w B g mv Q u C (!offC C)) := by
  obtain ⟨c0, c1, c2, c3, c4, c5⟩ := h.cell
  have f3 := h.frozen 3
  have f5 := h.frozen 5
  have H := Lib.hid h
  have hl := hi.lo
  have hh := hi.hi
  obtain ⟨rm, L, n, cut, left⟩ := C
  simp only at c0 c1 c2 c3 c4 c5 hn hl hh
  clear c0 c1 c2 hi h
  cases cut with
  | false =>
    go_enter Try.func40, Try.ntmps40
    go_wp2
    go_ret
    exact ⟨rfl, (H.out.set 3 _ (C' := (CD.op ⟨rm, L, n, false, left⟩)) (u' := u) rfl rfl), Kept.cellG 3 _, by simp⟩
  | true =>
    by_cases hz : left ≤ 0
    · have d0 : decide (left ≤ 0) = true := by simp [hz]
      go_enter Try.func40, Try.ntmps40
      go_wp2
      go_ret
      refine ⟨by simp [offC, hz], (H.out.set 3 _ (C' := (CD.op ⟨rm, L, n, true, left⟩)) (u' := u) ?_ rfl), Kept.cellG 3 _, by simp⟩
      have : ¬ 0 < left := by omega
      simp [stC, CD.op, this]
    · have d0 : decide (left ≤ 0) = false := by simp [hz]
      go_enter Try.func40, Try.ntmps40
      go_wp2
      go_ret
      have h1 := H.out.set 3 (.int .i64 ((n : Int) + 1)) (C' := ⟨rm, L, n + 1, true, left⟩) (u' := u) rfl rfl
      refine ⟨by simp [offC, hz], (h1.set 5 _ (C' := (CD.op ⟨rm, L, n, true, left⟩)) (u' := u) ?_ rfl), (Kept.cellG 3 _).trans (Kept.cellG 5 _) (fun _ _ h => h), by simp⟩
      have : 0 < left := by omega
      simp [stC, CD.op, this]

set_option maxHeartbeats 2000000 in
set_option maxRecDepth 100000 in
theorem dNamed (nm : ByteArray) (w : World) :
    Calls Try.prog 41 #[.string nm] w fun e w' => e = .returned (.bool (!badN nm)) ∧ ∃ q, w' = w.drewN q := by
  go_enter Try.func41, Try.ntmps41
  go_wp2
  · rename_i he
    have h0 : nm.size = 0 := by
      have := congrArg List.length he
      rw [ByteArray.toList_eq] at this
      simpa using this
    go_ret
    exact ⟨by simp [badN, h0], 0, rfl⟩
  · rename_i he
    have h0 : nm.size ≠ 0 := fun h => he (by
      rw [ByteArray.toList_eq]
      exact List.length_eq_zero_iff.1 (by simpa using h))
    have h1 : nm.toList.isEmpty = false := by simpa using he
    go_ret
    refine ⟨?_, 0, rfl⟩
    rw [h1]
    by_cases hb : 100 < nm.size
    · have : ¬ (nm.size : Int) ≤ 100 := by omega
      simp [badN, hb, this]
    · have : (nm.size : Int) ≤ 100 := by omega
      simp [badN, hb, this, h0]

set_option maxHeartbeats 2000000 in
set_option maxRecDepth 100000 in
theorem dRest (n m : Int) (w : World) (h1 : 0 < m) (h2 : m ≤ 1000000000) (hl : -9223372036854775808 ≤ n) (hh : n ≤ 9223372036854775807) :
    Calls Try.prog 44 #[.int .i64 n, .int .i64 m] w fun e w' => e = .returned (.int .i64 (n % m)) ∧ w = w' := by
  have hm0 : (m == 0) = false := by simp; omega
  have t1 := Int.tmod_lt_of_pos n h1
  have t2 : -m < n.tmod m := by
    have := Int.tmod_lt_of_pos (-n) h1
    rw [Int.neg_tmod] at this
    omega
  have t3 : Hid (n % m = if n.tmod m < 0 then n.tmod m + m else n.tmod m) := by
    show _ = _
    have e1 := Int.tmod_add_mul_tdiv n m
    have e2 := Int.emod_add_mul_ediv n m
    have e3 := Int.emod_nonneg n (by omega : m ≠ 0)
    have e4 := Int.emod_lt_of_pos n h1
    split
    · have : (n.tmod m + m) % m = n % m := by
        rw [Int.add_emod_right]
        conv => rhs; rw [← e1, Int.add_mul_emod_self_left]
      rw [← this]
      exact Int.emod_eq_of_lt (by omega) (by omega)
    · have : (n.tmod m) % m = n % m := by
        conv => rhs; rw [← e1, Int.add_mul_emod_self_left]
      rw [← this]
      exact Int.emod_eq_of_lt (by omega) (by omega)
  by_cases hs : n.tmod m < 0
  · go_enter Try.func44, Try.ntmps44
    go_wp2
    go_ret
    exact ⟨retI (by rw [t3.out, if_pos hs]), rfl⟩
  · go_enter Try.func44, Try.ntmps44
    go_wp2
    go_ret
    exact ⟨retI (by rw [t3.out, if_neg (by omega)]), rfl⟩

/-! ### New, Ops, Cut -/
def newC (room : Nat) : CD := ⟨room, [], 0, false, 0⟩
theorem newC_inv (room : Nat) (h : room ≤ 8388608) : Inv (newC room) := ⟨h, Nat.zero_le _, Nat.zero_le _, (fun f h => by cases h), (fun f h => by cases h), (by show (-9223372036854775808 : Int) ≤ 0; omega), (by show (0 : Int) ≤ 9223372036854775807; omega)⟩
theorem newAt (w : World) (B : Nat) (room : Nat) (hB : B ≤ w.heap.size) : ImAt (w.alloc (.cells (stC (newC room) 0 (.map none)) 62)) B w.heap.size (.map none) [] (newC room) :=
  ⟨hB, rfl, heap_alloc_new w _, .inl ⟨rfl, rfl⟩, (fun q h => by cases h), List.Pairwise.nil⟩

set_option maxHeartbeats 2000000 in
set_option maxRecDepth 100000 in
theorem dNew (w : World) (room : Nat) (h : room ≤ 8388608) :
    Calls Try.prog 11 #[.int .i64 room] w fun e w' => e = .returned (.tuple #[.pointer (some ⟨w.heap.size, 0, none⟩), .int .i64 0]) ∧ w' = w.alloc (.cells (stC (newC room) 0 (.map none)) 62) := by
  have d1 : decide ((8388608 : Int) < (room : Int)) = false := by simp; omega
  go_enter Try.func11, Try.ntmps11
  go_wp2
  go_ret2
  exact ⟨rfl, rfl⟩
set_option maxHeartbeats 2000000 in
set_option maxRecDepth 100000 in
theorem dNew_no (w : World) (room : Int) (h : room < 0 ∨ 8388608 < room) :
    Calls Try.prog 11 #[.int .i64 room] w fun e w' => e = .returned (.tuple #[.pointer none, .int .i64 1]) ∧ w' = w := by
  by_cases h0 : room < 0
  · go_enter Try.func11, Try.ntmps11
    go_wp2
    go_ret2
    exact ⟨rfl, rfl⟩
  · have h1 : 8388608 < room := by omega
    clear h
    go_enter Try.func11, Try.ntmps11
    go_wp2
    go_ret2
    exact ⟨rfl, rfl⟩

set_option maxHeartbeats 2000000 in
set_option maxRecDepth 100000 in
theorem dOps (w : World) (B g : Nat) (mv : Value) (Q : List (Value × RF)) (u : Int) (C : CD) (h : ImR w B g mv Q u C) :
    Calls Try.prog 24 #[.pointer (some ⟨g, 0, none⟩)] w fun e w' => e = .returned (.int .i64 C.n) ∧ w = w' := by
  obtain ⟨c0, c1, c2, c3, c4, c5⟩ := h.cell
  clear h c0 c1 c2 c4 c5
  go_enter Try.func24, Try.ntmps24
  go_wp2
  go_ret
  exact ⟨rfl, rfl⟩
set_option maxHeartbeats 2000000 in
set_option maxRecDepth 100000 in
theorem dOps_nil (w : World) :
    Calls Try.prog 24 #[.pointer none] w fun e w' => e = .returned (.int .i64 0) ∧ w = w' := by
  go_enter Try.func24, Try.ntmps24
  go_wp2
  go_ret
  exact ⟨rfl, rfl⟩

def CD.cutN (C : CD) (k : Int) : CD := { C with cut := true, left := k }
theorem Inv.cutN {C : CD} (h : Inv C) (k : Int) (hl : -9223372036854775808 ≤ k) (hh : k ≤ 9223372036854775807) : Inv (C.cutN k) := ⟨h.room, h.tot, h.len, h.syn, h.nm, hl, hh⟩
def CutPost (w : World) (B g : Nat) (mv : Value) (Q : List (Value × RF)) (u : Int) (C : CD) (e : Ending) (w' : World) : Prop :=
  e = .returned (.tuple #[]) ∧ ImR w' B g mv Q u C ∧ Kept (fun k => k = g) w w' ∧ w'.heap.size = w.heap.size
set_option maxHeartbeats 2000000 in
set_option maxRecDepth 100000 in
theorem dCut (w : World) (B g : Nat) (mv : Value) (Q : List (Value × RF)) (u : Int) (C : CD) (k : Int) (h : ImR w B g mv Q u C) :
    Calls Try.prog 25 #[.pointer (some ⟨g, 0, none⟩), .int .i64 k] w (CutPost w B g mv Q u (C.cutN k)) := by
  obtain ⟨c0, c1, c2, c3, c4, c5⟩ := h.cell
  have f4 := h.frozen 4
  have f5 := h.frozen 5
  have H := Lib.hid h
  clear h c0 c1 c2 c3
  obtain ⟨rm, L, n, cut, left⟩ := C
  go_enter Try.func25, Try.ntmps25
  go_wp2
  refine bodyPost_end (v := .tuple #[]) (by simp [results, Try.results25, go_sem]) rfl ?_
  exact ⟨rfl, ((H.out.set 4 (.bool true) (C' := ⟨rm, L, n, true, left⟩) (u' := u) rfl rfl).set 5 (.int .i64 k) (C' := CD.cutN ⟨rm, L, n, cut, left⟩ k) (u' := u) rfl rfl), (Kept.cellG 4 _).trans (Kept.cellG 5 _) (fun _ _ h => h), by simp⟩
set_option maxHeartbeats 2000000 in
set_option maxRecDepth 100000 in
theorem dCut_nil (w : World) (k : Int) :
    Calls Try.prog 25 #[.pointer none, .int .i64 k] w fun e w' => e = .returned (.tuple #[]) ∧ w = w' := by
  go_enter Try.func25, Try.ntmps25
  go_wp2
  refine bodyPost_end (v := .tuple #[]) (by simp [results, Try.results25, go_sem]) rfl ?_
  exact ⟨rfl, rfl⟩

end Go.Proofs.Ytbolminblofhgaa
