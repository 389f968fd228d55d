/-
  Package net, as it lies (NtAt); its small functions (New, Len, room, has, isNode, may).
-/
import Derived.Test.YtenpoolminfofaaKp
set_option linter.unusedVariables false
namespace Go.Proofs.Ytenpoolminfofaa
open Go.RowKit

/-- A packet, plainly. -/
structure Pk where
  f : Int
  t : Int
  b : List UInt8

def pC (q : Value × Pk) : List Value := [.int .i64 q.2.f, .int .i64 q.2.t, q.1]
theorem pC_len (q : Value × Pk) : (pC q).length = 3 := rfl
theorem infoPacket : (Try.prog.info? 36).map (fun i => (i.zero, i.size, i.bytes)) = some (some (.agg #[.int .i64 0, .int .i64 0, .slice none 0 0]), 3, 40) := by kernel_rfl

/-- A net, its struct (of type t) in block g, its row v, Q its packets with their bytes. -/
structure NtAt (t : TypeId) (w : World) (B g : Nat) (v : Value) (Q : List (Value × Pk)) (L : List Pk) : Prop where
  low : B ≤ g
  eq : Q.map Prod.snd = L
  blk : w.heap[g]? = some (.cells #[v] t (0, 0))
  row : w.ownsRow B 36 3 v Q.length (rowOf pC Q)
  byt : ∀ q ∈ Q, w.ownsRow B 5 1 q.1 q.2.b.length (Lib.byteCells q.2.b)
  typ : t ≠ 36 ∧ t ≠ 5

/-- The blocks that a net may write to; all that it leads to. -/
def NtS (g : Nat) (v : Value) (k : Nat) : Prop := k = g ∨ v.ownBlock = some k
def NtAll (g : Nat) (v : Value) (Q : List (Value × Pk)) (k : Nat) : Prop := NtS g v k ∨ ∃ q ∈ Q, q.1.ownBlock = some k

section
variable {t : TypeId} {w : World} {B g : Nat} {v : Value} {Q : List (Value × Pk)} {L : List Pk}
theorem NtAt.len (h : NtAt t w B g v Q L) : Q.length = L.length := by rw [← h.eq, List.length_map]
theorem NtAt.cell (h : NtAt t w B g v Q L) : w.cell? ⟨g, 0, none⟩ = some v := by rw [cell_of_row _ g _ _ _ _ h.blk]; rfl
theorem NtAt.frozen (h : NtAt t w B g v Q L) : w.frozen? ⟨g, 0, none⟩ = false := frozen_of_row _ g 0 _ _ h.blk
theorem NtAt.lt (h : NtAt t w B g v Q L) : g < w.heap.size := lt_of_block h.blk
theorem NtAt.apart (h : NtAt t w B g v Q L) : v.ownBlock ≠ some g := own_ne h.blk h.row h.typ.1.symm
theorem NtAt.ltS (h : NtAt t w B g v Q L) : ∀ k, NtS g v k → B ≤ k ∧ k < w.heap.size := by
  rintro k (rfl | e)
  · exact ⟨h.low, h.lt⟩
  · exact own_lt h.row k e
theorem NtAt.ltAll (h : NtAt t w B g v Q L) : ∀ k, NtAll g v Q k → B ≤ k ∧ k < w.heap.size := by
  rintro k (e | ⟨q, hq, e⟩)
  · exact h.ltS k e
  · exact own_lt (h.byt q hq) k e
theorem own_two {e1 e2 : TypeId} {k1 k2 n1 n2 : Nat} {v1 v2 : Value} {x1 x2 : List Value} {B1 B2 : Nat} (h1 : w.ownsRow B1 e1 k1 v1 n1 x1) (h2 : w.ownsRow B2 e2 k2 v2 n2 x2) (he : e2 ≠ e1) : ∀ k, v1.ownBlock = some k → v2.ownBlock ≠ some k := by
  intro k hk
  rcases h1.2 with ⟨hv, _⟩ | ⟨g', cap, cur, hv, _, hg', _⟩
  · rw [hv] at hk; cases hk
  · rw [hv] at hk
    injection hk with hk
    have e' : g' = k := hk
    subst e'
    exact own_ne hg' h2 he
theorem NtAt.apartB (h : NtAt t w B g v Q L) (q : Value × Pk) (hq : q ∈ Q) : ∀ k, q.1.ownBlock = some k → ¬ NtS g v k := by
  rintro k hk (e | e)
  · subst e
    exact own_ne h.blk (h.byt q hq) h.typ.2.symm hk
  · exact own_two (h.byt q hq) h.row (by decide) k hk e
theorem NtAt.kept {w' : World} {S : Nat → Prop} (h : NtAt t w B g v Q L) (hk : Kept S w w') (hs : ∀ k, NtAll g v Q k → ¬ S k) : NtAt t w' B g v Q L :=
  ⟨h.low, h.eq, (hk.block g h.lt (hs g (.inl (.inl rfl)))).trans h.blk, Kept.own h.row hk (fun k e => hs k (.inl (.inr e))), fun q hq => Kept.own (h.byt q hq) hk (fun k e => hs k (.inr ⟨q, hq, e⟩)), h.typ⟩
theorem NtAt.below {w' : World} (h : NtAt t w B g v Q L) (hb : Below w.heap.size w w') : NtAt t w' B g v Q L :=
  h.kept (S := fun _ => False) (Kept.of_below hb) (fun _ _ h => h)
theorem NtAt.drew (h : NtAt t w B g v Q L) : NtAt t w.drew B g v Q L := h.kept (S := fun _ => False) ((Kept.refl _ w).drew) (fun _ _ h => h)
/-- Another row in the struct. -/
theorem NtAt.mk' {w : World} {v0 v' : Value} {Q' : List (Value × Pk)} {L' : List Pk} (hB : B ≤ g) (hg : w.heap[g]? = some (.cells #[v0] t (0, 0))) (ht : t ≠ 36 ∧ t ≠ 5) (ho : w.ownsRow B 36 3 v' Q'.length (rowOf pC Q')) (hb : ∀ q ∈ Q', w.ownsRow B 5 1 q.1 q.2.b.length (Lib.byteCells q.2.b)) (hL : Q'.map Prod.snd = L') :
    NtAt t (w.setCell ⟨g, 0, none⟩ v') B g v' Q' L' :=
  ⟨hB, hL, heap_setCell_same _ g 0 _ _ _ hg, ownsRow_setCell_other ho (own_ne hg ho ht.1.symm) _, fun q hq => ownsRow_setCell_other (hb q hq) (own_ne hg (hb q hq) ht.2.symm) _, ht⟩
theorem NtAt.one (h : NtAt t w B g v Q L) (Q' : List (Value × Pk)) (hs : ∀ q ∈ Q', q ∈ Q) : ∀ u ∈ rowOf pC Q', u.oneCell' = true := by
  intro u hu
  obtain ⟨q, hq, hu⟩ := List.mem_flatMap.1 hu
  obtain ⟨a, c, hv⟩ := own_slice (h.byt q (hs q hq))
  simp only [pC, hv, List.mem_cons, List.mem_nil_iff, or_false] at hu
  rcases hu with rfl | rfl | rfl <;> rfl
/-- A packet's cells. -/
theorem NtAt.cells (h : NtAt t w B g v Q L) (k : Nat) (hk : k < Q.length) :
    ∃ gr cp, v = .slice (some ⟨gr, 0, none⟩) Q.length cp ∧ Q.length ≤ cp ∧ cp ≤ maxLen ∧ w.cell? ⟨gr, k * 3, none⟩ = some (.int .i64 (Q[k]'hk).2.f) ∧ w.cell? ⟨gr, k * 3 + 1, none⟩ = some (.int .i64 (Q[k]'hk).2.t) ∧ w.cell? ⟨gr, k * 3 + 2, none⟩ = some (Q[k]'hk).1 := by
  obtain ⟨gr, cp, rfl, _, hc⟩ := own_cells h.row pC_len rfl (by intro e; rw [e] at hk; simp at hk)
  obtain ⟨_, _, h1, h2⟩ := own_some h.row (by omega)
  exact ⟨gr, cp, rfl, h1, h2, hc k hk 0 (by omega), hc k hk 1 (by omega), hc k hk 2 (by omega)⟩
theorem NtAt.row_some (h : NtAt t w B g v Q L) (h0 : Q ≠ []) : ∃ gr cp, v = .slice (some ⟨gr, 0, none⟩) Q.length cp ∧ Q.length ≤ cp ∧ cp ≤ maxLen := by
  obtain ⟨gr, cp, hv, h1, h2, _⟩ := h.cells 0 (List.length_pos_iff.2 h0)
  exact ⟨gr, cp, hv, h1, h2⟩
end

def NewPost (t : TypeId) (w : World) (e : Ending) (w' : World) : Prop :=
  ∃ G, e = .returned (.pointer (some ⟨G, 0, none⟩)) ∧ NtAt t w' w.heap.size G (.slice none 0 0) [] [] ∧ Below w.heap.size w w'

theorem nt_zero (w : World) (t : TypeId) (ht : t ≠ 36 ∧ t ≠ 5) : NtAt t (w.alloc (.cells #[.slice none 0 0] t)) w.heap.size w.heap.size (.slice none 0 0) [] [] :=
  ⟨Nat.le_refl _, rfl, heap_alloc_new w _, ⟨rfl, .inl ⟨rfl, rfl⟩⟩, fun q hq => (by cases hq), ht⟩

set_option maxHeartbeats 2000000 in
set_option maxRecDepth 100000 in
theorem nNew (w : World) : Calls Try.prog 9 #[] w (NewPost 46 w) := by
  go_enter Try.func9, Try.ntmps9
  go_wp2
  go_ret
  exact ⟨_, rfl, nt_zero w _ (by decide), (Below.refl _ w).alloc (Nat.le_refl _) _⟩

set_option maxHeartbeats 2000000 in
set_option maxRecDepth 100000 in
theorem nLen (w : World) (B g : Nat) (v : Value) (Q : List (Value × Pk)) (L : List Pk) (h : NtAt 46 w B g v Q L) :
    Calls Try.prog 22 #[.pointer (some ⟨g, 0, none⟩)] w fun e w' => e = .returned (.int .i64 L.length) ∧ w' = w := by
  obtain ⟨a, cp, rfl⟩ := own_slice h.row
  have c0 := h.cell
  rw [← h.len]
  clear h
  go_enter Try.func22, Try.ntmps22
  go_wp2
  go_ret
  exact ⟨rfl, rfl⟩

set_option maxHeartbeats 2000000 in
set_option maxRecDepth 100000 in
theorem nLen_nil (w : World) : Calls Try.prog 22 #[.pointer none] w fun e w' => e = .returned (.int .i64 0) ∧ w' = w := by
  go_enter Try.func22, Try.ntmps22
  go_wp2
  go_ret
  exact ⟨rfl, rfl⟩

set_option maxHeartbeats 2000000 in
set_option maxRecDepth 100000 in
theorem nRoom (w : World) (B g : Nat) (v : Value) (Q : List (Value × Pk)) (L : List Pk) (h : NtAt 46 w B g v Q L) :
    Calls Try.prog 25 #[.pointer (some ⟨g, 0, none⟩)] w fun e w' => e = .returned (.bool (decide (L.length < 200))) ∧ w' = w := by
  obtain ⟨a, cp, rfl⟩ := own_slice h.row
  have c0 := h.cell
  rw [← h.len]
  clear h
  have hd : decide (Q.length < 200) = decide ((Q.length : Int) < 200) := by rw [decide_eq_decide]; omega
  rw [hd]
  go_enter Try.func25, Try.ntmps25
  go_wp2
  go_ret
  exact ⟨rfl, rfl⟩

def hasL (k : Int) (n : Nat) : Bool := decide (0 ≤ k ∧ k < n)

set_option maxHeartbeats 2000000 in
set_option maxRecDepth 100000 in
theorem nHas (w : World) (B g : Nat) (v : Value) (Q : List (Value × Pk)) (L : List Pk) (k : Int) (h : NtAt 46 w B g v Q L) :
    Calls Try.prog 28 #[.pointer (some ⟨g, 0, none⟩), .int .i64 k] w fun e w' => e = .returned (.bool (hasL k L.length)) ∧ w' = w := by
  have cL := nLen w B g v Q L h
  clear h
  unfold hasL
  by_cases h0 : 0 ≤ k
  · have e1 : decide (0 ≤ k ∧ k < (L.length : Int)) = decide (k < (L.length : Int)) := by rw [decide_eq_decide]; exact ⟨fun h => h.2, fun h => ⟨h0, h⟩⟩
    rw [e1]
    go_enter Try.func28, Try.ntmps28
    go_wp2_with (go_at_call 22; (with_reducible refine cL.mono ?_); rintro e w' ⟨rfl, rfl⟩)
    go_ret
    exact ⟨rfl, rfl⟩
  · have e1 : decide (0 ≤ k ∧ k < (L.length : Int)) = false := decide_eq_false fun h => h0 h.1
    rw [e1]
    clear cL
    go_enter Try.func28, Try.ntmps28
    go_wp2
    go_ret
    exact ⟨rfl, rfl⟩

set_option maxHeartbeats 2000000 in
set_option maxRecDepth 100000 in
theorem nHas_nil (w : World) (k : Int) :
    Calls Try.prog 28 #[.pointer none, .int .i64 k] w fun e w' => e = .returned (.bool false) ∧ w' = w := by
  have cL := nLen_nil w
  by_cases h0 : 0 ≤ k
  · have e1 : ¬ k < 0 := by omega
    go_enter Try.func28, Try.ntmps28
    go_wp2_with (go_at_call 22; (with_reducible refine cL.mono ?_); rintro e w' ⟨rfl, rfl⟩)
    go_ret
    exact ⟨by show Ending.returned (Value.bool (decide (k < 0))) = _; rw [decide_eq_false (by omega)], rfl⟩
  · clear cL
    go_enter Try.func28, Try.ntmps28
    go_wp2
    go_ret
    exact ⟨rfl, rfl⟩

def nodeB (k : Int) : Bool := decide (1 ≤ k ∧ k ≤ 5)

set_option maxHeartbeats 2000000 in
set_option maxRecDepth 100000 in
theorem nIsNode (w : World) (k : Int) : Calls Try.prog 32 #[.int .i64 k] w fun e w' => e = .returned (.bool (nodeB k)) ∧ w' = w := by
  unfold nodeB
  by_cases h0 : 1 ≤ k
  · have e1 : decide (1 ≤ k ∧ k ≤ 5) = decide (k ≤ 5) := by rw [decide_eq_decide]; exact ⟨fun h => h.2, fun h => ⟨h0, h⟩⟩
    rw [e1]
    go_enter Try.func32, Try.ntmps32
    go_wp2
    go_ret
    exact ⟨rfl, rfl⟩
  · have e1 : decide (1 ≤ k ∧ k ≤ 5) = false := decide_eq_false fun h => h0 h.1
    rw [e1]
    go_enter Try.func32, Try.ntmps32
    go_wp2
    go_ret
    exact ⟨rfl, rfl⟩

/-- May a packet stand, by its ends and by how many bytes it has. -/
def mayB (f t : Int) (n : Nat) : Bool := nodeB f && nodeB t && decide (f ≠ t) && decide (n ≤ 131072)

set_option maxHeartbeats 4000000 in
set_option maxRecDepth 100000 in
theorem nMay (w : World) (f t : Int) (a : Option Addr) (n c : Nat) :
    Calls Try.prog 26 #[.agg #[.int .i64 f, .int .i64 t, .slice a n c]] w fun e w' => e = .returned (.bool (mayB f t n)) ∧ Below w.heap.size w w' := by
  have cN := fun (wx : World) (k : Int) => nIsNode wx k
  have HA := Lib.hid ((Below.refl _ w).alloc (Nat.le_refl w.heap.size) (.cells #[.int .i64 f, .int .i64 t, .slice a n c] 36))
  have hn : decide (n ≤ 131072) = decide ((n : Int) ≤ 131072) := by rw [decide_eq_decide]; omega
  cases h1 : nodeB f with
  | false =>
    have e1 : mayB f t n = false := by simp [mayB, h1]
    rw [e1]
    have c1 := fun wx => cN wx f
    rw [h1] at c1
    clear cN
    go_enter Try.func26, Try.ntmps26
    go_wp2_with (go_at_call 32; (with_reducible refine (c1 _).mono ?_); rintro e w' ⟨rfl, rfl⟩)
    go_ret
    exact ⟨rfl, HA.out⟩
  | true =>
    cases h2 : nodeB t with
    | false =>
      have e1 : mayB f t n = false := by simp [mayB, h2]
      rw [e1]
      have c1 := fun wx => cN wx f
      have c2 := fun wx => cN wx t
      rw [h1] at c1
      rw [h2] at c2
      clear cN
      go_enter Try.func26, Try.ntmps26
      go_wp2_with (go_at_call 32; first | ((with_reducible refine (c1 _).mono ?_); rintro e w' ⟨rfl, rfl⟩) | ((with_reducible refine (c2 _).mono ?_); rintro e w' ⟨rfl, rfl⟩))
      all_goals (go_ret; exact ⟨rfl, HA.out⟩)
    | true =>
      have c1 := fun wx => cN wx f
      have c2 := fun wx => cN wx t
      rw [h1] at c1
      rw [h2] at c2
      clear cN
      by_cases h3 : f = t
      · have e1 : mayB f t n = false := by simp [mayB, h3]
        rw [e1]
        subst h3
        go_enter Try.func26, Try.ntmps26
        go_wp2_with (go_at_call 32; first | ((with_reducible refine (c1 _).mono ?_); rintro e w' ⟨rfl, rfl⟩) | ((with_reducible refine (c2 _).mono ?_); rintro e w' ⟨rfl, rfl⟩))
        all_goals (go_ret; exact ⟨rfl, HA.out⟩)
      · have e1 : mayB f t n = decide ((n : Int) ≤ 131072) := by rw [← hn]; simp [mayB, h1, h2, h3]
        rw [e1]
        have h4 : (f != t) = true := bne_iff_ne.2 h3
        go_enter Try.func26, Try.ntmps26
        go_wp2_with (go_at_call 32; first | ((with_reducible refine (c1 _).mono ?_); rintro e w' ⟨rfl, rfl⟩) | ((with_reducible refine (c2 _).mono ?_); rintro e w' ⟨rfl, rfl⟩))
        all_goals (go_ret; exact ⟨rfl, HA.out⟩)

end Go.Proofs.Ytenpoolminfofaa
