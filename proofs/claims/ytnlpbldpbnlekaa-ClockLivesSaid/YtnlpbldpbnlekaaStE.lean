/-
  Stamps: the greatest and the least of some: Max.
-/
import Derived.Test.YtnlpbldpbnlekaaStD
set_option linter.unusedVariables false
namespace Go.Proofs.Ytnlpbldpbnlekaa
open Go.RowKit

/-- Stamps that came in. -/
structure SmAt (w : World) (x : Addr) (i : Nat) (s : Sm) : Prop where
  c0 : w.cell? (x.add (i * 3)) = some (.int .i64 s.w)
  c1 : w.cell? (x.add (i * 3 + 1)) = some (.int .i64 s.l)
  c2 : w.cell? (x.add (i * 3 + 2)) = some (.int .i64 s.n)
def SmsIn (w : World) (a : Option Addr) (n : Nat) (ss : List Sm) : Prop :=
  ss.length = n ∧ (ss = [] ∨ ∃ x, a = some x ∧ ∀ i (hi : i < ss.length), SmAt w x i (ss[i]'hi))
theorem SmsIn.at {w : World} {a : Option Addr} {n : Nat} {ss : List Sm} (h : SmsIn w a n ss) (i : Nat) (hi : i < ss.length) : ∃ x, a = some x ∧ SmAt w x i (ss[i]'hi) := by
  rcases h.2 with rfl | ⟨x, h1, h⟩
  · simp at hi
  · exact ⟨x, h1, h i hi⟩
theorem SmAt.later {w w' : World} {x : Addr} {i : Nat} {s : Sm} (h : SmAt w x i s) (hb : Below w.heap.size w w') : SmAt w' x i s :=
  ⟨(hb.cell (World.block_lt_of_cell? w _ h.c0)).trans h.c0, (hb.cell (World.block_lt_of_cell? w _ h.c1)).trans h.c1, (hb.cell (World.block_lt_of_cell? w _ h.c2)).trans h.c2⟩
theorem SmsIn.later {w w' : World} {a : Option Addr} {n : Nat} {ss : List Sm} (h : SmsIn w a n ss) (hb : Below w.heap.size w w') : SmsIn w' a n ss := by
  refine ⟨h.1, ?_⟩
  rcases h.2 with e | ⟨x, h1, h2⟩
  · exact .inl e
  · exact .inr ⟨x, h1, fun i hi => (h2 i hi).later hb⟩

/-- One of some, picked from the first on. -/
def pick (f : Sm → Sm → Bool) : List Sm → Sm
  | [] => ⟨0, 0, 0⟩
  | s :: r => r.foldl (fun m x => bif f m x then x else m) s
/-- Behind one more. -/
def nxt (f : Sm → Sm → Bool) (j : Nat) (m x : Sm) : Sm := bif j == 0 || f m x then x else m
theorem pick_take (f : Sm → Sm → Bool) (l : List Sm) (j : Nat) (hj : j < l.length) :
    pick f (l.take (j + 1)) = nxt f j (pick f (l.take j)) (l[j]'hj) := by
  cases l with
  | nil => simp at hj
  | cons s r =>
    cases j with
    | zero => rfl
    | succ j =>
      have hj2 : j < r.length := by simpa using hj
      have e : r.take (j + 1) = r.take j ++ [r[j]'hj2] := by rw [List.take_add_one, List.getElem?_eq_getElem hj2]; rfl
      rw [List.take_succ_cons, e, List.take_succ_cons]
      show List.foldl _ s (r.take j ++ [r[j]'hj2]) = nxt f (j + 1) (List.foldl _ s (r.take j)) (r[j]'hj2)
      rw [List.foldl_append]
      rfl
def maxOf (l : List Sm) : Sm := pick lessB l
def minOf (l : List Sm) : Sm := pick (fun m x => lessB x m) l

/-- Where a round of such a search stands: the result's block, the block of the one that is picked. -/
structure PickRel (w wr : World) (m : Sm) : Prop where
  res : wr.heap[w.heap.size]? = some (.cells #[.int .i64 0, .int .i64 0, .int .i64 0] 32 (0, 0))
  cur : wr.heap[w.heap.size + 1]? = some (.cells #[.int .i64 m.w, .int .i64 m.l, .int .i64 m.n] 32 (0, 0))
  below : Below w.heap.size w wr

theorem set3 {W : World} {g : Nat} {x y z : Value} {t : TypeId} (h : W.heap[g]? = some (.cells #[x, y, z] t (0, 0))) (a b c : Value) :
    (((W.setCell ⟨g, 0, none⟩ a).setCell ⟨g, 1, none⟩ b).setCell ⟨g, 2, none⟩ c).heap[g]? = some (.cells #[a, b, c] t (0, 0)) :=
  heap_setCell_same _ g 2 _ t c (heap_setCell_same _ g 1 _ t b (heap_setCell_same _ g 0 _ t a h))
theorem set3_other {W : World} {g k : Nat} {o : Obj} (h : W.heap[k]? = some o) (hk : k ≠ g) (a b c : Value) :
    (((W.setCell ⟨g, 0, none⟩ a).setCell ⟨g, 1, none⟩ b).setCell ⟨g, 2, none⟩ c).heap[k]? = some o := by
  rw [heap_setCell_other _ _ _ _ (by exact hk), heap_setCell_other _ _ _ _ (by exact hk), heap_setCell_other _ _ _ _ (by exact hk), h]
theorem below3 {B g : Nat} {w W : World} (h : Below B w W) (hg : B ≤ g) (a b c : Value) : Below B w (((W.setCell ⟨g, 0, none⟩ a).setCell ⟨g, 1, none⟩ b).setCell ⟨g, 2, none⟩ c) :=
  ((h.setCell (by exact hg) a).setCell (by exact hg) b).setCell (by exact hg) c

theorem PickRel.step {w wr W : World} {m : Sm} (h : PickRel w wr m) (hb : Below wr.heap.size wr W) : PickRel w W m :=
  ⟨box_below h.res hb (lt_of_block h.res), box_below h.cur hb (lt_of_block h.cur), h.below.trans (hb.mono h.below.size)⟩
theorem PickRel.set {w W : World} {m : Sm} (h : PickRel w W m) (x : Sm) :
    PickRel w (((W.setCell ⟨w.heap.size + 1, 0, none⟩ (.int .i64 x.w)).setCell ⟨w.heap.size + 1, 1, none⟩ (.int .i64 x.l)).setCell ⟨w.heap.size + 1, 2, none⟩ (.int .i64 x.n)) x :=
  ⟨set3_other h.res (by omega) _ _ _, set3 h.cur _ _ _, below3 h.below (by omega) _ _ _⟩

set_option maxHeartbeats 8000000 in
set_option maxRecDepth 100000 in
theorem max_any (a : Option Addr) (n c : Nat) (ss : List Sm) (w : World) (hn : n ≤ 1000000) (h : SmsIn w a n ss) :
    Calls Try.prog 26 #[.slice a n c] w (TelPost (.agg #[.int .i64 (maxOf ss).w, .int .i64 (maxOf ss).l, .int .i64 (maxOf ss).n]) w) := by
  have HL := Lib.hid h.1
  have HIN := Lib.hid h
  have g0 := box_alloc (heap_alloc_new w (.cells #[.int .i64 0, .int .i64 0, .int .i64 0] 32)) (.cells #[.int .i64 0, .int .i64 0, .int .i64 0] 32)
  have g1 := heap_alloc_new (w.alloc (.cells #[.int .i64 0, .int .i64 0, .int .i64 0] 32)) (.cells #[.int .i64 0, .int .i64 0, .int .i64 0] 32)
  rw [World.size_alloc] at g1
  have HR0 := Lib.hid (show PickRel w _ (maxOf (ss.take 0)) from ⟨g0, g1, ((Below.refl _ w).alloc (Nat.le_refl _) _).alloc (by simp) _⟩)
  clear g0 g1 h
  go_enter Try.func26, Try.ntmps26
  go_wp2
  go_loopw [4, 5, 8] (fun _ _ i wr => ∃ j : Nat, i = .int .i64 j ∧ j ≤ n ∧ PickRel w wr (maxOf (ss.take j))) (fun _ _ i _ => n - (intOf i).toNat)
  case atStart => exact ⟨0, rfl, Nat.zero_le _, HR0.out⟩
  case round =>
    obtain ⟨j, rfl, hj, hR⟩ := hrel
    clear HR0
    obtain ⟨m, hm⟩ : ∃ m, m = maxOf (ss.take j) := ⟨_, rfl⟩
    by_cases hlt : j < n
    · have hlt2 : j < ss.length := by have := HL.out; omega
      have hp := pick_take lessB ss j hlt2
      have hin := HIN.out.later hR.below
      obtain ⟨x, rfl, hx⟩ := hin.at j hlt2
      obtain ⟨s, hs⟩ : ∃ s, s = ss[j]'hlt2 := ⟨_, rfl⟩
      rw [← hs] at hx hp
      have HP := Lib.hid (show maxOf (ss.take (j + 1)) = nxt lessB j m s by rw [hm]; exact hp)
      rw [← hm] at hR
      obtain ⟨p0, p1, p2⟩ := hx
      rw [fld x (j * 3) 1 (by decide)] at p1
      rw [fld x (j * 3) 2 (by decide)] at p2
      have hRA := hR.step ((Below.refl _ wr).alloc (Nat.le_refl _) (.cells #[.int .i64 s.w, .int .i64 s.l, .int .i64 s.n] 32))
      have gA := heap_alloc_new wr (.cells #[.int .i64 s.w, .int .i64 s.l, .int .i64 s.n] 32)
      obtain ⟨m0, m1, m2, f0, f1, f2⟩ := box_cells hRA.cur
      have cL := fun wx => less_any m s wx
      unfold TelPost at cL
      have HRA := Lib.hid hRA
      have HGA := Lib.hid gA
      have hz : w.heap.size + 2 ≤ wr.heap.size := lt_of_block hR.cur
      clear hp hin hs hm hR hRA gA
      by_cases hj0 : j = 0
      · have e0 : ((j : Int) == 0) = true := by simpa using hj0
        have HN : Hid (nxt lessB j m s = s) := by show _ = _; unfold nxt; rw [hj0]; rfl
        clear cL hj0
        go_wp2_with fail
        go_roundw
        case rel => exact ⟨j + 1, by go_num, by omega, by rw [HP.out, HN.out]; exact HRA.out.set s⟩
        case measure => simp [intOf]; omega
      · have e0 : ((j : Int) == 0) = false := by simpa using hj0
        have hj1 : (j == 0) = false := by simpa using hj0
        cases hless : lessB m s with
        | true =>
          rw [hless] at cL
          have HN : Hid (nxt lessB j m s = s) := by show _ = _; unfold nxt; rw [hless, Bool.or_true]; rfl
          clear hj0 hj1 hless
          go_wp2_with (go_at_call 28; (with_reducible refine (cL _).mono ?_))
          rintro e W2 ⟨rfl, b2⟩
          have h2 := HRA.out.step b2
          have gB := box_below HGA.out b2 (by simp)
          obtain ⟨q0, q1, q2, _⟩ := box_cells gB
          obtain ⟨r0, r1, r2, k0, k1, k2⟩ := box_cells h2.cur
          have H2 := Lib.hid h2
          clear b2 h2 gB m0 m1 m2 f0 f1 f2 p0 p1 p2 cL
          go_wp2
          go_roundw
          case rel => exact ⟨j + 1, by go_num, by omega, by rw [HP.out, HN.out]; exact H2.out.set s⟩
          case measure => simp [intOf]; omega
        | false =>
          rw [hless] at cL
          have HN : Hid (nxt lessB j m s = m) := by show _ = _; unfold nxt; rw [hless, hj1]; rfl
          clear hj0 hj1 hless
          go_wp2_with (go_at_call 28; (with_reducible refine (cL _).mono ?_))
          rintro e W2 ⟨rfl, b2⟩
          have h2 := HRA.out.step b2
          have H2 := Lib.hid h2
          clear b2 h2 m0 m1 m2 f0 f1 f2 p0 p1 p2 cL
          go_wp2
          go_roundw
          case rel => exact ⟨j + 1, by go_num, by omega, by rw [HP.out, HN.out]; exact H2.out⟩
          case measure => simp [intOf]; omega
    · have hjn : ss.take j = ss := List.take_of_length_le (by have := HL.out; omega)
      rw [hjn] at hm hR
      rw [← hm] at hR
      have HM := Lib.hid hm
      obtain ⟨r0, r1, r2, k0, k1, k2⟩ := box_cells hR.cur
      obtain ⟨t0, t1, t2, l0, l1, l2⟩ := box_cells hR.res
      have GE := set3 hR.res (.int .i64 m.w) (.int .i64 m.l) (.int .i64 m.n)
      obtain ⟨z0, z1, z2, _⟩ := box_cells GE
      have HB := Lib.hid (below3 hR.below (Nat.le_refl _) (.int .i64 m.w) (.int .i64 m.l) (.int .i64 m.n))
      clear hR hm hjn GE
      go_wp2
      refine bodyPost_ret (v := .agg #[.int .i64 m.w, .int .i64 m.l, .int .i64 m.n]) (by simp [results, Try.results26, go_sem, z0, z1, z2]) rfl ?_
      exact ⟨by rw [HM.out], HB.out⟩

end Go.Proofs.Ytnlpbldpbnlekaa
