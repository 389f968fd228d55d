/-
  Package event's Make.
-/
import Derived.Test.YtggognmbjgkdfaaEvF
import Derived.Test.YtggognmbjgkdfaaShelf
set_option linter.unusedVariables false
namespace Go.Proofs.Ytggognmbjgkdfaa
open Go.RowKit

/-- Numbers that lie in a row. -/
def IntsIn (w : World) (a : Option Addr) (l : List Int) : Prop :=
  ∀ j (hj : j < l.length), ∃ x, a = some x ∧ w.cell? (x.add j) = some (.int .i64 (l[j]'hj))
theorem IntsIn.later {w w' : World} {a : Option Addr} {l : List Int} (h : IntsIn w a l) (hb : Below w.heap.size w w') : IntsIn w' a l := fun j hj => by
  obtain ⟨x, hx, hc⟩ := h j hj
  exact ⟨x, hx, cell_later hb hc⟩

/-- A put's first events; a batch's events. -/
def verOf (f : Option Int) (i : Nat) : Int := match f with | some f => f + i | none => 0
def putEvs (p : Pt) (f : Option Int) (s : Sm) (ix : Int) (t : Nat) : List Ev := (List.range t).map fun i => ⟨p.s, verOf f i, p.d.getD i ⟨#[]⟩, s, ix + i⟩
def mkUpto (ps : List Pt) (fs : List Int) (s : Sm) (ix : Int) : Nat → List Ev
  | 0 => []
  | j + 1 => mkUpto ps fs s ix j ++ putEvs (ps.getD j ⟨⟨#[]⟩, 0, []⟩) fs[j]? s (ix + (mkUpto ps fs s ix j).length) (ps.getD j ⟨⟨#[]⟩, 0, []⟩).d.length
def makeL (ps : List Pt) (fs : List Int) (s : Sm) (ix : Int) : List Ev := mkUpto ps fs s ix ps.length
theorem putEvs_len (p : Pt) (f : Option Int) (s : Sm) (ix : Int) (t : Nat) : (putEvs p f s ix t).length = t := by simp [putEvs]
theorem putEvs_succ (p : Pt) (f : Option Int) (s : Sm) (ix : Int) (t : Nat) (ht : t < p.d.length) : putEvs p f s ix (t + 1) = putEvs p f s ix t ++ [⟨p.s, verOf f t, p.d[t]'ht, s, ix + t⟩] := by
  simp [putEvs, List.range_succ, List.getD_eq_getElem?_getD, List.getElem?_eq_getElem ht]
theorem mkUpto_succ (ps : List Pt) (fs : List Int) (s : Sm) (ix : Int) (j : Nat) (h : j < ps.length) : mkUpto ps fs s ix (j + 1) = mkUpto ps fs s ix j ++ putEvs (ps[j]'h) fs[j]? s (ix + (mkUpto ps fs s ix j).length) (ps[j]'h).d.length := by
  have e : ps.getD j ⟨⟨#[]⟩, 0, []⟩ = ps[j]'h := by simp [List.getD_eq_getElem?_getD, List.getElem?_eq_getElem h]
  show mkUpto ps fs s ix j ++ putEvs (ps.getD j ⟨⟨#[]⟩, 0, []⟩) fs[j]? s _ (ps.getD j ⟨⟨#[]⟩, 0, []⟩).d.length = _
  rw [e]
def dLens (ps : List Pt) : Nat := (ps.map fun p => p.d.length).sum
theorem mkUpto_len (ps : List Pt) (fs : List Int) (s : Sm) (ix : Int) : ∀ j, j ≤ ps.length → (mkUpto ps fs s ix j).length = dLens (ps.take j)
  | 0, _ => rfl
  | j + 1, h => by
    rw [mkUpto_succ ps fs s ix j (by omega), List.length_append, mkUpto_len ps fs s ix j (by omega), putEvs_len]
    unfold dLens
    rw [List.take_succ_eq_append_getElem (by omega), List.map_append, List.sum_append]; simp
theorem dLens_le {b : Ba} (h : baSum b ≤ 1000000) (j : Nat) : dLens (b.p.take j) ≤ 1000000 := by
  have h1 : dLens (b.p.take j) ≤ dLens b.p := sum_take_le _ _ _
  unfold baSum ptsSum at h
  have h2 : dLens b.p ≤ (b.p.map ptSum).sum := by
    unfold dLens
    clear h1 h
    induction b.p with
    | nil => simp
    | cons a r ih => simp only [List.map_cons, List.sum_cons]; unfold ptSum; unfold ptSum at ih; omega
  omega

/-- An event's cells. -/
def evCells (e : Ev) : List Value := [.string e.s, .int .i64 e.v, .string e.d, .int .i64 e.t.w, .int .i64 e.t.l, .int .i64 e.t.n, .int .i64 e.i]
theorem evCells_one (e : Ev) : ∀ u ∈ evCells e, u.oneCell' = true := by
  intro u hu
  simp only [evCells, List.mem_cons, List.mem_nil_iff, or_false] at hu
  rcases hu with rfl | rfl | rfl | rfl | rfl | rfl | rfl <;> rfl
theorem evCells_len (e : Ev) : (evCells e).length = 7 := rfl
theorem infoEvent : (Try.prog.info? 42).map (fun i => (i.zero, i.size, i.bytes)) = some (some (.agg #[.string ⟨#[]⟩, .int .i64 0, .string ⟨#[]⟩, .int .i64 0, .int .i64 0, .int .i64 0, .int .i64 0]), 7, 72) := by kernel_rfl

theorem clone_t (s : ByteArray) (w : World) (hs : s.size ≤ 1000000) : Calls Try.prog 67 #[.string s] w (TelPost (.string s) w) := by
  have c := Try.stringslite_Clone s w (by omega)
  have c' : Calls Try.prog 93 #[.string s] w (TelPost (.string s) w) := c
  clear c
  go_enter Try.func67, Try.ntmps67
  go_wp2_with (go_at_call 93; (with_reducible refine c'.mono ?_))
  rintro e W ⟨rfl, b⟩
  have HB := Lib.hid b
  clear b c'
  go_wp2
  go_ret
  exact ⟨rfl, HB.out⟩

theorem nb {X W : World} {g : Nat} {o : Obj} (hb : Below X.heap.size X W) (h : X.heap[g]? = some o) : W.heap[g]? = some o := box_below h hb (lt_of_block h)
theorem box7_cells {w : World} {g : Nat} {a b c d e f i : Value} {t : TypeId} (h : w.heap[g]? = some (.cells #[a, b, c, d, e, f, i] t (0, 0))) :
    w.cell? ⟨g, 0, none⟩ = some a ∧ w.cell? ⟨g, 1, none⟩ = some b ∧ w.cell? ⟨g, 2, none⟩ = some c ∧ w.cell? ⟨g, 3, none⟩ = some d ∧ w.cell? ⟨g, 4, none⟩ = some e ∧ w.cell? ⟨g, 5, none⟩ = some f ∧ w.cell? ⟨g, 6, none⟩ = some i ∧ w.frozen? ⟨g, 0, none⟩ = false ∧ w.frozen? ⟨g, 1, none⟩ = false ∧ w.frozen? ⟨g, 2, none⟩ = false ∧ w.frozen? ⟨g, 3, none⟩ = false ∧ w.frozen? ⟨g, 4, none⟩ = false ∧ w.frozen? ⟨g, 5, none⟩ = false ∧ w.frozen? ⟨g, 6, none⟩ = false := by
  refine ⟨?_, ?_, ?_, ?_, ?_, ?_, ?_, frozen_of_row _ g 0 _ _ h, frozen_of_row _ g 1 _ _ h, frozen_of_row _ g 2 _ _ h, frozen_of_row _ g 3 _ _ h, frozen_of_row _ g 4 _ _ h, frozen_of_row _ g 5 _ _ h, frozen_of_row _ g 6 _ _ h⟩ <;> rw [cell_of_row _ g _ _ _ _ h] <;> rfl
theorem bcell {W w1 : World} (hb : Below W.heap.size W w1) : (∀ b o, b < W.heap.size → w1.cell? ⟨b, o, none⟩ = W.cell? ⟨b, o, none⟩) ∧ (∀ b o, b < W.heap.size → w1.frozen? ⟨b, o, none⟩ = W.frozen? ⟨b, o, none⟩) :=
  ⟨fun b o h => hb.cell (p := ⟨b, o, none⟩) h, fun b o h => hb.frozen (p := ⟨b, o, none⟩) h⟩
theorem cells3 {V W : World} {a1 a2 a3 : Addr} {u1 u2 u3 : Value} (h : V.cell? a1 = some u1 ∧ V.cell? a2 = some u2 ∧ V.cell? a3 = some u3) (hb : Below V.heap.size V W) :
    W.cell? a1 = some u1 ∧ W.cell? a2 = some u2 ∧ W.cell? a3 = some u3 :=
  ⟨cell_later hb h.1, cell_later hb h.2.1, cell_later hb h.2.2⟩

/-- A new block stands. -/
def MkCut (w : World) (o : Obj) (v : Value) (wx : World) : Prop := ∃ g : Nat, v = .pointer (some ⟨g, 0, none⟩) ∧ w.heap.size ≤ g ∧ wx.heap[g]? = some o ∧ Below w.heap.size w wx

theorem cutA {w V : World} {o : Obj} (b : Below w.heap.size w V) : MkCut w o (.pointer (some ⟨V.heap.size, 0, none⟩)) (V.alloc o) := ⟨_, rfl, b.size, heap_alloc_new V o, b.alloc b.size o⟩
theorem set7 {W : World} {g : Nat} {a0 a1 a2 a3 a4 a5 a6 : Value} {t : TypeId} (h : W.heap[g]? = some (.cells #[a0, a1, a2, a3, a4, a5, a6] t (0, 0))) (b0 b1 b2 b3 b4 b5 b6 : Value) :
    (((((((W.setCell ⟨g, 0, none⟩ b0).setCell ⟨g, 1, none⟩ b1).setCell ⟨g, 2, none⟩ b2).setCell ⟨g, 3, none⟩ b3).setCell ⟨g, 4, none⟩ b4).setCell ⟨g, 5, none⟩ b5).setCell ⟨g, 6, none⟩ b6).heap[g]? = some (.cells #[b0, b1, b2, b3, b4, b5, b6] t (0, 0)) := by
  have h0 : (W.setCell ⟨g, 0, none⟩ b0).heap[g]? = some (.cells #[b0, a1, a2, a3, a4, a5, a6] t (0, 0)) := heap_setCell_same _ g 0 _ t b0 h
  have h1 : ((W.setCell ⟨g, 0, none⟩ b0).setCell ⟨g, 1, none⟩ b1).heap[g]? = some (.cells #[b0, b1, a2, a3, a4, a5, a6] t (0, 0)) := heap_setCell_same _ g 1 _ t b1 h0
  have h2 : (((W.setCell ⟨g, 0, none⟩ b0).setCell ⟨g, 1, none⟩ b1).setCell ⟨g, 2, none⟩ b2).heap[g]? = some (.cells #[b0, b1, b2, a3, a4, a5, a6] t (0, 0)) := heap_setCell_same _ g 2 _ t b2 h1
  have h3 : ((((W.setCell ⟨g, 0, none⟩ b0).setCell ⟨g, 1, none⟩ b1).setCell ⟨g, 2, none⟩ b2).setCell ⟨g, 3, none⟩ b3).heap[g]? = some (.cells #[b0, b1, b2, b3, a4, a5, a6] t (0, 0)) := heap_setCell_same _ g 3 _ t b3 h2
  have h4 : (((((W.setCell ⟨g, 0, none⟩ b0).setCell ⟨g, 1, none⟩ b1).setCell ⟨g, 2, none⟩ b2).setCell ⟨g, 3, none⟩ b3).setCell ⟨g, 4, none⟩ b4).heap[g]? = some (.cells #[b0, b1, b2, b3, b4, a5, a6] t (0, 0)) := heap_setCell_same _ g 4 _ t b4 h3
  have h5 : ((((((W.setCell ⟨g, 0, none⟩ b0).setCell ⟨g, 1, none⟩ b1).setCell ⟨g, 2, none⟩ b2).setCell ⟨g, 3, none⟩ b3).setCell ⟨g, 4, none⟩ b4).setCell ⟨g, 5, none⟩ b5).heap[g]? = some (.cells #[b0, b1, b2, b3, b4, b5, a6] t (0, 0)) := heap_setCell_same _ g 5 _ t b5 h4
  have h6 : (((((((W.setCell ⟨g, 0, none⟩ b0).setCell ⟨g, 1, none⟩ b1).setCell ⟨g, 2, none⟩ b2).setCell ⟨g, 3, none⟩ b3).setCell ⟨g, 4, none⟩ b4).setCell ⟨g, 5, none⟩ b5).setCell ⟨g, 6, none⟩ b6).heap[g]? = some (.cells #[b0, b1, b2, b3, b4, b5, b6] t (0, 0)) := heap_setCell_same _ g 6 _ t b6 h5
  exact h6
theorem cutB {w V : World} {a0 a1 a2 a3 a4 a5 a6 b0 b1 b2 b3 b4 b5 b6 : Value} {t : TypeId} (h : V.heap[w.heap.size]? = some (.cells #[a0, a1, a2, a3, a4, a5, a6] t (0, 0))) (b : Below w.heap.size w V) :
    MkCut w (.cells #[b0, b1, b2, b3, b4, b5, b6] t (0, 0)) (.pointer (some ⟨w.heap.size, 0, none⟩)) (((((((V.setCell ⟨w.heap.size, 0, none⟩ b0).setCell ⟨w.heap.size, 1, none⟩ b1).setCell ⟨w.heap.size, 2, none⟩ b2).setCell ⟨w.heap.size, 3, none⟩ b3).setCell ⟨w.heap.size, 4, none⟩ b4).setCell ⟨w.heap.size, 5, none⟩ b5).setCell ⟨w.heap.size, 6, none⟩ b6) :=
  ⟨_, rfl, Nat.le_refl _, set7 h _ _ _ _ _ _ _, ((((((b.setCell (Nat.le_refl _) _).setCell (Nat.le_refl _) _).setCell (Nat.le_refl _) _).setCell (Nat.le_refl _) _).setCell (Nat.le_refl _) _).setCell (Nat.le_refl _) _).setCell (Nat.le_refl _) _⟩

theorem box_other' {W : World} {g : Nat} {o : Obj} (h : W.heap[g]? = some o) (p : Addr) (hp : g ≠ p.block) (v : Value) : (W.setCell p v).heap[g]? = some o := (heap_setCell_other _ _ _ _ hp).trans h
/-- A block of another type stays when a row grows. -/
theorem stay_app {W W3 : World} {B k n : Nat} {e t : TypeId} {v : Value} {xs : List Value} {g : Nat} {cs : Array Value} {m : Nat × Nat} {o : Obj} (hg : W.heap[g]? = some (.cells cs t m)) (ho : W.ownsRow B e k v n xs) (he : e ≠ t) (h : (W.alloc o).grownBy W3 v.ownBlock) : W3.heap[g]? = some (.cells cs t m) := by
  have hlt := lt_of_block hg
  rw [h.block g (by simp; omega) (fun e2 => own_ne hg ho he e2.symm)]
  exact (Below.heap_alloc W o g hlt).trans hg

/-- What Make leaves: a row of its own. -/
def EvsPost (B : Nat) (l : List Ev) (w : World) (e : Ending) (w' : World) : Prop :=
  ∃ a m c, e = .returned (.slice a m c) ∧ m = l.length ∧ w'.ownsRow B 42 7 (.slice a m c) m (rowOf evCells l) ∧ Below w.heap.size w w'

structure MkRel (w wr : World) (v : Value) (m : Nat) (l : List Ev) (s : Sm) : Prop where
  len : m = l.length
  own : wr.ownsRow w.heap.size 42 7 v m (rowOf evCells l)
  st : wr.heap[w.heap.size + 1]? = some (.cells #[.int .i64 s.w, .int .i64 s.l, .int .i64 s.n] 40 (0, 0))
  below : Below w.heap.size w wr

set_option maxHeartbeats 8000000 in
set_option maxRecDepth 100000 in
theorem make_any (b : Ba) (a : Option Addr) (n c : Nat) (fs : List Int) (fa : Option Addr) (fn fc : Nat) (s : Sm) (ix : Int) (w : World) (hs : baSum b ≤ 1000000) (hl : b.p.length = n) (h : PtsIn w a b.p)
    (hfl : fs.length = fn) (hfn : fn ≤ 1000000) (hf : IntsIn w fa fs) (hfb : ∀ f ∈ fs, -2199023255552 ≤ f ∧ f ≤ 2199023255552) (hi0 : -2199023255552 ≤ ix) (hi1 : ix ≤ 2199023255552) :
    Calls Try.prog 32 #[.agg #[.string b.k, .slice a n c], .slice fa fn fc, .agg #[.int .i64 s.w, .int .i64 s.l, .int .i64 s.n], .int .i64 ix] w (EvsPost w.heap.size (makeL b.p fs s ix) w) := by
  obtain ⟨i0, hi, hz0, hz1, hz2⟩ := info_parts infoEvent
  obtain ⟨hfit, s1, s2, s3, s4⟩ := ba_small hs
  have hdl := fun j => dLens_le hs j
  have hml := mkUpto_len b.p fs s ix
  have hms := mkUpto_succ b.p fs s ix
  have bA := ((Below.refl w.heap.size w).alloc (Nat.le_refl _) (.cells #[.string b.k, .slice a n c] 24)).alloc (by simp) (.cells #[.int .i64 s.w, .int .i64 s.l, .int .i64 s.n] 40)
  have gB := heap_alloc_new (w.alloc (.cells #[.string b.k, .slice a n c] 24)) (.cells #[.int .i64 s.w, .int .i64 s.l, .int .i64 s.n] 40)
  rw [World.size_alloc] at gB
  obtain ⟨k, ps⟩ := b
  simp only at *
  rw [hl] at s2
  have HN := Lib.hid hl.symm
  have HFN := Lib.hid hfl.symm
  have HP := Lib.hid h
  have HF := Lib.hid hf
  have HFB := Lib.hid hfb
  have HS3 := Lib.hid s3
  have HDL := Lib.hid hdl
  have HML := Lib.hid hml
  have HMS := Lib.hid hms
  have HR0 : Hid (MkRel w _ (.slice none 0 0) 0 [] s) := ⟨rfl, World.ownsRow_nil _ _ _ _, gB, bA⟩
  clear hfit hl hfl h hf hfb s3 hs hdl hml hms bA gB
  go_enter Try.func32, Try.ntmps32
  go_wp2
  go_loopw [9, 19] (fun v i wr => ∃ (j m : Nat) (va : Option Addr) (vc : Nat), i = .int .i64 j ∧ j ≤ n ∧ v = .slice va m vc ∧ Hid (MkRel w wr (.slice va m vc) m (mkUpto ps fs s ix j) s)) (fun _ i _ => n - (intOf i).toNat)
  case atStart => exact ⟨0, 0, none, 0, rfl, Nat.zero_le _, rfl, HR0.out⟩
  case round =>
    obtain ⟨j, m, va, vc, rfl, hj, rfl, HR⟩ := hrel
    obtain ⟨wo, hwo⟩ : ∃ wo : World, wo = wr := ⟨_, rfl⟩
    subst hwo
    by_cases hlt : j < n
    · have hlt2 : j < ps.length := by have := HN.out; omega
      obtain ⟨x, d, cd, rfl, hat0⟩ := HP.out j hlt2
      have hat := hat0.later HR.out.below
      have q0 := hat.c0
      have q1 := hat.c1
      have q2 := hat.c2
      rw [fld x (j * 3) 1 (by decide)] at q1
      rw [fld x (j * 3) 2 (by decide)] at q2
      have HDS := Lib.hid hat0.ds
      obtain ⟨hps, hdl, hdz⟩ := HS3.out _ (List.getElem_mem hlt2)
      have HNX := Lib.hid (HMS.out j hlt2)
      have hl1 := HML.out (j + 1) (by omega)
      have hl2 := HDL.out (j + 1)
      rw [← hl1, HNX.out, List.length_append, putEvs_len] at hl2
      have hmm := HR.out.len
      obtain ⟨p, hp⟩ : ∃ p, p = ps[j]'hlt2 := ⟨_, rfl⟩
      rw [← hp] at q0 q1 q2 HDS hps hdl hdz HNX hl2
      obtain ⟨ps0, pe, dl⟩ := p
      simp only at q0 q1 q2 HDS hps hdl hdz HNX hl2
      obtain ⟨md, hmd⟩ : ∃ md, md = dl.length := ⟨_, rfl⟩
      rw [← hmd] at q2 hdl HNX hl2
      rw [← hmm] at hl2
      have HMD := Lib.hid hmd
      have HDZ := Lib.hid hdz
      have hji0 : (0 : Int) ≤ (j : Int) := by omega
      have hji1 : (j : Int) < (n : Int) := by omega
      have bP := (Below.refl wo.heap.size wo).alloc (Nat.le_refl _) (.cells #[.string ps0, .int .i64 pe, .slice d md cd] 71)
      have cC := clone_t ps0 (wo.alloc (.cells #[.string ps0, .int .i64 pe, .slice d md cd] 71)) hps
      have gP := heap_alloc_new wo (.cells #[.string ps0, .int .i64 pe, .slice d md cd] 71)
      have HBP := Lib.hid bP
      have HGP := Lib.hid gP
      clear hp hmd hat hat0 hl1 hmm hdz bP gP
      go_wp2_with (go_at_call 67; (with_reducible refine cC.mono ?_))
      rintro e1 W ⟨rfl, b1⟩
      have HB1 := Lib.hid (HBP.out.trans (b1.mono (by simp)))
      obtain ⟨_, _, y2, _⟩ := box_cells (box_below HGP.out b1 (by simp))
      have HR1 : Hid (MkRel w W (.slice va m vc) m (mkUpto ps fs s ix j ++ putEvs ⟨ps0, pe, dl⟩ fs[j]? s (ix + m) 0) s) := by
        refine ⟨by simp [putEvs]; exact HR.out.len, ?_, box_below HR.out.st HB1.out (lt_of_block HR.out.st), HR.out.below.trans (HB1.out.mono HR.out.below.size)⟩
        have : mkUpto ps fs s ix j ++ putEvs ⟨ps0, pe, dl⟩ fs[j]? s (ix + m) 0 = mkUpto ps fs s ix j := by simp [putEvs]
        rw [this]
        exact ownsLater HR.out.own HB1.out
      obtain ⟨fv, hfv⟩ : ∃ fv, fv = fs[j]? := ⟨_, rfl⟩
      obtain ⟨L0, hL0⟩ : ∃ L0, L0 = mkUpto ps fs s ix j := ⟨_, rfl⟩
      have HFV := Lib.hid hfv
      have HL0 := Lib.hid hL0
      rw [← hfv, ← hL0] at HR1
      clear b1 cC q0 q1 q2 hfv hL0
      go_wp2
      go_loopw [9, 30] (fun v i wr => ∃ (t m' : Nat) (va : Option Addr) (vc : Nat), i = .int .i64 t ∧ t ≤ md ∧ v = .slice va m' vc ∧ m' = m + t ∧ Hid (MkRel w wr (.slice va m' vc) m' (L0 ++ putEvs ⟨ps0, pe, dl⟩ fv s (ix + m) t) s)) (fun _ i _ => md - (intOf i).toNat)
      case atStart => exact ⟨0, m, va, vc, rfl, Nat.zero_le _, rfl, rfl, HR1.out⟩
      case round =>
        obtain ⟨t, m', va', vc', rfl, ht, rfl, hm', HI⟩ := hrel
        clear y2
        by_cases htm : t < md
        · have htm2 : t < dl.length := by have := HMD.out; omega
          obtain ⟨y, rfl, hy0⟩ := HDS.out t htm2
          have hy := cell_later HI.out.below hy0
          obtain ⟨w0, w1, w2, _⟩ := box_cells HI.out.st
          have hzs := HDZ.out _ (List.getElem_mem htm2)
          have HPS := Lib.hid (putEvs_succ ⟨ps0, pe, dl⟩ fv s (ix + m) t htm2)
          obtain ⟨z, hz⟩ : ∃ z, z = dl[t]'htm2 := ⟨_, rfl⟩
          simp only at HPS
          rw [← hz] at hy hzs HPS
          have cZ := fun V => clone_t z V hzs
          have hti0 : (0 : Int) ≤ (t : Int) := by omega
          have hti1 : (t : Int) < (md : Int) := by omega
          have hmb : m' ≤ 1000000 := by omega
          have HM' := Lib.hid hm'
          have hix : IntKind.i64.wrap (ix + (m' : Int)) = ix + (m' : Int) := IntWalk.i64_in _ (by omega)
          clear hz hy0 hm'
          go_upto_region 9 with fail
          go_cut [15] (fun s15 wx => MkCut wr (.cells #[.string ps0, .int .i64 0, .string z, .int .i64 s.w, .int .i64 s.l, .int .i64 s.n, .int .i64 (ix + (m' : Int))] 42) s15 wx)
          case first =>
            have a0 := alloc_cell w0 (.cells #[.string ⟨#[]⟩, .int .i64 0, .string ⟨#[]⟩, .int .i64 0, .int .i64 0, .int .i64 0, .int .i64 0] 42)
            have a1 := alloc_cell w1 (.cells #[.string ⟨#[]⟩, .int .i64 0, .string ⟨#[]⟩, .int .i64 0, .int .i64 0, .int .i64 0, .int .i64 0] 42)
            have a2 := alloc_cell w2 (.cells #[.string ⟨#[]⟩, .int .i64 0, .string ⟨#[]⟩, .int .i64 0, .int .i64 0, .int .i64 0, .int .i64 0] 42)
            go_region_law ((rw [if_pos (by rfl)]; go_simp; go_at_call 67; (refine (cZ _).mono ?_); rintro e V1 ⟨rfl, b3⟩; have k0 : V1.cell? ⟨w.heap.size + 1, 0, none⟩ = some (.int .i64 s.w) := cell_later b3 (by first | exact w0 | exact alloc_cell w0 _); have k1 : V1.cell? ⟨w.heap.size + 1, 1, none⟩ = some (.int .i64 s.l) := cell_later b3 (by first | exact w1 | exact alloc_cell w1 _); have k2 : V1.cell? ⟨w.heap.size + 1, 2, none⟩ = some (.int .i64 s.n) := cell_later b3 (by first | exact w2 | exact alloc_cell w2 _); have k3 := alloc_cell k0 (.cells #[.string ⟨#[]⟩, .int .i64 0, .string ⟨#[]⟩, .int .i64 0, .int .i64 0, .int .i64 0, .int .i64 0] 42); have k4 := alloc_cell k1 (.cells #[.string ⟨#[]⟩, .int .i64 0, .string ⟨#[]⟩, .int .i64 0, .int .i64 0, .int .i64 0, .int .i64 0] 42); have k5 := alloc_cell k2 (.cells #[.string ⟨#[]⟩, .int .i64 0, .string ⟨#[]⟩, .int .i64 0, .int .i64 0, .int .i64 0, .int .i64 0] 42); try (have hN := nb b3 (heap_alloc_new wr (.cells #[.string ⟨#[]⟩, .int .i64 0, .string ⟨#[]⟩, .int .i64 0, .int .i64 0, .int .i64 0, .int .i64 0] 42)); obtain ⟨n0, n1, n2, n3, n4, n5, n6, f0, f1, f2, f3, f4, f5, f6⟩ := box7_cells hN); go_simp))
            all_goals (go_wp2_with fail; go_meet; first | ((with_reducible refine cutA ?_); first | exact (Below.refl wr.heap.size wr).drew.trans b3 | exact b3) | ((with_reducible refine cutB hN ?_); first | exact ((Below.refl wr.heap.size wr).alloc (Nat.le_refl _) (.cells #[.string ⟨#[]⟩, .int .i64 0, .string ⟨#[]⟩, .int .i64 0, .int .i64 0, .int .i64 0, .int .i64 0] 42)).drew.trans (b3.mono (by simp)) | exact ((Below.refl wr.heap.size wr).alloc (Nat.le_refl _) (.cells #[.string ⟨#[]⟩, .int .i64 0, .string ⟨#[]⟩, .int .i64 0, .int .i64 0, .int .i64 0, .int .i64 0] 42)).trans (b3.mono (by simp))))
          case rest =>
            obtain ⟨g, rfl, hg, hob, hbx⟩ := hcut
            have HOB := Lib.hid hob
            have HBX := Lib.hid hbx
            have HGG := Lib.hid hg
            have hzx := lt_of_block hob
            obtain ⟨e0, e1, e2, e3, e4, e5, e6, f0, f1, f2, f3, f4, f5, f6⟩ := box7_cells hob
            have HO := Lib.hid (ownsLater HI.out.own hbx)
            have HSX := Lib.hid (box_below HI.out.st hbx (lt_of_block HI.out.st))
            have HBW := Lib.hid (HI.out.below.trans (hbx.mono HI.out.below.size))
            clear hob hbx hg w0 w1 w2 hy cZ
            by_cases hjf : j < fn
            · have hjf2 : j < fs.length := by have := HFN.out; omega
              obtain ⟨xf, rfl, hxf0⟩ := HF.out j hjf2
              have hxf := cell_later HBW.out hxf0
              obtain ⟨fb0, fb1⟩ := HFB.out _ (List.getElem_mem hjf2)
              have hfe : fv = some (fs[j]'hjf2) := by rw [HFV.out, List.getElem?_eq_getElem hjf2]
              obtain ⟨f, hf⟩ : ∃ f, f = fs[j]'hjf2 := ⟨_, rfl⟩
              rw [← hf] at hxf fb0 fb1 hfe
              have HFE := Lib.hid hfe
              clear hf hxf0 hfe
              have hji3 : (j : Int) < (fn : Int) := by omega
              have hne : ∀ i, (Value.slice va' m' vc').ownBlock = some i → i ≠ g := fun i hi e => by have := (own_lt HI.out.own i hi).2; have := HGG.out; omega
              have hft : IntKind.i64.wrap (f + (t : Int)) = f + (t : Int) := IntWalk.i64_in _ (by omega)
              have hO2 := Kept.own HO.out ((Kept.refl (fun k => k = g) wc).setCell (p := ⟨g, 1, none⟩) (fun _ => rfl) (.int .i64 (f + (t : Int)))) hne
              have HB2 := Lib.hid (HBW.out.setCell (p := ⟨g, 1, none⟩) (by show _ ≤ g; have := HI.out.below.size; have := HGG.out; omega) (.int .i64 (f + (t : Int))))
              have hzz := HB2.out.size
              have hzw := HBW.out.size
              go_wp2_with (at_builtin; refine wpList_append_own_at _ rfl _ _ 50 rfl w.heap.size 42 i0 (.agg #[.string ⟨#[]⟩, .int .i64 0, .string ⟨#[]⟩, .int .i64 0, .int .i64 0, .int .i64 0, .int .i64 0]) 7 72 Try.underlying50 hi hz0 hz1 hz2 rfl (by decide) _ _ _ rfl (hO2.alloc _) ⟨wc.heap.size, 0, none⟩ 1 1 (evCells ⟨ps0, f + t, z, s, ix + m'⟩) rfl rfl ?c1 ?c2 ?c3 ?c4 ?c5 ?_)
              case c1 => intro i u hj; exact new_cells8 _ _ _ _ (by simp [World.setCell]) i u hj
              case c2 => exact evCells_one _
              case c3 => unfold maxLen; omega
              case c4 => omega
              case c5 => first | omega | (simp; omega) | (simp [World.setCell]; omega)
              intro v' W3 o3 g3 _ _
              obtain ⟨a3, c3, rfl⟩ := own_slice o3
              have HB3 := Lib.hid (below_app HB2.out (Nat.le_refl _) hO2 g3)
              have hst3 : W3.heap[w.heap.size + 1]? = some (.cells #[.int .i64 s.w, .int .i64 s.l, .int .i64 s.n] 40 (0, 0)) := stay_app (box_other' HSX.out ⟨g, 1, none⟩ (by show _ ≠ g; have := lt_of_block HI.out.st; have := HGG.out; omega) _) hO2 (by decide) g3
              have HR3 : Hid (MkRel w W3 (.slice a3 (m' + 1) c3) (m' + 1) (L0 ++ putEvs ⟨ps0, pe, dl⟩ fv s (ix + m) (t + 1)) s) := by
                refine ⟨?_, ?_, hst3, HB3.out⟩
                · have := HI.out.len
                  rw [List.length_append, putEvs_len] at this ⊢
                  omega
                · rw [HPS.out, ← List.append_assoc, rowOf_append, rowOf_one]
                  have e : (⟨ps0, verOf fv t, z, s, ix + m + t⟩ : Ev) = ⟨ps0, f + t, z, s, ix + m'⟩ := by
                    rw [HFE.out]
                    have := HM'.out
                    simp only [verOf, Ev.mk.injEq, true_and]
                    omega
                  rw [e]
                  exact o3
              clear o3 g3 hst3 hO2 hxf e0 e1 e2 e3 e4 e5 e6 f0 f1 f2 f3 f4 f5 f6 hne hft
              go_wp2
              go_roundw
              case rel => exact ⟨t + 1, m' + 1, a3, c3, by go_num, by omega, by go_num, by have := HM'.out; omega, HR3.out⟩
              case measure => simp [intOf]; omega
            · have hji3 : ¬ (j : Int) < (fn : Int) := by omega
              have HFE : Hid (fv = none) := by show _ = _; rw [HFV.out]; exact List.getElem?_eq_none (by have := HFN.out; omega)
              have hO2 := HO.out
              have hzz := HBW.out.size
              go_wp2_with (at_builtin; refine wpList_append_own_at _ rfl _ _ 50 rfl w.heap.size 42 i0 (.agg #[.string ⟨#[]⟩, .int .i64 0, .string ⟨#[]⟩, .int .i64 0, .int .i64 0, .int .i64 0, .int .i64 0]) 7 72 Try.underlying50 hi hz0 hz1 hz2 rfl (by decide) _ _ _ rfl (hO2.alloc _) ⟨wc.heap.size, 0, none⟩ 1 1 (evCells ⟨ps0, 0, z, s, ix + m'⟩) rfl rfl ?d1 ?d2 ?d3 ?d4 ?d5 ?_)
              case d1 => intro i u hj; first | exact hj | exact new_cells8 _ _ _ _ rfl i u hj
              case d2 => exact evCells_one _
              case d3 => unfold maxLen; omega
              case d4 => omega
              case d5 => first | omega | (simp; omega)
              intro v' W3 o3 g3 _ _
              obtain ⟨a3, c3, rfl⟩ := own_slice o3
              have HB3 := Lib.hid (below_app HBW.out (Nat.le_refl _) hO2 g3)
              have hst3 : W3.heap[w.heap.size + 1]? = some (.cells #[.int .i64 s.w, .int .i64 s.l, .int .i64 s.n] 40 (0, 0)) := stay_app HSX.out hO2 (by decide) g3
              have HR3 : Hid (MkRel w W3 (.slice a3 (m' + 1) c3) (m' + 1) (L0 ++ putEvs ⟨ps0, pe, dl⟩ fv s (ix + m) (t + 1)) s) := by
                refine ⟨?_, ?_, hst3, HB3.out⟩
                · have := HI.out.len
                  rw [List.length_append, putEvs_len] at this ⊢
                  omega
                · rw [HPS.out, ← List.append_assoc, rowOf_append, rowOf_one]
                  have e : (⟨ps0, verOf fv t, z, s, ix + m + t⟩ : Ev) = ⟨ps0, 0, z, s, ix + m'⟩ := by
                    rw [HFE.out]
                    have := HM'.out
                    simp only [verOf, Ev.mk.injEq, true_and]
                    omega
                  rw [e]
                  exact o3
              clear o3 g3 hst3 hO2 e0 e1 e2 e3 e4 e5 e6 f0 f1 f2 f3 f4 f5 f6
              go_wp2
              go_roundw
              case rel => exact ⟨t + 1, m' + 1, a3, c3, by go_num, by omega, by go_num, by have := HM'.out; omega, HR3.out⟩
              case measure => simp [intOf]; omega
        · have htd : t = md := by omega
          have HN2 : Hid (MkRel w wr (.slice va' m' vc') m' (mkUpto ps fs s ix (j + 1)) s) := by
            have e : mkUpto ps fs s ix (j + 1) = L0 ++ putEvs ⟨ps0, pe, dl⟩ fv s (ix + m) t := by
              rw [HNX.out, HL0.out, HFV.out, htd, ← HR.out.len]
            show MkRel _ _ _ _ _ _
            rw [e]
            exact HI.out
          clear hm' htd
          go_wp2
          go_roundw
          case rel => exact ⟨j + 1, m', va', vc', by go_num, by omega, by first | rfl | go_num, HN2.out⟩
          case measure => simp [intOf]; omega
    · have HE : Hid (mkUpto ps fs s ix j = makeL ps fs s ix) := by show _ = _; unfold makeL; rw [show j = ps.length from by have := HN.out; omega]
      go_wp2
      go_ret
      rw [← HE.out]
      exact ⟨va, m, vc, rfl, HR.out.len, HR.out.own, HR.out.below⟩

end Go.Proofs.Ytggognmbjgkdfaa
