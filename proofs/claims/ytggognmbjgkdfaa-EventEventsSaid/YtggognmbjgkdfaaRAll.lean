/-
  What the reference's All answers: a text's runes, each with its place, its end and whether it begins nothing.
-/
import Derived.Test.YtggognmbjgkdfaaPureQ
import Derived.Test.YtggognmbjgkdfaaByA
import Derived.Lib.OthersKept
import Derived.Laws.OwnMore
import Derived.WalkKit
import Derived.WalkSpells
import Derived.WalkSmall
import Derived.BigCall
import Derived.StillTailTactics
import Derived.KernelRfl
set_option linter.unusedVariables false
namespace Go.Proofs.Ytggognmbjgkdfaa
open Go.RowKit

structure RE where
  r : Nat
  at' : Nat
  en : Nat
  no : Bool

def RE.cells (e : RE) : List Value := [.int .i32 e.r, .int .i64 e.at', .int .i64 e.en, .bool e.no]
def cellsOf (es : List RE) : List Value := es.flatMap RE.cells

theorem cellsOf_len (es : List RE) : (cellsOf es).length = es.length * 4 := by
  induction es with
  | nil => rfl
  | cons e r ih => simp only [cellsOf, List.flatMap_cons, List.length_append] at ih ⊢; rw [ih]; simp [RE.cells]; omega

theorem cellsOf_cons (e : RE) (r : List RE) : cellsOf (e :: r) = e.cells ++ cellsOf r := rfl
theorem cellsOf_append (a b : List RE) : cellsOf (a ++ b) = cellsOf a ++ cellsOf b := by simp [cellsOf]

theorem cellsOf_get (es : List RE) (i j : Nat) (hi : i < es.length) (hj : j < 4) : (cellsOf es)[i * 4 + j]? = (es[i]'hi).cells[j]? := by
  induction es generalizing i with
  | nil => simp at hi
  | cons e r ih =>
    rw [cellsOf_cons]
    have hl : e.cells.length = 4 := rfl
    cases i with
    | zero => rw [List.getElem?_append_left (by rw [hl]; omega)]; simp
    | succ i =>
      rw [List.getElem?_append_right (by rw [hl]; omega), hl, show (i + 1) * 4 + j - 4 = i * 4 + j by omega]
      simpa using ih i (by simpa using hi)

theorem cellsOf_set (es : List RE) (i j : Nat) (hi : i < es.length) (hj : j < 4) (v : Value) (e' : RE) (he : (es[i]'hi).cells.set j v = e'.cells) : (cellsOf es).set (i * 4 + j) v = cellsOf (es.set i e') := by
  induction es generalizing i with
  | nil => simp at hi
  | cons e r ih =>
    rw [cellsOf_cons]
    have hl : e.cells.length = 4 := rfl
    cases i with
    | zero =>
      simp only [List.getElem_cons_zero] at he
      rw [List.set_append_left _ _ (by rw [hl]; omega), List.set_cons_zero, cellsOf_cons]
      simpa using he
    | succ i =>
      rw [List.set_append_right _ _ (by rw [hl]; omega), hl, show (i + 1) * 4 + j - 4 = i * 4 + j by omega, List.set_cons_succ, cellsOf_cons, ih i (by simpa using hi) (by simpa using he)]

/-- The runes of a text, from a place on. -/
def elems : Nat → List (List UInt8) → List RE
  | _, [] => []
  | p, c :: r => ⟨(dec c).1, p, p + c.length, bad c⟩ :: elems (p + c.length) r

theorem elems_len (p : Nat) (cs : List (List UInt8)) : (elems p cs).length = cs.length := by
  induction cs generalizing p with
  | nil => rfl
  | cons c r ih => simp [elems, ih]

theorem elems_append (p : Nat) (a b : List (List UInt8)) : elems p (a ++ b) = elems p a ++ elems (p + a.flatten.length) b := by
  induction a generalizing p with
  | nil => simp [elems]
  | cons c r ih => simp only [List.cons_append, elems, ih, List.flatten_cons, List.length_append]; rw [Nat.add_assoc]

theorem elems_facts (p : Nat) (cs : List (List UInt8)) (h : ∀ c ∈ cs, isPiece c) : ∀ e ∈ elems p cs, e.no = (decide (e.r = 65533) && decide (e.en - e.at' = 1)) ∧ e.at' + 1 ≤ e.en ∧ e.en ≤ p + cs.flatten.length ∧ e.r ≤ 1114111 := by
  induction cs generalizing p with
  | nil => intro e he; simp [elems] at he
  | cons c r ih =>
    intro e he
    simp only [elems, List.mem_cons] at he
    have hc := h c (by simp)
    have hlen : 1 ≤ c.length := by
      rcases Nat.eq_zero_or_pos c.length with h0 | h0
      · exact absurd (List.length_eq_zero_iff.1 h0) hc.1
      · exact h0
    rcases he with rfl | he
    · refine ⟨?_, by simp; omega, by simp, dec_rune c⟩
      show bad c = (decide ((dec c).1 = 65533) && decide (p + c.length - p = 1))
      rw [show p + c.length - p = c.length by omega]
      cases hb : bad c with
      | true =>
        have h65 := (piece_bad hc hb).1
        simp [bad] at hb
        simp [h65, hb.1]
      | false =>
        symm
        rw [Bool.and_eq_false_iff]
        by_cases h1 : c.length = 1
        · left
          apply decide_eq_false
          intro h65
          have := piece_rune_ge hc (by omega) hb
          omega
        · right; exact decide_eq_false h1
    · have := ih (p + c.length) (fun d hd => h d (by simp [hd])) e he
      refine ⟨this.1, this.2.1, ?_, this.2.2.2⟩
      rw [List.flatten_cons, List.length_append]
      omega

/-- A rune of which it isn't told yet whether it begins nothing. -/
def RE.un (e : RE) : RE := { e with no := false }
/-- What All has made of the first runes, ahead of the next one: of the last one it takes the text's end for its own. -/
def Mid (size : Nat) (pre : List (List UInt8)) (row : List RE) : Prop :=
  (pre = [] ∧ row = []) ∨ ∃ pre' c', pre = pre' ++ [c'] ∧ row = (elems 0 pre').map RE.un ++ [⟨(dec c').1, pre'.flatten.length, size, false⟩]

theorem mid_fix (A : List RE) (r a en pos : Nat) : (cellsOf (A ++ [⟨r, a, en, false⟩])).set (A.length * 4 + 2) (.int .i64 pos) = cellsOf (A ++ [⟨r, a, pos, false⟩]) := by
  have h := cellsOf_set (A ++ [⟨r, a, en, false⟩]) A.length 2 (by simp) (by omega) (.int .i64 pos) ⟨r, a, pos, false⟩ (by simp [RE.cells])
  rw [h]
  simp

theorem mid_cell (A : List RE) (r a en : Nat) : (cellsOf (A ++ [⟨r, a, en, false⟩]))[A.length * 4 + 2]? = some (.int .i64 en) := by
  rw [cellsOf_get _ A.length 2 (by simp) (by omega)]
  simp [RE.cells]

theorem iterAt_own {w : World} {k : Nat} {s : ByteArray} {pos pos' B : Nat} {t : TypeId} {v : Value} {n : Nat} {xs : List Value} (hit : w.heap[k]? = some (.stringIter s pos)) (h : w.ownsRow B t 4 v n xs) : (w.iterAt k s pos').ownsRow B t 4 v n xs := by
  refine ⟨h.1, ?_⟩
  rcases h.2 with hn | ⟨g, cap, cur, rfl, hb, hg, rest⟩
  · exact .inl hn
  · refine .inr ⟨g, cap, cur, rfl, hb, ?_, rest⟩
    rw [Lib.iterAt_other _ _ _ _ _ (by rintro rfl; rw [hit] at hg; cases hg)]
    exact hg

theorem new_cells (W : World) (C : Array Value) (t : TypeId) (k : Nat) (hk : k = W.heap.size) (j : Nat) (u : Value) (h : C.toList[j]? = some u) : (W.alloc (.cells C t)).cell? ((⟨k, 0, none⟩ : Addr).add j) = some u := by
  have hadd : (⟨k, 0, none⟩ : Addr).add j = ⟨k, j, none⟩ := by unfold Addr.add; split <;> simp_all
  have hg : (W.alloc (.cells C t)).heap[k]? = some (.cells C t (0, 0)) := by
    show (W.heap.push _)[k]? = _
    rw [hk]; simp
  rw [hadd, cell_of_row _ k j C t _ hg]
  simpa using h

theorem size_setCell (W : World) (a : Addr) (u : Value) : (W.setCell a u).heap.size = W.heap.size := by simp [World.setCell]

/-- The second loop: of the first j it is told. -/
def half (es : List RE) (j : Nat) : List RE := es.take j ++ (es.drop j).map RE.un

theorem half_len (es : List RE) (j : Nat) : (half es j).length = es.length := by simp [half]; omega
theorem half_zero (es : List RE) : half es 0 = es.map RE.un := by simp [half]
theorem half_all (es : List RE) (j : Nat) (h : es.length ≤ j) : half es j = es := by
  simp [half, List.take_of_length_le h, List.drop_eq_nil_of_le h]
theorem half_get (es : List RE) (j : Nat) (h : j < es.length) : (half es j)[j]'(by rw [half_len]; exact h) = (es[j]'h).un := by
  simp only [half]
  rw [List.getElem_append_right (by simp; omega)]
  simp [Nat.min_eq_left (Nat.le_of_lt h)]
theorem half_step (es : List RE) (j : Nat) (h : j < es.length) : (cellsOf (half es j)).set (j * 4 + 3) (.bool (es[j]'h).no) = cellsOf (half es (j + 1)) := by
  have h1 := cellsOf_set (half es j) j 3 (by rw [half_len]; exact h) (by omega) (.bool (es[j]'h).no) (es[j]'h) (by rw [half_get es j h]; rfl)
  rw [h1]
  congr 1
  simp only [half]
  rw [List.set_append_right _ _ (by simp; omega), List.length_take, Nat.min_eq_left (Nat.le_of_lt h), Nat.sub_self, List.drop_eq_getElem_cons h, List.map_cons, List.set_cons_zero, List.take_succ_eq_append_getElem h, List.append_assoc]
  rfl
theorem half_cell (es : List RE) (j k : Nat) (h : j < es.length) (hk : k < 4) : (cellsOf (half es j))[j * 4 + k]? = (es[j]'h).un.cells[k]? := by
  rw [cellsOf_get _ j k (by rw [half_len]; exact h) hk, half_get es j h]

theorem size_len' (s : ByteArray) : s.size = s.data.toList.length := by simp

theorem infoRune : (Try.prog.info? 120).map (fun i => (i.zero, i.size, i.bytes)) = some (some (.agg #[.int .i32 0, .int .i64 0, .int .i64 0, .bool false]), 4, 32) := by kernel_rfl

set_option maxHeartbeats 4000000 in
set_option maxRecDepth 1000000 in
theorem All_any (s : ByteArray) (w : World) (hs : s.size ≤ 1000000) :
    Calls Try.prog 76 #[.string s] w fun e w' => ∃ a n cap, e = .returned (.slice a n cap) ∧ n = (pieces s.data.toList).length ∧ w'.ownsRow w.heap.size 120 4 (.slice a n cap) n (cellsOf (elems 0 (pieces s.data.toList))) ∧ Below w.heap.size w w' := by
  obtain ⟨i0, hi, hz0, hz1, hz2⟩ := info_parts infoRune
  go_enter Try.func76, Try.ntmps76
  go_wp2
  go_loopw [3] (fun v wr => ∃ (pos : Nat) (pre : List (List UInt8)) (a : Option Addr) (n cap : Nat) (row : List RE), v = .slice a n cap ∧ n = pre.length ∧ wr.heap[w.heap.size]? = some (.stringIter s pos) ∧ wr.ownsRow (w.heap.size + 1) 120 4 (.slice a n cap) n (cellsOf row) ∧ Below w.heap.size w wr ∧ upTo s.data.toList pre pos ∧ Mid s.size pre row) (fun _ wr => s.size - wr.iterPos w.heap.size)
  case atStart => exact ⟨0, [], none, 0, 0, [], rfl, rfl, World.iter_heap w s 0, ⟨rfl, .inl ⟨rfl, rfl⟩⟩, (Below.refl _ w).alloc (Nat.le_refl _) _, upTo_start _, .inl ⟨rfl, rfl⟩⟩
  case round =>
    obtain ⟨pos, pre, a, n, cap, row, rfl, hn, hit, hown, hbw, hu, hmid⟩ := hrel
    have hcnt := upTo_count hu
    rw [← size_len'] at hcnt
    have hKz : w.heap.size < wr.heap.size := (Array.getElem?_eq_some_iff.1 hit).1
    by_cases hp : pos < s.size
    · have hpl : pos < s.data.toList.length := by rw [← size_len']; exact hp
      have hnx : ∀ ty, (Instr.next (.pointer (some ⟨w.heap.size, 0, none⟩)) true ty).run Try.prog wr = _ := fun ty => Lib.run_next_any_at wr w.heap.size s pos ty hit hp
      have hstep := upTo_step hu hpl
      obtain ⟨hpc, hpl2, hpd⟩ := pieceAt_is s.data.toList pos hpl
      have hwd := (dec_width (s.data.toList.drop pos) (by intro h0; have := congrArg List.length h0; simp at this; omega)).1
      have hr4 := dec_rune (s.data.toList.drop pos)
      rw [← dec_at] at hstep hwd hpd hr4 hpl2
      obtain ⟨r, wd, hdec⟩ : ∃ r wd, Utf8.decode s pos = (r, wd) := ⟨_, _, rfl⟩
      rw [hdec] at hnx hstep hwd hpd hr4 hpl2
      simp only at hnx hstep hwd hr4 hpl2
      clear hdec
      have hit2 := Lib.iterAt_heap wr w.heap.size s pos (pos + wd) hit
      have hbw2 := Lib.below_iterAt hbw (k := w.heap.size) (Nat.le_refl _) s (pos + wd)
      have hown2 : (wr.iterAt w.heap.size s (pos + wd)).ownsRow (w.heap.size + 1) 120 4 (.slice a n cap) n (cellsOf row) := by
        exact iterAt_own hit hown
      rcases hmid with ⟨rfl, rfl⟩ | ⟨pre', c', rfl, rfl⟩
      · have hn0 : n = 0 := by simpa using hn
        subst hn0
        clear hn
        obtain ⟨v0, hv0⟩ : ∃ v0, v0 = Value.slice a 0 cap := ⟨_, rfl⟩
        have hlt := hown2.lt
        go_wp2_with (at_builtin; refine wpList_append_own _ rfl _ _ 117 rfl (w.heap.size + 1) 120 i0 (.agg #[.int .i32 0, .int .i64 0, .int .i64 0, .bool false]) 4 32 Try.underlying117 hi hz0 hz1 hz2 rfl (by decide) _ _ _ rfl (hown2.alloc _) ⟨(wr.iterAt w.heap.size s (pos + wd)).heap.size, 0, none⟩ 1 1 (RE.cells ⟨r, pos, s.size, false⟩) rfl rfl ?c1 ?c2 ?c3 ?c4 ?c5 ?_)
        case c1 => intro j u hj; exact new_cells _ _ _ _ rfl j u hj
        case c2 => intro u hu; simp [RE.cells] at hu; rcases hu with rfl | rfl | rfl | rfl <;> rfl
        case c3 => unfold maxLen; omega
        case c4 => omega
        case c5 => simp [Lib.iterAt_size]; omega
        intro v' w2 hown3 hgrow _
        obtain ⟨g', cap', rfl⟩ : ∃ g' cap', v' = .slice (some ⟨g', 0, none⟩) (0 + 1) cap' := by
          rcases hown3.2 with ⟨_, h0⟩ | ⟨g', cap', cur, hv, _⟩
          · omega
          · exact ⟨g', cap', hv⟩
        have hit3 : w2.heap[w.heap.size]? = some (.stringIter s (pos + wd)) := by
          rw [hgrow.block _ (by rw [World.size_alloc, Lib.iterAt_size]; omega) (by intro e; have := (hlt _ e.symm).1; omega), Lib.alloc_old _ _ _ (by rw [Lib.iterAt_size]; omega)]
          exact hit2
        have hbw3 : Below w.heap.size w w2 := by
          refine (hbw2.alloc (by rw [Lib.iterAt_size]; omega) _).grown hgrow (by rw [World.size_alloc, Lib.iterAt_size]; omega) ?_
          intro k hk
          have := (hlt _ hk).1
          omega
        clear hgrow hown hown2 hlt
        go_wp2
        go_roundw
        case rel =>
          refine ⟨pos + wd, [] ++ [pieceAt s.data.toList pos], _, _, _, [⟨r, pos, s.size, false⟩], rfl, by simp, hit3, hown3, hbw3, hstep, .inr ⟨_, _, rfl, ?_⟩⟩
          rw [hpd]
          have := upTo_len hu
          simp only [List.flatten_nil, List.length_nil] at this
          simp [elems, ← this]
        case measure =>
          simp only [World.iterPos, hit3, hit]
          omega
      · have hn1 : n = pre'.length + 1 := by rw [hn]; simp
        obtain ⟨g, rfl, hgK⟩ : ∃ g, a = some ⟨g, 0, none⟩ ∧ w.heap.size + 1 ≤ g := by
          rcases hown.2 with ⟨_, h0⟩ | ⟨g, cap', cur, hv, hb, _⟩
          · omega
          · simp at hv; exact ⟨g, hv.1, hb⟩
        have hel : ((elems 0 pre').map RE.un).length = pre'.length := by simp [elems_len]
        have hcell := hown2.cellAt (pre'.length * 4 + 2) (by omega)
        have hmc := mid_cell ((elems 0 pre').map RE.un) (dec c').1 pre'.flatten.length s.size
        rw [hel] at hmc
        rw [hmc] at hcell
        have hfree := hown2.frozenAt (pre'.length * 4 + 2)
        have hst := (hown2.stored (pre'.length * 4 + 2) (.int .i64 pos)).1
        have hmf := mid_fix ((elems 0 pre').map RE.un) (dec c').1 pre'.flatten.length s.size pos
        rw [hel] at hmf
        rw [hmf] at hst
        have hb0 : pre'.length + 1 ≤ 1000000 := by simp at hcnt; omega
        have hfl : pre'.flatten.length + c'.length = pos := by have := upTo_len hu; simpa using this
        clear hn hmc hmf hel hcnt
        subst hn1
        obtain ⟨row2, hrow2⟩ : ∃ r2, r2 = (elems 0 pre').map RE.un ++ [⟨(dec c').1, pre'.flatten.length, pos, false⟩] := ⟨_, rfl⟩
        rw [← hrow2] at hst
        have HR2 : Hid (row2 = (elems 0 (pre' ++ [c'])).map RE.un) := by
          show row2 = _
          rw [hrow2, elems_append]; simp only [elems, List.map_append, List.map_cons, List.map_nil, RE.un, Nat.zero_add, hfl]
        clear hrow2
        go_wp2_with (at_builtin; go_loud (refine wpList_append_own _ rfl _ _ 117 rfl (w.heap.size + 1) 120 i0 (.agg #[.int .i32 0, .int .i64 0, .int .i64 0, .bool false]) 4 32 Try.underlying117 hi hz0 hz1 hz2 rfl (by decide) _ _ _ rfl (hst.alloc _) ⟨(wr.iterAt w.heap.size s (pos + wd)).heap.size, 0, none⟩ 1 1 (RE.cells ⟨r, pos, s.size, false⟩) rfl rfl ?c1 ?c2 ?c3 ?c4 ?c5 ?_))
        case c1 => intro j u hj; exact new_cells _ _ _ _ (by rw [size_setCell]) j u hj
        case c2 => intro u hu; simp [RE.cells] at hu; rcases hu with rfl | rfl | rfl | rfl <;> rfl
        case c3 => unfold maxLen; omega
        case c4 => omega
        case c5 => simp [Lib.iterAt_size]; omega
        intro v' w2 hown3 hgrow _
        obtain ⟨g', cap', rfl⟩ : ∃ g' cap', v' = .slice (some ⟨g', 0, none⟩) (pre'.length + 1 + 1) cap' := by
          rcases hown3.2 with ⟨_, h0⟩ | ⟨g', cap', cur, hv, _⟩
          · omega
          · exact ⟨g', cap', hv⟩
        have hit3 : w2.heap[w.heap.size]? = some (.stringIter s (pos + wd)) := by
          rw [hgrow.block _ (by rw [World.size_alloc, size_setCell, Lib.iterAt_size]; omega) (by simp [Value.ownBlock]; omega), Lib.alloc_old _ _ _ (by rw [size_setCell, Lib.iterAt_size]; omega), Below.heap_setCell _ _ _ _ (by show _ ≠ g; omega)]
          exact hit2
        have hbw3 : Below w.heap.size w w2 := by
          refine ((hbw2.setCell (p := ⟨g, pre'.length * 4 + 2, none⟩) (by show _ ≤ g; omega) _).alloc (by rw [size_setCell, Lib.iterAt_size]; omega) _).grown hgrow (by rw [World.size_alloc, size_setCell, Lib.iterAt_size]; omega) ?_
          intro k hk
          simp [Value.ownBlock] at hk
          omega
        clear hgrow hcell hfree hst hown hown2
        go_wp2
        go_roundw
        case rel =>
          refine ⟨pos + wd, (pre' ++ [c']) ++ [pieceAt s.data.toList pos], _, _, _, row2 ++ [⟨r, pos, s.size, false⟩], rfl, by simp, hit3, ?_, hbw3, hstep, .inr ⟨_, _, rfl, ?_⟩⟩
          · rw [cellsOf_append]; exact hown3
          · rw [HR2.out, hpd]
            congr 2
            have := upTo_len hu
            simp only [RE.mk.injEq, true_and, and_true]
            exact this.symm
        case measure =>
          simp only [World.iterPos, hit3, hit]
          omega
    · have hpl : ¬ pos < s.data.toList.length := by rw [← size_len']; exact hp
      have hnx : ∀ ty, (Instr.next (.pointer (some ⟨w.heap.size, 0, none⟩)) true ty).run Try.prog wr = _ := fun ty => Lib.run_next_end_at wr w.heap.size s pos ty hit hp
      have hpe := upTo_end hu hpl
      have hrow : row = (elems 0 (pieces s.data.toList)).map RE.un := by
        rw [hpe]
        rcases hmid with ⟨rfl, rfl⟩ | ⟨pre', c', rfl, rfl⟩
        · rfl
        · rw [elems_append]
          have h1 := upTo_len hu
          have h2 := hu.2.2
          have h3 : pre'.flatten.length + c'.length = s.size := by rw [size_len']; simp at h1 h2 hpl; simp; omega
          simp only [elems, List.map_append, List.map_cons, List.map_nil, RE.un, Nat.zero_add, h3]
      rw [← hpe] at hn
      obtain ⟨es, hes⟩ : ∃ es, es = elems 0 (pieces s.data.toList) := ⟨_, rfl⟩
      rw [← hes] at hrow
      have hesl : es.length = n := by rw [hes, elems_len, hn]
      have hnn : n ≤ s.size := by rw [hn, size_len']; exact pieces_length_le _
      have HES : Hid (es = elems 0 (pieces s.data.toList) ∧ n = (pieces s.data.toList).length ∧ es.length = n) := ⟨hes, hn, hesl⟩
      subst hrow
      clear hes hn hesl hpe hmid hu hit hi hz0 hz1 hz2 hcnt
      obtain ⟨W1, hW1⟩ : ∃ W1, W1 = wr := ⟨_, rfl⟩
      subst hW1
      go_wp2
      rw [← half_zero] at hown
      have hfac := elems_facts 0 (pieces s.data.toList) (pieces_mem s.data.toList)
      rw [← HES.out.1, pieces_flatten, Nat.zero_add, ← size_len'] at hfac
      have HF : Hid (∀ e ∈ es, e.no = (decide (e.r = 65533) && decide (e.en - e.at' = 1)) ∧ e.at' + 1 ≤ e.en ∧ e.en ≤ s.size ∧ e.r ≤ 1114111) := hfac
      clear hfac
      go_loopw [6] (fun i wr => ∃ j : Nat, i = .int .i64 j ∧ j ≤ n ∧ wr.ownsRow (w.heap.size + 1) 120 4 (.slice a n cap) n (cellsOf (half es j)) ∧ Below w.heap.size w wr) (fun i _ => n - (intOf i).toNat)
      case atStart => exact ⟨0, rfl, Nat.zero_le _, hown, hbw⟩
      case round =>
        clear hown hbw
        obtain ⟨j, rfl, hj, ho, hb⟩ := hrel
        by_cases hlt : j < n
        · have hje : j < es.length := by rw [HES.out.2.2]; exact hlt
          obtain ⟨g, rfl, hgK⟩ : ∃ g, a = some ⟨g, 0, none⟩ ∧ w.heap.size + 1 ≤ g := by
            rcases ho.2 with ⟨_, h0⟩ | ⟨g, cap', cur, hv, hb, _⟩
            · omega
            · simp at hv; exact ⟨g, hv.1, hb⟩
          obtain ⟨f1, f2, f3, f4⟩ := HF.out (es[j]'hje) (List.getElem_mem hje)
          have hc0 := ho.cellAt (j * 4 + 0) (by omega)
          have hc1 := ho.cellAt (j * 4 + 1) (by omega)
          have hc2 := ho.cellAt (j * 4 + 2) (by omega)
          have hc3 := ho.cellAt (j * 4 + 3) (by omega)
          rw [half_cell es j _ hje (by omega)] at hc0 hc1 hc2 hc3
          have hst := (ho.stored (j * 4 + 3) (.bool (es[j]'hje).no)).1
          rw [half_step es j hje] at hst
          have hfree := ho.frozenAt (j * 4 + 3)
          obtain ⟨e, he⟩ : ∃ e, e = es[j]'hje := ⟨_, rfl⟩
          rw [← he] at f1 f2 f3 f4 hc0 hc1 hc2 hc3 hst
          clear he
          obtain ⟨r, at', en, no⟩ := e
          simp only [RE.un, RE.cells, List.getElem?_cons_zero, List.getElem?_cons_succ, Nat.add_zero] at f1 f2 f3 f4 hc0 hc1 hc2 hc3 hst
          have hI : (j : Int) < (n : Int) := by omega
          have hsub : IntKind.i64.wrap ((en : Int) - (at' : Int)) = (en : Int) - (at' : Int) := IntWalk.i64_in _ (by omega)
          by_cases hr : r = 65533
          · subst hr
            have hno : (((en : Int) - (at' : Int)) == 1) = no := by
              rw [f1]
              simp only [decide_true, Bool.true_and]
              rw [Bool.eq_iff_iff]
              simp
              omega
            clear f1 ho
            go_wp2_with fail
            go_still_tail 24, (by kernel_rfl)
            change wpList _ _ _ _ _ wr.drew
            go_wp2
            go_roundw
            case rel => exact ⟨j + 1, by go_num, by omega, hst, (hb.setCell (p := ⟨g, j * 4 + 3, none⟩) (by show _ ≤ g; omega) _).drew⟩
            case measure => simp [intOf]; omega
          · have hrb : ((r : Int) == 65533) = false := beq_false_of_ne (by omega)
            have hno : no = false := by rw [f1]; simp [hr]
            subst hno
            clear f1 ho hr
            go_wp2_with fail
            go_region
            go_wp2
            go_roundw
            case rel => exact ⟨j + 1, by go_num, by omega, hst, (hb.setCell (p := ⟨g, j * 4 + 3, none⟩) (by show _ ≤ g; omega) _).drew⟩
            case measure => simp [intOf]; omega
        · have hjn : es.length ≤ j := by rw [HES.out.2.2]; omega
          rw [half_all es j hjn, HES.out.1] at ho
          go_wp2
          go_ret
          refine ⟨a, n, cap, rfl, HES.out.2.1, ⟨ho.1, ?_⟩, hb⟩
          rcases ho.2 with h | ⟨g, c', cur, h1, h2, h3⟩
          · exact .inl h
          · exact .inr ⟨g, c', cur, h1, by omega, h3⟩
end Go.Proofs.Ytggognmbjgkdfaa
