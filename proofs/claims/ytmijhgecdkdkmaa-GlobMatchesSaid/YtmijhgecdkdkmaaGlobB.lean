/-
  Rows of structs; what glob.signsOf answers.
-/
import Derived.Test.YtmijhgecdkdkmaaGlobA
import Derived.Lib.OthersKept
import Derived.Laws.OwnMore
import Derived.WalkKit
import Derived.WalkSpells
import Derived.WalkSmall
import Derived.BigCall
import Derived.Maps.AppendAt
import Derived.StillTailTactics
import Derived.KernelRfl
set_option linter.unusedVariables false
namespace Go.Proofs.Ytmijhgecdkdkmaa
open Go.RowKit

/-- The cells of a row, each element as f lays it. -/
def rowOf {α : Type} (f : α → List Value) (es : List α) : List Value := es.flatMap f

theorem rowOf_append {α : Type} (f : α → List Value) (a b : List α) : rowOf f (a ++ b) = rowOf f a ++ rowOf f b := by simp [rowOf]
theorem rowOf_one {α : Type} (f : α → List Value) (a : α) : rowOf f [a] = f a := by simp [rowOf]

theorem rowOf_len {α : Type} (f : α → List Value) (k : Nat) (hf : ∀ e, (f e).length = k) (es : List α) : (rowOf f es).length = es.length * k := by
  induction es with
  | nil => simp [rowOf]
  | cons e r ih =>
    have : rowOf f (e :: r) = f e ++ rowOf f r := by simp [rowOf]
    rw [this, List.length_append, ih, hf, List.length_cons, Nat.add_mul]; omega

theorem rowOf_get {α : Type} (f : α → List Value) (k : Nat) (hf : ∀ e, (f e).length = k) (es : List α) (i j : Nat) (hi : i < es.length) (hj : j < k) : (rowOf f es)[i * k + j]? = (f (es[i]'hi))[j]? := by
  induction es generalizing i with
  | nil => simp at hi
  | cons e r ih =>
    have hc : rowOf f (e :: r) = f e ++ rowOf f r := by simp [rowOf]
    rw [hc]
    cases i with
    | zero => rw [List.getElem?_append_left (by rw [hf]; omega)]; simp
    | succ i =>
      rw [List.getElem?_append_right (by rw [hf, Nat.add_mul]; omega), hf, show (i + 1) * k + j - k = i * k + j by rw [Nat.add_mul]; omega]
      simpa using ih i (by simpa using hi)

theorem iter_owns {w : World} {k : Nat} {s : ByteArray} {pos pos' B z : Nat} {t : TypeId} {v : Value} {n : Nat} {xs : List Value} (hit : w.heap[k]? = some (.stringIter s pos)) (h : w.ownsRow B t z v n xs) : (w.iterAt k s pos').ownsRow B t z v n xs := by
  refine ⟨h.1, ?_⟩
  rcases h.2 with hn | ⟨g, cap, cur, rfl, hb, hg, rest⟩
  · exact .inl hn
  · refine .inr ⟨g, cap, cur, rfl, hb, ?_, rest⟩
    rw [Lib.iterAt_other _ _ _ _ _ (by rintro rfl; rw [hit] at hg; cases hg)]
    exact hg

theorem new_row (W : World) (C : Array Value) (t : TypeId) (k : Nat) (hk : k = W.heap.size) (j : Nat) (u : Value) (h : C.toList[j]? = some u) : (W.alloc (.cells C t)).cell? ((⟨k, 0, none⟩ : Addr).add j) = some u := by
  have hadd : (⟨k, 0, none⟩ : Addr).add j = ⟨k, j, none⟩ := by unfold Addr.add; split <;> simp_all
  have hg : (W.alloc (.cells C t)).heap[k]? = some (.cells C t (0, 0)) := by
    show (W.heap.push _)[k]? = _
    rw [hk]; simp
  rw [hadd, cell_of_row _ k j C t _ hg]
  simpa using h

theorem own_later {B : Nat} {e : TypeId} {k : Nat} {v : Value} {n : Nat} {xs : List Value} {w w' : World} (h : w.ownsRow B e k v n xs) (hb : Below w.heap.size w w') : w'.ownsRow B e k v n xs :=
  h.kept (row := none) ⟨hb.os, hb.tape, hb.output, hb.size, fun j hj _ => hb.block j hj⟩ (by cases hv : v.ownBlock <;> simp)

theorem own_base {B B' : Nat} {e : TypeId} {k : Nat} {v : Value} {n : Nat} {xs : List Value} {w : World} (h : w.ownsRow B e k v n xs) (hb : B' ≤ B) : w.ownsRow B' e k v n xs := by
  refine ⟨h.1, ?_⟩
  rcases h.2 with hn | ⟨g, cap, cur, hv, hg, rest⟩
  · exact .inl hn
  · exact .inr ⟨g, cap, cur, hv, Nat.le_trans hb hg, rest⟩

theorem own_form {B : Nat} {e : TypeId} {k : Nat} {v : Value} {n : Nat} {xs : List Value} {w : World} (h : w.ownsRow B e k v n xs) : ∃ a cap, v = .slice a n cap := by
  rcases h.2 with ⟨hv, hn⟩ | ⟨g, cap, cur, hv, _⟩
  · exact ⟨none, 0, by rw [hv, hn]⟩
  · exact ⟨_, _, hv⟩

/-- The cells of a row that is owned. -/
theorem own_cells {B k n : Nat} {e : TypeId} {v : Value} {w : World} {α : Type} {f : α → List Value} {es : List α} (h : w.ownsRow B e k v n (rowOf f es)) (hf : ∀ x, (f x).length = k) (hl : es.length = n) (h0 : es ≠ []) :
    ∃ g cap, v = .slice (some ⟨g, 0, none⟩) n cap ∧ B ≤ g ∧ ∀ i (hi : i < es.length) j, j < k → w.cell? ⟨g, i * k + j, none⟩ = (f es[i])[j]? := by
  rcases h.2 with ⟨hv, hn⟩ | ⟨g, cap, cur, hv, hb, _⟩
  · exact absurd (List.length_eq_zero_iff.1 (hl.trans hn)) h0
  · subst hv
    refine ⟨g, cap, rfl, hb, fun i hi j hj => ?_⟩
    have h1 : i * k + j < n * k := by
      have : (i + 1) * k ≤ n * k := Nat.mul_le_mul_right _ (by omega)
      rw [Nat.add_mul] at this; omega
    rw [h.cellAt (i * k + j) h1, rowOf_get f k hf es i j hi hj]

/-- A text's runes. -/
def runesOf (cs : List (List UInt8)) : List Nat := cs.map fun c => (dec c).1

/-- One more rune of a pattern. -/
def sgStep (x : List Sg × Bool) (r : Nat) : List Sg × Bool := if x.2 = true ∧ r = 92 then (x.1, false) else (x.1 ++ [(r, x.2)], true)
/-- The signs of a pattern's runes; false, if a \ stands at its end. -/
def sgRun (R : List Nat) : List Sg × Bool := R.foldl sgStep ([], true)

theorem sgRun_snoc (R : List Nat) (r : Nat) : sgRun (R ++ [r]) = sgStep (sgRun R) r := by simp [sgRun]
theorem sgRun_len (R : List Nat) : (sgRun R).1.length ≤ R.length := by
  have key : ∀ (R : List Nat) (x : List Sg × Bool), (R.foldl sgStep x).1.length ≤ x.1.length + R.length := by
    intro R
    induction R with
    | nil => intro x; simp
    | cons r R ih =>
      intro x
      have h1 : (sgStep x r).1.length ≤ x.1.length + 1 := by unfold sgStep; split <;> simp
      have := ih (sgStep x r)
      simp only [List.foldl_cons, List.length_cons]; omega
  simpa [sgRun] using key R ([], true)

def sgC (s : Sg) : List Value := [.int .i32 s.1, .bool s.2]

theorem infoSign : (Try.prog.info? 89).map (fun i => (i.zero, i.size, i.bytes)) = some (some (.agg #[.int .i32 0, .bool false]), 2, 8) := by kernel_rfl

def SignsPost (s : ByteArray) (w : World) (e : Ending) (w' : World) : Prop :=
  ∃ a cap, e = .returned (.tuple #[.slice a (sgRun (runesOf (pieces s.data.toList))).1.length cap, .bool (sgRun (runesOf (pieces s.data.toList))).2]) ∧
    w'.ownsRow w.heap.size 89 2 (.slice a (sgRun (runesOf (pieces s.data.toList))).1.length cap) (sgRun (runesOf (pieces s.data.toList))).1.length (rowOf sgC (sgRun (runesOf (pieces s.data.toList))).1) ∧ Below w.heap.size w w'

set_option maxHeartbeats 4000000 in
set_option maxRecDepth 1000000 in
theorem signsOf_any (s : ByteArray) (w : World) (hs : s.size ≤ 1000000) :
    Calls Try.prog 44 #[.string s] w (SignsPost s w) := by
  obtain ⟨i0, hi, hz0, hz1, hz2⟩ := info_parts infoSign
  go_enter Try.func44, Try.ntmps44
  go_wp2
  go_loopw [4, 5] (fun v b wr => ∃ (pos : Nat) (pre : List (List UInt8)) (a : Option Addr) (cap : Nat) (S : List Sg) (b0 : Bool), v = .slice a S.length cap ∧ b = .bool b0 ∧ wr.heap[w.heap.size]? = some (.stringIter s pos) ∧ wr.ownsRow (w.heap.size + 1) 89 2 (.slice a S.length cap) S.length (rowOf sgC S) ∧ Below w.heap.size w wr ∧ upTo s.data.toList pre pos ∧ Hid (sgRun (runesOf pre) = (S, b0))) (fun _ _ wr => s.size - wr.iterPos w.heap.size)
  case atStart => exact ⟨0, [], none, 0, [], true, rfl, rfl, World.iter_heap w s 0, ⟨rfl, .inl ⟨rfl, rfl⟩⟩, (Below.refl _ w).alloc (Nat.le_refl _) _, upTo_start _, rfl⟩
  case round =>
    obtain ⟨pos, pre, a, cap, S, b0, rfl, rfl, hit, hown, hbw, hu, HS⟩ := hrel
    have hcnt := upTo_count hu
    rw [← size_len] at hcnt
    have hSl : S.length ≤ s.size := by
      have := sgRun_len (runesOf pre)
      rw [HS.out] at this
      simp [runesOf] at this
      omega
    have hKz : w.heap.size < wr.heap.size := (Array.getElem?_eq_some_iff.1 hit).1
    by_cases hp : pos < s.size
    · have hpl : pos < s.data.toList.length := by rw [← size_len]; exact hp
      have hnx : ∀ ty, (Instr.next (.pointer (some ⟨w.heap.size, 0, none⟩)) true ty).run Try.prog wr = _ := fun ty => Lib.run_next_any_at wr w.heap.size s pos ty hit hp
      have hstep := upTo_step hu hpl
      obtain ⟨hpc, hpl2, hpd⟩ := pieceAt_is s.data.toList pos hpl
      have hwd := (dec_width (s.data.toList.drop pos) (by intro h0; have := congrArg List.length h0; simp at this; omega)).1
      have hr4 := dec_rune (s.data.toList.drop pos)
      rw [← dec_at] at hstep hwd hpd hr4 hpl2
      obtain ⟨r, wd, hdec⟩ : ∃ r wd, Utf8.decode s pos = (r, wd) := ⟨_, _, rfl⟩
      rw [hdec] at hnx hstep hwd hpd hr4 hpl2
      simp only at hnx hstep hwd hr4 hpl2
      clear hdec
      have HR : Hid (sgRun (runesOf (pre ++ [pieceAt s.data.toList pos])) = sgStep (S, b0) r) := by
        show _ = _
        rw [show runesOf (pre ++ [pieceAt s.data.toList pos]) = runesOf pre ++ [r] by simp [runesOf, hpd], sgRun_snoc, HS.out]
      have HST : Hid (upTo s.data.toList (pre ++ [pieceAt s.data.toList pos]) (pos + wd)) := hstep
      have hit2 := Lib.iterAt_heap wr w.heap.size s pos (pos + wd) hit
      have hbw2 := Lib.below_iterAt hbw (k := w.heap.size) (Nat.le_refl _) s (pos + wd)
      have hown2 := iter_owns (pos' := pos + wd) hit hown
      clear HS hu hpc hpd hpl2 hpl hstep hown
      by_cases hesc : b0 = true ∧ r = 92
      · obtain ⟨rfl, rfl⟩ := hesc
        have HR2 : Hid (sgRun (runesOf (pre ++ [pieceAt s.data.toList pos])) = (S, false)) := by
          show _ = _; rw [HR.out]; simp [sgStep]
        go_wp2
        go_roundw
        case rel => exact ⟨pos + wd, _, a, cap, S, false, rfl, rfl, hit2, hown2, hbw2, HST.out, HR2⟩
        case measure =>
          simp only [World.iterPos, hit2, hit]
          omega
      · have HR2 : Hid (sgRun (runesOf (pre ++ [pieceAt s.data.toList pos])) = (S ++ [(r, b0)], true)) := by
          show _ = _; rw [HR.out]; unfold sgStep; rw [if_neg hesc]
        have hcase : b0 = false ∨ (b0 = true ∧ ((r : Int) == 92) = false) := by
          cases b0 with
          | false => exact Or.inl rfl
          | true => exact Or.inr ⟨rfl, beq_false_of_ne (fun e => hesc ⟨rfl, by omega⟩)⟩
        clear hesc HR
        have hlt := hown2.lt
        rcases hcase with rfl | ⟨rfl, h92⟩
        · go_wp2_with (at_builtin; refine wpList_append_own_at _ rfl _ _ 71 rfl (w.heap.size + 1) 89 i0 (.agg #[.int .i32 0, .bool false]) 2 8 Try.underlying71 hi hz0 hz1 hz2 rfl (by decide) _ _ _ rfl (hown2.alloc _) ⟨(wr.iterAt w.heap.size s (pos + wd)).heap.size, 0, none⟩ 1 1 (sgC (r, false)) rfl rfl ?c1 ?c2 ?c3 ?c4 ?c5 ?_)
          case c1 => intro j u hj; exact new_row _ _ _ _ rfl j u hj
          case c2 => intro u hu; simp [sgC] at hu; rcases hu with rfl | rfl <;> rfl
          case c3 => unfold maxLen; omega
          case c4 => omega
          case c5 => simp [Lib.iterAt_size]; omega
          intro v' w2 hown3 hgrow _ _
          obtain ⟨a', cap', hv⟩ := own_form hown3
          subst hv
          have hit3 : w2.heap[w.heap.size]? = some (.stringIter s (pos + wd)) := by
            rw [hgrow.block _ (by rw [World.size_alloc, Lib.iterAt_size]; omega) (by intro e; have := (hlt _ e.symm).1; omega), Lib.alloc_old _ _ _ (by rw [Lib.iterAt_size]; omega)]
            exact hit2
          have hbw3 : Below w.heap.size w w2 := by
            refine (hbw2.alloc (by rw [Lib.iterAt_size]; omega) _).grown hgrow (by rw [World.size_alloc, Lib.iterAt_size]; omega) ?_
            intro k hk
            have := (hlt _ hk).1
            omega
          clear hgrow hown2 hlt
          go_wp2
          go_roundw
          case rel =>
            refine ⟨pos + wd, _, a', cap', S ++ [(r, false)], true, by simp, rfl, hit3, ?_, hbw3, HST.out, HR2⟩
            rw [rowOf_append, rowOf_one, List.length_append]
            exact hown3
          case measure =>
            simp only [World.iterPos, hit3, hit]
            omega
        · go_wp2_with (at_builtin; refine wpList_append_own_at _ rfl _ _ 71 rfl (w.heap.size + 1) 89 i0 (.agg #[.int .i32 0, .bool false]) 2 8 Try.underlying71 hi hz0 hz1 hz2 rfl (by decide) _ _ _ rfl (hown2.alloc _) ⟨(wr.iterAt w.heap.size s (pos + wd)).heap.size, 0, none⟩ 1 1 (sgC (r, true)) rfl rfl ?d1 ?d2 ?d3 ?d4 ?d5 ?_)
          case d1 => intro j u hj; exact new_row _ _ _ _ rfl j u hj
          case d2 => intro u hu; simp [sgC] at hu; rcases hu with rfl | rfl <;> rfl
          case d3 => unfold maxLen; omega
          case d4 => omega
          case d5 => simp [Lib.iterAt_size]; omega
          intro v' w2 hown3 hgrow _ _
          obtain ⟨a', cap', hv⟩ := own_form hown3
          subst hv
          have hit3 : w2.heap[w.heap.size]? = some (.stringIter s (pos + wd)) := by
            rw [hgrow.block _ (by rw [World.size_alloc, Lib.iterAt_size]; omega) (by intro e; have := (hlt _ e.symm).1; omega), Lib.alloc_old _ _ _ (by rw [Lib.iterAt_size]; omega)]
            exact hit2
          have hbw3 : Below w.heap.size w w2 := by
            refine (hbw2.alloc (by rw [Lib.iterAt_size]; omega) _).grown hgrow (by rw [World.size_alloc, Lib.iterAt_size]; omega) ?_
            intro k hk
            have := (hlt _ hk).1
            omega
          clear hgrow hown2 hlt
          go_wp2
          go_roundw
          case rel =>
            refine ⟨pos + wd, _, a', cap', S ++ [(r, true)], true, by simp, rfl, hit3, ?_, hbw3, HST.out, HR2⟩
            rw [rowOf_append, rowOf_one, List.length_append]
            exact hown3
          case measure =>
            simp only [World.iterPos, hit3, hit]
            omega
    · have hpl : ¬ pos < s.data.toList.length := by rw [← size_len]; exact hp
      have hnx : ∀ ty, (Instr.next (.pointer (some ⟨w.heap.size, 0, none⟩)) true ty).run Try.prog wr = _ := fun ty => Lib.run_next_end_at wr w.heap.size s pos ty hit hp
      have hpe := upTo_end hu hpl
      have HP : Hid (sgRun (runesOf (pieces s.data.toList)) = (S, b0)) := by show _ = _; rw [hpe]; exact HS.out
      clear hpe HS hu hpl
      go_wp2
      go_ret2
      unfold SignsPost
      rw [HP.out]
      exact ⟨a, cap, rfl, own_base hown (by omega), hbw⟩

end Go.Proofs.Ytmijhgecdkdkmaa
