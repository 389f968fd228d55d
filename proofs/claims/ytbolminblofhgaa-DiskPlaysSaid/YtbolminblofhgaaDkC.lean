/-
  The reference's disk: Sync.
-/
import Derived.Test.YtbolminblofhgaaDkB
import Derived.BigRegion
set_option linter.unusedVariables false
namespace Go.Proofs.Ytbolminblofhgaa
open Go.RowKit

theorem rowOf_set {α : Type} (f : α → List Value) (k : Nat) (hf : ∀ e, (f e).length = k) (es : List α) (i j : Nat) (u : Value) (e' : α) (hi : i < es.length) (hj : j < k) (h : (f (es[i]'hi)).set j u = f e') :
    (rowOf f es).set (i * k + j) u = rowOf f (es.set i e') := by
  induction es generalizing i with
  | nil => simp at hi
  | cons e r ih =>
    have hc : ∀ (e : α) (r : List α), rowOf f (e :: r) = f e ++ rowOf f r := fun e r => by simp [rowOf]
    cases i with
    | zero =>
      simp only [List.getElem_cons_zero] at h
      rw [hc, List.set_cons_zero, hc, List.set_append_left _ _ (by rw [hf]; omega), Nat.zero_mul, Nat.zero_add, h]
    | succ i =>
      rw [hc, List.set_cons_succ, hc, List.set_append_right _ _ (by rw [hf, Nat.add_mul]; omega), hf, show (i + 1) * k + j - k = i * k + j by rw [Nat.add_mul]; omega]
      rw [ih i (by simpa using hi) (by simpa using h)]

/-- The k-th file, otherwise. -/
theorem DkAt.row {w : World} {B g : Nat} {v : Value} {Q : List (Value × RF)} {M : RD} (h : DkAt w B g v Q M) (hq : Q ≠ []) : ∃ gr cp, v = .slice (some ⟨gr, 0, none⟩) Q.length cp ∧ B ≤ gr := by
  obtain ⟨gr, cp, hv, hb, _⟩ := own_cells h.2.2.2.1 fC_len rfl hq
  exact ⟨gr, cp, hv, hb⟩
theorem DkAt.cells {w : World} {B g gr cp : Nat} {Q : List (Value × RF)} {M : RD} (h : DkAt w B g (.slice (some ⟨gr, 0, none⟩) Q.length cp) Q M) (k : Nat) (hk : k < Q.length) :
    w.cell? ⟨gr, k * 3, none⟩ = some (.string (Q[k]'hk).2.nm) ∧ w.cell? ⟨gr, k * 3 + 1, none⟩ = some (Q[k]'hk).1 ∧ w.cell? ⟨gr, k * 3 + 2, none⟩ = some (.int .i64 (Q[k]'hk).2.s) := by
  obtain ⟨g', cp', hv, hb, hc⟩ := own_cells h.2.2.2.1 fC_len rfl (by intro e; rw [e] at hk; simp at hk)
  injection hv with e1 _ e3
  injection e1 with e1
  injection e1 with e1
  subst e1
  exact ⟨by have := hc k hk 0 (by omega); rw [Nat.add_zero] at this; rw [this]; rfl, by rw [hc k hk 1 (by omega)]; rfl, by rw [hc k hk 2 (by omega)]; rfl⟩
theorem DkAt.setS {w : World} {B g gr cp : Nat} {Q : List (Value × RF)} {M : RD} (h : DkAt w B g (.slice (some ⟨gr, 0, none⟩) Q.length cp) Q M) (k : Nat) (hk : k < Q.length) (s : Nat) :
    DkAt (w.setCell ⟨gr, k * 3 + 2, none⟩ (.int .i64 s)) B g (.slice (some ⟨gr, 0, none⟩) (Q.set k ((Q[k]'hk).1, { (Q[k]'hk).2 with s := s })).length cp) (Q.set k ((Q[k]'hk).1, { (Q[k]'hk).2 with s := s })) { M with L := M.L.set k { (Q[k]'hk).2 with s := s } } := by
  have ha := h.apart
  have hx := h.apartB
  obtain ⟨h1, h2, hg, ho, hb⟩ := h
  rw [List.length_set]
  refine ⟨h1, by rw [List.map_set, h2], by rw [heap_setCell_other _ _ _ _ (fun e => ha (by rw [e]; rfl))]; exact hg, ?_, ?_⟩
  · have := (ho.stored (k * 3 + 2) (.int .i64 s)).1
    rw [rowOf_set fC 3 fC_len Q k 2 _ ((Q[k]'hk).1, { (Q[k]'hk).2 with s := s }) hk (by omega) rfl] at this
    rw [List.length_set]
    exact this
  · intro q hq
    have hq' : w.ownsRow B 5 1 q.1 q.2.b.length (Lib.byteCells q.2.b) ∧ ∀ k, q.1.ownBlock = some k → k ≠ gr := by
      rcases List.mem_or_eq_of_mem_set hq with hm | rfl
      · exact ⟨hb q hm, fun k hk e => hx q hm k hk (.inr (by rw [e]; rfl))⟩
      · have hm : Q[k]'hk ∈ Q := List.getElem_mem hk
        exact ⟨hb (Q[k]'hk) hm, fun k' hk' e => hx (Q[k]'hk) hm k' hk' (.inr (by rw [e]; rfl))⟩
    exact ownsRow_setCell_other hq'.1 (fun e => hq'.2 _ e rfl) _

theorem DkAt.drew {w : World} {B g : Nat} {v : Value} {Q : List (Value × RF)} {M : RD} (h : DkAt w B g v Q M) : DkAt w.drew B g v Q M :=
  h.kept (S := fun _ => False) (Kept.refl _ w).drew (fun _ _ h => h) (fun _ _ _ _ h => h)

/-- What Sync answers and leaves. -/
def syncM (M : RD) (nm : ByteArray) : Int × RD :=
  if offM M then (9, M.op) else match fnd nm M.L with
  | none => (4, M.op)
  | some k => match M.L[k]? with
    | none => (4, M.op)
    | some f => (0, { M.op with L := M.L.set k { f with s := f.b.length } })

/-- A call on a disk: its answer, and how the disk lies behind it. -/
def DkRes (w : World) (B g : Nat) (v : Value) (x : Int × RD) (e : Ending) (w' : World) : Prop :=
  ∃ v' Q', e = .returned (.int .i64 x.1) ∧ DkAt w' B g v' Q' x.2 ∧ Kept (DkS g v) w w' ∧ ∀ k, v'.ownBlock = some k → v.ownBlock = some k ∨ w.heap.size ≤ k

theorem fnd_some {nm : ByteArray} {L : List RF} {k : Nat} (h : fnd nm L = some k) : ∃ hk : k < L.length, (L[k]'hk).nm = nm := by
  unfold fnd at h
  rw [List.findIdx?_eq_some_iff_getElem] at h
  obtain ⟨hk, h, _⟩ := h
  exact ⟨hk, by simpa using h⟩

set_option maxHeartbeats 2000000 in
set_option maxRecDepth 100000 in
theorem rSync (w : World) (B g : Nat) (v : Value) (Q : List (Value × RF)) (M : RD) (nm : ByteArray) (h : DkAt w B g v Q M) (hn : M.n ≤ 100000) (hq : Q.length ≤ 1000000) :
    Calls Try.prog 30 #[.pointer (some ⟨g, 0, none⟩), .string nm] w (DkRes w B g v (syncM M nm)) := by
  have cO := rOff w B g v Q M h (by omega)
  cases ho : offM M with
  | true =>
    have HR : Hid (syncM M nm = (9, M.op)) := by show _ = _; unfold syncM; rw [if_pos ho]
    rw [ho] at cO
    clear h ho
    go_enter Try.func30, Try.ntmps30
    go_wp2_with (go_at_call 48; (with_reducible refine cO.mono ?_))
    rintro e W1 ⟨rfl, h1, k1⟩
    have H1 := Lib.hid h1
    clear h1
    go_wp2
    go_ret
    rw [HR.out]
    exact ⟨v, Q, rfl, H1.out, k1.mono (fun k _ e => .inl e), fun k e => .inl e⟩
  | false =>
    rw [ho] at cO
    have cF := fun W1 (h1 : DkAt W1 B g v Q M.op) => rFind_any W1 B g v Q M.op nm h1 hq
    have hL := Lib.hid h.2.1
    cases hf : fnd nm M.L with
    | none =>
      have HR : Hid (syncM M nm = (4, M.op)) := by show _ = _; unfold syncM; rw [if_neg (by rw [ho]; decide), hf]
      have cF2 : ∀ W1, DkAt W1 B g v Q M.op → Calls Try.prog 50 #[.pointer (some ⟨g, 0, none⟩), .string nm] W1 fun e w' => e = .returned (.int .i64 (-1)) ∧ ∃ q, w' = W1.drewN q := fun W1 h1 => by
        have := cF W1 h1
        rw [show fnd nm M.op.L = none from hf] at this
        exact this
      clear h ho hf cF
      go_enter Try.func30, Try.ntmps30
      go_wp2_with (go_at_call 48; (with_reducible refine cO.mono ?_))
      rintro e W1 ⟨rfl, h1, k1⟩
      have cF3 := cF2 W1 h1
      have H1 := Lib.hid h1
      clear h1 cF2 cO
      go_wp2_with (go_at_call 50; (with_reducible refine cF3.mono ?_))
      rintro e W2 ⟨rfl, q, rfl⟩
      go_wp2
      go_ret
      rw [HR.out]
      exact ⟨v, Q, rfl, H1.out.drewN q, (k1.mono (fun k _ e => .inl e)).drewN q, fun k e => .inl e⟩
    | some k =>
      obtain ⟨hk, hnm⟩ := fnd_some hf
      have hkQ : k < Q.length := by rw [← hL.out] at hk; simpa using hk
      have HR : Hid (syncM M nm = (0, { M.op with L := M.L.set k { (Q[k]'hkQ).2 with s := (Q[k]'hkQ).2.b.length } })) := by
        show _ = _
        unfold syncM
        rw [if_neg (by rw [ho]; decide), hf]
        have : M.L[k]? = some (Q[k]'hkQ).2 := by rw [← hL.out]; simp [hkQ]
        simp only [this]
      have cF2 : ∀ W1, DkAt W1 B g v Q M.op → Calls Try.prog 50 #[.pointer (some ⟨g, 0, none⟩), .string nm] W1 fun e w' => e = .returned (.int .i64 (k : Int)) ∧ ∃ q, w' = W1.drewN q := fun W1 h1 => by
        have := cF W1 h1
        rw [show fnd nm M.op.L = some k from hf] at this
        exact this
      obtain ⟨gr, cp, hv, hB⟩ := h.row (by intro e; rw [e] at hkQ; simp at hkQ)
      subst hv
      clear h ho hf cF hnm
      go_enter Try.func30, Try.ntmps30
      go_wp2_with (go_at_call 48; (with_reducible refine cO.mono ?_))
      rintro e W1 ⟨rfl, h1, k1⟩
      have cF3 := cF2 W1 h1
      have H1 := Lib.hid h1
      clear h1 cF2 cO
      go_wp2_with (go_at_call 50; (with_reducible refine cF3.mono ?_))
      rintro e W2 ⟨rfl, q, rfl⟩
      have H2 := Lib.hid (H1.out.drewN q)
      have K2 := (k1.mono (T := DkS g (.slice (some ⟨gr, 0, none⟩) Q.length cp)) (fun k _ e => .inl e)).drewN q
      obtain ⟨W2, hW2⟩ : ∃ W, W = W1.drewN q := ⟨_, rfl⟩
      rw [← hW2] at H2 K2 ⊢
      obtain ⟨_, d1, _, _⟩ := H2.out.cell
      obtain ⟨r0, r1, r2⟩ := H2.out.cells k hkQ
      have f1 := H2.out.2.2.2.1.frozenAt (k * 3 + 2)
      obtain ⟨ba, bc, hb⟩ := own_slice (H2.out.2.2.2.2 _ (List.getElem_mem hkQ))
      rw [hb] at r1
      obtain ⟨m, hm⟩ : ∃ m, m = (Q[k]'hkQ).2.b.length := ⟨_, rfl⟩
      rw [← hm] at r1
      have HM := Lib.hid hm
      clear hm hb hW2 cF3 H1 k1
      go_wp2
      go_still_tail 14, (by kernel_rfl)
      change wpList _ _ _ _ _ W2.drew
      go_wp2
      go_ret
      rw [HR.out]
      have hS := (H2.out.setS k hkQ m).drew
      rw [show (m : Int) = (((Q[k]'hkQ).2.b.length : Nat) : Int) by rw [HM.out]] at hS ⊢
      rw [HM.out] at hS
      exact ⟨_, _, rfl, hS, (K2.setCell (p := ⟨gr, k * 3 + 2, none⟩) (fun _ => .inr rfl) _).drew, fun k e => .inl e⟩

end Go.Proofs.Ytbolminblofhgaa
