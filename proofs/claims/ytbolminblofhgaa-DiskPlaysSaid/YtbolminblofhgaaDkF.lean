/-
  The reference's disk beside package disk's: what both do to the list of files; an element put in the row.
-/
import Derived.Test.YtbolminblofhgaaDkE
import Derived.Test.YtbolminblofhgaaDsG
set_option linter.unusedVariables false
namespace Go.Proofs.Ytbolminblofhgaa
open Go.RowKit

theorem fnd_none {nm : ByteArray} {L : List RF} (h : fnd nm L = none) : getL nm L = none := by
  unfold fnd at h
  unfold getL
  rw [List.findIdx?_eq_none_iff] at h
  rw [List.find?_eq_none]
  intro f hf
  simpa using h f hf
theorem fnd_get {nm : ByteArray} {L : List RF} {k : Nat} (hr : Rise L) (h : fnd nm L = some k) : ∃ hk : k < L.length, (L[k]'hk).nm = nm ∧ getL nm L = some (L[k]'hk) := by
  obtain ⟨hk, hn⟩ := fnd_some h
  refine ⟨hk, hn, ?_⟩
  rw [← hn]
  have hm : L[k]'hk ∈ L := List.getElem_mem hk
  have hs : (getL (L[k]'hk).nm L).isSome = true := by
    unfold getL
    rw [List.find?_isSome]
    exact ⟨_, hm, by simp⟩
  obtain ⟨f, hf⟩ := Option.isSome_iff_exists.1 hs
  obtain ⟨h1, h2⟩ := getL_mem hf
  obtain ⟨i, hi, rfl⟩ := List.getElem_of_mem h1
  have hp := List.pairwise_iff_getElem.1 hr.ne
  have : i = k := by
    rcases Nat.lt_trichotomy i k with h | h | h
    · exact absurd h2 (hp i k hi hk h)
    · exact h
    · exact absurd h2.symm (hp k i hk hi h)
  subst this
  rw [hf]
theorem before_not {a b : ByteArray} (h : bytesBefore (key a) (key b) = true) : bytesBefore (key b) (key a) = false := by
  cases hb : bytesBefore (key b) (key a)
  · rfl
  · have h2 : (Lit.string (key a)).before (Lit.string (key b)) = true := h
    have h3 : (Lit.string (key b)).before (Lit.string (key a)) = true := hb
    have := WideShapes.before_trans h2 h3
    rw [WideShapes.before_irrefl] at this
    cases this
/-- Where a file comes to stand: between the lesser and the greater ones. -/
theorem insL_mid (f : RF) : ∀ (A C : List RF), (∀ g ∈ A, bytesBefore (key f.nm) (key g.nm) = false) → (∀ g ∈ C, bytesBefore (key f.nm) (key g.nm) = true) → insL f (A ++ C) = A ++ f :: C
  | [], [], _, _ => rfl
  | [], c :: C, _, h => by
    show (if bytesBefore (key f.nm) (key c.nm) then f :: c :: C else c :: insL f C) = _
    rw [if_pos (h c (by simp))]; rfl
  | a :: A, C, h1, h2 => by
    show (if bytesBefore (key f.nm) (key a.nm) then f :: a :: (A ++ C) else a :: insL f (A ++ C)) = _
    rw [h1 a (by simp), insL_mid f A C (fun g hg => h1 g (by simp [hg])) h2]; rfl
theorem delL_none {nm : ByteArray} {L : List RF} (h : getL nm L = none) : delL nm L = L := by
  unfold getL at h
  unfold delL
  rw [List.find?_eq_none] at h
  exact List.filter_eq_self.2 (fun f hf => by simpa using h f hf)
theorem put_bub {L : List RF} (hr : Rise L) (f : RF) (k : Nat) (hk : k ≤ L.length) (hn : getL f.nm L = none) (h1 : ∀ i (hi : i < L.length), k ≤ i → bytesBefore (key f.nm) (key (L[i]'hi).nm) = true) (h2 : ∀ h : 0 < k, bytesBefore (key f.nm) (key (L[k - 1]'(by omega)).nm) = false) :
    putL f L = L.take k ++ f :: L.drop k := by
  unfold putL
  rw [delL_none hn]
  conv => lhs; rw [← List.take_append_drop k L]
  refine insL_mid f _ _ (fun g hg => ?_) (fun g hg => ?_)
  · obtain ⟨i, hi, rfl⟩ := List.getElem_of_mem hg
    rw [List.length_take] at hi
    rw [List.getElem_take]
    have h0 := h2 (by omega)
    rcases Nat.lt_or_ge i (k - 1) with hlt | hge
    · have hb := List.pairwise_iff_getElem.1 hr i (k - 1) (by omega) (by omega) hlt
      cases hx : bytesBefore (key f.nm) (key (L[i]'(by omega)).nm)
      · rfl
      · have ha : (Lit.string (key f.nm)).before (Lit.string (key (L[i]'(by omega)).nm)) = true := hx
        have hc : (Lit.string (key (L[i]'(by omega)).nm)).before (Lit.string (key (L[k - 1]'(by omega)).nm)) = true := hb
        have := WideShapes.before_trans ha hc
        rw [show (Lit.string (key f.nm)).before (Lit.string (key (L[k - 1]'(by omega)).nm)) = false from h0] at this
        cases this
    · have : i = k - 1 := by omega
      subst this
      exact h0
  · obtain ⟨i, hi, rfl⟩ := List.getElem_of_mem hg
    rw [List.getElem_drop]
    exact h1 (k + i) (by simp at hi; omega) (by omega)
theorem split_at {L : List RF} (k : Nat) (hk : k < L.length) : L = L.take k ++ L[k]'hk :: L.drop (k + 1) := by
  conv => lhs; rw [← List.take_append_drop k L, List.drop_eq_getElem_cons hk]
theorem put_set {L : List RF} (hr : Rise L) (f : RF) (k : Nat) (hk : k < L.length) (hn : (L[k]'hk).nm = f.nm) : putL f L = L.set k f := by
  have hp := List.pairwise_iff_getElem.1 hr
  have hd : delL f.nm L = L.take k ++ L.drop (k + 1) := by
    unfold delL
    conv => lhs; rw [split_at k hk]
    rw [List.filter_append, List.filter_cons, if_neg (by simp [hn])]
    congr 1
    · refine List.filter_eq_self.2 (fun g hg => ?_)
      obtain ⟨i, hi, rfl⟩ := List.getElem_of_mem hg
      rw [List.length_take] at hi
      rw [List.getElem_take]
      have := List.pairwise_iff_getElem.1 hr.ne i k (by omega) hk (by omega)
      rw [hn] at this
      simpa using this
    · refine List.filter_eq_self.2 (fun g hg => ?_)
      obtain ⟨i, hi, rfl⟩ := List.getElem_of_mem hg
      simp at hi
      rw [List.getElem_drop]
      have := List.pairwise_iff_getElem.1 hr.ne k (k + 1 + i) hk (by omega) (by omega)
      rw [hn] at this
      simpa using fun e => this e.symm
  unfold putL
  rw [hd, insL_mid f _ _ (fun g hg => ?_) (fun g hg => ?_), List.set_eq_take_append_cons_drop, if_pos hk]
  · obtain ⟨i, hi, rfl⟩ := List.getElem_of_mem hg
    rw [List.length_take] at hi
    rw [List.getElem_take]
    have := hp i k (by omega) hk (by omega)
    rw [hn] at this
    exact before_not this
  · obtain ⟨i, hi, rfl⟩ := List.getElem_of_mem hg
    simp at hi
    rw [List.getElem_drop]
    have := hp k (k + 1 + i) hk (by omega) (by omega)
    rw [hn] at this
    exact this
theorem del_erase {L : List RF} (hr : Rise L) {nm : ByteArray} {k : Nat} (h : fnd nm L = some k) : delL nm L = L.eraseIdx k := by
  obtain ⟨hk, hn⟩ := fnd_some h
  rw [List.eraseIdx_eq_take_drop_succ]
  unfold delL
  conv => lhs; rw [split_at k hk]
  rw [List.filter_append, List.filter_cons, if_neg (by simp [hn])]
  congr 1
  · refine List.filter_eq_self.2 (fun g hg => ?_)
    obtain ⟨i, hi, rfl⟩ := List.getElem_of_mem hg
    rw [List.length_take] at hi
    rw [List.getElem_take]
    have := List.pairwise_iff_getElem.1 hr.ne i k (by omega) hk (by omega)
    rw [hn] at this
    simpa using this
  · refine List.filter_eq_self.2 (fun g hg => ?_)
    obtain ⟨i, hi, rfl⟩ := List.getElem_of_mem hg
    simp at hi
    rw [List.getElem_drop]
    have := List.pairwise_iff_getElem.1 hr.ne k (k + 1 + i) hk (by omega) (by omega)
    rw [hn] at this
    simpa using fun e => this e.symm

/-! ### an element put in the row -/
theorem rowOf_set3 (Q : List (Value × RF)) (k : Nat) (hk : k < Q.length) (e : Value × RF) :
    (((rowOf fC Q).set (k * 3) (.string e.2.nm)).set (k * 3 + 1) e.1).set (k * 3 + 2) (.int .i64 e.2.s) = rowOf fC (Q.set k e) := by
  induction Q generalizing k with
  | nil => simp at hk
  | cons a r ih =>
    have hc : ∀ (a : Value × RF) (r : List (Value × RF)), rowOf fC (a :: r) = .string a.2.nm :: a.1 :: .int .i64 a.2.s :: rowOf fC r := fun a r => by simp [rowOf, fC]
    cases k with
    | zero =>
      rw [hc, List.set_cons_zero, List.set_cons_zero, hc]
      simp
    | succ k =>
      have e1 : (k + 1) * 3 = k * 3 + 1 + 1 + 1 := by omega
      rw [hc, List.set_cons_succ, hc, ← ih k (by simpa using hk), e1]
      simp only [List.set_cons_succ]
theorem DkAt.setE {w : World} {B g gr cp : Nat} {Q : List (Value × RF)} {M : RD} (h : DkAt w B g (.slice (some ⟨gr, 0, none⟩) Q.length cp) Q M) (k : Nat) (hk : k < Q.length) (e : Value × RF) (he : w.ownsRow B 5 1 e.1 e.2.b.length (Lib.byteCells e.2.b)) :
    DkAt (((w.setCell ⟨gr, k * 3, none⟩ (.string e.2.nm)).setCell ⟨gr, k * 3 + 1, none⟩ e.1).setCell ⟨gr, k * 3 + 2, none⟩ (.int .i64 e.2.s)) B g (.slice (some ⟨gr, 0, none⟩) (Q.set k e).length cp) (Q.set k e) { M with L := M.L.set k e.2 } ∧
    Kept (fun i => i = gr) w (((w.setCell ⟨gr, k * 3, none⟩ (.string e.2.nm)).setCell ⟨gr, k * 3 + 1, none⟩ e.1).setCell ⟨gr, k * 3 + 2, none⟩ (.int .i64 e.2.s)) := by
  have ha := h.apart
  have hx := h.apartB
  obtain ⟨h1, h2, hg, ho, hb⟩ := h
  have hkk : Kept (fun i => i = gr) w (((w.setCell ⟨gr, k * 3, none⟩ (.string e.2.nm)).setCell ⟨gr, k * 3 + 1, none⟩ e.1).setCell ⟨gr, k * 3 + 2, none⟩ (.int .i64 e.2.s)) :=
    (((Kept.refl (fun i => i = gr) w).setCell (p := ⟨gr, k * 3, none⟩) (fun _ => rfl) _).setCell (p := ⟨gr, k * 3 + 1, none⟩) (fun _ => rfl) _).setCell (p := ⟨gr, k * 3 + 2, none⟩) (fun _ => rfl) _
  have hgr : g ≠ gr := fun e => ha (by rw [e]; rfl)
  have hne : e.1.ownBlock ≠ some gr := by
    rcases ho.2 with ⟨hv, _⟩ | ⟨g', cap', cur, hv, _, hg', _⟩
    · cases hv
    · injection hv with e1
      injection e1 with e1
      injection e1 with e1
      subst e1
      exact own_ne hg' he (by decide)
  rw [List.length_set]
  refine ⟨⟨h1, by rw [List.map_set, h2], (hkk.block g (lt_of_block hg) hgr).trans hg, ?_, fun q hq => ?_⟩, hkk⟩
  · have s1 := (ho.stored (k * 3) (.string e.2.nm)).1
    have s2 := (s1.stored (k * 3 + 1) e.1).1
    have s3 := (s2.stored (k * 3 + 2) (.int .i64 e.2.s)).1
    rw [rowOf_set3 Q k hk e] at s3
    rw [List.length_set]
    exact s3
  · rcases List.mem_or_eq_of_mem_set hq with hm | rfl
    · exact Kept.own (hb q hm) hkk (fun i hi e2 => hx q hm i hi (.inr (by rw [e2]; rfl)))
    · exact Kept.own he hkk (fun i hi e2 => hne (e2 ▸ hi))

end Go.Proofs.Ytbolminblofhgaa
