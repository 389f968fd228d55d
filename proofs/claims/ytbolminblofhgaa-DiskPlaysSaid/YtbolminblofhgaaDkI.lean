/-
  The reference's Sync and Rename, all blocks told.
-/
import Derived.Test.YtbolminblofhgaaDkH
set_option linter.unusedVariables false
namespace Go.Proofs.Ytbolminblofhgaa
open Go.RowKit

theorem delL_twice (nm : ByteArray) (L : List RF) : delL nm (delL nm L) = delL nm L := by
  unfold delL
  rw [List.filter_filter]
  congr 1
  funext f
  simp
theorem getL_gone (nm : ByteArray) (L : List RF) : getL nm (delL nm L) = none := by
  unfold getL delL
  rw [List.find?_eq_none]
  intro f hf
  simpa using (List.mem_filter.1 hf).2
theorem putL_gone (f : RF) (L : List RF) : putL f (delL f.nm L) = putL f L := by unfold putL; rw [delL_twice]

set_option maxHeartbeats 4000000 in
set_option maxRecDepth 100000 in
theorem rSync_9 (w : World) (B g : Nat) (v : Value) (Q : List (Value × RF)) (M : RD) (nm : ByteArray) (h : DkAt w B g v Q M) (hn : M.n ≤ 1000000) (ho : offM M = true) :
    Calls Try.prog 30 #[.pointer (some ⟨g, 0, none⟩), .string nm] w (RkRes w B g v Q (9, M.op)) := by
  have cO := rOff w B g v Q M h hn
  rw [ho] at cO
  clear h
  go_enter Try.func30, Try.ntmps30
  go_wp2_with (go_at_call 48; (with_reducible refine cO.mono ?_))
  rintro e W1 ⟨rfl, h1, k1⟩
  have H1 := Lib.hid h1
  clear h1 cO
  go_wp2
  go_ret
  exact ⟨v, Q, rfl, H1.out, k1.mono (fun k _ e => .inl e), fun k e => .inl e⟩
set_option maxHeartbeats 4000000 in
set_option maxRecDepth 100000 in
theorem rSync_4 (w : World) (B g : Nat) (v : Value) (Q : List (Value × RF)) (M : RD) (nm : ByteArray) (h : DkAt w B g v Q M) (hn : M.n ≤ 1000000) (hq : Q.length ≤ 100000) (ho : offM M = false) (hf : fnd nm M.L = none) :
    Calls Try.prog 30 #[.pointer (some ⟨g, 0, none⟩), .string nm] w (RkRes w B g v Q (4, M.op)) := by
  have cO := rOff w B g v Q M h hn
  rw [ho] at cO
  clear h
  go_enter Try.func30, Try.ntmps30
  go_wp2_with (go_at_call 48; (with_reducible refine cO.mono ?_))
  rintro e W1 ⟨rfl, h1, k1⟩
  have cF := rFind_no (nm := nm) h1 (by omega) hf
  have H1 := Lib.hid h1
  clear h1 cO
  go_wp2_with (go_at_call 50; (with_reducible refine cF.mono ?_))
  rintro e W2 ⟨rfl, q, rfl⟩
  go_wp2
  go_ret
  exact ⟨v, Q, rfl, H1.out.drewN q, (k1.mono (T := DkS g v) (fun k _ e => .inl e)).drewN q, fun k e => .inl e⟩
set_option maxHeartbeats 4000000 in
set_option maxRecDepth 100000 in
theorem rSync_ok (w : World) (B g : Nat) (v : Value) (Q : List (Value × RF)) (M : RD) (nm : ByteArray) (k : Nat) (h : DkAt w B g v Q M) (hn : M.n ≤ 1000000) (hq : Q.length ≤ 100000) (ho : offM M = false) (hf : fnd nm M.L = some k) :
    Calls Try.prog 30 #[.pointer (some ⟨g, 0, none⟩), .string nm] w (RkRes w B g v Q (syncM M nm)) := by
  have cO := rOff w B g v Q M h hn
  have hL := Lib.hid h.2.1
  obtain ⟨hk, hnm⟩ := fnd_some hf
  have hkQ : k < Q.length := by rw [← hL.out] at hk; simpa using hk
  have HR : Hid (syncM M nm = (0, { M.op with L := M.L.set k { (Q[k]'hkQ).2 with s := (Q[k]'hkQ).2.b.length } })) := by
    show _ = _
    unfold syncM
    rw [if_neg (by rw [ho]; decide), hf]
    have : M.L[k]? = some (Q[k]'hkQ).2 := by rw [← hL.out]; simp [hkQ]
    simp only [this]
  rw [ho] at cO
  obtain ⟨gr, cp, hv, hB⟩ := h.row (by intro e; rw [e] at hkQ; simp at hkQ)
  subst hv
  clear h hnm
  go_enter Try.func30, Try.ntmps30
  go_wp2_with (go_at_call 48; (with_reducible refine cO.mono ?_))
  rintro e W1 ⟨rfl, h1, k1⟩
  have cF := rFind_yes (nm := nm) h1 (by omega) hf
  have H1 := Lib.hid h1
  clear h1 cO
  go_wp2_with (go_at_call 50; (with_reducible refine cF.mono ?_))
  rintro e W2' ⟨rfl, q, rfl⟩
  obtain ⟨W2, hW2⟩ : ∃ W, W = W1.drewN q := ⟨_, rfl⟩
  have h2 : DkAt W2 B g (.slice (some ⟨gr, 0, none⟩) Q.length cp) Q M.op := by rw [hW2]; exact H1.out.drewN q
  have k2 : Kept (fun k => k = g) w W2 := by rw [hW2]; exact k1.drewN q
  rw [← hW2]
  clear hW2 H1 k1 cF
  obtain ⟨_, d1, _, _⟩ := h2.cell
  obtain ⟨r0, r1, r2⟩ := h2.cells k hkQ
  have f1 := h2.2.2.2.1.frozenAt (k * 3 + 2)
  obtain ⟨ba, bc, hb⟩ := own_slice (h2.2.2.2.2 _ (List.getElem_mem hkQ))
  rw [hb] at r1
  obtain ⟨m, hm⟩ : ∃ m, m = (Q[k]'hkQ).2.b.length := ⟨_, rfl⟩
  rw [← hm] at r1
  have HM := Lib.hid hm
  have H2 := Lib.hid h2
  clear hm hb h2
  go_wp2
  go_still_tail 14, (by kernel_rfl)
  change wpList _ _ _ _ _ W2.drew
  go_wp2
  go_ret
  rw [HR.out]
  have hS := (H2.out.setS k hkQ m).drew
  rw [show (m : Int) = (((Q[k]'hkQ).2.b.length : Nat) : Int) by rw [HM.out]] at hS ⊢
  rw [HM.out] at hS
  refine ⟨_, _, rfl, hS, ((k2.mono (T := DkS g (.slice (some ⟨gr, 0, none⟩) Q.length cp)) (fun k _ e => .inl e)).setCell (p := ⟨gr, k * 3 + 2, none⟩) (fun _ => .inr rfl) _).drew, ?_⟩
  rintro i (e | ⟨x, hx, e⟩)
  · exact .inl (.inl e)
  · rcases List.mem_or_eq_of_mem_set hx with hm | rfl
    · exact .inl (.inr ⟨x, hm, e⟩)
    · exact .inl (.inr ⟨_, List.getElem_mem hkQ, e⟩)
theorem rSyncR (w : World) (B g : Nat) (v : Value) (Q : List (Value × RF)) (M : RD) (nm : ByteArray) (h : DkAt w B g v Q M) (hn : M.n ≤ 1000000) (hq : Q.length ≤ 100000) (hr : Rise M.L) :
    Calls Try.prog 30 #[.pointer (some ⟨g, 0, none⟩), .string nm] w (RkRes w B g v Q (resM M (syncL nm M.L))) := by
  cases ho : offM M with
  | true => rw [resM_off ho]; exact rSync_9 w B g v Q M nm h hn ho
  | false =>
    cases hf : fnd nm M.L with
    | none =>
      rw [resM_on ho]
      unfold syncL
      rw [fnd_none hf]
      exact rSync_4 w B g v Q M nm h hn hq ho hf
    | some k =>
      rw [← sync_res hr]
      exact rSync_ok w B g v Q M nm k h hn hq ho hf
set_option maxHeartbeats 4000000 in
set_option maxRecDepth 100000 in
theorem rRename_9 (w : World) (B g : Nat) (v : Value) (Q : List (Value × RF)) (M : RD) (nm tn : ByteArray) (h : DkAt w B g v Q M) (hn : M.n ≤ 1000000) (ho : offM M = true) :
    Calls Try.prog 31 #[.pointer (some ⟨g, 0, none⟩), .string nm, .string tn] w (RkRes w B g v Q (9, M.op)) := by
  have cO := rOff w B g v Q M h hn
  rw [ho] at cO
  clear h
  go_enter Try.func31, Try.ntmps31
  go_wp2_with (go_at_call 48; (with_reducible refine cO.mono ?_))
  rintro e W1 ⟨rfl, h1, k1⟩
  have H1 := Lib.hid h1
  clear h1 cO
  go_wp2
  go_ret
  exact ⟨v, Q, rfl, H1.out, k1.mono (fun k _ e => .inl e), fun k e => .inl e⟩
set_option maxHeartbeats 4000000 in
set_option maxRecDepth 100000 in
theorem rRename_4 (w : World) (B g : Nat) (v : Value) (Q : List (Value × RF)) (M : RD) (nm tn : ByteArray) (h : DkAt w B g v Q M) (hn : M.n ≤ 1000000) (hq : Q.length ≤ 100000) (ho : offM M = false) (hf : fnd nm M.L = none) :
    Calls Try.prog 31 #[.pointer (some ⟨g, 0, none⟩), .string nm, .string tn] w (RkRes w B g v Q (4, M.op)) := by
  have cO := rOff w B g v Q M h hn
  rw [ho] at cO
  clear h
  go_enter Try.func31, Try.ntmps31
  go_wp2_with (go_at_call 48; (with_reducible refine cO.mono ?_))
  rintro e W1 ⟨rfl, h1, k1⟩
  have cF := rFind_no (nm := nm) h1 (by omega) hf
  have H1 := Lib.hid h1
  clear h1 cO
  go_wp2_with (go_at_call 50; (with_reducible refine cF.mono ?_))
  rintro e W2 ⟨rfl, q, rfl⟩
  go_wp2
  go_ret
  exact ⟨v, Q, rfl, H1.out.drewN q, (k1.mono (T := DkS g v) (fun k _ e => .inl e)).drewN q, fun k e => .inl e⟩
set_option maxHeartbeats 4000000 in
set_option maxRecDepth 100000 in
theorem rRename_bad (w : World) (B g : Nat) (v : Value) (Q : List (Value × RF)) (M : RD) (nm tn : ByteArray) (k : Nat) (h : DkAt w B g v Q M) (hn : M.n ≤ 1000000) (hq : Q.length ≤ 100000) (ho : offM M = false) (hf : fnd nm M.L = some k) (hb : badN tn = true) :
    Calls Try.prog 31 #[.pointer (some ⟨g, 0, none⟩), .string nm, .string tn] w (RkRes w B g v Q (1, M.op)) := by
  have cO := rOff w B g v Q M h hn
  rw [ho] at cO
  clear h
  go_enter Try.func31, Try.ntmps31
  go_wp2_with (go_at_call 48; (with_reducible refine cO.mono ?_))
  rintro e W1 ⟨rfl, h1, k1⟩
  have cF := rFind_yes (nm := nm) h1 (by omega) hf
  have H1 := Lib.hid h1
  clear h1 cO
  go_wp2_with (go_at_call 50; (with_reducible refine cF.mono ?_))
  rintro e W2' ⟨rfl, q, rfl⟩
  obtain ⟨W2, hW2⟩ : ∃ W, W = W1.drewN q := ⟨_, rfl⟩
  have h2 : DkAt W2 B g v Q M.op := by rw [hW2]; exact H1.out.drewN q
  have k2 : Kept (fun k => k = g) w W2 := by rw [hW2]; exact k1.drewN q
  rw [← hW2]
  clear hW2 H1 k1 cF
  have cB := rBad_any tn W2
  rw [hb] at cB
  have H2 := Lib.hid h2
  clear h2
  go_wp2_with (go_at_call 49; (with_reducible refine cB.mono ?_))
  rintro e W3 ⟨rfl, q3, rfl⟩
  go_wp2
  go_ret
  exact ⟨v, Q, rfl, H2.out.drewN q3, (k2.mono (T := DkS g v) (fun k _ e => .inl e)).drewN q3, fun k e => .inl e⟩
set_option maxHeartbeats 4000000 in
set_option maxRecDepth 100000 in
theorem rRename_same (w : World) (B g : Nat) (v : Value) (Q : List (Value × RF)) (M : RD) (nm tn : ByteArray) (k : Nat) (h : DkAt w B g v Q M) (hn : M.n ≤ 1000000) (hq : Q.length ≤ 100000) (ho : offM M = false) (hf : fnd nm M.L = some k) (hb : badN tn = false) (he : nm = tn) :
    Calls Try.prog 31 #[.pointer (some ⟨g, 0, none⟩), .string nm, .string tn] w (RkRes w B g v Q (0, M.op)) := by
  have cO := rOff w B g v Q M h hn
  rw [ho] at cO
  clear h
  have hq2 := txt_eq he
  clear he
  go_enter Try.func31, Try.ntmps31
  go_wp2_with (go_at_call 48; (with_reducible refine cO.mono ?_))
  rintro e W1 ⟨rfl, h1, k1⟩
  have cF := rFind_yes (nm := nm) h1 (by omega) hf
  have H1 := Lib.hid h1
  clear h1 cO
  go_wp2_with (go_at_call 50; (with_reducible refine cF.mono ?_))
  rintro e W2' ⟨rfl, q, rfl⟩
  obtain ⟨W2, hW2⟩ : ∃ W, W = W1.drewN q := ⟨_, rfl⟩
  have h2 : DkAt W2 B g v Q M.op := by rw [hW2]; exact H1.out.drewN q
  have k2 : Kept (fun k => k = g) w W2 := by rw [hW2]; exact k1.drewN q
  rw [← hW2]
  clear hW2 H1 k1 cF
  have cB := rBad_any tn W2
  rw [hb] at cB
  have H2 := Lib.hid h2
  clear h2
  go_wp2_with (go_at_call 49; (with_reducible refine cB.mono ?_))
  rintro e W3 ⟨rfl, q3, rfl⟩
  go_wp2
  go_ret
  exact ⟨v, Q, rfl, H2.out.drewN q3, (k2.mono (T := DkS g v) (fun k _ e => .inl e)).drewN q3, fun k e => .inl e⟩

def RwPost (w : World) (B g : Nat) (v : Value) (Q : List (Value × RF)) (M : RD) (k : Nat) (e : Ending) (w' : World) : Prop :=
  ∃ v', e = .returned (.tuple #[]) ∧ DkAt w' B g v' (Q.eraseIdx k) { M with L := M.L.eraseIdx k } ∧ Kept (DkS g v) w w' ∧ ∀ k, v'.ownBlock = some k → w.heap.size ≤ k
/-- Ahead of the new name. -/
structure RnTail (w X : World) (B g b : Nat) (v vX : Value) (Q QX : List (Value × RF)) (M : RD) (LX L : List RF) (pa : Option Addr) (pc : Nat) (pf : RF) (tn : ByteArray) : Prop where
  rowne : vX.ownBlock ≠ some b
  at_ : DkAt X B g vX QX { M.op with L := LX }
  var : X.heap[b]? = some (.cells #[.string pf.nm, .slice pa pf.b.length pc, .int .i64 pf.s] 88 (0, 0))
  new : w.heap.size ≤ b
  bs : X.ownsRow B 5 1 (.slice pa pf.b.length pc) pf.b.length (Lib.byteCells pf.b)
  kept : Kept (DkS g v) w X
  own : ∀ i, vX.ownBlock = some i → w.heap.size ≤ i
  sub : ∀ x ∈ QX, x ∈ Q
  mem : (Value.slice pa pf.b.length pc, pf) ∈ Q
  rise : Rise LX
  gone : getL tn LX = none
  fin : putL ⟨tn, pf.b, pf.s⟩ LX = L
  len : QX.length ≤ 100000
  low : B ≤ w.heap.size
def RnPost (w : World) (B g : Nat) (v : Value) (Q : List (Value × RF)) (M : RD) (L : List RF) (e : Ending) (w' : World) : Prop :=
  e = .returned (.tuple #[]) ∧ RkRes w B g v Q (0, { M.op with L := L }) (.returned (.int .i64 0)) w'
theorem RnTail.put {w X : World} {B g b : Nat} {v vX : Value} {Q QX : List (Value × RF)} {M : RD} {LX L : List RF} {pa : Option Addr} {pc : Nat} {pf : RF} {tn : ByteArray} (T : RnTail w X B g b v vX Q QX M LX L pa pc pf tn) :
    Calls Try.prog 51 #[.pointer (some ⟨g, 0, none⟩), .agg #[.string tn, .slice pa pf.b.length pc, .int .i64 pf.s]] (X.setCell ⟨b, 0, none⟩ (.string tn)) (RnPost w B g v Q M L) := by
  have hK : Kept (fun i => i = b) X (X.setCell ⟨b, 0, none⟩ (.string tn)) := (Kept.refl (fun i => i = b) X).setCell (p := ⟨b, 0, none⟩) (fun _ => rfl) _
  have hbne : ∀ (e : TypeId) (u : Value) (n k : Nat) (xs : List Value), X.ownsRow B e k u n xs → e ≠ 88 → u.ownBlock ≠ some b := fun e u n k xs ho he => own_ne T.var ho he
  have hB : B ≤ X.heap.size := Nat.le_trans T.low T.kept.size
  have hgb : g ≠ b := fun e => by
    have h1 := T.at_.2.2.1
    rw [e, T.var] at h1
    injection h1 with h1
    injection h1 with _ e2 _
    exact absurd e2 (by decide)
  have hvb : vX.ownBlock ≠ some b := T.rowne
  have hA : DkAt (X.setCell ⟨b, 0, none⟩ (.string tn)) B g vX QX { M.op with L := LX } := T.at_.kept hK (fun k hk e => by
    subst e
    rcases hk with e | e
    · exact hgb e.symm
    · exact hvb e) (fun q hq k hk e => by
    subst e
    exact hbne _ _ _ _ _ (T.at_.2.2.2.2 q hq) (by decide) hk)
  have hf := Kept.own T.bs hK (fun k hk e => by subst e; exact hbne _ _ _ _ _ T.bs (by decide) hk)
  have hsz := hK.size
  refine (rPut _ B g vX QX _ (.slice pa pf.b.length pc, ⟨tn, pf.b, pf.s⟩) hA hf T.len (by omega) T.rise T.gone).mono ?_
  rintro e w' ⟨v', Q', rfl, h1, h2, h3, h4⟩
  have hkk : Kept (DkS g v) w (X.setCell ⟨b, 0, none⟩ (.string tn)) := T.kept.trans hK (fun i hi e => by have := T.new; omega)
  refine ⟨rfl, v', Q', rfl, ?_, hkk.trans h2 (fun i hi e => ?_), ?_⟩
  · simp only at h1
    rw [T.fin] at h1
    exact h1
  · rcases e with e | e
    · exact .inl e
    · have := T.own i e; omega
  · rintro i (e | ⟨x, hx, e⟩)
    · rcases e with e | e
      · exact .inl (.inl (.inl e))
      · right
        rcases h4 i e with e | e
        · exact T.own i e
        · exact Nat.le_trans hkk.size e
    · rcases h3 x hx with rfl | hx
      · exact .inl (.inr ⟨_, T.mem, e⟩)
      · exact .inl (.inr ⟨x, T.sub x hx, e⟩)

set_option maxHeartbeats 4000000 in
set_option maxRecDepth 100000 in
theorem rRename_ok (w : World) (B g : Nat) (v : Value) (Q : List (Value × RF)) (M : RD) (nm tn : ByteArray) (k : Nat) (f : RF) (h : DkAt w B g v Q M) (hn : M.n ≤ 1000000) (hq : Q.length ≤ 100000) (hB : B ≤ w.heap.size) (hr : Rise M.L) (ho : offM M = false) (hf : fnd nm M.L = some k) (hg : getL nm M.L = some f) (hb : badN tn = false) (hne : nm ≠ tn) :
    Calls Try.prog 31 #[.pointer (some ⟨g, 0, none⟩), .string nm, .string tn] w (RkRes w B g v Q (0, { M.op with L := putL ⟨tn, f.b, f.s⟩ (delL nm M.L) })) := by
  have cO := rOff w B g v Q M h hn
  rw [ho] at cO
  have hq2 := txt_ne hne
  obtain ⟨hk, hn1, hg1⟩ := fnd_get hr hf
  have hkl : k < Q.length := by rw [h.rise]; exact hk
  have hfQ : (Q[k]'hkl).2 = f := by
    have h0 := h.2.1
    rw [hg] at hg1
    injection hg1 with hg1
    rw [hg1]
    have : (Q.map Prod.snd)[k]'(by rw [List.length_map]; exact hkl) = M.L[k]'hk := by simp only [h0]
    rw [← this, List.getElem_map]
  obtain ⟨gr, cp, hv, hBr⟩ := h.row (by intro e; rw [e] at hkl; simp at hkl)
  subst hv
  have hrise := h.rise
  clear h hg1
  go_enter Try.func31, Try.ntmps31
  go_wp2_with (go_at_call 48; (with_reducible refine cO.mono ?_))
  rintro e W1 ⟨rfl, h1, k1⟩
  have cF := rFind_yes (nm := nm) h1 (by omega) hf
  have H1 := Lib.hid h1
  clear h1 cO
  go_wp2_with (go_at_call 50; (with_reducible refine cF.mono ?_))
  rintro e W2' ⟨rfl, q, rfl⟩
  obtain ⟨W2, hW2⟩ : ∃ W, W = W1.drewN q := ⟨_, rfl⟩
  have h2 : DkAt W2 B g (.slice (some ⟨gr, 0, none⟩) Q.length cp) Q M.op := by rw [hW2]; exact H1.out.drewN q
  have k2 : Kept (fun k => k = g) w W2 := by rw [hW2]; exact k1.drewN q
  rw [← hW2]
  clear hW2 H1 k1 cF
  have cB := rBad_any tn W2
  rw [hb] at cB
  have H2 := Lib.hid h2
  clear h2
  go_wp2_with (go_at_call 49; (with_reducible refine cB.mono ?_))
  rintro e W3' ⟨rfl, q3, rfl⟩
  obtain ⟨W3, hW3⟩ : ∃ W, W = W2.drewN q3 := ⟨_, rfl⟩
  have h3 : DkAt W3 B g (.slice (some ⟨gr, 0, none⟩) Q.length cp) Q M.op := by rw [hW3]; exact H2.out.drewN q3
  have k3 : Kept (fun k => k = g) w W3 := by rw [hW3]; exact k2.drewN q3
  rw [← hW3]
  clear hW3 H2 k2 cB
  obtain ⟨_, d1, _, _⟩ := h3.cell
  obtain ⟨r0, r1, r2⟩ := h3.cells k hkl
  have hm0 := List.getElem_mem hkl
  have hbo := h3.2.2.2.2 _ hm0
  obtain ⟨p, hp⟩ : ∃ p, p = Q[k]'hkl := ⟨_, rfl⟩
  rw [← hp] at r0 r1 r2 hm0 hbo hfQ
  obtain ⟨pv, pf⟩ := p
  simp only at hfQ
  subst hfQ
  obtain ⟨pa, pc, hpv⟩ := own_slice hbo
  simp only at hpv
  subst hpv
  have H3 := Lib.hid h3
  have HP := Lib.hid hp
  clear h3 hp
  simp only at r0 r1 r2
  obtain ⟨W4, hW4⟩ : ∃ W, W = (W3.alloc (Obj.cells #[Value.string pf.nm, Value.slice pa pf.b.length pc, Value.int IntKind.i64 ↑pf.s] 88)) := ⟨_, rfl⟩
  have kA : Kept (fun _ => False) W3 W4 := by rw [hW4]; exact (Kept.refl _ _).alloc _
  have h4 := H3.out.kept kA (fun _ _ h => h) (fun _ _ _ _ h => h)
  have hb4 := Kept.own hbo kA (fun _ _ h => h)
  have hv4 : W4.heap[W3.heap.size]? = some (.cells #[.string pf.nm, .slice pa pf.b.length pc, .int .i64 pf.s] 88 (0, 0)) := by rw [hW4]; exact heap_alloc_new W3 _
  have hlt3 := H3.out.ltS
  have hs4 : W4.heap.size = W3.heap.size + 1 := by rw [hW4]; simp
  have cW : Calls Try.prog 52 #[.pointer (some ⟨g, 0, none⟩), .int .i64 k] (W3.alloc (Obj.cells #[Value.string pf.nm, Value.slice pa pf.b.length pc, Value.int IntKind.i64 ↑pf.s] 88)) (RwPost W4 B g (.slice (some ⟨gr, 0, none⟩) Q.length cp) Q M.op k) := by
    rw [← hW4]
    exact rWithout W4 B g _ Q M.op k h4 hkl hq (by have := k3.size; omega)
  have hdel := del_erase hr hf
  have HLT := Lib.hid hlt3
  have HB4 := Lib.hid hb4
  have HV4 := Lib.hid hv4
  have K4 := Lib.hid (k3.trans kA (fun _ _ h => h.elim))
  have HSZ := Lib.hid hs4
  have HDEL := Lib.hid hdel
  clear hlt3 hb4 hv4 kA h4 hs4 hW4 hdel
  go_wp2_with (go_at_call 52; (with_reducible refine cW.mono ?_))
  rintro e W5 ⟨v5, rfl, h5, k5, n5⟩
  rw [show M.op.L.eraseIdx k = delL nm M.L from HDEL.out.symm] at h5
  obtain ⟨QX, hQX⟩ : ∃ X, X = Q.eraseIdx k := ⟨_, rfl⟩
  have hsub : ∀ x ∈ QX, x ∈ Q := fun x hx => by rw [hQX] at hx; exact List.mem_of_mem_eraseIdx hx
  have hlen : QX.length ≤ 100000 := by rw [hQX]; have := List.length_eraseIdx_le Q k; omega
  rw [← hQX] at h5
  have hnb : ¬ DkS g (.slice (some ⟨gr, 0, none⟩) Q.length cp) W3.heap.size := fun e => by have := HLT.out _ e; omega
  have HV5 := Lib.hid ((k5.block W3.heap.size (by have := HSZ.out; omega) hnb).trans HV4.out)
  have HB5 := Lib.hid (Kept.own HB4.out k5 (fun i hi e => H3.out.apartB _ hm0 i hi e))
  have KX5 := Lib.hid ((K4.out.mono (T := DkS g (.slice (some ⟨gr, 0, none⟩) Q.length cp)) (fun _ _ e => .inl e)).trans k5 (fun _ _ e => e))
  have hw4 : w.heap.size ≤ W3.heap.size := k3.size
  have N5 := Lib.hid (fun i (e : v5.ownBlock = some i) => Nat.le_trans (show w.heap.size ≤ W4.heap.size by have := HSZ.out; omega) (n5 i e))
  have NE5 : Hid (v5.ownBlock ≠ some W3.heap.size) := fun e => by have := n5 _ e; have := HSZ.out; omega
  clear hQX k5 n5 cW HB4 HV4 K4 hnb
  cases hj : fnd tn (delL nm M.L) with
  | none =>
    have cF5 := rFind_no (nm := tn) h5 (by omega) hj
    have H5 := Lib.hid h5
    clear h5 d1 r0 r1 r2
    go_wp2_with (go_at_call 50; (with_reducible refine cF5.mono ?_))
    rintro e W6' ⟨rfl, q6, rfl⟩
    obtain ⟨W6, hW6⟩ : ∃ W, W = W5.drewN q6 := ⟨_, rfl⟩
    have H : Hid (DkAt W6 B g v5 QX { M.op with L := delL nm M.L }) := by show DkAt _ _ _ _ _ _; rw [hW6]; exact H5.out.drewN q6
    have HV : Hid (W6.heap[W3.heap.size]? = some (.cells #[.string pf.nm, .slice pa pf.b.length pc, .int .i64 pf.s] 88 (0, 0))) := by show _ = _; rw [hW6]; exact HV5.out
    have HB : Hid (W6.ownsRow B 5 1 (.slice pa pf.b.length pc) pf.b.length (Lib.byteCells pf.b)) := by
      show W6.ownsRow _ _ _ _ _ _
      rw [hW6]
      exact Kept.own HB5.out ((Kept.refl (fun _ => False) W5).drewN q6) (fun _ _ h => h)
    have KX : Hid (Kept (DkS g (.slice (some ⟨gr, 0, none⟩) Q.length cp)) w W6) := by show Kept _ _ _; rw [hW6]; exact KX5.out.drewN q6
    rw [← hW6]
    clear hW6 cF5
    have T : RnTail w W6 B g W3.heap.size (.slice (some ⟨gr, 0, none⟩) Q.length cp) v5 Q QX M (delL nm M.L) (putL ⟨tn, pf.b, pf.s⟩ (delL nm M.L)) pa pc pf tn := ⟨NE5.out, H.out, HV.out, k3.size, HB.out, KX.out, N5.out, hsub, hm0, (hr.del nm), (fnd_none hj), rfl, hlen, hB⟩
    have cP := T.put
    have e0 : W6.cell? ⟨W3.heap.size, 0, none⟩ = some (.string pf.nm) := by rw [cell_of_row _ _ _ _ _ _ HV.out]; rfl
    have e1 : W6.cell? ⟨W3.heap.size, 1, none⟩ = some (.slice pa pf.b.length pc) := by rw [cell_of_row _ _ _ _ _ _ HV.out]; rfl
    have e2 : W6.cell? ⟨W3.heap.size, 2, none⟩ = some (.int .i64 pf.s) := by rw [cell_of_row _ _ _ _ _ _ HV.out]; rfl
    have ff : W6.frozen? ⟨W3.heap.size, 0, none⟩ = false := frozen_of_row _ _ 0 _ _ HV.out
    clear T
    go_wp2_with (go_at_call 51; (with_reducible refine cP.mono ?_))
    rintro e W9 ⟨rfl, hR⟩
    go_wp2
    go_ret
    exact hR
  | some j =>
    have cF5 := rFind_yes (nm := tn) h5 (by omega) hj
    have hjl : j < QX.length := by
      obtain ⟨hj1, _⟩ := fnd_some hj
      rw [h5.rise]; exact hj1
    have hr5 : Rise (delL nm M.L) := hr.del nm
    have hdel2 := del_erase hr5 hj
    have HD2 := Lib.hid hdel2
    have H5 := Lib.hid h5
    clear h5 d1 r0 r1 r2 hdel2
    go_wp2_with (go_at_call 50; (with_reducible refine cF5.mono ?_))
    rintro e W6' ⟨rfl, q6, rfl⟩
    obtain ⟨W6, hW6⟩ : ∃ W, W = W5.drewN q6 := ⟨_, rfl⟩
    have h6 : DkAt W6 B g v5 QX { M.op with L := delL nm M.L } := by rw [hW6]; exact H5.out.drewN q6
    have HV6 : Hid (W6.heap[W3.heap.size]? = some (.cells #[.string pf.nm, .slice pa pf.b.length pc, .int .i64 pf.s] 88 (0, 0))) := by show _ = _; rw [hW6]; exact HV5.out
    have HB6 : Hid (W6.ownsRow B 5 1 (.slice pa pf.b.length pc) pf.b.length (Lib.byteCells pf.b)) := by
      show W6.ownsRow _ _ _ _ _ _
      rw [hW6]
      exact Kept.own HB5.out ((Kept.refl (fun _ => False) W5).drewN q6) (fun _ _ h => h)
    have KX6 : Hid (Kept (DkS g (.slice (some ⟨gr, 0, none⟩) Q.length cp)) w W6) := by show Kept _ _ _; rw [hW6]; exact KX5.out.drewN q6
    rw [← hW6]
    clear hW6 cF5 HV5 HB5 KX5
    have cW := rWithout W6 B g v5 QX _ j h6 hjl hlen (by have := KX6.out.size; omega)
    have HS6 := Lib.hid h6.2.2.1
    have HG6 := Lib.hid h6.apart
    have hbl : ∀ i, (Value.slice pa pf.b.length pc).ownBlock = some i → ¬ DkS g v5 i := fun i hi e => by
      have hx := own_lt HB6.out i hi
      rcases e with e | e
      · subst e; exact own_ne HS6.out HB6.out (by decide) hi
      · rcases h6.2.2.2.1.2 with ⟨hv, _⟩ | ⟨g2, cap2, cur2, hv2, _, hg2, _⟩
        · rw [hv] at e; cases e
        · have e3 : g2 = i := by rw [hv2] at e; injection e
          subst e3
          exact own_ne hg2 HB6.out (by decide) hi
    have HBL := Lib.hid hbl
    clear h6 hbl
    go_wp2_with (go_at_call 52; (with_reducible refine cW.mono ?_))
    rintro e W8 ⟨v8, rfl, h8, k8, n8⟩
    rw [show (delL nm M.L).eraseIdx j = delL tn (delL nm M.L) from HD2.out.symm] at h8
    obtain ⟨QY, hQY⟩ : ∃ X, X = QX.eraseIdx j := ⟨_, rfl⟩
    have hsubY : ∀ x ∈ QY, x ∈ Q := fun x hx => by rw [hQY] at hx; exact hsub x (List.mem_of_mem_eraseIdx hx)
    have hlenY : QY.length ≤ 100000 := by rw [hQY]; have := List.length_eraseIdx_le QX j; omega
    rw [← hQY] at h8
    have hs6 := KX6.out.size
    have hbw : W3.heap.size < W6.heap.size := lt_of_block HV6.out
    have hne6 : ¬ DkS g v5 W3.heap.size := fun e => by
      rcases e with e | e
      · have := HLT.out g (.inl rfl); omega
      · exact NE5.out e
    have HV := Lib.hid ((k8.block W3.heap.size hbw hne6).trans HV6.out)
    have HB := Lib.hid (Kept.own HB6.out k8 HBL.out)
    have KX := Lib.hid (KX6.out.trans k8 (fun i hi e => by
      rcases e with e | e
      · exact .inl e
      · have := N5.out i e; omega))
    have NE8 : Hid (v8.ownBlock ≠ some W3.heap.size) := fun e => by have := n8 _ e; omega
    have N8 := Lib.hid (fun i (e : v8.ownBlock = some i) => Nat.le_trans hs6 (n8 i e))
    have H := Lib.hid h8
    clear h8 k8 n8 hQY cW HBL HG6 HS6 hne6 hbw hs6 HV6 HB6 KX6
    have T : RnTail w W8 B g W3.heap.size (.slice (some ⟨gr, 0, none⟩) Q.length cp) v8 Q QY M (delL tn (delL nm M.L)) (putL ⟨tn, pf.b, pf.s⟩ (delL nm M.L)) pa pc pf tn := ⟨NE8.out, H.out, HV.out, k3.size, HB.out, KX.out, N8.out, hsubY, hm0, ((hr.del nm).del tn), (getL_gone tn _), (putL_gone ⟨tn, pf.b, pf.s⟩ _), hlenY, hB⟩
    have cP := T.put
    have e0 : W8.cell? ⟨W3.heap.size, 0, none⟩ = some (.string pf.nm) := by rw [cell_of_row _ _ _ _ _ _ HV.out]; rfl
    have e1 : W8.cell? ⟨W3.heap.size, 1, none⟩ = some (.slice pa pf.b.length pc) := by rw [cell_of_row _ _ _ _ _ _ HV.out]; rfl
    have e2 : W8.cell? ⟨W3.heap.size, 2, none⟩ = some (.int .i64 pf.s) := by rw [cell_of_row _ _ _ _ _ _ HV.out]; rfl
    have ff : W8.frozen? ⟨W3.heap.size, 0, none⟩ = false := frozen_of_row _ _ 0 _ _ HV.out
    clear T
    go_wp2_with (go_at_call 51; (with_reducible refine cP.mono ?_))
    rintro e W9 ⟨rfl, hR⟩
    go_wp2
    go_ret
    exact hR
theorem rRename (w : World) (B g : Nat) (v : Value) (Q : List (Value × RF)) (M : RD) (nm tn : ByteArray) (h : DkAt w B g v Q M) (hn : M.n ≤ 1000000) (hq : Q.length ≤ 100000) (hB : B ≤ w.heap.size) (hr : Rise M.L) :
    Calls Try.prog 31 #[.pointer (some ⟨g, 0, none⟩), .string nm, .string tn] w (RkRes w B g v Q (resM M (renL nm tn M.L))) := by
  cases ho : offM M with
  | true => rw [resM_off ho]; exact rRename_9 w B g v Q M nm tn h hn ho
  | false =>
    rw [resM_on ho]
    unfold renL
    cases hf : fnd nm M.L with
    | none =>
      rw [fnd_none hf]
      exact rRename_4 w B g v Q M nm tn h hn hq ho hf
    | some k =>
      obtain ⟨hk, _, hg⟩ := fnd_get hr hf
      rw [hg]
      cases hb : badN tn with
      | true => simp only [if_true]; exact rRename_bad w B g v Q M nm tn k h hn hq ho hf hb
      | false =>
        simp only [Bool.false_eq_true, if_false]
        by_cases he : nm = tn
        · rw [if_pos he]; exact rRename_same w B g v Q M nm tn k h hn hq ho hf hb he
        · rw [if_neg he]; exact rRename_ok w B g v Q M nm tn k _ h hn hq hB hr ho hf hg hb he

end Go.Proofs.Ytbolminblofhgaa
