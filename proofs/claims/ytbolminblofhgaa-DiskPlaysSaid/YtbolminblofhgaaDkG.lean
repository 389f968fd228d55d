/-
  The reference's put.
-/
import Derived.Test.YtbolminblofhgaaDkF
import Derived.WalkLawsBesides
import Derived.Outline
set_option linter.unusedVariables false
namespace Go.Proofs.Ytbolminblofhgaa
open Go.RowKit

/-- All blocks that a disk leads to. -/
def DkAll (g : Nat) (v : Value) (Q : List (Value × RF)) (k : Nat) : Prop := DkS g v k ∨ ∃ q ∈ Q, q.1.ownBlock = some k
def RPutPost (w : World) (B g : Nat) (v : Value) (Q : List (Value × RF)) (M : RD) (q : Value × RF) (e : Ending) (w' : World) : Prop :=
  ∃ v' Q', e = .returned (.tuple #[]) ∧ DkAt w' B g v' Q' { M with L := putL q.2 M.L } ∧ Kept (DkS g v) w w' ∧ (∀ x ∈ Q', x = q ∨ x ∈ Q) ∧ ∀ k, v'.ownBlock = some k → v.ownBlock = some k ∨ w.heap.size ≤ k

structure PutRel (w wr : World) (B g gg cap : Nat) (v : Value) (Q : List (Value × RF)) (M : RD) (q : Value × RF) (k : Nat) : Prop where
  at_ : DkAt wr B g (.slice (some ⟨gg, 0, none⟩) (Q.take k ++ q :: Q.drop k).length cap) (Q.take k ++ q :: Q.drop k) { M with L := (Q.take k ++ q :: Q.drop k).map Prod.snd }
  kept : Kept (fun i => DkS g v i ∨ i = gg) w wr
  gt : ∀ i (hi : i < Q.length), k ≤ i → bytesBefore (key q.2.nm) (key (Q[i]'hi).2.nm) = true
theorem less_before : ∀ a b : List UInt8, Op.bytesLess a b = bytesBefore a b
  | [], [] => rfl
  | [], _ :: _ => rfl
  | _ :: _, [] => rfl
  | x :: r, y :: s => by
    have ih := less_before r s
    simp [Op.bytesLess, bytesBefore, ih]
theorem less_key (a b : ByteArray) : Op.bytesLess a.toList b.toList = bytesBefore (key a) (key b) := by
  rw [less_before, ByteArray.toList_eq, ByteArray.toList_eq]; rfl
theorem put_end {w wr : World} {B g gg cap k : Nat} {v : Value} {Q : List (Value × RF)} {M : RD} {q : Value × RF} (h : PutRel w wr B g gg cap v Q M q k) (hk : k ≤ Q.length) (hQ : Q.map Prod.snd = M.L) (hr : Rise M.L) (hnn : getL q.2.nm M.L = none) (hc : ∀ h : 0 < k, bytesBefore (key q.2.nm) (key (Q[k - 1]'(by omega)).2.nm) = false) (hloc : v.ownBlock = some gg ∨ w.heap.size ≤ gg) (nq : Nat) :
    RPutPost w B g v Q M q (.returned (.tuple #[])) (wr.drewN nq) := by
  have hL : (Q.take k ++ q :: Q.drop k).map Prod.snd = putL q.2 M.L := by
    rw [← hQ] at hr hnn ⊢
    rw [put_bub hr q.2 k (by simpa using hk) hnn (fun i hi hki => by have := h.gt i (by simpa using hi) hki; simpa using this) (fun h0 => by have := hc h0; simpa using this)]
    simp [List.map_take, List.map_drop]
  have hA := h.at_
  rw [hL] at hA
  refine ⟨_, _, rfl, hA.drewN nq, (h.kept.drewN nq).mono (fun i hi e => ?_), fun x hx => ?_, fun i e => ?_⟩
  · rcases e with e | e
    · exact e
    · subst e
      rcases hloc with hl | hl
      · exact .inr hl
      · omega
  · rcases List.mem_append.1 hx with hx | hx
    · exact .inr (List.mem_of_mem_take hx)
    · rcases List.mem_cons.1 hx with hx | hx
      · exact .inl hx
      · exact .inr (List.mem_of_mem_drop hx)
  · have e2 : gg = i := by injection e
    subst e2
    exact hloc
theorem put_swap (Q : List (Value × RF)) (q : Value × RF) (k : Nat) (hk : k < Q.length) : ((Q.take (k + 1) ++ q :: Q.drop (k + 1)).set (k + 1) (Q[k]'hk)).set k q = Q.take k ++ q :: Q.drop k := by
  have h1 : Q.take (k + 1) = Q.take k ++ [Q[k]'hk] := List.take_succ_eq_append_getElem hk
  have h2 : Q.drop k = Q[k]'hk :: Q.drop (k + 1) := List.drop_eq_getElem_cons hk
  have hl : (Q.take k).length = k := by rw [List.length_take]; omega
  rw [h1, h2, List.append_assoc]
  rw [List.set_append_right _ _ (by omega), List.set_append_right _ _ (by omega), hl]
  simp
theorem DkAt.relist {w : World} {B g : Nat} {v : Value} {Q : List (Value × RF)} {M : RD} (h : DkAt w B g v Q M) : DkAt w B g v Q { M with L := Q.map Prod.snd } :=
  ⟨h.1, rfl, h.2.2.1, h.2.2.2.1, h.2.2.2.2⟩
theorem put_len (Q : List (Value × RF)) (q : Value × RF) (k : Nat) (hk : k ≤ Q.length) : (Q.take k ++ q :: Q.drop k).length = Q.length + 1 := by
  simp; omega

set_option maxHeartbeats 8000000 in
set_option maxRecDepth 100000 in
theorem rPut (w : World) (B g : Nat) (v : Value) (Q : List (Value × RF)) (M : RD) (q : Value × RF) (h : DkAt w B g v Q M) (hf : w.ownsRow B 5 1 q.1 q.2.b.length (Lib.byteCells q.2.b)) (hq : Q.length ≤ 100000) (hB : B ≤ w.heap.size) (hr : Rise M.L) (hnn : getL q.2.nm M.L = none) :
    Calls Try.prog 51 #[.pointer (some ⟨g, 0, none⟩), fV q] w (RPutPost w B g v Q M q) := by
  obtain ⟨i0, hi, hz0, hz1, hz2⟩ := info_parts infoFile
  obtain ⟨_, d1, _, _⟩ := h.cell
  have f1 := h.frozen 1
  have H := Lib.hid h
  obtain ⟨a, cp, rfl⟩ := own_slice h.2.2.2.1
  clear h
  unfold fV
  obtain ⟨qv, qf⟩ := q
  obtain ⟨ba, bc, hbv⟩ := own_slice hf
  simp only at hbv
  subst hbv
  go_enter Try.func51, Try.ntmps51
  go_wp2
  obtain ⟨W0, hW0⟩ : ∃ W, W = w.alloc (.cells #[.string qf.nm, .slice ba qf.b.length bc, .int .i64 qf.s] 88) := ⟨_, rfl⟩
  rw [← hW0]
  have K0 : Kept (fun _ => False) w W0 := by rw [hW0]; exact (Kept.refl _ w).alloc _
  have H0 := Lib.hid (H.out.kept K0 (fun _ _ h => h) (fun _ _ _ _ h => h))
  have hf0 := Kept.own hf K0 (fun _ _ h => h)
  have hp : W0.heap[w.heap.size]? = some (.cells #[.string qf.nm, .slice ba qf.b.length bc, .int .i64 qf.s] 88 (0, 0)) := by rw [hW0]; exact heap_alloc_new w _
  have hsz : W0.heap.size = w.heap.size + 1 := by rw [hW0]; simp
  have e0 : W0.cell? ⟨w.heap.size, 0, none⟩ = some (.string qf.nm) := by rw [cell_of_row _ _ _ _ _ _ hp]; rfl
  have e1 : W0.cell? ⟨w.heap.size, 1, none⟩ = some (.slice ba qf.b.length bc) := by rw [cell_of_row _ _ _ _ _ _ hp]; rfl
  have e2 : W0.cell? ⟨w.heap.size, 2, none⟩ = some (.int .i64 qf.s) := by rw [cell_of_row _ _ _ _ _ _ hp]; rfl
  obtain ⟨_, d1', _, _⟩ := H0.out.cell
  have f1' := H0.out.frozen 1
  have ho := H0.out.2.2.2.1
  have hg0 : g < W0.heap.size := H0.out.lt
  have hr1 : some g ≠ (Value.slice a Q.length cp).ownBlock := fun e => H.out.apart e.symm
  have hr2 : some w.heap.size ≠ (Value.slice a Q.length cp).ownBlock := fun e => by
    have := H.out.ltS w.heap.size (.inr e.symm)
    omega
  have HSZ := Lib.hid hsz
  have hB0 : B ≤ W0.heap.size := by omega
  clear d1 f1 hW0 hsz
  go_region_law (first |
    ((refine step_append_lies _ (by rfl) _ _ _ (by rfl) B 88 i0 (.agg #[.string ByteArray.empty, .slice none 0 0, .int .i64 0]) 3 48 Try.underlying63 hi hz0 hz1 hz2 (by rfl) (by omega) _ _ (rowOf fC Q) (by rfl) (by first | exact (ho.alloc _).drew | exact ho.drew.alloc _ | exact ho.alloc _) ⟨W0.heap.size, 0, none⟩ 1 1 _ (by rfl) (by rfl) (World.news_of_block (t := 88) (fr := (0, 0)) (heap_alloc_new W0 _)) (by simp [Value.oneCell']) (by omega) (by unfold maxLen; omega) (by omega) (by simp; omega) (W0.heap.size + 1) (by simp) ?_; intro gg cap3 w3 hown3 hgrow hat hlt; (first | (have d3 := grown_cell hgrow (alloc_cell d1' _) hr1) | skip); (first | (have f3 := grown_frozen hgrow (alloc_cell d1' _) (alloc_frozen d1' f1' _) hr1) | skip))))
  all_goals (
    have HA := H.out.appended (W0 := W0) (q := (.slice ba qf.b.length bc, qf)) (gg := gg) (cap := cap3) (w3 := w3) K0 (by first | exact ((Kept.refl _ W0).alloc _).drew | exact ((Kept.refl _ W0).drew).alloc _ | exact (Kept.refl _ W0).alloc _) hf hown3 hgrow (by
      rcases hat with e | e
      · exact .inl e
      · right; rw [e, HSZ.out]; omega)
    have hloc : (Value.slice a Q.length cp).ownBlock = some gg ∨ w.heap.size ≤ gg := by
      rcases hat with e | e
      · exact .inl e
      · right; rw [e, HSZ.out]; omega
    have hne : gg ≠ w.heap.size := fun e => by
      rcases hat with e2 | e2
      · rw [e] at e2; exact hr2 e2.symm
      · rw [e2, HSZ.out] at e; omega
    obtain ⟨W4, hW4⟩ : ∃ W, W = w3.setCell ⟨g, 1, none⟩ (.slice (some ⟨gg, 0, none⟩) (Q.length + 1) cap3) := ⟨_, rfl⟩
    have HR0 : PutRel w W4 B g gg cap3 (.slice a Q.length cp) Q M (.slice ba qf.b.length bc, qf) Q.length := by
      refine ⟨?_, by rw [hW4]; exact HA.2.mono (fun k _ e => .inl e), fun i hi h => by omega⟩
      have e1 := HA.1
      rw [← hW4] at e1
      rw [put_len _ _ _ (Nat.le_refl _), List.take_length, List.drop_length]
      rw [show (Q ++ [(Value.slice ba qf.b.length bc, qf)]).map Prod.snd = M.L ++ [qf] by rw [List.map_append, H.out.2.1]; rfl]
      exact e1
    rw [← hW4]
    obtain ⟨z0, z1, _, _⟩ := HR0.at_.cell
    rw [put_len _ _ _ (Nat.le_refl _)] at z1
    clear HA hown3 hgrow hat hlt d3 f3 hW4 hr1 hr2 ho hp e0 e1 e2 d1' f1' hg0)
  · go_wp2
    clear z0 z1
    go_loopw [4] (fun i wr => ∃ k : Nat, i = .int .i64 ((k : Nat) : Int) ∧ k ≤ Q.length ∧ PutRel w wr B g gg cap3 (.slice a Q.length cp) Q M (.slice ba qf.b.length bc, qf) k) (fun i _ => (intOf i).toNat)
    case atStart => exact ⟨Q.length, rfl, Nat.le_refl _, HR0⟩
    case round =>
      obtain ⟨k, rfl, hk, hR⟩ := hrel
      clear HR0
      have hln := put_len Q (.slice ba qf.b.length bc, qf) k hk
      obtain ⟨_, d1, _, _⟩ := hR.at_.cell
      rw [hln] at d1
      cases k with
      | zero =>
        have dd : decide ((0 : Int) < ((0 : Nat) : Int)) = false := by simp
        have HR := Lib.hid hR
        have HLN := Lib.hid hln
        clear hR hln
        go_wp2
        go_quiet (fail)
        go_wp2
        refine bodyPost_end (v := .tuple #[]) (by simp [results, Try.results51, go_sem]) rfl ?_
        exact put_end HR.out (Nat.zero_le _) H.out.2.1 hr hnn (fun h => absurd h (by omega)) hloc nq
      | succ k =>
        have hkl : k < Q.length := by omega
        have hc1 := hR.at_.cells (k + 1) (by rw [hln]; omega)
        have hc0 := hR.at_.cells k (by rw [hln]; omega)
        obtain ⟨p, hp⟩ : ∃ p, p = Q[k]'hkl := ⟨_, rfl⟩
        have g1 : (Q.take (k + 1) ++ (Value.slice ba qf.b.length bc, qf) :: Q.drop (k + 1))[k + 1]'(by rw [hln]; omega) = (Value.slice ba qf.b.length bc, qf) := by
          rw [List.getElem_append_right (by rw [List.length_take]; omega)]
          simp [List.length_take, show min (k + 1) Q.length = k + 1 by omega]
        have g0 : (Q.take (k + 1) ++ (Value.slice ba qf.b.length bc, qf) :: Q.drop (k + 1))[k]'(by rw [hln]; omega) = p := by
          rw [List.getElem_append_left (by simp; omega), List.getElem_take, hp]
        rw [g1] at hc1
        rw [g0] at hc0
        obtain ⟨x10, x11, x12⟩ := hc1
        obtain ⟨x00, x01, x02⟩ := hc0
        have dd : decide ((0 : Int) < ((k + 1 : Nat) : Int)) = true := by simp
        have hs : IntKind.i64.wrap ((k : Int) + 1 - 1) = (k : Int) := by rw [show (k : Int) + 1 - 1 = k by omega]; exact IntWalk.i64_in _ (by omega)
        have hi0 : (k : Int) < (Q.length : Int) + 1 := by omega
        have hi1 : (k : Int) + 1 < (Q.length : Int) + 1 := by omega
        have hi2 : (k : Int) < (Q.length : Int) := by omega
        have hi3 : (0 : Int) ≤ (k : Int) + 1 := by omega
        have hs3 : IntKind.i64.wrap (k : Int) = (k : Int) := IntWalk.i64_in _ (by omega)
        have hs2 : wrap64 ((k : Int) + 1 - 1) = (k : Int) := by rw [show (k : Int) + 1 - 1 = k by omega]; exact IntWalk.wrap64_in _ (by omega)
        have hbo := hR.at_.2.2.2.2 (Q[k]'hkl) (by
          refine List.mem_append_left _ ?_
          have : (Q.take (k + 1))[k]'(by rw [List.length_take]; omega) = Q[k]'hkl := List.getElem_take ..
          rw [← this]; exact List.getElem_mem _)
        rw [← hp] at hbo
        have hqo := hR.at_.2.2.2.2 (Value.slice ba qf.b.length bc, qf) (by simp)
        obtain ⟨pv, pf⟩ := p
        obtain ⟨pa, pc, hpv⟩ := own_slice hbo
        simp only at hpv
        subst hpv
        have HR := Lib.hid hR
        have HLN := Lib.hid hln
        have HP := Lib.hid hp
        have HBO := Lib.hid hbo
        have HQO := Lib.hid hqo
        clear hR hln hp g1 g0 hbo hqo
        cases hless : Op.bytesLess qf.nm.toList pf.nm.toList with
        | false =>
          go_wp2
          go_quiet (fail)
          go_wp2
          refine bodyPost_end (v := .tuple #[]) (by simp [results, Try.results51, go_sem]) rfl ?_
          exact put_end HR.out hk H.out.2.1 hr hnn (fun h => by rw [less_key] at hless; simp only [Nat.add_sub_cancel]; rw [← HP.out]; exact hless) hloc nq
        | true =>
          go_wp2
          go_quiet (fail)
          obtain ⟨W5, hW5⟩ : ∃ W, W = wr.drewN nq := ⟨_, rfl⟩
          rw [← hW5]
          have h5 : DkAt W5 B g (.slice (some ⟨gg, 0, none⟩) (Q.take (k + 1) ++ (Value.slice ba qf.b.length bc, qf) :: Q.drop (k + 1)).length cap3) (Q.take (k + 1) ++ (Value.slice ba qf.b.length bc, qf) :: Q.drop (k + 1)) { M with L := (Q.take (k + 1) ++ (Value.slice ba qf.b.length bc, qf) :: Q.drop (k + 1)).map Prod.snd } := by rw [hW5]; exact HR.out.at_.drewN nq
          have k5 := HR.out.kept.drewN nq
          rw [← hW5] at k5
          clear hW5 x10 x11 x12 x00 x01 x02 d1
          have g1 : (Q.take (k + 1) ++ (Value.slice ba qf.b.length bc, qf) :: Q.drop (k + 1))[k + 1]'(by rw [HLN.out]; omega) = (Value.slice ba qf.b.length bc, qf) := by
            rw [List.getElem_append_right (by rw [List.length_take]; omega)]
            simp [List.length_take, show min (k + 1) Q.length = k + 1 by omega]
          have g0 : (Q.take (k + 1) ++ (Value.slice ba qf.b.length bc, qf) :: Q.drop (k + 1))[k]'(by rw [HLN.out]; omega) = (Value.slice pa pf.b.length pc, pf) := by
            rw [List.getElem_append_left (by simp; omega), List.getElem_take, HP.out]
          have hc1 := h5.cells (k + 1) (by rw [HLN.out]; omega)
          rw [g1] at hc1
          obtain ⟨x10, x11, x12⟩ := hc1
          obtain ⟨_, d1, _, _⟩ := h5.cell
          rw [HLN.out] at d1
          have H5 := Lib.hid h5
          have K5 := Lib.hid k5
          have G0 := Lib.hid g0
          clear h5 k5 g1 g0
          go_wp2
          obtain ⟨W6, hW6⟩ : ∃ W, W = W5.alloc (.cells #[.string qf.nm, .slice ba qf.b.length bc, .int .i64 qf.s] 88) := ⟨_, rfl⟩
          rw [← hW6]
          have kA : Kept (fun _ => False) W5 W6 := by rw [hW6]; exact (Kept.refl _ _).alloc _
          have h6 := H5.out.kept kA (fun _ _ h => h) (fun _ _ _ _ h => h)
          have k6 := K5.out.trans kA (fun _ _ h => h.elim)
          have hv6 : W6.heap[W5.heap.size]? = some (.cells #[.string qf.nm, .slice ba qf.b.length bc, .int .i64 qf.s] 88 (0, 0)) := by rw [hW6]; exact heap_alloc_new W5 _
          have hz5 : w.heap.size ≤ W5.heap.size := K5.out.size
          have hgg5 : gg ≠ W5.heap.size := fun e => by
            have := (own_lt H5.out.2.2.2.1 gg rfl).2
            omega
          clear hW6 x10 x11 x12 d1 kA
          have hc1 := h6.cells (k + 1) (by rw [HLN.out]; omega)
          have hc0 := h6.cells k (by rw [HLN.out]; omega)
          rw [G0.out] at hc0
          obtain ⟨x10, x11, x12⟩ := hc1
          obtain ⟨x00, x01, x02⟩ := hc0
          obtain ⟨_, d1, _, _⟩ := h6.cell
          rw [HLN.out] at d1
          have f10 := h6.2.2.2.1.frozenAt ((k + 1) * 3)
          have f11 := h6.2.2.2.1.frozenAt ((k + 1) * 3 + 1)
          have f12 := h6.2.2.2.1.frozenAt ((k + 1) * 3 + 2)
          have H6 := Lib.hid h6
          have K6 := Lib.hid k6
          have HV6 := Lib.hid hv6
          clear h6 k6 hv6
          go_still_tail 14, (by kernel_rfl)
          change wpList _ _ _ _ _ W6.drew
          go_wp2
          obtain ⟨hE, hKE⟩ := H6.out.setE (k + 1) (by rw [HLN.out]; omega) (Value.slice pa pf.b.length pc, pf) (H6.out.2.2.2.2 (Value.slice pa pf.b.length pc, pf) (by rw [← G0.out]; exact List.getElem_mem _))
          obtain ⟨W7, hW7⟩ : ∃ W, W = (((W6.setCell ⟨gg, (k + 1) * 3, none⟩ (.string pf.nm)).setCell ⟨gg, (k + 1) * 3 + 1, none⟩ (.slice pa pf.b.length pc)).setCell ⟨gg, (k + 1) * 3 + 2, none⟩ (.int .i64 pf.s)).drew := ⟨_, rfl⟩
          rw [← hW7]
          have h7 := hE.drew
          have k7 := hKE.drew
          simp only at h7 k7
          rw [← hW7] at h7 k7
          have hlen7 : ((Q.take (k + 1) ++ (Value.slice ba qf.b.length bc, qf) :: Q.drop (k + 1)).set (k + 1) (Value.slice pa pf.b.length pc, pf)).length = Q.length + 1 := by rw [List.length_set]; exact HLN.out
          have hv7 := (k7.block W5.heap.size (lt_of_block HV6.out) (fun e => hgg5 e.symm)).trans HV6.out
          have y0 : W7.cell? ⟨W5.heap.size, 0, none⟩ = some (.string qf.nm) := by rw [cell_of_row _ _ _ _ _ _ hv7]; rfl
          have y1 : W7.cell? ⟨W5.heap.size, 1, none⟩ = some (.slice ba qf.b.length bc) := by rw [cell_of_row _ _ _ _ _ _ hv7]; rfl
          have y2 : W7.cell? ⟨W5.heap.size, 2, none⟩ = some (.int .i64 qf.s) := by rw [cell_of_row _ _ _ _ _ _ hv7]; rfl
          have hc0 := h7.cells k (by rw [hlen7]; omega)
          have g0' : ((Q.take (k + 1) ++ (Value.slice ba qf.b.length bc, qf) :: Q.drop (k + 1)).set (k + 1) (Value.slice pa pf.b.length pc, pf))[k]'(by rw [hlen7]; omega) = (Value.slice pa pf.b.length pc, pf) := by
            rw [List.getElem_set_ne (by omega)]; exact G0.out
          rw [g0'] at hc0
          clear x10 x11 x12 x00 x01 x02 d1 f10 f11 f12 hW7
          obtain ⟨x00, x01, x02⟩ := hc0
          obtain ⟨_, d1, _, _⟩ := h7.cell
          rw [hlen7] at d1
          have f10 := h7.2.2.2.1.frozenAt (k * 3)
          have f11 := h7.2.2.2.1.frozenAt (k * 3 + 1)
          have f12 := h7.2.2.2.1.frozenAt (k * 3 + 2)
          have hQO7 := Kept.own (H6.out.2.2.2.2 (Value.slice ba qf.b.length bc, qf) (by simp)) k7 (fun i hi e => by
            subst e
            have hrow := H6.out.2.2.2.1
            rcases hrow.2 with ⟨hv, _⟩ | ⟨g', cap', cur, hv, _, hg', _⟩
            · cases hv
            · injection hv with e1
              injection e1 with e1
              injection e1 with e1
              subst e1
              exact own_ne hg' (H6.out.2.2.2.2 (Value.slice ba qf.b.length bc, qf) (by simp)) (by decide) hi)
          have H7 := Lib.hid h7
          have K7 := Lib.hid k7
          have HQ7 := Lib.hid hQO7
          have HL7 := Lib.hid hlen7
          clear h7 k7 hv7 hE hKE hQO7 hlen7 g0'
          go_still_tail 8, (by kernel_rfl)
          change wpList _ _ _ _ _ W7.drew
          go_wp2
          go_roundw
          case rel =>
            obtain ⟨hE, hKE⟩ := H7.out.setE k (by rw [HL7.out]; omega) (Value.slice ba qf.b.length bc, qf) HQ7.out
            have hsw : ((Q.take (k + 1) ++ (Value.slice ba qf.b.length bc, qf) :: Q.drop (k + 1)).set (k + 1) (Value.slice pa pf.b.length pc, pf)).set k (Value.slice ba qf.b.length bc, qf) = Q.take k ++ (Value.slice ba qf.b.length bc, qf) :: Q.drop k := by
              have := put_swap Q (Value.slice ba qf.b.length bc, qf) k hkl
              rw [← HP.out] at this
              exact this
            have hE2 := hE.drew
            rw [hsw] at hE2
            refine ⟨k, rfl, by omega, hE2.relist, (K6.out.trans (K7.out.trans hKE.drew (fun _ _ h => h)) (fun i _ e => .inr e)), fun i hi hki => ?_⟩
            rcases Nat.lt_or_ge k i with hlt | hge
            · exact HR.out.gt i hi (by omega)
            · obtain rfl : i = k := by omega
              rw [less_key] at hless
              rw [← HP.out]
              exact hless
          case measure => simp [intOf]
  · go_wp2
    clear z0 z1
    go_loopw [4] (fun i wr => ∃ k : Nat, i = .int .i64 ((k : Nat) : Int) ∧ k ≤ Q.length ∧ PutRel w wr B g gg cap3 (.slice a Q.length cp) Q M (.slice ba qf.b.length bc, qf) k) (fun i _ => (intOf i).toNat)
    case atStart => exact ⟨Q.length, rfl, Nat.le_refl _, HR0⟩
    case round =>
      obtain ⟨k, rfl, hk, hR⟩ := hrel
      clear HR0
      have hln := put_len Q (.slice ba qf.b.length bc, qf) k hk
      obtain ⟨_, d1, _, _⟩ := hR.at_.cell
      rw [hln] at d1
      cases k with
      | zero =>
        have dd : decide ((0 : Int) < ((0 : Nat) : Int)) = false := by simp
        have HR := Lib.hid hR
        have HLN := Lib.hid hln
        clear hR hln
        go_wp2
        go_quiet (fail)
        go_wp2
        refine bodyPost_end (v := .tuple #[]) (by simp [results, Try.results51, go_sem]) rfl ?_
        exact put_end HR.out (Nat.zero_le _) H.out.2.1 hr hnn (fun h => absurd h (by omega)) hloc nq
      | succ k =>
        have hkl : k < Q.length := by omega
        have hc1 := hR.at_.cells (k + 1) (by rw [hln]; omega)
        have hc0 := hR.at_.cells k (by rw [hln]; omega)
        obtain ⟨p, hp⟩ : ∃ p, p = Q[k]'hkl := ⟨_, rfl⟩
        have g1 : (Q.take (k + 1) ++ (Value.slice ba qf.b.length bc, qf) :: Q.drop (k + 1))[k + 1]'(by rw [hln]; omega) = (Value.slice ba qf.b.length bc, qf) := by
          rw [List.getElem_append_right (by rw [List.length_take]; omega)]
          simp [List.length_take, show min (k + 1) Q.length = k + 1 by omega]
        have g0 : (Q.take (k + 1) ++ (Value.slice ba qf.b.length bc, qf) :: Q.drop (k + 1))[k]'(by rw [hln]; omega) = p := by
          rw [List.getElem_append_left (by simp; omega), List.getElem_take, hp]
        rw [g1] at hc1
        rw [g0] at hc0
        obtain ⟨x10, x11, x12⟩ := hc1
        obtain ⟨x00, x01, x02⟩ := hc0
        have dd : decide ((0 : Int) < ((k + 1 : Nat) : Int)) = true := by simp
        have hs : IntKind.i64.wrap ((k : Int) + 1 - 1) = (k : Int) := by rw [show (k : Int) + 1 - 1 = k by omega]; exact IntWalk.i64_in _ (by omega)
        have hi0 : (k : Int) < (Q.length : Int) + 1 := by omega
        have hi1 : (k : Int) + 1 < (Q.length : Int) + 1 := by omega
        have hi2 : (k : Int) < (Q.length : Int) := by omega
        have hi3 : (0 : Int) ≤ (k : Int) + 1 := by omega
        have hs3 : IntKind.i64.wrap (k : Int) = (k : Int) := IntWalk.i64_in _ (by omega)
        have hs2 : wrap64 ((k : Int) + 1 - 1) = (k : Int) := by rw [show (k : Int) + 1 - 1 = k by omega]; exact IntWalk.wrap64_in _ (by omega)
        have hbo := hR.at_.2.2.2.2 (Q[k]'hkl) (by
          refine List.mem_append_left _ ?_
          have : (Q.take (k + 1))[k]'(by rw [List.length_take]; omega) = Q[k]'hkl := List.getElem_take ..
          rw [← this]; exact List.getElem_mem _)
        rw [← hp] at hbo
        have hqo := hR.at_.2.2.2.2 (Value.slice ba qf.b.length bc, qf) (by simp)
        obtain ⟨pv, pf⟩ := p
        obtain ⟨pa, pc, hpv⟩ := own_slice hbo
        simp only at hpv
        subst hpv
        have HR := Lib.hid hR
        have HLN := Lib.hid hln
        have HP := Lib.hid hp
        have HBO := Lib.hid hbo
        have HQO := Lib.hid hqo
        clear hR hln hp g1 g0 hbo hqo
        cases hless : Op.bytesLess qf.nm.toList pf.nm.toList with
        | false =>
          go_wp2
          go_quiet (fail)
          go_wp2
          refine bodyPost_end (v := .tuple #[]) (by simp [results, Try.results51, go_sem]) rfl ?_
          exact put_end HR.out hk H.out.2.1 hr hnn (fun h => by rw [less_key] at hless; simp only [Nat.add_sub_cancel]; rw [← HP.out]; exact hless) hloc nq
        | true =>
          go_wp2
          go_quiet (fail)
          obtain ⟨W5, hW5⟩ : ∃ W, W = wr.drewN nq := ⟨_, rfl⟩
          rw [← hW5]
          have h5 : DkAt W5 B g (.slice (some ⟨gg, 0, none⟩) (Q.take (k + 1) ++ (Value.slice ba qf.b.length bc, qf) :: Q.drop (k + 1)).length cap3) (Q.take (k + 1) ++ (Value.slice ba qf.b.length bc, qf) :: Q.drop (k + 1)) { M with L := (Q.take (k + 1) ++ (Value.slice ba qf.b.length bc, qf) :: Q.drop (k + 1)).map Prod.snd } := by rw [hW5]; exact HR.out.at_.drewN nq
          have k5 := HR.out.kept.drewN nq
          rw [← hW5] at k5
          clear hW5 x10 x11 x12 x00 x01 x02 d1
          have g1 : (Q.take (k + 1) ++ (Value.slice ba qf.b.length bc, qf) :: Q.drop (k + 1))[k + 1]'(by rw [HLN.out]; omega) = (Value.slice ba qf.b.length bc, qf) := by
            rw [List.getElem_append_right (by rw [List.length_take]; omega)]
            simp [List.length_take, show min (k + 1) Q.length = k + 1 by omega]
          have g0 : (Q.take (k + 1) ++ (Value.slice ba qf.b.length bc, qf) :: Q.drop (k + 1))[k]'(by rw [HLN.out]; omega) = (Value.slice pa pf.b.length pc, pf) := by
            rw [List.getElem_append_left (by simp; omega), List.getElem_take, HP.out]
          have hc1 := h5.cells (k + 1) (by rw [HLN.out]; omega)
          rw [g1] at hc1
          obtain ⟨x10, x11, x12⟩ := hc1
          obtain ⟨_, d1, _, _⟩ := h5.cell
          rw [HLN.out] at d1
          have H5 := Lib.hid h5
          have K5 := Lib.hid k5
          have G0 := Lib.hid g0
          clear h5 k5 g1 g0
          go_wp2
          obtain ⟨W6, hW6⟩ : ∃ W, W = W5.alloc (.cells #[.string qf.nm, .slice ba qf.b.length bc, .int .i64 qf.s] 88) := ⟨_, rfl⟩
          rw [← hW6]
          have kA : Kept (fun _ => False) W5 W6 := by rw [hW6]; exact (Kept.refl _ _).alloc _
          have h6 := H5.out.kept kA (fun _ _ h => h) (fun _ _ _ _ h => h)
          have k6 := K5.out.trans kA (fun _ _ h => h.elim)
          have hv6 : W6.heap[W5.heap.size]? = some (.cells #[.string qf.nm, .slice ba qf.b.length bc, .int .i64 qf.s] 88 (0, 0)) := by rw [hW6]; exact heap_alloc_new W5 _
          have hz5 : w.heap.size ≤ W5.heap.size := K5.out.size
          have hgg5 : gg ≠ W5.heap.size := fun e => by
            have := (own_lt H5.out.2.2.2.1 gg rfl).2
            omega
          clear hW6 x10 x11 x12 d1 kA
          have hc1 := h6.cells (k + 1) (by rw [HLN.out]; omega)
          have hc0 := h6.cells k (by rw [HLN.out]; omega)
          rw [G0.out] at hc0
          obtain ⟨x10, x11, x12⟩ := hc1
          obtain ⟨x00, x01, x02⟩ := hc0
          obtain ⟨_, d1, _, _⟩ := h6.cell
          rw [HLN.out] at d1
          have f10 := h6.2.2.2.1.frozenAt ((k + 1) * 3)
          have f11 := h6.2.2.2.1.frozenAt ((k + 1) * 3 + 1)
          have f12 := h6.2.2.2.1.frozenAt ((k + 1) * 3 + 2)
          have H6 := Lib.hid h6
          have K6 := Lib.hid k6
          have HV6 := Lib.hid hv6
          clear h6 k6 hv6
          go_still_tail 14, (by kernel_rfl)
          change wpList _ _ _ _ _ W6.drew
          go_wp2
          obtain ⟨hE, hKE⟩ := H6.out.setE (k + 1) (by rw [HLN.out]; omega) (Value.slice pa pf.b.length pc, pf) (H6.out.2.2.2.2 (Value.slice pa pf.b.length pc, pf) (by rw [← G0.out]; exact List.getElem_mem _))
          obtain ⟨W7, hW7⟩ : ∃ W, W = (((W6.setCell ⟨gg, (k + 1) * 3, none⟩ (.string pf.nm)).setCell ⟨gg, (k + 1) * 3 + 1, none⟩ (.slice pa pf.b.length pc)).setCell ⟨gg, (k + 1) * 3 + 2, none⟩ (.int .i64 pf.s)).drew := ⟨_, rfl⟩
          rw [← hW7]
          have h7 := hE.drew
          have k7 := hKE.drew
          simp only at h7 k7
          rw [← hW7] at h7 k7
          have hlen7 : ((Q.take (k + 1) ++ (Value.slice ba qf.b.length bc, qf) :: Q.drop (k + 1)).set (k + 1) (Value.slice pa pf.b.length pc, pf)).length = Q.length + 1 := by rw [List.length_set]; exact HLN.out
          have hv7 := (k7.block W5.heap.size (lt_of_block HV6.out) (fun e => hgg5 e.symm)).trans HV6.out
          have y0 : W7.cell? ⟨W5.heap.size, 0, none⟩ = some (.string qf.nm) := by rw [cell_of_row _ _ _ _ _ _ hv7]; rfl
          have y1 : W7.cell? ⟨W5.heap.size, 1, none⟩ = some (.slice ba qf.b.length bc) := by rw [cell_of_row _ _ _ _ _ _ hv7]; rfl
          have y2 : W7.cell? ⟨W5.heap.size, 2, none⟩ = some (.int .i64 qf.s) := by rw [cell_of_row _ _ _ _ _ _ hv7]; rfl
          have hc0 := h7.cells k (by rw [hlen7]; omega)
          have g0' : ((Q.take (k + 1) ++ (Value.slice ba qf.b.length bc, qf) :: Q.drop (k + 1)).set (k + 1) (Value.slice pa pf.b.length pc, pf))[k]'(by rw [hlen7]; omega) = (Value.slice pa pf.b.length pc, pf) := by
            rw [List.getElem_set_ne (by omega)]; exact G0.out
          rw [g0'] at hc0
          clear x10 x11 x12 x00 x01 x02 d1 f10 f11 f12 hW7
          obtain ⟨x00, x01, x02⟩ := hc0
          obtain ⟨_, d1, _, _⟩ := h7.cell
          rw [hlen7] at d1
          have f10 := h7.2.2.2.1.frozenAt (k * 3)
          have f11 := h7.2.2.2.1.frozenAt (k * 3 + 1)
          have f12 := h7.2.2.2.1.frozenAt (k * 3 + 2)
          have hQO7 := Kept.own (H6.out.2.2.2.2 (Value.slice ba qf.b.length bc, qf) (by simp)) k7 (fun i hi e => by
            subst e
            have hrow := H6.out.2.2.2.1
            rcases hrow.2 with ⟨hv, _⟩ | ⟨g', cap', cur, hv, _, hg', _⟩
            · cases hv
            · injection hv with e1
              injection e1 with e1
              injection e1 with e1
              subst e1
              exact own_ne hg' (H6.out.2.2.2.2 (Value.slice ba qf.b.length bc, qf) (by simp)) (by decide) hi)
          have H7 := Lib.hid h7
          have K7 := Lib.hid k7
          have HQ7 := Lib.hid hQO7
          have HL7 := Lib.hid hlen7
          clear h7 k7 hv7 hE hKE hQO7 hlen7 g0'
          go_still_tail 8, (by kernel_rfl)
          change wpList _ _ _ _ _ W7.drew
          go_wp2
          go_roundw
          case rel =>
            obtain ⟨hE, hKE⟩ := H7.out.setE k (by rw [HL7.out]; omega) (Value.slice ba qf.b.length bc, qf) HQ7.out
            have hsw : ((Q.take (k + 1) ++ (Value.slice ba qf.b.length bc, qf) :: Q.drop (k + 1)).set (k + 1) (Value.slice pa pf.b.length pc, pf)).set k (Value.slice ba qf.b.length bc, qf) = Q.take k ++ (Value.slice ba qf.b.length bc, qf) :: Q.drop k := by
              have := put_swap Q (Value.slice ba qf.b.length bc, qf) k hkl
              rw [← HP.out] at this
              exact this
            have hE2 := hE.drew
            rw [hsw] at hE2
            refine ⟨k, rfl, by omega, hE2.relist, (K6.out.trans (K7.out.trans hKE.drew (fun _ _ h => h)) (fun i _ e => .inr e)), fun i hi hki => ?_⟩
            rcases Nat.lt_or_ge k i with hlt | hge
            · exact HR.out.gt i hi (by omega)
            · obtain rfl : i = k := by omega
              rw [less_key] at hless
              rw [← HP.out]
              exact hless
          case measure => simp [intOf]
  · go_wp2
    clear z0 z1
    go_loopw [4] (fun i wr => ∃ k : Nat, i = .int .i64 ((k : Nat) : Int) ∧ k ≤ Q.length ∧ PutRel w wr B g gg cap3 (.slice a Q.length cp) Q M (.slice ba qf.b.length bc, qf) k) (fun i _ => (intOf i).toNat)
    case atStart => exact ⟨Q.length, rfl, Nat.le_refl _, HR0⟩
    case round =>
      obtain ⟨k, rfl, hk, hR⟩ := hrel
      clear HR0
      have hln := put_len Q (.slice ba qf.b.length bc, qf) k hk
      obtain ⟨_, d1, _, _⟩ := hR.at_.cell
      rw [hln] at d1
      cases k with
      | zero =>
        have dd : decide ((0 : Int) < ((0 : Nat) : Int)) = false := by simp
        have HR := Lib.hid hR
        have HLN := Lib.hid hln
        clear hR hln
        go_wp2
        go_quiet (fail)
        go_wp2
        refine bodyPost_end (v := .tuple #[]) (by simp [results, Try.results51, go_sem]) rfl ?_
        exact put_end HR.out (Nat.zero_le _) H.out.2.1 hr hnn (fun h => absurd h (by omega)) hloc nq
      | succ k =>
        have hkl : k < Q.length := by omega
        have hc1 := hR.at_.cells (k + 1) (by rw [hln]; omega)
        have hc0 := hR.at_.cells k (by rw [hln]; omega)
        obtain ⟨p, hp⟩ : ∃ p, p = Q[k]'hkl := ⟨_, rfl⟩
        have g1 : (Q.take (k + 1) ++ (Value.slice ba qf.b.length bc, qf) :: Q.drop (k + 1))[k + 1]'(by rw [hln]; omega) = (Value.slice ba qf.b.length bc, qf) := by
          rw [List.getElem_append_right (by rw [List.length_take]; omega)]
          simp [List.length_take, show min (k + 1) Q.length = k + 1 by omega]
        have g0 : (Q.take (k + 1) ++ (Value.slice ba qf.b.length bc, qf) :: Q.drop (k + 1))[k]'(by rw [hln]; omega) = p := by
          rw [List.getElem_append_left (by simp; omega), List.getElem_take, hp]
        rw [g1] at hc1
        rw [g0] at hc0
        obtain ⟨x10, x11, x12⟩ := hc1
        obtain ⟨x00, x01, x02⟩ := hc0
        have dd : decide ((0 : Int) < ((k + 1 : Nat) : Int)) = true := by simp
        have hs : IntKind.i64.wrap ((k : Int) + 1 - 1) = (k : Int) := by rw [show (k : Int) + 1 - 1 = k by omega]; exact IntWalk.i64_in _ (by omega)
        have hi0 : (k : Int) < (Q.length : Int) + 1 := by omega
        have hi1 : (k : Int) + 1 < (Q.length : Int) + 1 := by omega
        have hi2 : (k : Int) < (Q.length : Int) := by omega
        have hi3 : (0 : Int) ≤ (k : Int) + 1 := by omega
        have hs3 : IntKind.i64.wrap (k : Int) = (k : Int) := IntWalk.i64_in _ (by omega)
        have hs2 : wrap64 ((k : Int) + 1 - 1) = (k : Int) := by rw [show (k : Int) + 1 - 1 = k by omega]; exact IntWalk.wrap64_in _ (by omega)
        have hbo := hR.at_.2.2.2.2 (Q[k]'hkl) (by
          refine List.mem_append_left _ ?_
          have : (Q.take (k + 1))[k]'(by rw [List.length_take]; omega) = Q[k]'hkl := List.getElem_take ..
          rw [← this]; exact List.getElem_mem _)
        rw [← hp] at hbo
        have hqo := hR.at_.2.2.2.2 (Value.slice ba qf.b.length bc, qf) (by simp)
        obtain ⟨pv, pf⟩ := p
        obtain ⟨pa, pc, hpv⟩ := own_slice hbo
        simp only at hpv
        subst hpv
        have HR := Lib.hid hR
        have HLN := Lib.hid hln
        have HP := Lib.hid hp
        have HBO := Lib.hid hbo
        have HQO := Lib.hid hqo
        clear hR hln hp g1 g0 hbo hqo
        cases hless : Op.bytesLess qf.nm.toList pf.nm.toList with
        | false =>
          go_wp2
          go_quiet (fail)
          go_wp2
          refine bodyPost_end (v := .tuple #[]) (by simp [results, Try.results51, go_sem]) rfl ?_
          exact put_end HR.out hk H.out.2.1 hr hnn (fun h => by rw [less_key] at hless; simp only [Nat.add_sub_cancel]; rw [← HP.out]; exact hless) hloc nq
        | true =>
          go_wp2
          go_quiet (fail)
          obtain ⟨W5, hW5⟩ : ∃ W, W = wr.drewN nq := ⟨_, rfl⟩
          rw [← hW5]
          have h5 : DkAt W5 B g (.slice (some ⟨gg, 0, none⟩) (Q.take (k + 1) ++ (Value.slice ba qf.b.length bc, qf) :: Q.drop (k + 1)).length cap3) (Q.take (k + 1) ++ (Value.slice ba qf.b.length bc, qf) :: Q.drop (k + 1)) { M with L := (Q.take (k + 1) ++ (Value.slice ba qf.b.length bc, qf) :: Q.drop (k + 1)).map Prod.snd } := by rw [hW5]; exact HR.out.at_.drewN nq
          have k5 := HR.out.kept.drewN nq
          rw [← hW5] at k5
          clear hW5 x10 x11 x12 x00 x01 x02 d1
          have g1 : (Q.take (k + 1) ++ (Value.slice ba qf.b.length bc, qf) :: Q.drop (k + 1))[k + 1]'(by rw [HLN.out]; omega) = (Value.slice ba qf.b.length bc, qf) := by
            rw [List.getElem_append_right (by rw [List.length_take]; omega)]
            simp [List.length_take, show min (k + 1) Q.length = k + 1 by omega]
          have g0 : (Q.take (k + 1) ++ (Value.slice ba qf.b.length bc, qf) :: Q.drop (k + 1))[k]'(by rw [HLN.out]; omega) = (Value.slice pa pf.b.length pc, pf) := by
            rw [List.getElem_append_left (by simp; omega), List.getElem_take, HP.out]
          have hc1 := h5.cells (k + 1) (by rw [HLN.out]; omega)
          rw [g1] at hc1
          obtain ⟨x10, x11, x12⟩ := hc1
          obtain ⟨_, d1, _, _⟩ := h5.cell
          rw [HLN.out] at d1
          have H5 := Lib.hid h5
          have K5 := Lib.hid k5
          have G0 := Lib.hid g0
          clear h5 k5 g1 g0
          go_wp2
          obtain ⟨W6, hW6⟩ : ∃ W, W = W5.alloc (.cells #[.string qf.nm, .slice ba qf.b.length bc, .int .i64 qf.s] 88) := ⟨_, rfl⟩
          rw [← hW6]
          have kA : Kept (fun _ => False) W5 W6 := by rw [hW6]; exact (Kept.refl _ _).alloc _
          have h6 := H5.out.kept kA (fun _ _ h => h) (fun _ _ _ _ h => h)
          have k6 := K5.out.trans kA (fun _ _ h => h.elim)
          have hv6 : W6.heap[W5.heap.size]? = some (.cells #[.string qf.nm, .slice ba qf.b.length bc, .int .i64 qf.s] 88 (0, 0)) := by rw [hW6]; exact heap_alloc_new W5 _
          have hz5 : w.heap.size ≤ W5.heap.size := K5.out.size
          have hgg5 : gg ≠ W5.heap.size := fun e => by
            have := (own_lt H5.out.2.2.2.1 gg rfl).2
            omega
          clear hW6 x10 x11 x12 d1 kA
          have hc1 := h6.cells (k + 1) (by rw [HLN.out]; omega)
          have hc0 := h6.cells k (by rw [HLN.out]; omega)
          rw [G0.out] at hc0
          obtain ⟨x10, x11, x12⟩ := hc1
          obtain ⟨x00, x01, x02⟩ := hc0
          obtain ⟨_, d1, _, _⟩ := h6.cell
          rw [HLN.out] at d1
          have f10 := h6.2.2.2.1.frozenAt ((k + 1) * 3)
          have f11 := h6.2.2.2.1.frozenAt ((k + 1) * 3 + 1)
          have f12 := h6.2.2.2.1.frozenAt ((k + 1) * 3 + 2)
          have H6 := Lib.hid h6
          have K6 := Lib.hid k6
          have HV6 := Lib.hid hv6
          clear h6 k6 hv6
          go_still_tail 14, (by kernel_rfl)
          change wpList _ _ _ _ _ W6.drew
          go_wp2
          obtain ⟨hE, hKE⟩ := H6.out.setE (k + 1) (by rw [HLN.out]; omega) (Value.slice pa pf.b.length pc, pf) (H6.out.2.2.2.2 (Value.slice pa pf.b.length pc, pf) (by rw [← G0.out]; exact List.getElem_mem _))
          obtain ⟨W7, hW7⟩ : ∃ W, W = (((W6.setCell ⟨gg, (k + 1) * 3, none⟩ (.string pf.nm)).setCell ⟨gg, (k + 1) * 3 + 1, none⟩ (.slice pa pf.b.length pc)).setCell ⟨gg, (k + 1) * 3 + 2, none⟩ (.int .i64 pf.s)).drew := ⟨_, rfl⟩
          rw [← hW7]
          have h7 := hE.drew
          have k7 := hKE.drew
          simp only at h7 k7
          rw [← hW7] at h7 k7
          have hlen7 : ((Q.take (k + 1) ++ (Value.slice ba qf.b.length bc, qf) :: Q.drop (k + 1)).set (k + 1) (Value.slice pa pf.b.length pc, pf)).length = Q.length + 1 := by rw [List.length_set]; exact HLN.out
          have hv7 := (k7.block W5.heap.size (lt_of_block HV6.out) (fun e => hgg5 e.symm)).trans HV6.out
          have y0 : W7.cell? ⟨W5.heap.size, 0, none⟩ = some (.string qf.nm) := by rw [cell_of_row _ _ _ _ _ _ hv7]; rfl
          have y1 : W7.cell? ⟨W5.heap.size, 1, none⟩ = some (.slice ba qf.b.length bc) := by rw [cell_of_row _ _ _ _ _ _ hv7]; rfl
          have y2 : W7.cell? ⟨W5.heap.size, 2, none⟩ = some (.int .i64 qf.s) := by rw [cell_of_row _ _ _ _ _ _ hv7]; rfl
          have hc0 := h7.cells k (by rw [hlen7]; omega)
          have g0' : ((Q.take (k + 1) ++ (Value.slice ba qf.b.length bc, qf) :: Q.drop (k + 1)).set (k + 1) (Value.slice pa pf.b.length pc, pf))[k]'(by rw [hlen7]; omega) = (Value.slice pa pf.b.length pc, pf) := by
            rw [List.getElem_set_ne (by omega)]; exact G0.out
          rw [g0'] at hc0
          clear x10 x11 x12 x00 x01 x02 d1 f10 f11 f12 hW7
          obtain ⟨x00, x01, x02⟩ := hc0
          obtain ⟨_, d1, _, _⟩ := h7.cell
          rw [hlen7] at d1
          have f10 := h7.2.2.2.1.frozenAt (k * 3)
          have f11 := h7.2.2.2.1.frozenAt (k * 3 + 1)
          have f12 := h7.2.2.2.1.frozenAt (k * 3 + 2)
          have hQO7 := Kept.own (H6.out.2.2.2.2 (Value.slice ba qf.b.length bc, qf) (by simp)) k7 (fun i hi e => by
            subst e
            have hrow := H6.out.2.2.2.1
            rcases hrow.2 with ⟨hv, _⟩ | ⟨g', cap', cur, hv, _, hg', _⟩
            · cases hv
            · injection hv with e1
              injection e1 with e1
              injection e1 with e1
              subst e1
              exact own_ne hg' (H6.out.2.2.2.2 (Value.slice ba qf.b.length bc, qf) (by simp)) (by decide) hi)
          have H7 := Lib.hid h7
          have K7 := Lib.hid k7
          have HQ7 := Lib.hid hQO7
          have HL7 := Lib.hid hlen7
          clear h7 k7 hv7 hE hKE hQO7 hlen7 g0'
          go_still_tail 8, (by kernel_rfl)
          change wpList _ _ _ _ _ W7.drew
          go_wp2
          go_roundw
          case rel =>
            obtain ⟨hE, hKE⟩ := H7.out.setE k (by rw [HL7.out]; omega) (Value.slice ba qf.b.length bc, qf) HQ7.out
            have hsw : ((Q.take (k + 1) ++ (Value.slice ba qf.b.length bc, qf) :: Q.drop (k + 1)).set (k + 1) (Value.slice pa pf.b.length pc, pf)).set k (Value.slice ba qf.b.length bc, qf) = Q.take k ++ (Value.slice ba qf.b.length bc, qf) :: Q.drop k := by
              have := put_swap Q (Value.slice ba qf.b.length bc, qf) k hkl
              rw [← HP.out] at this
              exact this
            have hE2 := hE.drew
            rw [hsw] at hE2
            refine ⟨k, rfl, by omega, hE2.relist, (K6.out.trans (K7.out.trans hKE.drew (fun _ _ h => h)) (fun i _ e => .inr e)), fun i hi hki => ?_⟩
            rcases Nat.lt_or_ge k i with hlt | hge
            · exact HR.out.gt i hi (by omega)
            · obtain rfl : i = k := by omega
              rw [less_key] at hless
              rw [← HP.out]
              exact hless
          case measure => simp [intOf]

end Go.Proofs.Ytbolminblofhgaa
