/-
  The reference's disk: without.
-/
import Derived.Test.YtbolminblofhgaaDkC
set_option linter.unusedVariables false
namespace Go.Proofs.Ytbolminblofhgaa
open Go.RowKit

theorem infoFile : (Try.prog.info? 88).map (fun i => (i.zero, i.size, i.bytes)) = some (some (.agg #[.string ByteArray.empty, .slice none 0 0, .int .i64 0]), 3, 48) := by kernel_rfl

theorem own_ne {w : World} {B g : Nat} {cs : Array Value} {t e : TypeId} {m : Nat × Nat} {k n : Nat} {v : Value} {xs : List Value} (hg : w.heap[g]? = some (.cells cs t m)) (ho : w.ownsRow B e k v n xs) (he : e ≠ t) : v.ownBlock ≠ some g := by
  rcases ho.2 with ⟨hv, _⟩ | ⟨g', cap, cur, hv, _, hg', _⟩
  · rw [hv]; intro e; cases e
  · rw [hv]
    intro e
    injection e with e
    have e' : g' = g := e
    subst e'
    rw [hg] at hg'
    injection hg' with hg'
    injection hg' with _ e2 _
    exact he e2.symm
theorem own_lt {w : World} {B : Nat} {e : TypeId} {k n : Nat} {v : Value} {xs : List Value} (ho : w.ownsRow B e k v n xs) (i : Nat) (hi : v.ownBlock = some i) : B ≤ i ∧ i < w.heap.size := by
  rcases ho.2 with ⟨hv, _⟩ | ⟨g', cap, cur, hv, hb, hg', _⟩
  · rw [hv] at hi; cases hi
  · rw [hv] at hi
    injection hi with hi
    have e' : g' = i := hi
    subst e'
    exact ⟨hb, (Array.getElem?_eq_some_iff.1 hg').1⟩
theorem own_low {B B' : Nat} {e : TypeId} {k : Nat} {v : Value} {n : Nat} {xs : List Value} {w : World} (h : w.ownsRow B e k v n xs) (hb : B' ≤ B) : w.ownsRow B' e k v n xs := by
  refine ⟨h.1, ?_⟩
  rcases h.2 with hn | ⟨g, cap, cur, hv, hg, rest⟩
  · exact .inl hn
  · exact .inr ⟨g, cap, cur, hv, Nat.le_trans hb hg, rest⟩
theorem DkAt.ltS {w : World} {B g : Nat} {v : Value} {Q : List (Value × RF)} {M : RD} (h : DkAt w B g v Q M) : ∀ k, DkS g v k → k < w.heap.size := by
  rintro k (rfl | e)
  · exact h.lt
  · exact (own_lt h.2.2.2.1 k e).2
theorem DkAt.ltB {w : World} {B g : Nat} {v : Value} {Q : List (Value × RF)} {M : RD} (h : DkAt w B g v Q M) : ∀ q ∈ Q, ∀ k, q.1.ownBlock = some k → k < w.heap.size := fun q hq k e => (own_lt (h.2.2.2.2 q hq) k e).2

/-- Another row in the struct. -/
theorem DkAt.setRow {w : World} {B g : Nat} {v v' : Value} {Q Q' : List (Value × RF)} {M : RD} (h : DkAt w B g v Q M) (ho : w.ownsRow B 88 3 v' Q'.length (rowOf fC Q')) (hb : ∀ q ∈ Q', w.ownsRow B 5 1 q.1 q.2.b.length (Lib.byteCells q.2.b)) (L' : List RF) (hL : Q'.map Prod.snd = L') :
    DkAt (w.setCell ⟨g, 1, none⟩ v') B g v' Q' { M with L := L' } := by
  obtain ⟨h1, h2, hg, _, _⟩ := h
  exact ⟨h1, hL, heap_setCell_same _ g 1 _ _ _ hg, ownsRow_setCell_other ho (own_ne hg ho (by decide)) _, fun q hq => ownsRow_setCell_other (hb q hq) (own_ne hg (hb q hq) (by decide)) _⟩

theorem DkAt.one {w : World} {B g : Nat} {v : Value} {Q : List (Value × RF)} {M : RD} (h : DkAt w B g v Q M) (Q' : List (Value × RF)) (hs : ∀ q ∈ Q', q ∈ Q) : ∀ u ∈ rowOf fC Q', u.oneCell' = true := by
  intro u hu
  obtain ⟨q, hq, hu⟩ := List.mem_flatMap.1 hu
  obtain ⟨a, c, hv⟩ := own_slice (h.2.2.2.2 q (hs q hq))
  simp only [fC, hv, List.mem_cons, List.mem_nil_iff, or_false] at hu
  rcases hu with rfl | rfl | rfl <;> rfl

set_option maxHeartbeats 2000000 in
set_option maxRecDepth 100000 in
theorem rWithout (w : World) (B g : Nat) (v : Value) (Q : List (Value × RF)) (M : RD) (k : Nat) (h : DkAt w B g v Q M) (hk : k < Q.length) (hq : Q.length ≤ 100000) (hB : B ≤ w.heap.size) :
    Calls Try.prog 52 #[.pointer (some ⟨g, 0, none⟩), .int .i64 k] w fun e w' => ∃ v', e = .returned (.tuple #[]) ∧ DkAt w' B g v' (Q.eraseIdx k) { M with L := M.L.eraseIdx k } ∧ Kept (DkS g v) w w' ∧ ∀ k, v'.ownBlock = some k → w.heap.size ≤ k := by
  obtain ⟨i0, hi, hz0, hz1, hz2⟩ := info_parts infoFile
  obtain ⟨gr, cp, rfl, hBr⟩ := h.row (by intro e; rw [e] at hk; simp at hk)
  have hroom := own_room h.2.2.2.1
  obtain ⟨_, d1, _, _⟩ := h.cell
  have f1 := h.frozen 1
  have H := Lib.hid h
  clear h
  go_enter Try.func52, Try.ntmps52
  have e0 : w.ownsRow w.heap.size 88 3 (.slice none 0 0) 0 [] := ⟨rfl, .inl ⟨rfl, rfl⟩⟩
  have hl1 : (rowOf fC (Q.take k)).length = k * 3 := by rw [rowOf_len fC 3 fC_len, List.length_take]; congr 1; omega
  have hsp : rowOf fC Q = rowOf fC (Q.take k) ++ rowOf fC (Q.drop k) := by rw [← rowOf_append, List.take_append_drop]
  have hn1 : ∀ j u, (rowOf fC (Q.take k))[j]? = some u → w.cell? ((⟨gr, 0, none⟩ : Addr).add j) = some u := fun j u hu =>
    H.out.2.2.2.1.cells (g := gr) rfl j u (by
      rw [hsp, List.getElem?_append_left (List.getElem?_eq_some_iff.1 hu).1]; exact hu)
  have ho1 := H.out.one (Q.take k) (fun q hq => List.mem_of_mem_take hq)
  go_wp2_with (at_builtin; go_loud (refine wpList_append_own _ rfl _ _ 63 rfl w.heap.size 88 i0 (.agg #[.string ByteArray.empty, .slice none 0 0, .int .i64 0]) 3 48 Try.underlying63 hi hz0 hz1 hz2 rfl (by decide) _ _ _ rfl e0 ⟨gr, 0, none⟩ k cp (rowOf fC (Q.take k)) rfl hl1 hn1 ho1 ?a1 ?a2 ?a3 ?_))
  case a1 => unfold maxLen; omega
  case a2 => omega
  case a3 => exact Nat.le_refl _
  intro v1 W1 o1 g1 _
  obtain ⟨a1, k1, rfl⟩ := own_slice o1
  have K1 : Kept (fun _ => False) w W1 := (Kept.refl _ w).grown g1 (fun k hk _ => by cases hk)
  have H1 := Lib.hid (H.out.kept K1 (fun _ _ h => h) (fun _ _ _ _ h => h))
  obtain ⟨_, d1', _, _⟩ := H1.out.cell
  have f1' := H1.out.frozen 1
  have hn2 : ∀ j u, (rowOf fC (Q.drop (k + 1)))[j]? = some u → W1.cell? ((⟨gr, 0, none⟩ : Addr).add ((k + 1) * 3 + j)) = some u := fun j u hu =>
    H1.out.2.2.2.1.cells (g := gr) rfl _ u (by
      have hsp2 : rowOf fC Q = rowOf fC (Q.take (k + 1)) ++ rowOf fC (Q.drop (k + 1)) := by rw [← rowOf_append, List.take_append_drop]
      have hl2 : (rowOf fC (Q.take (k + 1))).length = (k + 1) * 3 := by rw [rowOf_len fC 3 fC_len, List.length_take]; congr 1; omega
      rw [hsp2, List.getElem?_append_right (by omega), hl2, Nat.add_sub_cancel_left]; exact hu)
  have ho2 := H.out.one (Q.drop (k + 1)) (fun q hq => List.mem_of_mem_drop hq)
  clear d1 f1 hn1 ho1 hl1 hsp e0 g1
  obtain ⟨A, hA, hnA⟩ : ∃ A : Addr, (if cp = k + 1 then some (⟨gr, 0, none⟩ : Addr) else some ⟨gr, (k + 1) * 3, none⟩) = some A ∧ ∀ j u, (rowOf fC (Q.drop (k + 1)))[j]? = some u → W1.cell? (A.add j) = some u := by
    by_cases hc : cp = k + 1
    · refine ⟨_, by rw [if_pos hc], fun j u hu => ?_⟩
      rw [List.drop_eq_nil_of_le (by omega)] at hu
      simp [rowOf] at hu
    · refine ⟨_, by rw [if_neg hc], fun j u hu => ?_⟩
      have := hn2 j u hu
      have e : (⟨gr, (k + 1) * 3, none⟩ : Addr).add j = (⟨gr, 0, none⟩ : Addr).add ((k + 1) * 3 + j) := by
        unfold Addr.add
        by_cases hj : j = 0 <;> simp [hj]
      rw [e]; exact this
  have hl2 : (rowOf fC (Q.drop (k + 1))).length = (Q.length - (k + 1)) * 3 := by rw [rowOf_len fC 3 fC_len, List.length_drop]
  have HA := Lib.hid hA
  have hsz := K1.size
  clear hn2 hA
  go_wp2_with (at_builtin; go_loud (refine wpList_append_own _ rfl _ _ 63 rfl w.heap.size 88 i0 (.agg #[.string ByteArray.empty, .slice none 0 0, .int .i64 0]) 3 48 Try.underlying63 hi hz0 hz1 hz2 rfl (by decide) _ _ _ rfl o1 A (Q.length - (k + 1)) (cp - (k + 1)) (rowOf fC (Q.drop (k + 1))) (congrArg (fun z => Value.slice z (Q.length - (k + 1)) (cp - (k + 1))) HA.out) hl2 hnA ho2 ?b1 ?b2 ?b3 ?_))
  case b1 => unfold maxLen; omega
  case b2 => omega
  case b3 => exact hsz
  all_goals
    intro v2 W2 o2 g2 _
    obtain ⟨a2, k2, rfl⟩ := own_slice o2
    have hfresh := fun i (e : (Value.slice a1 k k1).ownBlock = some i) => (own_lt o1 i e).1
    have K2 : Kept (fun i => (Value.slice a1 k k1).ownBlock = some i) W1 W2 := (Kept.refl _ W1).grown g2 (fun i hi _ => hi)
    have H2 := Lib.hid (H1.out.kept K2 (fun i hs hi => by have := hfresh i hi; have := H.out.ltS i hs; omega) (fun q hq i e hi => by have := hfresh i hi; have := H.out.ltB q hq i e; omega))
    have KK : Kept (fun _ => False) w W2 := K1.trans K2 (fun i hi e => by have := hfresh i e; omega)
    have hQ' : (Q.eraseIdx k) = Q.take k ++ Q.drop (k + 1) := List.eraseIdx_eq_take_drop_succ _ _
    have o3 : W2.ownsRow B 88 3 (.slice a2 (k + (Q.length - (k + 1))) k2) (Q.eraseIdx k).length (rowOf fC (Q.eraseIdx k)) := by
      rw [hQ', rowOf_append, List.length_append, List.length_take, List.length_drop, Nat.min_eq_left (by omega)]
      exact own_low o2 hB
    have hb3 : ∀ q ∈ Q.eraseIdx k, W2.ownsRow B 5 1 q.1 q.2.b.length (Lib.byteCells q.2.b) := fun q hq => H2.out.2.2.2.2 q (List.mem_of_mem_eraseIdx hq)
    have H3 := Lib.hid (H2.out.setRow o3 hb3 (M.L.eraseIdx k) (by rw [← H.out.2.1]; rw [List.eraseIdx_eq_take_drop_succ, List.eraseIdx_eq_take_drop_succ, List.map_append, List.map_take, List.map_drop]))
    have f2 := H2.out.frozen 1
    have hfr := Lib.hid (fun i (e : (Value.slice a2 (k + (Q.length - (k + 1))) k2).ownBlock = some i) => (own_lt o2 i e).1)
    obtain ⟨_, d2, _, _⟩ := H2.out.cell
    clear o1 o2 o3 hb3 hQ' g2 K2 d1' f1' H1 hfresh hnA ho2 hl2
    go_wp2
    refine bodyPost_end (v := .tuple #[]) ?_ ?_ ?_
    · simp [results, Try.results52, go_sem]
    · rfl
    · exact ⟨_, rfl, H3.out, (KK.mono (T := DkS g (.slice (some ⟨gr, 0, none⟩) Q.length cp)) (fun _ _ h => h.elim)).setCell (p := ⟨g, 1, none⟩) (fun _ => .inl rfl) _, hfr.out⟩

end Go.Proofs.Ytbolminblofhgaa
