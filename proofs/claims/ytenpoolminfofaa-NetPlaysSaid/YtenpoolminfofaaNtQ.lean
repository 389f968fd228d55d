/-
  The reference's net: Deliver, Twice.
-/
import Derived.Test.YtenpoolminfofaaNtP
import Derived.Test.YtenpoolminfofaaNtI
set_option linter.unusedVariables false
namespace Go.Proofs.Ytenpoolminfofaa
open Go.RowKit

/-- A new row in the struct, of packets that were there. -/
theorem NtAt.renew {t : TypeId} {w w1 : World} {B g : Nat} {v v' : Value} {Q Q' : List (Value × Pk)} {L L' : List Pk} (h : NtAt t w B g v Q L) (hB : B ≤ w.heap.size) (hs : ∀ q ∈ Q', q ∈ Q) (hL : Q'.map Prod.snd = L')
    (ho : w1.ownsRow w.heap.size 36 3 v' Q'.length (rowOf pC Q')) (hb : Below w.heap.size w w1) : NtRel t w (w1.setCell ⟨g, 0, none⟩ v') B g v Q v' Q' L' := by
  have h1 := h.below hb
  refine ⟨NtAt.mk' h.low h1.blk h.typ (own_low ho hB) (fun q hq => h1.byt q (hs q hq)) hL, (Kept.of_below hb).setCell (p := ⟨g, 0, none⟩) (fun _ => .inl rfl) _, ?_, fun q hq k e => .inl ⟨q, hs q hq, e⟩⟩
  rintro k (e | e)
  · exact .inl (.inl e)
  · exact .inr (own_lt ho k e).1

def RDelivPost (t : TypeId) (w : World) (B g : Nat) (v : Value) (Q : List (Value × Pk)) (pf pt : Int) (pb : List UInt8) (pn : Nat) (ok : Bool) (L' : List Pk) (e : Ending) (w' : World) : Prop :=
  ∃ a c v' Q', e = .returned (.tuple #[.agg #[.int .i64 pf, .int .i64 pt, .slice a pn c], .bool ok]) ∧ Bts w' a pb ∧ NtRel t w w' B g v Q v' Q' L'

theorem Bts.setOther {w : World} {a : Option Addr} {l : List UInt8} (h : Bts w a l) {p : Addr} (hp : ∀ x, a = some x → x.block ≠ p.block) (u : Value) : Bts (w.setCell p u) a l :=
  h.kept (S := fun k => k = p.block) (Kept.setCell (S := fun k => k = p.block) (p := p) (Kept.refl _ w) (fun _ => rfl) u) (fun x hx e => hp x hx e)

set_option maxHeartbeats 8000000 in
set_option maxRecDepth 100000 in
theorem rDeliver_no (w : World) (B g : Nat) (v : Value) (Q : List (Value × Pk)) (L : List Pk) (k : Int) (h : NtAt 29 w B g v Q L) (hh : hasL k L.length = false) :
    Calls Try.prog 13 #[.pointer (some ⟨g, 0, none⟩), .int .i64 k] w (RDelivPost 29 w B g v Q 0 0 [] 0 false L) := by
  have bA : Below w.heap.size w (w.alloc (.cells #[.int .i64 0, .int .i64 0, .slice none 0 0] 36)) := (Below.refl _ w).alloc (Nat.le_refl _) _
  have gA := heap_alloc_new w (.cells #[.int .i64 0, .int .i64 0, .slice none 0 0] 36)
  have cP := rPeek _ B g v Q L k (h.below bA) 0 0 [] 0 false (by rw [atL_no hh]; rfl) rfl
  have H := Lib.hid h
  clear h
  go_enter Try.func13, Try.ntmps13
  go_wp2_with (go_at_call 21; (with_reducible refine cP.mono ?_))
  rintro e W1 ⟨a1, c1, rfl, t1, n1, l1, b1⟩
  have G1 := box_below gA b1 (by simp)
  have bw := bA.trans (b1.mono bA.size)
  have b2 := bw.alloc bw.size (.cells #[.int .i64 0, .int .i64 0, .slice a1 0 c1] 36)
  have G2 := box_alloc G1 (.cells #[.int .i64 0, .int .i64 0, .slice a1 0 c1] 36)
  obtain ⟨z0, z1, z2, _⟩ := box_cells G2
  have hnA : ¬ NtAll g v Q w.heap.size := fun e => by have := (H.out.ltAll _ e).2; omega
  have R := (NtRel.start H.out).below b2
  have HR := Lib.hid (((R.set (p := ⟨w.heap.size, 0, none⟩) (Nat.le_refl _) hnA (.int .i64 0)).set (p := ⟨w.heap.size, 1, none⟩) (Nat.le_refl _) hnA (.int .i64 0)).set (p := ⟨w.heap.size, 2, none⟩) (Nat.le_refl _) hnA (.slice a1 0 c1))
  clear t1 n1 l1 b1 G1 bw b2 G2 R hnA cP gA bA
  go_wp2
  refine bodyPost_ret (v := .tuple #[.agg #[.int .i64 0, .int .i64 0, .slice a1 0 c1], .bool false]) (by simp [results, Try.results13, go_sem, z0, z1, z2]) rfl ?_
  exact ⟨a1, c1, v, Q, rfl, .inl rfl, HR.out⟩

set_option maxHeartbeats 8000000 in
set_option maxRecDepth 100000 in
theorem rDeliver_yes (w : World) (B g : Nat) (v : Value) (Q : List (Value × Pk)) (L : List Pk) (k : Nat) (h : NtAt 29 w B g v Q L) (hB : B ≤ w.heap.size) (hk : k < L.length) (hq : L.length ≤ 100000) (pf pt : Int) (pb : List UInt8) (pn : Nat) (h1 : L[k]'hk = ⟨pf, pt, pb⟩) (h2 : pb.length = pn) :
    Calls Try.prog 13 #[.pointer (some ⟨g, 0, none⟩), .int .i64 k] w (RDelivPost 29 w B g v Q pf pt pb pn true (L.eraseIdx k)) := by
  obtain ⟨i0, hi, hz0, hz1, hz2⟩ := info_parts infoPacket
  have hkQ : k < Q.length := by rw [h.len]; exact hk
  have hqQ : Q.length ≤ 100000 := by rw [h.len]; exact hq
  have bA : Below w.heap.size w (w.alloc (.cells #[.int .i64 0, .int .i64 0, .slice none 0 0] 36)) := (Below.refl _ w).alloc (Nat.le_refl _) _
  have gA := heap_alloc_new w (.cells #[.int .i64 0, .int .i64 0, .slice none 0 0] 36)
  have cP := rPeek _ B g v Q L k (h.below bA) pf pt pb pn true (by rw [atL_yes hk, h1]) h2
  have H := Lib.hid h
  obtain ⟨gr, cp, hv, hc1, hc2⟩ := h.row_some (by intro e; rw [e] at hkQ; simp at hkQ)
  subst hv
  have HE : Hid ((Q.eraseIdx k).map Prod.snd = L.eraseIdx k) := by
    show _ = _
    rw [← h.eq, List.eraseIdx_eq_take_drop_succ, List.eraseIdx_eq_take_drop_succ, List.map_append, List.map_take, List.map_drop]
  clear h
  go_enter Try.func13, Try.ntmps13
  go_wp2_with (go_at_call 21; (with_reducible refine cP.mono ?_))
  rintro e W1 ⟨a1, c1, rfl, t1, n1, l1, b1⟩
  have G1 := box_below gA b1 (by simp)
  have bw := bA.trans (b1.mono bA.size)
  have hz1w : w.heap.size + 1 ≤ W1.heap.size := by have := b1.size; rw [World.size_alloc] at this; exact this
  have b2 := bw.alloc bw.size (.cells #[.int .i64 pf, .int .i64 pt, .slice a1 pn c1] 36)
  have G2 := box_alloc G1 (.cells #[.int .i64 pf, .int .i64 pt, .slice a1 pn c1] 36)
  have P2 := heap_alloc_new W1 (.cells #[.int .i64 pf, .int .i64 pt, .slice a1 pn c1] 36)
  obtain ⟨W2, hW2⟩ : ∃ W, W = W1.alloc (.cells #[.int .i64 pf, .int .i64 pt, .slice a1 pn c1] 36) := ⟨_, rfl⟩
  rw [← hW2] at b2 G2 P2
  have hz2w : W2.heap.size = W1.heap.size + 1 := by rw [hW2, World.size_alloc]
  have h2' := H.out.below b2
  have d0 := h2'.cell
  have hrow := h2'.row
  have e0 : W2.ownsRow W2.heap.size 36 3 (.slice none 0 0) 0 [] := ⟨rfl, .inl ⟨rfl, rfl⟩⟩
  have hl1 : (rowOf pC (Q.take k)).length = k * 3 := by rw [rowOf_len pC 3 pC_len, List.length_take]; congr 1; omega
  have hsp : rowOf pC Q = rowOf pC (Q.take k) ++ rowOf pC (Q.drop k) := by rw [← rowOf_append, List.take_append_drop]
  have hn1 : ∀ j u, (rowOf pC (Q.take k))[j]? = some u → W2.cell? ((⟨gr, 0, none⟩ : Addr).add j) = some u := fun j u hu =>
    hrow.cells (g := gr) rfl j u (by
      rw [hsp, List.getElem?_append_left (List.getElem?_eq_some_iff.1 hu).1]; exact hu)
  have ho1 := h2'.one (Q.take k) (fun q hq => List.mem_of_mem_take hq)
  have i1 : (0 : Int) ≤ (k : Int) := by omega
  have i2 : (k : Int) ≤ (Q.length : Int) := by omega
  have i3 : k ≤ cp := by omega
  have H2 := Lib.hid h2'
  have HB2 := Lib.hid b2
  have HG2 := Lib.hid G2
  have HP2 := Lib.hid P2
  have HT1 := Lib.hid (show Bts W1 a1 pb from (t1.later b1))
  have HL1 := Lib.hid l1
  clear cP gA bA G1 bw h2' b2 G2 P2 t1 n1 l1 b1 hrow
  subst hW2
  go_wp2_with (at_builtin; go_loud (refine wpList_append_own _ rfl _ _ 27 rfl (W1.alloc (.cells #[.int .i64 pf, .int .i64 pt, .slice a1 pn c1] 36)).heap.size 36 i0 (.agg #[.int .i64 0, .int .i64 0, .slice none 0 0]) 3 40 Try.underlying27 hi hz0 hz1 hz2 rfl (by decide) _ _ _ rfl e0 ⟨gr, 0, none⟩ k cp (rowOf pC (Q.take k)) rfl hl1 hn1 ho1 ?a1 ?a2 ?a3 ?_))
  case a1 => unfold maxLen; omega
  case a2 => omega
  case a3 => exact Nat.le_refl _
  intro v3 W3 o3 g3 _
  obtain ⟨a3, k3, rfl⟩ := own_slice o3
  obtain ⟨W2, hW2⟩ : ∃ W, W = W1.alloc (.cells #[.int .i64 pf, .int .i64 pt, .slice a1 pn c1] 36) := ⟨_, rfl⟩
  rw [← hW2] at H2 HB2 HG2 HP2 g3 hz2w
  have o3 : W3.ownsRow W2.heap.size 36 3 (.slice a3 k k3) k (rowOf pC (Q.take k)) := by rw [hW2, World.size_alloc]; exact o3
  have b3 : Below W2.heap.size W2 W3 := (Below.refl _ W2).grown g3 (Nat.le_refl _) (fun k hk => by cases hk)
  have h3 := H2.out.below b3
  have d3 := h3.cell
  have hrow3 := h3.row
  have hl2 : (rowOf pC (Q.drop (k + 1))).length = (Q.length - (k + 1)) * 3 := by rw [rowOf_len pC 3 pC_len, List.length_drop]
  have hn2 : ∀ j u, (rowOf pC (Q.drop (k + 1)))[j]? = some u → W3.cell? ((⟨gr, 0, none⟩ : Addr).add ((k + 1) * 3 + j)) = some u := fun j u hu =>
    hrow3.cells (g := gr) rfl _ u (by
      have hsp2 : rowOf pC Q = rowOf pC (Q.take (k + 1)) ++ rowOf pC (Q.drop (k + 1)) := by rw [← rowOf_append, List.take_append_drop]
      have hl3 : (rowOf pC (Q.take (k + 1))).length = (k + 1) * 3 := by rw [rowOf_len pC 3 pC_len, List.length_take]; congr 1; omega
      rw [hsp2, List.getElem?_append_right (by omega), hl3, Nat.add_sub_cancel_left]; exact hu)
  have ho2 := h3.one (Q.drop (k + 1)) (fun q hq => List.mem_of_mem_drop hq)
  obtain ⟨A, hA, hnA⟩ : ∃ A : Addr, (if cp = k + 1 then some (⟨gr, 0, none⟩ : Addr) else some ⟨gr, (k + 1) * 3, none⟩) = some A ∧ ∀ j u, (rowOf pC (Q.drop (k + 1)))[j]? = some u → W3.cell? (A.add j) = some u := by
    by_cases hc : cp = k + 1
    · refine ⟨_, by rw [if_pos hc], fun j u hu => ?_⟩
      rw [List.drop_eq_nil_of_le (by omega)] at hu
      simp [rowOf] at hu
    · refine ⟨_, by rw [if_neg hc], fun j u hu => ?_⟩
      have := hn2 j u hu
      have e : (⟨gr, (k + 1) * 3, none⟩ : Addr).add j = (⟨gr, 0, none⟩ : Addr).add ((k + 1) * 3 + j) := by
        unfold Addr.add
        by_cases hj : j = 0 <;> simp [hj]
      rw [e]; exact this
  have HA := Lib.hid hA
  have hb3s := b3.size
  have j1 : (0 : Int) ≤ (k : Int) + 1 := by omega
  have j2 : (k : Int) + 1 ≤ (Q.length : Int) := by omega
  have j3 : k + 1 ≤ cp := by omega
  have HB3 := Lib.hid b3
  clear hn2 hA hn1 ho1 hl1 hsp e0 d0 g3 hrow3 h3 b3
  go_wp2_with (at_builtin; go_loud (refine wpList_append_own _ rfl _ _ 27 rfl W2.heap.size 36 i0 (.agg #[.int .i64 0, .int .i64 0, .slice none 0 0]) 3 40 Try.underlying27 hi hz0 hz1 hz2 rfl (by decide) _ _ _ rfl o3 A (Q.length - (k + 1)) (cp - (k + 1)) (rowOf pC (Q.drop (k + 1))) (congrArg (fun z => Value.slice z (Q.length - (k + 1)) (cp - (k + 1))) HA.out) hl2 hnA ho2 ?b1 ?b2 ?b3 ?_))
  case b1 => unfold maxLen; omega
  case b2 => omega
  case b3 => exact hb3s
  all_goals
    intro v4 W4 o4 g4 _
    obtain ⟨a4, k4, rfl⟩ := own_slice o4
    have b4 : Below W2.heap.size W2 W4 := below_grown HB3.out (Nat.le_refl _) o3 g4
    have hQ' : (Q.eraseIdx k) = Q.take k ++ Q.drop (k + 1) := List.eraseIdx_eq_take_drop_succ _ _
    have o5 : W4.ownsRow W2.heap.size 36 3 (.slice a4 (k + (Q.length - (k + 1))) k4) (Q.eraseIdx k).length (rowOf pC (Q.eraseIdx k)) := by
      rw [hQ', rowOf_append, List.length_append, List.length_take, List.length_drop, Nat.min_eq_left (by omega), hz2w]
      exact o4
    have R5 := H2.out.renew (Nat.le_trans hB HB2.out.size) (Q' := Q.eraseIdx k) (fun q hq => List.mem_of_mem_eraseIdx hq) HE.out o5 b4
    have h4 := H2.out.below b4
    have d4 := h4.cell
    have f4 := h4.frozen
    have hgl := H.out.lt
    have P5 : (W4.setCell ⟨g, 0, none⟩ (.slice a4 (k + (Q.length - (k + 1))) k4)).heap[W1.heap.size]? = some (.cells #[.int .i64 pf, .int .i64 pt, .slice a1 pn c1] 36) := (Below.heap_setCell _ _ _ _ (by show W1.heap.size ≠ g; omega)).trans (box_below HP2.out b4 (by omega))
    have G5 : (W4.setCell ⟨g, 0, none⟩ (.slice a4 (k + (Q.length - (k + 1))) k4)).heap[w.heap.size]? = some (.cells #[.int .i64 0, .int .i64 0, .slice none 0 0] 36) := (Below.heap_setCell _ _ _ _ (by show w.heap.size ≠ g; omega)).trans (box_below HG2.out b4 (by omega))
    obtain ⟨x0, x1, x2, _⟩ := box_cells P5
    obtain ⟨z0, z1, z2, l0, l1', l2⟩ := box_cells G5
    have hnA : ¬ NtAll g (.slice a4 (k + (Q.length - (k + 1))) k4) (Q.eraseIdx k) w.heap.size := fun e => by
      rcases R5.new _ e with e2 | e2
      · have := (H.out.ltAll _ e2).2; omega
      · omega
    have R6 := R5.back HB2.out
    have bt := HT1.out.later (show Below W1.heap.size W1 W2 by rw [hW2]; exact (Below.refl _ _).alloc (Nat.le_refl _) _)
    have bt2 := bt.later b4
    have HR := Lib.hid (((R6.set (p := ⟨w.heap.size, 0, none⟩) (Nat.le_refl _) hnA (.int .i64 pf)).set (p := ⟨w.heap.size, 1, none⟩) (Nat.le_refl _) hnA (.int .i64 pt)).set (p := ⟨w.heap.size, 2, none⟩) (Nat.le_refl _) hnA (.slice a1 pn c1))
    have bt3 := (((bt2.setOther (p := ⟨g, 0, none⟩) (fun x hx e => (HL1.out x hx).1 (.inl e)) (.slice a4 (k + (Q.length - (k + 1))) k4)).setOther (p := ⟨w.heap.size, 0, none⟩) (fun x hx e => by have := (H.out.ltAll _ (HL1.out x hx).2).2; have e2 : x.block = w.heap.size := e; omega) (.int .i64 pf)).setOther (p := ⟨w.heap.size, 1, none⟩) (fun x hx e => by have := (H.out.ltAll _ (HL1.out x hx).2).2; have e2 : x.block = w.heap.size := e; omega) (.int .i64 pt)).setOther (p := ⟨w.heap.size, 2, none⟩) (fun x hx e => by have := (H.out.ltAll _ (HL1.out x hx).2).2; have e2 : x.block = w.heap.size := e; omega) (.slice a1 pn c1)
    have HBT := Lib.hid bt3
    clear o3 o4 g4 b4 hQ' o5 R5 h4 P5 G5 hnA R6 bt bt2 bt3
    go_wp2
    refine bodyPost_ret (v := .tuple #[.agg #[.int .i64 pf, .int .i64 pt, .slice a1 pn c1], .bool true]) (by simp [results, Try.results13, go_sem, z0, z1, z2]) rfl ?_
    exact ⟨a1, c1, _, _, rfl, HBT.out, HR.out⟩

end Go.Proofs.Ytenpoolminfofaa
