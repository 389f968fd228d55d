/-
  Package net: Drop, Deliver, Twice.
-/
import Derived.Test.YtenpoolminfofaaNtD
set_option linter.unusedVariables false
namespace Go.Proofs.Ytenpoolminfofaa
open Go.RowKit

def dropL (L : List Pk) (k : Int) : List Pk := if hasL k L.length = true then L.eraseIdx k.toNat else L
theorem dropL_no {L : List Pk} {k : Int} (h : hasL k L.length = false) : dropL L k = L := by unfold dropL; rw [h]; rfl
theorem dropL_yes {L : List Pk} {k : Nat} (h : k < L.length) : dropL L (k : Int) = L.eraseIdx k := by
  have : hasL (k : Int) L.length = true := decide_eq_true ⟨by omega, by omega⟩
  unfold dropL
  rw [this, if_pos rfl, Int.toNat_natCast]
theorem dropL_mem {L : List Pk} {k : Int} {p : Pk} (h : p ∈ dropL L k) : p ∈ L := by
  unfold dropL at h
  split at h
  · exact List.mem_of_mem_eraseIdx h
  · exact h
theorem dropL_len (L : List Pk) (k : Int) : (dropL L k).length ≤ L.length := by
  unfold dropL
  split
  · exact List.length_eraseIdx_le _ _
  · exact Nat.le_refl _

def ResPost (t : TypeId) (w : World) (B g : Nat) (v : Value) (Q : List (Value × Pk)) (r : Value) (L' : List Pk) (e : Ending) (w' : World) : Prop :=
  ∃ v' Q', e = .returned r ∧ NtRel t w w' B g v Q v' Q' L'

/-- The row that is left when some of its packets stay, written in place. -/
theorem NtAt.stay {t : TypeId} {w w1 : World} {B g gr cp : Nat} {Q Q' : List (Value × Pk)} {L L' : List Pk} (h : NtAt t w B g (.slice (some ⟨gr, 0, none⟩) Q.length cp) Q L) (hs : ∀ q ∈ Q', q ∈ Q) (hL : Q'.map Prod.snd = L')
    (ho : w1.ownsRow B 36 3 (.slice (some ⟨gr, 0, none⟩) Q'.length cp) Q'.length (rowOf pC Q')) (hk : Kept (fun i => i = gr) w w1) :
    NtRel t w (w1.setCell ⟨g, 0, none⟩ (.slice (some ⟨gr, 0, none⟩) Q'.length cp)) B g (.slice (some ⟨gr, 0, none⟩) Q.length cp) Q (.slice (some ⟨gr, 0, none⟩) Q'.length cp) Q' L' := by
  have hgr : g ≠ gr := fun e => h.apart (by rw [e]; rfl)
  refine ⟨NtAt.mk' h.low ((hk.block g h.lt hgr).trans h.blk) h.typ ho (fun q hq => ?_) hL, ?_, ?_, ?_⟩
  · exact Kept.own (h.byt q (hs q hq)) hk (fun k e e2 => h.apartB q (hs q hq) k e (.inr (by rw [e2]; rfl)))
  · exact (hk.mono (T := NtS g (.slice (some ⟨gr, 0, none⟩) Q.length cp)) (fun k _ e => .inr (by rw [e]; rfl))).setCell (p := ⟨g, 0, none⟩) (fun _ => .inl rfl) _
  · exact fun k e => .inl e
  · exact fun q hq k e => .inl ⟨q, hs q hq, e⟩

set_option maxHeartbeats 4000000 in
set_option maxRecDepth 100000 in
theorem nDrop (w : World) (B g : Nat) (v : Value) (Q : List (Value × Pk)) (L : List Pk) (k : Int) (h : NtAt 46 w B g v Q L) (hL : L.length ≤ 100000) :
    Calls Try.prog 15 #[.pointer (some ⟨g, 0, none⟩), .int .i64 k] w (ResPost 46 w B g v Q (.bool (hasL k L.length)) (dropL L k)) := by
  have cH := nHas _ B g v Q L k h
  cases hh : hasL k L.length with
  | false =>
    rw [hh] at cH
    rw [dropL_no hh]
    have HR := Lib.hid (NtRel.start h)
    clear h
    go_enter Try.func15, Try.ntmps15
    go_wp2_with (go_at_call 28; (with_reducible refine cH.mono ?_); rintro e w' ⟨rfl, rfl⟩)
    go_ret
    exact ⟨v, Q, rfl, HR.out⟩
  | true =>
    rw [hh] at cH
    have hk0 := of_decide_eq_true hh
    obtain ⟨m, rfl⟩ : ∃ m : Nat, k = (m : Int) := ⟨k.toNat, by omega⟩
    have hmL : m < L.length := by omega
    have hmQ : m < Q.length := by rw [h.len]; exact hmL
    rw [dropL_yes hmL]
    obtain ⟨gr, cp, hv, hc1, hc2, _⟩ := h.cells m hmQ
    subst hv
    have d0 := h.cell
    have e0 := h.frozen
    have cD := nDelete w B gr cp m Q.length Q hmQ rfl (by rw [h.len]; exact hL) hc1 hc2 h.row (h.one Q (fun _ h => h))
    have H := Lib.hid h
    have hgr : g ≠ gr := fun e => h.apart (by rw [e]; rfl)
    have hlt := h.lt
    have hwrap : IntKind.i64.wrap ((m : Int) + 1) = (m : Int) + 1 := IntWalk.i64_in _ (by have := h.len; omega)
    have hm2 : (m : Int) ≤ 100000 := by omega
    clear h hh hk0
    go_enter Try.func15, Try.ntmps15
    go_wp2_with (first | (go_at_call 28; (with_reducible refine cH.mono ?_); rintro e w' ⟨rfl, rfl⟩) | (go_at_call 29; (with_reducible refine cD.mono ?_)))
    rintro e W1 ⟨rfl, o1, k1⟩
    have HR := Lib.hid (H.out.stay (Q' := Q.eraseIdx m) (fun q hq => List.mem_of_mem_eraseIdx hq) (L' := L.eraseIdx m) (by rw [← H.out.eq, List.eraseIdx_eq_take_drop_succ, List.eraseIdx_eq_take_drop_succ, List.map_append, List.map_take, List.map_drop]) o1 k1)
    have d1 : W1.cell? ⟨g, 0, none⟩ = some (.slice (some ⟨gr, 0, none⟩) Q.length cp) := (k1.cell (p := ⟨g, 0, none⟩) hlt hgr).trans d0
    have e1 : W1.frozen? ⟨g, 0, none⟩ = false := (World.frozen?_of_block (a := ⟨g, 0, none⟩) (k1.block g hlt hgr)).trans e0
    clear o1 k1 d0 e0 cD
    go_wp2
    go_ret
    exact ⟨_, _, rfl, HR.out⟩

set_option maxHeartbeats 4000000 in
set_option maxRecDepth 100000 in
theorem nDrop_nil (w : World) (k : Int) :
    Calls Try.prog 15 #[.pointer none, .int .i64 k] w fun e w' => e = .returned (.bool false) ∧ w' = w := by
  have cH := nHas_nil w k
  go_enter Try.func15, Try.ntmps15
  go_wp2_with (go_at_call 28; (with_reducible refine cH.mono ?_); rintro e w' ⟨rfl, rfl⟩)
  go_ret
  exact ⟨rfl, rfl⟩

set_option maxHeartbeats 4000000 in
set_option maxRecDepth 100000 in
theorem nTwice_nil (w : World) (k : Int) :
    Calls Try.prog 16 #[.pointer none, .int .i64 k] w fun e w' => e = .returned (.bool false) ∧ w' = w := by
  have cH := nHas_nil w k
  go_enter Try.func16, Try.ntmps16
  go_wp2_with (go_at_call 28; (with_reducible refine cH.mono ?_); rintro e w' ⟨rfl, rfl⟩)
  go_ret
  exact ⟨rfl, rfl⟩

set_option maxHeartbeats 4000000 in
set_option maxRecDepth 100000 in
theorem nSend_nil (w : World) (a : Option Addr) (n c : Nat) :
    Calls Try.prog 10 #[.pointer none, .slice a n c] w fun e w' => e = .returned (.int .i64 0) ∧ w' = w := by
  go_enter Try.func10, Try.ntmps10
  go_wp2
  go_ret
  exact ⟨rfl, rfl⟩

theorem NtRel.set {t : TypeId} {w wr : World} {B g : Nat} {v v' : Value} {Q Q' : List (Value × Pk)} {L' : List Pk} (h : NtRel t w wr B g v Q v' Q' L') {p : Addr} (hp : w.heap.size ≤ p.block) (hn : ¬ NtAll g v' Q' p.block) (u : Value) : NtRel t w (wr.setCell p u) B g v Q v' Q' L' :=
  ⟨h.at_.kept (S := fun k => k = p.block) (Kept.setCell (S := fun k => k = p.block) (p := p) (Kept.refl _ wr) (fun _ => rfl) u) (fun k e e2 => hn (by rw [← e2]; exact e)), h.kept.setCell (fun hlt => by omega) u, h.newS, h.newB⟩
/-- A call that began a little later. -/
theorem NtRel.back {t : TypeId} {w w2 wr : World} {B g : Nat} {v v' : Value} {Q Q' : List (Value × Pk)} {L' : List Pk} (h : NtRel t w2 wr B g v Q v' Q' L') (hb : Below w.heap.size w w2) : NtRel t w wr B g v Q v' Q' L' :=
  ⟨h.at_, (Kept.of_below (S := NtS g v) hb).trans h.kept (fun _ _ e => e), fun k e => (h.newS k e).imp id (Nat.le_trans hb.size), fun q hq k e => (h.newB q hq k e).imp id (Nat.le_trans hb.size)⟩

def DelivPost (t : TypeId) (w : World) (B g : Nat) (v : Value) (Q : List (Value × Pk)) (p : Pk × Bool) (L' : List Pk) (e : Ending) (w' : World) : Prop :=
  ∃ a c v' Q', e = .returned (.tuple #[.agg #[.int .i64 p.1.f, .int .i64 p.1.t, .slice a p.1.b.length c], .bool p.2]) ∧ w'.ownsRow w.heap.size 5 1 (.slice a p.1.b.length c) p.1.b.length (Lib.byteCells p.1.b) ∧
    (∀ k, (Value.slice a p.1.b.length c).ownBlock = some k → ¬ NtS g v' k) ∧ NtRel t w w' B g v Q v' Q' L'

set_option maxHeartbeats 4000000 in
set_option maxRecDepth 100000 in
theorem nDeliver (w : World) (B g : Nat) (v : Value) (Q : List (Value × Pk)) (L : List Pk) (k : Int) (h : NtAt 46 w B g v Q L) (hB : B ≤ w.heap.size) (hL : L.length ≤ 100000) (hb : ∀ p ∈ L, p.b.length ≤ 131072) :
    Calls Try.prog 12 #[.pointer (some ⟨g, 0, none⟩), .int .i64 k] w (DelivPost 46 w B g v Q (atL L k) (dropL L k)) := by
  have bA : Below w.heap.size w (w.alloc (.cells #[.int .i64 0, .int .i64 0, .slice none 0 0] 36)) := (Below.refl _ w).alloc (Nat.le_refl _) _
  have gA := heap_alloc_new w (.cells #[.int .i64 0, .int .i64 0, .slice none 0 0] 36)
  have cP := nPeek _ B g v Q L k (h.below bA) hb
  obtain ⟨⟨⟨pf, pt, pb⟩, ok⟩, hp⟩ : ∃ p, p = atL L k := ⟨_, rfl⟩
  have cD := fun (wx : World) (hx : Below w.heap.size w wx) => nDrop wx B g v Q L k (h.below hx) hL
  obtain ⟨L', hL'⟩ : ∃ L', L' = dropL L k := ⟨_, rfl⟩
  rw [← hp] at cP ⊢
  rw [← hL'] at cD ⊢
  unfold PeekPost at cP
  unfold ResPost at cD
  unfold DelivPost
  simp only at cP ⊢
  obtain ⟨n, hn⟩ : ∃ n, n = pb.length := ⟨_, rfl⟩
  have HN := Lib.hid hn
  rw [← hn] at cP ⊢
  have H := Lib.hid h
  have HB := Lib.hid bA
  clear hp hL' hn h
  go_enter Try.func12, Try.ntmps12
  go_wp2_with (go_at_call 20; (with_reducible refine cP.mono ?_))
  rintro e W1 ⟨a1, c1, rfl, o1, b1⟩
  have G1 := box_below gA b1 (by simp)
  have hw1 := HB.out.trans (b1.mono HB.out.size)
  have hz1 : w.heap.size + 1 ≤ W1.heap.size := by have := b1.size; rw [World.size_alloc] at this; exact this
  have bA2 : Below W1.heap.size W1 (W1.alloc (.cells #[.int .i64 pf, .int .i64 pt, .slice a1 n c1] 36)) := (Below.refl _ W1).alloc (Nat.le_refl _) _
  have G2 := box_alloc G1 (.cells #[.int .i64 pf, .int .i64 pt, .slice a1 n c1] 36)
  have G3 := heap_alloc_new W1 (.cells #[.int .i64 pf, .int .i64 pt, .slice a1 n c1] 36)
  have hw2 := hw1.trans (bA2.mono hw1.size)
  have o2 := Kept.own o1 (Kept.of_below (S := fun _ => False) bA2) (fun _ _ h => h)
  have cD2 := cD _ hw2
  have HO := Lib.hid o2
  have HW := Lib.hid hw2
  clear o1 b1 G1 hw1 bA2 hw2 o2 cD cP gA bA
  go_wp2_with (go_at_call 15; (with_reducible refine cD2.mono ?_))
  rintro e W3 ⟨v', Q', rfl, R3⟩
  have hsz2 : W1.heap.size + 1 = (W1.alloc (.cells #[.int .i64 pf, .int .i64 pt, .slice a1 n c1] 36)).heap.size := by simp
  have hS : ∀ i, w.heap.size ≤ i → ¬ NtS g v i := fun i hi e => by have := H.out.ltS i e; omega
  have X2 := (R3.kept.block w.heap.size (by rw [← hsz2]; omega) (hS _ (Nat.le_refl _))).trans G2
  have X3 := (R3.kept.block W1.heap.size (by rw [← hsz2]; omega) (hS _ (by omega))).trans G3
  obtain ⟨z0, z1, z2, l0, l1, l2⟩ := box_cells X2
  obtain ⟨y0, y1, y2, _, _, _⟩ := box_cells X3
  have o3 := Kept.own HO.out R3.kept (fun i e => hS i (by have := (own_lt HO.out i e).1; rw [World.size_alloc] at this; omega))
  have hnS : Hid (∀ k, (Value.slice a1 n c1).ownBlock = some k → ¬ NtS g v' k) := fun i e e2 => by
    have h1 := own_lt HO.out i e
    rw [World.size_alloc] at h1
    rcases R3.newS i e2 with e3 | e3
    · exact hS i (by omega) e3
    · omega
  have hnA : ¬ NtAll g v' Q' w.heap.size := fun e => by
    rcases R3.new _ e with e2 | e2
    · have := H.out.ltAll _ e2; omega
    · rw [← hsz2] at e2; omega
  have R4 := R3.back HW.out
  have HR := Lib.hid ((((R4.set (p := ⟨w.heap.size, 0, none⟩) (Nat.le_refl _) hnA (.int .i64 pf)).set (p := ⟨w.heap.size, 1, none⟩) (Nat.le_refl _) hnA (.int .i64 pt))).set (p := ⟨w.heap.size, 2, none⟩) (Nat.le_refl _) hnA (.slice a1 n c1))
  have HO3 := Lib.hid o3
  clear R3 R4 X2 X3 o3 hS hsz2 hnA G2 G3 cD2
  go_wp2
  refine bodyPost_ret (v := .tuple #[.agg #[.int .i64 pf, .int .i64 pt, .slice a1 n c1], .bool ok]) (by simp [results, Try.results12, go_sem, z0, z1, z2]) rfl ?_
  exact ⟨a1, c1, v', Q', rfl, own_low (ownsRow_setCell_below (ownsRow_setCell_below (ownsRow_setCell_below HO3.out (by simp) _) (by simp) _) (by simp) _) (by simp), hnS.out, HR.out⟩

def twiceB (L : List Pk) (k : Int) : Bool := hasL k L.length && decide (L.length < 200)
def twiceL (L : List Pk) (k : Int) : List Pk := if twiceB L k = true then L ++ [(atL L k).1] else L

set_option maxHeartbeats 4000000 in
set_option maxRecDepth 100000 in
theorem nTwice (w : World) (B g : Nat) (v : Value) (Q : List (Value × Pk)) (L : List Pk) (k : Int) (h : NtAt 46 w B g v Q L) (hB : B ≤ w.heap.size) :
    Calls Try.prog 16 #[.pointer (some ⟨g, 0, none⟩), .int .i64 k] w (ResPost 46 w B g v Q (.bool (twiceB L k)) (twiceL L k)) := by
  have cH := nHas _ B g v Q L k h
  have cR := nRoom _ B g v Q L h
  cases hh : hasL k L.length with
  | false =>
    rw [hh] at cH
    have e1 : twiceB L k = false := by simp [twiceB, hh]
    have e2 : twiceL L k = L := by unfold twiceL; rw [e1]; rfl
    rw [e1, e2]
    have HR := Lib.hid (NtRel.start h)
    clear h cR
    go_enter Try.func16, Try.ntmps16
    go_wp2_with (go_at_call 28; (with_reducible refine cH.mono ?_); rintro e w' ⟨rfl, hw'⟩; rw [hw'])
    go_ret
    exact ⟨v, Q, rfl, HR.out⟩
  | true =>
    rw [hh] at cH
    cases hr : decide (L.length < 200) with
    | false =>
      rw [hr] at cR
      have e1 : twiceB L k = false := by simp only [twiceB, hr, Bool.and_false]
      have e2 : twiceL L k = L := by unfold twiceL; rw [e1]; rfl
      rw [e1, e2]
      have HR := Lib.hid (NtRel.start h)
      clear h
      go_enter Try.func16, Try.ntmps16
      go_wp2_with (first | (go_at_call 28; (with_reducible refine cH.mono ?_); rintro e w' ⟨rfl, hw'⟩; rw [hw']) | (go_at_call 25; (with_reducible refine cR.mono ?_); rintro e w' ⟨rfl, hw'⟩; rw [hw']))
      go_ret
      exact ⟨v, Q, rfl, HR.out⟩
    | true =>
      rw [hr] at cR
      have e1 : twiceB L k = true := by simp only [twiceB, hr, hh, Bool.and_true]
      have e2 : twiceL L k = L ++ [(atL L k).1] := by unfold twiceL; rw [e1]; rfl
      rw [e1, e2]
      have hlt200 : L.length < 200 := of_decide_eq_true hr
      have hk0 := of_decide_eq_true hh
      obtain ⟨m, rfl⟩ : ∃ m : Nat, k = (m : Int) := ⟨k.toNat, by omega⟩
      have hmL : m < L.length := by omega
      have hmQ : m < Q.length := by rw [h.len]; exact hmL
      rw [atL_yes hmL]
      obtain ⟨gr, cp, hv, hc1, hc2, x0, x1, x2⟩ := h.cells m hmQ
      subst hv
      have hbo := h.byt _ (List.getElem_mem hmQ)
      have e1 := h.mem m hmQ hmL
      have hmem := List.getElem_mem hmQ
      have hqe : Hid ((Q[m]'hmQ).2 = L[m]'hmL) := e1
      obtain ⟨q, hq⟩ : ∃ q, q = Q[m]'hmQ := ⟨_, rfl⟩
      rw [← hq] at x0 x1 x2 hbo hmem hqe
      obtain ⟨qv, p⟩ := q
      simp only at x0 x1 x2 hbo
      obtain ⟨pa, pc, hpv⟩ := own_slice hbo
      subst hpv
      obtain ⟨n, hn⟩ : ∃ n, n = p.b.length := ⟨_, rfl⟩
      have HN := Lib.hid hn
      have HBO := Lib.hid hbo
      have HMEM := Lib.hid hmem
      rw [← hn] at x2 HMEM
      have d0 := h.cell
      have e0 := h.frozen
      have ho := h.row
      have hlt := h.lt
      have hr1 : some g ≠ (Value.slice (some ⟨gr, 0, none⟩) Q.length cp).ownBlock := fun e => h.apart e.symm
      have i1 : (0 : Int) ≤ (m : Int) := by omega
      have i2 : (m : Int) < (Q.length : Int) := by omega
      have hQ2 : Q.length < 200 := by rw [h.len]; exact hlt200
      have HR := Lib.hid (NtRel.start h)
      obtain ⟨i0, hi, hz0, hz1, hz2⟩ := info_parts infoPacket
      have dA : (w.drew.alloc (.cells #[.int .i64 p.f, .int .i64 p.t, .slice pa n pc] 36)).cell? ⟨g, 0, none⟩ = some (.slice (some ⟨gr, 0, none⟩) Q.length cp) := alloc_cell (W := w.drew) d0 _
      have eA : (w.drew.alloc (.cells #[.int .i64 p.f, .int .i64 p.t, .slice pa n pc] 36)).frozen? ⟨g, 0, none⟩ = false := alloc_frozen (W := w.drew) d0 e0 _
      have hoA := (World.ownsRow.drew ho).alloc (.cells #[.int .i64 p.f, .int .i64 p.t, .slice pa n pc] 36)
      have gA := heap_alloc_new w.drew (.cells #[.int .i64 p.f, .int .i64 p.t, .slice pa n pc] 36)
      clear h hbo hmem hn hq e1 e2 hh hr hk0
      go_enter Try.func16, Try.ntmps16
      go_wp2_with (first | (go_at_call 28; (with_reducible refine cH.mono ?_); rintro e w' ⟨rfl, hw'⟩; rw [hw']) | (go_at_call 25; (with_reducible refine cR.mono ?_); rintro e w' ⟨rfl, hw'⟩; rw [hw']))
      go_region_law (first
        | ((refine step_append_lies _ (by rfl) _ _ _ (by rfl) B 36 i0 (.agg #[.int .i64 0, .int .i64 0, .slice none 0 0]) 3 40 Try.underlying27 hi hz0 hz1 hz2 (by rfl) (by omega) _ _ (rowOf pC Q) (by rfl) hoA ⟨w.heap.size, 0, none⟩ 1 1 _ (by rfl) (by rfl) (World.news_of_block (t := 36) (fr := (0, 0)) gA) (by simp [Value.oneCell']) (by omega) (by unfold maxLen; omega) (by omega) (by simp; omega) (w.heap.size + 1) (by simp) ?_; intro gg cap3 w3 hown3 hgrow hat hlt3; have d3 := grown_cell hgrow dA hr1; have f3 := grown_frozen hgrow dA eA hr1)))
      all_goals (
        have HA := Lib.hid (HR.out.appendedB (q := (.slice pa n pc, p)) (gg := gg) (cap := cap3) (w3 := w3) ((Below.refl _ w).drew) ((Below.refl _ w.drew).alloc (Nat.le_refl _) _) (by rw [HN.out]; exact HBO.out) (fun k e => .inl ⟨_, HMEM.out, e⟩) hB hown3 hgrow (by
          rcases hat with e | e
          · exact .inl e
          · right; omega))
        clear hown3 hgrow hat hlt3 d3 f3 dA eA hoA gA d0 e0 ho hr1 x0 x1 x2
        go_wp2
        go_ret
        exact ⟨_, _, rfl, by rw [← hqe.out]; exact HA.out⟩)

end Go.Proofs.Ytenpoolminfofaa
