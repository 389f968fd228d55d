/-
  The reference's net: Peek, Send.
-/
import Derived.Test.YtenpoolminfofaaNtH
set_option linter.unusedVariables false
namespace Go.Proofs.Ytenpoolminfofaa
open Go.RowKit

/-- What the reference's Peek leaves: the packet itself, no copy. -/
def RPeekPost (g : Nat) (v : Value) (Q : List (Value × Pk)) (pf pt : Int) (pb : List UInt8) (pn : Nat) (ok : Bool) (w : World) (e : Ending) (w' : World) : Prop :=
  ∃ a c, e = .returned (.tuple #[.agg #[.int .i64 pf, .int .i64 pt, .slice a pn c], .bool ok]) ∧ Bts w a pb ∧ (a = none → c = 0) ∧ (∀ x, a = some x → ¬ NtS g v x.block ∧ NtAll g v Q x.block) ∧ Below w.heap.size w w'

theorem own_nil {w : World} {B : Nat} {e : TypeId} {k n c : Nat} {a : Option Addr} {xs : List Value} (h : w.ownsRow B e k (.slice a n c) n xs) : a = none → c = 0 := by
  rintro rfl
  rcases h.2 with ⟨hv, _⟩ | ⟨g, cap, cur, hv, _⟩
  · injection hv
  · injection hv with e1; cases e1

set_option maxHeartbeats 4000000 in
set_option maxRecDepth 100000 in
theorem rPeek (w : World) (B g : Nat) (v : Value) (Q : List (Value × Pk)) (L : List Pk) (k : Int) (h : NtAt 29 w B g v Q L) (pf pt : Int) (pb : List UInt8) (pn : Nat) (ok : Bool) (h1 : atL L k = (⟨pf, pt, pb⟩, ok)) (h2 : pb.length = pn) :
    Calls Try.prog 21 #[.pointer (some ⟨g, 0, none⟩), .int .i64 k] w (RPeekPost g v Q pf pt pb pn ok w) := by
  have bA : Below w.heap.size w (w.alloc (.cells #[.int .i64 0, .int .i64 0, .slice none 0 0] 36)) := (Below.refl _ w).alloc (Nat.le_refl _) _
  have gA := heap_alloc_new w (.cells #[.int .i64 0, .int .i64 0, .slice none 0 0] 36)
  have hA := h.below bA
  have d0 := hA.cell
  have hlen := h.len
  cases hh : hasL k L.length with
  | false =>
    rw [atL_no hh] at h1
    injection h1 with h1 h3
    injection h1 with h4 h5 h6
    subst h3 h4 h5 h6 h2
    have HB := Lib.hid bA
    obtain ⟨va, vc, rfl⟩ := own_slice h.row
    obtain ⟨y0, y1, y2, _⟩ := box_cells gA
    have hk0 := of_decide_eq_false hh
    have hor : k < 0 ∨ (¬ k < 0 ∧ (Q.length : Int) ≤ k) := by omega
    clear h hA gA bA hh hk0 hlen
    rcases hor with c1 | ⟨c1, c2⟩
    · go_enter Try.func21, Try.ntmps21
      go_wp2
      refine bodyPost_ret (v := .tuple #[.agg #[.int .i64 0, .int .i64 0, .slice none 0 0], .bool false]) (by simp [results, Try.results21, go_sem, y0, y1, y2]) rfl ?_
      exact ⟨none, 0, rfl, .inl rfl, fun _ => rfl, fun x hx => (by cases hx), HB.out⟩
    · go_enter Try.func21, Try.ntmps21
      go_wp2
      refine bodyPost_ret (v := .tuple #[.agg #[.int .i64 0, .int .i64 0, .slice none 0 0], .bool false]) (by simp [results, Try.results21, go_sem, y0, y1, y2]) rfl ?_
      exact ⟨none, 0, rfl, .inl rfl, fun _ => rfl, fun x hx => (by cases hx), HB.out⟩
  | true =>
    have hk0 := of_decide_eq_true hh
    obtain ⟨m, rfl⟩ : ∃ m : Nat, k = (m : Int) := ⟨k.toNat, by omega⟩
    have hmL : m < L.length := by omega
    have hmQ : m < Q.length := by omega
    rw [atL_yes hmL] at h1
    injection h1 with h1 h3
    subst h3
    obtain ⟨gr, cp, hv, _, _, x0, x1, x2⟩ := hA.cells m hmQ
    subst hv
    have hbo := h.byt _ (List.getElem_mem hmQ)
    have hap := h.apartB _ (List.getElem_mem hmQ)
    have e1 := h.mem m hmQ hmL
    rw [e1, h1] at x0 x1 hbo
    obtain ⟨pa, pc, hpv⟩ := own_slice hbo
    rw [hpv] at x2 hbo hap
    simp only at x0 x1 hbo x2
    rw [h2] at x2 hbo hap
    have HBT := Lib.hid (Bts.own hbo)
    have HNL := Lib.hid (own_nil hbo)
    have HLT : Hid (∀ x, pa = some x → ¬ NtS g (.slice (some ⟨gr, 0, none⟩) Q.length cp) x.block ∧ NtAll g (.slice (some ⟨gr, 0, none⟩) Q.length cp) Q x.block) := fun x hx => by
      subst hx
      exact ⟨hap x.block rfl, .inr ⟨_, List.getElem_mem hmQ, by rw [hpv]; rfl⟩⟩
    have i0 : (0 : Int) ≤ (m : Int) := by omega
    have i1 : (m : Int) < (Q.length : Int) := by omega
    have HB := Lib.hid bA
    obtain ⟨y0, y1, y2, k0, k1, k2⟩ := box_cells gA
    clear h hA hbo e1 hpv hk0 hh hap h1 gA bA
    go_enter Try.func21, Try.ntmps21
    go_wp2
    refine bodyPost_ret (v := .tuple #[.agg #[.int .i64 pf, .int .i64 pt, .slice pa pn pc], .bool true]) (by simp [results, Try.results21, go_sem]) rfl ?_
    exact ⟨pa, pc, rfl, HBT.out, HNL.out, HLT.out, (Below.refl _ w).alloc (Nat.le_refl _) _⟩

set_option maxHeartbeats 8000000 in
set_option maxRecDepth 100000 in
theorem rSend (w : World) (B g : Nat) (v : Value) (Q : List (Value × Pk)) (L : List Pk) (a : Option Addr) (n c : Nat) (qs : List PkI) (h : NtAt 29 w B g v Q L) (hB : B ≤ w.heap.size) (hL : L.length ≤ 200) (hn : n ≤ 1000000) (hin : ∀ wx, Kept (NtS g v) w wx → PksIn wx a n qs) (hnil : ∀ q ∈ qs, q.1.1 = none → q.1.2 = 0) :
    Calls Try.prog 11 #[.pointer (some ⟨g, 0, none⟩), .slice a n c] w (SendPost 29 w B g v Q L (plain qs)) := by
  obtain ⟨i0, hi, hz0, hz1', hz2⟩ := info_parts infoPacket
  obtain ⟨j0, ji, jz0, jz1, jz2⟩ := info_parts infoByte8
  have hql := (hin w (Kept.refl _ w)).1
  obtain ⟨va, vc, rfl⟩ := own_slice h.row
  obtain ⟨m0, hm0⟩ : ∃ m, m = Q.length := ⟨_, rfl⟩
  have HQL := Lib.hid hql
  have HIN := Lib.hid hin
  have HNIL := Lib.hid hnil
  have hR0 := NtRel.start h
  rw [← hm0] at hR0 HIN ⊢
  clear h hql hin hm0 hnil
  go_enter Try.func11, Try.ntmps11
  go_wp2
  go_loopw [5, 6] (fun s i wr => ∃ (j : Nat) (v' : Value) (Q' : List (Value × Pk)), i = .int .i64 j ∧ j ≤ n ∧ s = .int .i64 (((sendL L (plain (qs.take j))).length : Int) - (L.length : Int)) ∧ NtRel 29 w wr B g (.slice va m0 vc) Q v' Q' (sendL L (plain (qs.take j)))) (fun _ i _ => n - (intOf i).toNat)
  case atStart => exact ⟨0, _, _, rfl, Nat.zero_le _, by simp [plain, sendL], hR0⟩
  case round =>
    obtain ⟨j, v', Q', rfl, hj, rfl, hR⟩ := hrel
    clear hR0
    by_cases hlt : j < n
    · have hlt2 : j < qs.length := by have := HQL.out; omega
      obtain ⟨x, hax, hpk⟩ := (HIN.out wr hR.kept).at j hlt2
      subst hax
      have hpt := plain_take qs j hlt2
      obtain ⟨L', hL'⟩ : ∃ L', L' = sendL L (plain (qs.take j)) := ⟨_, rfl⟩
      have HL2 : Hid (sendL L (plain (qs.take (j + 1))) = sendOne L' (qs[j]'hlt2).2) := by show _ = _; rw [hpt, sendL_snoc, hL']
      have hLL : L'.length ≤ 200 := by rw [hL']; exact sendL_len _ _ hL
      have hge : L.length ≤ L'.length := by rw [hL']; exact sendL_ge _ _
      have hnl := HNIL.out _ (List.getElem_mem hlt2)
      rw [← hL'] at hR ⊢
      obtain ⟨⟨⟨ba, bc⟩, ⟨pf, pt, pb⟩⟩, hq⟩ : ∃ q, q = qs[j]'hlt2 := ⟨_, rfl⟩
      rw [← hq] at hpk HL2 hnl
      obtain ⟨p0, p1, p2, pB⟩ := hpk
      simp only at p0 p1 p2 pB HL2 hnl
      rw [fld x (j * 3) 1 (by decide)] at p1
      rw [fld x (j * 3) 2 (by decide)] at p2
      obtain ⟨va', vc', rfl⟩ := own_slice hR.at_.row
      have HRR := Lib.hid hR
      have d0 := hR.at_.cell
      have HQN := Lib.hid hR.at_.len
      obtain ⟨pn, hpn⟩ : ∃ pn, pn = pb.length := ⟨_, rfl⟩
      have HPN := Lib.hid hpn
      rw [← hpn] at p2
      obtain ⟨qn, hqn⟩ : ∃ qn, qn = Q'.length := ⟨_, rfl⟩
      have hqL : L'.length = qn := by rw [hqn]; exact HQN.out.symm
      have HQQ := Lib.hid hqn
      obtain ⟨l0, hl0⟩ : ∃ l0, l0 = L.length := ⟨_, rfl⟩
      rw [← hqn] at d0
      have HLQ := Lib.hid hqL
      rw [hqL] at hLL hge ⊢
      rw [← hl0] at hge ⊢
      have HL0 := Lib.hid hl0
      have hBA := (Below.refl wr.heap.size wr).alloc (Nat.le_refl _) (.cells #[.int .i64 pf, .int .i64 pt, .slice ba pn bc] 36)
      have dA := alloc_cell d0 (.cells #[.int .i64 pf, .int .i64 pt, .slice ba pn bc] 36)
      have HBA := Lib.hid hBA
      clear hL' hq hpt hR hpn hqn hqL hl0 d0
      cases hs : decide (qn < 200) && mayB pf pt pn with
      | false =>
        have HE : Hid (sendOne L' ⟨pf, pt, pb⟩ = L') := by
          show _ = _; unfold sendOne; rw [if_neg (fun h => ?_)]
          obtain ⟨h1, h2⟩ := h
          have h2 : mayB pf pt pb.length = true := h2
          rw [HLQ.out] at h1
          rw [← HPN.out] at h2
          rw [decide_eq_true h1, h2] at hs
          cases hs
        have hor : (200 : Int) ≤ (qn : Int) ∨ (¬ (200 : Int) ≤ (qn : Int) ∧ pf < 1) ∨ (¬ (200 : Int) ≤ (qn : Int) ∧ ¬ pf < 1 ∧ 5 < pf) ∨ (¬ (200 : Int) ≤ (qn : Int) ∧ ¬ pf < 1 ∧ ¬ 5 < pf ∧ pt < 1) ∨ (¬ (200 : Int) ≤ (qn : Int) ∧ ¬ pf < 1 ∧ ¬ 5 < pf ∧ ¬ pt < 1 ∧ 5 < pt) ∨ (¬ (200 : Int) ≤ (qn : Int) ∧ ¬ pf < 1 ∧ ¬ 5 < pf ∧ ¬ pt < 1 ∧ ¬ 5 < pt ∧ (pf == pt) = true) ∨ (¬ (200 : Int) ≤ (qn : Int) ∧ ¬ pf < 1 ∧ ¬ 5 < pf ∧ ¬ pt < 1 ∧ ¬ 5 < pt ∧ (pf == pt) = false ∧ (131072 : Int) < (pn : Int)) := by
          have hs' : ¬ (qn < 200 ∧ (1 ≤ pf ∧ pf ≤ 5) ∧ (1 ≤ pt ∧ pt ≤ 5) ∧ pf ≠ pt ∧ pn ≤ 131072) := fun ⟨h1, h2, h3, h4, h5⟩ => by
            unfold mayB nodeB at hs
            rw [decide_eq_true h1, decide_eq_true h2, decide_eq_true h3, decide_eq_true h4, decide_eq_true h5] at hs
            cases hs
          by_cases e : pf = pt
          · have e2 : (pf == pt) = true := by simp [e]
            rw [e2]
            simp only [and_true, and_false, or_false, reduceCtorEq, false_and]
            omega
          · have e2 : (pf == pt) = false := beq_false_of_ne e
            rw [e2]
            simp only [and_false, false_or, true_and, reduceCtorEq]
            omega
        clear hs
        rcases hor with c1 | ⟨c1, c2⟩ | ⟨c1, c2, c3⟩ | ⟨c1, c2, c3, c4⟩ | ⟨c1, c2, c3, c4, c5⟩ | ⟨c1, c2, c3, c4, c5, c6⟩ | ⟨c1, c2, c3, c4, c5, c6, c7⟩
        all_goals (
          go_wp2
          go_roundw
          case rel => exact ⟨j + 1, _, Q', by go_num, by omega, by rw [HL2.out, HE.out, HLQ.out, HL0.out], by rw [HL2.out, HE.out]; exact HRR.out.below HBA.out⟩
          case measure => simp [intOf]; omega)
      | true =>
        obtain ⟨t1, t2⟩ : qn < 200 ∧ mayB pf pt pn = true := by
          rw [Bool.and_eq_true] at hs
          exact ⟨of_decide_eq_true hs.1, hs.2⟩
        have HE : Hid (sendOne L' ⟨pf, pt, pb⟩ = L' ++ [⟨pf, pt, pb⟩]) := by
          show _ = _; unfold sendOne; rw [if_pos ⟨by rw [HLQ.out]; exact t1, by show mayB pf pt pb.length = true; rw [← HPN.out]; exact t2⟩]
        obtain ⟨t3, t4, t5, t6⟩ : (1 ≤ pf ∧ pf ≤ 5) ∧ (1 ≤ pt ∧ pt ≤ 5) ∧ pf ≠ pt ∧ pn ≤ 131072 := by
          unfold mayB nodeB at t2
          simp at t2
          exact ⟨t2.1.1.1, t2.1.1.2, t2.1.2, t2.2⟩
        have c1 : ¬ (200 : Int) ≤ (qn : Int) := by omega
        have c2 : ¬ pf < 1 := by omega
        have c3 : ¬ 5 < pf := by omega
        have c4 : ¬ pt < 1 := by omega
        have c5 : ¬ 5 < pt := by omega
        have c6 : (pf == pt) = false := beq_false_of_ne t5
        have c7 : ¬ (131072 : Int) < (pn : Int) := by omega
        obtain ⟨W1, hW1⟩ : ∃ W, W = wr.alloc (.cells #[.int .i64 pf, .int .i64 pt, .slice ba pn bc] 36) := ⟨_, rfl⟩
        have gA : W1.heap[wr.heap.size]? = some (.cells #[.int .i64 pf, .int .i64 pt, .slice ba pn bc] 36 (0, 0)) := by rw [hW1]; exact heap_alloc_new wr _
        have hz1 : W1.heap.size = wr.heap.size + 1 := by rw [hW1, World.size_alloc]
        have bA : Below wr.heap.size wr W1 := by rw [hW1]; exact HBA.out
        have ho1 : (W1.alloc (.cells #[] 5)).ownsRow W1.heap.size 5 1 (.slice (some ⟨W1.heap.size, 0, none⟩) 0 0) 0 [] := World.ownsRow_lit W1 #[] 0 (Nat.le_refl _) (Nat.zero_le _) rfl
        have hb1 : Below W1.heap.size W1 (W1.alloc (.cells #[] 5)) := (Below.refl _ W1).alloc (Nat.le_refl _) _
        have hB1 := (pB.later bA).later hb1
        have hl1 : pb.length = pn := HPN.out.symm
        clear hs t2 t3 t4 t5 pB
        rw [hW1] at ho1 hB1 hb1
        rw [World.size_alloc] at ho1 hb1
        go_wp2_with (at_builtin; go_loud (refine wpList_append_bts _ rfl _ _ 34 rfl (wr.heap.size + 1) 5 j0 Try.underlying34 ji jz0 jz1 jz2 _ _ _ rfl ho1 _ _ _ pb rfl hl1 hB1 hnl (by omega) (by simp) ?_))
        intro v2 W2 o2 g2
        obtain ⟨a2, c2', rfl⟩ := own_slice o2
        have b2 : Below (wr.heap.size + 1) (wr.alloc (.cells #[.int .i64 pf, .int .i64 pt, .slice ba pn bc] 36)) W2 := below_grown hb1 (by simp) ho1 g2
        have gA2 := box_below gA (by rw [hW1]; exact b2) (by omega)
        have hbw : Below wr.heap.size wr W2 := HBA.out.trans (b2.mono (by omega))
        obtain ⟨_, _, x2, _, _, f2⟩ := box_cells gA2
        clear hB1 ho1 hb1 g2 b2 dA p0 p1 p2
        go_wp2_with fail
        obtain ⟨W3, hW3⟩ : ∃ W, W = W2.setCell ⟨wr.heap.size, 2, none⟩ (.slice a2 pn c2') := ⟨_, rfl⟩
        rw [← hW3]
        have G3 : W3.heap[wr.heap.size]? = some (.cells #[.int .i64 pf, .int .i64 pt, .slice a2 pn c2'] 36 (0, 0)) := by rw [hW3]; exact heap_setCell_same _ _ 2 _ _ _ gA2
        have hb3 : Below wr.heap.size wr W3 := by rw [hW3]; exact hbw.setCell (Nat.le_refl _) _
        have o3 : W3.ownsRow wr.heap.size 5 1 (.slice a2 pn c2') pb.length (Lib.byteCells pb) := by rw [hW3, ← HPN.out]; exact own_low (ownsRow_setCell_below o2 (by simp) _) (by omega)
        have hR3 := HRR.out.below hb3
        have d3 := hR3.at_.cell
        have e3 := hR3.at_.frozen
        have ho := hR3.at_.row
        have hg0 := hR3.at_.lt
        have hr1 : some g ≠ (Value.slice va' Q'.length vc').ownBlock := fun e => hR3.at_.apart e.symm
        have HR3 := Lib.hid hR3
        have HB3 := Lib.hid hb3
        have HO3 := Lib.hid o3
        rw [← HQQ.out] at d3 ho hr1
        have dA := alloc_cell (W := W3.drew) d3 (.cells #[.int .i64 pf, .int .i64 pt, .slice a2 pn c2'] 36)
        have eA := alloc_frozen (W := W3.drew) d3 e3 (.cells #[.int .i64 pf, .int .i64 pt, .slice a2 pn c2'] 36)
        have hoA := (World.ownsRow.drew ho).alloc (.cells #[.int .i64 pf, .int .i64 pt, .slice a2 pn c2'] 36)
        have gA3 := heap_alloc_new W3.drew (.cells #[.int .i64 pf, .int .i64 pt, .slice a2 pn c2'] 36)
        have hzB : B ≤ W3.heap.size := Nat.le_trans hB hR3.kept.size
        have hsw : w.heap.size ≤ wr.heap.size := HRR.out.kept.size
        obtain ⟨x0, x1, x2', _⟩ := box_cells G3
        clear hW3 hW1 gA gA2 bA hbw x2 f2 o2 hR3 hb3 o3 G3 HBA hz1
        go_region_law (first
          | ((refine step_append_lies _ (by rfl) _ _ _ (by rfl) B 36 i0 (.agg #[.int .i64 0, .int .i64 0, .slice none 0 0]) 3 40 Try.underlying27 hi hz0 hz1' hz2 (by rfl) (by omega) _ _ (rowOf pC Q') (by rfl) hoA ⟨W3.heap.size, 0, none⟩ 1 1 _ (by rfl) (by rfl) (World.news_of_block (t := 36) (fr := (0, 0)) gA3) (by simp [Value.oneCell']) (by omega) (by unfold maxLen; omega) (by omega) (by simp; omega) (W3.heap.size + 1) (by simp) ?_; intro gg cap3 w3 hown3 hgrow hat hlt3; have d4 := grown_cell hgrow dA hr1; have f4 := grown_frozen hgrow dA eA hr1)))
        all_goals (
          rw [HQQ.out] at hown3 hgrow hat
          have HA := Lib.hid (HR3.out.appendedB (q := (.slice a2 pn c2', ⟨pf, pt, pb⟩)) (gg := gg) (cap := cap3) (w3 := w3) ((Below.refl _ W3).drew) ((Below.refl _ W3.drew).alloc (Nat.le_refl _) _) (own_low HO3.out (Nat.le_trans hB hsw)) (fun k e => .inr (Nat.le_trans hsw (own_lt HO3.out k e).1)) hB hown3 hgrow (by
            rcases hat with e | e
            · exact .inl e
            · right; omega))
          rw [← HQQ.out] at HA
          clear hown3 hgrow hat hlt3 d4 f4 dA eA hoA gA3 d3 e3 ho hg0 hr1 x0 x1 x2'
          go_wp2
          go_roundw
          case rel => exact ⟨j + 1, _, _, by go_num, by omega, by rw [HL2.out, HE.out, List.length_append, HLQ.out, HL0.out]; congr 1; simp; omega, by rw [HL2.out, HE.out]; exact HA.out⟩
          case measure => simp [intOf]; omega)
    · have hjn : plain (qs.take j) = plain qs := by rw [List.take_of_length_le (by have := HQL.out; omega)]
      rw [hjn] at hR ⊢
      have hge := sendL_ge (plain qs) L
      have hle := sendL_len (plain qs) L hL
      have HR := Lib.hid hR
      obtain ⟨l1, hl1⟩ : ∃ l, l = (sendL L (plain qs)).length := ⟨_, rfl⟩
      obtain ⟨l0, hl0⟩ : ∃ l0, l0 = L.length := ⟨_, rfl⟩
      have HL1 := Lib.hid hl1
      have HL0 := Lib.hid hl0
      rw [← hl1] at hge hle ⊢
      rw [← hl0] at hge ⊢
      clear hR hjn hl1 hl0
      go_wp2
      go_ret
      refine ⟨_, Q', ?_, HR.out⟩
      rw [← HL1.out, ← HL0.out]
      rfl

end Go.Proofs.Ytenpoolminfofaa
