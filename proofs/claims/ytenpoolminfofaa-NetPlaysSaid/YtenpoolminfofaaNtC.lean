/-
  Package net: Send.
-/
import Derived.Test.YtenpoolminfofaaNtB
set_option linter.unusedVariables false
namespace Go.Proofs.Ytenpoolminfofaa
open Go.RowKit

/-- A packet that came in: where its bytes lie, and it. -/
abbrev PkI := (Option Addr × Nat) × Pk
structure PkAt (w : World) (x : Addr) (i : Nat) (q : PkI) : Prop where
  c0 : w.cell? (x.add (i * 3)) = some (.int .i64 q.2.f)
  c1 : w.cell? (x.add (i * 3 + 1)) = some (.int .i64 q.2.t)
  c2 : w.cell? (x.add (i * 3 + 2)) = some (.slice q.1.1 q.2.b.length q.1.2)
  bt : Bts w q.1.1 q.2.b
def PksIn (w : World) (a : Option Addr) (n : Nat) (qs : List PkI) : Prop :=
  qs.length = n ∧ (qs = [] ∨ ∃ x, a = some x ∧ ∀ i (hi : i < qs.length), PkAt w x i (qs[i]'hi))
theorem PksIn.at {w : World} {a : Option Addr} {n : Nat} {qs : List PkI} (h : PksIn w a n qs) (i : Nat) (hi : i < qs.length) : ∃ x, a = some x ∧ PkAt w x i (qs[i]'hi) := by
  rcases h.2 with rfl | ⟨x, h1, h⟩
  · simp at hi
  · exact ⟨x, h1, h i hi⟩

def mayP (p : Pk) : Bool := mayB p.f p.t p.b.length
/-- A packet is sent. -/
def sendOne (L : List Pk) (p : Pk) : List Pk := if L.length < 200 ∧ mayP p = true then L ++ [p] else L
def sendL (L : List Pk) (ps : List Pk) : List Pk := ps.foldl sendOne L
theorem sendL_snoc (L ps : List Pk) (p : Pk) : sendL L (ps ++ [p]) = sendOne (sendL L ps) p := by simp [sendL]
theorem sendOne_len (L : List Pk) (p : Pk) (h : L.length ≤ 200) : (sendOne L p).length ≤ 200 := by
  unfold sendOne
  split
  · simp; omega
  · exact h
theorem sendL_len (ps : List Pk) : ∀ (L : List Pk), L.length ≤ 200 → (sendL L ps).length ≤ 200 := by
  induction ps with
  | nil => intro L h; exact h
  | cons p ps ih => intro L h; exact ih _ (sendOne_len L p h)
theorem sendOne_ge (L : List Pk) (p : Pk) : L.length ≤ (sendOne L p).length := by
  unfold sendOne
  split
  · simp
  · exact Nat.le_refl _
theorem sendL_ge (ps : List Pk) : ∀ (L : List Pk), L.length ≤ (sendL L ps).length := by
  induction ps with
  | nil => intro L; exact Nat.le_refl _
  | cons p ps ih => intro L; exact Nat.le_trans (sendOne_ge L p) (ih _)

/-- Where a call stands that changes a net. -/
structure NtRel (t : TypeId) (w wr : World) (B g : Nat) (v : Value) (Q : List (Value × Pk)) (v' : Value) (Q' : List (Value × Pk)) (L' : List Pk) : Prop where
  at_ : NtAt t wr B g v' Q' L'
  kept : Kept (NtS g v) w wr
  newS : ∀ k, NtS g v' k → NtS g v k ∨ w.heap.size ≤ k
  newB : ∀ q ∈ Q', ∀ k, q.1.ownBlock = some k → (∃ x ∈ Q, x.1.ownBlock = some k) ∨ w.heap.size ≤ k
theorem NtRel.new {t : TypeId} {w wr : World} {B g : Nat} {v v' : Value} {Q Q' : List (Value × Pk)} {L' : List Pk} (h : NtRel t w wr B g v Q v' Q' L') : ∀ k, NtAll g v' Q' k → NtAll g v Q k ∨ w.heap.size ≤ k := by
  rintro k (e | ⟨q, hq, e⟩)
  · rcases h.newS k e with e | e
    · exact .inl (.inl e)
    · exact .inr e
  · rcases h.newB q hq k e with e | e
    · exact .inl (.inr e)
    · exact .inr e
theorem NtRel.start {t : TypeId} {w : World} {B g : Nat} {v : Value} {Q : List (Value × Pk)} {L : List Pk} (h : NtAt t w B g v Q L) : NtRel t w w B g v Q v Q L :=
  ⟨h, Kept.refl _ w, fun _ e => .inl e, fun q hq k e => .inl ⟨q, hq, e⟩⟩

theorem NtRel.below {t : TypeId} {w wr w' : World} {B g : Nat} {v v' : Value} {Q Q' : List (Value × Pk)} {L' : List Pk} (h : NtRel t w wr B g v Q v' Q' L') (hb : Below wr.heap.size wr w') : NtRel t w w' B g v Q v' Q' L' :=
  ⟨h.at_.below hb, h.kept.trans (Kept.of_below (S := fun _ => False) hb) (fun _ _ h => h.elim), h.newS, h.newB⟩

/-- The row behind 'append' of one packet. -/
theorem NtRel.appendedB {t : TypeId} {w wr W2 X w3 : World} {B g gg cap cp : Nat} {v : Value} {a : Option Addr} {Q Q' : List (Value × Pk)} {L' : List Pk} (q : Value × Pk)
    (h : NtRel t w wr B g v Q (.slice a Q'.length cp) Q' L') (b2 : Below wr.heap.size wr W2) (bX : Below W2.heap.size W2 X) (hf : W2.ownsRow B 5 1 q.1 q.2.b.length (Lib.byteCells q.2.b)) (hqn : ∀ k, q.1.ownBlock = some k → (∃ x ∈ Q, x.1.ownBlock = some k) ∨ w.heap.size ≤ k) (hB : B ≤ w.heap.size)
    (ho : w3.ownsRow B 36 3 (.slice (some ⟨gg, 0, none⟩) (Q'.length + 1) cap) (Q'.length + 1) (rowOf pC Q' ++ pC q)) (hg : X.grownBy w3 (Value.slice a Q'.length cp).ownBlock) (hat : (Value.slice a Q'.length cp).ownBlock = some gg ∨ wr.heap.size ≤ gg) :
    NtRel t w (w3.setCell ⟨g, 0, none⟩ (.slice (some ⟨gg, 0, none⟩) (Q'.length + 1) cap)) B g v Q (.slice (some ⟨gg, 0, none⟩) (Q'.length + 1) cap) (Q' ++ [q]) (L' ++ [q.2]) := by
  have hsz := h.kept.size
  have hsz2 := b2.size
  have K1 : Kept (fun i => (Value.slice a Q'.length cp).ownBlock = some i) wr w3 := (Kept.of_below (b2.trans (bX.mono hsz2))).grown hg (fun i hi _ => hi)
  have K2 : Kept (fun i => (Value.slice a Q'.length cp).ownBlock = some i) W2 w3 := (Kept.of_below bX).grown hg (fun i hi _ => hi)
  have h2 := h.at_.below b2
  have hg3 := (K1.block g h.at_.lt (fun e => h.at_.apart e)).trans h.at_.blk
  have hfB : ∀ k, q.1.ownBlock = some k → ¬ (Value.slice a Q'.length cp).ownBlock = some k := fun k e e2 => own_two hf h2.row (by decide) k e e2
  refine ⟨NtAt.mk' h.at_.low hg3 h.at_.typ ?_ ?_ ?_, ?_, ?_, ?_⟩
  · rw [List.length_append, rowOf_append, rowOf_one]; exact ho
  · intro x hx
    rcases List.mem_append.1 hx with hm | hm
    · exact Kept.own (h.at_.byt x hm) K1 (fun k e e2 => h.at_.apartB x hm k e (.inr e2))
    · simp only [List.mem_singleton] at hm
      subst hm
      exact Kept.own hf K2 hfB
  · rw [List.map_append, h.at_.eq]; rfl
  · refine (h.kept.trans K1 (fun i hi e => ?_)).setCell (p := ⟨g, 0, none⟩) (fun _ => .inl rfl) _
    rcases h.newS i (.inr e) with e | e
    · exact e
    · omega
  · rintro k (e | e)
    · exact .inl (.inl e)
    · have e2 : gg = k := by injection e
      subst e2
      rcases hat with e3 | e3
      · exact h.newS gg (.inr e3)
      · exact .inr (by omega)
  · intro x hx k hk
    rcases List.mem_append.1 hx with hm | hm
    · exact h.newB x hm k hk
    · simp only [List.mem_singleton] at hm
      subst hm
      exact hqn k hk

/-- The row behind 'append' of one packet. -/
theorem NtRel.appended {t : TypeId} {w wr W2 X w3 : World} {B g gg cap cp : Nat} {v : Value} {a : Option Addr} {Q Q' : List (Value × Pk)} {L' : List Pk} (q : Value × Pk)
    (h : NtRel t w wr B g v Q (.slice a Q'.length cp) Q' L') (b2 : Below wr.heap.size wr W2) (bX : Below W2.heap.size W2 X) (hf : W2.ownsRow wr.heap.size 5 1 q.1 q.2.b.length (Lib.byteCells q.2.b)) (hB : B ≤ w.heap.size)
    (ho : w3.ownsRow B 36 3 (.slice (some ⟨gg, 0, none⟩) (Q'.length + 1) cap) (Q'.length + 1) (rowOf pC Q' ++ pC q)) (hg : X.grownBy w3 (Value.slice a Q'.length cp).ownBlock) (hat : (Value.slice a Q'.length cp).ownBlock = some gg ∨ wr.heap.size ≤ gg) :
    NtRel t w (w3.setCell ⟨g, 0, none⟩ (.slice (some ⟨gg, 0, none⟩) (Q'.length + 1) cap)) B g v Q (.slice (some ⟨gg, 0, none⟩) (Q'.length + 1) cap) (Q' ++ [q]) (L' ++ [q.2]) :=
  h.appendedB q b2 bX (own_low hf (Nat.le_trans hB h.kept.size)) (fun k hk => .inr (by have := (own_lt hf k hk).1; have := h.kept.size; omega)) hB ho hg hat

def plain (qs : List PkI) : List Pk := qs.map Prod.snd
def SendPost (t : TypeId) (w : World) (B g : Nat) (v : Value) (Q : List (Value × Pk)) (L : List Pk) (ps : List Pk) (e : Ending) (w' : World) : Prop :=
  ∃ v' Q', e = .returned (.int .i64 (((sendL L ps).length : Int) - (L.length : Int))) ∧ NtRel t w w' B g v Q v' Q' (sendL L ps)
theorem plain_take (qs : List PkI) (j : Nat) (hj : j < qs.length) : plain (qs.take (j + 1)) = plain (qs.take j) ++ [(qs[j]'hj).2] := by
  unfold plain
  rw [List.take_succ_eq_append_getElem hj, List.map_append]; rfl

set_option maxHeartbeats 8000000 in
set_option maxRecDepth 100000 in
theorem nSend (w : World) (B g : Nat) (v : Value) (Q : List (Value × Pk)) (L : List Pk) (a : Option Addr) (n c : Nat) (qs : List PkI) (h : NtAt 46 w B g v Q L) (hB : B ≤ w.heap.size) (hL : L.length ≤ 200) (hn : n ≤ 1000000) (hin : ∀ wx, Kept (NtS g v) w wx → PksIn wx a n qs) :
    Calls Try.prog 10 #[.pointer (some ⟨g, 0, none⟩), .slice a n c] w (SendPost 46 w B g v Q L (plain qs)) := by
  obtain ⟨i0, hi, hz0, hz1, hz2⟩ := info_parts infoPacket
  have hql := (hin w (Kept.refl _ w)).1
  obtain ⟨va, vc, rfl⟩ := own_slice h.row
  obtain ⟨m0, hm0⟩ : ∃ m, m = Q.length := ⟨_, rfl⟩
  have c0 := h.cell
  have H := Lib.hid h
  have HQL := Lib.hid hql
  have HIN := Lib.hid hin
  have HM0 := Lib.hid hm0
  have hR0 := NtRel.start h
  rw [← hm0] at c0 H hR0 HIN ⊢
  clear h hql hin hm0
  go_enter Try.func10, Try.ntmps10
  go_wp2
  clear c0
  go_loopw [17] (fun i wr => ∃ (j : Nat) (v' : Value) (Q' : List (Value × Pk)), i = .int .i64 j ∧ j ≤ n ∧ NtRel 46 w wr B g (.slice va m0 vc) Q v' Q' (sendL L (plain (qs.take j)))) (fun i _ => n - (intOf i).toNat)
  case atStart => exact ⟨0, _, _, rfl, Nat.zero_le _, hR0⟩
  case round =>
    obtain ⟨j, v', Q', rfl, hj, hR⟩ := hrel
    clear hR0
    by_cases hlt : j < n
    · have hlt2 : j < qs.length := by have := HQL.out; omega
      obtain ⟨x, hax, hpk⟩ := (HIN.out wr hR.kept).at j hlt2
      subst hax
      have hpt := plain_take qs j hlt2
      obtain ⟨L', hL'⟩ : ∃ L', L' = sendL L (plain (qs.take j)) := ⟨_, rfl⟩
      have HL2 : Hid (sendL L (plain (qs.take (j + 1))) = sendOne L' (qs[j]'hlt2).2) := by show _ = _; rw [hpt, sendL_snoc, hL']
      have hLL : L'.length ≤ 200 := by rw [hL']; exact sendL_len _ _ hL
      rw [← hL'] at hR
      obtain ⟨⟨⟨ba, bc⟩, ⟨pf, pt, pb⟩⟩, hq⟩ : ∃ q, q = qs[j]'hlt2 := ⟨_, rfl⟩
      rw [← hq] at hpk HL2
      obtain ⟨p0, p1, p2, pB⟩ := hpk
      simp only at p0 p1 p2 pB HL2
      rw [fld x (j * 3) 1 (by decide)] at p1
      rw [fld x (j * 3) 2 (by decide)] at p2
      obtain ⟨va', vc', rfl⟩ := own_slice hR.at_.row
      have HRR := Lib.hid hR
      have cR := fun (wx : World) (hx : Below wr.heap.size wr wx) => nRoom wx B g _ Q' L' (hR.at_.below hx)
      have cM := fun (wx : World) => nMay wx pf pt ba pb.length bc
      obtain ⟨pn, hpn⟩ : ∃ pn, pn = pb.length := ⟨_, rfl⟩
      have HPN := Lib.hid hpn
      rw [← hpn] at cM p2
      clear hL' hq hpt hR hpn
      have bA : Below wr.heap.size wr (wr.alloc (.cells #[.int .i64 pf, .int .i64 pt, .slice ba pn bc] 36)) := (Below.refl _ wr).alloc (Nat.le_refl _) _
      cases hroom : decide (L'.length < 200) with
      | false =>
        rw [hroom] at cR
        have HBA := Lib.hid bA
        have HE : Hid (sendOne L' ⟨pf, pt, pb⟩ = L') := by show _ = _; unfold sendOne; rw [if_neg (fun h => by have := of_decide_eq_false hroom; omega)]
        go_wp2_with (go_at_call 25; (with_reducible refine (cR _ bA).mono ?_); rintro e w' ⟨rfl, rfl⟩)
        go_roundw
        case rel => exact ⟨j + 1, _, Q', by go_num, by omega, by rw [HL2.out, HE.out]; exact HRR.out.below HBA.out⟩
        case measure => simp [intOf]; omega
      | true =>
        rw [hroom] at cR
        have hlt200 : L'.length < 200 := of_decide_eq_true hroom
        have HBA := Lib.hid bA
        have gA := heap_alloc_new wr (.cells #[.int .i64 pf, .int .i64 pt, .slice ba pn bc] 36)
        cases hmay : mayB pf pt pn with
        | false =>
          rw [hmay] at cM
          have HE : Hid (sendOne L' ⟨pf, pt, pb⟩ = L') := by show _ = _; unfold sendOne; rw [if_neg (fun h => by have h2 := h.2; unfold mayP at h2; simp only at h2; rw [← HPN.out, hmay] at h2; cases h2)]
          go_wp2_with (first | (go_at_call 25; (with_reducible refine (cR _ bA).mono ?_); rintro e w' ⟨rfl, rfl⟩) | (go_at_call 26; (with_reducible refine (cM _).mono ?_); rintro e w' ⟨rfl, hbM⟩))
          have HB2 := Lib.hid (HBA.out.trans (hbM.mono HBA.out.size))
          clear hbM
          go_roundw
          case rel => exact ⟨j + 1, _, Q', by go_num, by omega, by rw [HL2.out, HE.out]; exact HRR.out.below HB2.out⟩
          case measure => simp [intOf]; omega
        | true =>
          rw [hmay] at cM
          have HE : Hid (sendOne L' ⟨pf, pt, pb⟩ = L' ++ [⟨pf, pt, pb⟩]) := by show _ = _; unfold sendOne; rw [if_pos ⟨hlt200, by unfold mayP; simp only; rw [← HPN.out, hmay]⟩]
          have hpn2 : pn ≤ 131072 := by unfold mayB at hmay; simp at hmay; exact hmay.2
          go_wp2_with (first | (go_at_call 25; (with_reducible refine (cR _ bA).mono ?_); rintro e w' ⟨rfl, rfl⟩) | (go_at_call 26; (with_reducible refine (cM _).mono ?_)))
          rintro e W0 ⟨rfl, hbM⟩
          have hb0 := bA.trans (hbM.mono bA.size)
          have hsz : wr.heap.size + 1 ≤ W0.heap.size := by have := hbM.size; rw [World.size_alloc] at this; exact this
          have G0 := box_below gA hbM (by simp)
          obtain ⟨x0, x1, x2, _⟩ := box_cells G0
          have hR0 := HRR.out.below hb0
          have pB0 := pB.later hb0
          have cT := fun (wx : World) (hx : Below W0.heap.size W0 wx) => nTwin pf pt ba pn bc pb wx HPN.out.symm (by omega) (pB0.later hx)
          unfold TwinPost at cT
          rw [← HPN.out] at cT
          have d0 := hR0.at_.cell
          have e0 := hR0.at_.frozen
          have hro := hR0.at_.row
          have hg0 := hR0.at_.lt
          have hr1 : some g ≠ (Value.slice va' Q'.length vc').ownBlock := fun e => hR0.at_.apart e.symm
          have hQ2 : Q'.length < 200 := by rw [hR0.at_.len]; exact hlt200
          have b00 : Below W0.heap.size W0 W0.drew := (Below.refl _ _).drew
          have hB0 : B ≤ W0.heap.size := Nat.le_trans hB hR0.kept.size
          have HR0 := Lib.hid hR0
          have HB0 := Lib.hid hb0
          clear hb0 hbM gA G0 hR0 pB0 pB cR cM bA p0 p1 p2 hsz
          go_wp2_with fail
          go_region_law (first
            | ((rw [if_pos (by rfl)]; go_simp; go_at_call 27; (with_reducible refine (cT _ b00).mono ?_); rintro e W2 ⟨a2, c2, rfl, o2, b2⟩; have h2 := HR0.out.at_.below (b00.trans b2); have d2 := h2.cell; have e2 := h2.frozen; have ro2 := h2.row; have z2 : W0.heap.size ≤ W2.heap.size := b2.size; have d2a := alloc_cell d2 (.cells #[.int .i64 pf, .int .i64 pt, .slice a2 pn c2] 36); go_simp))
            | ((refine step_append_lies _ (by rfl) _ _ _ (by rfl) B 36 i0 (.agg #[.int .i64 0, .int .i64 0, .slice none 0 0]) 3 40 Try.underlying27 hi hz0 hz1 hz2 (by rfl) (by omega) _ _ (rowOf pC Q') (by rfl) (ro2.alloc _) ⟨W2.heap.size, 0, none⟩ 1 1 _ (by rfl) (by rfl) (World.news_of_block (t := 36) (fr := (0, 0)) (heap_alloc_new W2 _)) (by simp [Value.oneCell']) (by omega) (by unfold maxLen; omega) (by omega) (by simp; omega) (W2.heap.size + 1) (by simp) ?_; intro gg cap3 w3 hown3 hgrow hat hlt3; have d3 := grown_cell hgrow (alloc_cell d2 _) hr1; have f3 := grown_frozen hgrow (alloc_cell d2 _) (alloc_frozen d2 e2 _) hr1)))
          all_goals (
            have hf2 : W2.ownsRow W0.heap.size 5 1 (.slice a2 pn c2) pb.length (Lib.byteCells pb) := by rw [← HPN.out]; exact o2
            have HA := Lib.hid (HR0.out.appended (q := (.slice a2 pn c2, ⟨pf, pt, pb⟩)) (gg := gg) (cap := cap3) (w3 := w3) (b00.trans b2) ((Below.refl _ W2).alloc (Nat.le_refl _) _) hf2 hB hown3 hgrow (by
              rcases hat with e | e
              · exact .inl e
              · right; omega))
            clear hown3 hgrow hat hlt3 d3 f3 hf2 o2 b2 h2 d2 e2 ro2 z2 d2a d0 e0 hro hg0 hr1 b00 cT x0 x1 x2
            go_wp2
            go_roundw
            case rel => exact ⟨j + 1, _, _, by go_num, by omega, by rw [HL2.out, HE.out]; exact HA.out⟩
            case measure => simp [intOf]; omega)
    · have hjn : plain (qs.take j) = plain qs := by rw [List.take_of_length_le (by have := HQL.out; omega)]
      rw [hjn] at hR
      have hge := sendL_ge (plain qs) L
      have hle := sendL_len (plain qs) L hL
      have d0 := hR.at_.cell
      obtain ⟨va', vc', rfl⟩ := own_slice hR.at_.row
      have HLN := Lib.hid hR.at_.len
      have HR := Lib.hid hR
      have HLQ := Lib.hid H.out.len
      obtain ⟨m, hm⟩ : ∃ m, m = Q'.length := ⟨_, rfl⟩
      have HM := Lib.hid hm
      rw [← hm] at d0 HR
      have hm1 : m ≤ 200 := by rw [hm, HLN.out]; exact hle
      have hm2 : m0 ≤ 200 := by rw [HM0.out, HLQ.out]; exact hL
      clear hR hjn hm hge hle
      go_wp2
      go_ret
      refine ⟨_, Q', ?_, HR.out⟩
      rw [← HLN.out, ← HM.out, ← HLQ.out, ← HM0.out]
      rfl

end Go.Proofs.Ytenpoolminfofaa
