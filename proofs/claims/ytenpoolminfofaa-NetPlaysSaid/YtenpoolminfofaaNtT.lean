/-
  The walk of NetPlays.
-/
import Derived.Test.YtenpoolminfofaaNtS
set_option linter.unusedVariables false
namespace Go.Proofs.Ytenpoolminfofaa
open Go.RowKit

theorem awake6_c (w wx : World) (hb : Below w.heap.size w wx) : Calls Try.prog 8 #[] wx (AwPost w) :=
  (awake6 wx).mono fun e w' h => ⟨h.1, hb.trans (h.2.mono hb.size)⟩

set_option maxHeartbeats 4000000 in
set_option maxRecDepth 100000 in
theorem NetPlays_long (a0 : Option Addr) (len0 cap0 : Nat) (w : World) (h : 150 < len0) :
    Calls Try.prog 3 #[.slice a0 len0 cap0] w (AwPost w) := by
  have cW := awake6 w
  have h1 : (150 : Int) < (len0 : Int) := by omega
  go_enter Try.func3, Try.ntmps3
  go_wp2_with (go_at_call 8; (with_reducible refine cW.mono ?_))
  rintro e W1 ⟨rfl, hb⟩
  go_wp2
  go_ret
  exact ⟨rfl, hb⟩

/-- Where NetPlays stands. -/
structure PlR (w wr : World) (g g2 : Nat) (v : Value) (Q : List (Value × Pk)) (v2 : Value) (Q2 : List (Value × Pk)) (L : List Pk) : Prop where
  duo : Duo wr w.heap.size g v Q L g2 v2 Q2 L
  good : Good L
  low : Below w.heap.size w wr
theorem PlR.step {w wr w' : World} {g g2 : Nat} {v v2 : Value} {Q Q2 : List (Value × Pk)} {L : List Pk} (h : PlR w wr g g2 v Q v2 Q2 L) (hb : Below wr.heap.size wr w') (hd : Duo w' w.heap.size g v Q L g2 v2 Q2 L) : PlR w w' g g2 v Q v2 Q2 L :=
  ⟨hd, h.good, h.low.trans (hb.mono h.low.size)⟩
theorem PlR.below {w wr w' : World} {g g2 : Nat} {v v2 : Value} {Q Q2 : List (Value × Pk)} {L : List Pk} (h : PlR w wr g g2 v Q v2 Q2 L) (hb : Below wr.heap.size wr w') : PlR w w' g g2 v Q v2 Q2 L :=
  h.step hb (h.duo.below hb)
theorem atL_ok (L : List Pk) (k : Int) : (atL L k).2 = hasL k L.length := by
  cases h : hasL k L.length with
  | false => rw [atL_no h]
  | true => unfold atL; rw [h]; rfl

/-- Both are sent the same. -/
def SentP (t : TypeId) (W0 : World) (B g : Nat) (v : Value) (Q : List (Value × Pk)) (L' : List Pk) (r : Value) (p : Addr) (u : Value) (e : Ending) (w' : World) : Prop :=
  ∃ v' Q', e = .returned r ∧ NtRel t W0 w' B g v Q v' Q' L' ∧ w'.cell? p = some u
theorem sentP {t : TypeId} {W0 Wd : World} {B g bx : Nat} {v : Value} {Q : List (Value × Pk)} {L L' : List Pk} {r u : Value} {j : Nat} {f : Nat} {args : Array Value} (h : NtAt t Wd B g v Q L) (hb : Below W0.heap.size W0 Wd) (hbx : bx < Wd.heap.size) (hnb : ¬ NtS g v bx) (hc : Wd.cell? ⟨bx, j, none⟩ = some u)
    (c : Calls Try.prog f args Wd (ResPost t Wd B g v Q r L')) : Calls Try.prog f args Wd (SentP t W0 B g v Q L' r ⟨bx, j, none⟩ u) :=
  c.mono fun e w' ⟨v', Q', he, R⟩ => ⟨v', Q', he, R.back hb, (R.kept.cell (p := ⟨bx, j, none⟩) hbx hnb).trans hc⟩

set_option maxHeartbeats 16000000 in
set_option maxRecDepth 100000 in
theorem NetPlays_body (a0 : Option Addr) (len0 cap0 : Nat) (ss : List Sp) (w : World) (h : SpsIn w a0 len0 ss) :
    Calls Try.prog 3 #[.slice a0 len0 cap0] w (AwPost w) := by
  by_cases hlong : 150 < len0
  · exact NetPlays_long a0 len0 cap0 w hlong
  · have h1 : ¬ (150 : Int) < (len0 : Int) := by omega
    have hl150 : len0 ≤ 150 := by omega
    have cN := nNew w
    have HS := Lib.hid h
    have cW := fun wx hb => awake6_c w wx hb
    clear h hlong
    go_enter Try.func3, Try.ntmps3
    go_wp2_with (go_at_call 9; (with_reducible refine cN.mono ?_))
    rintro e W1 ⟨g, rfl, h1', b1⟩
    have bA := (Below.refl W1.heap.size W1).alloc (Nat.le_refl _) (.cells #[.slice none 0 0] 29)
    have hz := nt_zero W1 29 (by decide)
    have HP0 : Hid (PlR w (W1.alloc (.cells #[.slice none 0 0] 29)) g W1.heap.size (.slice none 0 0) [] (.slice none 0 0) [] []) := by
      refine ⟨⟨h1'.below bA, ⟨b1.size, hz.eq, hz.blk, own_low hz.row b1.size, fun q hq => (by cases hq), hz.typ⟩, fun k e e2 => ?_⟩, Good.nil, b1.trans (bA.mono b1.size)⟩
      have := (h1'.ltAll k e).2
      rcases e2 with (e2 | e2) | ⟨q, hq, _⟩
      · omega
      · cases e2
      · cases hq
    obtain ⟨g2, hg2⟩ : ∃ g2, g2 = W1.heap.size := ⟨_, rfl⟩
    rw [← hg2] at HP0
    clear cN h1' b1 bA hz
    go_wp2
    rw [← hg2]
    clear hg2
    go_loopw [5] (fun i wr => ∃ (j : Nat) (v : Value) (Q : List (Value × Pk)) (v2 : Value) (Q2 : List (Value × Pk)) (L : List Pk), i = .int .i64 j ∧ j ≤ len0 ∧ Hid (PlR w wr g g2 v Q v2 Q2 L)) (fun i _ => len0 - (intOf i).toNat)
    case atStart => exact ⟨0, _, _, _, _, _, rfl, Nat.zero_le _, HP0⟩
    case round =>
      obtain ⟨j, v, Q, v2, Q2, L, rfl, hj, HR⟩ := hrel
      clear HP0
      by_cases hlt : j < len0
      · have hlt2 : j < ss.length := by rw [HS.out.1]; exact hlt
        obtain ⟨x, hax, hst⟩ := HS.out.at j hlt2
        subst hax
        obtain ⟨⟨kd, la, ln, lc, qs, K⟩, hs⟩ : ∃ s, s = ss[j]'hlt2 := ⟨_, rfl⟩
        rw [← hs] at hst
        obtain ⟨c0, c1, c2, hpk, hnl, hln⟩ := hst
        simp only at c0 c1 c2 hpk hnl hln
        have hlw := HR.out.low
        have f : ∀ {a : Addr} {u : Value}, w.cell? a = some u → wr.cell? a = some u := fun hc => (hlw.cell (World.block_lt_of_cell? w _ hc)).trans hc
        have c0 := f c0
        have c1 := f c1
        have c2 := f c2
        rw [fld x (j * 3) 1 (by decide)] at c1
        rw [fld x (j * 3) 2 (by decide)] at c2
        have HPK := Lib.hid hpk
        have HNL := Lib.hid hnl
        have i1 : (0 : Int) ≤ (j : Int) := by omega
        have i2 : (j : Int) < (len0 : Int) := by omega
        have bA := (Below.refl wr.heap.size wr).alloc (Nat.le_refl _) (.cells #[.int .i64 kd, .slice la ln lc, .int .i64 K] 31)
        have gA := heap_alloc_new wr (.cells #[.int .i64 kd, .slice la ln lc, .int .i64 K] 31)
        have hlwA := hlw.trans (bA.mono hlw.size)
        have HLW := Lib.hid hlwA
        have D0 := HR.out.duo.below bA
        have HD0 := Lib.hid D0
        have HGOOD := Lib.hid HR.out.good
        have hnb1 : ¬ NtS g v wr.heap.size := fun e => by have := (HR.out.duo.l.ltS _ e).2; omega
        have hnb2 : ¬ NtAll g2 v2 Q2 wr.heap.size := fun e => by have := (HR.out.duo.r.ltAll _ e).2; omega
        have HNB1 := Lib.hid hnb1
        have HNB2 := Lib.hid hnb2
        clear hpk hnl hs f hlw D0 hnb1 hnb2
        by_cases h100 : 100 < ln
        · have j1 : (100 : Int) < (ln : Int) := by omega
          have cW1 := cW _ hlwA
          clear hlwA bA gA cW
          go_wp2_with (go_at_call 8; (with_reducible refine cW1.mono ?_))
          rintro e W2 ⟨rfl, b2⟩
          go_wp2
          go_ret
          exact ⟨rfl, b2⟩
        · have j1 : ¬ (100 : Int) < (ln : Int) := by omega
          have hln2 : ln ≤ 1000000 := by omega
          clear hlwA
          obtain ⟨W0, hW0⟩ : ∃ W, W = wr.alloc (.cells #[.int .i64 kd, .slice la ln lc, .int .i64 K] 31) := ⟨_, rfl⟩
          have hbx : wr.heap.size < W0.heap.size := by rw [hW0, World.size_alloc]; omega
          rw [← hW0] at HD0 HLW gA bA
          have y0 : W0.cell? ⟨wr.heap.size, 0, none⟩ = some (.int .i64 kd) := by rw [cell_of_row _ _ _ _ _ _ gA]; rfl
          have y1 : W0.cell? ⟨wr.heap.size, 1, none⟩ = some (.slice la ln lc) := by rw [cell_of_row _ _ _ _ _ _ gA]; rfl
          have y2 : W0.cell? ⟨wr.heap.size, 2, none⟩ = some (.int .i64 K) := by rw [cell_of_row _ _ _ _ _ _ gA]; rfl
          have HGA := Lib.hid gA
          have HBA := Lib.hid bA
          clear gA bA
          have HW0 := Lib.hid hW0
          clear hW0
          by_cases k1 : kd = 1
          · subst k1
            obtain ⟨r, hr⟩ : ∃ r : Int, r = ((sendL L (plain qs)).length : Int) - (L.length : Int) := ⟨_, rfl⟩
            have D := HD0.out
            have cS1 : Calls Try.prog 10 #[.pointer (some ⟨g, 0, none⟩), .slice la ln lc] W0.drew (SentP 46 W0 w.heap.size g v Q (sendL L (plain qs)) (.int .i64 r) ⟨wr.heap.size, 1, none⟩ (.slice la ln lc)) := by
              rw [hr]
              exact sentP (Wd := W0.drew) D.l.drew ((Below.refl _ _).drew) hbx HNB1.out y1 (nSend W0.drew w.heap.size g v Q L la ln lc qs D.l.drew HLW.out.size HGOOD.out.1 hln2 (fun wx hk => HPK.out.below ((HLW.out.drew).trans (hk.below (B := w.heap.size) HLW.out.size (fun k e => (D.l.ltS k e).1)))))
            have cS2 : ∀ W6 v6 Q6, NtRel 46 W0 W6 w.heap.size g v Q v6 Q6 (sendL L (plain qs)) → W6.cell? ⟨wr.heap.size, 1, none⟩ = some (.slice la ln lc) → Calls Try.prog 11 #[.pointer (some ⟨g2, 0, none⟩), .slice la ln lc] W6 (SentP 29 W6 w.heap.size g2 v2 Q2 (sendL L (plain qs)) (.int .i64 r) ⟨wr.heap.size, 1, none⟩ (.slice la ln lc)) := fun W6 v6 Q6 R6 c6 => by
              rw [hr]
              have D6 := D.left R6
              have hw6 := HLW.out.trans (R6.low D.l HLW.out.size)
              exact sentP D6.r (Below.refl _ _) (Nat.lt_of_lt_of_le hbx R6.kept.size) (fun e => HNB2.out (.inl e)) c6 (rSend W6 w.heap.size g2 v2 Q2 L la ln lc qs D6.r hw6.size HGOOD.out.1 hln2 (fun wx hk => HPK.out.below (hw6.trans (hk.below (B := w.heap.size) hw6.size (fun k e => (D6.r.ltS k e).1)))) HNL.out)
            have hrr : (r == r) = true := by simp
            clear hr D
            go_wp2
            rw [← HW0.out]
            go_region_held3 (fun w' => w'.cell? ⟨wr.heap.size, 1, none⟩ = some (.slice la ln lc))
              (first
                | exact y1
                | exact c6
                | exact c7
                | go_keep)
              (first
                | (go_at_call 10; refine cS1.mono ?_; rintro e W6 ⟨v6, Q6, rfl, R6, c6⟩)
                | (go_at_call 11; refine (cS2 _ _ _ R6 c6).mono ?_; rintro e W7 ⟨v7, Q7, rfl, R7, c7⟩))
            have D6 := HD0.out.left R6
            have HP7 : Hid (PlR w W7 g g2 v6 Q6 v7 Q7 (sendL L (plain qs))) := ⟨D6.right R7, HGOOD.out.send _, (HLW.out.trans (R6.low HD0.out.l HLW.out.size)).trans (R7.low D6.r (Nat.le_trans HLW.out.size R6.kept.size))⟩
            clear R6 R7 c6 c7 D6 cS1 cS2 y0 y1 y2
            obtain ⟨ra, rc, hv7⟩ := own_slice HP7.out.duo.r.row
            have d2 := HP7.out.duo.r.cell
            rw [hv7, HP7.out.duo.r.len] at d2
            have cL := fun k => Calls.quiet_of_same (nLen (W7.drewN k) _ _ _ _ _ (HP7.out.duo.l.kept (S := fun _ => False) ((Kept.refl _ _).drewN k) (fun _ _ h => h)))
            obtain ⟨mL, hmL⟩ : ∃ m, m = (sendL L (plain qs)).length := ⟨_, rfl⟩
            rw [← hmL] at d2 cL
            have hne : ((mL : Int) != (mL : Int)) = false := by simp
            clear hv7 hmL
            go_wp2
            go_quiet ((go_at_call 22; exact cL _))
            go_wp2
            exact ⟨⟨j + 1, _, _, _, _, _, by go_num, by omega, HP7.out.below (below_drewN (Below.refl _ _) _)⟩, by simp [intOf]; omega⟩
          · obtain ⟨⟨⟨pf, pt, pb⟩, ok⟩, hp⟩ : ∃ p, p = atL L K := ⟨_, rfl⟩
            have hok : ok = hasL K L.length := by rw [← atL_ok, ← hp]
            have hpb : pb.length ≤ 131072 := by have := HGOOD.out.at K; rw [← hp] at this; exact this
            obtain ⟨pn, hpn⟩ : ∃ pn, pn = pb.length := ⟨_, rfl⟩
            rw [← hpn] at hpb
            have HP := Lib.hid hp
            have HOK := Lib.hid hok
            have HPN := Lib.hid hpn
            have hoo : (ok == ok) = true := by simp
            clear hp hok hpn
            by_cases k2 : kd = 2
            · subst k2
              have c1 := nDeliver' W0 w.heap.size g v Q L K HD0.out.l HLW.out.size (by have := HGOOD.out.1; omega) HGOOD.out.b pf pt pb pn ok (dropL L K) HP.out.symm HPN.out.symm rfl
              rw [HW0.out] at c1
              go_wp2_with (go_at_call 12; (with_reducible refine c1.mono ?_))
              rintro e W5 ⟨a5, c5, v5, Q5, rfl, o5, n5, R5⟩
              rw [← HW0.out] at R5 o5
              have D5 := HD0.out.left R5
              have yb := (R5.kept.cell (p := ⟨wr.heap.size, 2, none⟩) hbx HNB1.out).trans y2
              have bA := (Below.refl W5.heap.size W5).alloc (Nat.le_refl _) (.cells #[.int .i64 pf, .int .i64 pt, .slice a5 pn c5] 36)
              have G1 := heap_alloc_new W5 (.cells #[.int .i64 pf, .int .i64 pt, .slice a5 pn c5] 36)
              have yb2 := alloc_cell yb (.cells #[.int .i64 pf, .int .i64 pt, .slice a5 pn c5] 36)
              have D5A := D5.below bA
              have o5A := Kept.own o5 (Kept.of_below (S := fun _ => False) bA) (fun _ _ h => h)
              have hl5 := HLW.out.trans (R5.low HD0.out.l HLW.out.size)
              have hl5A := hl5.trans (bA.mono hl5.size)
              have c2 := rDeliver _ w.heap.size g2 v2 Q2 L K D5A.r hl5A.size (by have := HGOOD.out.1; omega) pf pt pb pn ok HP.out.symm HPN.out.symm
              have HD5A := Lib.hid D5A
              have HO5A := Lib.hid o5A
              have HL5A := Lib.hid hl5A
              have HG1 := Lib.hid G1
              have HN5 : Hid (¬ NtS g2 v2 W5.heap.size) := fun e => by have := (D5.r.ltS _ e).2; omega
              clear D5 R5 yb bA G1 D5A o5A hl5 hl5A o5 n5 c1 y0 y1 y2
              go_wp2_with (go_at_call 13; (with_reducible refine c2.mono ?_))
              rintro e W6 ⟨a6, c6, v6, Q6, rfl, t6, R6⟩
              have D6 := HD5A.out.right R6
              have G1' := (R6.kept.block W5.heap.size (by simp) HN5.out).trans HG1.out
              have o6 := Kept.own HO5A.out R6.kept (fun k e e2 => by have := (own_lt HO5A.out k e).1; have := (HD0.out.r.ltS k e2).2; omega)
              have bA2 := (Below.refl W6.heap.size W6).alloc (Nat.le_refl _) (.cells #[.int .i64 pf, .int .i64 pt, .slice a6 pn c6] 36)
              obtain ⟨x0, x1, x2, _⟩ := box_cells (box_alloc G1' (.cells #[.int .i64 pf, .int .i64 pt, .slice a6 pn c6] 36))
              obtain ⟨z0, z1, z2, _⟩ := box_cells (heap_alloc_new W6 (.cells #[.int .i64 pf, .int .i64 pt, .slice a6 pn c6] 36))
              have cA := alike_same pf pt a5 a6 pn c5 c6 pb _ HPN.out.symm (by omega) ((Bts.own o6).later bA2) (t6.later bA2)
              have hl6 := HL5A.out.trans (R6.low HD5A.out.r HL5A.out.size)
              have HP6 : Hid (PlR w (W6.alloc (.cells #[.int .i64 pf, .int .i64 pt, .slice a6 pn c6] 36)) g g2 v5 Q5 v6 Q6 (dropL L K)) := ⟨D6.below bA2, HGOOD.out.drop K, hl6.trans (bA2.mono hl6.size)⟩
              clear D6 R6 G1' o6 bA2 hl6 t6 c2 yb2
              go_wp2_with (go_at_call 14; (with_reducible refine cA.mono ?_))
              rintro e W7 ⟨rfl, b7⟩
              have HP7 := Lib.hid (HP6.out.below b7)
              clear b7 cA x0 x1 x2 z0 z1 z2
              obtain ⟨ra, rc, hv7⟩ := own_slice HP7.out.duo.r.row
              have d2 := HP7.out.duo.r.cell
              rw [hv7, HP7.out.duo.r.len] at d2
              have cL := fun k => Calls.quiet_of_same (nLen (W7.drewN k) _ _ _ _ _ (HP7.out.duo.l.kept (S := fun _ => False) ((Kept.refl _ _).drewN k) (fun _ _ h => h)))
              obtain ⟨mL, hmL⟩ : ∃ m, m = (dropL L K).length := ⟨_, rfl⟩
              rw [← hmL] at d2 cL
              have hne : ((mL : Int) != (mL : Int)) = false := by simp
              clear hv7 hmL
              go_wp2
              go_quiet ((go_at_call 22; exact cL _))
              go_wp2
              exact ⟨⟨j + 1, _, _, _, _, _, by go_num, by omega, HP7.out.below (below_drewN (Below.refl _ _) _)⟩, by simp [intOf]; omega⟩
            · by_cases k3 : kd = 3
              · subst k3
                have c1 := rDeliver W0 w.heap.size g2 v2 Q2 L K HD0.out.r HLW.out.size (by have := HGOOD.out.1; omega) pf pt pb pn ok HP.out.symm HPN.out.symm
                rw [HW0.out] at c1
                go_wp2_with (go_at_call 13; (with_reducible refine c1.mono ?_))
                rintro e W5 ⟨a5, c5, v6, Q6, rfl, t5, R5⟩
                rw [← HW0.out] at R5
                have D5 := HD0.out.right R5
                have yb := (R5.kept.cell (p := ⟨wr.heap.size, 2, none⟩) hbx (fun e => HNB2.out (.inl e))).trans y2
                have bA := (Below.refl W5.heap.size W5).alloc (Nat.le_refl _) (.cells #[.int .i64 pf, .int .i64 pt, .slice a5 pn c5] 36)
                have yb2 := alloc_cell yb (.cells #[.int .i64 pf, .int .i64 pt, .slice a5 pn c5] 36)
                have D5A := D5.below bA
                have hl5 := HLW.out.trans (R5.low HD0.out.r HLW.out.size)
                have hl5A := hl5.trans (bA.mono hl5.size)
                have c2 := nDrop _ w.heap.size g v Q L K D5A.l (by have := HGOOD.out.1; omega)
                rw [← HOK.out] at c2
                have HD5A := Lib.hid D5A
                have HL5A := Lib.hid hl5A
                clear D5 R5 yb bA D5A hl5 hl5A t5 c1 y0 y1 y2
                go_wp2_with (go_at_call 15; (with_reducible refine c2.mono ?_))
                rintro e W6 ⟨v5, Q5, rfl, R6⟩
                have HP7 : Hid (PlR w W6 g g2 v5 Q5 v6 Q6 (dropL L K)) := ⟨HD5A.out.left R6, HGOOD.out.drop K, HL5A.out.trans (R6.low HD5A.out.l HL5A.out.size)⟩
                clear R6 c2 yb2
                obtain ⟨ra, rc, hv7⟩ := own_slice HP7.out.duo.r.row
                have d2 := HP7.out.duo.r.cell
                rw [hv7, HP7.out.duo.r.len] at d2
                have cL := fun k => Calls.quiet_of_same (nLen (W6.drewN k) _ _ _ _ _ (HP7.out.duo.l.kept (S := fun _ => False) ((Kept.refl _ _).drewN k) (fun _ _ h => h)))
                obtain ⟨mL, hmL⟩ : ∃ m, m = (dropL L K).length := ⟨_, rfl⟩
                rw [← hmL] at d2 cL
                have hne : ((mL : Int) != (mL : Int)) = false := by simp
                clear hv7 hmL
                go_wp2
                go_quiet ((go_at_call 22; exact cL _))
                go_wp2
                exact ⟨⟨j + 1, _, _, _, _, _, by go_num, by omega, HP7.out.below (below_drewN (Below.refl _ _) _)⟩, by simp [intOf]; omega⟩
              · by_cases k4 : kd = 4
                · subst k4
                  obtain ⟨r, hr⟩ : ∃ r : Value, r = .bool (twiceB L K) := ⟨_, rfl⟩
                  have D := HD0.out
                  have cS1 : Calls Try.prog 16 #[.pointer (some ⟨g, 0, none⟩), .int .i64 K] W0.drew (SentP 46 W0 w.heap.size g v Q (twiceL L K) r ⟨wr.heap.size, 2, none⟩ (.int .i64 K)) := by
                    rw [hr]
                    exact sentP (Wd := W0.drew) D.l.drew ((Below.refl _ _).drew) hbx HNB1.out y2 (nTwice W0.drew w.heap.size g v Q L K D.l.drew HLW.out.size)
                  have cS2 : ∀ W6 v6 Q6, NtRel 46 W0 W6 w.heap.size g v Q v6 Q6 (twiceL L K) → W6.cell? ⟨wr.heap.size, 2, none⟩ = some (.int .i64 K) → Calls Try.prog 17 #[.pointer (some ⟨g2, 0, none⟩), .int .i64 K] W6 (SentP 29 W6 w.heap.size g2 v2 Q2 (twiceL L K) r ⟨wr.heap.size, 2, none⟩ (.int .i64 K)) := fun W6 v6 Q6 R6 c6 => by
                    rw [hr]
                    have D6 := D.left R6
                    have hw6 := HLW.out.trans (R6.low D.l HLW.out.size)
                    exact sentP D6.r (Below.refl _ _) (Nat.lt_of_lt_of_le hbx R6.kept.size) (fun e => HNB2.out (.inl e)) c6 (rTwice W6 w.heap.size g2 v2 Q2 L K D6.r hw6.size HGOOD.out.1 HGOOD.out.2)
                  obtain ⟨rb, hrb⟩ : ∃ rb : Bool, rb = twiceB L K := ⟨_, rfl⟩
                  rw [← hrb] at hr
                  subst hr
                  have hrr : (rb == rb) = true := by simp
                  clear hrb
                  clear D
                  go_wp2
                  rw [← HW0.out]
                  go_region_held3 (fun w' => w'.cell? ⟨wr.heap.size, 2, none⟩ = some (.int .i64 K))
                    (first
                      | exact y2
                      | exact c6
                      | exact c7
                      | go_keep)
                    (first
                      | (go_at_call 16; refine cS1.mono ?_; rintro e W6 ⟨v6, Q6, rfl, R6, c6⟩)
                      | (go_at_call 17; refine (cS2 _ _ _ R6 c6).mono ?_; rintro e W7 ⟨v7, Q7, rfl, R7, c7⟩))
                  have D6 := HD0.out.left R6
                  have HP7 : Hid (PlR w W7 g g2 v6 Q6 v7 Q7 (twiceL L K)) := ⟨D6.right R7, HGOOD.out.twice K, (HLW.out.trans (R6.low HD0.out.l HLW.out.size)).trans (R7.low D6.r (Nat.le_trans HLW.out.size R6.kept.size))⟩
                  clear R6 R7 c6 c7 D6 cS1 cS2 y0 y1 y2
                  obtain ⟨ra, rc, hv7⟩ := own_slice HP7.out.duo.r.row
                  have d2 := HP7.out.duo.r.cell
                  rw [hv7, HP7.out.duo.r.len] at d2
                  have cL := fun k => Calls.quiet_of_same (nLen (W7.drewN k) _ _ _ _ _ (HP7.out.duo.l.kept (S := fun _ => False) ((Kept.refl _ _).drewN k) (fun _ _ h => h)))
                  obtain ⟨mL, hmL⟩ : ∃ m, m = (twiceL L K).length := ⟨_, rfl⟩
                  rw [← hmL] at d2 cL
                  have hne : ((mL : Int) != (mL : Int)) = false := by simp
                  clear hv7 hmL
                  go_wp2
                  go_quiet ((go_at_call 22; exact cL _))
                  go_wp2
                  exact ⟨⟨j + 1, _, _, _, _, _, by go_num, by omega, HP7.out.below (below_drewN (Below.refl _ _) _)⟩, by simp [intOf]; omega⟩
                · by_cases k5 : kd = 5
                  · subst k5
                    obtain ⟨r, hr⟩ : ∃ r : Value, r = .int .i64 ((L.length : Int) - ((clearL K L).length : Int)) := ⟨_, rfl⟩
                    have D := HD0.out
                    have cS1 : Calls Try.prog 18 #[.pointer (some ⟨g, 0, none⟩), .int .i64 K] W0.drew (SentP 46 W0 w.heap.size g v Q (clearL K L) r ⟨wr.heap.size, 2, none⟩ (.int .i64 K)) := by
                      rw [hr]
                      exact sentP (Wd := W0.drew) D.l.drew ((Below.refl _ _).drew) hbx HNB1.out y2 (nClear W0.drew w.heap.size g v Q L K D.l.drew HLW.out.size (by have := HGOOD.out.1; omega))
                    have cS2 : ∀ W6 v6 Q6, NtRel 46 W0 W6 w.heap.size g v Q v6 Q6 (clearL K L) → W6.cell? ⟨wr.heap.size, 2, none⟩ = some (.int .i64 K) → Calls Try.prog 19 #[.pointer (some ⟨g2, 0, none⟩), .int .i64 K] W6 (SentP 29 W6 w.heap.size g2 v2 Q2 (clearL K L) r ⟨wr.heap.size, 2, none⟩ (.int .i64 K)) := fun W6 v6 Q6 R6 c6 => by
                      rw [hr]
                      have D6 := D.left R6
                      have hw6 := HLW.out.trans (R6.low D.l HLW.out.size)
                      exact sentP D6.r (Below.refl _ _) (Nat.lt_of_lt_of_le hbx R6.kept.size) (fun e => HNB2.out (.inl e)) c6 (rClear W6 w.heap.size g2 v2 Q2 L K D6.r hw6.size (by have := HGOOD.out.1; omega))
                    obtain ⟨rb, hrb⟩ : ∃ rb : Int, rb = (L.length : Int) - ((clearL K L).length : Int) := ⟨_, rfl⟩
                    rw [← hrb] at hr
                    subst hr
                    have hrr : (rb == rb) = true := by simp
                    clear hrb
                    clear D
                    go_wp2
                    rw [← HW0.out]
                    go_region_held3 (fun w' => w'.cell? ⟨wr.heap.size, 2, none⟩ = some (.int .i64 K))
                      (first
                        | exact y2
                        | exact c6
                        | exact c7
                        | go_keep)
                      (first
                        | (go_at_call 18; refine cS1.mono ?_; rintro e W6 ⟨v6, Q6, rfl, R6, c6⟩)
                        | (go_at_call 19; refine (cS2 _ _ _ R6 c6).mono ?_; rintro e W7 ⟨v7, Q7, rfl, R7, c7⟩))
                    have D6 := HD0.out.left R6
                    have HP7 : Hid (PlR w W7 g g2 v6 Q6 v7 Q7 (clearL K L)) := ⟨D6.right R7, HGOOD.out.clear K, (HLW.out.trans (R6.low HD0.out.l HLW.out.size)).trans (R7.low D6.r (Nat.le_trans HLW.out.size R6.kept.size))⟩
                    clear R6 R7 c6 c7 D6 cS1 cS2 y0 y1 y2
                    obtain ⟨ra, rc, hv7⟩ := own_slice HP7.out.duo.r.row
                    have d2 := HP7.out.duo.r.cell
                    rw [hv7, HP7.out.duo.r.len] at d2
                    have cL := fun k => Calls.quiet_of_same (nLen (W7.drewN k) _ _ _ _ _ (HP7.out.duo.l.kept (S := fun _ => False) ((Kept.refl _ _).drewN k) (fun _ _ h => h)))
                    obtain ⟨mL, hmL⟩ : ∃ m, m = (clearL K L).length := ⟨_, rfl⟩
                    rw [← hmL] at d2 cL
                    have hne : ((mL : Int) != (mL : Int)) = false := by simp
                    clear hv7 hmL
                    go_wp2
                    go_quiet ((go_at_call 22; exact cL _))
                    go_wp2
                    exact ⟨⟨j + 1, _, _, _, _, _, by go_num, by omega, HP7.out.below (below_drewN (Below.refl _ _) _)⟩, by simp [intOf]; omega⟩
                  · by_cases k6 : kd = 6
                    · subst k6
                      have c1 := nPeek' W0 w.heap.size g v Q L K HD0.out.l HGOOD.out.b pf pt pb pn ok HP.out.symm HPN.out.symm
                      rw [HW0.out] at c1
                      go_wp2_with (go_at_call 20; (with_reducible refine c1.mono ?_))
                      rintro e W5 ⟨a5, c5, rfl, o5, b5⟩
                      rw [← HW0.out] at o5 b5
                      have yb := (b5.cell (p := ⟨wr.heap.size, 2, none⟩) hbx).trans y2
                      have bA := (Below.refl W5.heap.size W5).alloc (Nat.le_refl _) (.cells #[.int .i64 pf, .int .i64 pt, .slice a5 pn c5] 36)
                      have G1 := heap_alloc_new W5 (.cells #[.int .i64 pf, .int .i64 pt, .slice a5 pn c5] 36)
                      have yb2 := alloc_cell yb (.cells #[.int .i64 pf, .int .i64 pt, .slice a5 pn c5] 36)
                      have D5A := (HD0.out.below b5).below bA
                      have hl5A := (HLW.out.trans (b5.mono HLW.out.size)).trans (bA.mono (Nat.le_trans HLW.out.size b5.size))
                      have c2 := rPeek _ w.heap.size g2 v2 Q2 L K D5A.r pf pt pb pn ok HP.out.symm HPN.out.symm
                      have t5 := (Bts.own o5).later bA
                      have HD5A := Lib.hid D5A
                      have HL5A := Lib.hid hl5A
                      have HG1 := Lib.hid G1
                      have HT5 := Lib.hid t5
                      clear yb bA G1 D5A hl5A o5 b5 c1 t5 y0 y1 y2
                      go_wp2_with (go_at_call 21; (with_reducible refine c2.mono ?_))
                      rintro e W6 ⟨a6, c6, rfl, t6, n6, l6, b6⟩
                      have G1' := box_below HG1.out b6 (by simp)
                      have bA2 := (Below.refl W6.heap.size W6).alloc (Nat.le_refl _) (.cells #[.int .i64 pf, .int .i64 pt, .slice a6 pn c6] 36)
                      obtain ⟨x0, x1, x2, _⟩ := box_cells (box_alloc G1' (.cells #[.int .i64 pf, .int .i64 pt, .slice a6 pn c6] 36))
                      obtain ⟨z0, z1, z2, _⟩ := box_cells (heap_alloc_new W6 (.cells #[.int .i64 pf, .int .i64 pt, .slice a6 pn c6] 36))
                      have cA := alike_same pf pt a5 a6 pn c5 c6 pb _ HPN.out.symm (by omega) ((HT5.out.later b6).later bA2) ((t6.later b6).later bA2)
                      have D6 := (HD5A.out.below b6).below bA2
                      have hl6 := (HL5A.out.trans (b6.mono HL5A.out.size)).trans (bA2.mono (Nat.le_trans HL5A.out.size b6.size))
                      have HP6 : Hid (PlR w (W6.alloc (.cells #[.int .i64 pf, .int .i64 pt, .slice a6 pn c6] 36)) g g2 v Q v2 Q2 L) := ⟨D6, HGOOD.out, hl6⟩
                      clear D6 G1' bA2 hl6 t6 n6 l6 b6 c2 yb2
                      go_wp2_with (go_at_call 14; (with_reducible refine cA.mono ?_))
                      rintro e W7 ⟨rfl, b7⟩
                      have HP7 := Lib.hid (HP6.out.below b7)
                      clear b7 cA x0 x1 x2 z0 z1 z2
                      obtain ⟨ra, rc, hv7⟩ := own_slice HP7.out.duo.r.row
                      have d2 := HP7.out.duo.r.cell
                      rw [hv7, HP7.out.duo.r.len] at d2
                      have cL := fun k => Calls.quiet_of_same (nLen (W7.drewN k) _ _ _ _ _ (HP7.out.duo.l.kept (S := fun _ => False) ((Kept.refl _ _).drewN k) (fun _ _ h => h)))
                      obtain ⟨mL, hmL⟩ : ∃ m, m = (L).length := ⟨_, rfl⟩
                      rw [← hmL] at d2 cL
                      have hne : ((mL : Int) != (mL : Int)) = false := by simp
                      clear hv7 hmL
                      go_wp2
                      go_quiet ((go_at_call 22; exact cL _))
                      go_wp2
                      exact ⟨⟨j + 1, _, _, _, _, _, by go_num, by omega, HP7.out.below (below_drewN (Below.refl _ _) _)⟩, by simp [intOf]; omega⟩
                    · have q1 : (kd == 1) = false := beq_false_of_ne k1
                      have q2 : (kd == 2) = false := beq_false_of_ne k2
                      have q3 : (kd == 3) = false := beq_false_of_ne k3
                      have q4 : (kd == 4) = false := beq_false_of_ne k4
                      have q5 : (kd == 5) = false := beq_false_of_ne k5
                      have q6 : (kd == 6) = false := beq_false_of_ne k6
                      have HP7 : Hid (PlR w (wr.alloc (.cells #[.int .i64 kd, .slice la ln lc, .int .i64 K] 31)) g g2 v Q v2 Q2 L) := ⟨by rw [← HW0.out]; exact HD0.out, HGOOD.out, by rw [← HW0.out]; exact HLW.out⟩
                      clear k1 k2 k3 k4 k5 k6 y0 y1 y2
                      obtain ⟨ra, rc, hv7⟩ := own_slice HP7.out.duo.r.row
                      have d2 := HP7.out.duo.r.cell
                      rw [hv7, HP7.out.duo.r.len] at d2
                      have cL := fun k => Calls.quiet_of_same (nLen ((wr.alloc (.cells #[.int .i64 kd, .slice la ln lc, .int .i64 K] 31)).drewN k) _ _ _ _ _ (HP7.out.duo.l.kept (S := fun _ => False) ((Kept.refl _ _).drewN k) (fun _ _ h => h)))
                      obtain ⟨mL, hmL⟩ : ∃ m, m = (L).length := ⟨_, rfl⟩
                      rw [← hmL] at d2 cL
                      have hne : ((mL : Int) != (mL : Int)) = false := by simp
                      clear hv7 hmL
                      go_wp2
                      go_quiet ((go_at_call 22; exact cL _))
                      go_wp2
                      exact ⟨⟨j + 1, _, _, _, _, _, by go_num, by omega, HP7.out.below (below_drewN (Below.refl _ _) _)⟩, by simp [intOf]; omega⟩
      · have i2 : ¬ (j : Int) < (len0 : Int) := by omega
        have HR0 := HR
        clear HR HS
        go_wp2
        obtain ⟨wx, hwx⟩ : ∃ wx, wx = wr := ⟨_, rfl⟩
        subst hwx
        go_loopw [18] (fun i wr => ∃ k : Nat, i = .int .i64 k ∧ k ≤ L.length ∧ Hid (PlR w wr g g2 v Q v2 Q2 L)) (fun i _ => L.length - (intOf i).toNat)
        case atStart => exact ⟨0, rfl, Nat.zero_le _, HR0⟩
        case round =>
          obtain ⟨k, rfl, hk, HR⟩ := hrel
          clear HR0
          have D := HR.out.duo
          obtain ⟨ra, rc, hv2⟩ := own_slice D.r.row
          have d2 := D.r.cell
          rw [hv2, D.r.len] at d2
          have HV2 := Lib.hid hv2
          obtain ⟨mL, hmL⟩ : ∃ m, m = L.length := ⟨_, rfl⟩
          have HML := Lib.hid hmL
          have hm200 : mL ≤ 200 := by rw [hmL]; exact HR.out.good.1
          rw [← hmL] at d2 hk ⊢
          have HD := Lib.hid D
          clear hv2 hmL D
          by_cases hlt2 : k < mL
          · have hkL : k < L.length := by rw [← HML.out]; exact hlt2
            have hkQ : k < Q2.length := by rw [HD.out.r.len]; exact hkL
            obtain ⟨⟨pf, pt, pb⟩, hp⟩ : ∃ p, p = L[k]'hkL := ⟨_, rfl⟩
            have hat : atL L (k : Int) = (⟨pf, pt, pb⟩, true) := by rw [atL_yes hkL, ← hp]
            have hpb : pb.length ≤ 131072 := by have := HR.out.good.b _ (List.getElem_mem hkL); rw [← hp] at this; exact this
            obtain ⟨pn, hpn⟩ : ∃ pn, pn = pb.length := ⟨_, rfl⟩
            rw [← hpn] at hpb
            have HPN := Lib.hid hpn
            have c1 := nPeek' wr w.heap.size g v Q L k HD.out.l HR.out.good.b pf pt pb pn true hat hpn.symm
            have he := HD.out.r.mem k hkQ hkL
            rw [← hp] at he
            have HE := Lib.hid he
            have i3 : (k : Int) < (mL : Int) := by omega
            have i4 : (0 : Int) ≤ (k : Int) := by omega
            clear hp hat hpn he
            go_wp2_with (go_at_call 20; (with_reducible refine c1.mono ?_))
            rintro e W5 ⟨a5, c5, rfl, o5, b5⟩
            have bA := (Below.refl W5.heap.size W5).alloc (Nat.le_refl _) (.cells #[.int .i64 pf, .int .i64 pt, .slice a5 pn c5] 36)
            have bw := b5.trans (bA.mono b5.size)
            have G1 := heap_alloc_new W5 (.cells #[.int .i64 pf, .int .i64 pt, .slice a5 pn c5] 36)
            obtain ⟨x0, x1, x2, _⟩ := box_cells G1
            have D5 := HD.out.below bw
            obtain ⟨gr, cp, hv, _, _, y0, y1, y2⟩ := D5.r.cells k hkQ
            have hbo := D5.r.byt _ (List.getElem_mem hkQ)
            rw [HE.out] at y0 y1 hbo
            obtain ⟨a6, c6, hv6⟩ := own_slice hbo
            rw [hv6] at y2 hbo
            simp only at y0 y1 y2 hbo
            rw [← HPN.out] at y2 hbo
            have d5 := D5.r.cell
            rw [hv, D5.r.len, ← HML.out] at d5
            have cA := alike_same pf pt a5 a6 pn c5 c6 pb (W5.alloc (.cells #[.int .i64 pf, .int .i64 pt, .slice a5 pn c5] 36)).drew HPN.out.symm (by omega) ((Bts.own o5).later bA.drew) ((Bts.own hbo).later (Below.refl _ _).drew)
            have HP5 : Hid (PlR w (W5.alloc (.cells #[.int .i64 pf, .int .i64 pt, .slice a5 pn c5] 36)) g g2 v Q v2 Q2 L) := HR.out.below bw
            obtain ⟨WA, hWA⟩ : ∃ W, W = W5.alloc (.cells #[.int .i64 pf, .int .i64 pt, .slice a5 pn c5] 36) := ⟨_, rfl⟩
            have HWA := Lib.hid hWA
            rw [← hWA] at x0 x1 x2 y0 y1 y2 d5 cA HP5
            have cA2 : Calls Try.prog 14 #[.agg #[.int .i64 pf, .int .i64 pt, .slice a5 pn c5], .agg #[.int .i64 pf, .int .i64 pt, .slice a6 pn c6]] WA.drew fun e w' => e = .returned (.bool true) ∧ Below WA.heap.size WA w' ∧ (w'.cell? ⟨W5.heap.size, 0, none⟩ = some (.int .i64 pf) ∧ w'.cell? ⟨W5.heap.size, 1, none⟩ = some (.int .i64 pt) ∧ w'.cell? ⟨W5.heap.size, 2, none⟩ = some (.slice a5 pn c5) ∧ w'.cell? ⟨g2, 0, none⟩ = some (.slice (some ⟨gr, 0, none⟩) mL cp) ∧ w'.cell? ⟨gr, k * 3, none⟩ = some (.int .i64 pf) ∧ w'.cell? ⟨gr, k * 3 + 1, none⟩ = some (.int .i64 pt) ∧ w'.cell? ⟨gr, k * 3 + 2, none⟩ = some (.slice a6 pn c6)) := cA.mono fun e w' ⟨he, hb⟩ => by
              have hb2 : Below WA.heap.size WA w' := (Below.refl _ _).drew.trans hb
              have f : ∀ {a : Addr} {u : Value}, WA.cell? a = some u → w'.cell? a = some u := fun hc => (hb2.cell (World.block_lt_of_cell? WA _ hc)).trans hc
              exact ⟨he, hb2, f x0, f x1, f x2, f d5, f y0, f y1, f y2⟩
            clear bA bw G1 D5 hbo o5 b5 c1 cA hWA hv hv6 d2
            go_wp2
            rw [← HWA.out]
            go_region_held3 (fun w' => w'.cell? ⟨W5.heap.size, 0, none⟩ = some (.int .i64 pf) ∧ w'.cell? ⟨W5.heap.size, 1, none⟩ = some (.int .i64 pt) ∧ w'.cell? ⟨W5.heap.size, 2, none⟩ = some (.slice a5 pn c5) ∧ w'.cell? ⟨g2, 0, none⟩ = some (.slice (some ⟨gr, 0, none⟩) mL cp) ∧ w'.cell? ⟨gr, k * 3, none⟩ = some (.int .i64 pf) ∧ w'.cell? ⟨gr, k * 3 + 1, none⟩ = some (.int .i64 pt) ∧ w'.cell? ⟨gr, k * 3 + 2, none⟩ = some (.slice a6 pn c6))
              (first
                | exact ⟨x0, x1, x2, d5, y0, y1, y2⟩
                | exact s7
                | go_keep)
              (first
                | (go_at_call 14; refine cA2.mono ?_; rintro e W7 ⟨rfl, b7, s7⟩))
            have HP7 := Lib.hid (HP5.out.below b7)
            clear b7 s7 x0 x1 x2 d5 y0 y1 y2 cA2
            go_wp2
            go_roundw
            case rel => exact ⟨k + 1, by go_num, by have := HML.out; omega, HP7⟩
            case measure => have := HML.out; simp [intOf]; omega
          · have i3 : ¬ (k : Int) < (mL : Int) := by omega
            have cW1 := cW wr HR.out.low
            clear cW
            go_wp2_with (go_at_call 8; (with_reducible refine cW1.mono ?_))
            rintro e W2 ⟨rfl, b2⟩
            go_wp2
            go_ret
            exact ⟨rfl, b2⟩

end Go.Proofs.Ytenpoolminfofaa
