/-
  What the reference's Match answers.
-/
import Derived.Test.YtmijhgecdkdkmaaRefK
import Derived.Deep.OwnRows
set_option linter.unusedVariables false
namespace Go.Proofs.Ytmijhgecdkdkmaa
open Go.RowKit

theorem bAt {w : World} {B g m j : Nat} {f : Nat → Bool} (h : w.ownsRow B 4 1 (.slice (some ⟨g, 0, none⟩) (m + 1) (m + 1)) (m + 1) (bRow f m)) (hj : j ≤ m) : w.cell? ⟨g, j, none⟩ = some (.bool (f j)) := by
  rw [h.cellAt j (by omega), bRow_get f m j hj]
theorem bPut {w : World} {B g m j : Nat} {f : Nat → Bool} (h : w.ownsRow B 4 1 (.slice (some ⟨g, 0, none⟩) (m + 1) (m + 1)) (m + 1) (bRow f m)) (hj : j ≤ m) (b : Bool) :
    (w.setCell ⟨g, j, none⟩ (.bool b)).ownsRow B 4 1 (.slice (some ⟨g, 0, none⟩) (m + 1) (m + 1)) (m + 1) (bRow (fun k => if k = j then b else f k) m) := by
  have := (h.stored j (.bool b)).1
  rw [bRow_set f m j b hj] at this
  exact this
theorem bSame {w : World} {B m : Nat} {v : Value} {f g : Nat → Bool} (h : w.ownsRow B 4 1 v (m + 1) (bRow f m)) (hk : ∀ k, k ≤ m → f k = g k) : w.ownsRow B 4 1 v (m + 1) (bRow g m) := by
  rw [← bRow_same f g m hk]; exact h

/-- The pieces of the reference, held below a block. -/
theorem runes_snoc (pre : List (List UInt8)) (c : List UInt8) : runesOf (pre ++ [c]) = runesOf pre ++ [(dec c).1] := by simp [runesOf]

set_option maxHeartbeats 16000000 in
set_option maxRecDepth 100000 in
theorem rMatch_any (p s : ByteArray) (w : World) (hp : p.size ≤ 1000000) (hs : s.size ≤ 1000000) :
    Calls Try.prog 21 #[.string p, .string s] w fun e w' => e = .returned (.bool (matR p.data.toList s.data.toList)) ∧ Below w.heap.size w w' := by
  have c := Pattern_any p w hp
  rw [rPat_same] at c
  unfold RPatPost at c
  have cV := fun wx => rValid_any s wx hs
  cases ho : patR p.data.toList with
  | none =>
    rw [ho] at c
    simp only at c
    have HN : Hid (matR p.data.toList s.data.toList = false) := by show _ = _; unfold matR; rw [ho]
    clear ho
    go_enter Try.func21, Try.ntmps21
    go_wp2_with (go_at_call 36; refine c.mono ?_; rintro e W1 ⟨b1, rfl⟩)
    go_ret
    exact ⟨by rw [HN.out]; rfl, b1⟩
  | some P =>
  rw [ho] at c
  simp only at c
  obtain ⟨hP1, hP2⟩ := patR_few ho
  have c2 : Calls Try.prog 36 #[.string p] w fun e w' => ∃ a cap, e = .returned (.tuple #[.slice a P.length cap, .bool true]) ∧ RPcs w' w.heap.size (.slice a P.length cap) P ∧ Below w.heap.size w w' := by
    refine c.mono ?_
    rintro e w' ⟨hb, v, he, hr⟩
    obtain ⟨a, cap, hv⟩ := rpcs_form hr
    subst hv
    exact ⟨a, cap, he, hr, hb⟩
  clear c
  cases hv : valid s.data.toList with
  | false =>
    rw [hv] at cV
    have HN : Hid (matR p.data.toList s.data.toList = false) := by show _ = _; unfold matR; rw [ho]; simp only; rw [hv]; rfl
    clear ho hv
    go_enter Try.func21, Try.ntmps21
    go_wp2_with (go_at_call 36; refine c2.mono ?_)
    rintro e W1 ⟨a, cap, rfl, hr, b1⟩
    go_wp2_with (go_at_call 23; refine (cV _).mono ?_)
    first | rintro e W2 ⟨rfl, b2⟩ | rintro e W2 rfl b2
    go_wp2
    go_ret
    exact ⟨by rw [HN.out]; rfl, b1.trans (b2.mono b1.size)⟩
  | true =>
  rw [hv] at cV
  obtain ⟨m, hm⟩ : ∃ m, m = P.length := ⟨_, rfl⟩
  have HM : Hid (matR p.data.toList s.data.toList = takR P (runesOf (pieces s.data.toList))) := by show _ = _; unfold matR; rw [ho]; simp only; rw [hv]; rfl
  have hmk := run_make_row' (P := Try.prog) 62 4 (.bool false) 1 Try.underlying62 infoBool rfl .i64 .i64 (m + 1) (by omega) (by omega)
  have ec : ((m + 1 : Nat) : Int) = (m : Int) + 1 := by omega
  rw [ec] at hmk
  have hmade : ∀ (wx : World) (B : Nat), B ≤ wx.heap.size → (wx.alloc (.cells (madeCells #[.bool false] (m + 1)) 4)).ownsRow B 4 1 (.slice (some ⟨wx.heap.size, 0, none⟩) (m + 1) (m + 1)) (m + 1) (bRow (fun _ => false) m) := by
    intro wx B hB
    have h := World.ownsRow_lit (base := B) (e := 4) (size := 1) wx (madeCells #[.bool false] (m + 1)) (m + 1) hB (by unfold maxLen; omega) (by rw [size_madeCells]; omega)
    have e := bRow_made m
    rw [Nat.mul_one] at e
    rw [← e]
    exact h
  have HMADE := Lib.hid hmade
  have HP := Lib.hid hm
  rw [← hm] at c2 hP1
  clear ho hv ec hmade hm
  go_enter Try.func21, Try.ntmps21
  go_wp2_with (go_at_call 36; refine c2.mono ?_)
  rintro e W1 ⟨a, cap, rfl, hr, b1⟩
  go_wp2_with (go_at_call 23; refine (cV _).mono ?_)
  first | rintro e W2 ⟨rfl, b2⟩ | rintro e W2 rfl b2
  have hb2 : Below w.heap.size w W2 := b1.trans (b2.mono b1.size)
  have hr2 := hr.later b2
  have hc0 := HMADE.out W2 W2.heap.size (Nat.le_refl _)
  have x0 := bAt hc0 (Nat.zero_le _)
  have y0 := hc0.frozenAt 0
  have hc1 : (W2.alloc (.cells ((madeCells #[.bool false] (m + 1)).setIfInBounds 0 (.bool true)) 4)).ownsRow W2.heap.size 4 1 (.slice (some ⟨W2.heap.size, 0, none⟩) (m + 1) (m + 1)) (m + 1) (bRow (fun k => decide (k ≤ 0)) m) := by
    have h := World.ownsRow_lit (base := W2.heap.size) (e := 4) (size := 1) W2 ((madeCells #[.bool false] (m + 1)).setIfInBounds 0 (.bool true)) (m + 1) (Nat.le_refl _) (by unfold maxLen; omega) (by rw [Array.size_setIfInBounds, size_madeCells]; omega)
    have e := bRow_made m
    rw [Nat.mul_one] at e
    rw [Array.toList_setIfInBounds, show madeCells #[Value.bool false] (m + 1) = madeCells (Value.bool false).cells (m + 1) from rfl, e, bRow_set _ _ _ _ (Nat.zero_le _)] at h
    exact bSame h (fun k _ => by by_cases h : k = 0 <;> simp [h])
  have hbc : Below W2.heap.size W2 (W2.alloc (.cells ((madeCells #[.bool false] (m + 1)).setIfInBounds 0 (.bool true)) 4)) := (Below.refl _ W2).alloc (Nat.le_refl _) _
  clear hr b1 b2 hc0 c2 cV
  go_wp2
  go_loopw [8] (fun i wr => ∃ j : Nat, i = .int .i64 j ∧ j ≤ m ∧ Hid (∀ t (h : t < j) (h' : t < P.length), P[t].many = true) ∧ wr.ownsRow W2.heap.size 4 1 (.slice (some ⟨W2.heap.size, 0, none⟩) (m + 1) (m + 1)) (m + 1) (bRow (fun k => decide (k ≤ j)) m) ∧ Below W2.heap.size W2 wr) (fun i _ => m - (intOf i).toNat)
  case atStart => exact ⟨0, rfl, Nat.zero_le _, fun t h => by omega, hc1, hbc⟩
  case round =>
    obtain ⟨j, rfl, hj, HS, ho, hbw⟩ := hrel
    clear hc1 hbc x0 y0
    by_cases hgo : ∃ h : j < P.length, P[j].many = true
    · obtain ⟨hlt, hmany⟩ := hgo
      have hltm : j < m := by rw [HP.out]; exact hlt
      obtain ⟨gp, cp, lo, hi, hv, p0, _⟩ := rpcs_at (hr2.later hbw) j hlt
      injection hv with e1 e2 e3
      subst e1
      rw [hmany] at p0
      have x1 := bAt ho (show j + 1 ≤ m by omega)
      have y1 := ho.frozenAt (j + 1)
      have ho2 := bSame (g := fun k => decide (k ≤ j + 1)) (bPut ho (show j + 1 ≤ m by omega) true) (fun k _ => by
        by_cases h : k = j + 1
        · subst h; simp
        · rw [if_neg h]; simp; omega)
      have hb3 : Below W2.heap.size W2 (wr.setCell ⟨W2.heap.size, j + 1, none⟩ (.bool true)) := hbw.setCell (Nat.le_refl _) _
      have HS2 : Hid (∀ t (h : t < j + 1) (h' : t < P.length), P[t].many = true) := by
        intro t h h'
        by_cases ht : t = j
        · subst ht; exact hmany
        · exact HS.out t (by omega) h'
      clear hmany e2 e3
      go_wp2
      go_roundw
      case rel => exact ⟨j + 1, by go_num, by omega, HS2, ho2, hb3⟩
      case measure => simp [intOf]; omega
    · have HG : Hid (∀ k, k ≤ m → (decide (k ≤ j) = true ↔ GB P k [])) := by
        intro k hk
        refine start_same P j (by rw [← HP.out]; exact hj) (fun t h => HS.out t h (by have := HP.out; omega)) ?_ k (by rw [← HP.out]; exact hk)
        by_cases h : j < P.length
        · right
          refine ⟨h, ?_⟩
          cases hmm : P[j].many with
          | false => rfl
          | true => exact absurd ⟨h, hmm⟩ hgo
        · left; have := HP.out; omega
      clear HS
      by_cases hlt : j < m
      · have hlt' : j < P.length := by rw [← HP.out]; exact hlt
        obtain ⟨gp, cp, lo, hi, hv, p0, _⟩ := rpcs_at (hr2.later hbw) j hlt'
        injection hv with e1 e2 e3
        subst e1
        have hmany : P[j].many = false := by
          cases hmm : P[j].many with
          | false => rfl
          | true => exact absurd ⟨hlt', hmm⟩ hgo
        rw [hmany] at p0
        clear hmany e2 e3 hgo
        obtain ⟨Wo, hWo⟩ : ∃ Wo, Wo = wr := ⟨_, rfl⟩
        subst hWo
        go_wp2
        go_loopw [7] (fun c wx => ∃ (pos : Nat) (pre : List (List UInt8)) (gc : Nat) (cn : Nat → Bool), c = .slice (some ⟨gc, 0, none⟩) (m + 1) (m + 1) ∧ wx.heap[Wo.heap.size]? = some (.stringIter s pos) ∧ wx.ownsRow W2.heap.size 4 1 (.slice (some ⟨gc, 0, none⟩) (m + 1) (m + 1)) (m + 1) (bRow cn m) ∧ Below W2.heap.size W2 wx ∧ upTo s.data.toList pre pos ∧ Hid (∀ k, k ≤ m → (cn k = true ↔ GB P k (runesOf pre)))) (fun _ wx => s.size - wx.iterPos Wo.heap.size)
        case atStart => exact ⟨0, [], W2.heap.size, _, rfl, World.iter_heap Wo s 0, ho.alloc _, hbw.alloc hbw.size _, upTo_start _, HG.out⟩
        case round =>
          have hKz := hbw.size
          obtain ⟨pos, pre, gc, cn, rfl, hit, hoc, hbx, hu, HC⟩ := hrel
          obtain ⟨wx, hwx⟩ : ∃ wx, wx = wr := ⟨_, rfl⟩
          subst hwx
          clear ho hbw HG
          by_cases hpp : pos < s.size
          · have hpl : pos < s.data.toList.length := by rw [← size_len]; exact hpp
            have hnx : ∀ ty, (Instr.next (.pointer (some ⟨Wo.heap.size, 0, none⟩)) true ty).run Try.prog wx = _ := fun ty => Lib.run_next_any_at wx Wo.heap.size s pos ty hit hpp
            have hstep := upTo_step hu hpl
            obtain ⟨hpc, hpl2, hpd⟩ := pieceAt_is s.data.toList pos hpl
            have hwd := (dec_width (s.data.toList.drop pos) (by intro h0; have := congrArg List.length h0; simp at this; omega)).1
            rw [← dec_at] at hstep hwd hpd
            obtain ⟨r, wd, hdec⟩ : ∃ r wd, Utf8.decode s pos = (r, wd) := ⟨_, _, rfl⟩
            rw [hdec] at hnx hstep hwd hpd
            simp only at hnx hstep hwd
            clear hdec
            have hit2 := Lib.iterAt_heap wx Wo.heap.size s pos (pos + wd) hit
            have hb3 := Lib.below_iterAt hbx (k := Wo.heap.size) hKz s (pos + wd)
            have hoc3 := iter_owns (pos' := pos + wd) hit hoc
            have hsz3 : (wx.iterAt Wo.heap.size s (pos + wd)).heap.size = wx.heap.size := Lib.iterAt_size _ _ _ _
            obtain ⟨W3, hW3⟩ : ∃ W3, W3 = wx.iterAt Wo.heap.size s (pos + wd) := ⟨_, rfl⟩
            rw [← hW3] at hnx hit2 hb3 hoc3 hsz3
            have hK3 : Wo.heap.size < W3.heap.size := (Array.getElem?_eq_some_iff.1 hit2).1
            have hgc : gc < W3.heap.size := (hoc3.lt gc rfl).2
            have HC2 : Hid (∀ k, k ≤ m → (nxt4 P cn r k = true ↔ GB P k (runesOf (pre ++ [pieceAt s.data.toList pos])))) := by
              intro k hk
              rw [runes_snoc, hpd]
              exact nxt4_same P cn r (runesOf pre) (fun k hk => HC.out k (by rw [HP.out]; exact hk)) k (by rw [← HP.out]; exact hk)
            have HST := Lib.hid hstep
            clear hW3 hpc hpl2 hpd hu hoc hbx HC hstep hsz3
            go_wp2
            go_loopw [12] (fun i wy => ∃ j : Nat, i = .int .i64 j ∧ j ≤ m ∧ wy.ownsRow W3.heap.size 4 1 (.slice (some ⟨W3.heap.size, 0, none⟩) (m + 1) (m + 1)) (m + 1) (bRow (F3 P cn r j) m) ∧ Below W3.heap.size W3 wy) (fun i _ => m - (intOf i).toNat)
            case atStart => exact ⟨0, rfl, Nat.zero_le _, bSame (HMADE.out W3 W3.heap.size (Nat.le_refl _)) (fun k _ => (F3_start P cn r k).symm), (Below.refl _ W3).alloc (Nat.le_refl _) _⟩
            case round =>
              obtain ⟨j3, rfl, hj3, hon, hby⟩ := hrel
              obtain ⟨wy, hwy⟩ : ∃ wy, wy = wr := ⟨_, rfl⟩
              subst hwy
              clear hnx
              by_cases hlt3 : j3 < m
              · have hlt3' : j3 < P.length := by rw [← HP.out]; exact hlt3
                obtain ⟨gp2, cp2, lo, hi, hv, p0, p1, p2, p3, hBd⟩ := rpcs_at ((hr2.later hb3).later hby) j3 hlt3'
                injection hv with e1 e2 e3
                first | subst e1 | (injection e1 with e1; injection e1 with e1 _ _; subst e1)
                have hoy := own_later hoc3 hby
                have a0 := bAt hoy hj3
                have a1 := bAt hoy (show j3 + 1 ≤ m by omega)
                have n0 := bAt hon hj3
                rw [F3_here] at n0
                have n1 := bAt hon (show j3 + 1 ≤ m by omega)
                rw [F3_next] at n1
                have z0 := hon.frozenAt j3
                have z1 := hon.frozenAt (j3 + 1)
                clear e2 e3
                cases hmany : P[j3].many with
                | true =>
                  rw [hmany] at p0
                  have s1 := bPut hon (show j3 + 1 ≤ m by omega) (cn (j3 + 1) || cn j3)
                  have q0 : (wy.setCell ⟨W3.heap.size, j3 + 1, none⟩ (.bool (cn (j3 + 1) || cn j3))).cell? ⟨W3.heap.size, j3, none⟩ = some (.bool (part3 P cn r j3)) := by
                    rw [bAt s1 hj3, if_neg (by omega), F3_here]
                  have q1 := s1.frozenAt j3
                  have q2 := bAt (hoy.kept (hon.stored (j3 + 1) (.bool (cn (j3 + 1) || cn j3))).2 (by right; simp [Value.ownBlock]; omega)) hj3
                  have s2 := bSame (g := F3 P cn r (j3 + 1)) (bPut s1 hj3 (part3 P cn r j3 || cn j3)) (fun k _ => F3_many P cn r j3 hlt3' hmany k)
                  have hb' := (hby.setCell (p := ⟨W3.heap.size, j3 + 1, none⟩) (Nat.le_refl _) (.bool (cn (j3 + 1) || cn j3))).setCell (p := ⟨W3.heap.size, j3, none⟩) (Nat.le_refl _) (.bool (part3 P cn r j3 || cn j3))
                  obtain ⟨F, hF⟩ : ∃ F, F = F3 P cn r (j3 + 1) := ⟨_, rfl⟩
                  rw [← hF] at s2
                  clear s1 p1 p2 p3 hBd hoy hon hby hmany
                  cases hA : cn (j3 + 1) <;> cases hB : cn j3 <;> cases hC : part3 P cn r j3
                  all_goals
                    simp only [hA, hB, hC, Bool.or_true, Bool.or_false] at a0 a1 n0 q0 q1 q2 s2 hb'
                    clear hA hB hC
                    go_wp2
                    go_roundw
                    case rel => exact ⟨j3 + 1, by go_num, by omega, by rw [← hF]; exact s2, hb'⟩
                    case measure => simp [intOf]; omega
                | false =>
                  rw [hmany] at p0
                  cases hB : cn j3 with
                  | false =>
                    rw [hB] at a0
                    have s2 := bSame (g := F3 P cn r (j3 + 1)) (bPut hon (show j3 + 1 ≤ m by omega) false) (fun k _ => by have := F3_one P cn r j3 hlt3' hmany k; rw [hB, Bool.false_and] at this; exact this)
                    have hb' := hby.setCell (p := ⟨W3.heap.size, j3 + 1, none⟩) (Nat.le_refl _) (.bool false)
                    obtain ⟨F, hF⟩ : ∃ F, F = F3 P cn r (j3 + 1) := ⟨_, rfl⟩
                    rw [← hF] at s2
                    clear p1 p2 p3 hBd hoy hon hby hmany hB n0 a1
                    go_wp2
                    go_roundw
                    case rel => exact ⟨j3 + 1, by go_num, by omega, by rw [← hF]; exact s2, hb'⟩
                    case measure => simp [intOf]; omega
                  | true =>
                    rw [hB] at a0
                    have cK := rTakes_any lo hi P[j3] r w.heap.size wy hBd (Nat.le_trans (hP2 _ (List.getElem_mem hlt3')) (by omega))
                    unfold rpVal at cK
                    rw [hmany] at cK
                    have hone : ∀ k, (if k = j3 + 1 then takesR P[j3] r else F3 P cn r j3 k) = F3 P cn r (j3 + 1) k := fun k => by have := F3_one P cn r j3 hlt3' hmany k; rw [hB, Bool.true_and] at this; exact this
                    have HONE := Lib.hid hone
                    obtain ⟨tk, htk⟩ : ∃ tk, tk = takesR P[j3] r := ⟨_, rfl⟩
                    rw [← htk] at cK HONE
                    obtain ⟨tu, htu⟩ : ∃ tu, tu = P[j3].turned := ⟨_, rfl⟩
                    rw [← htu] at cK p1
                    clear hone htk htu hmany hB hBd n0 a1 hoy
                    go_wp2_with (go_at_call 39; (with_reducible refine cK.mono ?_))
                    first | rintro e W5 rfl b5 | rintro e W5 ⟨rfl, b5⟩
                    have hon5 := own_later hon b5
                    have n5 := bAt hon5 (show j3 + 1 ≤ m by omega)
                    rw [F3_next] at n5
                    have z5 := hon5.frozenAt (j3 + 1)
                    have hby5 := hby.trans (b5.mono hby.size)
                    have s2 := bSame (g := F3 P cn r (j3 + 1)) (bPut hon5 (show j3 + 1 ≤ m by omega) tk) (fun k _ => HONE.out k)
                    have hb' := hby5.setCell (p := ⟨W3.heap.size, j3 + 1, none⟩) (Nat.le_refl _) (.bool tk)
                    obtain ⟨F, hF⟩ : ∃ F, F = F3 P cn r (j3 + 1) := ⟨_, rfl⟩
                    rw [← hF] at s2
                    clear p0 p1 p2 p3 hon hby a0 n1 z0 z1 hon5 hby5 cK b5
                    cases tk
                    all_goals
                      go_wp2
                      go_roundw
                      case rel => exact ⟨j3 + 1, by go_num, by omega, by rw [← hF]; exact s2, hb'⟩
                      case measure => simp [intOf]; omega
              · have hon4 := bSame (g := F4 P cn r 0) hon (fun k hk => by
                  have e : j3 = P.length := by have := HP.out; omega
                  rw [F4_start, e]
                  exact F3_end P cn r k (by rw [← HP.out]; exact hk))
                clear hon
                go_wp2
                go_loopw [13] (fun i wz => ∃ j : Nat, i = .int .i64 j ∧ j ≤ m ∧ wz.ownsRow W3.heap.size 4 1 (.slice (some ⟨W3.heap.size, 0, none⟩) (m + 1) (m + 1)) (m + 1) (bRow (F4 P cn r j) m) ∧ Below W3.heap.size W3 wz) (fun i _ => m - (intOf i).toNat)
                case atStart => exact ⟨0, rfl, Nat.zero_le _, hon4, hby⟩
                case round =>
                  obtain ⟨j4, rfl, hj4, ho4, hbz⟩ := hrel
                  obtain ⟨wz, hwz⟩ : ∃ wz, wz = wr := ⟨_, rfl⟩
                  subst hwz
                  clear hon4 hby
                  by_cases hlt4 : j4 < m
                  · have hlt4' : j4 < P.length := by rw [← HP.out]; exact hlt4
                    obtain ⟨gp2, cp2, lo, hi, hv, p0, _⟩ := rpcs_at ((hr2.later hb3).later hbz) j4 hlt4'
                    injection hv with e1 e2 e3
                    first | subst e1 | (injection e1 with e1; injection e1 with e1 _ _; subst e1)
                    have n0 := bAt ho4 hj4
                    rw [F4_here] at n0
                    have n1 := bAt ho4 (show j4 + 1 ≤ m by omega)
                    have z1 := ho4.frozenAt (j4 + 1)
                    obtain ⟨ov, hov⟩ : ∃ ov, ov = F4 P cn r j4 (j4 + 1) := ⟨_, rfl⟩
                    rw [← hov] at n1
                    clear e2 e3 hov
                    cases hmany : P[j4].many with
                    | true =>
                      rw [hmany] at p0
                      cases hB : nxt4 P cn r j4 with
                      | true =>
                        rw [hB] at n0
                        have s2 := bSame (g := F4 P cn r (j4 + 1)) (bPut ho4 (show j4 + 1 ≤ m by omega) true) (fun k _ => F4_set P cn r j4 hlt4' hmany hB k)
                        have hb' := hbz.setCell (p := ⟨W3.heap.size, j4 + 1, none⟩) (Nat.le_refl _) (.bool true)
                        clear ho4 hbz hmany hB
                        go_wp2
                        go_roundw
                        case rel => exact ⟨j4 + 1, by go_num, by omega, s2, hb'⟩
                        case measure => simp [intOf]; omega
                      | false =>
                        rw [hB] at n0
                        have s2 := bSame (g := F4 P cn r (j4 + 1)) ho4 (fun k _ => F4_leave P cn r j4 hlt4' (.inr hB) k)
                        clear ho4 hmany hB
                        go_wp2
                        go_roundw
                        case rel => exact ⟨j4 + 1, by go_num, by omega, s2, hbz⟩
                        case measure => simp [intOf]; omega
                    | false =>
                      rw [hmany] at p0
                      have s2 := bSame (g := F4 P cn r (j4 + 1)) ho4 (fun k _ => F4_leave P cn r j4 hlt4' (.inl hmany) k)
                      clear ho4 hmany n0
                      go_wp2
                      go_roundw
                      case rel => exact ⟨j4 + 1, by go_num, by omega, s2, hbz⟩
                      case measure => simp [intOf]; omega
                  · have s2 := own_base (bSame (g := nxt4 P cn r) ho4 (fun k hk => F4_end P cn r j4 k (by omega))) hb3.size
                    have hit5 : wz.heap[Wo.heap.size]? = some (.stringIter s (pos + wd)) := by rw [hbz.block _ hK3]; exact hit2
                    have hb5 : Below W2.heap.size W2 wz := hb3.trans (hbz.mono hb3.size)
                    clear ho4 hbz
                    go_wp2
                    go_roundw
                    case rel => exact ⟨pos + wd, _, W3.heap.size, _, rfl, hit5, s2, hb5, HST.out, HC2⟩
                    case measure =>
                      simp only [World.iterPos, hit5, hit]
                      omega
          · have hnx : ∀ ty, (Instr.next (.pointer (some ⟨Wo.heap.size, 0, none⟩)) true ty).run Try.prog wx = _ := fun ty => Lib.run_next_end_at wx Wo.heap.size s pos ty hit hpp
            have hpe := upTo_end hu (by rw [← size_len]; exact hpp)
            have x1 := bAt hoc (Nat.le_refl m)
            have HN : Hid (matR p.data.toList s.data.toList = cn m) := by
              show _ = _
              rw [HM.out, hpe, Bool.eq_iff_iff, takR_iff, HC.out m (Nat.le_refl m), HP.out]
              exact GB_end.symm
            clear hpe hu HC hoc
            go_wp2
            go_ret
            exact ⟨by rw [HN.out]; rfl, hb2.trans (hbx.mono hb2.size)⟩
      · clear hgo
        obtain ⟨Wo, hWo⟩ : ∃ Wo, Wo = wr := ⟨_, rfl⟩
        subst hWo
        go_wp2
        go_loopw [7] (fun c wx => ∃ (pos : Nat) (pre : List (List UInt8)) (gc : Nat) (cn : Nat → Bool), c = .slice (some ⟨gc, 0, none⟩) (m + 1) (m + 1) ∧ wx.heap[Wo.heap.size]? = some (.stringIter s pos) ∧ wx.ownsRow W2.heap.size 4 1 (.slice (some ⟨gc, 0, none⟩) (m + 1) (m + 1)) (m + 1) (bRow cn m) ∧ Below W2.heap.size W2 wx ∧ upTo s.data.toList pre pos ∧ Hid (∀ k, k ≤ m → (cn k = true ↔ GB P k (runesOf pre)))) (fun _ wx => s.size - wx.iterPos Wo.heap.size)
        case atStart => exact ⟨0, [], W2.heap.size, _, rfl, World.iter_heap Wo s 0, ho.alloc _, hbw.alloc hbw.size _, upTo_start _, HG.out⟩
        case round =>
          have hKz := hbw.size
          obtain ⟨pos, pre, gc, cn, rfl, hit, hoc, hbx, hu, HC⟩ := hrel
          obtain ⟨wx, hwx⟩ : ∃ wx, wx = wr := ⟨_, rfl⟩
          subst hwx
          clear ho hbw HG
          by_cases hpp : pos < s.size
          · have hpl : pos < s.data.toList.length := by rw [← size_len]; exact hpp
            have hnx : ∀ ty, (Instr.next (.pointer (some ⟨Wo.heap.size, 0, none⟩)) true ty).run Try.prog wx = _ := fun ty => Lib.run_next_any_at wx Wo.heap.size s pos ty hit hpp
            have hstep := upTo_step hu hpl
            obtain ⟨hpc, hpl2, hpd⟩ := pieceAt_is s.data.toList pos hpl
            have hwd := (dec_width (s.data.toList.drop pos) (by intro h0; have := congrArg List.length h0; simp at this; omega)).1
            rw [← dec_at] at hstep hwd hpd
            obtain ⟨r, wd, hdec⟩ : ∃ r wd, Utf8.decode s pos = (r, wd) := ⟨_, _, rfl⟩
            rw [hdec] at hnx hstep hwd hpd
            simp only at hnx hstep hwd
            clear hdec
            have hit2 := Lib.iterAt_heap wx Wo.heap.size s pos (pos + wd) hit
            have hb3 := Lib.below_iterAt hbx (k := Wo.heap.size) hKz s (pos + wd)
            have hoc3 := iter_owns (pos' := pos + wd) hit hoc
            have hsz3 : (wx.iterAt Wo.heap.size s (pos + wd)).heap.size = wx.heap.size := Lib.iterAt_size _ _ _ _
            obtain ⟨W3, hW3⟩ : ∃ W3, W3 = wx.iterAt Wo.heap.size s (pos + wd) := ⟨_, rfl⟩
            rw [← hW3] at hnx hit2 hb3 hoc3 hsz3
            have hK3 : Wo.heap.size < W3.heap.size := (Array.getElem?_eq_some_iff.1 hit2).1
            have hgc : gc < W3.heap.size := (hoc3.lt gc rfl).2
            have HC2 : Hid (∀ k, k ≤ m → (nxt4 P cn r k = true ↔ GB P k (runesOf (pre ++ [pieceAt s.data.toList pos])))) := by
              intro k hk
              rw [runes_snoc, hpd]
              exact nxt4_same P cn r (runesOf pre) (fun k hk => HC.out k (by rw [HP.out]; exact hk)) k (by rw [← HP.out]; exact hk)
            have HST := Lib.hid hstep
            clear hW3 hpc hpl2 hpd hu hoc hbx HC hstep hsz3
            go_wp2
            go_loopw [12] (fun i wy => ∃ j : Nat, i = .int .i64 j ∧ j ≤ m ∧ wy.ownsRow W3.heap.size 4 1 (.slice (some ⟨W3.heap.size, 0, none⟩) (m + 1) (m + 1)) (m + 1) (bRow (F3 P cn r j) m) ∧ Below W3.heap.size W3 wy) (fun i _ => m - (intOf i).toNat)
            case atStart => exact ⟨0, rfl, Nat.zero_le _, bSame (HMADE.out W3 W3.heap.size (Nat.le_refl _)) (fun k _ => (F3_start P cn r k).symm), (Below.refl _ W3).alloc (Nat.le_refl _) _⟩
            case round =>
              obtain ⟨j3, rfl, hj3, hon, hby⟩ := hrel
              obtain ⟨wy, hwy⟩ : ∃ wy, wy = wr := ⟨_, rfl⟩
              subst hwy
              clear hnx
              by_cases hlt3 : j3 < m
              · have hlt3' : j3 < P.length := by rw [← HP.out]; exact hlt3
                obtain ⟨gp2, cp2, lo, hi, hv, p0, p1, p2, p3, hBd⟩ := rpcs_at ((hr2.later hb3).later hby) j3 hlt3'
                injection hv with e1 e2 e3
                first | subst e1 | (injection e1 with e1; injection e1 with e1 _ _; subst e1)
                have hoy := own_later hoc3 hby
                have a0 := bAt hoy hj3
                have a1 := bAt hoy (show j3 + 1 ≤ m by omega)
                have n0 := bAt hon hj3
                rw [F3_here] at n0
                have n1 := bAt hon (show j3 + 1 ≤ m by omega)
                rw [F3_next] at n1
                have z0 := hon.frozenAt j3
                have z1 := hon.frozenAt (j3 + 1)
                clear e2 e3
                cases hmany : P[j3].many with
                | true =>
                  rw [hmany] at p0
                  have s1 := bPut hon (show j3 + 1 ≤ m by omega) (cn (j3 + 1) || cn j3)
                  have q0 : (wy.setCell ⟨W3.heap.size, j3 + 1, none⟩ (.bool (cn (j3 + 1) || cn j3))).cell? ⟨W3.heap.size, j3, none⟩ = some (.bool (part3 P cn r j3)) := by
                    rw [bAt s1 hj3, if_neg (by omega), F3_here]
                  have q1 := s1.frozenAt j3
                  have q2 := bAt (hoy.kept (hon.stored (j3 + 1) (.bool (cn (j3 + 1) || cn j3))).2 (by right; simp [Value.ownBlock]; omega)) hj3
                  have s2 := bSame (g := F3 P cn r (j3 + 1)) (bPut s1 hj3 (part3 P cn r j3 || cn j3)) (fun k _ => F3_many P cn r j3 hlt3' hmany k)
                  have hb' := (hby.setCell (p := ⟨W3.heap.size, j3 + 1, none⟩) (Nat.le_refl _) (.bool (cn (j3 + 1) || cn j3))).setCell (p := ⟨W3.heap.size, j3, none⟩) (Nat.le_refl _) (.bool (part3 P cn r j3 || cn j3))
                  obtain ⟨F, hF⟩ : ∃ F, F = F3 P cn r (j3 + 1) := ⟨_, rfl⟩
                  rw [← hF] at s2
                  clear s1 p1 p2 p3 hBd hoy hon hby hmany
                  cases hA : cn (j3 + 1) <;> cases hB : cn j3 <;> cases hC : part3 P cn r j3
                  all_goals
                    simp only [hA, hB, hC, Bool.or_true, Bool.or_false] at a0 a1 n0 q0 q1 q2 s2 hb'
                    clear hA hB hC
                    go_wp2
                    go_roundw
                    case rel => exact ⟨j3 + 1, by go_num, by omega, by rw [← hF]; exact s2, hb'⟩
                    case measure => simp [intOf]; omega
                | false =>
                  rw [hmany] at p0
                  cases hB : cn j3 with
                  | false =>
                    rw [hB] at a0
                    have s2 := bSame (g := F3 P cn r (j3 + 1)) (bPut hon (show j3 + 1 ≤ m by omega) false) (fun k _ => by have := F3_one P cn r j3 hlt3' hmany k; rw [hB, Bool.false_and] at this; exact this)
                    have hb' := hby.setCell (p := ⟨W3.heap.size, j3 + 1, none⟩) (Nat.le_refl _) (.bool false)
                    obtain ⟨F, hF⟩ : ∃ F, F = F3 P cn r (j3 + 1) := ⟨_, rfl⟩
                    rw [← hF] at s2
                    clear p1 p2 p3 hBd hoy hon hby hmany hB n0 a1
                    go_wp2
                    go_roundw
                    case rel => exact ⟨j3 + 1, by go_num, by omega, by rw [← hF]; exact s2, hb'⟩
                    case measure => simp [intOf]; omega
                  | true =>
                    rw [hB] at a0
                    have cK := rTakes_any lo hi P[j3] r w.heap.size wy hBd (Nat.le_trans (hP2 _ (List.getElem_mem hlt3')) (by omega))
                    unfold rpVal at cK
                    rw [hmany] at cK
                    have hone : ∀ k, (if k = j3 + 1 then takesR P[j3] r else F3 P cn r j3 k) = F3 P cn r (j3 + 1) k := fun k => by have := F3_one P cn r j3 hlt3' hmany k; rw [hB, Bool.true_and] at this; exact this
                    have HONE := Lib.hid hone
                    obtain ⟨tk, htk⟩ : ∃ tk, tk = takesR P[j3] r := ⟨_, rfl⟩
                    rw [← htk] at cK HONE
                    obtain ⟨tu, htu⟩ : ∃ tu, tu = P[j3].turned := ⟨_, rfl⟩
                    rw [← htu] at cK p1
                    clear hone htk htu hmany hB hBd n0 a1 hoy
                    go_wp2_with (go_at_call 39; (with_reducible refine cK.mono ?_))
                    first | rintro e W5 rfl b5 | rintro e W5 ⟨rfl, b5⟩
                    have hon5 := own_later hon b5
                    have n5 := bAt hon5 (show j3 + 1 ≤ m by omega)
                    rw [F3_next] at n5
                    have z5 := hon5.frozenAt (j3 + 1)
                    have hby5 := hby.trans (b5.mono hby.size)
                    have s2 := bSame (g := F3 P cn r (j3 + 1)) (bPut hon5 (show j3 + 1 ≤ m by omega) tk) (fun k _ => HONE.out k)
                    have hb' := hby5.setCell (p := ⟨W3.heap.size, j3 + 1, none⟩) (Nat.le_refl _) (.bool tk)
                    obtain ⟨F, hF⟩ : ∃ F, F = F3 P cn r (j3 + 1) := ⟨_, rfl⟩
                    rw [← hF] at s2
                    clear p0 p1 p2 p3 hon hby a0 n1 z0 z1 hon5 hby5 cK b5
                    cases tk
                    all_goals
                      go_wp2
                      go_roundw
                      case rel => exact ⟨j3 + 1, by go_num, by omega, by rw [← hF]; exact s2, hb'⟩
                      case measure => simp [intOf]; omega
              · have hon4 := bSame (g := F4 P cn r 0) hon (fun k hk => by
                  have e : j3 = P.length := by have := HP.out; omega
                  rw [F4_start, e]
                  exact F3_end P cn r k (by rw [← HP.out]; exact hk))
                clear hon
                go_wp2
                go_loopw [13] (fun i wz => ∃ j : Nat, i = .int .i64 j ∧ j ≤ m ∧ wz.ownsRow W3.heap.size 4 1 (.slice (some ⟨W3.heap.size, 0, none⟩) (m + 1) (m + 1)) (m + 1) (bRow (F4 P cn r j) m) ∧ Below W3.heap.size W3 wz) (fun i _ => m - (intOf i).toNat)
                case atStart => exact ⟨0, rfl, Nat.zero_le _, hon4, hby⟩
                case round =>
                  obtain ⟨j4, rfl, hj4, ho4, hbz⟩ := hrel
                  obtain ⟨wz, hwz⟩ : ∃ wz, wz = wr := ⟨_, rfl⟩
                  subst hwz
                  clear hon4 hby
                  by_cases hlt4 : j4 < m
                  · have hlt4' : j4 < P.length := by rw [← HP.out]; exact hlt4
                    obtain ⟨gp2, cp2, lo, hi, hv, p0, _⟩ := rpcs_at ((hr2.later hb3).later hbz) j4 hlt4'
                    injection hv with e1 e2 e3
                    first | subst e1 | (injection e1 with e1; injection e1 with e1 _ _; subst e1)
                    have n0 := bAt ho4 hj4
                    rw [F4_here] at n0
                    have n1 := bAt ho4 (show j4 + 1 ≤ m by omega)
                    have z1 := ho4.frozenAt (j4 + 1)
                    obtain ⟨ov, hov⟩ : ∃ ov, ov = F4 P cn r j4 (j4 + 1) := ⟨_, rfl⟩
                    rw [← hov] at n1
                    clear e2 e3 hov
                    cases hmany : P[j4].many with
                    | true =>
                      rw [hmany] at p0
                      cases hB : nxt4 P cn r j4 with
                      | true =>
                        rw [hB] at n0
                        have s2 := bSame (g := F4 P cn r (j4 + 1)) (bPut ho4 (show j4 + 1 ≤ m by omega) true) (fun k _ => F4_set P cn r j4 hlt4' hmany hB k)
                        have hb' := hbz.setCell (p := ⟨W3.heap.size, j4 + 1, none⟩) (Nat.le_refl _) (.bool true)
                        clear ho4 hbz hmany hB
                        go_wp2
                        go_roundw
                        case rel => exact ⟨j4 + 1, by go_num, by omega, s2, hb'⟩
                        case measure => simp [intOf]; omega
                      | false =>
                        rw [hB] at n0
                        have s2 := bSame (g := F4 P cn r (j4 + 1)) ho4 (fun k _ => F4_leave P cn r j4 hlt4' (.inr hB) k)
                        clear ho4 hmany hB
                        go_wp2
                        go_roundw
                        case rel => exact ⟨j4 + 1, by go_num, by omega, s2, hbz⟩
                        case measure => simp [intOf]; omega
                    | false =>
                      rw [hmany] at p0
                      have s2 := bSame (g := F4 P cn r (j4 + 1)) ho4 (fun k _ => F4_leave P cn r j4 hlt4' (.inl hmany) k)
                      clear ho4 hmany n0
                      go_wp2
                      go_roundw
                      case rel => exact ⟨j4 + 1, by go_num, by omega, s2, hbz⟩
                      case measure => simp [intOf]; omega
                  · have s2 := own_base (bSame (g := nxt4 P cn r) ho4 (fun k hk => F4_end P cn r j4 k (by omega))) hb3.size
                    have hit5 : wz.heap[Wo.heap.size]? = some (.stringIter s (pos + wd)) := by rw [hbz.block _ hK3]; exact hit2
                    have hb5 : Below W2.heap.size W2 wz := hb3.trans (hbz.mono hb3.size)
                    clear ho4 hbz
                    go_wp2
                    go_roundw
                    case rel => exact ⟨pos + wd, _, W3.heap.size, _, rfl, hit5, s2, hb5, HST.out, HC2⟩
                    case measure =>
                      simp only [World.iterPos, hit5, hit]
                      omega
          · have hnx : ∀ ty, (Instr.next (.pointer (some ⟨Wo.heap.size, 0, none⟩)) true ty).run Try.prog wx = _ := fun ty => Lib.run_next_end_at wx Wo.heap.size s pos ty hit hpp
            have hpe := upTo_end hu (by rw [← size_len]; exact hpp)
            have x1 := bAt hoc (Nat.le_refl m)
            have HN : Hid (matR p.data.toList s.data.toList = cn m) := by
              show _ = _
              rw [HM.out, hpe, Bool.eq_iff_iff, takR_iff, HC.out m (Nat.le_refl m), HP.out]
              exact GB_end.symm
            clear hpe hu HC hoc
            go_wp2
            go_ret
            exact ⟨by rw [HN.out]; rfl, hb2.trans (hbx.mono hb2.size)⟩

end Go.Proofs.Ytmijhgecdkdkmaa
