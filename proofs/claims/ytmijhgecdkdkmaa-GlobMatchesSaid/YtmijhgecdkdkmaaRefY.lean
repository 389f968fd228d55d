/-
  What the reference's set answers: the walk, without a ^ at the head.
-/
import Derived.Test.YtmijhgecdkdkmaaRefX
set_option linter.unusedVariables false
namespace Go.Proofs.Ytmijhgecdkdkmaa
open Go.RowKit

set_option maxHeartbeats 16000000 in
set_option maxRecDepth 100000 in
theorem rSet_bare (T : List Nat) (w : World) (g o cap : Nat) (hd : ∀ i (h : i < T.length), w.cell? ⟨g, o + i * 4, none⟩ = some (.int .i32 T[i])) (hT : T.length ≤ 1000) (hpos : 0 < T.length) (h94 : T[0] ≠ 94) :
    Calls Try.prog 46 #[.slice (some ⟨g, o, none⟩) T.length cap] w (RSetPost T w) := by
  obtain ⟨i0, hi, hz0, hz1, hz2⟩ := info_parts infoInt
  have h0 := hd 0 hpos
  rw [Nat.zero_mul, Nat.add_zero] at h0
  have hg0 : g < w.heap.size := World.block_lt_of_cell? _ _ h0
  have hli0 : (0 : Int) < (T.length : Int) := by omega
  have HHD : Hid ((T.head? == some 94) = false) := by
    show _ = _
    cases T with
    | nil => rfl
    | cons z T1 => simp at h94; simp [h94]
  obtain ⟨r0, hr0⟩ : ∃ r, r = T[0] := ⟨_, rfl⟩
  rw [← hr0] at h0
  have d0 : ((r0 : Int) == 94) = false := beq_false_of_ne (by rw [hr0]; omega)
  clear h94 hr0
  go_enter Try.func46, Try.ntmps46
  go_wp2
  go_loopw [5, 6] (fun i fl wr => RsRel T w false i fl wr) (fun i _ _ => T.length - (intOf i).toNat)
  case atStart =>
    refine ⟨0, T.length, true, [], .slice none 0 0, .slice none 0 0, rfl, rfl, by omega, by omega, by simp, ?_, ?_, ?_, ⟨rfl, .inl ⟨rfl, rfl⟩⟩, ⟨rfl, .inl ⟨rfl, rfl⟩⟩, .inl rfl, ?_⟩
    · show _ = _
      have hb : setBody T = T.drop 0 := by
        unfold setBody
        have := HHD.out
        simp at this
        rw [if_neg this]; rfl
      rw [hb]
      exact rsS_fuel _ _ _ _ _ (by rw [List.length_drop]; omega) (by rw [List.length_drop]; omega)
    · exact (World.ownsRow_lit w #[.bool false, .bool false, .slice none 0 0, .slice none 0 0] 1 (Nat.le_refl _) (by unfold maxLen; omega) rfl).alloc _
    · have := World.ownsRow_lit (base := w.heap.size) (e := 65) (size := 4) (w.alloc (.cells #[.bool false, .bool false, .slice none 0 0, .slice none 0 0] 65)) #[.bool false, .bool false, .slice none 0 0, .slice none 0 0] 1 (by simp) (by unfold maxLen; omega) rfl
      rw [show (w.alloc (.cells #[.bool false, .bool false, .slice none 0 0, .slice none 0 0] 65)).heap.size = w.heap.size + 1 by simp] at this
      exact this
    · exact ((Below.refl _ w).alloc (Nat.le_refl _) _).alloc (by simp) _
  case round =>
    obtain ⟨k, f, first, acc, lo, hi', rfl, rfl, hk, hkf, hal, HL, hR, hP, hlo, hhi, hne, hbw⟩ := hrel
    obtain ⟨la, lc, hv1⟩ := own_form hlo
    obtain ⟨ha, hcp, hv2⟩ := own_form hhi
    subst hv1 hv2
    obtain ⟨⟨p0, p1, p2, p3⟩, y0, y1, y2, y3⟩ := rp_cells hP
    obtain ⟨⟨q0, q1, q2, q3⟩, x0, x1, x2, x3⟩ := rp_cells hR
    have hPs : w.heap.size + 1 < wr.heap.size := (hP.lt _ rfl).2
    have hnl : acc.length ≤ 1000 := by omega
    by_cases hlt : k < T.length
    · obtain ⟨f, rfl⟩ : ∃ z, f = z + 1 := ⟨f - 1, by omega⟩
      have hdw : ∀ i (h : i < T.length), wr.cell? ⟨g, o + i * 4, none⟩ = some (.int .i32 T[i]) := fun i h => by
        have h1 := hd i h
        exact (hbw.cell (p := ⟨g, o + i * 4, none⟩) (World.block_lt_of_cell? _ _ h1)).trans h1
      have hD : Hid (T.drop k = T[k] :: T.drop (k + 1)) := List.drop_eq_getElem_cons hlt
      have HDW : Hid (∀ i (h : i < T.length), wr.cell? ⟨g, o + i * 4, none⟩ = some (.int .i32 T[i])) := hdw
      have hc0 := hdw k hlt
      have hgl : g < wr.heap.size := World.block_lt_of_cell? _ _ hc0
      obtain ⟨r, hr⟩ : ∃ r, r = T[k] := ⟨_, rfl⟩
      rw [← hr] at hc0 hD
      have hlti : ¬ (T.length : Int) ≤ (k : Int) := by omega
      have hlti2 : (k : Int) < (T.length : Int) := by omega
      have hk0 : (0 : Int) ≤ (k : Int) := by omega
      clear hdw
      by_cases r93 : r = 93
      · replace hc0 : wr.cell? ⟨g, o + k * 4, none⟩ = some (.int .i32 93) := by rw [hc0, r93]; rfl
        cases first with
        | true =>
          have HN : Hid (rsS (T.length + 1) true (setBody T) [] = none) := by
            show _ = _
            rw [HL.out, hD.out]
            exact rs_empty r93
          clear r93
          have hst := rp_stored (.bool false) (.bool false) (.slice la acc.length lc) (.slice ha acc.length hcp) hR
          have hcc := (rp_cells hst).1
          have hbf : Below w.heap.size w _ := (((hbw.setCell (p := ⟨w.heap.size, 0, none⟩) (Nat.le_refl _) (.bool false)).setCell (p := ⟨w.heap.size, 1, none⟩) (Nat.le_refl _) (.bool false)).setCell (p := ⟨w.heap.size, 2, none⟩) (Nat.le_refl _) (.slice la acc.length lc)).setCell (p := ⟨w.heap.size, 3, none⟩) (Nat.le_refl _) (.slice ha acc.length hcp)
          go_wp2
          refine bodyPost_ret (v := .tuple #[.agg #[.bool false, .bool false, .slice la acc.length lc, .slice ha acc.length hcp], .int .i64 (-1)]) (by simp [results, Try.results46, go_sem, hcc]) rfl ?_
          refine ⟨hbf, ?_⟩
          rw [HN.out]
          exact ⟨_, _, _, _, _, _, _, _, rfl⟩
        | false =>
          have HN : Hid (rsS (T.length + 1) true (setBody T) [] = some (acc, T.drop (k + 1))) := by
            show _ = _
            rw [HL.out, hD.out]
            exact rs_close r93
          clear r93
          have hst := rp_stored (.bool false) (.bool false) (.slice la acc.length lc) (.slice ha acc.length hcp) hR
          have hcc := (rp_cells hst).1
          have hbf : Below w.heap.size w _ := (((hbw.setCell (p := ⟨w.heap.size, 0, none⟩) (Nat.le_refl _) (.bool false)).setCell (p := ⟨w.heap.size, 1, none⟩) (Nat.le_refl _) (.bool false)).setCell (p := ⟨w.heap.size, 2, none⟩) (Nat.le_refl _) (.slice la acc.length lc)).setCell (p := ⟨w.heap.size, 3, none⟩) (Nat.le_refl _) (.slice ha acc.length hcp)
          have hfar : ∀ {vv : Value}, (∀ b, vv.ownBlock = some b → w.heap.size + 2 ≤ b ∧ b < wr.heap.size) → vv.ownBlock = none ∨ vv.ownBlock ≠ some w.heap.size := fun {vv} h => by
            cases hx : vv.ownBlock with
            | none => exact .inl rfl
            | some b => right; intro e; have := (h b hx).1; simp at e; omega
          have ho1 := own_base (rp_kept hR hlo (hfar hlo.lt) (.bool false) (.bool false) (.slice la acc.length lc) (.slice ha acc.length hcp)) (show w.heap.size ≤ w.heap.size + 2 by omega)
          have ho2 := own_base (rp_kept hR hhi (hfar hhi.lt) (.bool false) (.bool false) (.slice la acc.length lc) (.slice ha acc.length hcp)) (show w.heap.size ≤ w.heap.size + 2 by omega)
          have hHd : Hid ((T.head? == some 94) = false) := HHD
          go_wp2
          refine bodyPost_ret (v := .tuple #[.agg #[.bool false, .bool false, .slice la acc.length lc, .slice ha acc.length hcp], .int .i64 ((k : Int) + 1)]) (by simp [results, Try.results46, go_sem, hcc]) rfl ?_
          refine ⟨hbf, ?_⟩
          rw [HN.out]
          simp only
          rw [hHd.out]
          refine ⟨la, lc, ha, hcp, ?_, ho1, ho2⟩
          rw [List.length_drop]
          congr 6
          omega
      · by_cases r45 : r = 45
        · cases first with
          | true =>
            have hi1 : item (r :: T.drop (k + 1)) = some (45, T.drop (k + 1)) := by
              have := item_plain hlt (by rw [← hr, r45]; decide)
              rw [hD.out, ← hr, r45] at this
              rw [r45]; exact this
            have hnd : ¬ (r = 45 ∧ true = false ∧ (T.drop (k + 1)).head? ≠ some 93) := fun h => by cases h.2.1
            replace hc0 : wr.cell? ⟨g, o + k * 4, none⟩ = some (.int .i32 45) := by rw [hc0, r45]; rfl
            by_cases hja : k + 1 + 1 < T.length
            · have hjai : (k : Int) + 1 + 1 < (T.length : Int) := by omega
              have lz := HDW.out (k + 1) (by omega)
              obtain ⟨z, hzz⟩ : ∃ z, z = T[k + 1] := ⟨_, rfl⟩
              rw [← hzz] at lz
              by_cases hz : T[k + 1] = 45
              · replace lz : wr.cell? ⟨g, o + (k + 1) * 4, none⟩ = some (.int .i32 45) := by rw [lz, hzz, hz]; rfl
                have ly := HDW.out (k + 1 + 1) hja
                obtain ⟨y, hy0⟩ : ∃ y, y = T[k + 1 + 1] := ⟨_, rfl⟩
                rw [← hy0] at ly
                by_cases hy : T[k + 1 + 1] = 93
                · replace ly : wr.cell? ⟨g, o + (k + 1 + 1) * 4, none⟩ = some (.int .i32 93) := by rw [ly, hy0, hy]; rfl
                  have HL2 : Hid (rsS (T.length + 1) true (setBody T) [] = rsS f false (T.drop (k + 1)) (acc ++ [(45, 45)])) := by
                    show _ = _
                    rw [HL.out, hD.out]
                    exact rs_go r93 hnd hi1 (dash_d hja hy)
                  try clear hi1
                  try clear hnd
                  try clear r93
                  try clear hit
                  try clear hov
                  try clear hz
                  try clear hzz
                  try clear hy
                  try clear hy0
                  try clear hy92
                  try clear hu0
                  try clear hq
                  try clear hqq
                  try clear r92
                  try clear r45
                  try clear hr
                  try clear hk1
                  go_wp2_with (at_builtin; go_loud (refine wpList_append_own_at _ rfl _ _ 63 rfl (w.heap.size + 2) 21 i0 (.int .i32 0) 1 4 Try.underlying63 hi hz0 hz1 hz2 rfl (by decide) _ _ _ rfl (hlo.alloc _) _ _ _ (iC 45) rfl rfl ?a131 ?a132 ?a133 ?a134 ?a135 ?_))
                  case a131 => intro j u hj; first | exact hj | exact new_row _ _ _ _ rfl j u hj | exact new_row _ _ _ _ (by simp [World.setCell]) j u hj
                  case a132 => intro u hu; simp [iC] at hu; subst hu; rfl
                  case a133 => unfold maxLen; omega
                  case a134 => omega
                  case a135 => first | omega | (simp [World.setCell]; omega)
                  intro v1 w3 hlo3 hgrow _ hob
                  have hP3 := (hP.alloc _).kept hgrow (.inr (fun e => by have := (hlo.lt (w.heap.size + 1) e.symm).1; omega))
                  have hR3 := (hR.alloc _).kept hgrow (.inr (fun e => by have := (hlo.lt w.heap.size e.symm).1; omega))
                  obtain ⟨hhi3, hne3⟩ := apart_kept (hlo.alloc _) (hhi.alloc _) hne hgrow (by simpa using hob)
                  have hb3 : Below w.heap.size w w3 := (hbw.alloc hbw.size _).grown hgrow (by simp; omega) (fun k hk => by have := (hlo.lt k hk).1; omega)
                  have hw3 : w.heap.size + 1 < w3.heap.size := (hP3.lt _ rfl).2
                  obtain ⟨la3, lc3, hv3⟩ := own_form hlo3
                  subst hv3
                  obtain ⟨⟨s0, s1, s2, s3⟩, z0, z1, z2, z3⟩ := rp_cells hP3
                  have hP4 := (hP3.stored 2 (.slice la3 (acc.length + 1) lc3)).1
                  have hneP : ∀ {vv : Value}, (∀ b, vv.ownBlock = some b → w.heap.size + 2 ≤ b ∧ b < w3.heap.size) → vv.ownBlock = none ∨ vv.ownBlock ≠ some (w.heap.size + 1) := fun {vv} h => by
                    cases hx : vv.ownBlock with
                    | none => exact .inl rfl
                    | some b => right; intro e; have := (h b hx).1; simp at e; omega
                  have hlo4 := hlo3.kept (hP3.stored 2 (.slice la3 (acc.length + 1) lc3)).2 (hneP hlo3.lt)
                  have hhi4 := hhi3.kept (hP3.stored 2 (.slice la3 (acc.length + 1) lc3)).2 (hneP hhi3.lt)
                  have hR4 := hR3.kept (hP3.stored 2 (.slice la3 (acc.length + 1) lc3)).2 (.inr (by intro e; simp [Value.ownBlock] at e))
                  have hb4 := hb3.setCell (p := ⟨w.heap.size + 1, 2, none⟩) (by show _ ≤ w.heap.size + 1; omega) (.slice la3 (acc.length + 1) lc3)
                  clear hgrow hlo hhi hP hR hbw hlo3 hhi3 hR3 hob
                  go_wp2_with (at_builtin; go_loud (refine wpList_append_own_at _ rfl _ _ 63 rfl (w.heap.size + 2) 21 i0 (.int .i32 0) 1 4 Try.underlying63 hi hz0 hz1 hz2 rfl (by decide) _ _ _ rfl (hhi4.alloc _) _ _ _ (iC 45) rfl rfl ?b131 ?b132 ?b133 ?b134 ?b135 ?_))
                  case b131 => intro j u hj; first | exact hj | exact new_row _ _ _ _ rfl j u hj | exact new_row _ _ _ _ (by simp [World.setCell]) j u hj
                  case b132 => intro u hu; simp [iC] at hu; subst hu; rfl
                  case b133 => unfold maxLen; omega
                  case b134 => omega
                  case b135 => first | omega | (simp [World.setCell]; omega)
                  intro v2 w5 hhi5 hgrow2 _ hob2
                  have hP5 := (hP4.alloc _).kept hgrow2 (.inr (fun e => by have := (hhi4.lt (w.heap.size + 1) e.symm).1; omega))
                  have hR5 := (hR4.alloc _).kept hgrow2 (.inr (fun e => by have := (hhi4.lt w.heap.size e.symm).1; omega))
                  obtain ⟨hlo5, hne5⟩ := apart_kept (hhi4.alloc _) (hlo4.alloc _) (apart_symm hne3) hgrow2 (by simpa using hob2)
                  have hb5 : Below w.heap.size w w5 := (hb4.alloc hb4.size _).grown hgrow2 (hb4.alloc hb4.size _).size (fun k hk => by have := (hhi4.lt k hk).1; omega)
                  obtain ⟨ha5, hc5, hv5⟩ := own_form hhi5
                  subst hv5
                  obtain ⟨⟨s0, s1, s2, s3⟩, z0, z1, z2, z3⟩ := rp_cells hP5
                  have hneQ : ∀ {vv : Value}, (∀ b, vv.ownBlock = some b → w.heap.size + 2 ≤ b ∧ b < w5.heap.size) → vv.ownBlock = none ∨ vv.ownBlock ≠ some (w.heap.size + 1) := fun {vv} h => by
                    cases hx : vv.ownBlock with
                    | none => exact .inl rfl
                    | some b => right; intro e; have := (h b hx).1; simp at e; omega
                  have hlo6 := hlo5.kept (hP5.stored 3 (.slice ha5 (acc.length + 1) hc5)).2 (hneQ hlo5.lt)
                  have hhi6 := hhi5.kept (hP5.stored 3 (.slice ha5 (acc.length + 1) hc5)).2 (hneQ hhi5.lt)
                  have hR6 := hR5.kept (hP5.stored 3 (.slice ha5 (acc.length + 1) hc5)).2 (.inr (by intro e; simp [Value.ownBlock] at e))
                  have hP6 := (hP5.stored 3 (.slice ha5 (acc.length + 1) hc5)).1
                  have hb6 := hb5.setCell (p := ⟨w.heap.size + 1, 3, none⟩) (by show _ ≤ w.heap.size + 1; omega) (.slice ha5 (acc.length + 1) hc5)
                  clear hgrow2 hob2 hP5 hlo5 hhi5 hR5 hP4 hlo4 hhi4 hR4
                  go_wp2
                  go_roundw
                  case rel =>
                    refine ⟨k + 1, f, false, acc ++ [(45, 45)], _, _, by go_num, rfl, by omega, by omega, by simp; omega, HL2, hR6, hP6, ?_, ?_, apart_symm hne5, hb6⟩
                    · rw [List.map_append, rowOf_append, List.length_append]; exact hlo6
                    · rw [List.map_append, rowOf_append, List.length_append]; exact hhi6
                  case measure => simp [intOf]; omega
                · have dy : ((y : Int) != 93) = true := bne_iff_ne.2 (by rw [hy0]; omega)
                  by_cases hy92 : T[k + 1 + 1] = 92
                  · replace ly : wr.cell? ⟨g, o + (k + 1 + 1) * 4, none⟩ = some (.int .i32 92) := by rw [ly, hy0, hy92]; rfl
                    by_cases hjb : k + 1 + 2 < T.length
                    · have hjbi : ¬ (T.length : Int) ≤ (k : Int) + 1 + 2 := by omega
                      have hjbi2 : (k : Int) + 1 + 2 < (T.length : Int) := by omega
                      have lu := HDW.out (k + 1 + 2) hjb
                      obtain ⟨u, hu0⟩ : ∃ u, u = T[k + 1 + 2] := ⟨_, rfl⟩
                      rw [← hu0] at lu
                      have hit : item (T.drop (k + 1 + 1)) = some (u, T.drop (k + 1 + 2 + 1)) := by
                        have := item_esc (T := T) (j := k + 1 + 1) (by omega) hy92
                        rw [show k + 1 + 1 + 2 = k + 1 + 2 + 1 by omega] at this
                        rw [this, hu0]
                      by_cases hov : u < 45
                      · have hovi : (u : Int) < (45 : Int) := by omega
                        have HN : Hid (rsS (T.length + 1) true (setBody T) [] = none) := by
                          show _ = _
                          rw [HL.out, hD.out]
                          exact rs_over r93 hnd hi1 (dash_e hja hz hy) hit hov
                        try clear hi1
                        try clear hnd
                        try clear r93
                        try clear hit
                        try clear hov
                        try clear hz
                        try clear hzz
                        try clear hy
                        try clear hy0
                        try clear hy92
                        try clear hu0
                        try clear hq
                        try clear hqq
                        try clear r92
                        try clear r45
                        try clear hr
                        try clear hk1
                        have hst := rp_stored (.bool false) (.bool false) (.slice la acc.length lc) (.slice ha acc.length hcp) hR
                        have hcc := (rp_cells hst).1
                        have hbf : Below w.heap.size w _ := (((hbw.setCell (p := ⟨w.heap.size, 0, none⟩) (Nat.le_refl _) (.bool false)).setCell (p := ⟨w.heap.size, 1, none⟩) (Nat.le_refl _) (.bool false)).setCell (p := ⟨w.heap.size, 2, none⟩) (Nat.le_refl _) (.slice la acc.length lc)).setCell (p := ⟨w.heap.size, 3, none⟩) (Nat.le_refl _) (.slice ha acc.length hcp)
                        go_wp2
                        refine bodyPost_ret (v := .tuple #[.agg #[.bool false, .bool false, .slice la acc.length lc, .slice ha acc.length hcp], .int .i64 (-1)]) (by simp [results, Try.results46, go_sem, hcc]) rfl ?_
                        refine ⟨hbf, ?_⟩
                        rw [HN.out]
                        exact ⟨_, _, _, _, _, _, _, _, rfl⟩
                      · have hovi : ¬ (u : Int) < (45 : Int) := by omega
                        have HL2 : Hid (rsS (T.length + 1) true (setBody T) [] = rsS f false (T.drop (k + 1 + 2 + 1)) (acc ++ [(45, u)])) := by
                          show _ = _
                          rw [HL.out, hD.out]
                          have := rs_go2 (f := f) (acc := acc) r93 hnd hi1 (dash_e hja hz hy) hit hov
                          exact this
                        try clear hi1
                        try clear hnd
                        try clear r93
                        try clear hit
                        try clear hov
                        try clear hz
                        try clear hzz
                        try clear hy
                        try clear hy0
                        try clear hy92
                        try clear hu0
                        try clear hq
                        try clear hqq
                        try clear r92
                        try clear r45
                        try clear hr
                        try clear hk1
                        go_wp2_with (at_builtin; go_loud (refine wpList_append_own_at _ rfl _ _ 63 rfl (w.heap.size + 2) 21 i0 (.int .i32 0) 1 4 Try.underlying63 hi hz0 hz1 hz2 rfl (by decide) _ _ _ rfl (hlo.alloc _) _ _ _ (iC 45) rfl rfl ?a151 ?a152 ?a153 ?a154 ?a155 ?_))
                        case a151 => intro j u hj; first | exact hj | exact new_row _ _ _ _ rfl j u hj | exact new_row _ _ _ _ (by simp [World.setCell]) j u hj
                        case a152 => intro u hu; simp [iC] at hu; subst hu; rfl
                        case a153 => unfold maxLen; omega
                        case a154 => omega
                        case a155 => first | omega | (simp [World.setCell]; omega)
                        intro v1 w3 hlo3 hgrow _ hob
                        have hP3 := (hP.alloc _).kept hgrow (.inr (fun e => by have := (hlo.lt (w.heap.size + 1) e.symm).1; omega))
                        have hR3 := (hR.alloc _).kept hgrow (.inr (fun e => by have := (hlo.lt w.heap.size e.symm).1; omega))
                        obtain ⟨hhi3, hne3⟩ := apart_kept (hlo.alloc _) (hhi.alloc _) hne hgrow (by simpa using hob)
                        have hb3 : Below w.heap.size w w3 := (hbw.alloc hbw.size _).grown hgrow (by simp; omega) (fun k hk => by have := (hlo.lt k hk).1; omega)
                        have hw3 : w.heap.size + 1 < w3.heap.size := (hP3.lt _ rfl).2
                        obtain ⟨la3, lc3, hv3⟩ := own_form hlo3
                        subst hv3
                        obtain ⟨⟨s0, s1, s2, s3⟩, z0, z1, z2, z3⟩ := rp_cells hP3
                        have hP4 := (hP3.stored 2 (.slice la3 (acc.length + 1) lc3)).1
                        have hneP : ∀ {vv : Value}, (∀ b, vv.ownBlock = some b → w.heap.size + 2 ≤ b ∧ b < w3.heap.size) → vv.ownBlock = none ∨ vv.ownBlock ≠ some (w.heap.size + 1) := fun {vv} h => by
                          cases hx : vv.ownBlock with
                          | none => exact .inl rfl
                          | some b => right; intro e; have := (h b hx).1; simp at e; omega
                        have hlo4 := hlo3.kept (hP3.stored 2 (.slice la3 (acc.length + 1) lc3)).2 (hneP hlo3.lt)
                        have hhi4 := hhi3.kept (hP3.stored 2 (.slice la3 (acc.length + 1) lc3)).2 (hneP hhi3.lt)
                        have hR4 := hR3.kept (hP3.stored 2 (.slice la3 (acc.length + 1) lc3)).2 (.inr (by intro e; simp [Value.ownBlock] at e))
                        have hb4 := hb3.setCell (p := ⟨w.heap.size + 1, 2, none⟩) (by show _ ≤ w.heap.size + 1; omega) (.slice la3 (acc.length + 1) lc3)
                        clear hgrow hlo hhi hP hR hbw hlo3 hhi3 hR3 hob
                        go_wp2_with (at_builtin; go_loud (refine wpList_append_own_at _ rfl _ _ 63 rfl (w.heap.size + 2) 21 i0 (.int .i32 0) 1 4 Try.underlying63 hi hz0 hz1 hz2 rfl (by decide) _ _ _ rfl (hhi4.alloc _) _ _ _ (iC u) rfl rfl ?b151 ?b152 ?b153 ?b154 ?b155 ?_))
                        case b151 => intro j u hj; first | exact hj | exact new_row _ _ _ _ rfl j u hj | exact new_row _ _ _ _ (by simp [World.setCell]) j u hj
                        case b152 => intro u hu; simp [iC] at hu; subst hu; rfl
                        case b153 => unfold maxLen; omega
                        case b154 => omega
                        case b155 => first | omega | (simp [World.setCell]; omega)
                        intro v2 w5 hhi5 hgrow2 _ hob2
                        have hP5 := (hP4.alloc _).kept hgrow2 (.inr (fun e => by have := (hhi4.lt (w.heap.size + 1) e.symm).1; omega))
                        have hR5 := (hR4.alloc _).kept hgrow2 (.inr (fun e => by have := (hhi4.lt w.heap.size e.symm).1; omega))
                        obtain ⟨hlo5, hne5⟩ := apart_kept (hhi4.alloc _) (hlo4.alloc _) (apart_symm hne3) hgrow2 (by simpa using hob2)
                        have hb5 : Below w.heap.size w w5 := (hb4.alloc hb4.size _).grown hgrow2 (hb4.alloc hb4.size _).size (fun k hk => by have := (hhi4.lt k hk).1; omega)
                        obtain ⟨ha5, hc5, hv5⟩ := own_form hhi5
                        subst hv5
                        obtain ⟨⟨s0, s1, s2, s3⟩, z0, z1, z2, z3⟩ := rp_cells hP5
                        have hneQ : ∀ {vv : Value}, (∀ b, vv.ownBlock = some b → w.heap.size + 2 ≤ b ∧ b < w5.heap.size) → vv.ownBlock = none ∨ vv.ownBlock ≠ some (w.heap.size + 1) := fun {vv} h => by
                          cases hx : vv.ownBlock with
                          | none => exact .inl rfl
                          | some b => right; intro e; have := (h b hx).1; simp at e; omega
                        have hlo6 := hlo5.kept (hP5.stored 3 (.slice ha5 (acc.length + 1) hc5)).2 (hneQ hlo5.lt)
                        have hhi6 := hhi5.kept (hP5.stored 3 (.slice ha5 (acc.length + 1) hc5)).2 (hneQ hhi5.lt)
                        have hR6 := hR5.kept (hP5.stored 3 (.slice ha5 (acc.length + 1) hc5)).2 (.inr (by intro e; simp [Value.ownBlock] at e))
                        have hP6 := (hP5.stored 3 (.slice ha5 (acc.length + 1) hc5)).1
                        have hb6 := hb5.setCell (p := ⟨w.heap.size + 1, 3, none⟩) (by show _ ≤ w.heap.size + 1; omega) (.slice ha5 (acc.length + 1) hc5)
                        clear hgrow2 hob2 hP5 hlo5 hhi5 hR5 hP4 hlo4 hhi4 hR4
                        go_wp2
                        go_roundw
                        case rel =>
                          refine ⟨k + 1 + 2 + 1, f, false, acc ++ [(45, u)], _, _, by go_num, rfl, by omega, by omega, by simp; omega, HL2, hR6, hP6, ?_, ?_, apart_symm hne5, hb6⟩
                          · rw [List.map_append, rowOf_append, List.length_append]; exact hlo6
                          · rw [List.map_append, rowOf_append, List.length_append]; exact hhi6
                        case measure => simp [intOf]; omega
                    · have hjbi : (T.length : Int) ≤ (k : Int) + 1 + 2 := by omega
                      have HN : Hid (rsS (T.length + 1) true (setBody T) [] = none) := by
                        show _ = _
                        rw [HL.out, hD.out]
                        exact rs_item1 r93 hnd hi1 (dash_e hja hz (by rw [hy92]; decide)) (item_end (by omega) (by omega) hy92)
                      try clear hi1
                      try clear hnd
                      try clear r93
                      try clear hit
                      try clear hov
                      try clear hz
                      try clear hzz
                      try clear hy
                      try clear hy0
                      try clear hy92
                      try clear hu0
                      try clear hq
                      try clear hqq
                      try clear r92
                      try clear r45
                      try clear hr
                      try clear hk1
                      have hst := rp_stored (.bool false) (.bool false) (.slice la acc.length lc) (.slice ha acc.length hcp) hR
                      have hcc := (rp_cells hst).1
                      have hbf : Below w.heap.size w _ := (((hbw.setCell (p := ⟨w.heap.size, 0, none⟩) (Nat.le_refl _) (.bool false)).setCell (p := ⟨w.heap.size, 1, none⟩) (Nat.le_refl _) (.bool false)).setCell (p := ⟨w.heap.size, 2, none⟩) (Nat.le_refl _) (.slice la acc.length lc)).setCell (p := ⟨w.heap.size, 3, none⟩) (Nat.le_refl _) (.slice ha acc.length hcp)
                      go_wp2
                      refine bodyPost_ret (v := .tuple #[.agg #[.bool false, .bool false, .slice la acc.length lc, .slice ha acc.length hcp], .int .i64 (-1)]) (by simp [results, Try.results46, go_sem, hcc]) rfl ?_
                      refine ⟨hbf, ?_⟩
                      rw [HN.out]
                      exact ⟨_, _, _, _, _, _, _, _, rfl⟩
                  · have dy2 : ((y : Int) == 92) = false := beq_false_of_ne (by rw [hy0]; omega)
                    have hit : item (T.drop (k + 1 + 1)) = some (y, T.drop (k + 1 + 2)) := by
                      have := item_plain (T := T) (j := k + 1 + 1) (by omega) hy92
                      rw [show k + 1 + 1 + 1 = k + 1 + 2 by omega] at this
                      rw [this, hy0]
                    by_cases hov : y < 45
                    · have hovi : (y : Int) < (45 : Int) := by omega
                      have HN : Hid (rsS (T.length + 1) true (setBody T) [] = none) := by
                        show _ = _
                        rw [HL.out, hD.out]
                        exact rs_over r93 hnd hi1 (dash_e hja hz hy) hit hov
                      try clear hi1
                      try clear hnd
                      try clear r93
                      try clear hit
                      try clear hov
                      try clear hz
                      try clear hzz
                      try clear hy
                      try clear hy0
                      try clear hy92
                      try clear hu0
                      try clear hq
                      try clear hqq
                      try clear r92
                      try clear r45
                      try clear hr
                      try clear hk1
                      have hst := rp_stored (.bool false) (.bool false) (.slice la acc.length lc) (.slice ha acc.length hcp) hR
                      have hcc := (rp_cells hst).1
                      have hbf : Below w.heap.size w _ := (((hbw.setCell (p := ⟨w.heap.size, 0, none⟩) (Nat.le_refl _) (.bool false)).setCell (p := ⟨w.heap.size, 1, none⟩) (Nat.le_refl _) (.bool false)).setCell (p := ⟨w.heap.size, 2, none⟩) (Nat.le_refl _) (.slice la acc.length lc)).setCell (p := ⟨w.heap.size, 3, none⟩) (Nat.le_refl _) (.slice ha acc.length hcp)
                      go_wp2
                      refine bodyPost_ret (v := .tuple #[.agg #[.bool false, .bool false, .slice la acc.length lc, .slice ha acc.length hcp], .int .i64 (-1)]) (by simp [results, Try.results46, go_sem, hcc]) rfl ?_
                      refine ⟨hbf, ?_⟩
                      rw [HN.out]
                      exact ⟨_, _, _, _, _, _, _, _, rfl⟩
                    · have hovi : ¬ (y : Int) < (45 : Int) := by omega
                      have HL2 : Hid (rsS (T.length + 1) true (setBody T) [] = rsS f false (T.drop (k + 1 + 2)) (acc ++ [(45, y)])) := by
                        show _ = _
                        rw [HL.out, hD.out]
                        have := rs_go2 (f := f) (acc := acc) r93 hnd hi1 (dash_e hja hz hy) hit hov
                        exact this
                      try clear hi1
                      try clear hnd
                      try clear r93
                      try clear hit
                      try clear hov
                      try clear hz
                      try clear hzz
                      try clear hy
                      try clear hy0
                      try clear hy92
                      try clear hu0
                      try clear hq
                      try clear hqq
                      try clear r92
                      try clear r45
                      try clear hr
                      try clear hk1
                      go_wp2_with (at_builtin; go_loud (refine wpList_append_own_at _ rfl _ _ 63 rfl (w.heap.size + 2) 21 i0 (.int .i32 0) 1 4 Try.underlying63 hi hz0 hz1 hz2 rfl (by decide) _ _ _ rfl (hlo.alloc _) _ _ _ (iC 45) rfl rfl ?a141 ?a142 ?a143 ?a144 ?a145 ?_))
                      case a141 => intro j u hj; first | exact hj | exact new_row _ _ _ _ rfl j u hj | exact new_row _ _ _ _ (by simp [World.setCell]) j u hj
                      case a142 => intro u hu; simp [iC] at hu; subst hu; rfl
                      case a143 => unfold maxLen; omega
                      case a144 => omega
                      case a145 => first | omega | (simp [World.setCell]; omega)
                      intro v1 w3 hlo3 hgrow _ hob
                      have hP3 := (hP.alloc _).kept hgrow (.inr (fun e => by have := (hlo.lt (w.heap.size + 1) e.symm).1; omega))
                      have hR3 := (hR.alloc _).kept hgrow (.inr (fun e => by have := (hlo.lt w.heap.size e.symm).1; omega))
                      obtain ⟨hhi3, hne3⟩ := apart_kept (hlo.alloc _) (hhi.alloc _) hne hgrow (by simpa using hob)
                      have hb3 : Below w.heap.size w w3 := (hbw.alloc hbw.size _).grown hgrow (by simp; omega) (fun k hk => by have := (hlo.lt k hk).1; omega)
                      have hw3 : w.heap.size + 1 < w3.heap.size := (hP3.lt _ rfl).2
                      obtain ⟨la3, lc3, hv3⟩ := own_form hlo3
                      subst hv3
                      obtain ⟨⟨s0, s1, s2, s3⟩, z0, z1, z2, z3⟩ := rp_cells hP3
                      have hP4 := (hP3.stored 2 (.slice la3 (acc.length + 1) lc3)).1
                      have hneP : ∀ {vv : Value}, (∀ b, vv.ownBlock = some b → w.heap.size + 2 ≤ b ∧ b < w3.heap.size) → vv.ownBlock = none ∨ vv.ownBlock ≠ some (w.heap.size + 1) := fun {vv} h => by
                        cases hx : vv.ownBlock with
                        | none => exact .inl rfl
                        | some b => right; intro e; have := (h b hx).1; simp at e; omega
                      have hlo4 := hlo3.kept (hP3.stored 2 (.slice la3 (acc.length + 1) lc3)).2 (hneP hlo3.lt)
                      have hhi4 := hhi3.kept (hP3.stored 2 (.slice la3 (acc.length + 1) lc3)).2 (hneP hhi3.lt)
                      have hR4 := hR3.kept (hP3.stored 2 (.slice la3 (acc.length + 1) lc3)).2 (.inr (by intro e; simp [Value.ownBlock] at e))
                      have hb4 := hb3.setCell (p := ⟨w.heap.size + 1, 2, none⟩) (by show _ ≤ w.heap.size + 1; omega) (.slice la3 (acc.length + 1) lc3)
                      clear hgrow hlo hhi hP hR hbw hlo3 hhi3 hR3 hob
                      go_wp2_with (at_builtin; go_loud (refine wpList_append_own_at _ rfl _ _ 63 rfl (w.heap.size + 2) 21 i0 (.int .i32 0) 1 4 Try.underlying63 hi hz0 hz1 hz2 rfl (by decide) _ _ _ rfl (hhi4.alloc _) _ _ _ (iC y) rfl rfl ?b141 ?b142 ?b143 ?b144 ?b145 ?_))
                      case b141 => intro j u hj; first | exact hj | exact new_row _ _ _ _ rfl j u hj | exact new_row _ _ _ _ (by simp [World.setCell]) j u hj
                      case b142 => intro u hu; simp [iC] at hu; subst hu; rfl
                      case b143 => unfold maxLen; omega
                      case b144 => omega
                      case b145 => first | omega | (simp [World.setCell]; omega)
                      intro v2 w5 hhi5 hgrow2 _ hob2
                      have hP5 := (hP4.alloc _).kept hgrow2 (.inr (fun e => by have := (hhi4.lt (w.heap.size + 1) e.symm).1; omega))
                      have hR5 := (hR4.alloc _).kept hgrow2 (.inr (fun e => by have := (hhi4.lt w.heap.size e.symm).1; omega))
                      obtain ⟨hlo5, hne5⟩ := apart_kept (hhi4.alloc _) (hlo4.alloc _) (apart_symm hne3) hgrow2 (by simpa using hob2)
                      have hb5 : Below w.heap.size w w5 := (hb4.alloc hb4.size _).grown hgrow2 (hb4.alloc hb4.size _).size (fun k hk => by have := (hhi4.lt k hk).1; omega)
                      obtain ⟨ha5, hc5, hv5⟩ := own_form hhi5
                      subst hv5
                      obtain ⟨⟨s0, s1, s2, s3⟩, z0, z1, z2, z3⟩ := rp_cells hP5
                      have hneQ : ∀ {vv : Value}, (∀ b, vv.ownBlock = some b → w.heap.size + 2 ≤ b ∧ b < w5.heap.size) → vv.ownBlock = none ∨ vv.ownBlock ≠ some (w.heap.size + 1) := fun {vv} h => by
                        cases hx : vv.ownBlock with
                        | none => exact .inl rfl
                        | some b => right; intro e; have := (h b hx).1; simp at e; omega
                      have hlo6 := hlo5.kept (hP5.stored 3 (.slice ha5 (acc.length + 1) hc5)).2 (hneQ hlo5.lt)
                      have hhi6 := hhi5.kept (hP5.stored 3 (.slice ha5 (acc.length + 1) hc5)).2 (hneQ hhi5.lt)
                      have hR6 := hR5.kept (hP5.stored 3 (.slice ha5 (acc.length + 1) hc5)).2 (.inr (by intro e; simp [Value.ownBlock] at e))
                      have hP6 := (hP5.stored 3 (.slice ha5 (acc.length + 1) hc5)).1
                      have hb6 := hb5.setCell (p := ⟨w.heap.size + 1, 3, none⟩) (by show _ ≤ w.heap.size + 1; omega) (.slice ha5 (acc.length + 1) hc5)
                      clear hgrow2 hob2 hP5 hlo5 hhi5 hR5 hP4 hlo4 hhi4 hR4
                      go_wp2
                      go_roundw
                      case rel =>
                        refine ⟨k + 1 + 2, f, false, acc ++ [(45, y)], _, _, by go_num, rfl, by omega, by omega, by simp; omega, HL2, hR6, hP6, ?_, ?_, apart_symm hne5, hb6⟩
                        · rw [List.map_append, rowOf_append, List.length_append]; exact hlo6
                        · rw [List.map_append, rowOf_append, List.length_append]; exact hhi6
                      case measure => simp [intOf]; omega
              · have dz : ((z : Int) == 45) = false := beq_false_of_ne (by rw [hzz]; omega)
                have HL2 : Hid (rsS (T.length + 1) true (setBody T) [] = rsS f false (T.drop (k + 1)) (acc ++ [(45, 45)])) := by
                  show _ = _
                  rw [HL.out, hD.out]
                  exact rs_go r93 hnd hi1 (dash_b (by omega) hz)
                try clear hi1
                try clear hnd
                try clear r93
                try clear hit
                try clear hov
                try clear hz
                try clear hzz
                try clear hy
                try clear hy0
                try clear hy92
                try clear hu0
                try clear hq
                try clear hqq
                try clear r92
                try clear r45
                try clear hr
                try clear hk1
                go_wp2_with (at_builtin; go_loud (refine wpList_append_own_at _ rfl _ _ 63 rfl (w.heap.size + 2) 21 i0 (.int .i32 0) 1 4 Try.underlying63 hi hz0 hz1 hz2 rfl (by decide) _ _ _ rfl (hlo.alloc _) _ _ _ (iC 45) rfl rfl ?a121 ?a122 ?a123 ?a124 ?a125 ?_))
                case a121 => intro j u hj; first | exact hj | exact new_row _ _ _ _ rfl j u hj | exact new_row _ _ _ _ (by simp [World.setCell]) j u hj
                case a122 => intro u hu; simp [iC] at hu; subst hu; rfl
                case a123 => unfold maxLen; omega
                case a124 => omega
                case a125 => first | omega | (simp [World.setCell]; omega)
                intro v1 w3 hlo3 hgrow _ hob
                have hP3 := (hP.alloc _).kept hgrow (.inr (fun e => by have := (hlo.lt (w.heap.size + 1) e.symm).1; omega))
                have hR3 := (hR.alloc _).kept hgrow (.inr (fun e => by have := (hlo.lt w.heap.size e.symm).1; omega))
                obtain ⟨hhi3, hne3⟩ := apart_kept (hlo.alloc _) (hhi.alloc _) hne hgrow (by simpa using hob)
                have hb3 : Below w.heap.size w w3 := (hbw.alloc hbw.size _).grown hgrow (by simp; omega) (fun k hk => by have := (hlo.lt k hk).1; omega)
                have hw3 : w.heap.size + 1 < w3.heap.size := (hP3.lt _ rfl).2
                obtain ⟨la3, lc3, hv3⟩ := own_form hlo3
                subst hv3
                obtain ⟨⟨s0, s1, s2, s3⟩, z0, z1, z2, z3⟩ := rp_cells hP3
                have hP4 := (hP3.stored 2 (.slice la3 (acc.length + 1) lc3)).1
                have hneP : ∀ {vv : Value}, (∀ b, vv.ownBlock = some b → w.heap.size + 2 ≤ b ∧ b < w3.heap.size) → vv.ownBlock = none ∨ vv.ownBlock ≠ some (w.heap.size + 1) := fun {vv} h => by
                  cases hx : vv.ownBlock with
                  | none => exact .inl rfl
                  | some b => right; intro e; have := (h b hx).1; simp at e; omega
                have hlo4 := hlo3.kept (hP3.stored 2 (.slice la3 (acc.length + 1) lc3)).2 (hneP hlo3.lt)
                have hhi4 := hhi3.kept (hP3.stored 2 (.slice la3 (acc.length + 1) lc3)).2 (hneP hhi3.lt)
                have hR4 := hR3.kept (hP3.stored 2 (.slice la3 (acc.length + 1) lc3)).2 (.inr (by intro e; simp [Value.ownBlock] at e))
                have hb4 := hb3.setCell (p := ⟨w.heap.size + 1, 2, none⟩) (by show _ ≤ w.heap.size + 1; omega) (.slice la3 (acc.length + 1) lc3)
                clear hgrow hlo hhi hP hR hbw hlo3 hhi3 hR3 hob
                go_wp2_with (at_builtin; go_loud (refine wpList_append_own_at _ rfl _ _ 63 rfl (w.heap.size + 2) 21 i0 (.int .i32 0) 1 4 Try.underlying63 hi hz0 hz1 hz2 rfl (by decide) _ _ _ rfl (hhi4.alloc _) _ _ _ (iC 45) rfl rfl ?b121 ?b122 ?b123 ?b124 ?b125 ?_))
                case b121 => intro j u hj; first | exact hj | exact new_row _ _ _ _ rfl j u hj | exact new_row _ _ _ _ (by simp [World.setCell]) j u hj
                case b122 => intro u hu; simp [iC] at hu; subst hu; rfl
                case b123 => unfold maxLen; omega
                case b124 => omega
                case b125 => first | omega | (simp [World.setCell]; omega)
                intro v2 w5 hhi5 hgrow2 _ hob2
                have hP5 := (hP4.alloc _).kept hgrow2 (.inr (fun e => by have := (hhi4.lt (w.heap.size + 1) e.symm).1; omega))
                have hR5 := (hR4.alloc _).kept hgrow2 (.inr (fun e => by have := (hhi4.lt w.heap.size e.symm).1; omega))
                obtain ⟨hlo5, hne5⟩ := apart_kept (hhi4.alloc _) (hlo4.alloc _) (apart_symm hne3) hgrow2 (by simpa using hob2)
                have hb5 : Below w.heap.size w w5 := (hb4.alloc hb4.size _).grown hgrow2 (hb4.alloc hb4.size _).size (fun k hk => by have := (hhi4.lt k hk).1; omega)
                obtain ⟨ha5, hc5, hv5⟩ := own_form hhi5
                subst hv5
                obtain ⟨⟨s0, s1, s2, s3⟩, z0, z1, z2, z3⟩ := rp_cells hP5
                have hneQ : ∀ {vv : Value}, (∀ b, vv.ownBlock = some b → w.heap.size + 2 ≤ b ∧ b < w5.heap.size) → vv.ownBlock = none ∨ vv.ownBlock ≠ some (w.heap.size + 1) := fun {vv} h => by
                  cases hx : vv.ownBlock with
                  | none => exact .inl rfl
                  | some b => right; intro e; have := (h b hx).1; simp at e; omega
                have hlo6 := hlo5.kept (hP5.stored 3 (.slice ha5 (acc.length + 1) hc5)).2 (hneQ hlo5.lt)
                have hhi6 := hhi5.kept (hP5.stored 3 (.slice ha5 (acc.length + 1) hc5)).2 (hneQ hhi5.lt)
                have hR6 := hR5.kept (hP5.stored 3 (.slice ha5 (acc.length + 1) hc5)).2 (.inr (by intro e; simp [Value.ownBlock] at e))
                have hP6 := (hP5.stored 3 (.slice ha5 (acc.length + 1) hc5)).1
                have hb6 := hb5.setCell (p := ⟨w.heap.size + 1, 3, none⟩) (by show _ ≤ w.heap.size + 1; omega) (.slice ha5 (acc.length + 1) hc5)
                clear hgrow2 hob2 hP5 hlo5 hhi5 hR5 hP4 hlo4 hhi4 hR4
                go_wp2
                go_roundw
                case rel =>
                  refine ⟨k + 1, f, false, acc ++ [(45, 45)], _, _, by go_num, rfl, by omega, by omega, by simp; omega, HL2, hR6, hP6, ?_, ?_, apart_symm hne5, hb6⟩
                  · rw [List.map_append, rowOf_append, List.length_append]; exact hlo6
                  · rw [List.map_append, rowOf_append, List.length_append]; exact hhi6
                case measure => simp [intOf]; omega
            · have hjai : ¬ (k : Int) + 1 + 1 < (T.length : Int) := by omega
              have HL2 : Hid (rsS (T.length + 1) true (setBody T) [] = rsS f false (T.drop (k + 1)) (acc ++ [(45, 45)])) := by
                show _ = _
                rw [HL.out, hD.out]
                exact rs_go r93 hnd hi1 (dash_a hja)
              try clear hi1
              try clear hnd
              try clear r93
              try clear hit
              try clear hov
              try clear hz
              try clear hzz
              try clear hy
              try clear hy0
              try clear hy92
              try clear hu0
              try clear hq
              try clear hqq
              try clear r92
              try clear r45
              try clear hr
              try clear hk1
              go_wp2_with (at_builtin; go_loud (refine wpList_append_own_at _ rfl _ _ 63 rfl (w.heap.size + 2) 21 i0 (.int .i32 0) 1 4 Try.underlying63 hi hz0 hz1 hz2 rfl (by decide) _ _ _ rfl (hlo.alloc _) _ _ _ (iC 45) rfl rfl ?a111 ?a112 ?a113 ?a114 ?a115 ?_))
              case a111 => intro j u hj; first | exact hj | exact new_row _ _ _ _ rfl j u hj | exact new_row _ _ _ _ (by simp [World.setCell]) j u hj
              case a112 => intro u hu; simp [iC] at hu; subst hu; rfl
              case a113 => unfold maxLen; omega
              case a114 => omega
              case a115 => first | omega | (simp [World.setCell]; omega)
              intro v1 w3 hlo3 hgrow _ hob
              have hP3 := (hP.alloc _).kept hgrow (.inr (fun e => by have := (hlo.lt (w.heap.size + 1) e.symm).1; omega))
              have hR3 := (hR.alloc _).kept hgrow (.inr (fun e => by have := (hlo.lt w.heap.size e.symm).1; omega))
              obtain ⟨hhi3, hne3⟩ := apart_kept (hlo.alloc _) (hhi.alloc _) hne hgrow (by simpa using hob)
              have hb3 : Below w.heap.size w w3 := (hbw.alloc hbw.size _).grown hgrow (by simp; omega) (fun k hk => by have := (hlo.lt k hk).1; omega)
              have hw3 : w.heap.size + 1 < w3.heap.size := (hP3.lt _ rfl).2
              obtain ⟨la3, lc3, hv3⟩ := own_form hlo3
              subst hv3
              obtain ⟨⟨s0, s1, s2, s3⟩, z0, z1, z2, z3⟩ := rp_cells hP3
              have hP4 := (hP3.stored 2 (.slice la3 (acc.length + 1) lc3)).1
              have hneP : ∀ {vv : Value}, (∀ b, vv.ownBlock = some b → w.heap.size + 2 ≤ b ∧ b < w3.heap.size) → vv.ownBlock = none ∨ vv.ownBlock ≠ some (w.heap.size + 1) := fun {vv} h => by
                cases hx : vv.ownBlock with
                | none => exact .inl rfl
                | some b => right; intro e; have := (h b hx).1; simp at e; omega
              have hlo4 := hlo3.kept (hP3.stored 2 (.slice la3 (acc.length + 1) lc3)).2 (hneP hlo3.lt)
              have hhi4 := hhi3.kept (hP3.stored 2 (.slice la3 (acc.length + 1) lc3)).2 (hneP hhi3.lt)
              have hR4 := hR3.kept (hP3.stored 2 (.slice la3 (acc.length + 1) lc3)).2 (.inr (by intro e; simp [Value.ownBlock] at e))
              have hb4 := hb3.setCell (p := ⟨w.heap.size + 1, 2, none⟩) (by show _ ≤ w.heap.size + 1; omega) (.slice la3 (acc.length + 1) lc3)
              clear hgrow hlo hhi hP hR hbw hlo3 hhi3 hR3 hob
              go_wp2_with (at_builtin; go_loud (refine wpList_append_own_at _ rfl _ _ 63 rfl (w.heap.size + 2) 21 i0 (.int .i32 0) 1 4 Try.underlying63 hi hz0 hz1 hz2 rfl (by decide) _ _ _ rfl (hhi4.alloc _) _ _ _ (iC 45) rfl rfl ?b111 ?b112 ?b113 ?b114 ?b115 ?_))
              case b111 => intro j u hj; first | exact hj | exact new_row _ _ _ _ rfl j u hj | exact new_row _ _ _ _ (by simp [World.setCell]) j u hj
              case b112 => intro u hu; simp [iC] at hu; subst hu; rfl
              case b113 => unfold maxLen; omega
              case b114 => omega
              case b115 => first | omega | (simp [World.setCell]; omega)
              intro v2 w5 hhi5 hgrow2 _ hob2
              have hP5 := (hP4.alloc _).kept hgrow2 (.inr (fun e => by have := (hhi4.lt (w.heap.size + 1) e.symm).1; omega))
              have hR5 := (hR4.alloc _).kept hgrow2 (.inr (fun e => by have := (hhi4.lt w.heap.size e.symm).1; omega))
              obtain ⟨hlo5, hne5⟩ := apart_kept (hhi4.alloc _) (hlo4.alloc _) (apart_symm hne3) hgrow2 (by simpa using hob2)
              have hb5 : Below w.heap.size w w5 := (hb4.alloc hb4.size _).grown hgrow2 (hb4.alloc hb4.size _).size (fun k hk => by have := (hhi4.lt k hk).1; omega)
              obtain ⟨ha5, hc5, hv5⟩ := own_form hhi5
              subst hv5
              obtain ⟨⟨s0, s1, s2, s3⟩, z0, z1, z2, z3⟩ := rp_cells hP5
              have hneQ : ∀ {vv : Value}, (∀ b, vv.ownBlock = some b → w.heap.size + 2 ≤ b ∧ b < w5.heap.size) → vv.ownBlock = none ∨ vv.ownBlock ≠ some (w.heap.size + 1) := fun {vv} h => by
                cases hx : vv.ownBlock with
                | none => exact .inl rfl
                | some b => right; intro e; have := (h b hx).1; simp at e; omega
              have hlo6 := hlo5.kept (hP5.stored 3 (.slice ha5 (acc.length + 1) hc5)).2 (hneQ hlo5.lt)
              have hhi6 := hhi5.kept (hP5.stored 3 (.slice ha5 (acc.length + 1) hc5)).2 (hneQ hhi5.lt)
              have hR6 := hR5.kept (hP5.stored 3 (.slice ha5 (acc.length + 1) hc5)).2 (.inr (by intro e; simp [Value.ownBlock] at e))
              have hP6 := (hP5.stored 3 (.slice ha5 (acc.length + 1) hc5)).1
              have hb6 := hb5.setCell (p := ⟨w.heap.size + 1, 3, none⟩) (by show _ ≤ w.heap.size + 1; omega) (.slice ha5 (acc.length + 1) hc5)
              clear hgrow2 hob2 hP5 hlo5 hhi5 hR5 hP4 hlo4 hhi4 hR4
              go_wp2
              go_roundw
              case rel =>
                refine ⟨k + 1, f, false, acc ++ [(45, 45)], _, _, by go_num, rfl, by omega, by omega, by simp; omega, HL2, hR6, hP6, ?_, ?_, apart_symm hne5, hb6⟩
                · rw [List.map_append, rowOf_append, List.length_append]; exact hlo6
                · rw [List.map_append, rowOf_append, List.length_append]; exact hhi6
              case measure => simp [intOf]; omega
          | false =>
            replace hc0 : wr.cell? ⟨g, o + k * 4, none⟩ = some (.int .i32 45) := by rw [hc0, r45]; rfl
            by_cases hk1 : k + 1 < T.length
            · have lq := HDW.out (k + 1) hk1
              have hk1i : ¬ (T.length : Int) ≤ (k : Int) + 1 := by omega
              have hk1j : (k : Int) + 1 < (T.length : Int) := by omega
              obtain ⟨q, hqq⟩ : ∃ q, q = T[k + 1] := ⟨_, rfl⟩
              rw [← hqq] at lq
              by_cases hq : T[k + 1] = 93
              · replace lq : wr.cell? ⟨g, o + (k + 1) * 4, none⟩ = some (.int .i32 93) := by rw [lq, hqq, hq]; rfl
                have hi1 : item (r :: T.drop (k + 1)) = some (45, T.drop (k + 1)) := by
                  have := item_plain hlt (by rw [← hr, r45]; decide)
                  rw [hD.out, ← hr, r45] at this
                  rw [r45]; exact this
                have hnd : ¬ (r = 45 ∧ false = false ∧ (T.drop (k + 1)).head? ≠ some 93) := fun h => h.2.2 (by rw [head_drop hk1, hq])
                by_cases hja : k + 1 + 1 < T.length
                · have hjai : (k : Int) + 1 + 1 < (T.length : Int) := by omega
                  have HL2 : Hid (rsS (T.length + 1) true (setBody T) [] = rsS f false (T.drop (k + 1)) (acc ++ [(45, 45)])) := by
                    show _ = _
                    rw [HL.out, hD.out]
                    exact rs_go r93 hnd hi1 (dash_b hk1 (by rw [hq]; decide))
                  try clear hi1
                  try clear hnd
                  try clear r93
                  try clear hit
                  try clear hov
                  try clear hz
                  try clear hzz
                  try clear hy
                  try clear hy0
                  try clear hy92
                  try clear hu0
                  try clear hq
                  try clear hqq
                  try clear r92
                  try clear r45
                  try clear hr
                  try clear hk1
                  go_wp2_with (at_builtin; go_loud (refine wpList_append_own_at _ rfl _ _ 63 rfl (w.heap.size + 2) 21 i0 (.int .i32 0) 1 4 Try.underlying63 hi hz0 hz1 hz2 rfl (by decide) _ _ _ rfl (hlo.alloc _) _ _ _ (iC 45) rfl rfl ?a161 ?a162 ?a163 ?a164 ?a165 ?_))
                  case a161 => intro j u hj; first | exact hj | exact new_row _ _ _ _ rfl j u hj | exact new_row _ _ _ _ (by simp [World.setCell]) j u hj
                  case a162 => intro u hu; simp [iC] at hu; subst hu; rfl
                  case a163 => unfold maxLen; omega
                  case a164 => omega
                  case a165 => first | omega | (simp [World.setCell]; omega)
                  intro v1 w3 hlo3 hgrow _ hob
                  have hP3 := (hP.alloc _).kept hgrow (.inr (fun e => by have := (hlo.lt (w.heap.size + 1) e.symm).1; omega))
                  have hR3 := (hR.alloc _).kept hgrow (.inr (fun e => by have := (hlo.lt w.heap.size e.symm).1; omega))
                  obtain ⟨hhi3, hne3⟩ := apart_kept (hlo.alloc _) (hhi.alloc _) hne hgrow (by simpa using hob)
                  have hb3 : Below w.heap.size w w3 := (hbw.alloc hbw.size _).grown hgrow (by simp; omega) (fun k hk => by have := (hlo.lt k hk).1; omega)
                  have hw3 : w.heap.size + 1 < w3.heap.size := (hP3.lt _ rfl).2
                  obtain ⟨la3, lc3, hv3⟩ := own_form hlo3
                  subst hv3
                  obtain ⟨⟨s0, s1, s2, s3⟩, z0, z1, z2, z3⟩ := rp_cells hP3
                  have hP4 := (hP3.stored 2 (.slice la3 (acc.length + 1) lc3)).1
                  have hneP : ∀ {vv : Value}, (∀ b, vv.ownBlock = some b → w.heap.size + 2 ≤ b ∧ b < w3.heap.size) → vv.ownBlock = none ∨ vv.ownBlock ≠ some (w.heap.size + 1) := fun {vv} h => by
                    cases hx : vv.ownBlock with
                    | none => exact .inl rfl
                    | some b => right; intro e; have := (h b hx).1; simp at e; omega
                  have hlo4 := hlo3.kept (hP3.stored 2 (.slice la3 (acc.length + 1) lc3)).2 (hneP hlo3.lt)
                  have hhi4 := hhi3.kept (hP3.stored 2 (.slice la3 (acc.length + 1) lc3)).2 (hneP hhi3.lt)
                  have hR4 := hR3.kept (hP3.stored 2 (.slice la3 (acc.length + 1) lc3)).2 (.inr (by intro e; simp [Value.ownBlock] at e))
                  have hb4 := hb3.setCell (p := ⟨w.heap.size + 1, 2, none⟩) (by show _ ≤ w.heap.size + 1; omega) (.slice la3 (acc.length + 1) lc3)
                  clear hgrow hlo hhi hP hR hbw hlo3 hhi3 hR3 hob
                  go_wp2_with (at_builtin; go_loud (refine wpList_append_own_at _ rfl _ _ 63 rfl (w.heap.size + 2) 21 i0 (.int .i32 0) 1 4 Try.underlying63 hi hz0 hz1 hz2 rfl (by decide) _ _ _ rfl (hhi4.alloc _) _ _ _ (iC 45) rfl rfl ?b161 ?b162 ?b163 ?b164 ?b165 ?_))
                  case b161 => intro j u hj; first | exact hj | exact new_row _ _ _ _ rfl j u hj | exact new_row _ _ _ _ (by simp [World.setCell]) j u hj
                  case b162 => intro u hu; simp [iC] at hu; subst hu; rfl
                  case b163 => unfold maxLen; omega
                  case b164 => omega
                  case b165 => first | omega | (simp [World.setCell]; omega)
                  intro v2 w5 hhi5 hgrow2 _ hob2
                  have hP5 := (hP4.alloc _).kept hgrow2 (.inr (fun e => by have := (hhi4.lt (w.heap.size + 1) e.symm).1; omega))
                  have hR5 := (hR4.alloc _).kept hgrow2 (.inr (fun e => by have := (hhi4.lt w.heap.size e.symm).1; omega))
                  obtain ⟨hlo5, hne5⟩ := apart_kept (hhi4.alloc _) (hlo4.alloc _) (apart_symm hne3) hgrow2 (by simpa using hob2)
                  have hb5 : Below w.heap.size w w5 := (hb4.alloc hb4.size _).grown hgrow2 (hb4.alloc hb4.size _).size (fun k hk => by have := (hhi4.lt k hk).1; omega)
                  obtain ⟨ha5, hc5, hv5⟩ := own_form hhi5
                  subst hv5
                  obtain ⟨⟨s0, s1, s2, s3⟩, z0, z1, z2, z3⟩ := rp_cells hP5
                  have hneQ : ∀ {vv : Value}, (∀ b, vv.ownBlock = some b → w.heap.size + 2 ≤ b ∧ b < w5.heap.size) → vv.ownBlock = none ∨ vv.ownBlock ≠ some (w.heap.size + 1) := fun {vv} h => by
                    cases hx : vv.ownBlock with
                    | none => exact .inl rfl
                    | some b => right; intro e; have := (h b hx).1; simp at e; omega
                  have hlo6 := hlo5.kept (hP5.stored 3 (.slice ha5 (acc.length + 1) hc5)).2 (hneQ hlo5.lt)
                  have hhi6 := hhi5.kept (hP5.stored 3 (.slice ha5 (acc.length + 1) hc5)).2 (hneQ hhi5.lt)
                  have hR6 := hR5.kept (hP5.stored 3 (.slice ha5 (acc.length + 1) hc5)).2 (.inr (by intro e; simp [Value.ownBlock] at e))
                  have hP6 := (hP5.stored 3 (.slice ha5 (acc.length + 1) hc5)).1
                  have hb6 := hb5.setCell (p := ⟨w.heap.size + 1, 3, none⟩) (by show _ ≤ w.heap.size + 1; omega) (.slice ha5 (acc.length + 1) hc5)
                  clear hgrow2 hob2 hP5 hlo5 hhi5 hR5 hP4 hlo4 hhi4 hR4
                  go_wp2
                  go_roundw
                  case rel =>
                    refine ⟨k + 1, f, false, acc ++ [(45, 45)], _, _, by go_num, rfl, by omega, by omega, by simp; omega, HL2, hR6, hP6, ?_, ?_, apart_symm hne5, hb6⟩
                    · rw [List.map_append, rowOf_append, List.length_append]; exact hlo6
                    · rw [List.map_append, rowOf_append, List.length_append]; exact hhi6
                  case measure => simp [intOf]; omega
                · have hjai : ¬ (k : Int) + 1 + 1 < (T.length : Int) := by omega
                  have HL2 : Hid (rsS (T.length + 1) true (setBody T) [] = rsS f false (T.drop (k + 1)) (acc ++ [(45, 45)])) := by
                    show _ = _
                    rw [HL.out, hD.out]
                    exact rs_go r93 hnd hi1 (dash_a hja)
                  try clear hi1
                  try clear hnd
                  try clear r93
                  try clear hit
                  try clear hov
                  try clear hz
                  try clear hzz
                  try clear hy
                  try clear hy0
                  try clear hy92
                  try clear hu0
                  try clear hq
                  try clear hqq
                  try clear r92
                  try clear r45
                  try clear hr
                  try clear hk1
                  go_wp2_with (at_builtin; go_loud (refine wpList_append_own_at _ rfl _ _ 63 rfl (w.heap.size + 2) 21 i0 (.int .i32 0) 1 4 Try.underlying63 hi hz0 hz1 hz2 rfl (by decide) _ _ _ rfl (hlo.alloc _) _ _ _ (iC 45) rfl rfl ?a171 ?a172 ?a173 ?a174 ?a175 ?_))
                  case a171 => intro j u hj; first | exact hj | exact new_row _ _ _ _ rfl j u hj | exact new_row _ _ _ _ (by simp [World.setCell]) j u hj
                  case a172 => intro u hu; simp [iC] at hu; subst hu; rfl
                  case a173 => unfold maxLen; omega
                  case a174 => omega
                  case a175 => first | omega | (simp [World.setCell]; omega)
                  intro v1 w3 hlo3 hgrow _ hob
                  have hP3 := (hP.alloc _).kept hgrow (.inr (fun e => by have := (hlo.lt (w.heap.size + 1) e.symm).1; omega))
                  have hR3 := (hR.alloc _).kept hgrow (.inr (fun e => by have := (hlo.lt w.heap.size e.symm).1; omega))
                  obtain ⟨hhi3, hne3⟩ := apart_kept (hlo.alloc _) (hhi.alloc _) hne hgrow (by simpa using hob)
                  have hb3 : Below w.heap.size w w3 := (hbw.alloc hbw.size _).grown hgrow (by simp; omega) (fun k hk => by have := (hlo.lt k hk).1; omega)
                  have hw3 : w.heap.size + 1 < w3.heap.size := (hP3.lt _ rfl).2
                  obtain ⟨la3, lc3, hv3⟩ := own_form hlo3
                  subst hv3
                  obtain ⟨⟨s0, s1, s2, s3⟩, z0, z1, z2, z3⟩ := rp_cells hP3
                  have hP4 := (hP3.stored 2 (.slice la3 (acc.length + 1) lc3)).1
                  have hneP : ∀ {vv : Value}, (∀ b, vv.ownBlock = some b → w.heap.size + 2 ≤ b ∧ b < w3.heap.size) → vv.ownBlock = none ∨ vv.ownBlock ≠ some (w.heap.size + 1) := fun {vv} h => by
                    cases hx : vv.ownBlock with
                    | none => exact .inl rfl
                    | some b => right; intro e; have := (h b hx).1; simp at e; omega
                  have hlo4 := hlo3.kept (hP3.stored 2 (.slice la3 (acc.length + 1) lc3)).2 (hneP hlo3.lt)
                  have hhi4 := hhi3.kept (hP3.stored 2 (.slice la3 (acc.length + 1) lc3)).2 (hneP hhi3.lt)
                  have hR4 := hR3.kept (hP3.stored 2 (.slice la3 (acc.length + 1) lc3)).2 (.inr (by intro e; simp [Value.ownBlock] at e))
                  have hb4 := hb3.setCell (p := ⟨w.heap.size + 1, 2, none⟩) (by show _ ≤ w.heap.size + 1; omega) (.slice la3 (acc.length + 1) lc3)
                  clear hgrow hlo hhi hP hR hbw hlo3 hhi3 hR3 hob
                  go_wp2_with (at_builtin; go_loud (refine wpList_append_own_at _ rfl _ _ 63 rfl (w.heap.size + 2) 21 i0 (.int .i32 0) 1 4 Try.underlying63 hi hz0 hz1 hz2 rfl (by decide) _ _ _ rfl (hhi4.alloc _) _ _ _ (iC 45) rfl rfl ?b171 ?b172 ?b173 ?b174 ?b175 ?_))
                  case b171 => intro j u hj; first | exact hj | exact new_row _ _ _ _ rfl j u hj | exact new_row _ _ _ _ (by simp [World.setCell]) j u hj
                  case b172 => intro u hu; simp [iC] at hu; subst hu; rfl
                  case b173 => unfold maxLen; omega
                  case b174 => omega
                  case b175 => first | omega | (simp [World.setCell]; omega)
                  intro v2 w5 hhi5 hgrow2 _ hob2
                  have hP5 := (hP4.alloc _).kept hgrow2 (.inr (fun e => by have := (hhi4.lt (w.heap.size + 1) e.symm).1; omega))
                  have hR5 := (hR4.alloc _).kept hgrow2 (.inr (fun e => by have := (hhi4.lt w.heap.size e.symm).1; omega))
                  obtain ⟨hlo5, hne5⟩ := apart_kept (hhi4.alloc _) (hlo4.alloc _) (apart_symm hne3) hgrow2 (by simpa using hob2)
                  have hb5 : Below w.heap.size w w5 := (hb4.alloc hb4.size _).grown hgrow2 (hb4.alloc hb4.size _).size (fun k hk => by have := (hhi4.lt k hk).1; omega)
                  obtain ⟨ha5, hc5, hv5⟩ := own_form hhi5
                  subst hv5
                  obtain ⟨⟨s0, s1, s2, s3⟩, z0, z1, z2, z3⟩ := rp_cells hP5
                  have hneQ : ∀ {vv : Value}, (∀ b, vv.ownBlock = some b → w.heap.size + 2 ≤ b ∧ b < w5.heap.size) → vv.ownBlock = none ∨ vv.ownBlock ≠ some (w.heap.size + 1) := fun {vv} h => by
                    cases hx : vv.ownBlock with
                    | none => exact .inl rfl
                    | some b => right; intro e; have := (h b hx).1; simp at e; omega
                  have hlo6 := hlo5.kept (hP5.stored 3 (.slice ha5 (acc.length + 1) hc5)).2 (hneQ hlo5.lt)
                  have hhi6 := hhi5.kept (hP5.stored 3 (.slice ha5 (acc.length + 1) hc5)).2 (hneQ hhi5.lt)
                  have hR6 := hR5.kept (hP5.stored 3 (.slice ha5 (acc.length + 1) hc5)).2 (.inr (by intro e; simp [Value.ownBlock] at e))
                  have hP6 := (hP5.stored 3 (.slice ha5 (acc.length + 1) hc5)).1
                  have hb6 := hb5.setCell (p := ⟨w.heap.size + 1, 3, none⟩) (by show _ ≤ w.heap.size + 1; omega) (.slice ha5 (acc.length + 1) hc5)
                  clear hgrow2 hob2 hP5 hlo5 hhi5 hR5 hP4 hlo4 hhi4 hR4
                  go_wp2
                  go_roundw
                  case rel =>
                    refine ⟨k + 1, f, false, acc ++ [(45, 45)], _, _, by go_num, rfl, by omega, by omega, by simp; omega, HL2, hR6, hP6, ?_, ?_, apart_symm hne5, hb6⟩
                    · rw [List.map_append, rowOf_append, List.length_append]; exact hlo6
                    · rw [List.map_append, rowOf_append, List.length_append]; exact hhi6
                  case measure => simp [intOf]; omega
              · have dq : ((q : Int) != 93) = true := bne_iff_ne.2 (by rw [hqq]; omega)
                have HN : Hid (rsS (T.length + 1) true (setBody T) [] = none) := by
                  show _ = _
                  rw [HL.out, hD.out]
                  exact rs_dash r45 (by rw [head_drop hk1]; simpa using hq)
                try clear hi1
                try clear hnd
                try clear r93
                try clear hit
                try clear hov
                try clear hz
                try clear hzz
                try clear hy
                try clear hy0
                try clear hy92
                try clear hu0
                try clear hq
                try clear hqq
                try clear r92
                try clear r45
                try clear hr
                try clear hk1
                have hst := rp_stored (.bool false) (.bool false) (.slice la acc.length lc) (.slice ha acc.length hcp) hR
                have hcc := (rp_cells hst).1
                have hbf : Below w.heap.size w _ := (((hbw.setCell (p := ⟨w.heap.size, 0, none⟩) (Nat.le_refl _) (.bool false)).setCell (p := ⟨w.heap.size, 1, none⟩) (Nat.le_refl _) (.bool false)).setCell (p := ⟨w.heap.size, 2, none⟩) (Nat.le_refl _) (.slice la acc.length lc)).setCell (p := ⟨w.heap.size, 3, none⟩) (Nat.le_refl _) (.slice ha acc.length hcp)
                go_wp2
                refine bodyPost_ret (v := .tuple #[.agg #[.bool false, .bool false, .slice la acc.length lc, .slice ha acc.length hcp], .int .i64 (-1)]) (by simp [results, Try.results46, go_sem, hcc]) rfl ?_
                refine ⟨hbf, ?_⟩
                rw [HN.out]
                exact ⟨_, _, _, _, _, _, _, _, rfl⟩
            · have hk1i : (T.length : Int) ≤ (k : Int) + 1 := by omega
              have HN : Hid (rsS (T.length + 1) true (setBody T) [] = none) := by
                show _ = _
                rw [HL.out, hD.out]
                exact rs_dash r45 (by rw [List.drop_of_length_le (by omega)]; simp)
              try clear hi1
              try clear hnd
              try clear r93
              try clear hit
              try clear hov
              try clear hz
              try clear hzz
              try clear hy
              try clear hy0
              try clear hy92
              try clear hu0
              try clear hq
              try clear hqq
              try clear r92
              try clear r45
              try clear hr
              try clear hk1
              have hst := rp_stored (.bool false) (.bool false) (.slice la acc.length lc) (.slice ha acc.length hcp) hR
              have hcc := (rp_cells hst).1
              have hbf : Below w.heap.size w _ := (((hbw.setCell (p := ⟨w.heap.size, 0, none⟩) (Nat.le_refl _) (.bool false)).setCell (p := ⟨w.heap.size, 1, none⟩) (Nat.le_refl _) (.bool false)).setCell (p := ⟨w.heap.size, 2, none⟩) (Nat.le_refl _) (.slice la acc.length lc)).setCell (p := ⟨w.heap.size, 3, none⟩) (Nat.le_refl _) (.slice ha acc.length hcp)
              go_wp2
              refine bodyPost_ret (v := .tuple #[.agg #[.bool false, .bool false, .slice la acc.length lc, .slice ha acc.length hcp], .int .i64 (-1)]) (by simp [results, Try.results46, go_sem, hcc]) rfl ?_
              refine ⟨hbf, ?_⟩
              rw [HN.out]
              exact ⟨_, _, _, _, _, _, _, _, rfl⟩
        · by_cases r92 : r = 92
          ·
            have hnd : ¬ (r = 45 ∧ first = false ∧ (T.drop (k + 1)).head? ≠ some 93) := fun h => r45 h.1
            replace hc0 : wr.cell? ⟨g, o + k * 4, none⟩ = some (.int .i32 92) := by rw [hc0, r92]; rfl
            by_cases hk1 : k + 1 < T.length
            · have lx := HDW.out (k + 1) hk1
              obtain ⟨x, hqq⟩ : ∃ x, x = T[k + 1] := ⟨_, rfl⟩
              rw [← hqq] at lx
              have hi1 : item (r :: T.drop (k + 1)) = some (x, T.drop (k + 1 + 1)) := by
                have := item_esc (T := T) (j := k) hk1 (by rw [← hr]; exact r92)
                rw [hD.out, ← hqq] at this
                exact this
              have hk1i : ¬ (T.length : Int) ≤ (k : Int) + 1 := by omega
              have hk1j : (k : Int) + 1 < (T.length : Int) := by omega
              by_cases hja : k + 1 + 1 + 1 < T.length
              · have hjai : (k : Int) + 1 + 1 + 1 < (T.length : Int) := by omega
                have lz := HDW.out (k + 1 + 1) (by omega)
                obtain ⟨z, hzz⟩ : ∃ z, z = T[k + 1 + 1] := ⟨_, rfl⟩
                rw [← hzz] at lz
                by_cases hz : T[k + 1 + 1] = 45
                · replace lz : wr.cell? ⟨g, o + (k + 1 + 1) * 4, none⟩ = some (.int .i32 45) := by rw [lz, hzz, hz]; rfl
                  have ly := HDW.out (k + 1 + 1 + 1) hja
                  obtain ⟨y, hy0⟩ : ∃ y, y = T[k + 1 + 1 + 1] := ⟨_, rfl⟩
                  rw [← hy0] at ly
                  by_cases hy : T[k + 1 + 1 + 1] = 93
                  · replace ly : wr.cell? ⟨g, o + (k + 1 + 1 + 1) * 4, none⟩ = some (.int .i32 93) := by rw [ly, hy0, hy]; rfl
                    have HL2 : Hid (rsS (T.length + 1) true (setBody T) [] = rsS f false (T.drop (k + 1 + 1)) (acc ++ [(x, x)])) := by
                      show _ = _
                      rw [HL.out, hD.out]
                      exact rs_go r93 hnd hi1 (dash_d hja hy)
                    try clear hi1
                    try clear hnd
                    try clear r93
                    try clear hit
                    try clear hov
                    try clear hz
                    try clear hzz
                    try clear hy
                    try clear hy0
                    try clear hy92
                    try clear hu0
                    try clear hq
                    try clear hqq
                    try clear r92
                    try clear r45
                    try clear hr
                    try clear hk1
                    go_wp2_with (at_builtin; go_loud (refine wpList_append_own_at _ rfl _ _ 63 rfl (w.heap.size + 2) 21 i0 (.int .i32 0) 1 4 Try.underlying63 hi hz0 hz1 hz2 rfl (by decide) _ _ _ rfl (hlo.alloc _) _ _ _ (iC x) rfl rfl ?a81 ?a82 ?a83 ?a84 ?a85 ?_))
                    case a81 => intro j u hj; first | exact hj | exact new_row _ _ _ _ rfl j u hj | exact new_row _ _ _ _ (by simp [World.setCell]) j u hj
                    case a82 => intro u hu; simp [iC] at hu; subst hu; rfl
                    case a83 => unfold maxLen; omega
                    case a84 => omega
                    case a85 => first | omega | (simp [World.setCell]; omega)
                    intro v1 w3 hlo3 hgrow _ hob
                    have hP3 := (hP.alloc _).kept hgrow (.inr (fun e => by have := (hlo.lt (w.heap.size + 1) e.symm).1; omega))
                    have hR3 := (hR.alloc _).kept hgrow (.inr (fun e => by have := (hlo.lt w.heap.size e.symm).1; omega))
                    obtain ⟨hhi3, hne3⟩ := apart_kept (hlo.alloc _) (hhi.alloc _) hne hgrow (by simpa using hob)
                    have hb3 : Below w.heap.size w w3 := (hbw.alloc hbw.size _).grown hgrow (by simp; omega) (fun k hk => by have := (hlo.lt k hk).1; omega)
                    have hw3 : w.heap.size + 1 < w3.heap.size := (hP3.lt _ rfl).2
                    obtain ⟨la3, lc3, hv3⟩ := own_form hlo3
                    subst hv3
                    obtain ⟨⟨s0, s1, s2, s3⟩, z0, z1, z2, z3⟩ := rp_cells hP3
                    have hP4 := (hP3.stored 2 (.slice la3 (acc.length + 1) lc3)).1
                    have hneP : ∀ {vv : Value}, (∀ b, vv.ownBlock = some b → w.heap.size + 2 ≤ b ∧ b < w3.heap.size) → vv.ownBlock = none ∨ vv.ownBlock ≠ some (w.heap.size + 1) := fun {vv} h => by
                      cases hx : vv.ownBlock with
                      | none => exact .inl rfl
                      | some b => right; intro e; have := (h b hx).1; simp at e; omega
                    have hlo4 := hlo3.kept (hP3.stored 2 (.slice la3 (acc.length + 1) lc3)).2 (hneP hlo3.lt)
                    have hhi4 := hhi3.kept (hP3.stored 2 (.slice la3 (acc.length + 1) lc3)).2 (hneP hhi3.lt)
                    have hR4 := hR3.kept (hP3.stored 2 (.slice la3 (acc.length + 1) lc3)).2 (.inr (by intro e; simp [Value.ownBlock] at e))
                    have hb4 := hb3.setCell (p := ⟨w.heap.size + 1, 2, none⟩) (by show _ ≤ w.heap.size + 1; omega) (.slice la3 (acc.length + 1) lc3)
                    clear hgrow hlo hhi hP hR hbw hlo3 hhi3 hR3 hob
                    go_wp2_with (at_builtin; go_loud (refine wpList_append_own_at _ rfl _ _ 63 rfl (w.heap.size + 2) 21 i0 (.int .i32 0) 1 4 Try.underlying63 hi hz0 hz1 hz2 rfl (by decide) _ _ _ rfl (hhi4.alloc _) _ _ _ (iC x) rfl rfl ?b81 ?b82 ?b83 ?b84 ?b85 ?_))
                    case b81 => intro j u hj; first | exact hj | exact new_row _ _ _ _ rfl j u hj | exact new_row _ _ _ _ (by simp [World.setCell]) j u hj
                    case b82 => intro u hu; simp [iC] at hu; subst hu; rfl
                    case b83 => unfold maxLen; omega
                    case b84 => omega
                    case b85 => first | omega | (simp [World.setCell]; omega)
                    intro v2 w5 hhi5 hgrow2 _ hob2
                    have hP5 := (hP4.alloc _).kept hgrow2 (.inr (fun e => by have := (hhi4.lt (w.heap.size + 1) e.symm).1; omega))
                    have hR5 := (hR4.alloc _).kept hgrow2 (.inr (fun e => by have := (hhi4.lt w.heap.size e.symm).1; omega))
                    obtain ⟨hlo5, hne5⟩ := apart_kept (hhi4.alloc _) (hlo4.alloc _) (apart_symm hne3) hgrow2 (by simpa using hob2)
                    have hb5 : Below w.heap.size w w5 := (hb4.alloc hb4.size _).grown hgrow2 (hb4.alloc hb4.size _).size (fun k hk => by have := (hhi4.lt k hk).1; omega)
                    obtain ⟨ha5, hc5, hv5⟩ := own_form hhi5
                    subst hv5
                    obtain ⟨⟨s0, s1, s2, s3⟩, z0, z1, z2, z3⟩ := rp_cells hP5
                    have hneQ : ∀ {vv : Value}, (∀ b, vv.ownBlock = some b → w.heap.size + 2 ≤ b ∧ b < w5.heap.size) → vv.ownBlock = none ∨ vv.ownBlock ≠ some (w.heap.size + 1) := fun {vv} h => by
                      cases hx : vv.ownBlock with
                      | none => exact .inl rfl
                      | some b => right; intro e; have := (h b hx).1; simp at e; omega
                    have hlo6 := hlo5.kept (hP5.stored 3 (.slice ha5 (acc.length + 1) hc5)).2 (hneQ hlo5.lt)
                    have hhi6 := hhi5.kept (hP5.stored 3 (.slice ha5 (acc.length + 1) hc5)).2 (hneQ hhi5.lt)
                    have hR6 := hR5.kept (hP5.stored 3 (.slice ha5 (acc.length + 1) hc5)).2 (.inr (by intro e; simp [Value.ownBlock] at e))
                    have hP6 := (hP5.stored 3 (.slice ha5 (acc.length + 1) hc5)).1
                    have hb6 := hb5.setCell (p := ⟨w.heap.size + 1, 3, none⟩) (by show _ ≤ w.heap.size + 1; omega) (.slice ha5 (acc.length + 1) hc5)
                    clear hgrow2 hob2 hP5 hlo5 hhi5 hR5 hP4 hlo4 hhi4 hR4
                    go_wp2
                    go_roundw
                    case rel =>
                      refine ⟨k + 1 + 1, f, false, acc ++ [(x, x)], _, _, by go_num, rfl, by omega, by omega, by simp; omega, HL2, hR6, hP6, ?_, ?_, apart_symm hne5, hb6⟩
                      · rw [List.map_append, rowOf_append, List.length_append]; exact hlo6
                      · rw [List.map_append, rowOf_append, List.length_append]; exact hhi6
                    case measure => simp [intOf]; omega
                  · have dy : ((y : Int) != 93) = true := bne_iff_ne.2 (by rw [hy0]; omega)
                    by_cases hy92 : T[k + 1 + 1 + 1] = 92
                    · replace ly : wr.cell? ⟨g, o + (k + 1 + 1 + 1) * 4, none⟩ = some (.int .i32 92) := by rw [ly, hy0, hy92]; rfl
                      by_cases hjb : k + 1 + 1 + 2 < T.length
                      · have hjbi : ¬ (T.length : Int) ≤ (k : Int) + 1 + 1 + 2 := by omega
                        have hjbi2 : (k : Int) + 1 + 1 + 2 < (T.length : Int) := by omega
                        have lu := HDW.out (k + 1 + 1 + 2) hjb
                        obtain ⟨u, hu0⟩ : ∃ u, u = T[k + 1 + 1 + 2] := ⟨_, rfl⟩
                        rw [← hu0] at lu
                        have hit : item (T.drop (k + 1 + 1 + 1)) = some (u, T.drop (k + 1 + 1 + 2 + 1)) := by
                          have := item_esc (T := T) (j := k + 1 + 1 + 1) (by omega) hy92
                          rw [show k + 1 + 1 + 1 + 2 = k + 1 + 1 + 2 + 1 by omega] at this
                          rw [this, hu0]
                        by_cases hov : u < x
                        · have hovi : (u : Int) < (x : Int) := by omega
                          have HN : Hid (rsS (T.length + 1) true (setBody T) [] = none) := by
                            show _ = _
                            rw [HL.out, hD.out]
                            exact rs_over r93 hnd hi1 (dash_e hja hz hy) hit hov
                          try clear hi1
                          try clear hnd
                          try clear r93
                          try clear hit
                          try clear hov
                          try clear hz
                          try clear hzz
                          try clear hy
                          try clear hy0
                          try clear hy92
                          try clear hu0
                          try clear hq
                          try clear hqq
                          try clear r92
                          try clear r45
                          try clear hr
                          try clear hk1
                          have hst := rp_stored (.bool false) (.bool false) (.slice la acc.length lc) (.slice ha acc.length hcp) hR
                          have hcc := (rp_cells hst).1
                          have hbf : Below w.heap.size w _ := (((hbw.setCell (p := ⟨w.heap.size, 0, none⟩) (Nat.le_refl _) (.bool false)).setCell (p := ⟨w.heap.size, 1, none⟩) (Nat.le_refl _) (.bool false)).setCell (p := ⟨w.heap.size, 2, none⟩) (Nat.le_refl _) (.slice la acc.length lc)).setCell (p := ⟨w.heap.size, 3, none⟩) (Nat.le_refl _) (.slice ha acc.length hcp)
                          go_wp2
                          refine bodyPost_ret (v := .tuple #[.agg #[.bool false, .bool false, .slice la acc.length lc, .slice ha acc.length hcp], .int .i64 (-1)]) (by simp [results, Try.results46, go_sem, hcc]) rfl ?_
                          refine ⟨hbf, ?_⟩
                          rw [HN.out]
                          exact ⟨_, _, _, _, _, _, _, _, rfl⟩
                        · have hovi : ¬ (u : Int) < (x : Int) := by omega
                          have HL2 : Hid (rsS (T.length + 1) true (setBody T) [] = rsS f false (T.drop (k + 1 + 1 + 2 + 1)) (acc ++ [(x, u)])) := by
                            show _ = _
                            rw [HL.out, hD.out]
                            have := rs_go2 (f := f) (acc := acc) r93 hnd hi1 (dash_e hja hz hy) hit hov
                            exact this
                          try clear hi1
                          try clear hnd
                          try clear r93
                          try clear hit
                          try clear hov
                          try clear hz
                          try clear hzz
                          try clear hy
                          try clear hy0
                          try clear hy92
                          try clear hu0
                          try clear hq
                          try clear hqq
                          try clear r92
                          try clear r45
                          try clear hr
                          try clear hk1
                          go_wp2_with (at_builtin; go_loud (refine wpList_append_own_at _ rfl _ _ 63 rfl (w.heap.size + 2) 21 i0 (.int .i32 0) 1 4 Try.underlying63 hi hz0 hz1 hz2 rfl (by decide) _ _ _ rfl (hlo.alloc _) _ _ _ (iC x) rfl rfl ?a101 ?a102 ?a103 ?a104 ?a105 ?_))
                          case a101 => intro j u hj; first | exact hj | exact new_row _ _ _ _ rfl j u hj | exact new_row _ _ _ _ (by simp [World.setCell]) j u hj
                          case a102 => intro u hu; simp [iC] at hu; subst hu; rfl
                          case a103 => unfold maxLen; omega
                          case a104 => omega
                          case a105 => first | omega | (simp [World.setCell]; omega)
                          intro v1 w3 hlo3 hgrow _ hob
                          have hP3 := (hP.alloc _).kept hgrow (.inr (fun e => by have := (hlo.lt (w.heap.size + 1) e.symm).1; omega))
                          have hR3 := (hR.alloc _).kept hgrow (.inr (fun e => by have := (hlo.lt w.heap.size e.symm).1; omega))
                          obtain ⟨hhi3, hne3⟩ := apart_kept (hlo.alloc _) (hhi.alloc _) hne hgrow (by simpa using hob)
                          have hb3 : Below w.heap.size w w3 := (hbw.alloc hbw.size _).grown hgrow (by simp; omega) (fun k hk => by have := (hlo.lt k hk).1; omega)
                          have hw3 : w.heap.size + 1 < w3.heap.size := (hP3.lt _ rfl).2
                          obtain ⟨la3, lc3, hv3⟩ := own_form hlo3
                          subst hv3
                          obtain ⟨⟨s0, s1, s2, s3⟩, z0, z1, z2, z3⟩ := rp_cells hP3
                          have hP4 := (hP3.stored 2 (.slice la3 (acc.length + 1) lc3)).1
                          have hneP : ∀ {vv : Value}, (∀ b, vv.ownBlock = some b → w.heap.size + 2 ≤ b ∧ b < w3.heap.size) → vv.ownBlock = none ∨ vv.ownBlock ≠ some (w.heap.size + 1) := fun {vv} h => by
                            cases hx : vv.ownBlock with
                            | none => exact .inl rfl
                            | some b => right; intro e; have := (h b hx).1; simp at e; omega
                          have hlo4 := hlo3.kept (hP3.stored 2 (.slice la3 (acc.length + 1) lc3)).2 (hneP hlo3.lt)
                          have hhi4 := hhi3.kept (hP3.stored 2 (.slice la3 (acc.length + 1) lc3)).2 (hneP hhi3.lt)
                          have hR4 := hR3.kept (hP3.stored 2 (.slice la3 (acc.length + 1) lc3)).2 (.inr (by intro e; simp [Value.ownBlock] at e))
                          have hb4 := hb3.setCell (p := ⟨w.heap.size + 1, 2, none⟩) (by show _ ≤ w.heap.size + 1; omega) (.slice la3 (acc.length + 1) lc3)
                          clear hgrow hlo hhi hP hR hbw hlo3 hhi3 hR3 hob
                          go_wp2_with (at_builtin; go_loud (refine wpList_append_own_at _ rfl _ _ 63 rfl (w.heap.size + 2) 21 i0 (.int .i32 0) 1 4 Try.underlying63 hi hz0 hz1 hz2 rfl (by decide) _ _ _ rfl (hhi4.alloc _) _ _ _ (iC u) rfl rfl ?b101 ?b102 ?b103 ?b104 ?b105 ?_))
                          case b101 => intro j u hj; first | exact hj | exact new_row _ _ _ _ rfl j u hj | exact new_row _ _ _ _ (by simp [World.setCell]) j u hj
                          case b102 => intro u hu; simp [iC] at hu; subst hu; rfl
                          case b103 => unfold maxLen; omega
                          case b104 => omega
                          case b105 => first | omega | (simp [World.setCell]; omega)
                          intro v2 w5 hhi5 hgrow2 _ hob2
                          have hP5 := (hP4.alloc _).kept hgrow2 (.inr (fun e => by have := (hhi4.lt (w.heap.size + 1) e.symm).1; omega))
                          have hR5 := (hR4.alloc _).kept hgrow2 (.inr (fun e => by have := (hhi4.lt w.heap.size e.symm).1; omega))
                          obtain ⟨hlo5, hne5⟩ := apart_kept (hhi4.alloc _) (hlo4.alloc _) (apart_symm hne3) hgrow2 (by simpa using hob2)
                          have hb5 : Below w.heap.size w w5 := (hb4.alloc hb4.size _).grown hgrow2 (hb4.alloc hb4.size _).size (fun k hk => by have := (hhi4.lt k hk).1; omega)
                          obtain ⟨ha5, hc5, hv5⟩ := own_form hhi5
                          subst hv5
                          obtain ⟨⟨s0, s1, s2, s3⟩, z0, z1, z2, z3⟩ := rp_cells hP5
                          have hneQ : ∀ {vv : Value}, (∀ b, vv.ownBlock = some b → w.heap.size + 2 ≤ b ∧ b < w5.heap.size) → vv.ownBlock = none ∨ vv.ownBlock ≠ some (w.heap.size + 1) := fun {vv} h => by
                            cases hx : vv.ownBlock with
                            | none => exact .inl rfl
                            | some b => right; intro e; have := (h b hx).1; simp at e; omega
                          have hlo6 := hlo5.kept (hP5.stored 3 (.slice ha5 (acc.length + 1) hc5)).2 (hneQ hlo5.lt)
                          have hhi6 := hhi5.kept (hP5.stored 3 (.slice ha5 (acc.length + 1) hc5)).2 (hneQ hhi5.lt)
                          have hR6 := hR5.kept (hP5.stored 3 (.slice ha5 (acc.length + 1) hc5)).2 (.inr (by intro e; simp [Value.ownBlock] at e))
                          have hP6 := (hP5.stored 3 (.slice ha5 (acc.length + 1) hc5)).1
                          have hb6 := hb5.setCell (p := ⟨w.heap.size + 1, 3, none⟩) (by show _ ≤ w.heap.size + 1; omega) (.slice ha5 (acc.length + 1) hc5)
                          clear hgrow2 hob2 hP5 hlo5 hhi5 hR5 hP4 hlo4 hhi4 hR4
                          go_wp2
                          go_roundw
                          case rel =>
                            refine ⟨k + 1 + 1 + 2 + 1, f, false, acc ++ [(x, u)], _, _, by go_num, rfl, by omega, by omega, by simp; omega, HL2, hR6, hP6, ?_, ?_, apart_symm hne5, hb6⟩
                            · rw [List.map_append, rowOf_append, List.length_append]; exact hlo6
                            · rw [List.map_append, rowOf_append, List.length_append]; exact hhi6
                          case measure => simp [intOf]; omega
                      · have hjbi : (T.length : Int) ≤ (k : Int) + 1 + 1 + 2 := by omega
                        have HN : Hid (rsS (T.length + 1) true (setBody T) [] = none) := by
                          show _ = _
                          rw [HL.out, hD.out]
                          exact rs_item1 r93 hnd hi1 (dash_e hja hz (by rw [hy92]; decide)) (item_end (by omega) (by omega) hy92)
                        try clear hi1
                        try clear hnd
                        try clear r93
                        try clear hit
                        try clear hov
                        try clear hz
                        try clear hzz
                        try clear hy
                        try clear hy0
                        try clear hy92
                        try clear hu0
                        try clear hq
                        try clear hqq
                        try clear r92
                        try clear r45
                        try clear hr
                        try clear hk1
                        have hst := rp_stored (.bool false) (.bool false) (.slice la acc.length lc) (.slice ha acc.length hcp) hR
                        have hcc := (rp_cells hst).1
                        have hbf : Below w.heap.size w _ := (((hbw.setCell (p := ⟨w.heap.size, 0, none⟩) (Nat.le_refl _) (.bool false)).setCell (p := ⟨w.heap.size, 1, none⟩) (Nat.le_refl _) (.bool false)).setCell (p := ⟨w.heap.size, 2, none⟩) (Nat.le_refl _) (.slice la acc.length lc)).setCell (p := ⟨w.heap.size, 3, none⟩) (Nat.le_refl _) (.slice ha acc.length hcp)
                        go_wp2
                        refine bodyPost_ret (v := .tuple #[.agg #[.bool false, .bool false, .slice la acc.length lc, .slice ha acc.length hcp], .int .i64 (-1)]) (by simp [results, Try.results46, go_sem, hcc]) rfl ?_
                        refine ⟨hbf, ?_⟩
                        rw [HN.out]
                        exact ⟨_, _, _, _, _, _, _, _, rfl⟩
                    · have dy2 : ((y : Int) == 92) = false := beq_false_of_ne (by rw [hy0]; omega)
                      have hit : item (T.drop (k + 1 + 1 + 1)) = some (y, T.drop (k + 1 + 1 + 2)) := by
                        have := item_plain (T := T) (j := k + 1 + 1 + 1) (by omega) hy92
                        rw [show k + 1 + 1 + 1 + 1 = k + 1 + 1 + 2 by omega] at this
                        rw [this, hy0]
                      by_cases hov : y < x
                      · have hovi : (y : Int) < (x : Int) := by omega
                        have HN : Hid (rsS (T.length + 1) true (setBody T) [] = none) := by
                          show _ = _
                          rw [HL.out, hD.out]
                          exact rs_over r93 hnd hi1 (dash_e hja hz hy) hit hov
                        try clear hi1
                        try clear hnd
                        try clear r93
                        try clear hit
                        try clear hov
                        try clear hz
                        try clear hzz
                        try clear hy
                        try clear hy0
                        try clear hy92
                        try clear hu0
                        try clear hq
                        try clear hqq
                        try clear r92
                        try clear r45
                        try clear hr
                        try clear hk1
                        have hst := rp_stored (.bool false) (.bool false) (.slice la acc.length lc) (.slice ha acc.length hcp) hR
                        have hcc := (rp_cells hst).1
                        have hbf : Below w.heap.size w _ := (((hbw.setCell (p := ⟨w.heap.size, 0, none⟩) (Nat.le_refl _) (.bool false)).setCell (p := ⟨w.heap.size, 1, none⟩) (Nat.le_refl _) (.bool false)).setCell (p := ⟨w.heap.size, 2, none⟩) (Nat.le_refl _) (.slice la acc.length lc)).setCell (p := ⟨w.heap.size, 3, none⟩) (Nat.le_refl _) (.slice ha acc.length hcp)
                        go_wp2
                        refine bodyPost_ret (v := .tuple #[.agg #[.bool false, .bool false, .slice la acc.length lc, .slice ha acc.length hcp], .int .i64 (-1)]) (by simp [results, Try.results46, go_sem, hcc]) rfl ?_
                        refine ⟨hbf, ?_⟩
                        rw [HN.out]
                        exact ⟨_, _, _, _, _, _, _, _, rfl⟩
                      · have hovi : ¬ (y : Int) < (x : Int) := by omega
                        have HL2 : Hid (rsS (T.length + 1) true (setBody T) [] = rsS f false (T.drop (k + 1 + 1 + 2)) (acc ++ [(x, y)])) := by
                          show _ = _
                          rw [HL.out, hD.out]
                          have := rs_go2 (f := f) (acc := acc) r93 hnd hi1 (dash_e hja hz hy) hit hov
                          exact this
                        try clear hi1
                        try clear hnd
                        try clear r93
                        try clear hit
                        try clear hov
                        try clear hz
                        try clear hzz
                        try clear hy
                        try clear hy0
                        try clear hy92
                        try clear hu0
                        try clear hq
                        try clear hqq
                        try clear r92
                        try clear r45
                        try clear hr
                        try clear hk1
                        go_wp2_with (at_builtin; go_loud (refine wpList_append_own_at _ rfl _ _ 63 rfl (w.heap.size + 2) 21 i0 (.int .i32 0) 1 4 Try.underlying63 hi hz0 hz1 hz2 rfl (by decide) _ _ _ rfl (hlo.alloc _) _ _ _ (iC x) rfl rfl ?a91 ?a92 ?a93 ?a94 ?a95 ?_))
                        case a91 => intro j u hj; first | exact hj | exact new_row _ _ _ _ rfl j u hj | exact new_row _ _ _ _ (by simp [World.setCell]) j u hj
                        case a92 => intro u hu; simp [iC] at hu; subst hu; rfl
                        case a93 => unfold maxLen; omega
                        case a94 => omega
                        case a95 => first | omega | (simp [World.setCell]; omega)
                        intro v1 w3 hlo3 hgrow _ hob
                        have hP3 := (hP.alloc _).kept hgrow (.inr (fun e => by have := (hlo.lt (w.heap.size + 1) e.symm).1; omega))
                        have hR3 := (hR.alloc _).kept hgrow (.inr (fun e => by have := (hlo.lt w.heap.size e.symm).1; omega))
                        obtain ⟨hhi3, hne3⟩ := apart_kept (hlo.alloc _) (hhi.alloc _) hne hgrow (by simpa using hob)
                        have hb3 : Below w.heap.size w w3 := (hbw.alloc hbw.size _).grown hgrow (by simp; omega) (fun k hk => by have := (hlo.lt k hk).1; omega)
                        have hw3 : w.heap.size + 1 < w3.heap.size := (hP3.lt _ rfl).2
                        obtain ⟨la3, lc3, hv3⟩ := own_form hlo3
                        subst hv3
                        obtain ⟨⟨s0, s1, s2, s3⟩, z0, z1, z2, z3⟩ := rp_cells hP3
                        have hP4 := (hP3.stored 2 (.slice la3 (acc.length + 1) lc3)).1
                        have hneP : ∀ {vv : Value}, (∀ b, vv.ownBlock = some b → w.heap.size + 2 ≤ b ∧ b < w3.heap.size) → vv.ownBlock = none ∨ vv.ownBlock ≠ some (w.heap.size + 1) := fun {vv} h => by
                          cases hx : vv.ownBlock with
                          | none => exact .inl rfl
                          | some b => right; intro e; have := (h b hx).1; simp at e; omega
                        have hlo4 := hlo3.kept (hP3.stored 2 (.slice la3 (acc.length + 1) lc3)).2 (hneP hlo3.lt)
                        have hhi4 := hhi3.kept (hP3.stored 2 (.slice la3 (acc.length + 1) lc3)).2 (hneP hhi3.lt)
                        have hR4 := hR3.kept (hP3.stored 2 (.slice la3 (acc.length + 1) lc3)).2 (.inr (by intro e; simp [Value.ownBlock] at e))
                        have hb4 := hb3.setCell (p := ⟨w.heap.size + 1, 2, none⟩) (by show _ ≤ w.heap.size + 1; omega) (.slice la3 (acc.length + 1) lc3)
                        clear hgrow hlo hhi hP hR hbw hlo3 hhi3 hR3 hob
                        go_wp2_with (at_builtin; go_loud (refine wpList_append_own_at _ rfl _ _ 63 rfl (w.heap.size + 2) 21 i0 (.int .i32 0) 1 4 Try.underlying63 hi hz0 hz1 hz2 rfl (by decide) _ _ _ rfl (hhi4.alloc _) _ _ _ (iC y) rfl rfl ?b91 ?b92 ?b93 ?b94 ?b95 ?_))
                        case b91 => intro j u hj; first | exact hj | exact new_row _ _ _ _ rfl j u hj | exact new_row _ _ _ _ (by simp [World.setCell]) j u hj
                        case b92 => intro u hu; simp [iC] at hu; subst hu; rfl
                        case b93 => unfold maxLen; omega
                        case b94 => omega
                        case b95 => first | omega | (simp [World.setCell]; omega)
                        intro v2 w5 hhi5 hgrow2 _ hob2
                        have hP5 := (hP4.alloc _).kept hgrow2 (.inr (fun e => by have := (hhi4.lt (w.heap.size + 1) e.symm).1; omega))
                        have hR5 := (hR4.alloc _).kept hgrow2 (.inr (fun e => by have := (hhi4.lt w.heap.size e.symm).1; omega))
                        obtain ⟨hlo5, hne5⟩ := apart_kept (hhi4.alloc _) (hlo4.alloc _) (apart_symm hne3) hgrow2 (by simpa using hob2)
                        have hb5 : Below w.heap.size w w5 := (hb4.alloc hb4.size _).grown hgrow2 (hb4.alloc hb4.size _).size (fun k hk => by have := (hhi4.lt k hk).1; omega)
                        obtain ⟨ha5, hc5, hv5⟩ := own_form hhi5
                        subst hv5
                        obtain ⟨⟨s0, s1, s2, s3⟩, z0, z1, z2, z3⟩ := rp_cells hP5
                        have hneQ : ∀ {vv : Value}, (∀ b, vv.ownBlock = some b → w.heap.size + 2 ≤ b ∧ b < w5.heap.size) → vv.ownBlock = none ∨ vv.ownBlock ≠ some (w.heap.size + 1) := fun {vv} h => by
                          cases hx : vv.ownBlock with
                          | none => exact .inl rfl
                          | some b => right; intro e; have := (h b hx).1; simp at e; omega
                        have hlo6 := hlo5.kept (hP5.stored 3 (.slice ha5 (acc.length + 1) hc5)).2 (hneQ hlo5.lt)
                        have hhi6 := hhi5.kept (hP5.stored 3 (.slice ha5 (acc.length + 1) hc5)).2 (hneQ hhi5.lt)
                        have hR6 := hR5.kept (hP5.stored 3 (.slice ha5 (acc.length + 1) hc5)).2 (.inr (by intro e; simp [Value.ownBlock] at e))
                        have hP6 := (hP5.stored 3 (.slice ha5 (acc.length + 1) hc5)).1
                        have hb6 := hb5.setCell (p := ⟨w.heap.size + 1, 3, none⟩) (by show _ ≤ w.heap.size + 1; omega) (.slice ha5 (acc.length + 1) hc5)
                        clear hgrow2 hob2 hP5 hlo5 hhi5 hR5 hP4 hlo4 hhi4 hR4
                        go_wp2
                        go_roundw
                        case rel =>
                          refine ⟨k + 1 + 1 + 2, f, false, acc ++ [(x, y)], _, _, by go_num, rfl, by omega, by omega, by simp; omega, HL2, hR6, hP6, ?_, ?_, apart_symm hne5, hb6⟩
                          · rw [List.map_append, rowOf_append, List.length_append]; exact hlo6
                          · rw [List.map_append, rowOf_append, List.length_append]; exact hhi6
                        case measure => simp [intOf]; omega
                · have dz : ((z : Int) == 45) = false := beq_false_of_ne (by rw [hzz]; omega)
                  have HL2 : Hid (rsS (T.length + 1) true (setBody T) [] = rsS f false (T.drop (k + 1 + 1)) (acc ++ [(x, x)])) := by
                    show _ = _
                    rw [HL.out, hD.out]
                    exact rs_go r93 hnd hi1 (dash_b (by omega) hz)
                  try clear hi1
                  try clear hnd
                  try clear r93
                  try clear hit
                  try clear hov
                  try clear hz
                  try clear hzz
                  try clear hy
                  try clear hy0
                  try clear hy92
                  try clear hu0
                  try clear hq
                  try clear hqq
                  try clear r92
                  try clear r45
                  try clear hr
                  try clear hk1
                  go_wp2_with (at_builtin; go_loud (refine wpList_append_own_at _ rfl _ _ 63 rfl (w.heap.size + 2) 21 i0 (.int .i32 0) 1 4 Try.underlying63 hi hz0 hz1 hz2 rfl (by decide) _ _ _ rfl (hlo.alloc _) _ _ _ (iC x) rfl rfl ?a71 ?a72 ?a73 ?a74 ?a75 ?_))
                  case a71 => intro j u hj; first | exact hj | exact new_row _ _ _ _ rfl j u hj | exact new_row _ _ _ _ (by simp [World.setCell]) j u hj
                  case a72 => intro u hu; simp [iC] at hu; subst hu; rfl
                  case a73 => unfold maxLen; omega
                  case a74 => omega
                  case a75 => first | omega | (simp [World.setCell]; omega)
                  intro v1 w3 hlo3 hgrow _ hob
                  have hP3 := (hP.alloc _).kept hgrow (.inr (fun e => by have := (hlo.lt (w.heap.size + 1) e.symm).1; omega))
                  have hR3 := (hR.alloc _).kept hgrow (.inr (fun e => by have := (hlo.lt w.heap.size e.symm).1; omega))
                  obtain ⟨hhi3, hne3⟩ := apart_kept (hlo.alloc _) (hhi.alloc _) hne hgrow (by simpa using hob)
                  have hb3 : Below w.heap.size w w3 := (hbw.alloc hbw.size _).grown hgrow (by simp; omega) (fun k hk => by have := (hlo.lt k hk).1; omega)
                  have hw3 : w.heap.size + 1 < w3.heap.size := (hP3.lt _ rfl).2
                  obtain ⟨la3, lc3, hv3⟩ := own_form hlo3
                  subst hv3
                  obtain ⟨⟨s0, s1, s2, s3⟩, z0, z1, z2, z3⟩ := rp_cells hP3
                  have hP4 := (hP3.stored 2 (.slice la3 (acc.length + 1) lc3)).1
                  have hneP : ∀ {vv : Value}, (∀ b, vv.ownBlock = some b → w.heap.size + 2 ≤ b ∧ b < w3.heap.size) → vv.ownBlock = none ∨ vv.ownBlock ≠ some (w.heap.size + 1) := fun {vv} h => by
                    cases hx : vv.ownBlock with
                    | none => exact .inl rfl
                    | some b => right; intro e; have := (h b hx).1; simp at e; omega
                  have hlo4 := hlo3.kept (hP3.stored 2 (.slice la3 (acc.length + 1) lc3)).2 (hneP hlo3.lt)
                  have hhi4 := hhi3.kept (hP3.stored 2 (.slice la3 (acc.length + 1) lc3)).2 (hneP hhi3.lt)
                  have hR4 := hR3.kept (hP3.stored 2 (.slice la3 (acc.length + 1) lc3)).2 (.inr (by intro e; simp [Value.ownBlock] at e))
                  have hb4 := hb3.setCell (p := ⟨w.heap.size + 1, 2, none⟩) (by show _ ≤ w.heap.size + 1; omega) (.slice la3 (acc.length + 1) lc3)
                  clear hgrow hlo hhi hP hR hbw hlo3 hhi3 hR3 hob
                  go_wp2_with (at_builtin; go_loud (refine wpList_append_own_at _ rfl _ _ 63 rfl (w.heap.size + 2) 21 i0 (.int .i32 0) 1 4 Try.underlying63 hi hz0 hz1 hz2 rfl (by decide) _ _ _ rfl (hhi4.alloc _) _ _ _ (iC x) rfl rfl ?b71 ?b72 ?b73 ?b74 ?b75 ?_))
                  case b71 => intro j u hj; first | exact hj | exact new_row _ _ _ _ rfl j u hj | exact new_row _ _ _ _ (by simp [World.setCell]) j u hj
                  case b72 => intro u hu; simp [iC] at hu; subst hu; rfl
                  case b73 => unfold maxLen; omega
                  case b74 => omega
                  case b75 => first | omega | (simp [World.setCell]; omega)
                  intro v2 w5 hhi5 hgrow2 _ hob2
                  have hP5 := (hP4.alloc _).kept hgrow2 (.inr (fun e => by have := (hhi4.lt (w.heap.size + 1) e.symm).1; omega))
                  have hR5 := (hR4.alloc _).kept hgrow2 (.inr (fun e => by have := (hhi4.lt w.heap.size e.symm).1; omega))
                  obtain ⟨hlo5, hne5⟩ := apart_kept (hhi4.alloc _) (hlo4.alloc _) (apart_symm hne3) hgrow2 (by simpa using hob2)
                  have hb5 : Below w.heap.size w w5 := (hb4.alloc hb4.size _).grown hgrow2 (hb4.alloc hb4.size _).size (fun k hk => by have := (hhi4.lt k hk).1; omega)
                  obtain ⟨ha5, hc5, hv5⟩ := own_form hhi5
                  subst hv5
                  obtain ⟨⟨s0, s1, s2, s3⟩, z0, z1, z2, z3⟩ := rp_cells hP5
                  have hneQ : ∀ {vv : Value}, (∀ b, vv.ownBlock = some b → w.heap.size + 2 ≤ b ∧ b < w5.heap.size) → vv.ownBlock = none ∨ vv.ownBlock ≠ some (w.heap.size + 1) := fun {vv} h => by
                    cases hx : vv.ownBlock with
                    | none => exact .inl rfl
                    | some b => right; intro e; have := (h b hx).1; simp at e; omega
                  have hlo6 := hlo5.kept (hP5.stored 3 (.slice ha5 (acc.length + 1) hc5)).2 (hneQ hlo5.lt)
                  have hhi6 := hhi5.kept (hP5.stored 3 (.slice ha5 (acc.length + 1) hc5)).2 (hneQ hhi5.lt)
                  have hR6 := hR5.kept (hP5.stored 3 (.slice ha5 (acc.length + 1) hc5)).2 (.inr (by intro e; simp [Value.ownBlock] at e))
                  have hP6 := (hP5.stored 3 (.slice ha5 (acc.length + 1) hc5)).1
                  have hb6 := hb5.setCell (p := ⟨w.heap.size + 1, 3, none⟩) (by show _ ≤ w.heap.size + 1; omega) (.slice ha5 (acc.length + 1) hc5)
                  clear hgrow2 hob2 hP5 hlo5 hhi5 hR5 hP4 hlo4 hhi4 hR4
                  go_wp2
                  go_roundw
                  case rel =>
                    refine ⟨k + 1 + 1, f, false, acc ++ [(x, x)], _, _, by go_num, rfl, by omega, by omega, by simp; omega, HL2, hR6, hP6, ?_, ?_, apart_symm hne5, hb6⟩
                    · rw [List.map_append, rowOf_append, List.length_append]; exact hlo6
                    · rw [List.map_append, rowOf_append, List.length_append]; exact hhi6
                  case measure => simp [intOf]; omega
              · have hjai : ¬ (k : Int) + 1 + 1 + 1 < (T.length : Int) := by omega
                have HL2 : Hid (rsS (T.length + 1) true (setBody T) [] = rsS f false (T.drop (k + 1 + 1)) (acc ++ [(x, x)])) := by
                  show _ = _
                  rw [HL.out, hD.out]
                  exact rs_go r93 hnd hi1 (dash_a hja)
                try clear hi1
                try clear hnd
                try clear r93
                try clear hit
                try clear hov
                try clear hz
                try clear hzz
                try clear hy
                try clear hy0
                try clear hy92
                try clear hu0
                try clear hq
                try clear hqq
                try clear r92
                try clear r45
                try clear hr
                try clear hk1
                go_wp2_with (at_builtin; go_loud (refine wpList_append_own_at _ rfl _ _ 63 rfl (w.heap.size + 2) 21 i0 (.int .i32 0) 1 4 Try.underlying63 hi hz0 hz1 hz2 rfl (by decide) _ _ _ rfl (hlo.alloc _) _ _ _ (iC x) rfl rfl ?a61 ?a62 ?a63 ?a64 ?a65 ?_))
                case a61 => intro j u hj; first | exact hj | exact new_row _ _ _ _ rfl j u hj | exact new_row _ _ _ _ (by simp [World.setCell]) j u hj
                case a62 => intro u hu; simp [iC] at hu; subst hu; rfl
                case a63 => unfold maxLen; omega
                case a64 => omega
                case a65 => first | omega | (simp [World.setCell]; omega)
                intro v1 w3 hlo3 hgrow _ hob
                have hP3 := (hP.alloc _).kept hgrow (.inr (fun e => by have := (hlo.lt (w.heap.size + 1) e.symm).1; omega))
                have hR3 := (hR.alloc _).kept hgrow (.inr (fun e => by have := (hlo.lt w.heap.size e.symm).1; omega))
                obtain ⟨hhi3, hne3⟩ := apart_kept (hlo.alloc _) (hhi.alloc _) hne hgrow (by simpa using hob)
                have hb3 : Below w.heap.size w w3 := (hbw.alloc hbw.size _).grown hgrow (by simp; omega) (fun k hk => by have := (hlo.lt k hk).1; omega)
                have hw3 : w.heap.size + 1 < w3.heap.size := (hP3.lt _ rfl).2
                obtain ⟨la3, lc3, hv3⟩ := own_form hlo3
                subst hv3
                obtain ⟨⟨s0, s1, s2, s3⟩, z0, z1, z2, z3⟩ := rp_cells hP3
                have hP4 := (hP3.stored 2 (.slice la3 (acc.length + 1) lc3)).1
                have hneP : ∀ {vv : Value}, (∀ b, vv.ownBlock = some b → w.heap.size + 2 ≤ b ∧ b < w3.heap.size) → vv.ownBlock = none ∨ vv.ownBlock ≠ some (w.heap.size + 1) := fun {vv} h => by
                  cases hx : vv.ownBlock with
                  | none => exact .inl rfl
                  | some b => right; intro e; have := (h b hx).1; simp at e; omega
                have hlo4 := hlo3.kept (hP3.stored 2 (.slice la3 (acc.length + 1) lc3)).2 (hneP hlo3.lt)
                have hhi4 := hhi3.kept (hP3.stored 2 (.slice la3 (acc.length + 1) lc3)).2 (hneP hhi3.lt)
                have hR4 := hR3.kept (hP3.stored 2 (.slice la3 (acc.length + 1) lc3)).2 (.inr (by intro e; simp [Value.ownBlock] at e))
                have hb4 := hb3.setCell (p := ⟨w.heap.size + 1, 2, none⟩) (by show _ ≤ w.heap.size + 1; omega) (.slice la3 (acc.length + 1) lc3)
                clear hgrow hlo hhi hP hR hbw hlo3 hhi3 hR3 hob
                go_wp2_with (at_builtin; go_loud (refine wpList_append_own_at _ rfl _ _ 63 rfl (w.heap.size + 2) 21 i0 (.int .i32 0) 1 4 Try.underlying63 hi hz0 hz1 hz2 rfl (by decide) _ _ _ rfl (hhi4.alloc _) _ _ _ (iC x) rfl rfl ?b61 ?b62 ?b63 ?b64 ?b65 ?_))
                case b61 => intro j u hj; first | exact hj | exact new_row _ _ _ _ rfl j u hj | exact new_row _ _ _ _ (by simp [World.setCell]) j u hj
                case b62 => intro u hu; simp [iC] at hu; subst hu; rfl
                case b63 => unfold maxLen; omega
                case b64 => omega
                case b65 => first | omega | (simp [World.setCell]; omega)
                intro v2 w5 hhi5 hgrow2 _ hob2
                have hP5 := (hP4.alloc _).kept hgrow2 (.inr (fun e => by have := (hhi4.lt (w.heap.size + 1) e.symm).1; omega))
                have hR5 := (hR4.alloc _).kept hgrow2 (.inr (fun e => by have := (hhi4.lt w.heap.size e.symm).1; omega))
                obtain ⟨hlo5, hne5⟩ := apart_kept (hhi4.alloc _) (hlo4.alloc _) (apart_symm hne3) hgrow2 (by simpa using hob2)
                have hb5 : Below w.heap.size w w5 := (hb4.alloc hb4.size _).grown hgrow2 (hb4.alloc hb4.size _).size (fun k hk => by have := (hhi4.lt k hk).1; omega)
                obtain ⟨ha5, hc5, hv5⟩ := own_form hhi5
                subst hv5
                obtain ⟨⟨s0, s1, s2, s3⟩, z0, z1, z2, z3⟩ := rp_cells hP5
                have hneQ : ∀ {vv : Value}, (∀ b, vv.ownBlock = some b → w.heap.size + 2 ≤ b ∧ b < w5.heap.size) → vv.ownBlock = none ∨ vv.ownBlock ≠ some (w.heap.size + 1) := fun {vv} h => by
                  cases hx : vv.ownBlock with
                  | none => exact .inl rfl
                  | some b => right; intro e; have := (h b hx).1; simp at e; omega
                have hlo6 := hlo5.kept (hP5.stored 3 (.slice ha5 (acc.length + 1) hc5)).2 (hneQ hlo5.lt)
                have hhi6 := hhi5.kept (hP5.stored 3 (.slice ha5 (acc.length + 1) hc5)).2 (hneQ hhi5.lt)
                have hR6 := hR5.kept (hP5.stored 3 (.slice ha5 (acc.length + 1) hc5)).2 (.inr (by intro e; simp [Value.ownBlock] at e))
                have hP6 := (hP5.stored 3 (.slice ha5 (acc.length + 1) hc5)).1
                have hb6 := hb5.setCell (p := ⟨w.heap.size + 1, 3, none⟩) (by show _ ≤ w.heap.size + 1; omega) (.slice ha5 (acc.length + 1) hc5)
                clear hgrow2 hob2 hP5 hlo5 hhi5 hR5 hP4 hlo4 hhi4 hR4
                go_wp2
                go_roundw
                case rel =>
                  refine ⟨k + 1 + 1, f, false, acc ++ [(x, x)], _, _, by go_num, rfl, by omega, by omega, by simp; omega, HL2, hR6, hP6, ?_, ?_, apart_symm hne5, hb6⟩
                  · rw [List.map_append, rowOf_append, List.length_append]; exact hlo6
                  · rw [List.map_append, rowOf_append, List.length_append]; exact hhi6
                case measure => simp [intOf]; omega
            · have hk1i : (T.length : Int) ≤ (k : Int) + 1 := by omega
              have HN : Hid (rsS (T.length + 1) true (setBody T) [] = none) := by
                show _ = _
                rw [HL.out, hD.out]
                exact rs_item0 r93 hnd (by have := item_end (T := T) (j := k) hlt hk1 (by rw [← hr]; exact r92); rw [hD.out] at this; exact this)
              try clear hi1
              try clear hnd
              try clear r93
              try clear hit
              try clear hov
              try clear hz
              try clear hzz
              try clear hy
              try clear hy0
              try clear hy92
              try clear hu0
              try clear hq
              try clear hqq
              try clear r92
              try clear r45
              try clear hr
              try clear hk1
              have hst := rp_stored (.bool false) (.bool false) (.slice la acc.length lc) (.slice ha acc.length hcp) hR
              have hcc := (rp_cells hst).1
              have hbf : Below w.heap.size w _ := (((hbw.setCell (p := ⟨w.heap.size, 0, none⟩) (Nat.le_refl _) (.bool false)).setCell (p := ⟨w.heap.size, 1, none⟩) (Nat.le_refl _) (.bool false)).setCell (p := ⟨w.heap.size, 2, none⟩) (Nat.le_refl _) (.slice la acc.length lc)).setCell (p := ⟨w.heap.size, 3, none⟩) (Nat.le_refl _) (.slice ha acc.length hcp)
              go_wp2
              refine bodyPost_ret (v := .tuple #[.agg #[.bool false, .bool false, .slice la acc.length lc, .slice ha acc.length hcp], .int .i64 (-1)]) (by simp [results, Try.results46, go_sem, hcc]) rfl ?_
              refine ⟨hbf, ?_⟩
              rw [HN.out]
              exact ⟨_, _, _, _, _, _, _, _, rfl⟩
          ·
            have hi1 : item (r :: T.drop (k + 1)) = some (r, T.drop (k + 1)) := by have := item_plain hlt (by rw [← hr]; exact r92); rw [hD.out, ← hr] at this; exact this
            have hnd : ¬ (r = 45 ∧ first = false ∧ (T.drop (k + 1)).head? ≠ some 93) := fun h => r45 h.1
            have d92 : ((r : Int) == 92) = false := beq_false_of_ne (by omega)
            have d45 : ((r : Int) == 45) = false := beq_false_of_ne (by omega)
            have d93 : ((r : Int) == 93) = false := beq_false_of_ne (by omega)
            clear r92 r45 hr
            by_cases hja : k + 1 + 1 < T.length
            · have hjai : (k : Int) + 1 + 1 < (T.length : Int) := by omega
              have lz := HDW.out (k + 1) (by omega)
              obtain ⟨z, hzz⟩ : ∃ z, z = T[k + 1] := ⟨_, rfl⟩
              rw [← hzz] at lz
              by_cases hz : T[k + 1] = 45
              · replace lz : wr.cell? ⟨g, o + (k + 1) * 4, none⟩ = some (.int .i32 45) := by rw [lz, hzz, hz]; rfl
                have ly := HDW.out (k + 1 + 1) hja
                obtain ⟨y, hy0⟩ : ∃ y, y = T[k + 1 + 1] := ⟨_, rfl⟩
                rw [← hy0] at ly
                by_cases hy : T[k + 1 + 1] = 93
                · replace ly : wr.cell? ⟨g, o + (k + 1 + 1) * 4, none⟩ = some (.int .i32 93) := by rw [ly, hy0, hy]; rfl
                  have HL2 : Hid (rsS (T.length + 1) true (setBody T) [] = rsS f false (T.drop (k + 1)) (acc ++ [(r, r)])) := by
                    show _ = _
                    rw [HL.out, hD.out]
                    exact rs_go r93 hnd hi1 (dash_d hja hy)
                  try clear hi1
                  try clear hnd
                  try clear r93
                  try clear hit
                  try clear hov
                  try clear hz
                  try clear hzz
                  try clear hy
                  try clear hy0
                  try clear hy92
                  try clear hu0
                  try clear hq
                  try clear hqq
                  try clear r92
                  try clear r45
                  try clear hr
                  try clear hk1
                  go_wp2_with (at_builtin; go_loud (refine wpList_append_own_at _ rfl _ _ 63 rfl (w.heap.size + 2) 21 i0 (.int .i32 0) 1 4 Try.underlying63 hi hz0 hz1 hz2 rfl (by decide) _ _ _ rfl (hlo.alloc _) _ _ _ (iC r) rfl rfl ?a31 ?a32 ?a33 ?a34 ?a35 ?_))
                  case a31 => intro j u hj; first | exact hj | exact new_row _ _ _ _ rfl j u hj | exact new_row _ _ _ _ (by simp [World.setCell]) j u hj
                  case a32 => intro u hu; simp [iC] at hu; subst hu; rfl
                  case a33 => unfold maxLen; omega
                  case a34 => omega
                  case a35 => first | omega | (simp [World.setCell]; omega)
                  intro v1 w3 hlo3 hgrow _ hob
                  have hP3 := (hP.alloc _).kept hgrow (.inr (fun e => by have := (hlo.lt (w.heap.size + 1) e.symm).1; omega))
                  have hR3 := (hR.alloc _).kept hgrow (.inr (fun e => by have := (hlo.lt w.heap.size e.symm).1; omega))
                  obtain ⟨hhi3, hne3⟩ := apart_kept (hlo.alloc _) (hhi.alloc _) hne hgrow (by simpa using hob)
                  have hb3 : Below w.heap.size w w3 := (hbw.alloc hbw.size _).grown hgrow (by simp; omega) (fun k hk => by have := (hlo.lt k hk).1; omega)
                  have hw3 : w.heap.size + 1 < w3.heap.size := (hP3.lt _ rfl).2
                  obtain ⟨la3, lc3, hv3⟩ := own_form hlo3
                  subst hv3
                  obtain ⟨⟨s0, s1, s2, s3⟩, z0, z1, z2, z3⟩ := rp_cells hP3
                  have hP4 := (hP3.stored 2 (.slice la3 (acc.length + 1) lc3)).1
                  have hneP : ∀ {vv : Value}, (∀ b, vv.ownBlock = some b → w.heap.size + 2 ≤ b ∧ b < w3.heap.size) → vv.ownBlock = none ∨ vv.ownBlock ≠ some (w.heap.size + 1) := fun {vv} h => by
                    cases hx : vv.ownBlock with
                    | none => exact .inl rfl
                    | some b => right; intro e; have := (h b hx).1; simp at e; omega
                  have hlo4 := hlo3.kept (hP3.stored 2 (.slice la3 (acc.length + 1) lc3)).2 (hneP hlo3.lt)
                  have hhi4 := hhi3.kept (hP3.stored 2 (.slice la3 (acc.length + 1) lc3)).2 (hneP hhi3.lt)
                  have hR4 := hR3.kept (hP3.stored 2 (.slice la3 (acc.length + 1) lc3)).2 (.inr (by intro e; simp [Value.ownBlock] at e))
                  have hb4 := hb3.setCell (p := ⟨w.heap.size + 1, 2, none⟩) (by show _ ≤ w.heap.size + 1; omega) (.slice la3 (acc.length + 1) lc3)
                  clear hgrow hlo hhi hP hR hbw hlo3 hhi3 hR3 hob
                  go_wp2_with (at_builtin; go_loud (refine wpList_append_own_at _ rfl _ _ 63 rfl (w.heap.size + 2) 21 i0 (.int .i32 0) 1 4 Try.underlying63 hi hz0 hz1 hz2 rfl (by decide) _ _ _ rfl (hhi4.alloc _) _ _ _ (iC r) rfl rfl ?b31 ?b32 ?b33 ?b34 ?b35 ?_))
                  case b31 => intro j u hj; first | exact hj | exact new_row _ _ _ _ rfl j u hj | exact new_row _ _ _ _ (by simp [World.setCell]) j u hj
                  case b32 => intro u hu; simp [iC] at hu; subst hu; rfl
                  case b33 => unfold maxLen; omega
                  case b34 => omega
                  case b35 => first | omega | (simp [World.setCell]; omega)
                  intro v2 w5 hhi5 hgrow2 _ hob2
                  have hP5 := (hP4.alloc _).kept hgrow2 (.inr (fun e => by have := (hhi4.lt (w.heap.size + 1) e.symm).1; omega))
                  have hR5 := (hR4.alloc _).kept hgrow2 (.inr (fun e => by have := (hhi4.lt w.heap.size e.symm).1; omega))
                  obtain ⟨hlo5, hne5⟩ := apart_kept (hhi4.alloc _) (hlo4.alloc _) (apart_symm hne3) hgrow2 (by simpa using hob2)
                  have hb5 : Below w.heap.size w w5 := (hb4.alloc hb4.size _).grown hgrow2 (hb4.alloc hb4.size _).size (fun k hk => by have := (hhi4.lt k hk).1; omega)
                  obtain ⟨ha5, hc5, hv5⟩ := own_form hhi5
                  subst hv5
                  obtain ⟨⟨s0, s1, s2, s3⟩, z0, z1, z2, z3⟩ := rp_cells hP5
                  have hneQ : ∀ {vv : Value}, (∀ b, vv.ownBlock = some b → w.heap.size + 2 ≤ b ∧ b < w5.heap.size) → vv.ownBlock = none ∨ vv.ownBlock ≠ some (w.heap.size + 1) := fun {vv} h => by
                    cases hx : vv.ownBlock with
                    | none => exact .inl rfl
                    | some b => right; intro e; have := (h b hx).1; simp at e; omega
                  have hlo6 := hlo5.kept (hP5.stored 3 (.slice ha5 (acc.length + 1) hc5)).2 (hneQ hlo5.lt)
                  have hhi6 := hhi5.kept (hP5.stored 3 (.slice ha5 (acc.length + 1) hc5)).2 (hneQ hhi5.lt)
                  have hR6 := hR5.kept (hP5.stored 3 (.slice ha5 (acc.length + 1) hc5)).2 (.inr (by intro e; simp [Value.ownBlock] at e))
                  have hP6 := (hP5.stored 3 (.slice ha5 (acc.length + 1) hc5)).1
                  have hb6 := hb5.setCell (p := ⟨w.heap.size + 1, 3, none⟩) (by show _ ≤ w.heap.size + 1; omega) (.slice ha5 (acc.length + 1) hc5)
                  clear hgrow2 hob2 hP5 hlo5 hhi5 hR5 hP4 hlo4 hhi4 hR4
                  go_wp2
                  go_roundw
                  case rel =>
                    refine ⟨k + 1, f, false, acc ++ [(r, r)], _, _, by go_num, rfl, by omega, by omega, by simp; omega, HL2, hR6, hP6, ?_, ?_, apart_symm hne5, hb6⟩
                    · rw [List.map_append, rowOf_append, List.length_append]; exact hlo6
                    · rw [List.map_append, rowOf_append, List.length_append]; exact hhi6
                  case measure => simp [intOf]; omega
                · have dy : ((y : Int) != 93) = true := bne_iff_ne.2 (by rw [hy0]; omega)
                  by_cases hy92 : T[k + 1 + 1] = 92
                  · replace ly : wr.cell? ⟨g, o + (k + 1 + 1) * 4, none⟩ = some (.int .i32 92) := by rw [ly, hy0, hy92]; rfl
                    by_cases hjb : k + 1 + 2 < T.length
                    · have hjbi : ¬ (T.length : Int) ≤ (k : Int) + 1 + 2 := by omega
                      have hjbi2 : (k : Int) + 1 + 2 < (T.length : Int) := by omega
                      have lu := HDW.out (k + 1 + 2) hjb
                      obtain ⟨u, hu0⟩ : ∃ u, u = T[k + 1 + 2] := ⟨_, rfl⟩
                      rw [← hu0] at lu
                      have hit : item (T.drop (k + 1 + 1)) = some (u, T.drop (k + 1 + 2 + 1)) := by
                        have := item_esc (T := T) (j := k + 1 + 1) (by omega) hy92
                        rw [show k + 1 + 1 + 2 = k + 1 + 2 + 1 by omega] at this
                        rw [this, hu0]
                      by_cases hov : u < r
                      · have hovi : (u : Int) < (r : Int) := by omega
                        have HN : Hid (rsS (T.length + 1) true (setBody T) [] = none) := by
                          show _ = _
                          rw [HL.out, hD.out]
                          exact rs_over r93 hnd hi1 (dash_e hja hz hy) hit hov
                        try clear hi1
                        try clear hnd
                        try clear r93
                        try clear hit
                        try clear hov
                        try clear hz
                        try clear hzz
                        try clear hy
                        try clear hy0
                        try clear hy92
                        try clear hu0
                        try clear hq
                        try clear hqq
                        try clear r92
                        try clear r45
                        try clear hr
                        try clear hk1
                        have hst := rp_stored (.bool false) (.bool false) (.slice la acc.length lc) (.slice ha acc.length hcp) hR
                        have hcc := (rp_cells hst).1
                        have hbf : Below w.heap.size w _ := (((hbw.setCell (p := ⟨w.heap.size, 0, none⟩) (Nat.le_refl _) (.bool false)).setCell (p := ⟨w.heap.size, 1, none⟩) (Nat.le_refl _) (.bool false)).setCell (p := ⟨w.heap.size, 2, none⟩) (Nat.le_refl _) (.slice la acc.length lc)).setCell (p := ⟨w.heap.size, 3, none⟩) (Nat.le_refl _) (.slice ha acc.length hcp)
                        go_wp2
                        refine bodyPost_ret (v := .tuple #[.agg #[.bool false, .bool false, .slice la acc.length lc, .slice ha acc.length hcp], .int .i64 (-1)]) (by simp [results, Try.results46, go_sem, hcc]) rfl ?_
                        refine ⟨hbf, ?_⟩
                        rw [HN.out]
                        exact ⟨_, _, _, _, _, _, _, _, rfl⟩
                      · have hovi : ¬ (u : Int) < (r : Int) := by omega
                        have HL2 : Hid (rsS (T.length + 1) true (setBody T) [] = rsS f false (T.drop (k + 1 + 2 + 1)) (acc ++ [(r, u)])) := by
                          show _ = _
                          rw [HL.out, hD.out]
                          have := rs_go2 (f := f) (acc := acc) r93 hnd hi1 (dash_e hja hz hy) hit hov
                          exact this
                        try clear hi1
                        try clear hnd
                        try clear r93
                        try clear hit
                        try clear hov
                        try clear hz
                        try clear hzz
                        try clear hy
                        try clear hy0
                        try clear hy92
                        try clear hu0
                        try clear hq
                        try clear hqq
                        try clear r92
                        try clear r45
                        try clear hr
                        try clear hk1
                        go_wp2_with (at_builtin; go_loud (refine wpList_append_own_at _ rfl _ _ 63 rfl (w.heap.size + 2) 21 i0 (.int .i32 0) 1 4 Try.underlying63 hi hz0 hz1 hz2 rfl (by decide) _ _ _ rfl (hlo.alloc _) _ _ _ (iC r) rfl rfl ?a51 ?a52 ?a53 ?a54 ?a55 ?_))
                        case a51 => intro j u hj; first | exact hj | exact new_row _ _ _ _ rfl j u hj | exact new_row _ _ _ _ (by simp [World.setCell]) j u hj
                        case a52 => intro u hu; simp [iC] at hu; subst hu; rfl
                        case a53 => unfold maxLen; omega
                        case a54 => omega
                        case a55 => first | omega | (simp [World.setCell]; omega)
                        intro v1 w3 hlo3 hgrow _ hob
                        have hP3 := (hP.alloc _).kept hgrow (.inr (fun e => by have := (hlo.lt (w.heap.size + 1) e.symm).1; omega))
                        have hR3 := (hR.alloc _).kept hgrow (.inr (fun e => by have := (hlo.lt w.heap.size e.symm).1; omega))
                        obtain ⟨hhi3, hne3⟩ := apart_kept (hlo.alloc _) (hhi.alloc _) hne hgrow (by simpa using hob)
                        have hb3 : Below w.heap.size w w3 := (hbw.alloc hbw.size _).grown hgrow (by simp; omega) (fun k hk => by have := (hlo.lt k hk).1; omega)
                        have hw3 : w.heap.size + 1 < w3.heap.size := (hP3.lt _ rfl).2
                        obtain ⟨la3, lc3, hv3⟩ := own_form hlo3
                        subst hv3
                        obtain ⟨⟨s0, s1, s2, s3⟩, z0, z1, z2, z3⟩ := rp_cells hP3
                        have hP4 := (hP3.stored 2 (.slice la3 (acc.length + 1) lc3)).1
                        have hneP : ∀ {vv : Value}, (∀ b, vv.ownBlock = some b → w.heap.size + 2 ≤ b ∧ b < w3.heap.size) → vv.ownBlock = none ∨ vv.ownBlock ≠ some (w.heap.size + 1) := fun {vv} h => by
                          cases hx : vv.ownBlock with
                          | none => exact .inl rfl
                          | some b => right; intro e; have := (h b hx).1; simp at e; omega
                        have hlo4 := hlo3.kept (hP3.stored 2 (.slice la3 (acc.length + 1) lc3)).2 (hneP hlo3.lt)
                        have hhi4 := hhi3.kept (hP3.stored 2 (.slice la3 (acc.length + 1) lc3)).2 (hneP hhi3.lt)
                        have hR4 := hR3.kept (hP3.stored 2 (.slice la3 (acc.length + 1) lc3)).2 (.inr (by intro e; simp [Value.ownBlock] at e))
                        have hb4 := hb3.setCell (p := ⟨w.heap.size + 1, 2, none⟩) (by show _ ≤ w.heap.size + 1; omega) (.slice la3 (acc.length + 1) lc3)
                        clear hgrow hlo hhi hP hR hbw hlo3 hhi3 hR3 hob
                        go_wp2_with (at_builtin; go_loud (refine wpList_append_own_at _ rfl _ _ 63 rfl (w.heap.size + 2) 21 i0 (.int .i32 0) 1 4 Try.underlying63 hi hz0 hz1 hz2 rfl (by decide) _ _ _ rfl (hhi4.alloc _) _ _ _ (iC u) rfl rfl ?b51 ?b52 ?b53 ?b54 ?b55 ?_))
                        case b51 => intro j u hj; first | exact hj | exact new_row _ _ _ _ rfl j u hj | exact new_row _ _ _ _ (by simp [World.setCell]) j u hj
                        case b52 => intro u hu; simp [iC] at hu; subst hu; rfl
                        case b53 => unfold maxLen; omega
                        case b54 => omega
                        case b55 => first | omega | (simp [World.setCell]; omega)
                        intro v2 w5 hhi5 hgrow2 _ hob2
                        have hP5 := (hP4.alloc _).kept hgrow2 (.inr (fun e => by have := (hhi4.lt (w.heap.size + 1) e.symm).1; omega))
                        have hR5 := (hR4.alloc _).kept hgrow2 (.inr (fun e => by have := (hhi4.lt w.heap.size e.symm).1; omega))
                        obtain ⟨hlo5, hne5⟩ := apart_kept (hhi4.alloc _) (hlo4.alloc _) (apart_symm hne3) hgrow2 (by simpa using hob2)
                        have hb5 : Below w.heap.size w w5 := (hb4.alloc hb4.size _).grown hgrow2 (hb4.alloc hb4.size _).size (fun k hk => by have := (hhi4.lt k hk).1; omega)
                        obtain ⟨ha5, hc5, hv5⟩ := own_form hhi5
                        subst hv5
                        obtain ⟨⟨s0, s1, s2, s3⟩, z0, z1, z2, z3⟩ := rp_cells hP5
                        have hneQ : ∀ {vv : Value}, (∀ b, vv.ownBlock = some b → w.heap.size + 2 ≤ b ∧ b < w5.heap.size) → vv.ownBlock = none ∨ vv.ownBlock ≠ some (w.heap.size + 1) := fun {vv} h => by
                          cases hx : vv.ownBlock with
                          | none => exact .inl rfl
                          | some b => right; intro e; have := (h b hx).1; simp at e; omega
                        have hlo6 := hlo5.kept (hP5.stored 3 (.slice ha5 (acc.length + 1) hc5)).2 (hneQ hlo5.lt)
                        have hhi6 := hhi5.kept (hP5.stored 3 (.slice ha5 (acc.length + 1) hc5)).2 (hneQ hhi5.lt)
                        have hR6 := hR5.kept (hP5.stored 3 (.slice ha5 (acc.length + 1) hc5)).2 (.inr (by intro e; simp [Value.ownBlock] at e))
                        have hP6 := (hP5.stored 3 (.slice ha5 (acc.length + 1) hc5)).1
                        have hb6 := hb5.setCell (p := ⟨w.heap.size + 1, 3, none⟩) (by show _ ≤ w.heap.size + 1; omega) (.slice ha5 (acc.length + 1) hc5)
                        clear hgrow2 hob2 hP5 hlo5 hhi5 hR5 hP4 hlo4 hhi4 hR4
                        go_wp2
                        go_roundw
                        case rel =>
                          refine ⟨k + 1 + 2 + 1, f, false, acc ++ [(r, u)], _, _, by go_num, rfl, by omega, by omega, by simp; omega, HL2, hR6, hP6, ?_, ?_, apart_symm hne5, hb6⟩
                          · rw [List.map_append, rowOf_append, List.length_append]; exact hlo6
                          · rw [List.map_append, rowOf_append, List.length_append]; exact hhi6
                        case measure => simp [intOf]; omega
                    · have hjbi : (T.length : Int) ≤ (k : Int) + 1 + 2 := by omega
                      have HN : Hid (rsS (T.length + 1) true (setBody T) [] = none) := by
                        show _ = _
                        rw [HL.out, hD.out]
                        exact rs_item1 r93 hnd hi1 (dash_e hja hz (by rw [hy92]; decide)) (item_end (by omega) (by omega) hy92)
                      try clear hi1
                      try clear hnd
                      try clear r93
                      try clear hit
                      try clear hov
                      try clear hz
                      try clear hzz
                      try clear hy
                      try clear hy0
                      try clear hy92
                      try clear hu0
                      try clear hq
                      try clear hqq
                      try clear r92
                      try clear r45
                      try clear hr
                      try clear hk1
                      have hst := rp_stored (.bool false) (.bool false) (.slice la acc.length lc) (.slice ha acc.length hcp) hR
                      have hcc := (rp_cells hst).1
                      have hbf : Below w.heap.size w _ := (((hbw.setCell (p := ⟨w.heap.size, 0, none⟩) (Nat.le_refl _) (.bool false)).setCell (p := ⟨w.heap.size, 1, none⟩) (Nat.le_refl _) (.bool false)).setCell (p := ⟨w.heap.size, 2, none⟩) (Nat.le_refl _) (.slice la acc.length lc)).setCell (p := ⟨w.heap.size, 3, none⟩) (Nat.le_refl _) (.slice ha acc.length hcp)
                      go_wp2
                      refine bodyPost_ret (v := .tuple #[.agg #[.bool false, .bool false, .slice la acc.length lc, .slice ha acc.length hcp], .int .i64 (-1)]) (by simp [results, Try.results46, go_sem, hcc]) rfl ?_
                      refine ⟨hbf, ?_⟩
                      rw [HN.out]
                      exact ⟨_, _, _, _, _, _, _, _, rfl⟩
                  · have dy2 : ((y : Int) == 92) = false := beq_false_of_ne (by rw [hy0]; omega)
                    have hit : item (T.drop (k + 1 + 1)) = some (y, T.drop (k + 1 + 2)) := by
                      have := item_plain (T := T) (j := k + 1 + 1) (by omega) hy92
                      rw [show k + 1 + 1 + 1 = k + 1 + 2 by omega] at this
                      rw [this, hy0]
                    by_cases hov : y < r
                    · have hovi : (y : Int) < (r : Int) := by omega
                      have HN : Hid (rsS (T.length + 1) true (setBody T) [] = none) := by
                        show _ = _
                        rw [HL.out, hD.out]
                        exact rs_over r93 hnd hi1 (dash_e hja hz hy) hit hov
                      try clear hi1
                      try clear hnd
                      try clear r93
                      try clear hit
                      try clear hov
                      try clear hz
                      try clear hzz
                      try clear hy
                      try clear hy0
                      try clear hy92
                      try clear hu0
                      try clear hq
                      try clear hqq
                      try clear r92
                      try clear r45
                      try clear hr
                      try clear hk1
                      have hst := rp_stored (.bool false) (.bool false) (.slice la acc.length lc) (.slice ha acc.length hcp) hR
                      have hcc := (rp_cells hst).1
                      have hbf : Below w.heap.size w _ := (((hbw.setCell (p := ⟨w.heap.size, 0, none⟩) (Nat.le_refl _) (.bool false)).setCell (p := ⟨w.heap.size, 1, none⟩) (Nat.le_refl _) (.bool false)).setCell (p := ⟨w.heap.size, 2, none⟩) (Nat.le_refl _) (.slice la acc.length lc)).setCell (p := ⟨w.heap.size, 3, none⟩) (Nat.le_refl _) (.slice ha acc.length hcp)
                      go_wp2
                      refine bodyPost_ret (v := .tuple #[.agg #[.bool false, .bool false, .slice la acc.length lc, .slice ha acc.length hcp], .int .i64 (-1)]) (by simp [results, Try.results46, go_sem, hcc]) rfl ?_
                      refine ⟨hbf, ?_⟩
                      rw [HN.out]
                      exact ⟨_, _, _, _, _, _, _, _, rfl⟩
                    · have hovi : ¬ (y : Int) < (r : Int) := by omega
                      have HL2 : Hid (rsS (T.length + 1) true (setBody T) [] = rsS f false (T.drop (k + 1 + 2)) (acc ++ [(r, y)])) := by
                        show _ = _
                        rw [HL.out, hD.out]
                        have := rs_go2 (f := f) (acc := acc) r93 hnd hi1 (dash_e hja hz hy) hit hov
                        exact this
                      try clear hi1
                      try clear hnd
                      try clear r93
                      try clear hit
                      try clear hov
                      try clear hz
                      try clear hzz
                      try clear hy
                      try clear hy0
                      try clear hy92
                      try clear hu0
                      try clear hq
                      try clear hqq
                      try clear r92
                      try clear r45
                      try clear hr
                      try clear hk1
                      go_wp2_with (at_builtin; go_loud (refine wpList_append_own_at _ rfl _ _ 63 rfl (w.heap.size + 2) 21 i0 (.int .i32 0) 1 4 Try.underlying63 hi hz0 hz1 hz2 rfl (by decide) _ _ _ rfl (hlo.alloc _) _ _ _ (iC r) rfl rfl ?a41 ?a42 ?a43 ?a44 ?a45 ?_))
                      case a41 => intro j u hj; first | exact hj | exact new_row _ _ _ _ rfl j u hj | exact new_row _ _ _ _ (by simp [World.setCell]) j u hj
                      case a42 => intro u hu; simp [iC] at hu; subst hu; rfl
                      case a43 => unfold maxLen; omega
                      case a44 => omega
                      case a45 => first | omega | (simp [World.setCell]; omega)
                      intro v1 w3 hlo3 hgrow _ hob
                      have hP3 := (hP.alloc _).kept hgrow (.inr (fun e => by have := (hlo.lt (w.heap.size + 1) e.symm).1; omega))
                      have hR3 := (hR.alloc _).kept hgrow (.inr (fun e => by have := (hlo.lt w.heap.size e.symm).1; omega))
                      obtain ⟨hhi3, hne3⟩ := apart_kept (hlo.alloc _) (hhi.alloc _) hne hgrow (by simpa using hob)
                      have hb3 : Below w.heap.size w w3 := (hbw.alloc hbw.size _).grown hgrow (by simp; omega) (fun k hk => by have := (hlo.lt k hk).1; omega)
                      have hw3 : w.heap.size + 1 < w3.heap.size := (hP3.lt _ rfl).2
                      obtain ⟨la3, lc3, hv3⟩ := own_form hlo3
                      subst hv3
                      obtain ⟨⟨s0, s1, s2, s3⟩, z0, z1, z2, z3⟩ := rp_cells hP3
                      have hP4 := (hP3.stored 2 (.slice la3 (acc.length + 1) lc3)).1
                      have hneP : ∀ {vv : Value}, (∀ b, vv.ownBlock = some b → w.heap.size + 2 ≤ b ∧ b < w3.heap.size) → vv.ownBlock = none ∨ vv.ownBlock ≠ some (w.heap.size + 1) := fun {vv} h => by
                        cases hx : vv.ownBlock with
                        | none => exact .inl rfl
                        | some b => right; intro e; have := (h b hx).1; simp at e; omega
                      have hlo4 := hlo3.kept (hP3.stored 2 (.slice la3 (acc.length + 1) lc3)).2 (hneP hlo3.lt)
                      have hhi4 := hhi3.kept (hP3.stored 2 (.slice la3 (acc.length + 1) lc3)).2 (hneP hhi3.lt)
                      have hR4 := hR3.kept (hP3.stored 2 (.slice la3 (acc.length + 1) lc3)).2 (.inr (by intro e; simp [Value.ownBlock] at e))
                      have hb4 := hb3.setCell (p := ⟨w.heap.size + 1, 2, none⟩) (by show _ ≤ w.heap.size + 1; omega) (.slice la3 (acc.length + 1) lc3)
                      clear hgrow hlo hhi hP hR hbw hlo3 hhi3 hR3 hob
                      go_wp2_with (at_builtin; go_loud (refine wpList_append_own_at _ rfl _ _ 63 rfl (w.heap.size + 2) 21 i0 (.int .i32 0) 1 4 Try.underlying63 hi hz0 hz1 hz2 rfl (by decide) _ _ _ rfl (hhi4.alloc _) _ _ _ (iC y) rfl rfl ?b41 ?b42 ?b43 ?b44 ?b45 ?_))
                      case b41 => intro j u hj; first | exact hj | exact new_row _ _ _ _ rfl j u hj | exact new_row _ _ _ _ (by simp [World.setCell]) j u hj
                      case b42 => intro u hu; simp [iC] at hu; subst hu; rfl
                      case b43 => unfold maxLen; omega
                      case b44 => omega
                      case b45 => first | omega | (simp [World.setCell]; omega)
                      intro v2 w5 hhi5 hgrow2 _ hob2
                      have hP5 := (hP4.alloc _).kept hgrow2 (.inr (fun e => by have := (hhi4.lt (w.heap.size + 1) e.symm).1; omega))
                      have hR5 := (hR4.alloc _).kept hgrow2 (.inr (fun e => by have := (hhi4.lt w.heap.size e.symm).1; omega))
                      obtain ⟨hlo5, hne5⟩ := apart_kept (hhi4.alloc _) (hlo4.alloc _) (apart_symm hne3) hgrow2 (by simpa using hob2)
                      have hb5 : Below w.heap.size w w5 := (hb4.alloc hb4.size _).grown hgrow2 (hb4.alloc hb4.size _).size (fun k hk => by have := (hhi4.lt k hk).1; omega)
                      obtain ⟨ha5, hc5, hv5⟩ := own_form hhi5
                      subst hv5
                      obtain ⟨⟨s0, s1, s2, s3⟩, z0, z1, z2, z3⟩ := rp_cells hP5
                      have hneQ : ∀ {vv : Value}, (∀ b, vv.ownBlock = some b → w.heap.size + 2 ≤ b ∧ b < w5.heap.size) → vv.ownBlock = none ∨ vv.ownBlock ≠ some (w.heap.size + 1) := fun {vv} h => by
                        cases hx : vv.ownBlock with
                        | none => exact .inl rfl
                        | some b => right; intro e; have := (h b hx).1; simp at e; omega
                      have hlo6 := hlo5.kept (hP5.stored 3 (.slice ha5 (acc.length + 1) hc5)).2 (hneQ hlo5.lt)
                      have hhi6 := hhi5.kept (hP5.stored 3 (.slice ha5 (acc.length + 1) hc5)).2 (hneQ hhi5.lt)
                      have hR6 := hR5.kept (hP5.stored 3 (.slice ha5 (acc.length + 1) hc5)).2 (.inr (by intro e; simp [Value.ownBlock] at e))
                      have hP6 := (hP5.stored 3 (.slice ha5 (acc.length + 1) hc5)).1
                      have hb6 := hb5.setCell (p := ⟨w.heap.size + 1, 3, none⟩) (by show _ ≤ w.heap.size + 1; omega) (.slice ha5 (acc.length + 1) hc5)
                      clear hgrow2 hob2 hP5 hlo5 hhi5 hR5 hP4 hlo4 hhi4 hR4
                      go_wp2
                      go_roundw
                      case rel =>
                        refine ⟨k + 1 + 2, f, false, acc ++ [(r, y)], _, _, by go_num, rfl, by omega, by omega, by simp; omega, HL2, hR6, hP6, ?_, ?_, apart_symm hne5, hb6⟩
                        · rw [List.map_append, rowOf_append, List.length_append]; exact hlo6
                        · rw [List.map_append, rowOf_append, List.length_append]; exact hhi6
                      case measure => simp [intOf]; omega
              · have dz : ((z : Int) == 45) = false := beq_false_of_ne (by rw [hzz]; omega)
                have HL2 : Hid (rsS (T.length + 1) true (setBody T) [] = rsS f false (T.drop (k + 1)) (acc ++ [(r, r)])) := by
                  show _ = _
                  rw [HL.out, hD.out]
                  exact rs_go r93 hnd hi1 (dash_b (by omega) hz)
                try clear hi1
                try clear hnd
                try clear r93
                try clear hit
                try clear hov
                try clear hz
                try clear hzz
                try clear hy
                try clear hy0
                try clear hy92
                try clear hu0
                try clear hq
                try clear hqq
                try clear r92
                try clear r45
                try clear hr
                try clear hk1
                go_wp2_with (at_builtin; go_loud (refine wpList_append_own_at _ rfl _ _ 63 rfl (w.heap.size + 2) 21 i0 (.int .i32 0) 1 4 Try.underlying63 hi hz0 hz1 hz2 rfl (by decide) _ _ _ rfl (hlo.alloc _) _ _ _ (iC r) rfl rfl ?a21 ?a22 ?a23 ?a24 ?a25 ?_))
                case a21 => intro j u hj; first | exact hj | exact new_row _ _ _ _ rfl j u hj | exact new_row _ _ _ _ (by simp [World.setCell]) j u hj
                case a22 => intro u hu; simp [iC] at hu; subst hu; rfl
                case a23 => unfold maxLen; omega
                case a24 => omega
                case a25 => first | omega | (simp [World.setCell]; omega)
                intro v1 w3 hlo3 hgrow _ hob
                have hP3 := (hP.alloc _).kept hgrow (.inr (fun e => by have := (hlo.lt (w.heap.size + 1) e.symm).1; omega))
                have hR3 := (hR.alloc _).kept hgrow (.inr (fun e => by have := (hlo.lt w.heap.size e.symm).1; omega))
                obtain ⟨hhi3, hne3⟩ := apart_kept (hlo.alloc _) (hhi.alloc _) hne hgrow (by simpa using hob)
                have hb3 : Below w.heap.size w w3 := (hbw.alloc hbw.size _).grown hgrow (by simp; omega) (fun k hk => by have := (hlo.lt k hk).1; omega)
                have hw3 : w.heap.size + 1 < w3.heap.size := (hP3.lt _ rfl).2
                obtain ⟨la3, lc3, hv3⟩ := own_form hlo3
                subst hv3
                obtain ⟨⟨s0, s1, s2, s3⟩, z0, z1, z2, z3⟩ := rp_cells hP3
                have hP4 := (hP3.stored 2 (.slice la3 (acc.length + 1) lc3)).1
                have hneP : ∀ {vv : Value}, (∀ b, vv.ownBlock = some b → w.heap.size + 2 ≤ b ∧ b < w3.heap.size) → vv.ownBlock = none ∨ vv.ownBlock ≠ some (w.heap.size + 1) := fun {vv} h => by
                  cases hx : vv.ownBlock with
                  | none => exact .inl rfl
                  | some b => right; intro e; have := (h b hx).1; simp at e; omega
                have hlo4 := hlo3.kept (hP3.stored 2 (.slice la3 (acc.length + 1) lc3)).2 (hneP hlo3.lt)
                have hhi4 := hhi3.kept (hP3.stored 2 (.slice la3 (acc.length + 1) lc3)).2 (hneP hhi3.lt)
                have hR4 := hR3.kept (hP3.stored 2 (.slice la3 (acc.length + 1) lc3)).2 (.inr (by intro e; simp [Value.ownBlock] at e))
                have hb4 := hb3.setCell (p := ⟨w.heap.size + 1, 2, none⟩) (by show _ ≤ w.heap.size + 1; omega) (.slice la3 (acc.length + 1) lc3)
                clear hgrow hlo hhi hP hR hbw hlo3 hhi3 hR3 hob
                go_wp2_with (at_builtin; go_loud (refine wpList_append_own_at _ rfl _ _ 63 rfl (w.heap.size + 2) 21 i0 (.int .i32 0) 1 4 Try.underlying63 hi hz0 hz1 hz2 rfl (by decide) _ _ _ rfl (hhi4.alloc _) _ _ _ (iC r) rfl rfl ?b21 ?b22 ?b23 ?b24 ?b25 ?_))
                case b21 => intro j u hj; first | exact hj | exact new_row _ _ _ _ rfl j u hj | exact new_row _ _ _ _ (by simp [World.setCell]) j u hj
                case b22 => intro u hu; simp [iC] at hu; subst hu; rfl
                case b23 => unfold maxLen; omega
                case b24 => omega
                case b25 => first | omega | (simp [World.setCell]; omega)
                intro v2 w5 hhi5 hgrow2 _ hob2
                have hP5 := (hP4.alloc _).kept hgrow2 (.inr (fun e => by have := (hhi4.lt (w.heap.size + 1) e.symm).1; omega))
                have hR5 := (hR4.alloc _).kept hgrow2 (.inr (fun e => by have := (hhi4.lt w.heap.size e.symm).1; omega))
                obtain ⟨hlo5, hne5⟩ := apart_kept (hhi4.alloc _) (hlo4.alloc _) (apart_symm hne3) hgrow2 (by simpa using hob2)
                have hb5 : Below w.heap.size w w5 := (hb4.alloc hb4.size _).grown hgrow2 (hb4.alloc hb4.size _).size (fun k hk => by have := (hhi4.lt k hk).1; omega)
                obtain ⟨ha5, hc5, hv5⟩ := own_form hhi5
                subst hv5
                obtain ⟨⟨s0, s1, s2, s3⟩, z0, z1, z2, z3⟩ := rp_cells hP5
                have hneQ : ∀ {vv : Value}, (∀ b, vv.ownBlock = some b → w.heap.size + 2 ≤ b ∧ b < w5.heap.size) → vv.ownBlock = none ∨ vv.ownBlock ≠ some (w.heap.size + 1) := fun {vv} h => by
                  cases hx : vv.ownBlock with
                  | none => exact .inl rfl
                  | some b => right; intro e; have := (h b hx).1; simp at e; omega
                have hlo6 := hlo5.kept (hP5.stored 3 (.slice ha5 (acc.length + 1) hc5)).2 (hneQ hlo5.lt)
                have hhi6 := hhi5.kept (hP5.stored 3 (.slice ha5 (acc.length + 1) hc5)).2 (hneQ hhi5.lt)
                have hR6 := hR5.kept (hP5.stored 3 (.slice ha5 (acc.length + 1) hc5)).2 (.inr (by intro e; simp [Value.ownBlock] at e))
                have hP6 := (hP5.stored 3 (.slice ha5 (acc.length + 1) hc5)).1
                have hb6 := hb5.setCell (p := ⟨w.heap.size + 1, 3, none⟩) (by show _ ≤ w.heap.size + 1; omega) (.slice ha5 (acc.length + 1) hc5)
                clear hgrow2 hob2 hP5 hlo5 hhi5 hR5 hP4 hlo4 hhi4 hR4
                go_wp2
                go_roundw
                case rel =>
                  refine ⟨k + 1, f, false, acc ++ [(r, r)], _, _, by go_num, rfl, by omega, by omega, by simp; omega, HL2, hR6, hP6, ?_, ?_, apart_symm hne5, hb6⟩
                  · rw [List.map_append, rowOf_append, List.length_append]; exact hlo6
                  · rw [List.map_append, rowOf_append, List.length_append]; exact hhi6
                case measure => simp [intOf]; omega
            · have hjai : ¬ (k : Int) + 1 + 1 < (T.length : Int) := by omega
              have HL2 : Hid (rsS (T.length + 1) true (setBody T) [] = rsS f false (T.drop (k + 1)) (acc ++ [(r, r)])) := by
                show _ = _
                rw [HL.out, hD.out]
                exact rs_go r93 hnd hi1 (dash_a hja)
              try clear hi1
              try clear hnd
              try clear r93
              try clear hit
              try clear hov
              try clear hz
              try clear hzz
              try clear hy
              try clear hy0
              try clear hy92
              try clear hu0
              try clear hq
              try clear hqq
              try clear r92
              try clear r45
              try clear hr
              try clear hk1
              go_wp2_with (at_builtin; go_loud (refine wpList_append_own_at _ rfl _ _ 63 rfl (w.heap.size + 2) 21 i0 (.int .i32 0) 1 4 Try.underlying63 hi hz0 hz1 hz2 rfl (by decide) _ _ _ rfl (hlo.alloc _) _ _ _ (iC r) rfl rfl ?a11 ?a12 ?a13 ?a14 ?a15 ?_))
              case a11 => intro j u hj; first | exact hj | exact new_row _ _ _ _ rfl j u hj | exact new_row _ _ _ _ (by simp [World.setCell]) j u hj
              case a12 => intro u hu; simp [iC] at hu; subst hu; rfl
              case a13 => unfold maxLen; omega
              case a14 => omega
              case a15 => first | omega | (simp [World.setCell]; omega)
              intro v1 w3 hlo3 hgrow _ hob
              have hP3 := (hP.alloc _).kept hgrow (.inr (fun e => by have := (hlo.lt (w.heap.size + 1) e.symm).1; omega))
              have hR3 := (hR.alloc _).kept hgrow (.inr (fun e => by have := (hlo.lt w.heap.size e.symm).1; omega))
              obtain ⟨hhi3, hne3⟩ := apart_kept (hlo.alloc _) (hhi.alloc _) hne hgrow (by simpa using hob)
              have hb3 : Below w.heap.size w w3 := (hbw.alloc hbw.size _).grown hgrow (by simp; omega) (fun k hk => by have := (hlo.lt k hk).1; omega)
              have hw3 : w.heap.size + 1 < w3.heap.size := (hP3.lt _ rfl).2
              obtain ⟨la3, lc3, hv3⟩ := own_form hlo3
              subst hv3
              obtain ⟨⟨s0, s1, s2, s3⟩, z0, z1, z2, z3⟩ := rp_cells hP3
              have hP4 := (hP3.stored 2 (.slice la3 (acc.length + 1) lc3)).1
              have hneP : ∀ {vv : Value}, (∀ b, vv.ownBlock = some b → w.heap.size + 2 ≤ b ∧ b < w3.heap.size) → vv.ownBlock = none ∨ vv.ownBlock ≠ some (w.heap.size + 1) := fun {vv} h => by
                cases hx : vv.ownBlock with
                | none => exact .inl rfl
                | some b => right; intro e; have := (h b hx).1; simp at e; omega
              have hlo4 := hlo3.kept (hP3.stored 2 (.slice la3 (acc.length + 1) lc3)).2 (hneP hlo3.lt)
              have hhi4 := hhi3.kept (hP3.stored 2 (.slice la3 (acc.length + 1) lc3)).2 (hneP hhi3.lt)
              have hR4 := hR3.kept (hP3.stored 2 (.slice la3 (acc.length + 1) lc3)).2 (.inr (by intro e; simp [Value.ownBlock] at e))
              have hb4 := hb3.setCell (p := ⟨w.heap.size + 1, 2, none⟩) (by show _ ≤ w.heap.size + 1; omega) (.slice la3 (acc.length + 1) lc3)
              clear hgrow hlo hhi hP hR hbw hlo3 hhi3 hR3 hob
              go_wp2_with (at_builtin; go_loud (refine wpList_append_own_at _ rfl _ _ 63 rfl (w.heap.size + 2) 21 i0 (.int .i32 0) 1 4 Try.underlying63 hi hz0 hz1 hz2 rfl (by decide) _ _ _ rfl (hhi4.alloc _) _ _ _ (iC r) rfl rfl ?b11 ?b12 ?b13 ?b14 ?b15 ?_))
              case b11 => intro j u hj; first | exact hj | exact new_row _ _ _ _ rfl j u hj | exact new_row _ _ _ _ (by simp [World.setCell]) j u hj
              case b12 => intro u hu; simp [iC] at hu; subst hu; rfl
              case b13 => unfold maxLen; omega
              case b14 => omega
              case b15 => first | omega | (simp [World.setCell]; omega)
              intro v2 w5 hhi5 hgrow2 _ hob2
              have hP5 := (hP4.alloc _).kept hgrow2 (.inr (fun e => by have := (hhi4.lt (w.heap.size + 1) e.symm).1; omega))
              have hR5 := (hR4.alloc _).kept hgrow2 (.inr (fun e => by have := (hhi4.lt w.heap.size e.symm).1; omega))
              obtain ⟨hlo5, hne5⟩ := apart_kept (hhi4.alloc _) (hlo4.alloc _) (apart_symm hne3) hgrow2 (by simpa using hob2)
              have hb5 : Below w.heap.size w w5 := (hb4.alloc hb4.size _).grown hgrow2 (hb4.alloc hb4.size _).size (fun k hk => by have := (hhi4.lt k hk).1; omega)
              obtain ⟨ha5, hc5, hv5⟩ := own_form hhi5
              subst hv5
              obtain ⟨⟨s0, s1, s2, s3⟩, z0, z1, z2, z3⟩ := rp_cells hP5
              have hneQ : ∀ {vv : Value}, (∀ b, vv.ownBlock = some b → w.heap.size + 2 ≤ b ∧ b < w5.heap.size) → vv.ownBlock = none ∨ vv.ownBlock ≠ some (w.heap.size + 1) := fun {vv} h => by
                cases hx : vv.ownBlock with
                | none => exact .inl rfl
                | some b => right; intro e; have := (h b hx).1; simp at e; omega
              have hlo6 := hlo5.kept (hP5.stored 3 (.slice ha5 (acc.length + 1) hc5)).2 (hneQ hlo5.lt)
              have hhi6 := hhi5.kept (hP5.stored 3 (.slice ha5 (acc.length + 1) hc5)).2 (hneQ hhi5.lt)
              have hR6 := hR5.kept (hP5.stored 3 (.slice ha5 (acc.length + 1) hc5)).2 (.inr (by intro e; simp [Value.ownBlock] at e))
              have hP6 := (hP5.stored 3 (.slice ha5 (acc.length + 1) hc5)).1
              have hb6 := hb5.setCell (p := ⟨w.heap.size + 1, 3, none⟩) (by show _ ≤ w.heap.size + 1; omega) (.slice ha5 (acc.length + 1) hc5)
              clear hgrow2 hob2 hP5 hlo5 hhi5 hR5 hP4 hlo4 hhi4 hR4
              go_wp2
              go_roundw
              case rel =>
                refine ⟨k + 1, f, false, acc ++ [(r, r)], _, _, by go_num, rfl, by omega, by omega, by simp; omega, HL2, hR6, hP6, ?_, ?_, apart_symm hne5, hb6⟩
                · rw [List.map_append, rowOf_append, List.length_append]; exact hlo6
                · rw [List.map_append, rowOf_append, List.length_append]; exact hhi6
              case measure => simp [intOf]; omega

    · have hli : (T.length : Int) ≤ (k : Int) := by omega
      have HN : Hid (rsS (T.length + 1) true (setBody T) [] = none) := by
        show _ = _
        rw [HL.out, List.drop_of_length_le (by omega)]; cases f <;> rfl
      have hst := rp_stored (.bool false) (.bool false) (.slice la acc.length lc) (.slice ha acc.length hcp) hR
      have hcc := (rp_cells hst).1
      have hbf : Below w.heap.size w _ := (((hbw.setCell (p := ⟨w.heap.size, 0, none⟩) (Nat.le_refl _) (.bool false)).setCell (p := ⟨w.heap.size, 1, none⟩) (Nat.le_refl _) (.bool false)).setCell (p := ⟨w.heap.size, 2, none⟩) (Nat.le_refl _) (.slice la acc.length lc)).setCell (p := ⟨w.heap.size, 3, none⟩) (Nat.le_refl _) (.slice ha acc.length hcp)
      go_wp2
      refine bodyPost_ret (v := .tuple #[.agg #[.bool false, .bool false, .slice la acc.length lc, .slice ha acc.length hcp], .int .i64 (-1)]) (by simp [results, Try.results46, go_sem, hcc]) rfl ?_
      refine ⟨hbf, ?_⟩
      rw [HN.out]
      exact ⟨_, _, _, _, _, _, _, _, rfl⟩

theorem rSet_nil (w : World) (a : Option Addr) (cap : Nat) : Calls Try.prog 46 #[.slice a 0 cap] w (RSetPost [] w) := by
  have HN : Hid (rsS (([] : List Nat).length + 1) true (setBody []) [] = none) := rfl
  have hR := (World.ownsRow_lit (base := w.heap.size) (e := 65) (size := 4) w #[.bool false, .bool false, .slice none 0 0, .slice none 0 0] 1 (Nat.le_refl _) (by unfold maxLen; omega) rfl)
  go_enter Try.func46, Try.ntmps46
  go_wp2
  go_loopw [5, 6] (fun i fl wr => i = .int .i64 0 ∧ fl = .bool true ∧ wr = (w.alloc (.cells #[.bool false, .bool false, .slice none 0 0, .slice none 0 0] 65)).alloc (.cells #[.bool false, .bool false, .slice none 0 0, .slice none 0 0] 65)) (fun _ _ _ => 0)
  case atStart => exact ⟨rfl, rfl, rfl⟩
  case round =>
    obtain ⟨rfl, rfl, rfl⟩ := hrel
    go_wp2
    refine bodyPost_ret (v := .tuple #[.agg #[.bool false, .bool false, .slice none 0 0, .slice none 0 0], .int .i64 (-1)]) (by simp [results, Try.results46, go_sem]) rfl ?_
    refine ⟨((Below.refl _ w).alloc (Nat.le_refl _) _).alloc (by simp) _, ?_⟩
    rw [HN.out]
    exact ⟨_, _, _, _, _, _, _, _, rfl⟩

end Go.Proofs.Ytmijhgecdkdkmaa
