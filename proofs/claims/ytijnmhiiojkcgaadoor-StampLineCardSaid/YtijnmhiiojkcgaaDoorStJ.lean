/-
  Package stamp's Parse.
-/
import Derived.Test.YtijnmhiiojkcgaaDoorStI
import Derived.Test.YtijnmhiiojkcgaaDoorStE
import Derived.Lib.OthersKept
set_option linter.unusedVariables false
namespace Go.Proofs.YtijnmhiiojkcgaaDoor
open Go.RowKit

set_option maxHeartbeats 16000000 in
set_option maxRecDepth 100000 in
theorem parse_any (s : ByteArray) (hs : s.size ≤ 1000000) (w : World) (ht : Tab w) :
    Calls Tryd.prog 19 #[.string s] w (ParPost (parseL s.data.toList) w) := by
  have HT := Lib.hid ht
  have g0 := box_alloc (box_alloc (heap_alloc_new w (.cells #[.int .i64 0, .int .i64 0, .int .i64 0] 23)) (.cells #[.int .i64 0, .int .i64 0, .int .i64 0] 55)) (.stringIter s 0)
  have g1 := box_alloc (heap_alloc_new (w.alloc (.cells #[.int .i64 0, .int .i64 0, .int .i64 0] 23)) (.cells #[.int .i64 0, .int .i64 0, .int .i64 0] 55)) (.stringIter s 0)
  have g2 := heap_alloc_new ((w.alloc (.cells #[.int .i64 0, .int .i64 0, .int .i64 0] 23)).alloc (.cells #[.int .i64 0, .int .i64 0, .int .i64 0] 55)) (.stringIter s 0)
  rw [World.size_alloc] at g1
  rw [World.size_alloc, World.size_alloc] at g2
  have HR0 := Lib.hid (show ParAt w _ start0 from ⟨g0, g1, (((Below.refl _ w).alloc (Nat.le_refl _) _).alloc (by simp) _).alloc (by simp; omega) _, by decide, by decide, by decide⟩)
  have HG2 := Lib.hid g2
  have HSL : Hid (s.size = s.data.toList.length) := by show _ = _; obtain ⟨⟨l⟩⟩ := s; rfl
  clear g0 g1 g2 ht
  go_enter Tryd.func19, Tryd.ntmps19
  go_wp2
  go_loopw [5] (fun vk wr => ∃ (pos : Nat) (st : PS), vk = .int .i64 st.k ∧ st.k ≤ 2 ∧ pos ≤ s.size ∧ wr.heap[w.heap.size + 2]? = some (.stringIter s pos) ∧ ParAt w wr st ∧ Hid (run (some start0) (s.data.toList.take pos) = some st)) (fun _ wr => s.size - wr.iterPos (w.heap.size + 2))
  case atStart => exact ⟨0, start0, rfl, by decide, Nat.zero_le _, HG2.out, HR0.out, rfl⟩
  case round =>
    obtain ⟨pos, ⟨x, y, z, k⟩, rfl, hk, hps, hit, hR, HS⟩ := hrel
    clear HR0 HG2
    simp only at hk
    by_cases hp : pos < s.size
    · have hpl : pos < s.data.toList.length := by have := HSL.out; omega
      have hnx : ∀ ty, (Instr.next (.pointer (some ⟨w.heap.size + 2, 0, none⟩)) true ty).run Tryd.prog wr = _ := fun ty => Lib.run_next_any_at wr (w.heap.size + 2) s pos ty hit hp
      have hasc := ascii_at s pos hpl
      have hrun := run_take _ pos _ hpl HS.out
      have hfail := run_fail _ pos _ hpl HS.out
      obtain ⟨r, wd, hdec⟩ : ∃ r wd, Utf8.decode s pos = (r, wd) := ⟨_, _, rfl⟩
      rw [hdec] at hnx hasc
      simp only at hnx hasc
      obtain ⟨b, hbb⟩ : ∃ b, b = (s.data.toList[pos]'hpl).toNat := ⟨_, rfl⟩
      rw [← hbb] at hasc hrun hfail
      clear hdec hbb hpl HS
      have hit2 := Lib.iterAt_heap wr (w.heap.size + 2) s pos (pos + wd) hit
      have hbw2 := Lib.below_iterAt hR.below (k := w.heap.size + 2) (by omega) s (pos + wd)
      have hR2 : ParAt w (wr.iterAt (w.heap.size + 2) s (pos + wd)) ⟨x, y, z, k⟩ := hR.other (Lib.iterAt_other _ _ _ _ _ (by omega)) (Lib.iterAt_other _ _ _ _ _ (by omega)) hbw2
      obtain ⟨W2, hW2⟩ : ∃ W2, W2 = wr.iterAt (w.heap.size + 2) s (pos + wd) := ⟨_, rfl⟩
      rw [← hW2] at hnx hit2 hbw2 hR2
      clear hW2 hR hbw2
      rcases k with _ | _ | _ | k
      · obtain ⟨n0, n1, n2, f0, f1, f2⟩ := box_cells hR2.nums
        have hbx := hR2.bx
        simp only at n0 n1 n2 hbx
        rcases hasc with ⟨hb, hrb⟩ | ⟨hb, hr⟩
        · obtain ⟨hr1, rfl⟩ : r = b ∧ wd = 1 := by simpa using hrb
          rw [hr1] at hnx
          clear hr1 hrb
          have cD := fun wx => isDigit_any (b : Int) wx
          by_cases hd : 48 ≤ b ∧ b ≤ 57
          · by_cases hm : x ≤ 1125899906842624
            · have hst : stp ⟨x, y, z, 0⟩ (b : Int) = some ⟨10 * x + ((b : Int) - 48), y, z, 0⟩ := by rw [stp0, if_pos (by omega)]
              have HRN := Lib.hid (hrun.trans hst)
              have hdg : digB (b : Int) = true := by simp [digB]; omega
              rw [hdg] at cD
              have l48 : (48 : Int) ≤ (b : Int) := by omega
              have l57 : (b : Int) ≤ 57 := by omega
              have HN := Lib.hid (heap_setCell_same W2 (w.heap.size + 1) 0 _ _ (.int .i64 (10 * x + ((b : Int) - 48))) hR2.nums)
              have HO0 := Lib.hid (heap_setCell_other W2 ⟨w.heap.size + 1, 0, none⟩ w.heap.size (.int .i64 (10 * x + ((b : Int) - 48))) (by simp))
              have HO2 := Lib.hid (heap_setCell_other W2 ⟨w.heap.size + 1, 0, none⟩ (w.heap.size + 2) (.int .i64 (10 * x + ((b : Int) - 48))) (by simp))
              have HB3 := Lib.hid (hR2.below.setCell (p := ⟨w.heap.size + 1, 0, none⟩) (by simp) (.int .i64 (10 * x + ((b : Int) - 48))))
              have HR2 := Lib.hid hR2
              clear hst hdg hrun hfail hd hR2
              go_wp2_with (go_at_call 33; (with_reducible refine (cD _).mono ?_); rintro e W3 ⟨rfl, rfl⟩)
              go_roundw
              case rel => exact ⟨pos + 1, ⟨10 * x + ((b : Int) - 48), y, z, 0⟩, by go_num, by dsimp only; decide, by omega, HO2.out.trans hit2, ⟨HO0.out.trans HR2.out.res, HN.out, HB3.out, by simp only; omega, HR2.out.by_, HR2.out.bz⟩, HRN.out⟩
              case measure =>
                have e := HO2.out.trans hit2
                simp only [World.iterPos, e, hit]
                omega
            · have hst : stp ⟨x, y, z, 0⟩ (b : Int) = none := by rw [stp0, if_neg (by omega), if_neg (by omega)]
              have HF := Lib.hid (hfail hst)
              have hdg : digB (b : Int) = true := by simp [digB]; omega
              rw [hdg] at cD
              have e1 : ((b : Int) == 46) = false := beq_false_of_ne (by omega)
              clear hst hdg hrun hfail hd
              obtain ⟨t0, t1, t2, l0, l1, l2⟩ := box_cells hR2.res
              have GE := set3 hR2.res (.int .i64 0) (.int .i64 0) (.int .i64 0)
              obtain ⟨t0, t1, t2, _⟩ := box_cells GE
              have HB3 := Lib.hid (below3 hR2.below (Nat.le_refl _) (.int .i64 0) (.int .i64 0) (.int .i64 0))
              clear GE
              go_wp2_with (go_at_call 33; (with_reducible refine (cD _).mono ?_); rintro e W3 ⟨rfl, rfl⟩)
              refine bodyPost_ret (v := .tuple #[.agg #[.int .i64 0, .int .i64 0, .int .i64 0], .bool false]) (by simp [results, Tryd.results19, go_sem, t0, t1, t2]) rfl ?_
              exact ⟨by rw [HF.out]; rfl, HB3.out⟩
          · by_cases hsg : b = 46
            · have hst : stp ⟨x, y, z, 0⟩ (b : Int) = some ⟨x, y, z, 1⟩ := by rw [stp0, if_neg (by omega), if_pos (by omega)]
              have HRN := Lib.hid (hrun.trans hst)
              have hdg : digB 46 = false := by decide
              clear cD
              have cD := fun wx => isDigit_any 46 wx
              rw [hdg] at cD
              have e2 : (b : Int) = 46 := by omega
              rw [e2] at hnx
              have HR2 := Lib.hid hR2
              clear hst hdg hrun hfail hd hR2 e2 hsg
              go_wp2_with (go_at_call 33; (with_reducible refine (cD _).mono ?_); rintro e W3 ⟨rfl, rfl⟩)
              go_roundw
              case rel => exact ⟨pos + 1, ⟨x, y, z, 1⟩, by go_num, by dsimp only; decide, by omega, hit2, ⟨HR2.out.res, HR2.out.nums, HR2.out.below, HR2.out.bx, HR2.out.by_, HR2.out.bz⟩, HRN.out⟩
              case measure =>
                simp only [World.iterPos, hit2, hit]
                omega
            · have hst : stp ⟨x, y, z, 0⟩ (b : Int) = none := by rw [stp0, if_neg (by omega), if_neg (by omega)]
              have HF := Lib.hid (hfail hst)
              have hdg : digB (b : Int) = false := by simp [digB]; omega
              rw [hdg] at cD
              have e1 : ((b : Int) == 46) = false := beq_false_of_ne (by omega)
              clear hst hdg hrun hfail hd
              obtain ⟨t0, t1, t2, l0, l1, l2⟩ := box_cells hR2.res
              have GE := set3 hR2.res (.int .i64 0) (.int .i64 0) (.int .i64 0)
              obtain ⟨t0, t1, t2, _⟩ := box_cells GE
              have HB3 := Lib.hid (below3 hR2.below (Nat.le_refl _) (.int .i64 0) (.int .i64 0) (.int .i64 0))
              clear GE
              go_wp2_with (go_at_call 33; (with_reducible refine (cD _).mono ?_); rintro e W3 ⟨rfl, rfl⟩)
              refine bodyPost_ret (v := .tuple #[.agg #[.int .i64 0, .int .i64 0, .int .i64 0], .bool false]) (by simp [results, Tryd.results19, go_sem, t0, t1, t2]) rfl ?_
              exact ⟨by rw [HF.out]; rfl, HB3.out⟩
        · have hst : stp ⟨x, y, z, 0⟩ (b : Int) = none := by rw [stp0, if_neg (by omega), if_neg (by omega)]
          have HF := Lib.hid (hfail hst)
          have hdg : digB (r : Int) = false := by simp [digB]; omega
          have cD := fun wx => isDigit_any (r : Int) wx
          rw [hdg] at cD
          have e1 : ((r : Int) == 46) = false := beq_false_of_ne (by omega)
          clear hst hdg hrun hfail
          obtain ⟨t0, t1, t2, l0, l1, l2⟩ := box_cells hR2.res
          have GE := set3 hR2.res (.int .i64 0) (.int .i64 0) (.int .i64 0)
          obtain ⟨t0, t1, t2, _⟩ := box_cells GE
          have HB3 := Lib.hid (below3 hR2.below (Nat.le_refl _) (.int .i64 0) (.int .i64 0) (.int .i64 0))
          clear GE
          go_wp2_with (go_at_call 33; (with_reducible refine (cD _).mono ?_); rintro e W3 ⟨rfl, rfl⟩)
          refine bodyPost_ret (v := .tuple #[.agg #[.int .i64 0, .int .i64 0, .int .i64 0], .bool false]) (by simp [results, Tryd.results19, go_sem, t0, t1, t2]) rfl ?_
          exact ⟨by rw [HF.out]; rfl, HB3.out⟩
      · obtain ⟨n0, n1, n2, f0, f1, f2⟩ := box_cells hR2.nums
        have hbx := hR2.by_
        simp only at n0 n1 n2 hbx
        rcases hasc with ⟨hb, hrb⟩ | ⟨hb, hr⟩
        · obtain ⟨hr1, rfl⟩ : r = b ∧ wd = 1 := by simpa using hrb
          rw [hr1] at hnx
          clear hr1 hrb
          have cD := fun wx => isDigit_any (b : Int) wx
          by_cases hd : 48 ≤ b ∧ b ≤ 57
          · by_cases hm : y ≤ 1125899906842624
            · have hst : stp ⟨x, y, z, 1⟩ (b : Int) = some ⟨x, 10 * y + ((b : Int) - 48), z, 1⟩ := by rw [stp1, if_pos (by omega)]
              have HRN := Lib.hid (hrun.trans hst)
              have hdg : digB (b : Int) = true := by simp [digB]; omega
              rw [hdg] at cD
              have l48 : (48 : Int) ≤ (b : Int) := by omega
              have l57 : (b : Int) ≤ 57 := by omega
              have HN := Lib.hid (heap_setCell_same W2 (w.heap.size + 1) 1 _ _ (.int .i64 (10 * y + ((b : Int) - 48))) hR2.nums)
              have HO0 := Lib.hid (heap_setCell_other W2 ⟨w.heap.size + 1, 1, none⟩ w.heap.size (.int .i64 (10 * y + ((b : Int) - 48))) (by simp))
              have HO2 := Lib.hid (heap_setCell_other W2 ⟨w.heap.size + 1, 1, none⟩ (w.heap.size + 2) (.int .i64 (10 * y + ((b : Int) - 48))) (by simp))
              have HB3 := Lib.hid (hR2.below.setCell (p := ⟨w.heap.size + 1, 1, none⟩) (by simp) (.int .i64 (10 * y + ((b : Int) - 48))))
              have HR2 := Lib.hid hR2
              clear hst hdg hrun hfail hd hR2
              go_wp2_with (go_at_call 33; (with_reducible refine (cD _).mono ?_); rintro e W3 ⟨rfl, rfl⟩)
              go_roundw
              case rel => exact ⟨pos + 1, ⟨x, 10 * y + ((b : Int) - 48), z, 1⟩, by go_num, by dsimp only; decide, by omega, HO2.out.trans hit2, ⟨HO0.out.trans HR2.out.res, HN.out, HB3.out, HR2.out.bx, by simp only; omega, HR2.out.bz⟩, HRN.out⟩
              case measure =>
                have e := HO2.out.trans hit2
                simp only [World.iterPos, e, hit]
                omega
            · have hst : stp ⟨x, y, z, 1⟩ (b : Int) = none := by rw [stp1, if_neg (by omega), if_neg (by omega)]
              have HF := Lib.hid (hfail hst)
              have hdg : digB (b : Int) = true := by simp [digB]; omega
              rw [hdg] at cD
              have e1 : ((b : Int) == 64) = false := beq_false_of_ne (by omega)
              clear hst hdg hrun hfail hd
              obtain ⟨t0, t1, t2, l0, l1, l2⟩ := box_cells hR2.res
              have GE := set3 hR2.res (.int .i64 0) (.int .i64 0) (.int .i64 0)
              obtain ⟨t0, t1, t2, _⟩ := box_cells GE
              have HB3 := Lib.hid (below3 hR2.below (Nat.le_refl _) (.int .i64 0) (.int .i64 0) (.int .i64 0))
              clear GE
              go_wp2_with (go_at_call 33; (with_reducible refine (cD _).mono ?_); rintro e W3 ⟨rfl, rfl⟩)
              refine bodyPost_ret (v := .tuple #[.agg #[.int .i64 0, .int .i64 0, .int .i64 0], .bool false]) (by simp [results, Tryd.results19, go_sem, t0, t1, t2]) rfl ?_
              exact ⟨by rw [HF.out]; rfl, HB3.out⟩
          · by_cases hsg : b = 64
            · have hst : stp ⟨x, y, z, 1⟩ (b : Int) = some ⟨x, y, z, 2⟩ := by rw [stp1, if_neg (by omega), if_pos (by omega)]
              have HRN := Lib.hid (hrun.trans hst)
              have hdg : digB 64 = false := by decide
              clear cD
              have cD := fun wx => isDigit_any 64 wx
              rw [hdg] at cD
              have e2 : (b : Int) = 64 := by omega
              rw [e2] at hnx
              have HR2 := Lib.hid hR2
              clear hst hdg hrun hfail hd hR2 e2 hsg
              go_wp2_with (go_at_call 33; (with_reducible refine (cD _).mono ?_); rintro e W3 ⟨rfl, rfl⟩)
              go_roundw
              case rel => exact ⟨pos + 1, ⟨x, y, z, 2⟩, by go_num, by dsimp only; decide, by omega, hit2, ⟨HR2.out.res, HR2.out.nums, HR2.out.below, HR2.out.bx, HR2.out.by_, HR2.out.bz⟩, HRN.out⟩
              case measure =>
                simp only [World.iterPos, hit2, hit]
                omega
            · have hst : stp ⟨x, y, z, 1⟩ (b : Int) = none := by rw [stp1, if_neg (by omega), if_neg (by omega)]
              have HF := Lib.hid (hfail hst)
              have hdg : digB (b : Int) = false := by simp [digB]; omega
              rw [hdg] at cD
              have e1 : ((b : Int) == 64) = false := beq_false_of_ne (by omega)
              clear hst hdg hrun hfail hd
              obtain ⟨t0, t1, t2, l0, l1, l2⟩ := box_cells hR2.res
              have GE := set3 hR2.res (.int .i64 0) (.int .i64 0) (.int .i64 0)
              obtain ⟨t0, t1, t2, _⟩ := box_cells GE
              have HB3 := Lib.hid (below3 hR2.below (Nat.le_refl _) (.int .i64 0) (.int .i64 0) (.int .i64 0))
              clear GE
              go_wp2_with (go_at_call 33; (with_reducible refine (cD _).mono ?_); rintro e W3 ⟨rfl, rfl⟩)
              refine bodyPost_ret (v := .tuple #[.agg #[.int .i64 0, .int .i64 0, .int .i64 0], .bool false]) (by simp [results, Tryd.results19, go_sem, t0, t1, t2]) rfl ?_
              exact ⟨by rw [HF.out]; rfl, HB3.out⟩
        · have hst : stp ⟨x, y, z, 1⟩ (b : Int) = none := by rw [stp1, if_neg (by omega), if_neg (by omega)]
          have HF := Lib.hid (hfail hst)
          have hdg : digB (r : Int) = false := by simp [digB]; omega
          have cD := fun wx => isDigit_any (r : Int) wx
          rw [hdg] at cD
          have e1 : ((r : Int) == 64) = false := beq_false_of_ne (by omega)
          clear hst hdg hrun hfail
          obtain ⟨t0, t1, t2, l0, l1, l2⟩ := box_cells hR2.res
          have GE := set3 hR2.res (.int .i64 0) (.int .i64 0) (.int .i64 0)
          obtain ⟨t0, t1, t2, _⟩ := box_cells GE
          have HB3 := Lib.hid (below3 hR2.below (Nat.le_refl _) (.int .i64 0) (.int .i64 0) (.int .i64 0))
          clear GE
          go_wp2_with (go_at_call 33; (with_reducible refine (cD _).mono ?_); rintro e W3 ⟨rfl, rfl⟩)
          refine bodyPost_ret (v := .tuple #[.agg #[.int .i64 0, .int .i64 0, .int .i64 0], .bool false]) (by simp [results, Tryd.results19, go_sem, t0, t1, t2]) rfl ?_
          exact ⟨by rw [HF.out]; rfl, HB3.out⟩
      · obtain ⟨n0, n1, n2, f0, f1, f2⟩ := box_cells hR2.nums
        have hbx := hR2.bz
        simp only at n0 n1 n2 hbx
        rcases hasc with ⟨hb, hrb⟩ | ⟨hb, hr⟩
        · obtain ⟨hr1, rfl⟩ : r = b ∧ wd = 1 := by simpa using hrb
          rw [hr1] at hnx
          clear hr1 hrb
          have cD := fun wx => isDigit_any (b : Int) wx
          by_cases hd : 48 ≤ b ∧ b ≤ 57
          · by_cases hm : z ≤ 1125899906842624
            · have hst : stp ⟨x, y, z, 2⟩ (b : Int) = some ⟨x, y, 10 * z + ((b : Int) - 48), 2⟩ := by rw [stp2, if_pos (by omega)]
              have HRN := Lib.hid (hrun.trans hst)
              have hdg : digB (b : Int) = true := by simp [digB]; omega
              rw [hdg] at cD
              have l48 : (48 : Int) ≤ (b : Int) := by omega
              have l57 : (b : Int) ≤ 57 := by omega
              have HN := Lib.hid (heap_setCell_same W2 (w.heap.size + 1) 2 _ _ (.int .i64 (10 * z + ((b : Int) - 48))) hR2.nums)
              have HO0 := Lib.hid (heap_setCell_other W2 ⟨w.heap.size + 1, 2, none⟩ w.heap.size (.int .i64 (10 * z + ((b : Int) - 48))) (by simp))
              have HO2 := Lib.hid (heap_setCell_other W2 ⟨w.heap.size + 1, 2, none⟩ (w.heap.size + 2) (.int .i64 (10 * z + ((b : Int) - 48))) (by simp))
              have HB3 := Lib.hid (hR2.below.setCell (p := ⟨w.heap.size + 1, 2, none⟩) (by simp) (.int .i64 (10 * z + ((b : Int) - 48))))
              have HR2 := Lib.hid hR2
              clear hst hdg hrun hfail hd hR2
              go_wp2_with (go_at_call 33; (with_reducible refine (cD _).mono ?_); rintro e W3 ⟨rfl, rfl⟩)
              go_roundw
              case rel => exact ⟨pos + 1, ⟨x, y, 10 * z + ((b : Int) - 48), 2⟩, by go_num, by dsimp only; decide, by omega, HO2.out.trans hit2, ⟨HO0.out.trans HR2.out.res, HN.out, HB3.out, HR2.out.bx, HR2.out.by_, by simp only; omega⟩, HRN.out⟩
              case measure =>
                have e := HO2.out.trans hit2
                simp only [World.iterPos, e, hit]
                omega
            · have hst : stp ⟨x, y, z, 2⟩ (b : Int) = none := by rw [stp2, if_neg (by omega)]
              have HF := Lib.hid (hfail hst)
              have hdg : digB (b : Int) = true := by simp [digB]; omega
              rw [hdg] at cD
              clear hst hdg hrun hfail hd
              obtain ⟨t0, t1, t2, l0, l1, l2⟩ := box_cells hR2.res
              have GE := set3 hR2.res (.int .i64 0) (.int .i64 0) (.int .i64 0)
              obtain ⟨t0, t1, t2, _⟩ := box_cells GE
              have HB3 := Lib.hid (below3 hR2.below (Nat.le_refl _) (.int .i64 0) (.int .i64 0) (.int .i64 0))
              clear GE
              go_wp2_with (go_at_call 33; (with_reducible refine (cD _).mono ?_); rintro e W3 ⟨rfl, rfl⟩)
              refine bodyPost_ret (v := .tuple #[.agg #[.int .i64 0, .int .i64 0, .int .i64 0], .bool false]) (by simp [results, Tryd.results19, go_sem, t0, t1, t2]) rfl ?_
              exact ⟨by rw [HF.out]; rfl, HB3.out⟩
          · have hst : stp ⟨x, y, z, 2⟩ (b : Int) = none := by rw [stp2, if_neg (by omega)]
            have HF := Lib.hid (hfail hst)
            have hdg : digB (b : Int) = false := by simp [digB]; omega
            rw [hdg] at cD
            clear hst hdg hrun hfail hd
            obtain ⟨t0, t1, t2, l0, l1, l2⟩ := box_cells hR2.res
            have GE := set3 hR2.res (.int .i64 0) (.int .i64 0) (.int .i64 0)
            obtain ⟨t0, t1, t2, _⟩ := box_cells GE
            have HB3 := Lib.hid (below3 hR2.below (Nat.le_refl _) (.int .i64 0) (.int .i64 0) (.int .i64 0))
            clear GE
            go_wp2_with (go_at_call 33; (with_reducible refine (cD _).mono ?_); rintro e W3 ⟨rfl, rfl⟩)
            refine bodyPost_ret (v := .tuple #[.agg #[.int .i64 0, .int .i64 0, .int .i64 0], .bool false]) (by simp [results, Tryd.results19, go_sem, t0, t1, t2]) rfl ?_
            exact ⟨by rw [HF.out]; rfl, HB3.out⟩
        · have hst : stp ⟨x, y, z, 2⟩ (b : Int) = none := by rw [stp2, if_neg (by omega)]
          have HF := Lib.hid (hfail hst)
          have hdg : digB (r : Int) = false := by simp [digB]; omega
          have cD := fun wx => isDigit_any (r : Int) wx
          rw [hdg] at cD
          clear hst hdg hrun hfail
          obtain ⟨t0, t1, t2, l0, l1, l2⟩ := box_cells hR2.res
          have GE := set3 hR2.res (.int .i64 0) (.int .i64 0) (.int .i64 0)
          obtain ⟨t0, t1, t2, _⟩ := box_cells GE
          have HB3 := Lib.hid (below3 hR2.below (Nat.le_refl _) (.int .i64 0) (.int .i64 0) (.int .i64 0))
          clear GE
          go_wp2_with (go_at_call 33; (with_reducible refine (cD _).mono ?_); rintro e W3 ⟨rfl, rfl⟩)
          refine bodyPost_ret (v := .tuple #[.agg #[.int .i64 0, .int .i64 0, .int .i64 0], .bool false]) (by simp [results, Tryd.results19, go_sem, t0, t1, t2]) rfl ?_
          exact ⟨by rw [HF.out]; rfl, HB3.out⟩
      · omega
    · have hnx : ∀ ty, (Instr.next (.pointer (some ⟨w.heap.size + 2, 0, none⟩)) true ty).run Tryd.prog wr = _ := fun ty => Lib.run_next_end_at wr (w.heap.size + 2) s pos ty hit hp
      have hrun : run (some start0) s.data.toList = some ⟨x, y, z, k⟩ := by rw [← HS.out, List.take_of_length_le (by have := HSL.out; omega)]
      have hpar : parseL s.data.toList = if soundB ⟨x, y, z⟩ = true ∧ textL ⟨x, y, z⟩ = s.data.toList then some ⟨x, y, z⟩ else none := by unfold parseL; rw [hrun]; rfl
      have HP := Lib.hid hpar
      have hI : SmI ⟨x, y, z⟩ := by
        have h1 := hR.bx
        have h2 := hR.by_
        have h3 := hR.bz
        simp only at h1 h2 h3
        refine ⟨⟨?_, ?_⟩, ⟨?_, ?_⟩, ?_, ?_⟩ <;> simp only <;> omega
      have cS := fun wx => sound_any ⟨x, y, z⟩ wx
      have HI := Lib.hid hI
      have HR := Lib.hid hR
      obtain ⟨n0, n1, n2, _⟩ := box_cells hR.nums
      simp only at n0 n1 n2 cS
      unfold TelPost at cS
      clear hrun hpar hI hR HS
      have cM := fun wx => made_any x y z wx
      unfold TelPost at cM
      go_wp2_with (go_at_call 34; (with_reducible refine (cM _).mono ?_))
      rintro e W1 ⟨rfl, b1⟩
      have HW := Lib.hid (HR.out.step b1)
      clear b1 cM n0 n1 n2

      have hA := HW.out.step ((Below.refl _ W1).alloc (Nat.le_refl _) (.cells #[.int .i64 x, .int .i64 y, .int .i64 z] 23))
      have gX := heap_alloc_new W1 (.cells #[.int .i64 x, .int .i64 y, .int .i64 z] 23)
      have HA := Lib.hid hA
      have HGX := Lib.hid gX
      have hz1 := hA.below.size
      clear hA gX
      cases hsb : soundB ⟨x, y, z⟩ with
      | false =>
        rw [hsb] at cS
        have HF : Hid (parseL s.data.toList = none) := by show _ = _; rw [HP.out, if_neg (by rw [hsb]; simp)]
        clear hsb
        go_wp2_with (go_at_call 17; (with_reducible refine (cS _).mono ?_))
        rintro e W2 ⟨rfl, b2⟩
        have hB := HA.out.step b2
        obtain ⟨t0, t1, t2, l0, l1, l2⟩ := box_cells hB.res
        have GE := set3 hB.res (.int .i64 0) (.int .i64 0) (.int .i64 0)
        obtain ⟨t0, t1, t2, _⟩ := box_cells GE
        have HB3 := Lib.hid (below3 hB.below (Nat.le_refl _) (.int .i64 0) (.int .i64 0) (.int .i64 0))
        clear GE hB b2
        go_wp2
        refine bodyPost_ret (v := .tuple #[.agg #[.int .i64 0, .int .i64 0, .int .i64 0], .bool false]) (by simp [results, Tryd.results19, go_sem, t0, t1, t2]) rfl ?_
        exact ⟨by rw [HF.out]; rfl, HB3.out⟩
      | true =>
        rw [hsb] at cS
        go_wp2_with (go_at_call 17; (with_reducible refine (cS _).mono ?_))
        rintro e W2 ⟨rfl, b2⟩
        have hB := HA.out.step b2
        have gB := box_below HGX.out b2 (by simp)
        have HB := Lib.hid hB
        have cT := fun (wx : World) (hx : Below W2.heap.size W2 wx) => text_any ⟨x, y, z⟩ HI.out wx (HT.out.later (HB.out.below.trans (hx.mono HB.out.below.size)))
        obtain ⟨q0, q1, q2, _⟩ := box_cells gB
        have HGB := Lib.hid gB
        obtain ⟨T, hT⟩ : ∃ T, T = (⟨(textL ⟨x, y, z⟩).toArray⟩ : ByteArray) := ⟨_, rfl⟩
        rw [← hT] at cT
        simp only at cT
        unfold TelPost at cT
        clear gB hB b2 cS
        by_cases heq : T = s
        · have HF : Hid (parseL s.data.toList = some ⟨x, y, z⟩) := by
            show _ = _
            rw [HP.out, if_pos ⟨hsb, by rw [← heq, hT]⟩]
          have e1 := txt_eq heq
          clear hsb hT heq
          go_wp2_with (go_at_call 21; (with_reducible refine (cT _ (by first | exact Below.refl _ _ | exact (Below.refl _ _).drew)).mono ?_))
          rintro e W3 ⟨rfl, b3⟩
          have hC := HB.out.step b3
          have gC := box_below HGB.out b3 (lt_of_block HGB.out)
          obtain ⟨q0, q1, q2, _⟩ := box_cells gC
          obtain ⟨t0, t1, t2, l0, l1, l2⟩ := box_cells hC.res
          have GE := set3 hC.res (.int .i64 x) (.int .i64 y) (.int .i64 z)
          obtain ⟨t0, t1, t2, _⟩ := box_cells GE
          have HB3 := Lib.hid (below3 hC.below (Nat.le_refl _) (.int .i64 x) (.int .i64 y) (.int .i64 z))
          clear GE hC b3 gC
          go_wp2
          refine bodyPost_ret (v := .tuple #[.agg #[.int .i64 x, .int .i64 y, .int .i64 z], .bool true]) (by simp [results, Tryd.results19, go_sem, t0, t1, t2]) rfl ?_
          exact ⟨by rw [HF.out]; rfl, HB3.out⟩
        · have HF : Hid (parseL s.data.toList = none) := by
            show _ = _
            rw [HP.out, if_neg (fun h => heq (by rw [hT, h.2]))]
          have e1 := txt_ne heq
          clear hsb hT heq
          go_wp2_with (go_at_call 21; (with_reducible refine (cT _ (by first | exact Below.refl _ _ | exact (Below.refl _ _).drew)).mono ?_))
          rintro e W3 ⟨rfl, b3⟩
          have hC := HB.out.step b3
          obtain ⟨t0, t1, t2, l0, l1, l2⟩ := box_cells hC.res
          have GE := set3 hC.res (.int .i64 0) (.int .i64 0) (.int .i64 0)
          obtain ⟨t0, t1, t2, _⟩ := box_cells GE
          have HB3 := Lib.hid (below3 hC.below (Nat.le_refl _) (.int .i64 0) (.int .i64 0) (.int .i64 0))
          clear GE hC b3
          go_wp2
          refine bodyPost_ret (v := .tuple #[.agg #[.int .i64 0, .int .i64 0, .int .i64 0], .bool false]) (by simp [results, Tryd.results19, go_sem, t0, t1, t2]) rfl ?_
          exact ⟨by rw [HF.out]; rfl, HB3.out⟩

end Go.Proofs.YtijnmhiiojkcgaaDoor
