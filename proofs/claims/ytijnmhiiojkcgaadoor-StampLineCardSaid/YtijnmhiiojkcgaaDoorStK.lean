/-
  The reference's Parse.
-/
import Derived.Test.YtijnmhiiojkcgaaDoorStI
import Derived.Test.YtijnmhiiojkcgaaDoorStE
import Derived.Lib.OthersKept
set_option linter.unusedVariables false
namespace Go.Proofs.YtijnmhiiojkcgaaDoor
open Go.RowKit

set_option maxHeartbeats 16000000 in
set_option maxRecDepth 100000 in
theorem rParse_any (s : ByteArray) (hs : s.size ≤ 1000000) (w : World) :
    Calls Tryd.prog 20 #[.string s] w (ParPost (parseL s.data.toList) w) := by
  have g0 := box_alloc (heap_alloc_new w (.cells #[.int .i64 0, .int .i64 0, .int .i64 0] 23)) (.cells #[.int .i64 0, .int .i64 0, .int .i64 0] 55)
  have g1 := heap_alloc_new (w.alloc (.cells #[.int .i64 0, .int .i64 0, .int .i64 0] 23)) (.cells #[.int .i64 0, .int .i64 0, .int .i64 0] 55)
  rw [World.size_alloc] at g1
  have HR0 := Lib.hid (show ParAt w _ start0 from ⟨g0, g1, ((Below.refl _ w).alloc (Nat.le_refl _) _).alloc (by simp) _, by decide, by decide, by decide⟩)
  have HSL : Hid (s.size = s.data.toList.length) := by show _ = _; obtain ⟨⟨l⟩⟩ := s; rfl
  clear g0 g1
  go_enter Tryd.func20, Tryd.ntmps20
  go_wp2
  go_loopw [5, 6] (fun vk vi wr => ∃ (pos : Nat) (st : PS), vk = .int .i64 st.k ∧ vi = .int .i64 pos ∧ st.k ≤ 2 ∧ pos ≤ s.size ∧ ParAt w wr st ∧ Hid (run (some start0) (s.data.toList.take pos) = some st)) (fun _ vi _ => s.size - (intOf vi).toNat)
  case atStart => exact ⟨0, start0, rfl, rfl, by decide, Nat.zero_le _, HR0.out, rfl⟩
  case round =>
    obtain ⟨pos, ⟨x, y, z, k⟩, rfl, rfl, hk, hps, hR, HS⟩ := hrel
    clear HR0
    simp only at hk
    by_cases hp : pos < s.size
    · have hpl : pos < s.data.toList.length := by have := HSL.out; omega
      have hrun := run_take _ pos _ hpl HS.out
      have hfail := run_fail _ pos _ hpl HS.out
      obtain ⟨b, hbb⟩ : ∃ b, b = (s.data.toList[pos]'hpl).toNat := ⟨_, rfl⟩
      have hix : (((s[pos]'hp).toNat : Nat) : Int) = (b : Int) := by rw [hbb]; simp; rfl
      rw [← hbb] at hrun hfail
      have hb256 : b < 256 := by rw [hbb]; exact UInt8.toNat_lt _
      clear hbb hpl HS
      rcases k with _ | _ | _ | k
      · obtain ⟨n0, n1, n2, f0, f1, f2⟩ := box_cells hR.nums
        have hbx := hR.bx
        simp only at n0 n1 n2 hbx
        by_cases h46 : b = 46
        · have hc : (b : Int) = 46 := by omega
          have hst : stp ⟨x, y, z, 0⟩ (b : Int) = some ⟨x, y, z, 1⟩ := by rw [stp0, if_neg (by omega), if_pos (by omega)]
          have HRN := Lib.hid (hrun.trans hst)
          have HR2 := Lib.hid hR
          clear hst hrun hfail hR
          rw [hc] at hix
          go_wp2
          go_roundw
          case rel => exact ⟨pos + 1, ⟨x, y, z, 1⟩, by go_num, by go_num, by dsimp only; decide, by omega, ⟨HR2.out.res, HR2.out.nums, HR2.out.below, HR2.out.bx, HR2.out.by_, HR2.out.bz⟩, HRN.out⟩
          case measure => simp [intOf]; omega
        · by_cases h64 : b = 64
          · have hc : (b : Int) = 64 := by omega
            have hst : stp ⟨x, y, z, 0⟩ (b : Int) = none := by rw [stp0, if_neg (by omega), if_neg (by omega)]
            have HF := Lib.hid (hfail hst)
            clear hst hrun hfail
            rw [hc] at hix
            obtain ⟨t0, t1, t2, l0, l1, l2⟩ := box_cells hR.res
            have GE := set3 hR.res (.int .i64 0) (.int .i64 0) (.int .i64 0)
            obtain ⟨t0, t1, t2, _⟩ := box_cells GE
            have HB3 := Lib.hid (below3 hR.below (Nat.le_refl _) (.int .i64 0) (.int .i64 0) (.int .i64 0))
            clear GE
            go_wp2
            refine bodyPost_ret (v := .tuple #[.agg #[.int .i64 0, .int .i64 0, .int .i64 0], .bool false]) (by simp [results, Tryd.results20, go_sem, t0, t1, t2]) rfl ?_
            exact ⟨by rw [HF.out]; rfl, HB3.out⟩
          · have e46 : ((b : Int) == 46) = false := beq_false_of_ne (by omega)
            have e64 : ((b : Int) == 64) = false := beq_false_of_ne (by omega)
            by_cases h48 : (48 : Int) ≤ (b : Int)
            · by_cases h57 : (b : Int) ≤ 57
              · by_cases hm : x ≤ 1125899906842624
                · have hst : stp ⟨x, y, z, 0⟩ (b : Int) = some ⟨10 * x + ((b : Int) - 48), y, z, 0⟩ := by rw [stp0, if_pos (by omega)]
                  have HRN := Lib.hid (hrun.trans hst)
                  have HN := Lib.hid (heap_setCell_same wr (w.heap.size + 1) 0 _ _ (.int .i64 (10 * x + ((b : Int) - 48))) hR.nums)
                  have HO0 := Lib.hid (heap_setCell_other wr ⟨w.heap.size + 1, 0, none⟩ w.heap.size (.int .i64 (10 * x + ((b : Int) - 48))) (by simp))
                  have HB3 := Lib.hid (hR.below.setCell (p := ⟨w.heap.size + 1, 0, none⟩) (by simp) (.int .i64 (10 * x + ((b : Int) - 48))))
                  have HR2 := Lib.hid hR
                  clear hst hrun hfail hR
                  go_wp2
                  go_roundw
                  case rel => exact ⟨pos + 1, ⟨10 * x + ((b : Int) - 48), y, z, 0⟩, by go_num, by go_num, by dsimp only; decide, by omega, ⟨HO0.out.trans HR2.out.res, HN.out, HB3.out, by simp only; omega, HR2.out.by_, HR2.out.bz⟩, HRN.out⟩
                  case measure => simp [intOf]; omega
                · have hst : stp ⟨x, y, z, 0⟩ (b : Int) = none := by rw [stp0, if_neg (by omega), if_neg (by omega)]
                  have HF := Lib.hid (hfail hst)
                  clear hst hrun hfail
                  obtain ⟨t0, t1, t2, l0, l1, l2⟩ := box_cells hR.res
                  have GE := set3 hR.res (.int .i64 0) (.int .i64 0) (.int .i64 0)
                  obtain ⟨t0, t1, t2, _⟩ := box_cells GE
                  have HB3 := Lib.hid (below3 hR.below (Nat.le_refl _) (.int .i64 0) (.int .i64 0) (.int .i64 0))
                  clear GE
                  go_wp2
                  refine bodyPost_ret (v := .tuple #[.agg #[.int .i64 0, .int .i64 0, .int .i64 0], .bool false]) (by simp [results, Tryd.results20, go_sem, t0, t1, t2]) rfl ?_
                  exact ⟨by rw [HF.out]; rfl, HB3.out⟩
              · have hst : stp ⟨x, y, z, 0⟩ (b : Int) = none := by rw [stp0, if_neg (by omega), if_neg (by omega)]
                have HF := Lib.hid (hfail hst)
                clear hst hrun hfail
                obtain ⟨t0, t1, t2, l0, l1, l2⟩ := box_cells hR.res
                have GE := set3 hR.res (.int .i64 0) (.int .i64 0) (.int .i64 0)
                obtain ⟨t0, t1, t2, _⟩ := box_cells GE
                have HB3 := Lib.hid (below3 hR.below (Nat.le_refl _) (.int .i64 0) (.int .i64 0) (.int .i64 0))
                clear GE
                go_wp2
                refine bodyPost_ret (v := .tuple #[.agg #[.int .i64 0, .int .i64 0, .int .i64 0], .bool false]) (by simp [results, Tryd.results20, go_sem, t0, t1, t2]) rfl ?_
                exact ⟨by rw [HF.out]; rfl, HB3.out⟩
            · have hst : stp ⟨x, y, z, 0⟩ (b : Int) = none := by rw [stp0, if_neg (by omega), if_neg (by omega)]
              have HF := Lib.hid (hfail hst)
              clear hst hrun hfail
              obtain ⟨t0, t1, t2, l0, l1, l2⟩ := box_cells hR.res
              have GE := set3 hR.res (.int .i64 0) (.int .i64 0) (.int .i64 0)
              obtain ⟨t0, t1, t2, _⟩ := box_cells GE
              have HB3 := Lib.hid (below3 hR.below (Nat.le_refl _) (.int .i64 0) (.int .i64 0) (.int .i64 0))
              clear GE
              go_wp2
              refine bodyPost_ret (v := .tuple #[.agg #[.int .i64 0, .int .i64 0, .int .i64 0], .bool false]) (by simp [results, Tryd.results20, go_sem, t0, t1, t2]) rfl ?_
              exact ⟨by rw [HF.out]; rfl, HB3.out⟩
      · obtain ⟨n0, n1, n2, f0, f1, f2⟩ := box_cells hR.nums
        have hbx := hR.by_
        simp only at n0 n1 n2 hbx
        by_cases h46 : b = 46
        · have hc : (b : Int) = 46 := by omega
          have hst : stp ⟨x, y, z, 1⟩ (b : Int) = none := by rw [stp1, if_neg (by omega), if_neg (by omega)]
          have HF := Lib.hid (hfail hst)
          clear hst hrun hfail
          rw [hc] at hix
          obtain ⟨t0, t1, t2, l0, l1, l2⟩ := box_cells hR.res
          have GE := set3 hR.res (.int .i64 0) (.int .i64 0) (.int .i64 0)
          obtain ⟨t0, t1, t2, _⟩ := box_cells GE
          have HB3 := Lib.hid (below3 hR.below (Nat.le_refl _) (.int .i64 0) (.int .i64 0) (.int .i64 0))
          clear GE
          go_wp2
          refine bodyPost_ret (v := .tuple #[.agg #[.int .i64 0, .int .i64 0, .int .i64 0], .bool false]) (by simp [results, Tryd.results20, go_sem, t0, t1, t2]) rfl ?_
          exact ⟨by rw [HF.out]; rfl, HB3.out⟩
        · by_cases h64 : b = 64
          · have hc : (b : Int) = 64 := by omega
            have hst : stp ⟨x, y, z, 1⟩ (b : Int) = some ⟨x, y, z, 2⟩ := by rw [stp1, if_neg (by omega), if_pos (by omega)]
            have HRN := Lib.hid (hrun.trans hst)
            have HR2 := Lib.hid hR
            clear hst hrun hfail hR
            rw [hc] at hix
            go_wp2
            go_roundw
            case rel => exact ⟨pos + 1, ⟨x, y, z, 2⟩, by go_num, by go_num, by dsimp only; decide, by omega, ⟨HR2.out.res, HR2.out.nums, HR2.out.below, HR2.out.bx, HR2.out.by_, HR2.out.bz⟩, HRN.out⟩
            case measure => simp [intOf]; omega
          · have e46 : ((b : Int) == 46) = false := beq_false_of_ne (by omega)
            have e64 : ((b : Int) == 64) = false := beq_false_of_ne (by omega)
            by_cases h48 : (48 : Int) ≤ (b : Int)
            · by_cases h57 : (b : Int) ≤ 57
              · by_cases hm : y ≤ 1125899906842624
                · have hst : stp ⟨x, y, z, 1⟩ (b : Int) = some ⟨x, 10 * y + ((b : Int) - 48), z, 1⟩ := by rw [stp1, if_pos (by omega)]
                  have HRN := Lib.hid (hrun.trans hst)
                  have HN := Lib.hid (heap_setCell_same wr (w.heap.size + 1) 1 _ _ (.int .i64 (10 * y + ((b : Int) - 48))) hR.nums)
                  have HO0 := Lib.hid (heap_setCell_other wr ⟨w.heap.size + 1, 1, none⟩ w.heap.size (.int .i64 (10 * y + ((b : Int) - 48))) (by simp))
                  have HB3 := Lib.hid (hR.below.setCell (p := ⟨w.heap.size + 1, 1, none⟩) (by simp) (.int .i64 (10 * y + ((b : Int) - 48))))
                  have HR2 := Lib.hid hR
                  clear hst hrun hfail hR
                  go_wp2
                  go_roundw
                  case rel => exact ⟨pos + 1, ⟨x, 10 * y + ((b : Int) - 48), z, 1⟩, by go_num, by go_num, by dsimp only; decide, by omega, ⟨HO0.out.trans HR2.out.res, HN.out, HB3.out, HR2.out.bx, by simp only; omega, HR2.out.bz⟩, HRN.out⟩
                  case measure => simp [intOf]; omega
                · have hst : stp ⟨x, y, z, 1⟩ (b : Int) = none := by rw [stp1, if_neg (by omega), if_neg (by omega)]
                  have HF := Lib.hid (hfail hst)
                  clear hst hrun hfail
                  obtain ⟨t0, t1, t2, l0, l1, l2⟩ := box_cells hR.res
                  have GE := set3 hR.res (.int .i64 0) (.int .i64 0) (.int .i64 0)
                  obtain ⟨t0, t1, t2, _⟩ := box_cells GE
                  have HB3 := Lib.hid (below3 hR.below (Nat.le_refl _) (.int .i64 0) (.int .i64 0) (.int .i64 0))
                  clear GE
                  go_wp2
                  refine bodyPost_ret (v := .tuple #[.agg #[.int .i64 0, .int .i64 0, .int .i64 0], .bool false]) (by simp [results, Tryd.results20, go_sem, t0, t1, t2]) rfl ?_
                  exact ⟨by rw [HF.out]; rfl, HB3.out⟩
              · have hst : stp ⟨x, y, z, 1⟩ (b : Int) = none := by rw [stp1, if_neg (by omega), if_neg (by omega)]
                have HF := Lib.hid (hfail hst)
                clear hst hrun hfail
                obtain ⟨t0, t1, t2, l0, l1, l2⟩ := box_cells hR.res
                have GE := set3 hR.res (.int .i64 0) (.int .i64 0) (.int .i64 0)
                obtain ⟨t0, t1, t2, _⟩ := box_cells GE
                have HB3 := Lib.hid (below3 hR.below (Nat.le_refl _) (.int .i64 0) (.int .i64 0) (.int .i64 0))
                clear GE
                go_wp2
                refine bodyPost_ret (v := .tuple #[.agg #[.int .i64 0, .int .i64 0, .int .i64 0], .bool false]) (by simp [results, Tryd.results20, go_sem, t0, t1, t2]) rfl ?_
                exact ⟨by rw [HF.out]; rfl, HB3.out⟩
            · have hst : stp ⟨x, y, z, 1⟩ (b : Int) = none := by rw [stp1, if_neg (by omega), if_neg (by omega)]
              have HF := Lib.hid (hfail hst)
              clear hst hrun hfail
              obtain ⟨t0, t1, t2, l0, l1, l2⟩ := box_cells hR.res
              have GE := set3 hR.res (.int .i64 0) (.int .i64 0) (.int .i64 0)
              obtain ⟨t0, t1, t2, _⟩ := box_cells GE
              have HB3 := Lib.hid (below3 hR.below (Nat.le_refl _) (.int .i64 0) (.int .i64 0) (.int .i64 0))
              clear GE
              go_wp2
              refine bodyPost_ret (v := .tuple #[.agg #[.int .i64 0, .int .i64 0, .int .i64 0], .bool false]) (by simp [results, Tryd.results20, go_sem, t0, t1, t2]) rfl ?_
              exact ⟨by rw [HF.out]; rfl, HB3.out⟩
      · obtain ⟨n0, n1, n2, f0, f1, f2⟩ := box_cells hR.nums
        have hbx := hR.bz
        simp only at n0 n1 n2 hbx
        by_cases h46 : b = 46
        · have hc : (b : Int) = 46 := by omega
          have hst : stp ⟨x, y, z, 2⟩ (b : Int) = none := by rw [stp2, if_neg (by omega)]
          have HF := Lib.hid (hfail hst)
          clear hst hrun hfail
          rw [hc] at hix
          obtain ⟨t0, t1, t2, l0, l1, l2⟩ := box_cells hR.res
          have GE := set3 hR.res (.int .i64 0) (.int .i64 0) (.int .i64 0)
          obtain ⟨t0, t1, t2, _⟩ := box_cells GE
          have HB3 := Lib.hid (below3 hR.below (Nat.le_refl _) (.int .i64 0) (.int .i64 0) (.int .i64 0))
          clear GE
          go_wp2
          refine bodyPost_ret (v := .tuple #[.agg #[.int .i64 0, .int .i64 0, .int .i64 0], .bool false]) (by simp [results, Tryd.results20, go_sem, t0, t1, t2]) rfl ?_
          exact ⟨by rw [HF.out]; rfl, HB3.out⟩
        · by_cases h64 : b = 64
          · have hc : (b : Int) = 64 := by omega
            have hst : stp ⟨x, y, z, 2⟩ (b : Int) = none := by rw [stp2, if_neg (by omega)]
            have HF := Lib.hid (hfail hst)
            clear hst hrun hfail
            rw [hc] at hix
            obtain ⟨t0, t1, t2, l0, l1, l2⟩ := box_cells hR.res
            have GE := set3 hR.res (.int .i64 0) (.int .i64 0) (.int .i64 0)
            obtain ⟨t0, t1, t2, _⟩ := box_cells GE
            have HB3 := Lib.hid (below3 hR.below (Nat.le_refl _) (.int .i64 0) (.int .i64 0) (.int .i64 0))
            clear GE
            go_wp2
            refine bodyPost_ret (v := .tuple #[.agg #[.int .i64 0, .int .i64 0, .int .i64 0], .bool false]) (by simp [results, Tryd.results20, go_sem, t0, t1, t2]) rfl ?_
            exact ⟨by rw [HF.out]; rfl, HB3.out⟩
          · have e46 : ((b : Int) == 46) = false := beq_false_of_ne (by omega)
            have e64 : ((b : Int) == 64) = false := beq_false_of_ne (by omega)
            by_cases h48 : (48 : Int) ≤ (b : Int)
            · by_cases h57 : (b : Int) ≤ 57
              · by_cases hm : z ≤ 1125899906842624
                · have hst : stp ⟨x, y, z, 2⟩ (b : Int) = some ⟨x, y, 10 * z + ((b : Int) - 48), 2⟩ := by rw [stp2, if_pos (by omega)]
                  have HRN := Lib.hid (hrun.trans hst)
                  have HN := Lib.hid (heap_setCell_same wr (w.heap.size + 1) 2 _ _ (.int .i64 (10 * z + ((b : Int) - 48))) hR.nums)
                  have HO0 := Lib.hid (heap_setCell_other wr ⟨w.heap.size + 1, 2, none⟩ w.heap.size (.int .i64 (10 * z + ((b : Int) - 48))) (by simp))
                  have HB3 := Lib.hid (hR.below.setCell (p := ⟨w.heap.size + 1, 2, none⟩) (by simp) (.int .i64 (10 * z + ((b : Int) - 48))))
                  have HR2 := Lib.hid hR
                  clear hst hrun hfail hR
                  go_wp2
                  go_roundw
                  case rel => exact ⟨pos + 1, ⟨x, y, 10 * z + ((b : Int) - 48), 2⟩, by go_num, by go_num, by dsimp only; decide, by omega, ⟨HO0.out.trans HR2.out.res, HN.out, HB3.out, HR2.out.bx, HR2.out.by_, by simp only; omega⟩, HRN.out⟩
                  case measure => simp [intOf]; omega
                · have hst : stp ⟨x, y, z, 2⟩ (b : Int) = none := by rw [stp2, if_neg (by omega)]
                  have HF := Lib.hid (hfail hst)
                  clear hst hrun hfail
                  obtain ⟨t0, t1, t2, l0, l1, l2⟩ := box_cells hR.res
                  have GE := set3 hR.res (.int .i64 0) (.int .i64 0) (.int .i64 0)
                  obtain ⟨t0, t1, t2, _⟩ := box_cells GE
                  have HB3 := Lib.hid (below3 hR.below (Nat.le_refl _) (.int .i64 0) (.int .i64 0) (.int .i64 0))
                  clear GE
                  go_wp2
                  refine bodyPost_ret (v := .tuple #[.agg #[.int .i64 0, .int .i64 0, .int .i64 0], .bool false]) (by simp [results, Tryd.results20, go_sem, t0, t1, t2]) rfl ?_
                  exact ⟨by rw [HF.out]; rfl, HB3.out⟩
              · have hst : stp ⟨x, y, z, 2⟩ (b : Int) = none := by rw [stp2, if_neg (by omega)]
                have HF := Lib.hid (hfail hst)
                clear hst hrun hfail
                obtain ⟨t0, t1, t2, l0, l1, l2⟩ := box_cells hR.res
                have GE := set3 hR.res (.int .i64 0) (.int .i64 0) (.int .i64 0)
                obtain ⟨t0, t1, t2, _⟩ := box_cells GE
                have HB3 := Lib.hid (below3 hR.below (Nat.le_refl _) (.int .i64 0) (.int .i64 0) (.int .i64 0))
                clear GE
                go_wp2
                refine bodyPost_ret (v := .tuple #[.agg #[.int .i64 0, .int .i64 0, .int .i64 0], .bool false]) (by simp [results, Tryd.results20, go_sem, t0, t1, t2]) rfl ?_
                exact ⟨by rw [HF.out]; rfl, HB3.out⟩
            · have hst : stp ⟨x, y, z, 2⟩ (b : Int) = none := by rw [stp2, if_neg (by omega)]
              have HF := Lib.hid (hfail hst)
              clear hst hrun hfail
              obtain ⟨t0, t1, t2, l0, l1, l2⟩ := box_cells hR.res
              have GE := set3 hR.res (.int .i64 0) (.int .i64 0) (.int .i64 0)
              obtain ⟨t0, t1, t2, _⟩ := box_cells GE
              have HB3 := Lib.hid (below3 hR.below (Nat.le_refl _) (.int .i64 0) (.int .i64 0) (.int .i64 0))
              clear GE
              go_wp2
              refine bodyPost_ret (v := .tuple #[.agg #[.int .i64 0, .int .i64 0, .int .i64 0], .bool false]) (by simp [results, Tryd.results20, go_sem, t0, t1, t2]) rfl ?_
              exact ⟨by rw [HF.out]; rfl, HB3.out⟩
      · omega
    · have hrun : run (some start0) s.data.toList = some ⟨x, y, z, k⟩ := by rw [← HS.out, List.take_of_length_le (by have := HSL.out; omega)]
      have hpar : parseL s.data.toList = if soundB ⟨x, y, z⟩ = true ∧ textL ⟨x, y, z⟩ = s.data.toList then some ⟨x, y, z⟩ else none := by unfold parseL; rw [hrun]; rfl
      have HP := Lib.hid hpar
      have hI : SmI ⟨x, y, z⟩ := by
        have h1 := hR.bx
        have h2 := hR.by_
        have h3 := hR.bz
        simp only at h1 h2 h3
        refine ⟨⟨?_, ?_⟩, ⟨?_, ?_⟩, ?_, ?_⟩ <;> simp only <;> omega
      have cS := fun wx => rSound_any ⟨x, y, z⟩ wx
      have HI := Lib.hid hI
      have HR := Lib.hid hR
      obtain ⟨n0, n1, n2, _⟩ := box_cells hR.nums
      simp only at n0 n1 n2 cS
      unfold TelPost at cS
      clear hrun hpar hI hR HS
      obtain ⟨W1, hW1⟩ : ∃ W1, W1 = wr := ⟨_, rfl⟩
      have HW : Hid (ParAt w W1 ⟨x, y, z, k⟩) := by rw [hW1]; exact HR.out
      rw [← hW1] at n0 n1 n2 ⊢
      clear hW1
      have hA := HW.out.step ((Below.refl _ W1).alloc (Nat.le_refl _) (.cells #[.int .i64 x, .int .i64 y, .int .i64 z] 23))
      have gX := heap_alloc_new W1 (.cells #[.int .i64 x, .int .i64 y, .int .i64 z] 23)
      have HA := Lib.hid hA
      have HGX := Lib.hid gX
      have hz1 := hA.below.size
      clear hA gX
      cases hsb : soundB ⟨x, y, z⟩ with
      | false =>
        rw [hsb] at cS
        have HF : Hid (parseL s.data.toList = none) := by show _ = _; rw [HP.out, if_neg (by rw [hsb]; simp)]
        clear hsb
        go_wp2_with (go_at_call 18; (with_reducible refine (cS _).mono ?_))
        rintro e W2 ⟨rfl, b2⟩
        have hB := HA.out.step b2
        obtain ⟨t0, t1, t2, l0, l1, l2⟩ := box_cells hB.res
        have GE := set3 hB.res (.int .i64 0) (.int .i64 0) (.int .i64 0)
        obtain ⟨t0, t1, t2, _⟩ := box_cells GE
        have HB3 := Lib.hid (below3 hB.below (Nat.le_refl _) (.int .i64 0) (.int .i64 0) (.int .i64 0))
        clear GE hB b2
        go_wp2
        refine bodyPost_ret (v := .tuple #[.agg #[.int .i64 0, .int .i64 0, .int .i64 0], .bool false]) (by simp [results, Tryd.results20, go_sem, t0, t1, t2]) rfl ?_
        exact ⟨by rw [HF.out]; rfl, HB3.out⟩
      | true =>
        rw [hsb] at cS
        go_wp2_with (go_at_call 18; (with_reducible refine (cS _).mono ?_))
        rintro e W2 ⟨rfl, b2⟩
        have hB := HA.out.step b2
        have gB := box_below HGX.out b2 (by simp)
        have HB := Lib.hid hB
        have cT := fun (wx : World) (hx : Below W2.heap.size W2 wx) => rText_any ⟨x, y, z⟩ HI.out wx
        obtain ⟨q0, q1, q2, _⟩ := box_cells gB
        have HGB := Lib.hid gB
        obtain ⟨T, hT⟩ : ∃ T, T = (⟨(textL ⟨x, y, z⟩).toArray⟩ : ByteArray) := ⟨_, rfl⟩
        rw [← hT] at cT
        simp only at cT
        unfold TelPost at cT
        clear gB hB b2 cS
        by_cases heq : T = s
        · have HF : Hid (parseL s.data.toList = some ⟨x, y, z⟩) := by
            show _ = _
            rw [HP.out, if_pos ⟨hsb, by rw [← heq, hT]⟩]
          have e1 := txt_eq heq
          clear hsb hT heq
          go_wp2_with (go_at_call 22; (with_reducible refine (cT _ (by first | exact Below.refl _ _ | exact (Below.refl _ _).drew)).mono ?_))
          rintro e W3 ⟨rfl, b3⟩
          have hC := HB.out.step b3
          have gC := box_below HGB.out b3 (lt_of_block HGB.out)
          obtain ⟨q0, q1, q2, _⟩ := box_cells gC
          obtain ⟨t0, t1, t2, l0, l1, l2⟩ := box_cells hC.res
          have GE := set3 hC.res (.int .i64 x) (.int .i64 y) (.int .i64 z)
          obtain ⟨t0, t1, t2, _⟩ := box_cells GE
          have HB3 := Lib.hid (below3 hC.below (Nat.le_refl _) (.int .i64 x) (.int .i64 y) (.int .i64 z))
          clear GE hC b3 gC
          go_wp2
          refine bodyPost_ret (v := .tuple #[.agg #[.int .i64 x, .int .i64 y, .int .i64 z], .bool true]) (by simp [results, Tryd.results20, go_sem, t0, t1, t2]) rfl ?_
          exact ⟨by rw [HF.out]; rfl, HB3.out⟩
        · have HF : Hid (parseL s.data.toList = none) := by
            show _ = _
            rw [HP.out, if_neg (fun h => heq (by rw [hT, h.2]))]
          have e1 := txt_ne heq
          clear hsb hT heq
          go_wp2_with (go_at_call 22; (with_reducible refine (cT _ (by first | exact Below.refl _ _ | exact (Below.refl _ _).drew)).mono ?_))
          rintro e W3 ⟨rfl, b3⟩
          have hC := HB.out.step b3
          obtain ⟨t0, t1, t2, l0, l1, l2⟩ := box_cells hC.res
          have GE := set3 hC.res (.int .i64 0) (.int .i64 0) (.int .i64 0)
          obtain ⟨t0, t1, t2, _⟩ := box_cells GE
          have HB3 := Lib.hid (below3 hC.below (Nat.le_refl _) (.int .i64 0) (.int .i64 0) (.int .i64 0))
          clear GE hC b3
          go_wp2
          refine bodyPost_ret (v := .tuple #[.agg #[.int .i64 0, .int .i64 0, .int .i64 0], .bool false]) (by simp [results, Tryd.results20, go_sem, t0, t1, t2]) rfl ?_
          exact ⟨by rw [HF.out]; rfl, HB3.out⟩

end Go.Proofs.YtijnmhiiojkcgaaDoor
