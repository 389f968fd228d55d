/-
  Package stamp's Decode.
-/
import Derived.Test.YtggognmbjgkdfaaStR
set_option linter.unusedVariables false
namespace Go.Proofs.Ytggognmbjgkdfaa
open Go.RowKit

/-- Where the reading stands behind k numbers. -/
def DecP (l : List UInt8) (k m : Nat) (x y z : Int) : Prop :=
  match k with
  | 0 => m = 0 ∧ x = 0 ∧ y = 0 ∧ z = 0
  | 1 => m = (unv l).2 ∧ ¬ (unv l).2 = 0 ∧ x = toI (unv l).1 ∧ y = 0 ∧ z = 0
  | 2 => m = (unv l).2 + (unv (l.drop (unv l).2)).2 ∧ ¬ (unv l).2 = 0 ∧ ¬ (unv (l.drop (unv l).2)).2 = 0 ∧ x = toI (unv l).1 ∧ y = toI (unv (l.drop (unv l).2)).1 ∧ z = 0
  | _ => dec3 l = some (⟨x, y, z⟩, m)

structure DecAt (w wr : World) (x y z : Int) : Prop where
  res : wr.heap[w.heap.size]? = some (.cells #[.int .i64 0, .int .i64 0, .int .i64 0] 40 (0, 0))
  nums : wr.heap[w.heap.size + 1]? = some (.cells #[.int .i64 x, .int .i64 y, .int .i64 z] 133 (0, 0))
  below : Below w.heap.size w wr
theorem bts_drop {w : World} {a : Option Addr} {l : List UInt8} (h : Bts w a l) (m : Nat) : Bts w (Option.map (fun x => x.add m) a) (l.drop m) := by
  cases a with
  | none => rw [h.none_nil, List.drop_nil]; exact Bts.nil _ _
  | some x => exact h.drop m

set_option maxHeartbeats 16000000 in
set_option maxRecDepth 100000 in
theorem decode_any (a : Option Addr) (n c : Nat) (l : List UInt8) (w : World) (hl : l.length = n) (hn : n ≤ 1000000) (hnc : n ≤ c) (h : Bts w a l) :
    Calls Try.prog 105 #[.slice a n c] w (DecPost (decL l) w) := by
  have HL := Lib.hid hl
  have HBT := Lib.hid h
  have g0 := box_alloc (heap_alloc_new w (.cells #[.int .i64 0, .int .i64 0, .int .i64 0] 40)) (.cells #[.int .i64 0, .int .i64 0, .int .i64 0] 133)
  have g1 := heap_alloc_new (w.alloc (.cells #[.int .i64 0, .int .i64 0, .int .i64 0] 40)) (.cells #[.int .i64 0, .int .i64 0, .int .i64 0] 133)
  rw [World.size_alloc] at g1
  have HR0 := Lib.hid (show DecAt w _ 0 0 0 from ⟨g0, g1, ((Below.refl _ w).alloc (Nat.le_refl _) _).alloc (by simp) _⟩)
  clear g0 g1 hl h
  go_enter Try.func105, Try.ntmps105
  go_wp2
  go_loopw [3, 9] (fun vn vk wr => ∃ (k m : Nat) (x y z : Int), vk = .int .i64 k ∧ vn = .int .i64 m ∧ k ≤ 3 ∧ m ≤ n ∧ DecAt w wr x y z ∧ DecP l k m x y z) (fun _ vk _ => 3 - (intOf vk).toNat)
  case atStart => exact ⟨0, 0, 0, 0, 0, rfl, rfl, by omega, Nat.zero_le _, HR0.out, rfl, rfl, rfl, rfl⟩
  case round =>
    obtain ⟨k, m, x, y, z, rfl, rfl, hk, hm, hR, hP⟩ := hrel
    clear HR0
    rcases k with _ | _ | _ | _ | k
    · obtain ⟨⟨uv, us⟩, hU⟩ : ∃ U, unv (l.drop m) = U := ⟨_, rfl⟩
      have hub := unv_bounds (l.drop m)
      rw [hU, List.length_drop, HL.out] at hub
      simp only at hub
      have c1 : c = m → ∀ wx, Below w.heap.size w wx → Calls Try.prog 112 #[.slice a (n - m) 0] wx fun e w' => e = .returned (.tuple #[.int .u64 uv, .int .i64 us]) ∧ wx = w' := fun hcm wx hx => by
        have hnil : l.drop m = [] := List.drop_eq_nil_of_le (by have := HL.out; omega)
        have := Unvarint_any a (n - m) 0 (l.drop m) wx (by rw [List.length_drop, HL.out]) (by unfold maxLen; omega) (by rw [hnil]; exact Bts.nil _ _)
        rw [hU] at this
        exact this
      have c2 : ∀ wx, Below w.heap.size w wx → Calls Try.prog 112 #[.slice (Option.map (fun x => x.add m) a) (n - m) (c - m)] wx fun e w' => e = .returned (.tuple #[.int .u64 uv, .int .i64 us]) ∧ wx = w' := fun wx hx => by
        have := Unvarint_any (Option.map (fun x => x.add m) a) (n - m) (c - m) (l.drop m) wx (by rw [List.length_drop, HL.out]) (by unfold maxLen; omega) (bts_drop (HBT.out.later hx) m)
        rw [hU] at this
        exact this
      have C1 := Lib.hid c1
      have C2 := Lib.hid c2
      clear c1 c2
      have hnk := hR.nums
      by_cases hz : us = 0
      · subst hz
        have HF : Hid (decL l = none) := by
            show _ = _
            rw [dec_of3]
            obtain ⟨rfl, _⟩ := hP
            rw [List.drop_zero] at hU
            unfold dec3
            simp only
            rw [hU, if_pos rfl]
            rfl
        clear hU hP
        by_cases hcm : c = m
        · obtain ⟨t0, t1, t2, l0, l1, l2⟩ := box_cells hR.res
          have GE := set3 hR.res (.int .i64 0) (.int .i64 0) (.int .i64 0)
          obtain ⟨t0, t1, t2, _⟩ := box_cells GE
          have HB3 := Lib.hid (below3 hR.below (Nat.le_refl _) (.int .i64 0) (.int .i64 0) (.int .i64 0))
          clear GE
          go_wp2_with (go_at_call 112; (with_reducible refine (C1.out hcm _ hR.below).mono ?_); rintro e W3 ⟨rfl, rfl⟩)
          refine bodyPost_ret (v := .tuple #[.agg #[.int .i64 0, .int .i64 0, .int .i64 0], .int .i64 0, .int .i64 10]) (by simp [results, Try.results105, go_sem, t0, t1, t2]) rfl ?_
          exact ⟨by rw [HF.out]; rfl, HB3.out⟩
        · obtain ⟨t0, t1, t2, l0, l1, l2⟩ := box_cells hR.res
          have GE := set3 hR.res (.int .i64 0) (.int .i64 0) (.int .i64 0)
          obtain ⟨t0, t1, t2, _⟩ := box_cells GE
          have HB3 := Lib.hid (below3 hR.below (Nat.le_refl _) (.int .i64 0) (.int .i64 0) (.int .i64 0))
          clear GE
          go_wp2_with (go_at_call 112; (with_reducible refine (C2.out _ hR.below).mono ?_); rintro e W3 ⟨rfl, rfl⟩)
          refine bodyPost_ret (v := .tuple #[.agg #[.int .i64 0, .int .i64 0, .int .i64 0], .int .i64 0, .int .i64 10]) (by simp [results, Try.results105, go_sem, t0, t1, t2]) rfl ?_
          exact ⟨by rw [HF.out]; rfl, HB3.out⟩
      · have e0 : ((us : Int) == 0) = false := beq_false_of_ne (by omega)
        have HN : Hid (DecP l 1 (m + us) (toI uv) y z) := by
            obtain ⟨rfl, rfl, rfl, rfl⟩ := hP
            rw [List.drop_zero] at hU
            exact ⟨by rw [hU]; simp, by rw [hU]; exact hz, by rw [hU], rfl, rfl⟩
        have hms : m + us ≤ n := by omega
        have HNS := Lib.hid (heap_setCell_same wr (w.heap.size + 1) 0 _ _ (.int .i64 (toI uv)) hR.nums)
        have HO0 := Lib.hid (heap_setCell_other wr ⟨w.heap.size + 1, 0, none⟩ w.heap.size (.int .i64 (toI uv)) (by simp))
        have HB3 := Lib.hid (hR.below.setCell (p := ⟨w.heap.size + 1, 0, none⟩) (by simp) (.int .i64 (toI uv)))
        obtain ⟨n0, n1, n2, f0, f1, f2⟩ := box_cells hnk
        have HR2 := Lib.hid hR
        have ht : IntKind.i64.wrap (uv : Int) = toI uv := rfl
        have hcm : ¬ c = m := by omega
        clear hU hP hz hnk hR
        go_wp2_with (go_at_call 112; (with_reducible refine (C2.out _ HR2.out.below).mono ?_); rintro e W3 ⟨rfl, rfl⟩)
        go_roundw
        case rel => exact ⟨1, m + us, (toI uv), y, z, by go_num, by go_num, by omega, hms, ⟨HO0.out.trans HR2.out.res, HNS.out, HB3.out⟩, HN.out⟩
        case measure => simp [intOf]
    · obtain ⟨⟨uv, us⟩, hU⟩ : ∃ U, unv (l.drop m) = U := ⟨_, rfl⟩
      have hub := unv_bounds (l.drop m)
      rw [hU, List.length_drop, HL.out] at hub
      simp only at hub
      have c1 : c = m → ∀ wx, Below w.heap.size w wx → Calls Try.prog 112 #[.slice a (n - m) 0] wx fun e w' => e = .returned (.tuple #[.int .u64 uv, .int .i64 us]) ∧ wx = w' := fun hcm wx hx => by
        have hnil : l.drop m = [] := List.drop_eq_nil_of_le (by have := HL.out; omega)
        have := Unvarint_any a (n - m) 0 (l.drop m) wx (by rw [List.length_drop, HL.out]) (by unfold maxLen; omega) (by rw [hnil]; exact Bts.nil _ _)
        rw [hU] at this
        exact this
      have c2 : ∀ wx, Below w.heap.size w wx → Calls Try.prog 112 #[.slice (Option.map (fun x => x.add m) a) (n - m) (c - m)] wx fun e w' => e = .returned (.tuple #[.int .u64 uv, .int .i64 us]) ∧ wx = w' := fun wx hx => by
        have := Unvarint_any (Option.map (fun x => x.add m) a) (n - m) (c - m) (l.drop m) wx (by rw [List.length_drop, HL.out]) (by unfold maxLen; omega) (bts_drop (HBT.out.later hx) m)
        rw [hU] at this
        exact this
      have C1 := Lib.hid c1
      have C2 := Lib.hid c2
      clear c1 c2
      have hnk := hR.nums
      by_cases hz : us = 0
      · subst hz
        have HF : Hid (decL l = none) := by
            show _ = _
            rw [dec_of3]
            obtain ⟨rfl, h0, _⟩ := hP
            unfold dec3
            simp only
            rw [if_neg h0, hU, if_pos rfl]
            rfl
        clear hU hP
        by_cases hcm : c = m
        · obtain ⟨t0, t1, t2, l0, l1, l2⟩ := box_cells hR.res
          have GE := set3 hR.res (.int .i64 0) (.int .i64 0) (.int .i64 0)
          obtain ⟨t0, t1, t2, _⟩ := box_cells GE
          have HB3 := Lib.hid (below3 hR.below (Nat.le_refl _) (.int .i64 0) (.int .i64 0) (.int .i64 0))
          clear GE
          go_wp2_with (go_at_call 112; (with_reducible refine (C1.out hcm _ hR.below).mono ?_); rintro e W3 ⟨rfl, rfl⟩)
          refine bodyPost_ret (v := .tuple #[.agg #[.int .i64 0, .int .i64 0, .int .i64 0], .int .i64 0, .int .i64 10]) (by simp [results, Try.results105, go_sem, t0, t1, t2]) rfl ?_
          exact ⟨by rw [HF.out]; rfl, HB3.out⟩
        · obtain ⟨t0, t1, t2, l0, l1, l2⟩ := box_cells hR.res
          have GE := set3 hR.res (.int .i64 0) (.int .i64 0) (.int .i64 0)
          obtain ⟨t0, t1, t2, _⟩ := box_cells GE
          have HB3 := Lib.hid (below3 hR.below (Nat.le_refl _) (.int .i64 0) (.int .i64 0) (.int .i64 0))
          clear GE
          go_wp2_with (go_at_call 112; (with_reducible refine (C2.out _ hR.below).mono ?_); rintro e W3 ⟨rfl, rfl⟩)
          refine bodyPost_ret (v := .tuple #[.agg #[.int .i64 0, .int .i64 0, .int .i64 0], .int .i64 0, .int .i64 10]) (by simp [results, Try.results105, go_sem, t0, t1, t2]) rfl ?_
          exact ⟨by rw [HF.out]; rfl, HB3.out⟩
      · have e0 : ((us : Int) == 0) = false := beq_false_of_ne (by omega)
        have HN : Hid (DecP l 2 (m + us) x (toI uv) z) := by
            obtain ⟨rfl, h0, rfl, rfl, rfl⟩ := hP
            exact ⟨by rw [hU], h0, by rw [hU]; exact hz, rfl, by rw [hU], rfl⟩
        have hms : m + us ≤ n := by omega
        have HNS := Lib.hid (heap_setCell_same wr (w.heap.size + 1) 1 _ _ (.int .i64 (toI uv)) hR.nums)
        have HO0 := Lib.hid (heap_setCell_other wr ⟨w.heap.size + 1, 1, none⟩ w.heap.size (.int .i64 (toI uv)) (by simp))
        have HB3 := Lib.hid (hR.below.setCell (p := ⟨w.heap.size + 1, 1, none⟩) (by simp) (.int .i64 (toI uv)))
        obtain ⟨n0, n1, n2, f0, f1, f2⟩ := box_cells hnk
        have HR2 := Lib.hid hR
        have ht : IntKind.i64.wrap (uv : Int) = toI uv := rfl
        have hcm : ¬ c = m := by omega
        clear hU hP hz hnk hR
        go_wp2_with (go_at_call 112; (with_reducible refine (C2.out _ HR2.out.below).mono ?_); rintro e W3 ⟨rfl, rfl⟩)
        go_roundw
        case rel => exact ⟨2, m + us, x, (toI uv), z, by go_num, by go_num, by omega, hms, ⟨HO0.out.trans HR2.out.res, HNS.out, HB3.out⟩, HN.out⟩
        case measure => simp [intOf]
    · obtain ⟨⟨uv, us⟩, hU⟩ : ∃ U, unv (l.drop m) = U := ⟨_, rfl⟩
      have hub := unv_bounds (l.drop m)
      rw [hU, List.length_drop, HL.out] at hub
      simp only at hub
      have c1 : c = m → ∀ wx, Below w.heap.size w wx → Calls Try.prog 112 #[.slice a (n - m) 0] wx fun e w' => e = .returned (.tuple #[.int .u64 uv, .int .i64 us]) ∧ wx = w' := fun hcm wx hx => by
        have hnil : l.drop m = [] := List.drop_eq_nil_of_le (by have := HL.out; omega)
        have := Unvarint_any a (n - m) 0 (l.drop m) wx (by rw [List.length_drop, HL.out]) (by unfold maxLen; omega) (by rw [hnil]; exact Bts.nil _ _)
        rw [hU] at this
        exact this
      have c2 : ∀ wx, Below w.heap.size w wx → Calls Try.prog 112 #[.slice (Option.map (fun x => x.add m) a) (n - m) (c - m)] wx fun e w' => e = .returned (.tuple #[.int .u64 uv, .int .i64 us]) ∧ wx = w' := fun wx hx => by
        have := Unvarint_any (Option.map (fun x => x.add m) a) (n - m) (c - m) (l.drop m) wx (by rw [List.length_drop, HL.out]) (by unfold maxLen; omega) (bts_drop (HBT.out.later hx) m)
        rw [hU] at this
        exact this
      have C1 := Lib.hid c1
      have C2 := Lib.hid c2
      clear c1 c2
      have hnk := hR.nums
      by_cases hz : us = 0
      · subst hz
        have HF : Hid (decL l = none) := by
            show _ = _
            rw [dec_of3]
            obtain ⟨rfl, h0, h1, _⟩ := hP
            unfold dec3
            simp only
            rw [if_neg h0, if_neg h1, hU, if_pos rfl]
            rfl
        clear hU hP
        by_cases hcm : c = m
        · obtain ⟨t0, t1, t2, l0, l1, l2⟩ := box_cells hR.res
          have GE := set3 hR.res (.int .i64 0) (.int .i64 0) (.int .i64 0)
          obtain ⟨t0, t1, t2, _⟩ := box_cells GE
          have HB3 := Lib.hid (below3 hR.below (Nat.le_refl _) (.int .i64 0) (.int .i64 0) (.int .i64 0))
          clear GE
          go_wp2_with (go_at_call 112; (with_reducible refine (C1.out hcm _ hR.below).mono ?_); rintro e W3 ⟨rfl, rfl⟩)
          refine bodyPost_ret (v := .tuple #[.agg #[.int .i64 0, .int .i64 0, .int .i64 0], .int .i64 0, .int .i64 10]) (by simp [results, Try.results105, go_sem, t0, t1, t2]) rfl ?_
          exact ⟨by rw [HF.out]; rfl, HB3.out⟩
        · obtain ⟨t0, t1, t2, l0, l1, l2⟩ := box_cells hR.res
          have GE := set3 hR.res (.int .i64 0) (.int .i64 0) (.int .i64 0)
          obtain ⟨t0, t1, t2, _⟩ := box_cells GE
          have HB3 := Lib.hid (below3 hR.below (Nat.le_refl _) (.int .i64 0) (.int .i64 0) (.int .i64 0))
          clear GE
          go_wp2_with (go_at_call 112; (with_reducible refine (C2.out _ hR.below).mono ?_); rintro e W3 ⟨rfl, rfl⟩)
          refine bodyPost_ret (v := .tuple #[.agg #[.int .i64 0, .int .i64 0, .int .i64 0], .int .i64 0, .int .i64 10]) (by simp [results, Try.results105, go_sem, t0, t1, t2]) rfl ?_
          exact ⟨by rw [HF.out]; rfl, HB3.out⟩
      · have e0 : ((us : Int) == 0) = false := beq_false_of_ne (by omega)
        have HN : Hid (DecP l 3 (m + us) x y (toI uv)) := by
            obtain ⟨rfl, h0, h1, rfl, rfl, rfl⟩ := hP
            show dec3 l = _
            unfold dec3
            simp only
            rw [if_neg h0, if_neg h1, hU, if_neg hz]
        have hms : m + us ≤ n := by omega
        have HNS := Lib.hid (heap_setCell_same wr (w.heap.size + 1) 2 _ _ (.int .i64 (toI uv)) hR.nums)
        have HO0 := Lib.hid (heap_setCell_other wr ⟨w.heap.size + 1, 2, none⟩ w.heap.size (.int .i64 (toI uv)) (by simp))
        have HB3 := Lib.hid (hR.below.setCell (p := ⟨w.heap.size + 1, 2, none⟩) (by simp) (.int .i64 (toI uv)))
        obtain ⟨n0, n1, n2, f0, f1, f2⟩ := box_cells hnk
        have HR2 := Lib.hid hR
        have ht : IntKind.i64.wrap (uv : Int) = toI uv := rfl
        have hcm : ¬ c = m := by omega
        clear hU hP hz hnk hR
        go_wp2_with (go_at_call 112; (with_reducible refine (C2.out _ HR2.out.below).mono ?_); rintro e W3 ⟨rfl, rfl⟩)
        go_roundw
        case rel => exact ⟨3, m + us, x, y, (toI uv), by go_num, by go_num, by omega, hms, ⟨HO0.out.trans HR2.out.res, HNS.out, HB3.out⟩, HN.out⟩
        case measure => simp [intOf]
    · have hd : dec3 l = some (⟨x, y, z⟩, m) := hP
      have HD := Lib.hid hd
      have cM := fun wx => sMade_any x y z wx
      have cS := fun wx => sound_any ⟨x, y, z⟩ wx
      simp only at cS
      obtain ⟨n0, n1, n2, _⟩ := box_cells hR.nums
      have HR := Lib.hid hR
      clear hd hP hR
      go_wp2_with (go_at_call 115; (with_reducible refine (cM _).mono ?_))
      rintro e W1 ⟨rfl, b1⟩
      have gR := box_below HR.out.res b1 (lt_of_block HR.out.res)
      have HBW := Lib.hid (HR.out.below.trans (b1.mono HR.out.below.size))
      obtain ⟨r0, r1, r2, k0, k1, k2⟩ := box_cells gR
      have GE := set3 gR (.int .i64 x) (.int .i64 y) (.int .i64 z)
      have HGE := Lib.hid GE
      have HB2 := Lib.hid (below3 HBW.out (Nat.le_refl _) (.int .i64 x) (.int .i64 y) (.int .i64 z))
      obtain ⟨q0, q1, q2, j0, j1, j2⟩ := box_cells GE
      clear b1 cM n0 n1 n2 GE gR
      cases hsb : soundB ⟨x, y, z⟩ with
      | false =>
        rw [hsb] at cS
        have HF : Hid (decL l = none) := by
          show _ = _
          rw [dec_of3, HD.out]
          show (if _ then _ else _) = _
          rw [if_neg (by rw [hsb]; simp)]
        clear hsb
        go_wp2_with (go_at_call 84; (with_reducible refine (cS _).mono ?_))
        rintro e W2 ⟨rfl, b2⟩
        have gS := box_below HGE.out b2 (lt_of_block HGE.out)
        obtain ⟨r0, r1, r2, k0, k1, k2⟩ := box_cells gS
        have GE := set3 gS (.int .i64 0) (.int .i64 0) (.int .i64 0)
        obtain ⟨t0, t1, t2, _⟩ := box_cells GE
        have HB3 := Lib.hid (below3 (HB2.out.trans (b2.mono HB2.out.size)) (Nat.le_refl _) (.int .i64 0) (.int .i64 0) (.int .i64 0))
        clear GE gS b2 q0 q1 q2 j0 j1 j2
        go_wp2
        refine bodyPost_ret (v := .tuple #[.agg #[.int .i64 0, .int .i64 0, .int .i64 0], .int .i64 0, .int .i64 10]) (by simp [results, Try.results105, go_sem, t0, t1, t2]) rfl ?_
        exact ⟨by rw [HF.out]; rfl, HB3.out⟩
      | true =>
        rw [hsb] at cS
        have HF : Hid (decL l = some (⟨x, y, z⟩, m)) := by
          show _ = _
          rw [dec_of3, HD.out]
          show (if _ then _ else _) = _
          rw [if_pos hsb]
        clear hsb
        go_wp2_with (go_at_call 84; (with_reducible refine (cS _).mono ?_))
        rintro e W2 ⟨rfl, b2⟩
        have gS := box_below HGE.out b2 (lt_of_block HGE.out)
        obtain ⟨r0, r1, r2, k0, k1, k2⟩ := box_cells gS
        have GE := set3 gS (.int .i64 x) (.int .i64 y) (.int .i64 z)
        obtain ⟨t0, t1, t2, _⟩ := box_cells GE
        have HB3 := Lib.hid (below3 (HB2.out.trans (b2.mono HB2.out.size)) (Nat.le_refl _) (.int .i64 x) (.int .i64 y) (.int .i64 z))
        clear GE gS b2 q0 q1 q2 j0 j1 j2
        go_wp2
        refine bodyPost_ret (v := .tuple #[.agg #[.int .i64 x, .int .i64 y, .int .i64 z], .int .i64 m, .int .i64 0]) (by simp [results, Try.results105, go_sem, t0, t1, t2]) rfl ?_
        exact ⟨by rw [HF.out]; rfl, HB3.out⟩
    · omega

end Go.Proofs.Ytggognmbjgkdfaa
