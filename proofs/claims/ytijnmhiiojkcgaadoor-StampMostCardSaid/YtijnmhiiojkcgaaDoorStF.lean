/-
  Stamps: the reference's greatest and least.
-/
import Derived.Test.YtijnmhiiojkcgaaDoorStE
import Derived.Deep.RegionHeld3
set_option linter.unusedVariables false
namespace Go.Proofs.YtijnmhiiojkcgaaDoor
open Go.RowKit

set_option maxHeartbeats 8000000 in
set_option maxRecDepth 100000 in
theorem rMax_any (a : Option Addr) (n c : Nat) (ss : List Sm) (w : World) (hn : n ≤ 1000000) (h : SmsIn w a n ss) :
    Calls Tryd.prog 14 #[.slice a n c] w (TelPost (.agg #[.int .i64 (maxOf ss).w, .int .i64 (maxOf ss).l, .int .i64 (maxOf ss).n]) w) := by
  have HL := Lib.hid h.1
  have HIN := Lib.hid h
  have g0 := box_alloc (heap_alloc_new w (.cells #[.int .i64 0, .int .i64 0, .int .i64 0] 23)) (.cells #[.int .i64 0, .int .i64 0, .int .i64 0] 23)
  have g1 := heap_alloc_new (w.alloc (.cells #[.int .i64 0, .int .i64 0, .int .i64 0] 23)) (.cells #[.int .i64 0, .int .i64 0, .int .i64 0] 23)
  rw [World.size_alloc] at g1
  have HR0 := Lib.hid (show PickRel w _ (maxOf (ss.take 0)) from ⟨g0, g1, ((Below.refl _ w).alloc (Nat.le_refl _) _).alloc (by simp) _⟩)
  clear g0 g1 h
  go_enter Tryd.func14, Tryd.ntmps14
  go_wp2
  go_loopw [4] (fun i wr => ∃ j : Nat, i = .int .i64 j ∧ j ≤ n ∧ PickRel w wr (maxOf (ss.take j))) (fun i _ => n - (intOf i).toNat)
  case atStart => exact ⟨0, rfl, Nat.zero_le _, HR0.out⟩
  case round =>
    obtain ⟨j, rfl, hj, hR⟩ := hrel
    clear HR0
    obtain ⟨m, hm⟩ : ∃ m, m = maxOf (ss.take j) := ⟨_, rfl⟩
    by_cases hlt : j < n
    · have hlt2 : j < ss.length := by have := HL.out; omega
      have hp := pick_take lessB ss j hlt2
      have hin := HIN.out.later hR.below
      obtain ⟨x, rfl, hx⟩ := hin.at j hlt2
      obtain ⟨s, hs⟩ : ∃ s, s = ss[j]'hlt2 := ⟨_, rfl⟩
      rw [← hs] at hx hp
      have HP := Lib.hid (show maxOf (ss.take (j + 1)) = nxt lessB j m s by rw [hm]; exact hp)
      rw [← hm] at hR
      obtain ⟨p0, p1, p2⟩ := hx
      rw [fld x (j * 3) 1 (by decide)] at p1
      rw [fld x (j * 3) 2 (by decide)] at p2
      have hRA := hR
      obtain ⟨m0, m1, m2, f0, f1, f2⟩ := box_cells hRA.cur
      have cL := fun wx => rLess_any m s wx
      unfold TelPost at cL
      have HRA := Lib.hid hRA
      have hz : w.heap.size + 2 ≤ wr.heap.size := lt_of_block hR.cur
      have HPS := Lib.hid (show (wr.cell? (x.add (j * 3)) = some (.int .i64 s.w) ∧ wr.cell? ⟨(x.add (j * 3)).block, (x.add (j * 3)).off + 1, none⟩ = some (.int .i64 s.l) ∧ wr.cell? ⟨(x.add (j * 3)).block, (x.add (j * 3)).off + 2, none⟩ = some (.int .i64 s.n)) from ⟨p0, p1, p2⟩)
      clear hp hin hs hm hR hRA
      by_cases hj0 : j = 0
      · have e0 : ((j : Int) == 0) = true := by simpa using hj0
        have HN : Hid (nxt lessB j m s = s) := by show _ = _; unfold nxt; rw [hj0]; rfl
        clear cL hj0
        go_wp2_with fail
        go_quiet (fail)
        all_goals (
          go_wp2
          go_roundw
          case rel => exact ⟨j + 1, by go_num, by omega, by rw [HP.out, HN.out]; exact (HRA.out.step (below_drewN (Below.refl _ wr) _)).set s⟩
          case measure => simp [intOf]; omega)
      · have e0 : ((j : Int) == 0) = false := by simpa using hj0
        have hj1 : (j == 0) = false := by simpa using hj0
        cases hless : lessB m s with
        | true =>
          rw [hless] at cL
          have HN : Hid (nxt lessB j m s = s) := by show _ = _; unfold nxt; rw [hless, Bool.or_true]; rfl
          clear hj0 hj1 hless
          go_wp2_with fail
          go_region_held3 (fun w' => (w'.cell? ⟨w.heap.size + 1, 0, none⟩ = some (.int .i64 m.w) ∧ w'.cell? ⟨w.heap.size + 1, 1, none⟩ = some (.int .i64 m.l) ∧ w'.cell? ⟨w.heap.size + 1, 2, none⟩ = some (.int .i64 m.n)) ∧ w'.cell? (x.add (j * 3)) = some (.int .i64 s.w) ∧ w'.cell? ⟨(x.add (j * 3)).block, (x.add (j * 3)).off + 1, none⟩ = some (.int .i64 s.l) ∧ w'.cell? ⟨(x.add (j * 3)).block, (x.add (j * 3)).off + 2, none⟩ = some (.int .i64 s.n))
            (first | exact ⟨⟨m0, m1, m2⟩, p0, p1, p2⟩ | go_keep)
            (first
              | (go_at_call 12; (with_reducible refine (cL _).mono ?_); rintro e W2 ⟨rfl, b2⟩; have h2 := HRA.out.step ((Below.refl _ wr).drew.trans (b2.mono (Nat.le_refl _))); have q0 := (b2.cell (World.block_lt_of_cell? wr _ p0)).trans p0; have q1 := (b2.cell (World.block_lt_of_cell? wr _ p1)).trans p1; have q2 := (b2.cell (World.block_lt_of_cell? wr _ p2)).trans p2; obtain ⟨r0, r1, r2, k0, k1, k2⟩ := box_cells h2.cur))
          all_goals (
            have H2 := Lib.hid h2
            clear b2 h2 m0 m1 m2 f0 f1 f2 p0 p1 p2 cL
            go_wp2
            go_roundw
            case rel => exact ⟨j + 1, by go_num, by omega, by rw [HP.out, HN.out]; exact H2.out.set s⟩
            case measure => simp [intOf]; omega)
        | false =>
          rw [hless] at cL
          have HN : Hid (nxt lessB j m s = m) := by show _ = _; unfold nxt; rw [hless, hj1]; rfl
          clear hj0 hj1 hless
          go_wp2_with fail
          go_region_held3 (fun w' => (w'.cell? ⟨w.heap.size + 1, 0, none⟩ = some (.int .i64 m.w) ∧ w'.cell? ⟨w.heap.size + 1, 1, none⟩ = some (.int .i64 m.l) ∧ w'.cell? ⟨w.heap.size + 1, 2, none⟩ = some (.int .i64 m.n)) ∧ w'.cell? (x.add (j * 3)) = some (.int .i64 s.w) ∧ w'.cell? ⟨(x.add (j * 3)).block, (x.add (j * 3)).off + 1, none⟩ = some (.int .i64 s.l) ∧ w'.cell? ⟨(x.add (j * 3)).block, (x.add (j * 3)).off + 2, none⟩ = some (.int .i64 s.n))
            (first | exact ⟨⟨m0, m1, m2⟩, p0, p1, p2⟩ | go_keep)
            (first
              | (go_at_call 12; (with_reducible refine (cL _).mono ?_); rintro e W2 ⟨rfl, b2⟩; have h2 := HRA.out.step ((Below.refl _ wr).drew.trans (b2.mono (Nat.le_refl _))); have q0 := (b2.cell (World.block_lt_of_cell? wr _ p0)).trans p0; have q1 := (b2.cell (World.block_lt_of_cell? wr _ p1)).trans p1; have q2 := (b2.cell (World.block_lt_of_cell? wr _ p2)).trans p2; obtain ⟨r0, r1, r2, k0, k1, k2⟩ := box_cells h2.cur))
          all_goals (
            have H2 := Lib.hid h2
            clear b2 h2 m0 m1 m2 f0 f1 f2 p0 p1 p2 cL
            go_wp2
            go_roundw
            case rel => exact ⟨j + 1, by go_num, by omega, by rw [HP.out, HN.out]; exact H2.out⟩
            case measure => simp [intOf]; omega)
    · have hjn : ss.take j = ss := List.take_of_length_le (by have := HL.out; omega)
      rw [hjn] at hm hR
      rw [← hm] at hR
      have HM := Lib.hid hm
      obtain ⟨r0, r1, r2, k0, k1, k2⟩ := box_cells hR.cur
      obtain ⟨t0, t1, t2, l0, l1, l2⟩ := box_cells hR.res
      have GE := set3 hR.res (.int .i64 m.w) (.int .i64 m.l) (.int .i64 m.n)
      obtain ⟨z0, z1, z2, _⟩ := box_cells GE
      have HB := Lib.hid (below3 hR.below (Nat.le_refl _) (.int .i64 m.w) (.int .i64 m.l) (.int .i64 m.n))
      clear hR hm hjn GE
      go_wp2
      refine bodyPost_ret (v := .agg #[.int .i64 m.w, .int .i64 m.l, .int .i64 m.n]) (by simp [results, Tryd.results14, go_sem, z0, z1, z2]) rfl ?_
      exact ⟨by rw [HM.out], HB.out⟩

set_option maxHeartbeats 8000000 in
set_option maxRecDepth 100000 in
theorem rMin_any (a : Option Addr) (n c : Nat) (ss : List Sm) (w : World) (hn : n ≤ 1000000) (h : SmsIn w a n ss) :
    Calls Tryd.prog 16 #[.slice a n c] w (TelPost (.agg #[.int .i64 (minOf ss).w, .int .i64 (minOf ss).l, .int .i64 (minOf ss).n]) w) := by
  have HL := Lib.hid h.1
  have HIN := Lib.hid h
  have g0 := box_alloc (heap_alloc_new w (.cells #[.int .i64 0, .int .i64 0, .int .i64 0] 23)) (.cells #[.int .i64 0, .int .i64 0, .int .i64 0] 23)
  have g1 := heap_alloc_new (w.alloc (.cells #[.int .i64 0, .int .i64 0, .int .i64 0] 23)) (.cells #[.int .i64 0, .int .i64 0, .int .i64 0] 23)
  rw [World.size_alloc] at g1
  have HR0 := Lib.hid (show PickRel w _ (minOf (ss.take 0)) from ⟨g0, g1, ((Below.refl _ w).alloc (Nat.le_refl _) _).alloc (by simp) _⟩)
  clear g0 g1 h
  go_enter Tryd.func16, Tryd.ntmps16
  go_wp2
  go_loopw [4] (fun i wr => ∃ j : Nat, i = .int .i64 j ∧ j ≤ n ∧ PickRel w wr (minOf (ss.take j))) (fun i _ => n - (intOf i).toNat)
  case atStart => exact ⟨0, rfl, Nat.zero_le _, HR0.out⟩
  case round =>
    obtain ⟨j, rfl, hj, hR⟩ := hrel
    clear HR0
    obtain ⟨m, hm⟩ : ∃ m, m = minOf (ss.take j) := ⟨_, rfl⟩
    by_cases hlt : j < n
    · have hlt2 : j < ss.length := by have := HL.out; omega
      have hp := pick_take (fun m x => lessB x m) ss j hlt2
      have hin := HIN.out.later hR.below
      obtain ⟨x, rfl, hx⟩ := hin.at j hlt2
      obtain ⟨s, hs⟩ : ∃ s, s = ss[j]'hlt2 := ⟨_, rfl⟩
      rw [← hs] at hx hp
      have HP := Lib.hid (show minOf (ss.take (j + 1)) = nxt (fun m x => lessB x m) j m s by rw [hm]; exact hp)
      rw [← hm] at hR
      obtain ⟨p0, p1, p2⟩ := hx
      rw [fld x (j * 3) 1 (by decide)] at p1
      rw [fld x (j * 3) 2 (by decide)] at p2
      have hRA := hR
      obtain ⟨m0, m1, m2, f0, f1, f2⟩ := box_cells hRA.cur
      have cL := fun wx => rLess_any s m wx
      unfold TelPost at cL
      have HRA := Lib.hid hRA
      have hz : w.heap.size + 2 ≤ wr.heap.size := lt_of_block hR.cur
      have HPS := Lib.hid (show (wr.cell? (x.add (j * 3)) = some (.int .i64 s.w) ∧ wr.cell? ⟨(x.add (j * 3)).block, (x.add (j * 3)).off + 1, none⟩ = some (.int .i64 s.l) ∧ wr.cell? ⟨(x.add (j * 3)).block, (x.add (j * 3)).off + 2, none⟩ = some (.int .i64 s.n)) from ⟨p0, p1, p2⟩)
      clear hp hin hs hm hR hRA
      by_cases hj0 : j = 0
      · have e0 : ((j : Int) == 0) = true := by simpa using hj0
        have HN : Hid (nxt (fun m x => lessB x m) j m s = s) := by show _ = _; unfold nxt; rw [hj0]; rfl
        clear cL hj0
        go_wp2_with fail
        go_quiet (fail)
        all_goals (
          go_wp2
          go_roundw
          case rel => exact ⟨j + 1, by go_num, by omega, by rw [HP.out, HN.out]; exact (HRA.out.step (below_drewN (Below.refl _ wr) _)).set s⟩
          case measure => simp [intOf]; omega)
      · have e0 : ((j : Int) == 0) = false := by simpa using hj0
        have hj1 : (j == 0) = false := by simpa using hj0
        cases hless : lessB s m with
        | true =>
          rw [hless] at cL
          have HN : Hid (nxt (fun m x => lessB x m) j m s = s) := by show _ = _; unfold nxt; rw [show (fun m x => lessB x m) m s = true from hless, Bool.or_true]; rfl
          clear hj0 hj1 hless
          go_wp2_with fail
          go_region_held3 (fun w' => (w'.cell? ⟨w.heap.size + 1, 0, none⟩ = some (.int .i64 m.w) ∧ w'.cell? ⟨w.heap.size + 1, 1, none⟩ = some (.int .i64 m.l) ∧ w'.cell? ⟨w.heap.size + 1, 2, none⟩ = some (.int .i64 m.n)) ∧ w'.cell? (x.add (j * 3)) = some (.int .i64 s.w) ∧ w'.cell? ⟨(x.add (j * 3)).block, (x.add (j * 3)).off + 1, none⟩ = some (.int .i64 s.l) ∧ w'.cell? ⟨(x.add (j * 3)).block, (x.add (j * 3)).off + 2, none⟩ = some (.int .i64 s.n))
            (first | exact ⟨⟨m0, m1, m2⟩, p0, p1, p2⟩ | go_keep)
            (first
              | (go_at_call 12; (with_reducible refine (cL _).mono ?_); rintro e W2 ⟨rfl, b2⟩; have h2 := HRA.out.step ((Below.refl _ wr).drew.trans (b2.mono (Nat.le_refl _))); have q0 := (b2.cell (World.block_lt_of_cell? wr _ p0)).trans p0; have q1 := (b2.cell (World.block_lt_of_cell? wr _ p1)).trans p1; have q2 := (b2.cell (World.block_lt_of_cell? wr _ p2)).trans p2; obtain ⟨r0, r1, r2, k0, k1, k2⟩ := box_cells h2.cur))
          all_goals (
            have H2 := Lib.hid h2
            clear b2 h2 m0 m1 m2 f0 f1 f2 p0 p1 p2 cL
            go_wp2
            go_roundw
            case rel => exact ⟨j + 1, by go_num, by omega, by rw [HP.out, HN.out]; exact H2.out.set s⟩
            case measure => simp [intOf]; omega)
        | false =>
          rw [hless] at cL
          have HN : Hid (nxt (fun m x => lessB x m) j m s = m) := by show _ = _; unfold nxt; rw [show (fun m x => lessB x m) m s = false from hless, hj1]; rfl
          clear hj0 hj1 hless
          go_wp2_with fail
          go_region_held3 (fun w' => (w'.cell? ⟨w.heap.size + 1, 0, none⟩ = some (.int .i64 m.w) ∧ w'.cell? ⟨w.heap.size + 1, 1, none⟩ = some (.int .i64 m.l) ∧ w'.cell? ⟨w.heap.size + 1, 2, none⟩ = some (.int .i64 m.n)) ∧ w'.cell? (x.add (j * 3)) = some (.int .i64 s.w) ∧ w'.cell? ⟨(x.add (j * 3)).block, (x.add (j * 3)).off + 1, none⟩ = some (.int .i64 s.l) ∧ w'.cell? ⟨(x.add (j * 3)).block, (x.add (j * 3)).off + 2, none⟩ = some (.int .i64 s.n))
            (first | exact ⟨⟨m0, m1, m2⟩, p0, p1, p2⟩ | go_keep)
            (first
              | (go_at_call 12; (with_reducible refine (cL _).mono ?_); rintro e W2 ⟨rfl, b2⟩; have h2 := HRA.out.step ((Below.refl _ wr).drew.trans (b2.mono (Nat.le_refl _))); have q0 := (b2.cell (World.block_lt_of_cell? wr _ p0)).trans p0; have q1 := (b2.cell (World.block_lt_of_cell? wr _ p1)).trans p1; have q2 := (b2.cell (World.block_lt_of_cell? wr _ p2)).trans p2; obtain ⟨r0, r1, r2, k0, k1, k2⟩ := box_cells h2.cur))
          all_goals (
            have H2 := Lib.hid h2
            clear b2 h2 m0 m1 m2 f0 f1 f2 p0 p1 p2 cL
            go_wp2
            go_roundw
            case rel => exact ⟨j + 1, by go_num, by omega, by rw [HP.out, HN.out]; exact H2.out⟩
            case measure => simp [intOf]; omega)
    · have hjn : ss.take j = ss := List.take_of_length_le (by have := HL.out; omega)
      rw [hjn] at hm hR
      rw [← hm] at hR
      have HM := Lib.hid hm
      obtain ⟨r0, r1, r2, k0, k1, k2⟩ := box_cells hR.cur
      obtain ⟨t0, t1, t2, l0, l1, l2⟩ := box_cells hR.res
      have GE := set3 hR.res (.int .i64 m.w) (.int .i64 m.l) (.int .i64 m.n)
      obtain ⟨z0, z1, z2, _⟩ := box_cells GE
      have HB := Lib.hid (below3 hR.below (Nat.le_refl _) (.int .i64 m.w) (.int .i64 m.l) (.int .i64 m.n))
      clear hR hm hjn GE
      go_wp2
      refine bodyPost_ret (v := .agg #[.int .i64 m.w, .int .i64 m.l, .int .i64 m.n]) (by simp [results, Tryd.results16, go_sem, z0, z1, z2]) rfl ?_
      exact ⟨by rw [HM.out], HB.out⟩

end Go.Proofs.YtijnmhiiojkcgaaDoor
