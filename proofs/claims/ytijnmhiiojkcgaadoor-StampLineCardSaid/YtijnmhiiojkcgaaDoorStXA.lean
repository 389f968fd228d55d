/-
  StampLine: the first one is less, the second one less than the third.
-/
import Derived.Test.YtijnmhiiojkcgaaDoorStX
set_option linter.unusedVariables false
namespace Go.Proofs.YtijnmhiiojkcgaaDoor
open Go.RowKit

set_option maxHeartbeats 40000000 in
set_option maxRecDepth 100000 in
theorem line_a (a b c : Sm) (w : World) (h0 : SmI a) (h1 : SmI b) (h2 : SmI c) (ht : Tab w) (k1 : lessB a b = true) (k3 : lessB b c = true) :
    Calls Tryd.prog 7 #[.agg #[.int .i64 a.w, .int .i64 a.l, .int .i64 a.n], .agg #[.int .i64 b.w, .int .i64 b.l, .int .i64 b.n], .agg #[.int .i64 c.w, .int .i64 c.l, .int .i64 c.n]] w (TelPost (.bool true) w) := by
  have HT := Lib.hid ht
  have bA := (((Below.refl w.heap.size w).alloc (Nat.le_refl _) (.cells #[.int .i64 a.w, .int .i64 a.l, .int .i64 a.n] 23)).alloc (by simp) (.cells #[.int .i64 b.w, .int .i64 b.l, .int .i64 b.n] 23)).alloc (by simp; omega) (.cells #[.int .i64 c.w, .int .i64 c.l, .int .i64 c.n] 23)
  have hA := ((Box3.new w a.w a.l a.n 23).later ((Below.refl _ _).alloc (Nat.le_refl _) (.cells #[.int .i64 b.w, .int .i64 b.l, .int .i64 b.n] 23))).later ((Below.refl _ _).alloc (Nat.le_refl _) (.cells #[.int .i64 c.w, .int .i64 c.l, .int .i64 c.n] 23))
  have hB := (Box3.new (w.alloc (.cells #[.int .i64 a.w, .int .i64 a.l, .int .i64 a.n] 23)) b.w b.l b.n 23).later ((Below.refl _ _).alloc (Nat.le_refl _) (.cells #[.int .i64 c.w, .int .i64 c.l, .int .i64 c.n] 23))
  have hC := Box3.new ((w.alloc (.cells #[.int .i64 a.w, .int .i64 a.l, .int .i64 a.n] 23)).alloc (.cells #[.int .i64 b.w, .int .i64 b.l, .int .i64 b.n] 23)) c.w c.l c.n 23
  rw [World.size_alloc] at hB
  rw [World.size_alloc, World.size_alloc] at hC
  have HS := Lib.hid (show _ ∧ _ ∧ _ ∧ _ from ⟨bA, hA, hB, hC⟩)
  have CA := Lib.hid fun wx (hx : Below w.heap.size w wx) => awake_any wx (HT.out.later hx)
  obtain ⟨T1, hT1⟩ : ∃ T, T = (⟨(textL a).toArray⟩ : ByteArray) := ⟨_, rfl⟩
  obtain ⟨T2, hT2⟩ : ∃ T, T = (⟨(textL b).toArray⟩ : ByteArray) := ⟨_, rfl⟩
  have CT1 := Lib.hid fun wx (hx : Below w.heap.size w wx) => text_as a h0 T1 hT1.symm wx (HT.out.later hx)
  have CT2 := Lib.hid fun wx (hx : Below w.heap.size w wx) => text_as b h1 T2 hT2.symm wx (HT.out.later hx)
  obtain ⟨L1, hL1⟩ : ∃ L, lessB a b = L := ⟨_, rfl⟩
  obtain ⟨L2, hL2⟩ : ∃ L, lessB b a = L := ⟨_, rfl⟩
  obtain ⟨L3, hL3⟩ : ∃ L, lessB b c = L := ⟨_, rfl⟩
  obtain ⟨L4, hL4⟩ : ∃ L, lessB a c = L := ⟨_, rfl⟩
  have C1 := Lib.hid fun wx (hx : Below w.heap.size w wx) => less_as a b L1 hL1 wx
  have C2 := Lib.hid fun wx (hx : Below w.heap.size w wx) => less_as b a L2 hL2 wx
  have C3 := Lib.hid fun wx (hx : Below w.heap.size w wx) => less_as b c L3 hL3 wx
  have C4 := Lib.hid fun wx (hx : Below w.heap.size w wx) => less_as a c L4 hL4 wx
  clear bA hA hB hC ht
  have hab : a ≠ b := fun e => by rw [e, less_irr] at k1; cases k1
  obtain rfl : L1 = true := by rw [← hL1]; exact k1
  obtain rfl : L2 = false := by rw [← hL2]; exact less_asym k1
  obtain rfl : L3 = true := by rw [← hL3]; exact k3
  obtain rfl : L4 = true := by rw [← hL4]; exact less_trans k1 k3
  have hTT : ¬ T1 = T2 := fun e => hab (textL_inj (by have h := congrArg (fun t : ByteArray => t.data.toList) e; simp only [hT1, hT2] at h; exact h))
  have e1 := txt_ne hTT
  have hq : ∀ W, (Op.equalIn 10000 23 (.agg #[.int .i64 a.w, .int .i64 a.l, .int .i64 a.n]) (.agg #[.int .i64 b.w, .int .i64 b.l, .int .i64 b.n])).run Tryd.prog W = .ok false W := fun W => by rw [eq_stamp, decide_eq_false hab]
  have CM1 := Lib.hid fun V g h => max_two a b b (by unfold maxOf pick; simp [hL1]) V g h
  have CM2 := Lib.hid fun V g h => max_two b a b (by unfold maxOf pick; simp [hL2]) V g h
  have CN1 := Lib.hid fun V g h => min_two a b a (by unfold minOf pick; simp [hL2]) V g h
  have CN2 := Lib.hid fun V g h => min_two b a a (by unfold minOf pick; simp [hL1]) V g h
  clear hTT hT1 hT2 hab hL1 hL2 hL3 hL4 k1 k3
  have c1 := C1.out _ HS.out.1
  go_enter Tryd.func7, Tryd.ntmps7
  go_wp2_with (go_at_call 11; (with_reducible refine c1.mono ?_))
  rintro e W1 ⟨rfl, b1⟩
  have hs1 := keep3 HS.out b1
  have c2 := C2.out _ hs1.1
  obtain ⟨_, ⟨x0, x1, x2⟩, ⟨y0, y1, y2⟩, _⟩ := id hs1
  have HS1 := Lib.hid hs1
  clear b1 c1 hs1
  go_wp2_with (go_at_call 11; (with_reducible refine c2.mono ?_))
  rintro e W2 ⟨rfl, b2⟩
  have hs2 := keep3 HS1.out b2
  have HS2 := Lib.hid hs2
  have HT2 := Lib.hid (keep3 hs2 (Below.refl _ _).drew)
  clear b2 c2 x0 x1 x2 y0 y1 y2 hs2
  go_wp2_with fail
  go_region_held3 (fun w' => Below w.heap.size w w' ∧ (w'.cell? ⟨w.heap.size, 0, none⟩ = some (.int .i64 a.w) ∧ w'.cell? ⟨w.heap.size, 1, none⟩ = some (.int .i64 a.l) ∧ w'.cell? ⟨w.heap.size, 2, none⟩ = some (.int .i64 a.n)) ∧ (w'.cell? ⟨w.heap.size + 1, 0, none⟩ = some (.int .i64 b.w) ∧ w'.cell? ⟨w.heap.size + 1, 1, none⟩ = some (.int .i64 b.l) ∧ w'.cell? ⟨w.heap.size + 1, 2, none⟩ = some (.int .i64 b.n)) ∧ (w'.cell? ⟨w.heap.size + 1 + 1, 0, none⟩ = some (.int .i64 c.w) ∧ w'.cell? ⟨w.heap.size + 1 + 1, 1, none⟩ = some (.int .i64 c.l) ∧ w'.cell? ⟨w.heap.size + 1 + 1, 2, none⟩ = some (.int .i64 c.n)))
    (first | exact HT2.out | exact hs4 | exact hs3 | exact keep3 (by assumption) (Below.refl _ _).drew | exact keep3 (by assumption) ((Below.refl _ _).alloc (Nat.le_refl _) _) | go_keep)
    (first
      | (go_at_call 21; (with_reducible refine (CT1.out _ (And.left (by assumption))).mono ?_); rintro e V3 ⟨rfl, b3⟩; have hs3 := keep3 (by assumption) b3)
      | (go_at_call 21; (with_reducible refine (CT2.out _ (And.left (by assumption))).mono ?_); rintro e V4 ⟨rfl, b4⟩; have hs4 := keep3 (by assumption) b4)
      | fail)
  have HT4 := Lib.hid (keep3 hs4 (Below.refl _ _).drew)
  clear hs3 hs4 b3 b4
  go_wp2_with fail
  refine wp_region_noPanic ?_
  refine wp_region_held_drew (S := (fun w' => Below w.heap.size w w' ∧ (w'.cell? ⟨w.heap.size, 0, none⟩ = some (.int .i64 a.w) ∧ w'.cell? ⟨w.heap.size, 1, none⟩ = some (.int .i64 a.l) ∧ w'.cell? ⟨w.heap.size, 2, none⟩ = some (.int .i64 a.n)) ∧ (w'.cell? ⟨w.heap.size + 1, 0, none⟩ = some (.int .i64 b.w) ∧ w'.cell? ⟨w.heap.size + 1, 1, none⟩ = some (.int .i64 b.l) ∧ w'.cell? ⟨w.heap.size + 1, 2, none⟩ = some (.int .i64 b.n)) ∧ (w'.cell? ⟨w.heap.size + 1 + 1, 0, none⟩ = some (.int .i64 c.w) ∧ w'.cell? ⟨w.heap.size + 1 + 1, 1, none⟩ = some (.int .i64 c.l) ∧ w'.cell? ⟨w.heap.size + 1 + 1, 2, none⟩ = some (.int .i64 c.n)))) (by kernel_rfl) ?_ (fun hH0 => ?_)
  · (try dsimp only); exact HT4.out
  refine wpAnyH_take (i := 0) (oi := { dst := some 39, op := Op.load 23 (Operand.tmp 3), type := 23, pos := "law.go:77", after := #[], guard := none }) (v := ?_) rfl (by kernel_rfl) (by kernel_rfl) (by kernel_rfl) (fun _ _ _ h => h) (Or.inl ⟨by rfl, ?_⟩) (by assumption) ?_
  rotate_left
  · (intro w hSw; (try dsimp only at hSw); go_simp <;> with_reducible rfl)
  (try simp only [Act.put, List.setIfInBounds_toArray, List.set_cons_zero, List.set_cons_succ])
  refine wpAnyH_take (i := 1) (oi := { dst := some 40, op := Op.load 23 (Operand.tmp 4), type := 23, pos := "law.go:77", after := #[], guard := none }) (v := ?_) rfl (by kernel_rfl) (by kernel_rfl) (by kernel_rfl) (fun _ _ _ h => h) (Or.inl ⟨by rfl, ?_⟩) (by assumption) ?_
  rotate_left
  · (intro w hSw; (try dsimp only at hSw); go_simp <;> with_reducible rfl)
  (try simp only [Act.put, List.setIfInBounds_toArray, List.set_cons_zero, List.set_cons_succ])
  refine wpAnyH_ready (rs := [2]) (by kernel_rfl) (by simp) ?_
  refine AllReadyH.cons (o := { dst := some 41, op := Op.call { callee := Callee.value (Operand.func 11), args := #[Operand.tmp 39, Operand.tmp 40], argTypes := #[23, 23] }, type := 4, pos := "law.go:77", after := #[{ on := 0, ground := Ground.data }, { on := 1, ground := Ground.data }], guard := none }) rfl (fun K hK => ?_) ?_
  · go_simp
    (go_at_call 11; (with_reducible refine (C1.out _ (And.left (by assumption))).mono ?_); rintro e V5 ⟨rfl, b5⟩; have hs5 := keep3 (by assumption) b5)
    try (go_wp2_with fail)
    refine hK.out _ _ ?_ (fun hH1 => ?_)
    · (try dsimp only); (first | exact HT4.out | exact hs12 | exact hs11 | exact hs10 | exact hs9 | exact hs8 | exact hs7 | exact hs6 | exact hs5 | exact keep3 (by assumption) (Below.refl _ _).drew | exact keep3 (by assumption) ((Below.refl _ _).alloc (Nat.le_refl _) _) | exact hH0 | go_keep)
    clear hK K
    (try simp only [Act.put, List.setIfInBounds_toArray, List.set_cons_zero, List.set_cons_succ])
    clear hH0
    refine wpAnyH_take (i := 3) (oi := { dst := some 42, op := Op.unOp UnOp.not 4 (Operand.tmp 41), type := 4, pos := "law.go:77", after := #[{ on := 2, ground := Ground.data }], guard := none }) (v := ?_) rfl (by kernel_rfl) (by kernel_rfl) (by kernel_rfl) (fun _ _ _ h => h) (Or.inl ⟨by rfl, ?_⟩) (by assumption) ?_
    rotate_left
    · (intro w hSw; (try dsimp only at hSw); go_simp <;> with_reducible rfl)
    (try simp only [Act.put, List.setIfInBounds_toArray, List.set_cons_zero, List.set_cons_succ])
    refine wpAnyH_take (i := 4) (oi := { dst := some 43, op := Op.move (Operand.tmp 42), type := 4, pos := "law.go:77", after := #[{ on := 3, ground := Ground.data }, { on := 2, ground := Ground.chain }], guard := none }) (v := ?_) rfl (by kernel_rfl) (by kernel_rfl) (by kernel_rfl) (fun _ _ _ h => h) (Or.inl ⟨by rfl, ?_⟩) (by assumption) ?_
    rotate_left
    · (intro w hSw; (try dsimp only at hSw); go_simp <;> with_reducible rfl)
    (try simp only [Act.put, List.setIfInBounds_toArray, List.set_cons_zero, List.set_cons_succ])
    refine wpAnyH_take (i := 5) (oi := { dst := some 44, op := Op.load 23 (Operand.tmp 4), type := 23, pos := "law.go:77", after := #[{ on := 4, ground := Ground.guard }], guard := some (4, false) }) (v := ?_) rfl (by kernel_rfl) (by kernel_rfl) (by kernel_rfl) (fun _ _ _ h => h) (Or.inl ⟨by rfl, ?_⟩) (by assumption) ?_
    rotate_left
    · (intro w hSw; (try dsimp only at hSw); go_simp <;> with_reducible rfl)
    (try simp only [Act.put, List.setIfInBounds_toArray, List.set_cons_zero, List.set_cons_succ])
    refine wpAnyH_take (i := 6) (oi := { dst := some 45, op := Op.load 23 (Operand.tmp 5), type := 23, pos := "law.go:77", after := #[{ on := 4, ground := Ground.guard }], guard := some (4, false) }) (v := ?_) rfl (by kernel_rfl) (by kernel_rfl) (by kernel_rfl) (fun _ _ _ h => h) (Or.inl ⟨by rfl, ?_⟩) (by assumption) ?_
    rotate_left
    · (intro w hSw; (try dsimp only at hSw); go_simp <;> with_reducible rfl)
    (try simp only [Act.put, List.setIfInBounds_toArray, List.set_cons_zero, List.set_cons_succ])
    refine wpAnyH_ready (rs := [7]) (by kernel_rfl) (by simp) ?_
    refine AllReadyH.cons (o := { dst := some 46, op := Op.call { callee := Callee.value (Operand.func 11), args := #[Operand.tmp 44, Operand.tmp 45], argTypes := #[23, 23] }, type := 4, pos := "law.go:77", after := #[{ on := 5, ground := Ground.data }, { on := 6, ground := Ground.data }, { on := 4, ground := Ground.chain }, { on := 4, ground := Ground.guard }], guard := some (4, false) }) rfl (fun K hK => ?_) ?_
    · go_simp
      (go_at_call 11; (with_reducible refine (C3.out _ (And.left (by assumption))).mono ?_); rintro e V6 ⟨rfl, b6⟩; have hs6 := keep3 (by assumption) b6)
      try (go_wp2_with fail)
      refine hK.out _ _ ?_ (fun hH2 => ?_)
      · (try dsimp only); (first | exact HT4.out | exact hs12 | exact hs11 | exact hs10 | exact hs9 | exact hs8 | exact hs7 | exact hs6 | exact hs5 | exact keep3 (by assumption) (Below.refl _ _).drew | exact keep3 (by assumption) ((Below.refl _ _).alloc (Nat.le_refl _) _) | exact hH1 | go_keep)
      clear hK K
      (try simp only [Act.put, List.setIfInBounds_toArray, List.set_cons_zero, List.set_cons_succ])
      clear hH1
      refine wpAnyH_take (i := 8) (oi := { dst := some 47, op := Op.unOp UnOp.not 4 (Operand.tmp 46), type := 4, pos := "law.go:77", after := #[{ on := 7, ground := Ground.data }, { on := 4, ground := Ground.guard }], guard := some (4, false) }) (v := ?_) rfl (by kernel_rfl) (by kernel_rfl) (by kernel_rfl) (fun _ _ _ h => h) (Or.inl ⟨by rfl, ?_⟩) (by assumption) ?_
      rotate_left
      · (intro w hSw; (try dsimp only at hSw); go_simp <;> with_reducible rfl)
      (try simp only [Act.put, List.setIfInBounds_toArray, List.set_cons_zero, List.set_cons_succ])
      refine wpAnyH_take (i := 9) (oi := { dst := some 48, op := Op.pick (Operand.tmp 43) (Operand.const (Value.bool true)) (Operand.tmp 47), type := 4, pos := "law.go:77", after := #[{ on := 4, ground := Ground.data }, { on := 8, ground := Ground.data }], guard := none }) (v := ?_) rfl (by kernel_rfl) (by kernel_rfl) (by kernel_rfl) (fun _ _ _ h => h) (Or.inl ⟨by rfl, ?_⟩) (by assumption) ?_
      rotate_left
      · (intro w hSw; (try dsimp only at hSw); go_simp <;> with_reducible rfl)
      (try simp only [Act.put, List.setIfInBounds_toArray, List.set_cons_zero, List.set_cons_succ])
      refine wpAnyH_take (i := 10) (oi := { dst := some 49, op := Op.move (Operand.tmp 48), type := 4, pos := "law.go:77", after := #[{ on := 9, ground := Ground.data }, { on := 7, ground := Ground.chain }], guard := none }) (v := ?_) rfl (by kernel_rfl) (by kernel_rfl) (by kernel_rfl) (fun _ _ _ h => h) (Or.inl ⟨by rfl, ?_⟩) (by assumption) ?_
      rotate_left
      · (intro w hSw; (try dsimp only at hSw); go_simp <;> with_reducible rfl)
      (try simp only [Act.put, List.setIfInBounds_toArray, List.set_cons_zero, List.set_cons_succ])
      refine wpAnyH_take (i := 11) (oi := { dst := some 50, op := Op.load 23 (Operand.tmp 3), type := 23, pos := "law.go:77", after := #[{ on := 10, ground := Ground.guard }], guard := some (10, false) }) (v := ?_) rfl (by kernel_rfl) (by kernel_rfl) (by kernel_rfl) (fun _ _ _ h => h) (Or.inl ⟨by rfl, ?_⟩) (by assumption) ?_
      rotate_left
      · (intro w hSw; (try dsimp only at hSw); go_simp <;> with_reducible rfl)
      (try simp only [Act.put, List.setIfInBounds_toArray, List.set_cons_zero, List.set_cons_succ])
      refine wpAnyH_take (i := 12) (oi := { dst := some 51, op := Op.load 23 (Operand.tmp 5), type := 23, pos := "law.go:77", after := #[{ on := 10, ground := Ground.guard }], guard := some (10, false) }) (v := ?_) rfl (by kernel_rfl) (by kernel_rfl) (by kernel_rfl) (fun _ _ _ h => h) (Or.inl ⟨by rfl, ?_⟩) (by assumption) ?_
      rotate_left
      · (intro w hSw; (try dsimp only at hSw); go_simp <;> with_reducible rfl)
      (try simp only [Act.put, List.setIfInBounds_toArray, List.set_cons_zero, List.set_cons_succ])
      refine wpAnyH_ready (rs := [13]) (by kernel_rfl) (by simp) ?_
      refine AllReadyH.cons (o := { dst := some 52, op := Op.call { callee := Callee.value (Operand.func 11), args := #[Operand.tmp 50, Operand.tmp 51], argTypes := #[23, 23] }, type := 4, pos := "law.go:77", after := #[{ on := 11, ground := Ground.data }, { on := 12, ground := Ground.data }, { on := 10, ground := Ground.chain }, { on := 10, ground := Ground.guard }], guard := some (10, false) }) rfl (fun K hK => ?_) ?_
      · go_simp
        (go_at_call 11; (with_reducible refine (C4.out _ (And.left (by assumption))).mono ?_); rintro e V7 ⟨rfl, b7⟩; have hs7 := keep3 (by assumption) b7)
        try (go_wp2_with fail)
        refine hK.out _ _ ?_ (fun hH3 => ?_)
        · (try dsimp only); (first | exact HT4.out | exact hs12 | exact hs11 | exact hs10 | exact hs9 | exact hs8 | exact hs7 | exact hs6 | exact hs5 | exact keep3 (by assumption) (Below.refl _ _).drew | exact keep3 (by assumption) ((Below.refl _ _).alloc (Nat.le_refl _) _) | exact hH2 | go_keep)
        clear hK K
        (try simp only [Act.put, List.setIfInBounds_toArray, List.set_cons_zero, List.set_cons_succ])
        clear hH2
        refine wpAnyH_take (i := 14) (oi := { dst := some 53, op := Op.pick (Operand.tmp 49) (Operand.const (Value.bool true)) (Operand.tmp 52), type := 4, pos := "law.go:77", after := #[{ on := 10, ground := Ground.data }, { on := 13, ground := Ground.data }], guard := none }) (v := ?_) rfl (by kernel_rfl) (by kernel_rfl) (by kernel_rfl) (fun _ _ _ h => h) (Or.inl ⟨by rfl, ?_⟩) (by assumption) ?_
        rotate_left
        · (intro w hSw; (try dsimp only at hSw); go_simp <;> with_reducible rfl)
        (try simp only [Act.put, List.setIfInBounds_toArray, List.set_cons_zero, List.set_cons_succ])
        refine wpAnyH_take (i := 15) (oi := { dst := some 54, op := Op.move (Operand.tmp 53), type := 4, pos := "law.go:77", after := #[{ on := 14, ground := Ground.data }, { on := 13, ground := Ground.chain }], guard := none }) (v := ?_) rfl (by kernel_rfl) (by kernel_rfl) (by kernel_rfl) (fun _ _ _ h => h) (Or.inl ⟨by rfl, ?_⟩) (by assumption) ?_
        rotate_left
        · (intro w hSw; (try dsimp only at hSw); go_simp <;> with_reducible rfl)
        (try simp only [Act.put, List.setIfInBounds_toArray, List.set_cons_zero, List.set_cons_succ])
        refine wpAnyH_take (i := 16) (oi := { dst := some 55, op := Op.load 23 (Operand.tmp 3), type := 23, pos := "law.go:77", after := #[{ on := 15, ground := Ground.guard }], guard := some (15, true) }) (v := ?_) rfl (by kernel_rfl) (by kernel_rfl) (by kernel_rfl) (fun _ _ _ h => h) (Or.inl ⟨by rfl, ?_⟩) (by assumption) ?_
        rotate_left
        · (intro w hSw; (try dsimp only at hSw); go_simp <;> with_reducible rfl)
        (try simp only [Act.put, List.setIfInBounds_toArray, List.set_cons_zero, List.set_cons_succ])
        refine wpAnyH_take (i := 17) (oi := { dst := some 56, op := Op.load 23 (Operand.tmp 4), type := 23, pos := "law.go:77", after := #[{ on := 15, ground := Ground.guard }], guard := some (15, true) }) (v := ?_) rfl (by kernel_rfl) (by kernel_rfl) (by kernel_rfl) (fun _ _ _ h => h) (Or.inl ⟨by rfl, ?_⟩) (by assumption) ?_
        rotate_left
        · (intro w hSw; (try dsimp only at hSw); go_simp <;> with_reducible rfl)
        (try simp only [Act.put, List.setIfInBounds_toArray, List.set_cons_zero, List.set_cons_succ])
        refine wpAnyH_take (i := 20) (oi := { dst := some 59, op := Op.load 23 (Operand.tmp 4), type := 23, pos := "law.go:77", after := #[{ on := 15, ground := Ground.guard }], guard := some (15, true) }) (v := ?_) rfl (by kernel_rfl) (by kernel_rfl) (by kernel_rfl) (fun _ _ _ h => h) (Or.inl ⟨by rfl, ?_⟩) (by assumption) ?_
        rotate_left
        · (intro w hSw; (try dsimp only at hSw); go_simp <;> with_reducible rfl)
        (try simp only [Act.put, List.setIfInBounds_toArray, List.set_cons_zero, List.set_cons_succ])
        refine wpAnyH_take (i := 21) (oi := { dst := some 60, op := Op.load 23 (Operand.tmp 3), type := 23, pos := "law.go:77", after := #[{ on := 15, ground := Ground.guard }], guard := some (15, true) }) (v := ?_) rfl (by kernel_rfl) (by kernel_rfl) (by kernel_rfl) (fun _ _ _ h => h) (Or.inl ⟨by rfl, ?_⟩) (by assumption) ?_
        rotate_left
        · (intro w hSw; (try dsimp only at hSw); go_simp <;> with_reducible rfl)
        (try simp only [Act.put, List.setIfInBounds_toArray, List.set_cons_zero, List.set_cons_succ])
        refine wpAnyH_ready (rs := [18, 22]) (by kernel_rfl) (by simp) ?_
        refine AllReadyH.cons (o := { dst := some 57, op := Op.buildSlice 24 2 #[(0, Operand.tmp 55), (1, Operand.tmp 56)], type := 24, pos := "law.go:77", after := #[{ on := 16, ground := Ground.data }, { on := 17, ground := Ground.data }, { on := 15, ground := Ground.guard }], guard := some (15, true) }) rfl (fun K hK => ?_) ?_
        · go_simp
          refine hK.out _ _ ?_ (fun hH4 => ?_)
          · (try dsimp only); (first | exact HT4.out | exact hs12 | exact hs11 | exact hs10 | exact hs9 | exact hs8 | exact hs7 | exact hs6 | exact hs5 | exact keep3 (by assumption) (Below.refl _ _).drew | exact keep3 (by assumption) ((Below.refl _ _).alloc (Nat.le_refl _) _) | exact hH3 | go_keep)
          clear hK K
          (try simp only [Act.put, List.setIfInBounds_toArray, List.set_cons_zero, List.set_cons_succ])
          clear hH3
          refine wpAnyH_ready (rs := [19, 22]) (by kernel_rfl) (by simp) ?_
          refine AllReadyH.cons (o := { dst := some 58, op := Op.call { callee := Callee.value (Operand.func 13), args := #[Operand.tmp 57], argTypes := #[24] }, type := 23, pos := "law.go:77", after := #[{ on := 18, ground := Ground.data }, { on := 15, ground := Ground.chain }, { on := 15, ground := Ground.guard }], guard := some (15, true) }) rfl (fun K hK => ?_) ?_
          · go_simp
            (go_at_call 13; (with_reducible refine (CM1.out _ _ ?hm8).mono ?_); (case hm8 => first | exact heap_alloc_new _ _ | exact box_alloc (heap_alloc_new _ _) _ | exact heap_alloc_two _ _ _ | fail); rintro e V8 ⟨rfl, b8⟩; have hs8 := keep3 (by assumption) b8)
            try (go_wp2_with fail)
            refine hK.out _ _ ?_ (fun hH5 => ?_)
            · (try dsimp only); (first | exact HT4.out | exact hs12 | exact hs11 | exact hs10 | exact hs9 | exact hs8 | exact hs7 | exact hs6 | exact hs5 | exact keep3 (by assumption) (Below.refl _ _).drew | exact keep3 (by assumption) ((Below.refl _ _).alloc (Nat.le_refl _) _) | exact hH4 | go_keep)
            clear hK K
            (try simp only [Act.put, List.setIfInBounds_toArray, List.set_cons_zero, List.set_cons_succ])
            clear hH4
            refine wpAnyH_ready (rs := [22]) (by kernel_rfl) (by simp) ?_
            refine AllReadyH.cons (o := { dst := some 61, op := Op.buildSlice 24 2 #[(0, Operand.tmp 59), (1, Operand.tmp 60)], type := 24, pos := "law.go:77", after := #[{ on := 20, ground := Ground.data }, { on := 21, ground := Ground.data }, { on := 15, ground := Ground.guard }], guard := some (15, true) }) rfl (fun K hK => ?_) ?_
            · go_simp
              refine hK.out _ _ ?_ (fun hH6 => ?_)
              · (try dsimp only); (first | exact HT4.out | exact hs12 | exact hs11 | exact hs10 | exact hs9 | exact hs8 | exact hs7 | exact hs6 | exact hs5 | exact keep3 (by assumption) (Below.refl _ _).drew | exact keep3 (by assumption) ((Below.refl _ _).alloc (Nat.le_refl _) _) | exact hH5 | go_keep)
              clear hK K
              (try simp only [Act.put, List.setIfInBounds_toArray, List.set_cons_zero, List.set_cons_succ])
              clear hH5
              refine wpAnyH_ready (rs := [23]) (by kernel_rfl) (by simp) ?_
              refine AllReadyH.cons (o := { dst := some 62, op := Op.call { callee := Callee.value (Operand.func 13), args := #[Operand.tmp 61], argTypes := #[24] }, type := 23, pos := "law.go:77", after := #[{ on := 22, ground := Ground.data }, { on := 19, ground := Ground.chain }, { on := 15, ground := Ground.guard }], guard := some (15, true) }) rfl (fun K hK => ?_) ?_
              · go_simp
                (go_at_call 13; (with_reducible refine (CM2.out _ _ ?hm9).mono ?_); (case hm9 => first | exact heap_alloc_new _ _ | exact box_below (heap_alloc_two _ _ _) b8 (by simp) | exact box_below (box_alloc (heap_alloc_new _ _) _) b8 (by simp; omega) | fail); rintro e V9 ⟨rfl, b9⟩; have hs9 := keep3 (by assumption) b9)
                try (go_wp2_with fail)
                refine hK.out _ _ ?_ (fun hH7 => ?_)
                · (try dsimp only); (first | exact HT4.out | exact hs12 | exact hs11 | exact hs10 | exact hs9 | exact hs8 | exact hs7 | exact hs6 | exact hs5 | exact keep3 (by assumption) (Below.refl _ _).drew | exact keep3 (by assumption) ((Below.refl _ _).alloc (Nat.le_refl _) _) | exact hH6 | go_keep)
                clear hK K
                (try simp only [Act.put, List.setIfInBounds_toArray, List.set_cons_zero, List.set_cons_succ])
                clear hH6
                refine wpAnyH_take (i := 24) (oi := { dst := some 63, op := Op.binOp BinOp.eql 23 (Operand.tmp 58) (Operand.tmp 62) 23, type := 4, pos := "law.go:77", after := #[{ on := 19, ground := Ground.data }, { on := 23, ground := Ground.data }, { on := 15, ground := Ground.guard }], guard := some (15, true) }) (v := ?_) rfl (by kernel_rfl) (by kernel_rfl) (by kernel_rfl) (fun _ _ _ h => h) (Or.inl ⟨by rfl, ?_⟩) (by assumption) ?_
                rotate_left
                · (intro w hSw; (try dsimp only at hSw); go_simp <;> with_reducible rfl)
                (try simp only [Act.put, List.setIfInBounds_toArray, List.set_cons_zero, List.set_cons_succ])
                refine wpAnyH_take (i := 25) (oi := { dst := some 64, op := Op.pick (Operand.tmp 54) (Operand.tmp 63) (Operand.const (Value.bool false)), type := 4, pos := "law.go:77", after := #[{ on := 15, ground := Ground.data }, { on := 24, ground := Ground.data }], guard := none }) (v := ?_) rfl (by kernel_rfl) (by kernel_rfl) (by kernel_rfl) (fun _ _ _ h => h) (Or.inl ⟨by rfl, ?_⟩) (by assumption) ?_
                rotate_left
                · (intro w hSw; (try dsimp only at hSw); go_simp <;> with_reducible rfl)
                (try simp only [Act.put, List.setIfInBounds_toArray, List.set_cons_zero, List.set_cons_succ])
                refine wpAnyH_take (i := 26) (oi := { dst := some 65, op := Op.move (Operand.tmp 64), type := 4, pos := "law.go:77", after := #[{ on := 25, ground := Ground.data }, { on := 23, ground := Ground.chain }], guard := none }) (v := ?_) rfl (by kernel_rfl) (by kernel_rfl) (by kernel_rfl) (fun _ _ _ h => h) (Or.inl ⟨by rfl, ?_⟩) (by assumption) ?_
                rotate_left
                · (intro w hSw; (try dsimp only at hSw); go_simp <;> with_reducible rfl)
                (try simp only [Act.put, List.setIfInBounds_toArray, List.set_cons_zero, List.set_cons_succ])
                refine wpAnyH_take (i := 27) (oi := { dst := some 66, op := Op.load 23 (Operand.tmp 3), type := 23, pos := "law.go:77", after := #[{ on := 26, ground := Ground.guard }], guard := some (26, true) }) (v := ?_) rfl (by kernel_rfl) (by kernel_rfl) (by kernel_rfl) (fun _ _ _ h => h) (Or.inl ⟨by rfl, ?_⟩) (by assumption) ?_
                rotate_left
                · (intro w hSw; (try dsimp only at hSw); go_simp <;> with_reducible rfl)
                (try simp only [Act.put, List.setIfInBounds_toArray, List.set_cons_zero, List.set_cons_succ])
                refine wpAnyH_take (i := 28) (oi := { dst := some 67, op := Op.load 23 (Operand.tmp 4), type := 23, pos := "law.go:77", after := #[{ on := 26, ground := Ground.guard }], guard := some (26, true) }) (v := ?_) rfl (by kernel_rfl) (by kernel_rfl) (by kernel_rfl) (fun _ _ _ h => h) (Or.inl ⟨by rfl, ?_⟩) (by assumption) ?_
                rotate_left
                · (intro w hSw; (try dsimp only at hSw); go_simp <;> with_reducible rfl)
                (try simp only [Act.put, List.setIfInBounds_toArray, List.set_cons_zero, List.set_cons_succ])
                refine wpAnyH_take (i := 31) (oi := { dst := some 70, op := Op.load 23 (Operand.tmp 4), type := 23, pos := "law.go:77", after := #[{ on := 26, ground := Ground.guard }], guard := some (26, true) }) (v := ?_) rfl (by kernel_rfl) (by kernel_rfl) (by kernel_rfl) (fun _ _ _ h => h) (Or.inl ⟨by rfl, ?_⟩) (by assumption) ?_
                rotate_left
                · (intro w hSw; (try dsimp only at hSw); go_simp <;> with_reducible rfl)
                (try simp only [Act.put, List.setIfInBounds_toArray, List.set_cons_zero, List.set_cons_succ])
                refine wpAnyH_take (i := 32) (oi := { dst := some 71, op := Op.load 23 (Operand.tmp 3), type := 23, pos := "law.go:77", after := #[{ on := 26, ground := Ground.guard }], guard := some (26, true) }) (v := ?_) rfl (by kernel_rfl) (by kernel_rfl) (by kernel_rfl) (fun _ _ _ h => h) (Or.inl ⟨by rfl, ?_⟩) (by assumption) ?_
                rotate_left
                · (intro w hSw; (try dsimp only at hSw); go_simp <;> with_reducible rfl)
                (try simp only [Act.put, List.setIfInBounds_toArray, List.set_cons_zero, List.set_cons_succ])
                refine wpAnyH_ready (rs := [29, 33]) (by kernel_rfl) (by simp) ?_
                refine AllReadyH.cons (o := { dst := some 68, op := Op.buildSlice 24 2 #[(0, Operand.tmp 66), (1, Operand.tmp 67)], type := 24, pos := "law.go:77", after := #[{ on := 27, ground := Ground.data }, { on := 28, ground := Ground.data }, { on := 26, ground := Ground.guard }], guard := some (26, true) }) rfl (fun K hK => ?_) ?_
                · go_simp
                  refine hK.out _ _ ?_ (fun hH8 => ?_)
                  · (try dsimp only); (first | exact HT4.out | exact hs12 | exact hs11 | exact hs10 | exact hs9 | exact hs8 | exact hs7 | exact hs6 | exact hs5 | exact keep3 (by assumption) (Below.refl _ _).drew | exact keep3 (by assumption) ((Below.refl _ _).alloc (Nat.le_refl _) _) | exact hH7 | go_keep)
                  clear hK K
                  (try simp only [Act.put, List.setIfInBounds_toArray, List.set_cons_zero, List.set_cons_succ])
                  clear hH7
                  refine wpAnyH_ready (rs := [30, 33]) (by kernel_rfl) (by simp) ?_
                  refine AllReadyH.cons (o := { dst := some 69, op := Op.call { callee := Callee.value (Operand.func 15), args := #[Operand.tmp 68], argTypes := #[24] }, type := 23, pos := "law.go:77", after := #[{ on := 29, ground := Ground.data }, { on := 26, ground := Ground.chain }, { on := 26, ground := Ground.guard }], guard := some (26, true) }) rfl (fun K hK => ?_) ?_
                  · go_simp
                    (go_at_call 15; (with_reducible refine (CN1.out _ _ ?hm10).mono ?_); (case hm10 => first | exact heap_alloc_new _ _ | exact box_alloc (heap_alloc_new _ _) _ | exact heap_alloc_two _ _ _ | fail); rintro e V10 ⟨rfl, b10⟩; have hs10 := keep3 (by assumption) b10)
                    try (go_wp2_with fail)
                    refine hK.out _ _ ?_ (fun hH9 => ?_)
                    · (try dsimp only); (first | exact HT4.out | exact hs12 | exact hs11 | exact hs10 | exact hs9 | exact hs8 | exact hs7 | exact hs6 | exact hs5 | exact keep3 (by assumption) (Below.refl _ _).drew | exact keep3 (by assumption) ((Below.refl _ _).alloc (Nat.le_refl _) _) | exact hH8 | go_keep)
                    clear hK K
                    (try simp only [Act.put, List.setIfInBounds_toArray, List.set_cons_zero, List.set_cons_succ])
                    clear hH8
                    refine wpAnyH_ready (rs := [33]) (by kernel_rfl) (by simp) ?_
                    refine AllReadyH.cons (o := { dst := some 72, op := Op.buildSlice 24 2 #[(0, Operand.tmp 70), (1, Operand.tmp 71)], type := 24, pos := "law.go:77", after := #[{ on := 31, ground := Ground.data }, { on := 32, ground := Ground.data }, { on := 26, ground := Ground.guard }], guard := some (26, true) }) rfl (fun K hK => ?_) ?_
                    · go_simp
                      refine hK.out _ _ ?_ (fun hH10 => ?_)
                      · (try dsimp only); (first | exact HT4.out | exact hs12 | exact hs11 | exact hs10 | exact hs9 | exact hs8 | exact hs7 | exact hs6 | exact hs5 | exact keep3 (by assumption) (Below.refl _ _).drew | exact keep3 (by assumption) ((Below.refl _ _).alloc (Nat.le_refl _) _) | exact hH9 | go_keep)
                      clear hK K
                      (try simp only [Act.put, List.setIfInBounds_toArray, List.set_cons_zero, List.set_cons_succ])
                      clear hH9
                      refine wpAnyH_ready (rs := [34]) (by kernel_rfl) (by simp) ?_
                      refine AllReadyH.cons (o := { dst := some 73, op := Op.call { callee := Callee.value (Operand.func 15), args := #[Operand.tmp 72], argTypes := #[24] }, type := 23, pos := "law.go:77", after := #[{ on := 33, ground := Ground.data }, { on := 30, ground := Ground.chain }, { on := 26, ground := Ground.guard }], guard := some (26, true) }) rfl (fun K hK => ?_) ?_
                      · go_simp
                        (go_at_call 15; (with_reducible refine (CN2.out _ _ ?hm11).mono ?_); (case hm11 => first | exact heap_alloc_new _ _ | exact box_below (heap_alloc_two _ _ _) b10 (by simp) | exact box_below (box_alloc (heap_alloc_new _ _) _) b10 (by simp; omega) | fail); rintro e V11 ⟨rfl, b11⟩; have hs11 := keep3 (by assumption) b11)
                        try (go_wp2_with fail)
                        refine hK.out _ _ ?_ (fun hH11 => ?_)
                        · (try dsimp only); (first | exact HT4.out | exact hs12 | exact hs11 | exact hs10 | exact hs9 | exact hs8 | exact hs7 | exact hs6 | exact hs5 | exact keep3 (by assumption) (Below.refl _ _).drew | exact keep3 (by assumption) ((Below.refl _ _).alloc (Nat.le_refl _) _) | exact hH10 | go_keep)
                        clear hK K
                        (try simp only [Act.put, List.setIfInBounds_toArray, List.set_cons_zero, List.set_cons_succ])
                        clear hH10
                        refine wpAnyH_take (i := 35) (oi := { dst := some 74, op := Op.binOp BinOp.eql 23 (Operand.tmp 69) (Operand.tmp 73) 23, type := 4, pos := "law.go:77", after := #[{ on := 30, ground := Ground.data }, { on := 34, ground := Ground.data }, { on := 26, ground := Ground.guard }], guard := some (26, true) }) (v := ?_) rfl (by kernel_rfl) (by kernel_rfl) (by kernel_rfl) (fun _ _ _ h => h) (Or.inl ⟨by rfl, ?_⟩) (by assumption) ?_
                        rotate_left
                        · (intro w hSw; (try dsimp only at hSw); go_simp <;> with_reducible rfl)
                        (try simp only [Act.put, List.setIfInBounds_toArray, List.set_cons_zero, List.set_cons_succ])
                        refine wpAnyH_take (i := 36) (oi := { dst := some 75, op := Op.pick (Operand.tmp 65) (Operand.tmp 74) (Operand.const (Value.bool false)), type := 4, pos := "law.go:77", after := #[{ on := 26, ground := Ground.data }, { on := 35, ground := Ground.data }], guard := none }) (v := ?_) rfl (by kernel_rfl) (by kernel_rfl) (by kernel_rfl) (fun _ _ _ h => h) (Or.inl ⟨by rfl, ?_⟩) (by assumption) ?_
                        rotate_left
                        · (intro w hSw; (try dsimp only at hSw); go_simp <;> with_reducible rfl)
                        (try simp only [Act.put, List.setIfInBounds_toArray, List.set_cons_zero, List.set_cons_succ])
                        refine wpAnyH_take (i := 37) (oi := { dst := some 76, op := Op.move (Operand.tmp 75), type := 4, pos := "law.go:77", after := #[{ on := 36, ground := Ground.data }, { on := 34, ground := Ground.chain }], guard := none }) (v := ?_) rfl (by kernel_rfl) (by kernel_rfl) (by kernel_rfl) (fun _ _ _ h => h) (Or.inl ⟨by rfl, ?_⟩) (by assumption) ?_
                        rotate_left
                        · (intro w hSw; (try dsimp only at hSw); go_simp <;> with_reducible rfl)
                        (try simp only [Act.put, List.setIfInBounds_toArray, List.set_cons_zero, List.set_cons_succ])
                        refine wpAnyH_ready (rs := [38]) (by kernel_rfl) (by simp) ?_
                        refine AllReadyH.cons (o := { dst := some 77, op := Op.call { callee := Callee.value (Operand.func 10), args := #[], argTypes := #[] }, type := 4, pos := "law.go:77", after := #[{ on := 37, ground := Ground.chain }, { on := 37, ground := Ground.guard }], guard := some (37, true) }) rfl (fun K hK => ?_) ?_
                        · go_simp
                          (go_at_call 10; (with_reducible refine (CA.out _ (And.left (by assumption))).mono ?_); rintro e V12 ⟨rfl, b12⟩; have hs12 := keep3 (by assumption) b12)
                          try (go_wp2_with fail)
                          refine hK.out _ _ ?_ (fun hH12 => ?_)
                          · (try dsimp only); (first | exact HT4.out | exact hs12 | exact hs11 | exact hs10 | exact hs9 | exact hs8 | exact hs7 | exact hs6 | exact hs5 | exact keep3 (by assumption) (Below.refl _ _).drew | exact keep3 (by assumption) ((Below.refl _ _).alloc (Nat.le_refl _) _) | exact hH11 | go_keep)
                          clear hK K
                          (try simp only [Act.put, List.setIfInBounds_toArray, List.set_cons_zero, List.set_cons_succ])
                          clear hH11
                          refine wpAnyH_take (i := 39) (oi := { dst := some 78, op := Op.pick (Operand.tmp 76) (Operand.tmp 77) (Operand.const (Value.bool false)), type := 4, pos := "law.go:77", after := #[{ on := 37, ground := Ground.data }, { on := 38, ground := Ground.data }], guard := none }) (v := ?_) rfl (by kernel_rfl) (by kernel_rfl) (by kernel_rfl) (fun _ _ _ h => h) (Or.inl ⟨by rfl, ?_⟩) (by assumption) ?_
                          rotate_left
                          · (intro w hSw; (try dsimp only at hSw); go_simp <;> with_reducible rfl)
                          (try simp only [Act.put, List.setIfInBounds_toArray, List.set_cons_zero, List.set_cons_succ])
                          refine wpAnyH_take (i := 40) (oi := { dst := some 6, op := Op.assign (Operand.tmp 78), type := 4, pos := "law.go:77", after := #[{ on := 39, ground := Ground.data }, { on := 38, ground := Ground.chain }, { on := 0, ground := Ground.phase }, { on := 1, ground := Ground.phase }, { on := 2, ground := Ground.phase }, { on := 3, ground := Ground.phase }, { on := 4, ground := Ground.phase }, { on := 5, ground := Ground.phase }, { on := 6, ground := Ground.phase }, { on := 7, ground := Ground.phase }, { on := 8, ground := Ground.phase }, { on := 9, ground := Ground.phase }, { on := 10, ground := Ground.phase }, { on := 11, ground := Ground.phase }, { on := 12, ground := Ground.phase }, { on := 13, ground := Ground.phase }, { on := 14, ground := Ground.phase }, { on := 15, ground := Ground.phase }, { on := 16, ground := Ground.phase }, { on := 17, ground := Ground.phase }, { on := 18, ground := Ground.phase }, { on := 19, ground := Ground.phase }, { on := 20, ground := Ground.phase }, { on := 21, ground := Ground.phase }, { on := 22, ground := Ground.phase }, { on := 23, ground := Ground.phase }, { on := 24, ground := Ground.phase }, { on := 25, ground := Ground.phase }, { on := 26, ground := Ground.phase }, { on := 27, ground := Ground.phase }, { on := 28, ground := Ground.phase }, { on := 29, ground := Ground.phase }, { on := 30, ground := Ground.phase }, { on := 31, ground := Ground.phase }, { on := 32, ground := Ground.phase }, { on := 33, ground := Ground.phase }, { on := 34, ground := Ground.phase }, { on := 35, ground := Ground.phase }, { on := 36, ground := Ground.phase }, { on := 37, ground := Ground.phase }, { on := 38, ground := Ground.phase }, { on := 39, ground := Ground.phase }], guard := none }) (v := ?_) rfl (by kernel_rfl) (by kernel_rfl) (by kernel_rfl) (fun _ _ _ h => h) (Or.inl ⟨by rfl, ?_⟩) (by assumption) ?_
                          rotate_left
                          · (intro w hSw; (try dsimp only at hSw); go_simp <;> with_reducible rfl)
                          (try simp only [Act.put, List.setIfInBounds_toArray, List.set_cons_zero, List.set_cons_succ])
                          refine wpAnyH_done (by kernel_rfl) ?_ _
                          refine NoPanic.normal ?_
                          have HZ := Lib.hid hs12.1
                          go_wp2
                          go_ret
                          exact ⟨rfl, HZ.out⟩
                        exact AllReadyH.nil
                      exact AllReadyH.nil
                    exact AllReadyH.nil
                  refine AllReadyH.cons (o := { dst := some 72, op := Op.buildSlice 24 2 #[(0, Operand.tmp 70), (1, Operand.tmp 71)], type := 24, pos := "law.go:77", after := #[{ on := 31, ground := Ground.data }, { on := 32, ground := Ground.data }, { on := 26, ground := Ground.guard }], guard := some (26, true) }) rfl (fun K hK => ?_) ?_
                  · go_simp
                    refine hK.out _ _ ?_ (fun hH9 => ?_)
                    · (try dsimp only); (first | exact HT4.out | exact hs12 | exact hs11 | exact hs10 | exact hs9 | exact hs8 | exact hs7 | exact hs6 | exact hs5 | exact keep3 (by assumption) (Below.refl _ _).drew | exact keep3 (by assumption) ((Below.refl _ _).alloc (Nat.le_refl _) _) | exact hH8 | go_keep)
                    clear hK K
                    (try simp only [Act.put, List.setIfInBounds_toArray, List.set_cons_zero, List.set_cons_succ])
                    clear hH8
                    refine wpAnyH_ready (rs := [30]) (by kernel_rfl) (by simp) ?_
                    refine AllReadyH.cons (o := { dst := some 69, op := Op.call { callee := Callee.value (Operand.func 15), args := #[Operand.tmp 68], argTypes := #[24] }, type := 23, pos := "law.go:77", after := #[{ on := 29, ground := Ground.data }, { on := 26, ground := Ground.chain }, { on := 26, ground := Ground.guard }], guard := some (26, true) }) rfl (fun K hK => ?_) ?_
                    · go_simp
                      (go_at_call 15; (with_reducible refine (CN1.out _ _ ?hm10).mono ?_); (case hm10 => first | exact heap_alloc_new _ _ | exact box_alloc (heap_alloc_new _ _) _ | exact heap_alloc_two _ _ _ | fail); rintro e V10 ⟨rfl, b10⟩; have hs10 := keep3 (by assumption) b10)
                      try (go_wp2_with fail)
                      refine hK.out _ _ ?_ (fun hH10 => ?_)
                      · (try dsimp only); (first | exact HT4.out | exact hs12 | exact hs11 | exact hs10 | exact hs9 | exact hs8 | exact hs7 | exact hs6 | exact hs5 | exact keep3 (by assumption) (Below.refl _ _).drew | exact keep3 (by assumption) ((Below.refl _ _).alloc (Nat.le_refl _) _) | exact hH9 | go_keep)
                      clear hK K
                      (try simp only [Act.put, List.setIfInBounds_toArray, List.set_cons_zero, List.set_cons_succ])
                      clear hH9
                      refine wpAnyH_ready (rs := [34]) (by kernel_rfl) (by simp) ?_
                      refine AllReadyH.cons (o := { dst := some 73, op := Op.call { callee := Callee.value (Operand.func 15), args := #[Operand.tmp 72], argTypes := #[24] }, type := 23, pos := "law.go:77", after := #[{ on := 33, ground := Ground.data }, { on := 30, ground := Ground.chain }, { on := 26, ground := Ground.guard }], guard := some (26, true) }) rfl (fun K hK => ?_) ?_
                      · go_simp
                        (go_at_call 15; (with_reducible refine (CN2.out _ _ ?hm11).mono ?_); (case hm11 => first | exact heap_alloc_new _ _ | exact box_below (heap_alloc_two _ _ _) b10 (by simp) | exact box_below (box_alloc (heap_alloc_new _ _) _) b10 (by simp; omega) | fail); rintro e V11 ⟨rfl, b11⟩; have hs11 := keep3 (by assumption) b11)
                        try (go_wp2_with fail)
                        refine hK.out _ _ ?_ (fun hH11 => ?_)
                        · (try dsimp only); (first | exact HT4.out | exact hs12 | exact hs11 | exact hs10 | exact hs9 | exact hs8 | exact hs7 | exact hs6 | exact hs5 | exact keep3 (by assumption) (Below.refl _ _).drew | exact keep3 (by assumption) ((Below.refl _ _).alloc (Nat.le_refl _) _) | exact hH10 | go_keep)
                        clear hK K
                        (try simp only [Act.put, List.setIfInBounds_toArray, List.set_cons_zero, List.set_cons_succ])
                        clear hH10
                        refine wpAnyH_take (i := 35) (oi := { dst := some 74, op := Op.binOp BinOp.eql 23 (Operand.tmp 69) (Operand.tmp 73) 23, type := 4, pos := "law.go:77", after := #[{ on := 30, ground := Ground.data }, { on := 34, ground := Ground.data }, { on := 26, ground := Ground.guard }], guard := some (26, true) }) (v := ?_) rfl (by kernel_rfl) (by kernel_rfl) (by kernel_rfl) (fun _ _ _ h => h) (Or.inl ⟨by rfl, ?_⟩) (by assumption) ?_
                        rotate_left
                        · (intro w hSw; (try dsimp only at hSw); go_simp <;> with_reducible rfl)
                        (try simp only [Act.put, List.setIfInBounds_toArray, List.set_cons_zero, List.set_cons_succ])
                        refine wpAnyH_take (i := 36) (oi := { dst := some 75, op := Op.pick (Operand.tmp 65) (Operand.tmp 74) (Operand.const (Value.bool false)), type := 4, pos := "law.go:77", after := #[{ on := 26, ground := Ground.data }, { on := 35, ground := Ground.data }], guard := none }) (v := ?_) rfl (by kernel_rfl) (by kernel_rfl) (by kernel_rfl) (fun _ _ _ h => h) (Or.inl ⟨by rfl, ?_⟩) (by assumption) ?_
                        rotate_left
                        · (intro w hSw; (try dsimp only at hSw); go_simp <;> with_reducible rfl)
                        (try simp only [Act.put, List.setIfInBounds_toArray, List.set_cons_zero, List.set_cons_succ])
                        refine wpAnyH_take (i := 37) (oi := { dst := some 76, op := Op.move (Operand.tmp 75), type := 4, pos := "law.go:77", after := #[{ on := 36, ground := Ground.data }, { on := 34, ground := Ground.chain }], guard := none }) (v := ?_) rfl (by kernel_rfl) (by kernel_rfl) (by kernel_rfl) (fun _ _ _ h => h) (Or.inl ⟨by rfl, ?_⟩) (by assumption) ?_
                        rotate_left
                        · (intro w hSw; (try dsimp only at hSw); go_simp <;> with_reducible rfl)
                        (try simp only [Act.put, List.setIfInBounds_toArray, List.set_cons_zero, List.set_cons_succ])
                        refine wpAnyH_ready (rs := [38]) (by kernel_rfl) (by simp) ?_
                        refine AllReadyH.cons (o := { dst := some 77, op := Op.call { callee := Callee.value (Operand.func 10), args := #[], argTypes := #[] }, type := 4, pos := "law.go:77", after := #[{ on := 37, ground := Ground.chain }, { on := 37, ground := Ground.guard }], guard := some (37, true) }) rfl (fun K hK => ?_) ?_
                        · go_simp
                          (go_at_call 10; (with_reducible refine (CA.out _ (And.left (by assumption))).mono ?_); rintro e V12 ⟨rfl, b12⟩; have hs12 := keep3 (by assumption) b12)
                          try (go_wp2_with fail)
                          refine hK.out _ _ ?_ (fun hH12 => ?_)
                          · (try dsimp only); (first | exact HT4.out | exact hs12 | exact hs11 | exact hs10 | exact hs9 | exact hs8 | exact hs7 | exact hs6 | exact hs5 | exact keep3 (by assumption) (Below.refl _ _).drew | exact keep3 (by assumption) ((Below.refl _ _).alloc (Nat.le_refl _) _) | exact hH11 | go_keep)
                          clear hK K
                          (try simp only [Act.put, List.setIfInBounds_toArray, List.set_cons_zero, List.set_cons_succ])
                          clear hH11
                          refine wpAnyH_take (i := 39) (oi := { dst := some 78, op := Op.pick (Operand.tmp 76) (Operand.tmp 77) (Operand.const (Value.bool false)), type := 4, pos := "law.go:77", after := #[{ on := 37, ground := Ground.data }, { on := 38, ground := Ground.data }], guard := none }) (v := ?_) rfl (by kernel_rfl) (by kernel_rfl) (by kernel_rfl) (fun _ _ _ h => h) (Or.inl ⟨by rfl, ?_⟩) (by assumption) ?_
                          rotate_left
                          · (intro w hSw; (try dsimp only at hSw); go_simp <;> with_reducible rfl)
                          (try simp only [Act.put, List.setIfInBounds_toArray, List.set_cons_zero, List.set_cons_succ])
                          refine wpAnyH_take (i := 40) (oi := { dst := some 6, op := Op.assign (Operand.tmp 78), type := 4, pos := "law.go:77", after := #[{ on := 39, ground := Ground.data }, { on := 38, ground := Ground.chain }, { on := 0, ground := Ground.phase }, { on := 1, ground := Ground.phase }, { on := 2, ground := Ground.phase }, { on := 3, ground := Ground.phase }, { on := 4, ground := Ground.phase }, { on := 5, ground := Ground.phase }, { on := 6, ground := Ground.phase }, { on := 7, ground := Ground.phase }, { on := 8, ground := Ground.phase }, { on := 9, ground := Ground.phase }, { on := 10, ground := Ground.phase }, { on := 11, ground := Ground.phase }, { on := 12, ground := Ground.phase }, { on := 13, ground := Ground.phase }, { on := 14, ground := Ground.phase }, { on := 15, ground := Ground.phase }, { on := 16, ground := Ground.phase }, { on := 17, ground := Ground.phase }, { on := 18, ground := Ground.phase }, { on := 19, ground := Ground.phase }, { on := 20, ground := Ground.phase }, { on := 21, ground := Ground.phase }, { on := 22, ground := Ground.phase }, { on := 23, ground := Ground.phase }, { on := 24, ground := Ground.phase }, { on := 25, ground := Ground.phase }, { on := 26, ground := Ground.phase }, { on := 27, ground := Ground.phase }, { on := 28, ground := Ground.phase }, { on := 29, ground := Ground.phase }, { on := 30, ground := Ground.phase }, { on := 31, ground := Ground.phase }, { on := 32, ground := Ground.phase }, { on := 33, ground := Ground.phase }, { on := 34, ground := Ground.phase }, { on := 35, ground := Ground.phase }, { on := 36, ground := Ground.phase }, { on := 37, ground := Ground.phase }, { on := 38, ground := Ground.phase }, { on := 39, ground := Ground.phase }], guard := none }) (v := ?_) rfl (by kernel_rfl) (by kernel_rfl) (by kernel_rfl) (fun _ _ _ h => h) (Or.inl ⟨by rfl, ?_⟩) (by assumption) ?_
                          rotate_left
                          · (intro w hSw; (try dsimp only at hSw); go_simp <;> with_reducible rfl)
                          (try simp only [Act.put, List.setIfInBounds_toArray, List.set_cons_zero, List.set_cons_succ])
                          refine wpAnyH_done (by kernel_rfl) ?_ _
                          refine NoPanic.normal ?_
                          have HZ := Lib.hid hs12.1
                          go_wp2
                          go_ret
                          exact ⟨rfl, HZ.out⟩
                        exact AllReadyH.nil
                      exact AllReadyH.nil
                    exact AllReadyH.nil
                  exact AllReadyH.nil
                refine AllReadyH.cons (o := { dst := some 72, op := Op.buildSlice 24 2 #[(0, Operand.tmp 70), (1, Operand.tmp 71)], type := 24, pos := "law.go:77", after := #[{ on := 31, ground := Ground.data }, { on := 32, ground := Ground.data }, { on := 26, ground := Ground.guard }], guard := some (26, true) }) rfl (fun K hK => ?_) ?_
                · go_simp
                  refine hK.out _ _ ?_ (fun hH8 => ?_)
                  · (try dsimp only); (first | exact HT4.out | exact hs12 | exact hs11 | exact hs10 | exact hs9 | exact hs8 | exact hs7 | exact hs6 | exact hs5 | exact keep3 (by assumption) (Below.refl _ _).drew | exact keep3 (by assumption) ((Below.refl _ _).alloc (Nat.le_refl _) _) | exact hH7 | go_keep)
                  clear hK K
                  (try simp only [Act.put, List.setIfInBounds_toArray, List.set_cons_zero, List.set_cons_succ])
                  clear hH7
                  refine wpAnyH_ready (rs := [29]) (by kernel_rfl) (by simp) ?_
                  refine AllReadyH.cons (o := { dst := some 68, op := Op.buildSlice 24 2 #[(0, Operand.tmp 66), (1, Operand.tmp 67)], type := 24, pos := "law.go:77", after := #[{ on := 27, ground := Ground.data }, { on := 28, ground := Ground.data }, { on := 26, ground := Ground.guard }], guard := some (26, true) }) rfl (fun K hK => ?_) ?_
                  · go_simp
                    refine hK.out _ _ ?_ (fun hH9 => ?_)
                    · (try dsimp only); (first | exact HT4.out | exact hs12 | exact hs11 | exact hs10 | exact hs9 | exact hs8 | exact hs7 | exact hs6 | exact hs5 | exact keep3 (by assumption) (Below.refl _ _).drew | exact keep3 (by assumption) ((Below.refl _ _).alloc (Nat.le_refl _) _) | exact hH8 | go_keep)
                    clear hK K
                    (try simp only [Act.put, List.setIfInBounds_toArray, List.set_cons_zero, List.set_cons_succ])
                    clear hH8
                    refine wpAnyH_ready (rs := [30]) (by kernel_rfl) (by simp) ?_
                    refine AllReadyH.cons (o := { dst := some 69, op := Op.call { callee := Callee.value (Operand.func 15), args := #[Operand.tmp 68], argTypes := #[24] }, type := 23, pos := "law.go:77", after := #[{ on := 29, ground := Ground.data }, { on := 26, ground := Ground.chain }, { on := 26, ground := Ground.guard }], guard := some (26, true) }) rfl (fun K hK => ?_) ?_
                    · go_simp
                      (go_at_call 15; (with_reducible refine (CN1.out _ _ ?hm10).mono ?_); (case hm10 => first | exact heap_alloc_new _ _ | exact box_alloc (heap_alloc_new _ _) _ | exact heap_alloc_two _ _ _ | fail); rintro e V10 ⟨rfl, b10⟩; have hs10 := keep3 (by assumption) b10)
                      try (go_wp2_with fail)
                      refine hK.out _ _ ?_ (fun hH10 => ?_)
                      · (try dsimp only); (first | exact HT4.out | exact hs12 | exact hs11 | exact hs10 | exact hs9 | exact hs8 | exact hs7 | exact hs6 | exact hs5 | exact keep3 (by assumption) (Below.refl _ _).drew | exact keep3 (by assumption) ((Below.refl _ _).alloc (Nat.le_refl _) _) | exact hH9 | go_keep)
                      clear hK K
                      (try simp only [Act.put, List.setIfInBounds_toArray, List.set_cons_zero, List.set_cons_succ])
                      clear hH9
                      refine wpAnyH_ready (rs := [34]) (by kernel_rfl) (by simp) ?_
                      refine AllReadyH.cons (o := { dst := some 73, op := Op.call { callee := Callee.value (Operand.func 15), args := #[Operand.tmp 72], argTypes := #[24] }, type := 23, pos := "law.go:77", after := #[{ on := 33, ground := Ground.data }, { on := 30, ground := Ground.chain }, { on := 26, ground := Ground.guard }], guard := some (26, true) }) rfl (fun K hK => ?_) ?_
                      · go_simp
                        (go_at_call 15; (with_reducible refine (CN2.out _ _ ?hm11).mono ?_); (case hm11 => first | exact heap_alloc_new _ _ | exact box_below (heap_alloc_two _ _ _) b10 (by simp) | exact box_below (box_alloc (heap_alloc_new _ _) _) b10 (by simp; omega) | fail); rintro e V11 ⟨rfl, b11⟩; have hs11 := keep3 (by assumption) b11)
                        try (go_wp2_with fail)
                        refine hK.out _ _ ?_ (fun hH11 => ?_)
                        · (try dsimp only); (first | exact HT4.out | exact hs12 | exact hs11 | exact hs10 | exact hs9 | exact hs8 | exact hs7 | exact hs6 | exact hs5 | exact keep3 (by assumption) (Below.refl _ _).drew | exact keep3 (by assumption) ((Below.refl _ _).alloc (Nat.le_refl _) _) | exact hH10 | go_keep)
                        clear hK K
                        (try simp only [Act.put, List.setIfInBounds_toArray, List.set_cons_zero, List.set_cons_succ])
                        clear hH10
                        refine wpAnyH_take (i := 35) (oi := { dst := some 74, op := Op.binOp BinOp.eql 23 (Operand.tmp 69) (Operand.tmp 73) 23, type := 4, pos := "law.go:77", after := #[{ on := 30, ground := Ground.data }, { on := 34, ground := Ground.data }, { on := 26, ground := Ground.guard }], guard := some (26, true) }) (v := ?_) rfl (by kernel_rfl) (by kernel_rfl) (by kernel_rfl) (fun _ _ _ h => h) (Or.inl ⟨by rfl, ?_⟩) (by assumption) ?_
                        rotate_left
                        · (intro w hSw; (try dsimp only at hSw); go_simp <;> with_reducible rfl)
                        (try simp only [Act.put, List.setIfInBounds_toArray, List.set_cons_zero, List.set_cons_succ])
                        refine wpAnyH_take (i := 36) (oi := { dst := some 75, op := Op.pick (Operand.tmp 65) (Operand.tmp 74) (Operand.const (Value.bool false)), type := 4, pos := "law.go:77", after := #[{ on := 26, ground := Ground.data }, { on := 35, ground := Ground.data }], guard := none }) (v := ?_) rfl (by kernel_rfl) (by kernel_rfl) (by kernel_rfl) (fun _ _ _ h => h) (Or.inl ⟨by rfl, ?_⟩) (by assumption) ?_
                        rotate_left
                        · (intro w hSw; (try dsimp only at hSw); go_simp <;> with_reducible rfl)
                        (try simp only [Act.put, List.setIfInBounds_toArray, List.set_cons_zero, List.set_cons_succ])
                        refine wpAnyH_take (i := 37) (oi := { dst := some 76, op := Op.move (Operand.tmp 75), type := 4, pos := "law.go:77", after := #[{ on := 36, ground := Ground.data }, { on := 34, ground := Ground.chain }], guard := none }) (v := ?_) rfl (by kernel_rfl) (by kernel_rfl) (by kernel_rfl) (fun _ _ _ h => h) (Or.inl ⟨by rfl, ?_⟩) (by assumption) ?_
                        rotate_left
                        · (intro w hSw; (try dsimp only at hSw); go_simp <;> with_reducible rfl)
                        (try simp only [Act.put, List.setIfInBounds_toArray, List.set_cons_zero, List.set_cons_succ])
                        refine wpAnyH_ready (rs := [38]) (by kernel_rfl) (by simp) ?_
                        refine AllReadyH.cons (o := { dst := some 77, op := Op.call { callee := Callee.value (Operand.func 10), args := #[], argTypes := #[] }, type := 4, pos := "law.go:77", after := #[{ on := 37, ground := Ground.chain }, { on := 37, ground := Ground.guard }], guard := some (37, true) }) rfl (fun K hK => ?_) ?_
                        · go_simp
                          (go_at_call 10; (with_reducible refine (CA.out _ (And.left (by assumption))).mono ?_); rintro e V12 ⟨rfl, b12⟩; have hs12 := keep3 (by assumption) b12)
                          try (go_wp2_with fail)
                          refine hK.out _ _ ?_ (fun hH12 => ?_)
                          · (try dsimp only); (first | exact HT4.out | exact hs12 | exact hs11 | exact hs10 | exact hs9 | exact hs8 | exact hs7 | exact hs6 | exact hs5 | exact keep3 (by assumption) (Below.refl _ _).drew | exact keep3 (by assumption) ((Below.refl _ _).alloc (Nat.le_refl _) _) | exact hH11 | go_keep)
                          clear hK K
                          (try simp only [Act.put, List.setIfInBounds_toArray, List.set_cons_zero, List.set_cons_succ])
                          clear hH11
                          refine wpAnyH_take (i := 39) (oi := { dst := some 78, op := Op.pick (Operand.tmp 76) (Operand.tmp 77) (Operand.const (Value.bool false)), type := 4, pos := "law.go:77", after := #[{ on := 37, ground := Ground.data }, { on := 38, ground := Ground.data }], guard := none }) (v := ?_) rfl (by kernel_rfl) (by kernel_rfl) (by kernel_rfl) (fun _ _ _ h => h) (Or.inl ⟨by rfl, ?_⟩) (by assumption) ?_
                          rotate_left
                          · (intro w hSw; (try dsimp only at hSw); go_simp <;> with_reducible rfl)
                          (try simp only [Act.put, List.setIfInBounds_toArray, List.set_cons_zero, List.set_cons_succ])
                          refine wpAnyH_take (i := 40) (oi := { dst := some 6, op := Op.assign (Operand.tmp 78), type := 4, pos := "law.go:77", after := #[{ on := 39, ground := Ground.data }, { on := 38, ground := Ground.chain }, { on := 0, ground := Ground.phase }, { on := 1, ground := Ground.phase }, { on := 2, ground := Ground.phase }, { on := 3, ground := Ground.phase }, { on := 4, ground := Ground.phase }, { on := 5, ground := Ground.phase }, { on := 6, ground := Ground.phase }, { on := 7, ground := Ground.phase }, { on := 8, ground := Ground.phase }, { on := 9, ground := Ground.phase }, { on := 10, ground := Ground.phase }, { on := 11, ground := Ground.phase }, { on := 12, ground := Ground.phase }, { on := 13, ground := Ground.phase }, { on := 14, ground := Ground.phase }, { on := 15, ground := Ground.phase }, { on := 16, ground := Ground.phase }, { on := 17, ground := Ground.phase }, { on := 18, ground := Ground.phase }, { on := 19, ground := Ground.phase }, { on := 20, ground := Ground.phase }, { on := 21, ground := Ground.phase }, { on := 22, ground := Ground.phase }, { on := 23, ground := Ground.phase }, { on := 24, ground := Ground.phase }, { on := 25, ground := Ground.phase }, { on := 26, ground := Ground.phase }, { on := 27, ground := Ground.phase }, { on := 28, ground := Ground.phase }, { on := 29, ground := Ground.phase }, { on := 30, ground := Ground.phase }, { on := 31, ground := Ground.phase }, { on := 32, ground := Ground.phase }, { on := 33, ground := Ground.phase }, { on := 34, ground := Ground.phase }, { on := 35, ground := Ground.phase }, { on := 36, ground := Ground.phase }, { on := 37, ground := Ground.phase }, { on := 38, ground := Ground.phase }, { on := 39, ground := Ground.phase }], guard := none }) (v := ?_) rfl (by kernel_rfl) (by kernel_rfl) (by kernel_rfl) (fun _ _ _ h => h) (Or.inl ⟨by rfl, ?_⟩) (by assumption) ?_
                          rotate_left
                          · (intro w hSw; (try dsimp only at hSw); go_simp <;> with_reducible rfl)
                          (try simp only [Act.put, List.setIfInBounds_toArray, List.set_cons_zero, List.set_cons_succ])
                          refine wpAnyH_done (by kernel_rfl) ?_ _
                          refine NoPanic.normal ?_
                          have HZ := Lib.hid hs12.1
                          go_wp2
                          go_ret
                          exact ⟨rfl, HZ.out⟩
                        exact AllReadyH.nil
                      exact AllReadyH.nil
                    exact AllReadyH.nil
                  exact AllReadyH.nil
                exact AllReadyH.nil
              exact AllReadyH.nil
            exact AllReadyH.nil
          refine AllReadyH.cons (o := { dst := some 61, op := Op.buildSlice 24 2 #[(0, Operand.tmp 59), (1, Operand.tmp 60)], type := 24, pos := "law.go:77", after := #[{ on := 20, ground := Ground.data }, { on := 21, ground := Ground.data }, { on := 15, ground := Ground.guard }], guard := some (15, true) }) rfl (fun K hK => ?_) ?_
          · go_simp
            refine hK.out _ _ ?_ (fun hH5 => ?_)
            · (try dsimp only); (first | exact HT4.out | exact hs12 | exact hs11 | exact hs10 | exact hs9 | exact hs8 | exact hs7 | exact hs6 | exact hs5 | exact keep3 (by assumption) (Below.refl _ _).drew | exact keep3 (by assumption) ((Below.refl _ _).alloc (Nat.le_refl _) _) | exact hH4 | go_keep)
            clear hK K
            (try simp only [Act.put, List.setIfInBounds_toArray, List.set_cons_zero, List.set_cons_succ])
            clear hH4
            refine wpAnyH_ready (rs := [19]) (by kernel_rfl) (by simp) ?_
            refine AllReadyH.cons (o := { dst := some 58, op := Op.call { callee := Callee.value (Operand.func 13), args := #[Operand.tmp 57], argTypes := #[24] }, type := 23, pos := "law.go:77", after := #[{ on := 18, ground := Ground.data }, { on := 15, ground := Ground.chain }, { on := 15, ground := Ground.guard }], guard := some (15, true) }) rfl (fun K hK => ?_) ?_
            · go_simp
              (go_at_call 13; (with_reducible refine (CM1.out _ _ ?hm8).mono ?_); (case hm8 => first | exact heap_alloc_new _ _ | exact box_alloc (heap_alloc_new _ _) _ | exact heap_alloc_two _ _ _ | fail); rintro e V8 ⟨rfl, b8⟩; have hs8 := keep3 (by assumption) b8)
              try (go_wp2_with fail)
              refine hK.out _ _ ?_ (fun hH6 => ?_)
              · (try dsimp only); (first | exact HT4.out | exact hs12 | exact hs11 | exact hs10 | exact hs9 | exact hs8 | exact hs7 | exact hs6 | exact hs5 | exact keep3 (by assumption) (Below.refl _ _).drew | exact keep3 (by assumption) ((Below.refl _ _).alloc (Nat.le_refl _) _) | exact hH5 | go_keep)
              clear hK K
              (try simp only [Act.put, List.setIfInBounds_toArray, List.set_cons_zero, List.set_cons_succ])
              clear hH5
              refine wpAnyH_ready (rs := [23]) (by kernel_rfl) (by simp) ?_
              refine AllReadyH.cons (o := { dst := some 62, op := Op.call { callee := Callee.value (Operand.func 13), args := #[Operand.tmp 61], argTypes := #[24] }, type := 23, pos := "law.go:77", after := #[{ on := 22, ground := Ground.data }, { on := 19, ground := Ground.chain }, { on := 15, ground := Ground.guard }], guard := some (15, true) }) rfl (fun K hK => ?_) ?_
              · go_simp
                (go_at_call 13; (with_reducible refine (CM2.out _ _ ?hm9).mono ?_); (case hm9 => first | exact heap_alloc_new _ _ | exact box_below (heap_alloc_two _ _ _) b8 (by simp) | exact box_below (box_alloc (heap_alloc_new _ _) _) b8 (by simp; omega) | fail); rintro e V9 ⟨rfl, b9⟩; have hs9 := keep3 (by assumption) b9)
                try (go_wp2_with fail)
                refine hK.out _ _ ?_ (fun hH7 => ?_)
                · (try dsimp only); (first | exact HT4.out | exact hs12 | exact hs11 | exact hs10 | exact hs9 | exact hs8 | exact hs7 | exact hs6 | exact hs5 | exact keep3 (by assumption) (Below.refl _ _).drew | exact keep3 (by assumption) ((Below.refl _ _).alloc (Nat.le_refl _) _) | exact hH6 | go_keep)
                clear hK K
                (try simp only [Act.put, List.setIfInBounds_toArray, List.set_cons_zero, List.set_cons_succ])
                clear hH6
                refine wpAnyH_take (i := 24) (oi := { dst := some 63, op := Op.binOp BinOp.eql 23 (Operand.tmp 58) (Operand.tmp 62) 23, type := 4, pos := "law.go:77", after := #[{ on := 19, ground := Ground.data }, { on := 23, ground := Ground.data }, { on := 15, ground := Ground.guard }], guard := some (15, true) }) (v := ?_) rfl (by kernel_rfl) (by kernel_rfl) (by kernel_rfl) (fun _ _ _ h => h) (Or.inl ⟨by rfl, ?_⟩) (by assumption) ?_
                rotate_left
                · (intro w hSw; (try dsimp only at hSw); go_simp <;> with_reducible rfl)
                (try simp only [Act.put, List.setIfInBounds_toArray, List.set_cons_zero, List.set_cons_succ])
                refine wpAnyH_take (i := 25) (oi := { dst := some 64, op := Op.pick (Operand.tmp 54) (Operand.tmp 63) (Operand.const (Value.bool false)), type := 4, pos := "law.go:77", after := #[{ on := 15, ground := Ground.data }, { on := 24, ground := Ground.data }], guard := none }) (v := ?_) rfl (by kernel_rfl) (by kernel_rfl) (by kernel_rfl) (fun _ _ _ h => h) (Or.inl ⟨by rfl, ?_⟩) (by assumption) ?_
                rotate_left
                · (intro w hSw; (try dsimp only at hSw); go_simp <;> with_reducible rfl)
                (try simp only [Act.put, List.setIfInBounds_toArray, List.set_cons_zero, List.set_cons_succ])
                refine wpAnyH_take (i := 26) (oi := { dst := some 65, op := Op.move (Operand.tmp 64), type := 4, pos := "law.go:77", after := #[{ on := 25, ground := Ground.data }, { on := 23, ground := Ground.chain }], guard := none }) (v := ?_) rfl (by kernel_rfl) (by kernel_rfl) (by kernel_rfl) (fun _ _ _ h => h) (Or.inl ⟨by rfl, ?_⟩) (by assumption) ?_
                rotate_left
                · (intro w hSw; (try dsimp only at hSw); go_simp <;> with_reducible rfl)
                (try simp only [Act.put, List.setIfInBounds_toArray, List.set_cons_zero, List.set_cons_succ])
                refine wpAnyH_take (i := 27) (oi := { dst := some 66, op := Op.load 23 (Operand.tmp 3), type := 23, pos := "law.go:77", after := #[{ on := 26, ground := Ground.guard }], guard := some (26, true) }) (v := ?_) rfl (by kernel_rfl) (by kernel_rfl) (by kernel_rfl) (fun _ _ _ h => h) (Or.inl ⟨by rfl, ?_⟩) (by assumption) ?_
                rotate_left
                · (intro w hSw; (try dsimp only at hSw); go_simp <;> with_reducible rfl)
                (try simp only [Act.put, List.setIfInBounds_toArray, List.set_cons_zero, List.set_cons_succ])
                refine wpAnyH_take (i := 28) (oi := { dst := some 67, op := Op.load 23 (Operand.tmp 4), type := 23, pos := "law.go:77", after := #[{ on := 26, ground := Ground.guard }], guard := some (26, true) }) (v := ?_) rfl (by kernel_rfl) (by kernel_rfl) (by kernel_rfl) (fun _ _ _ h => h) (Or.inl ⟨by rfl, ?_⟩) (by assumption) ?_
                rotate_left
                · (intro w hSw; (try dsimp only at hSw); go_simp <;> with_reducible rfl)
                (try simp only [Act.put, List.setIfInBounds_toArray, List.set_cons_zero, List.set_cons_succ])
                refine wpAnyH_take (i := 31) (oi := { dst := some 70, op := Op.load 23 (Operand.tmp 4), type := 23, pos := "law.go:77", after := #[{ on := 26, ground := Ground.guard }], guard := some (26, true) }) (v := ?_) rfl (by kernel_rfl) (by kernel_rfl) (by kernel_rfl) (fun _ _ _ h => h) (Or.inl ⟨by rfl, ?_⟩) (by assumption) ?_
                rotate_left
                · (intro w hSw; (try dsimp only at hSw); go_simp <;> with_reducible rfl)
                (try simp only [Act.put, List.setIfInBounds_toArray, List.set_cons_zero, List.set_cons_succ])
                refine wpAnyH_take (i := 32) (oi := { dst := some 71, op := Op.load 23 (Operand.tmp 3), type := 23, pos := "law.go:77", after := #[{ on := 26, ground := Ground.guard }], guard := some (26, true) }) (v := ?_) rfl (by kernel_rfl) (by kernel_rfl) (by kernel_rfl) (fun _ _ _ h => h) (Or.inl ⟨by rfl, ?_⟩) (by assumption) ?_
                rotate_left
                · (intro w hSw; (try dsimp only at hSw); go_simp <;> with_reducible rfl)
                (try simp only [Act.put, List.setIfInBounds_toArray, List.set_cons_zero, List.set_cons_succ])
                refine wpAnyH_ready (rs := [29, 33]) (by kernel_rfl) (by simp) ?_
                refine AllReadyH.cons (o := { dst := some 68, op := Op.buildSlice 24 2 #[(0, Operand.tmp 66), (1, Operand.tmp 67)], type := 24, pos := "law.go:77", after := #[{ on := 27, ground := Ground.data }, { on := 28, ground := Ground.data }, { on := 26, ground := Ground.guard }], guard := some (26, true) }) rfl (fun K hK => ?_) ?_
                · go_simp
                  refine hK.out _ _ ?_ (fun hH8 => ?_)
                  · (try dsimp only); (first | exact HT4.out | exact hs12 | exact hs11 | exact hs10 | exact hs9 | exact hs8 | exact hs7 | exact hs6 | exact hs5 | exact keep3 (by assumption) (Below.refl _ _).drew | exact keep3 (by assumption) ((Below.refl _ _).alloc (Nat.le_refl _) _) | exact hH7 | go_keep)
                  clear hK K
                  (try simp only [Act.put, List.setIfInBounds_toArray, List.set_cons_zero, List.set_cons_succ])
                  clear hH7
                  refine wpAnyH_ready (rs := [30, 33]) (by kernel_rfl) (by simp) ?_
                  refine AllReadyH.cons (o := { dst := some 69, op := Op.call { callee := Callee.value (Operand.func 15), args := #[Operand.tmp 68], argTypes := #[24] }, type := 23, pos := "law.go:77", after := #[{ on := 29, ground := Ground.data }, { on := 26, ground := Ground.chain }, { on := 26, ground := Ground.guard }], guard := some (26, true) }) rfl (fun K hK => ?_) ?_
                  · go_simp
                    (go_at_call 15; (with_reducible refine (CN1.out _ _ ?hm10).mono ?_); (case hm10 => first | exact heap_alloc_new _ _ | exact box_alloc (heap_alloc_new _ _) _ | exact heap_alloc_two _ _ _ | fail); rintro e V10 ⟨rfl, b10⟩; have hs10 := keep3 (by assumption) b10)
                    try (go_wp2_with fail)
                    refine hK.out _ _ ?_ (fun hH9 => ?_)
                    · (try dsimp only); (first | exact HT4.out | exact hs12 | exact hs11 | exact hs10 | exact hs9 | exact hs8 | exact hs7 | exact hs6 | exact hs5 | exact keep3 (by assumption) (Below.refl _ _).drew | exact keep3 (by assumption) ((Below.refl _ _).alloc (Nat.le_refl _) _) | exact hH8 | go_keep)
                    clear hK K
                    (try simp only [Act.put, List.setIfInBounds_toArray, List.set_cons_zero, List.set_cons_succ])
                    clear hH8
                    refine wpAnyH_ready (rs := [33]) (by kernel_rfl) (by simp) ?_
                    refine AllReadyH.cons (o := { dst := some 72, op := Op.buildSlice 24 2 #[(0, Operand.tmp 70), (1, Operand.tmp 71)], type := 24, pos := "law.go:77", after := #[{ on := 31, ground := Ground.data }, { on := 32, ground := Ground.data }, { on := 26, ground := Ground.guard }], guard := some (26, true) }) rfl (fun K hK => ?_) ?_
                    · go_simp
                      refine hK.out _ _ ?_ (fun hH10 => ?_)
                      · (try dsimp only); (first | exact HT4.out | exact hs12 | exact hs11 | exact hs10 | exact hs9 | exact hs8 | exact hs7 | exact hs6 | exact hs5 | exact keep3 (by assumption) (Below.refl _ _).drew | exact keep3 (by assumption) ((Below.refl _ _).alloc (Nat.le_refl _) _) | exact hH9 | go_keep)
                      clear hK K
                      (try simp only [Act.put, List.setIfInBounds_toArray, List.set_cons_zero, List.set_cons_succ])
                      clear hH9
                      refine wpAnyH_ready (rs := [34]) (by kernel_rfl) (by simp) ?_
                      refine AllReadyH.cons (o := { dst := some 73, op := Op.call { callee := Callee.value (Operand.func 15), args := #[Operand.tmp 72], argTypes := #[24] }, type := 23, pos := "law.go:77", after := #[{ on := 33, ground := Ground.data }, { on := 30, ground := Ground.chain }, { on := 26, ground := Ground.guard }], guard := some (26, true) }) rfl (fun K hK => ?_) ?_
                      · go_simp
                        (go_at_call 15; (with_reducible refine (CN2.out _ _ ?hm11).mono ?_); (case hm11 => first | exact heap_alloc_new _ _ | exact box_below (heap_alloc_two _ _ _) b10 (by simp) | exact box_below (box_alloc (heap_alloc_new _ _) _) b10 (by simp; omega) | fail); rintro e V11 ⟨rfl, b11⟩; have hs11 := keep3 (by assumption) b11)
                        try (go_wp2_with fail)
                        refine hK.out _ _ ?_ (fun hH11 => ?_)
                        · (try dsimp only); (first | exact HT4.out | exact hs12 | exact hs11 | exact hs10 | exact hs9 | exact hs8 | exact hs7 | exact hs6 | exact hs5 | exact keep3 (by assumption) (Below.refl _ _).drew | exact keep3 (by assumption) ((Below.refl _ _).alloc (Nat.le_refl _) _) | exact hH10 | go_keep)
                        clear hK K
                        (try simp only [Act.put, List.setIfInBounds_toArray, List.set_cons_zero, List.set_cons_succ])
                        clear hH10
                        refine wpAnyH_take (i := 35) (oi := { dst := some 74, op := Op.binOp BinOp.eql 23 (Operand.tmp 69) (Operand.tmp 73) 23, type := 4, pos := "law.go:77", after := #[{ on := 30, ground := Ground.data }, { on := 34, ground := Ground.data }, { on := 26, ground := Ground.guard }], guard := some (26, true) }) (v := ?_) rfl (by kernel_rfl) (by kernel_rfl) (by kernel_rfl) (fun _ _ _ h => h) (Or.inl ⟨by rfl, ?_⟩) (by assumption) ?_
                        rotate_left
                        · (intro w hSw; (try dsimp only at hSw); go_simp <;> with_reducible rfl)
                        (try simp only [Act.put, List.setIfInBounds_toArray, List.set_cons_zero, List.set_cons_succ])
                        refine wpAnyH_take (i := 36) (oi := { dst := some 75, op := Op.pick (Operand.tmp 65) (Operand.tmp 74) (Operand.const (Value.bool false)), type := 4, pos := "law.go:77", after := #[{ on := 26, ground := Ground.data }, { on := 35, ground := Ground.data }], guard := none }) (v := ?_) rfl (by kernel_rfl) (by kernel_rfl) (by kernel_rfl) (fun _ _ _ h => h) (Or.inl ⟨by rfl, ?_⟩) (by assumption) ?_
                        rotate_left
                        · (intro w hSw; (try dsimp only at hSw); go_simp <;> with_reducible rfl)
                        (try simp only [Act.put, List.setIfInBounds_toArray, List.set_cons_zero, List.set_cons_succ])
                        refine wpAnyH_take (i := 37) (oi := { dst := some 76, op := Op.move (Operand.tmp 75), type := 4, pos := "law.go:77", after := #[{ on := 36, ground := Ground.data }, { on := 34, ground := Ground.chain }], guard := none }) (v := ?_) rfl (by kernel_rfl) (by kernel_rfl) (by kernel_rfl) (fun _ _ _ h => h) (Or.inl ⟨by rfl, ?_⟩) (by assumption) ?_
                        rotate_left
                        · (intro w hSw; (try dsimp only at hSw); go_simp <;> with_reducible rfl)
                        (try simp only [Act.put, List.setIfInBounds_toArray, List.set_cons_zero, List.set_cons_succ])
                        refine wpAnyH_ready (rs := [38]) (by kernel_rfl) (by simp) ?_
                        refine AllReadyH.cons (o := { dst := some 77, op := Op.call { callee := Callee.value (Operand.func 10), args := #[], argTypes := #[] }, type := 4, pos := "law.go:77", after := #[{ on := 37, ground := Ground.chain }, { on := 37, ground := Ground.guard }], guard := some (37, true) }) rfl (fun K hK => ?_) ?_
                        · go_simp
                          (go_at_call 10; (with_reducible refine (CA.out _ (And.left (by assumption))).mono ?_); rintro e V12 ⟨rfl, b12⟩; have hs12 := keep3 (by assumption) b12)
                          try (go_wp2_with fail)
                          refine hK.out _ _ ?_ (fun hH12 => ?_)
                          · (try dsimp only); (first | exact HT4.out | exact hs12 | exact hs11 | exact hs10 | exact hs9 | exact hs8 | exact hs7 | exact hs6 | exact hs5 | exact keep3 (by assumption) (Below.refl _ _).drew | exact keep3 (by assumption) ((Below.refl _ _).alloc (Nat.le_refl _) _) | exact hH11 | go_keep)
                          clear hK K
                          (try simp only [Act.put, List.setIfInBounds_toArray, List.set_cons_zero, List.set_cons_succ])
                          clear hH11
                          refine wpAnyH_take (i := 39) (oi := { dst := some 78, op := Op.pick (Operand.tmp 76) (Operand.tmp 77) (Operand.const (Value.bool false)), type := 4, pos := "law.go:77", after := #[{ on := 37, ground := Ground.data }, { on := 38, ground := Ground.data }], guard := none }) (v := ?_) rfl (by kernel_rfl) (by kernel_rfl) (by kernel_rfl) (fun _ _ _ h => h) (Or.inl ⟨by rfl, ?_⟩) (by assumption) ?_
                          rotate_left
                          · (intro w hSw; (try dsimp only at hSw); go_simp <;> with_reducible rfl)
                          (try simp only [Act.put, List.setIfInBounds_toArray, List.set_cons_zero, List.set_cons_succ])
                          refine wpAnyH_take (i := 40) (oi := { dst := some 6, op := Op.assign (Operand.tmp 78), type := 4, pos := "law.go:77", after := #[{ on := 39, ground := Ground.data }, { on := 38, ground := Ground.chain }, { on := 0, ground := Ground.phase }, { on := 1, ground := Ground.phase }, { on := 2, ground := Ground.phase }, { on := 3, ground := Ground.phase }, { on := 4, ground := Ground.phase }, { on := 5, ground := Ground.phase }, { on := 6, ground := Ground.phase }, { on := 7, ground := Ground.phase }, { on := 8, ground := Ground.phase }, { on := 9, ground := Ground.phase }, { on := 10, ground := Ground.phase }, { on := 11, ground := Ground.phase }, { on := 12, ground := Ground.phase }, { on := 13, ground := Ground.phase }, { on := 14, ground := Ground.phase }, { on := 15, ground := Ground.phase }, { on := 16, ground := Ground.phase }, { on := 17, ground := Ground.phase }, { on := 18, ground := Ground.phase }, { on := 19, ground := Ground.phase }, { on := 20, ground := Ground.phase }, { on := 21, ground := Ground.phase }, { on := 22, ground := Ground.phase }, { on := 23, ground := Ground.phase }, { on := 24, ground := Ground.phase }, { on := 25, ground := Ground.phase }, { on := 26, ground := Ground.phase }, { on := 27, ground := Ground.phase }, { on := 28, ground := Ground.phase }, { on := 29, ground := Ground.phase }, { on := 30, ground := Ground.phase }, { on := 31, ground := Ground.phase }, { on := 32, ground := Ground.phase }, { on := 33, ground := Ground.phase }, { on := 34, ground := Ground.phase }, { on := 35, ground := Ground.phase }, { on := 36, ground := Ground.phase }, { on := 37, ground := Ground.phase }, { on := 38, ground := Ground.phase }, { on := 39, ground := Ground.phase }], guard := none }) (v := ?_) rfl (by kernel_rfl) (by kernel_rfl) (by kernel_rfl) (fun _ _ _ h => h) (Or.inl ⟨by rfl, ?_⟩) (by assumption) ?_
                          rotate_left
                          · (intro w hSw; (try dsimp only at hSw); go_simp <;> with_reducible rfl)
                          (try simp only [Act.put, List.setIfInBounds_toArray, List.set_cons_zero, List.set_cons_succ])
                          refine wpAnyH_done (by kernel_rfl) ?_ _
                          refine NoPanic.normal ?_
                          have HZ := Lib.hid hs12.1
                          go_wp2
                          go_ret
                          exact ⟨rfl, HZ.out⟩
                        exact AllReadyH.nil
                      exact AllReadyH.nil
                    exact AllReadyH.nil
                  refine AllReadyH.cons (o := { dst := some 72, op := Op.buildSlice 24 2 #[(0, Operand.tmp 70), (1, Operand.tmp 71)], type := 24, pos := "law.go:77", after := #[{ on := 31, ground := Ground.data }, { on := 32, ground := Ground.data }, { on := 26, ground := Ground.guard }], guard := some (26, true) }) rfl (fun K hK => ?_) ?_
                  · go_simp
                    refine hK.out _ _ ?_ (fun hH9 => ?_)
                    · (try dsimp only); (first | exact HT4.out | exact hs12 | exact hs11 | exact hs10 | exact hs9 | exact hs8 | exact hs7 | exact hs6 | exact hs5 | exact keep3 (by assumption) (Below.refl _ _).drew | exact keep3 (by assumption) ((Below.refl _ _).alloc (Nat.le_refl _) _) | exact hH8 | go_keep)
                    clear hK K
                    (try simp only [Act.put, List.setIfInBounds_toArray, List.set_cons_zero, List.set_cons_succ])
                    clear hH8
                    refine wpAnyH_ready (rs := [30]) (by kernel_rfl) (by simp) ?_
                    refine AllReadyH.cons (o := { dst := some 69, op := Op.call { callee := Callee.value (Operand.func 15), args := #[Operand.tmp 68], argTypes := #[24] }, type := 23, pos := "law.go:77", after := #[{ on := 29, ground := Ground.data }, { on := 26, ground := Ground.chain }, { on := 26, ground := Ground.guard }], guard := some (26, true) }) rfl (fun K hK => ?_) ?_
                    · go_simp
                      (go_at_call 15; (with_reducible refine (CN1.out _ _ ?hm10).mono ?_); (case hm10 => first | exact heap_alloc_new _ _ | exact box_alloc (heap_alloc_new _ _) _ | exact heap_alloc_two _ _ _ | fail); rintro e V10 ⟨rfl, b10⟩; have hs10 := keep3 (by assumption) b10)
                      try (go_wp2_with fail)
                      refine hK.out _ _ ?_ (fun hH10 => ?_)
                      · (try dsimp only); (first | exact HT4.out | exact hs12 | exact hs11 | exact hs10 | exact hs9 | exact hs8 | exact hs7 | exact hs6 | exact hs5 | exact keep3 (by assumption) (Below.refl _ _).drew | exact keep3 (by assumption) ((Below.refl _ _).alloc (Nat.le_refl _) _) | exact hH9 | go_keep)
                      clear hK K
                      (try simp only [Act.put, List.setIfInBounds_toArray, List.set_cons_zero, List.set_cons_succ])
                      clear hH9
                      refine wpAnyH_ready (rs := [34]) (by kernel_rfl) (by simp) ?_
                      refine AllReadyH.cons (o := { dst := some 73, op := Op.call { callee := Callee.value (Operand.func 15), args := #[Operand.tmp 72], argTypes := #[24] }, type := 23, pos := "law.go:77", after := #[{ on := 33, ground := Ground.data }, { on := 30, ground := Ground.chain }, { on := 26, ground := Ground.guard }], guard := some (26, true) }) rfl (fun K hK => ?_) ?_
                      · go_simp
                        (go_at_call 15; (with_reducible refine (CN2.out _ _ ?hm11).mono ?_); (case hm11 => first | exact heap_alloc_new _ _ | exact box_below (heap_alloc_two _ _ _) b10 (by simp) | exact box_below (box_alloc (heap_alloc_new _ _) _) b10 (by simp; omega) | fail); rintro e V11 ⟨rfl, b11⟩; have hs11 := keep3 (by assumption) b11)
                        try (go_wp2_with fail)
                        refine hK.out _ _ ?_ (fun hH11 => ?_)
                        · (try dsimp only); (first | exact HT4.out | exact hs12 | exact hs11 | exact hs10 | exact hs9 | exact hs8 | exact hs7 | exact hs6 | exact hs5 | exact keep3 (by assumption) (Below.refl _ _).drew | exact keep3 (by assumption) ((Below.refl _ _).alloc (Nat.le_refl _) _) | exact hH10 | go_keep)
                        clear hK K
                        (try simp only [Act.put, List.setIfInBounds_toArray, List.set_cons_zero, List.set_cons_succ])
                        clear hH10
                        refine wpAnyH_take (i := 35) (oi := { dst := some 74, op := Op.binOp BinOp.eql 23 (Operand.tmp 69) (Operand.tmp 73) 23, type := 4, pos := "law.go:77", after := #[{ on := 30, ground := Ground.data }, { on := 34, ground := Ground.data }, { on := 26, ground := Ground.guard }], guard := some (26, true) }) (v := ?_) rfl (by kernel_rfl) (by kernel_rfl) (by kernel_rfl) (fun _ _ _ h => h) (Or.inl ⟨by rfl, ?_⟩) (by assumption) ?_
                        rotate_left
                        · (intro w hSw; (try dsimp only at hSw); go_simp <;> with_reducible rfl)
                        (try simp only [Act.put, List.setIfInBounds_toArray, List.set_cons_zero, List.set_cons_succ])
                        refine wpAnyH_take (i := 36) (oi := { dst := some 75, op := Op.pick (Operand.tmp 65) (Operand.tmp 74) (Operand.const (Value.bool false)), type := 4, pos := "law.go:77", after := #[{ on := 26, ground := Ground.data }, { on := 35, ground := Ground.data }], guard := none }) (v := ?_) rfl (by kernel_rfl) (by kernel_rfl) (by kernel_rfl) (fun _ _ _ h => h) (Or.inl ⟨by rfl, ?_⟩) (by assumption) ?_
                        rotate_left
                        · (intro w hSw; (try dsimp only at hSw); go_simp <;> with_reducible rfl)
                        (try simp only [Act.put, List.setIfInBounds_toArray, List.set_cons_zero, List.set_cons_succ])
                        refine wpAnyH_take (i := 37) (oi := { dst := some 76, op := Op.move (Operand.tmp 75), type := 4, pos := "law.go:77", after := #[{ on := 36, ground := Ground.data }, { on := 34, ground := Ground.chain }], guard := none }) (v := ?_) rfl (by kernel_rfl) (by kernel_rfl) (by kernel_rfl) (fun _ _ _ h => h) (Or.inl ⟨by rfl, ?_⟩) (by assumption) ?_
                        rotate_left
                        · (intro w hSw; (try dsimp only at hSw); go_simp <;> with_reducible rfl)
                        (try simp only [Act.put, List.setIfInBounds_toArray, List.set_cons_zero, List.set_cons_succ])
                        refine wpAnyH_ready (rs := [38]) (by kernel_rfl) (by simp) ?_
                        refine AllReadyH.cons (o := { dst := some 77, op := Op.call { callee := Callee.value (Operand.func 10), args := #[], argTypes := #[] }, type := 4, pos := "law.go:77", after := #[{ on := 37, ground := Ground.chain }, { on := 37, ground := Ground.guard }], guard := some (37, true) }) rfl (fun K hK => ?_) ?_
                        · go_simp
                          (go_at_call 10; (with_reducible refine (CA.out _ (And.left (by assumption))).mono ?_); rintro e V12 ⟨rfl, b12⟩; have hs12 := keep3 (by assumption) b12)
                          try (go_wp2_with fail)
                          refine hK.out _ _ ?_ (fun hH12 => ?_)
                          · (try dsimp only); (first | exact HT4.out | exact hs12 | exact hs11 | exact hs10 | exact hs9 | exact hs8 | exact hs7 | exact hs6 | exact hs5 | exact keep3 (by assumption) (Below.refl _ _).drew | exact keep3 (by assumption) ((Below.refl _ _).alloc (Nat.le_refl _) _) | exact hH11 | go_keep)
                          clear hK K
                          (try simp only [Act.put, List.setIfInBounds_toArray, List.set_cons_zero, List.set_cons_succ])
                          clear hH11
                          refine wpAnyH_take (i := 39) (oi := { dst := some 78, op := Op.pick (Operand.tmp 76) (Operand.tmp 77) (Operand.const (Value.bool false)), type := 4, pos := "law.go:77", after := #[{ on := 37, ground := Ground.data }, { on := 38, ground := Ground.data }], guard := none }) (v := ?_) rfl (by kernel_rfl) (by kernel_rfl) (by kernel_rfl) (fun _ _ _ h => h) (Or.inl ⟨by rfl, ?_⟩) (by assumption) ?_
                          rotate_left
                          · (intro w hSw; (try dsimp only at hSw); go_simp <;> with_reducible rfl)
                          (try simp only [Act.put, List.setIfInBounds_toArray, List.set_cons_zero, List.set_cons_succ])
                          refine wpAnyH_take (i := 40) (oi := { dst := some 6, op := Op.assign (Operand.tmp 78), type := 4, pos := "law.go:77", after := #[{ on := 39, ground := Ground.data }, { on := 38, ground := Ground.chain }, { on := 0, ground := Ground.phase }, { on := 1, ground := Ground.phase }, { on := 2, ground := Ground.phase }, { on := 3, ground := Ground.phase }, { on := 4, ground := Ground.phase }, { on := 5, ground := Ground.phase }, { on := 6, ground := Ground.phase }, { on := 7, ground := Ground.phase }, { on := 8, ground := Ground.phase }, { on := 9, ground := Ground.phase }, { on := 10, ground := Ground.phase }, { on := 11, ground := Ground.phase }, { on := 12, ground := Ground.phase }, { on := 13, ground := Ground.phase }, { on := 14, ground := Ground.phase }, { on := 15, ground := Ground.phase }, { on := 16, ground := Ground.phase }, { on := 17, ground := Ground.phase }, { on := 18, ground := Ground.phase }, { on := 19, ground := Ground.phase }, { on := 20, ground := Ground.phase }, { on := 21, ground := Ground.phase }, { on := 22, ground := Ground.phase }, { on := 23, ground := Ground.phase }, { on := 24, ground := Ground.phase }, { on := 25, ground := Ground.phase }, { on := 26, ground := Ground.phase }, { on := 27, ground := Ground.phase }, { on := 28, ground := Ground.phase }, { on := 29, ground := Ground.phase }, { on := 30, ground := Ground.phase }, { on := 31, ground := Ground.phase }, { on := 32, ground := Ground.phase }, { on := 33, ground := Ground.phase }, { on := 34, ground := Ground.phase }, { on := 35, ground := Ground.phase }, { on := 36, ground := Ground.phase }, { on := 37, ground := Ground.phase }, { on := 38, ground := Ground.phase }, { on := 39, ground := Ground.phase }], guard := none }) (v := ?_) rfl (by kernel_rfl) (by kernel_rfl) (by kernel_rfl) (fun _ _ _ h => h) (Or.inl ⟨by rfl, ?_⟩) (by assumption) ?_
                          rotate_left
                          · (intro w hSw; (try dsimp only at hSw); go_simp <;> with_reducible rfl)
                          (try simp only [Act.put, List.setIfInBounds_toArray, List.set_cons_zero, List.set_cons_succ])
                          refine wpAnyH_done (by kernel_rfl) ?_ _
                          refine NoPanic.normal ?_
                          have HZ := Lib.hid hs12.1
                          go_wp2
                          go_ret
                          exact ⟨rfl, HZ.out⟩
                        exact AllReadyH.nil
                      exact AllReadyH.nil
                    exact AllReadyH.nil
                  exact AllReadyH.nil
                refine AllReadyH.cons (o := { dst := some 72, op := Op.buildSlice 24 2 #[(0, Operand.tmp 70), (1, Operand.tmp 71)], type := 24, pos := "law.go:77", after := #[{ on := 31, ground := Ground.data }, { on := 32, ground := Ground.data }, { on := 26, ground := Ground.guard }], guard := some (26, true) }) rfl (fun K hK => ?_) ?_
                · go_simp
                  refine hK.out _ _ ?_ (fun hH8 => ?_)
                  · (try dsimp only); (first | exact HT4.out | exact hs12 | exact hs11 | exact hs10 | exact hs9 | exact hs8 | exact hs7 | exact hs6 | exact hs5 | exact keep3 (by assumption) (Below.refl _ _).drew | exact keep3 (by assumption) ((Below.refl _ _).alloc (Nat.le_refl _) _) | exact hH7 | go_keep)
                  clear hK K
                  (try simp only [Act.put, List.setIfInBounds_toArray, List.set_cons_zero, List.set_cons_succ])
                  clear hH7
                  refine wpAnyH_ready (rs := [29]) (by kernel_rfl) (by simp) ?_
                  refine AllReadyH.cons (o := { dst := some 68, op := Op.buildSlice 24 2 #[(0, Operand.tmp 66), (1, Operand.tmp 67)], type := 24, pos := "law.go:77", after := #[{ on := 27, ground := Ground.data }, { on := 28, ground := Ground.data }, { on := 26, ground := Ground.guard }], guard := some (26, true) }) rfl (fun K hK => ?_) ?_
                  · go_simp
                    refine hK.out _ _ ?_ (fun hH9 => ?_)
                    · (try dsimp only); (first | exact HT4.out | exact hs12 | exact hs11 | exact hs10 | exact hs9 | exact hs8 | exact hs7 | exact hs6 | exact hs5 | exact keep3 (by assumption) (Below.refl _ _).drew | exact keep3 (by assumption) ((Below.refl _ _).alloc (Nat.le_refl _) _) | exact hH8 | go_keep)
                    clear hK K
                    (try simp only [Act.put, List.setIfInBounds_toArray, List.set_cons_zero, List.set_cons_succ])
                    clear hH8
                    refine wpAnyH_ready (rs := [30]) (by kernel_rfl) (by simp) ?_
                    refine AllReadyH.cons (o := { dst := some 69, op := Op.call { callee := Callee.value (Operand.func 15), args := #[Operand.tmp 68], argTypes := #[24] }, type := 23, pos := "law.go:77", after := #[{ on := 29, ground := Ground.data }, { on := 26, ground := Ground.chain }, { on := 26, ground := Ground.guard }], guard := some (26, true) }) rfl (fun K hK => ?_) ?_
                    · go_simp
                      (go_at_call 15; (with_reducible refine (CN1.out _ _ ?hm10).mono ?_); (case hm10 => first | exact heap_alloc_new _ _ | exact box_alloc (heap_alloc_new _ _) _ | exact heap_alloc_two _ _ _ | fail); rintro e V10 ⟨rfl, b10⟩; have hs10 := keep3 (by assumption) b10)
                      try (go_wp2_with fail)
                      refine hK.out _ _ ?_ (fun hH10 => ?_)
                      · (try dsimp only); (first | exact HT4.out | exact hs12 | exact hs11 | exact hs10 | exact hs9 | exact hs8 | exact hs7 | exact hs6 | exact hs5 | exact keep3 (by assumption) (Below.refl _ _).drew | exact keep3 (by assumption) ((Below.refl _ _).alloc (Nat.le_refl _) _) | exact hH9 | go_keep)
                      clear hK K
                      (try simp only [Act.put, List.setIfInBounds_toArray, List.set_cons_zero, List.set_cons_succ])
                      clear hH9
                      refine wpAnyH_ready (rs := [34]) (by kernel_rfl) (by simp) ?_
                      refine AllReadyH.cons (o := { dst := some 73, op := Op.call { callee := Callee.value (Operand.func 15), args := #[Operand.tmp 72], argTypes := #[24] }, type := 23, pos := "law.go:77", after := #[{ on := 33, ground := Ground.data }, { on := 30, ground := Ground.chain }, { on := 26, ground := Ground.guard }], guard := some (26, true) }) rfl (fun K hK => ?_) ?_
                      · go_simp
                        (go_at_call 15; (with_reducible refine (CN2.out _ _ ?hm11).mono ?_); (case hm11 => first | exact heap_alloc_new _ _ | exact box_below (heap_alloc_two _ _ _) b10 (by simp) | exact box_below (box_alloc (heap_alloc_new _ _) _) b10 (by simp; omega) | fail); rintro e V11 ⟨rfl, b11⟩; have hs11 := keep3 (by assumption) b11)
                        try (go_wp2_with fail)
                        refine hK.out _ _ ?_ (fun hH11 => ?_)
                        · (try dsimp only); (first | exact HT4.out | exact hs12 | exact hs11 | exact hs10 | exact hs9 | exact hs8 | exact hs7 | exact hs6 | exact hs5 | exact keep3 (by assumption) (Below.refl _ _).drew | exact keep3 (by assumption) ((Below.refl _ _).alloc (Nat.le_refl _) _) | exact hH10 | go_keep)
                        clear hK K
                        (try simp only [Act.put, List.setIfInBounds_toArray, List.set_cons_zero, List.set_cons_succ])
                        clear hH10
                        refine wpAnyH_take (i := 35) (oi := { dst := some 74, op := Op.binOp BinOp.eql 23 (Operand.tmp 69) (Operand.tmp 73) 23, type := 4, pos := "law.go:77", after := #[{ on := 30, ground := Ground.data }, { on := 34, ground := Ground.data }, { on := 26, ground := Ground.guard }], guard := some (26, true) }) (v := ?_) rfl (by kernel_rfl) (by kernel_rfl) (by kernel_rfl) (fun _ _ _ h => h) (Or.inl ⟨by rfl, ?_⟩) (by assumption) ?_
                        rotate_left
                        · (intro w hSw; (try dsimp only at hSw); go_simp <;> with_reducible rfl)
                        (try simp only [Act.put, List.setIfInBounds_toArray, List.set_cons_zero, List.set_cons_succ])
                        refine wpAnyH_take (i := 36) (oi := { dst := some 75, op := Op.pick (Operand.tmp 65) (Operand.tmp 74) (Operand.const (Value.bool false)), type := 4, pos := "law.go:77", after := #[{ on := 26, ground := Ground.data }, { on := 35, ground := Ground.data }], guard := none }) (v := ?_) rfl (by kernel_rfl) (by kernel_rfl) (by kernel_rfl) (fun _ _ _ h => h) (Or.inl ⟨by rfl, ?_⟩) (by assumption) ?_
                        rotate_left
                        · (intro w hSw; (try dsimp only at hSw); go_simp <;> with_reducible rfl)
                        (try simp only [Act.put, List.setIfInBounds_toArray, List.set_cons_zero, List.set_cons_succ])
                        refine wpAnyH_take (i := 37) (oi := { dst := some 76, op := Op.move (Operand.tmp 75), type := 4, pos := "law.go:77", after := #[{ on := 36, ground := Ground.data }, { on := 34, ground := Ground.chain }], guard := none }) (v := ?_) rfl (by kernel_rfl) (by kernel_rfl) (by kernel_rfl) (fun _ _ _ h => h) (Or.inl ⟨by rfl, ?_⟩) (by assumption) ?_
                        rotate_left
                        · (intro w hSw; (try dsimp only at hSw); go_simp <;> with_reducible rfl)
                        (try simp only [Act.put, List.setIfInBounds_toArray, List.set_cons_zero, List.set_cons_succ])
                        refine wpAnyH_ready (rs := [38]) (by kernel_rfl) (by simp) ?_
                        refine AllReadyH.cons (o := { dst := some 77, op := Op.call { callee := Callee.value (Operand.func 10), args := #[], argTypes := #[] }, type := 4, pos := "law.go:77", after := #[{ on := 37, ground := Ground.chain }, { on := 37, ground := Ground.guard }], guard := some (37, true) }) rfl (fun K hK => ?_) ?_
                        · go_simp
                          (go_at_call 10; (with_reducible refine (CA.out _ (And.left (by assumption))).mono ?_); rintro e V12 ⟨rfl, b12⟩; have hs12 := keep3 (by assumption) b12)
                          try (go_wp2_with fail)
                          refine hK.out _ _ ?_ (fun hH12 => ?_)
                          · (try dsimp only); (first | exact HT4.out | exact hs12 | exact hs11 | exact hs10 | exact hs9 | exact hs8 | exact hs7 | exact hs6 | exact hs5 | exact keep3 (by assumption) (Below.refl _ _).drew | exact keep3 (by assumption) ((Below.refl _ _).alloc (Nat.le_refl _) _) | exact hH11 | go_keep)
                          clear hK K
                          (try simp only [Act.put, List.setIfInBounds_toArray, List.set_cons_zero, List.set_cons_succ])
                          clear hH11
                          refine wpAnyH_take (i := 39) (oi := { dst := some 78, op := Op.pick (Operand.tmp 76) (Operand.tmp 77) (Operand.const (Value.bool false)), type := 4, pos := "law.go:77", after := #[{ on := 37, ground := Ground.data }, { on := 38, ground := Ground.data }], guard := none }) (v := ?_) rfl (by kernel_rfl) (by kernel_rfl) (by kernel_rfl) (fun _ _ _ h => h) (Or.inl ⟨by rfl, ?_⟩) (by assumption) ?_
                          rotate_left
                          · (intro w hSw; (try dsimp only at hSw); go_simp <;> with_reducible rfl)
                          (try simp only [Act.put, List.setIfInBounds_toArray, List.set_cons_zero, List.set_cons_succ])
                          refine wpAnyH_take (i := 40) (oi := { dst := some 6, op := Op.assign (Operand.tmp 78), type := 4, pos := "law.go:77", after := #[{ on := 39, ground := Ground.data }, { on := 38, ground := Ground.chain }, { on := 0, ground := Ground.phase }, { on := 1, ground := Ground.phase }, { on := 2, ground := Ground.phase }, { on := 3, ground := Ground.phase }, { on := 4, ground := Ground.phase }, { on := 5, ground := Ground.phase }, { on := 6, ground := Ground.phase }, { on := 7, ground := Ground.phase }, { on := 8, ground := Ground.phase }, { on := 9, ground := Ground.phase }, { on := 10, ground := Ground.phase }, { on := 11, ground := Ground.phase }, { on := 12, ground := Ground.phase }, { on := 13, ground := Ground.phase }, { on := 14, ground := Ground.phase }, { on := 15, ground := Ground.phase }, { on := 16, ground := Ground.phase }, { on := 17, ground := Ground.phase }, { on := 18, ground := Ground.phase }, { on := 19, ground := Ground.phase }, { on := 20, ground := Ground.phase }, { on := 21, ground := Ground.phase }, { on := 22, ground := Ground.phase }, { on := 23, ground := Ground.phase }, { on := 24, ground := Ground.phase }, { on := 25, ground := Ground.phase }, { on := 26, ground := Ground.phase }, { on := 27, ground := Ground.phase }, { on := 28, ground := Ground.phase }, { on := 29, ground := Ground.phase }, { on := 30, ground := Ground.phase }, { on := 31, ground := Ground.phase }, { on := 32, ground := Ground.phase }, { on := 33, ground := Ground.phase }, { on := 34, ground := Ground.phase }, { on := 35, ground := Ground.phase }, { on := 36, ground := Ground.phase }, { on := 37, ground := Ground.phase }, { on := 38, ground := Ground.phase }, { on := 39, ground := Ground.phase }], guard := none }) (v := ?_) rfl (by kernel_rfl) (by kernel_rfl) (by kernel_rfl) (fun _ _ _ h => h) (Or.inl ⟨by rfl, ?_⟩) (by assumption) ?_
                          rotate_left
                          · (intro w hSw; (try dsimp only at hSw); go_simp <;> with_reducible rfl)
                          (try simp only [Act.put, List.setIfInBounds_toArray, List.set_cons_zero, List.set_cons_succ])
                          refine wpAnyH_done (by kernel_rfl) ?_ _
                          refine NoPanic.normal ?_
                          have HZ := Lib.hid hs12.1
                          go_wp2
                          go_ret
                          exact ⟨rfl, HZ.out⟩
                        exact AllReadyH.nil
                      exact AllReadyH.nil
                    exact AllReadyH.nil
                  exact AllReadyH.nil
                exact AllReadyH.nil
              exact AllReadyH.nil
            exact AllReadyH.nil
          exact AllReadyH.nil
        refine AllReadyH.cons (o := { dst := some 61, op := Op.buildSlice 24 2 #[(0, Operand.tmp 59), (1, Operand.tmp 60)], type := 24, pos := "law.go:77", after := #[{ on := 20, ground := Ground.data }, { on := 21, ground := Ground.data }, { on := 15, ground := Ground.guard }], guard := some (15, true) }) rfl (fun K hK => ?_) ?_
        · go_simp
          refine hK.out _ _ ?_ (fun hH4 => ?_)
          · (try dsimp only); (first | exact HT4.out | exact hs12 | exact hs11 | exact hs10 | exact hs9 | exact hs8 | exact hs7 | exact hs6 | exact hs5 | exact keep3 (by assumption) (Below.refl _ _).drew | exact keep3 (by assumption) ((Below.refl _ _).alloc (Nat.le_refl _) _) | exact hH3 | go_keep)
          clear hK K
          (try simp only [Act.put, List.setIfInBounds_toArray, List.set_cons_zero, List.set_cons_succ])
          clear hH3
          refine wpAnyH_ready (rs := [18]) (by kernel_rfl) (by simp) ?_
          refine AllReadyH.cons (o := { dst := some 57, op := Op.buildSlice 24 2 #[(0, Operand.tmp 55), (1, Operand.tmp 56)], type := 24, pos := "law.go:77", after := #[{ on := 16, ground := Ground.data }, { on := 17, ground := Ground.data }, { on := 15, ground := Ground.guard }], guard := some (15, true) }) rfl (fun K hK => ?_) ?_
          · go_simp
            refine hK.out _ _ ?_ (fun hH5 => ?_)
            · (try dsimp only); (first | exact HT4.out | exact hs12 | exact hs11 | exact hs10 | exact hs9 | exact hs8 | exact hs7 | exact hs6 | exact hs5 | exact keep3 (by assumption) (Below.refl _ _).drew | exact keep3 (by assumption) ((Below.refl _ _).alloc (Nat.le_refl _) _) | exact hH4 | go_keep)
            clear hK K
            (try simp only [Act.put, List.setIfInBounds_toArray, List.set_cons_zero, List.set_cons_succ])
            clear hH4
            refine wpAnyH_ready (rs := [19]) (by kernel_rfl) (by simp) ?_
            refine AllReadyH.cons (o := { dst := some 58, op := Op.call { callee := Callee.value (Operand.func 13), args := #[Operand.tmp 57], argTypes := #[24] }, type := 23, pos := "law.go:77", after := #[{ on := 18, ground := Ground.data }, { on := 15, ground := Ground.chain }, { on := 15, ground := Ground.guard }], guard := some (15, true) }) rfl (fun K hK => ?_) ?_
            · go_simp
              (go_at_call 13; (with_reducible refine (CM1.out _ _ ?hm8).mono ?_); (case hm8 => first | exact heap_alloc_new _ _ | exact box_alloc (heap_alloc_new _ _) _ | exact heap_alloc_two _ _ _ | fail); rintro e V8 ⟨rfl, b8⟩; have hs8 := keep3 (by assumption) b8)
              try (go_wp2_with fail)
              refine hK.out _ _ ?_ (fun hH6 => ?_)
              · (try dsimp only); (first | exact HT4.out | exact hs12 | exact hs11 | exact hs10 | exact hs9 | exact hs8 | exact hs7 | exact hs6 | exact hs5 | exact keep3 (by assumption) (Below.refl _ _).drew | exact keep3 (by assumption) ((Below.refl _ _).alloc (Nat.le_refl _) _) | exact hH5 | go_keep)
              clear hK K
              (try simp only [Act.put, List.setIfInBounds_toArray, List.set_cons_zero, List.set_cons_succ])
              clear hH5
              refine wpAnyH_ready (rs := [23]) (by kernel_rfl) (by simp) ?_
              refine AllReadyH.cons (o := { dst := some 62, op := Op.call { callee := Callee.value (Operand.func 13), args := #[Operand.tmp 61], argTypes := #[24] }, type := 23, pos := "law.go:77", after := #[{ on := 22, ground := Ground.data }, { on := 19, ground := Ground.chain }, { on := 15, ground := Ground.guard }], guard := some (15, true) }) rfl (fun K hK => ?_) ?_
              · go_simp
                (go_at_call 13; (with_reducible refine (CM2.out _ _ ?hm9).mono ?_); (case hm9 => first | exact heap_alloc_new _ _ | exact box_below (heap_alloc_two _ _ _) b8 (by simp) | exact box_below (box_alloc (heap_alloc_new _ _) _) b8 (by simp; omega) | fail); rintro e V9 ⟨rfl, b9⟩; have hs9 := keep3 (by assumption) b9)
                try (go_wp2_with fail)
                refine hK.out _ _ ?_ (fun hH7 => ?_)
                · (try dsimp only); (first | exact HT4.out | exact hs12 | exact hs11 | exact hs10 | exact hs9 | exact hs8 | exact hs7 | exact hs6 | exact hs5 | exact keep3 (by assumption) (Below.refl _ _).drew | exact keep3 (by assumption) ((Below.refl _ _).alloc (Nat.le_refl _) _) | exact hH6 | go_keep)
                clear hK K
                (try simp only [Act.put, List.setIfInBounds_toArray, List.set_cons_zero, List.set_cons_succ])
                clear hH6
                refine wpAnyH_take (i := 24) (oi := { dst := some 63, op := Op.binOp BinOp.eql 23 (Operand.tmp 58) (Operand.tmp 62) 23, type := 4, pos := "law.go:77", after := #[{ on := 19, ground := Ground.data }, { on := 23, ground := Ground.data }, { on := 15, ground := Ground.guard }], guard := some (15, true) }) (v := ?_) rfl (by kernel_rfl) (by kernel_rfl) (by kernel_rfl) (fun _ _ _ h => h) (Or.inl ⟨by rfl, ?_⟩) (by assumption) ?_
                rotate_left
                · (intro w hSw; (try dsimp only at hSw); go_simp <;> with_reducible rfl)
                (try simp only [Act.put, List.setIfInBounds_toArray, List.set_cons_zero, List.set_cons_succ])
                refine wpAnyH_take (i := 25) (oi := { dst := some 64, op := Op.pick (Operand.tmp 54) (Operand.tmp 63) (Operand.const (Value.bool false)), type := 4, pos := "law.go:77", after := #[{ on := 15, ground := Ground.data }, { on := 24, ground := Ground.data }], guard := none }) (v := ?_) rfl (by kernel_rfl) (by kernel_rfl) (by kernel_rfl) (fun _ _ _ h => h) (Or.inl ⟨by rfl, ?_⟩) (by assumption) ?_
                rotate_left
                · (intro w hSw; (try dsimp only at hSw); go_simp <;> with_reducible rfl)
                (try simp only [Act.put, List.setIfInBounds_toArray, List.set_cons_zero, List.set_cons_succ])
                refine wpAnyH_take (i := 26) (oi := { dst := some 65, op := Op.move (Operand.tmp 64), type := 4, pos := "law.go:77", after := #[{ on := 25, ground := Ground.data }, { on := 23, ground := Ground.chain }], guard := none }) (v := ?_) rfl (by kernel_rfl) (by kernel_rfl) (by kernel_rfl) (fun _ _ _ h => h) (Or.inl ⟨by rfl, ?_⟩) (by assumption) ?_
                rotate_left
                · (intro w hSw; (try dsimp only at hSw); go_simp <;> with_reducible rfl)
                (try simp only [Act.put, List.setIfInBounds_toArray, List.set_cons_zero, List.set_cons_succ])
                refine wpAnyH_take (i := 27) (oi := { dst := some 66, op := Op.load 23 (Operand.tmp 3), type := 23, pos := "law.go:77", after := #[{ on := 26, ground := Ground.guard }], guard := some (26, true) }) (v := ?_) rfl (by kernel_rfl) (by kernel_rfl) (by kernel_rfl) (fun _ _ _ h => h) (Or.inl ⟨by rfl, ?_⟩) (by assumption) ?_
                rotate_left
                · (intro w hSw; (try dsimp only at hSw); go_simp <;> with_reducible rfl)
                (try simp only [Act.put, List.setIfInBounds_toArray, List.set_cons_zero, List.set_cons_succ])
                refine wpAnyH_take (i := 28) (oi := { dst := some 67, op := Op.load 23 (Operand.tmp 4), type := 23, pos := "law.go:77", after := #[{ on := 26, ground := Ground.guard }], guard := some (26, true) }) (v := ?_) rfl (by kernel_rfl) (by kernel_rfl) (by kernel_rfl) (fun _ _ _ h => h) (Or.inl ⟨by rfl, ?_⟩) (by assumption) ?_
                rotate_left
                · (intro w hSw; (try dsimp only at hSw); go_simp <;> with_reducible rfl)
                (try simp only [Act.put, List.setIfInBounds_toArray, List.set_cons_zero, List.set_cons_succ])
                refine wpAnyH_take (i := 31) (oi := { dst := some 70, op := Op.load 23 (Operand.tmp 4), type := 23, pos := "law.go:77", after := #[{ on := 26, ground := Ground.guard }], guard := some (26, true) }) (v := ?_) rfl (by kernel_rfl) (by kernel_rfl) (by kernel_rfl) (fun _ _ _ h => h) (Or.inl ⟨by rfl, ?_⟩) (by assumption) ?_
                rotate_left
                · (intro w hSw; (try dsimp only at hSw); go_simp <;> with_reducible rfl)
                (try simp only [Act.put, List.setIfInBounds_toArray, List.set_cons_zero, List.set_cons_succ])
                refine wpAnyH_take (i := 32) (oi := { dst := some 71, op := Op.load 23 (Operand.tmp 3), type := 23, pos := "law.go:77", after := #[{ on := 26, ground := Ground.guard }], guard := some (26, true) }) (v := ?_) rfl (by kernel_rfl) (by kernel_rfl) (by kernel_rfl) (fun _ _ _ h => h) (Or.inl ⟨by rfl, ?_⟩) (by assumption) ?_
                rotate_left
                · (intro w hSw; (try dsimp only at hSw); go_simp <;> with_reducible rfl)
                (try simp only [Act.put, List.setIfInBounds_toArray, List.set_cons_zero, List.set_cons_succ])
                refine wpAnyH_ready (rs := [29, 33]) (by kernel_rfl) (by simp) ?_
                refine AllReadyH.cons (o := { dst := some 68, op := Op.buildSlice 24 2 #[(0, Operand.tmp 66), (1, Operand.tmp 67)], type := 24, pos := "law.go:77", after := #[{ on := 27, ground := Ground.data }, { on := 28, ground := Ground.data }, { on := 26, ground := Ground.guard }], guard := some (26, true) }) rfl (fun K hK => ?_) ?_
                · go_simp
                  refine hK.out _ _ ?_ (fun hH8 => ?_)
                  · (try dsimp only); (first | exact HT4.out | exact hs12 | exact hs11 | exact hs10 | exact hs9 | exact hs8 | exact hs7 | exact hs6 | exact hs5 | exact keep3 (by assumption) (Below.refl _ _).drew | exact keep3 (by assumption) ((Below.refl _ _).alloc (Nat.le_refl _) _) | exact hH7 | go_keep)
                  clear hK K
                  (try simp only [Act.put, List.setIfInBounds_toArray, List.set_cons_zero, List.set_cons_succ])
                  clear hH7
                  refine wpAnyH_ready (rs := [30, 33]) (by kernel_rfl) (by simp) ?_
                  refine AllReadyH.cons (o := { dst := some 69, op := Op.call { callee := Callee.value (Operand.func 15), args := #[Operand.tmp 68], argTypes := #[24] }, type := 23, pos := "law.go:77", after := #[{ on := 29, ground := Ground.data }, { on := 26, ground := Ground.chain }, { on := 26, ground := Ground.guard }], guard := some (26, true) }) rfl (fun K hK => ?_) ?_
                  · go_simp
                    (go_at_call 15; (with_reducible refine (CN1.out _ _ ?hm10).mono ?_); (case hm10 => first | exact heap_alloc_new _ _ | exact box_alloc (heap_alloc_new _ _) _ | exact heap_alloc_two _ _ _ | fail); rintro e V10 ⟨rfl, b10⟩; have hs10 := keep3 (by assumption) b10)
                    try (go_wp2_with fail)
                    refine hK.out _ _ ?_ (fun hH9 => ?_)
                    · (try dsimp only); (first | exact HT4.out | exact hs12 | exact hs11 | exact hs10 | exact hs9 | exact hs8 | exact hs7 | exact hs6 | exact hs5 | exact keep3 (by assumption) (Below.refl _ _).drew | exact keep3 (by assumption) ((Below.refl _ _).alloc (Nat.le_refl _) _) | exact hH8 | go_keep)
                    clear hK K
                    (try simp only [Act.put, List.setIfInBounds_toArray, List.set_cons_zero, List.set_cons_succ])
                    clear hH8
                    refine wpAnyH_ready (rs := [33]) (by kernel_rfl) (by simp) ?_
                    refine AllReadyH.cons (o := { dst := some 72, op := Op.buildSlice 24 2 #[(0, Operand.tmp 70), (1, Operand.tmp 71)], type := 24, pos := "law.go:77", after := #[{ on := 31, ground := Ground.data }, { on := 32, ground := Ground.data }, { on := 26, ground := Ground.guard }], guard := some (26, true) }) rfl (fun K hK => ?_) ?_
                    · go_simp
                      refine hK.out _ _ ?_ (fun hH10 => ?_)
                      · (try dsimp only); (first | exact HT4.out | exact hs12 | exact hs11 | exact hs10 | exact hs9 | exact hs8 | exact hs7 | exact hs6 | exact hs5 | exact keep3 (by assumption) (Below.refl _ _).drew | exact keep3 (by assumption) ((Below.refl _ _).alloc (Nat.le_refl _) _) | exact hH9 | go_keep)
                      clear hK K
                      (try simp only [Act.put, List.setIfInBounds_toArray, List.set_cons_zero, List.set_cons_succ])
                      clear hH9
                      refine wpAnyH_ready (rs := [34]) (by kernel_rfl) (by simp) ?_
                      refine AllReadyH.cons (o := { dst := some 73, op := Op.call { callee := Callee.value (Operand.func 15), args := #[Operand.tmp 72], argTypes := #[24] }, type := 23, pos := "law.go:77", after := #[{ on := 33, ground := Ground.data }, { on := 30, ground := Ground.chain }, { on := 26, ground := Ground.guard }], guard := some (26, true) }) rfl (fun K hK => ?_) ?_
                      · go_simp
                        (go_at_call 15; (with_reducible refine (CN2.out _ _ ?hm11).mono ?_); (case hm11 => first | exact heap_alloc_new _ _ | exact box_below (heap_alloc_two _ _ _) b10 (by simp) | exact box_below (box_alloc (heap_alloc_new _ _) _) b10 (by simp; omega) | fail); rintro e V11 ⟨rfl, b11⟩; have hs11 := keep3 (by assumption) b11)
                        try (go_wp2_with fail)
                        refine hK.out _ _ ?_ (fun hH11 => ?_)
                        · (try dsimp only); (first | exact HT4.out | exact hs12 | exact hs11 | exact hs10 | exact hs9 | exact hs8 | exact hs7 | exact hs6 | exact hs5 | exact keep3 (by assumption) (Below.refl _ _).drew | exact keep3 (by assumption) ((Below.refl _ _).alloc (Nat.le_refl _) _) | exact hH10 | go_keep)
                        clear hK K
                        (try simp only [Act.put, List.setIfInBounds_toArray, List.set_cons_zero, List.set_cons_succ])
                        clear hH10
                        refine wpAnyH_take (i := 35) (oi := { dst := some 74, op := Op.binOp BinOp.eql 23 (Operand.tmp 69) (Operand.tmp 73) 23, type := 4, pos := "law.go:77", after := #[{ on := 30, ground := Ground.data }, { on := 34, ground := Ground.data }, { on := 26, ground := Ground.guard }], guard := some (26, true) }) (v := ?_) rfl (by kernel_rfl) (by kernel_rfl) (by kernel_rfl) (fun _ _ _ h => h) (Or.inl ⟨by rfl, ?_⟩) (by assumption) ?_
                        rotate_left
                        · (intro w hSw; (try dsimp only at hSw); go_simp <;> with_reducible rfl)
                        (try simp only [Act.put, List.setIfInBounds_toArray, List.set_cons_zero, List.set_cons_succ])
                        refine wpAnyH_take (i := 36) (oi := { dst := some 75, op := Op.pick (Operand.tmp 65) (Operand.tmp 74) (Operand.const (Value.bool false)), type := 4, pos := "law.go:77", after := #[{ on := 26, ground := Ground.data }, { on := 35, ground := Ground.data }], guard := none }) (v := ?_) rfl (by kernel_rfl) (by kernel_rfl) (by kernel_rfl) (fun _ _ _ h => h) (Or.inl ⟨by rfl, ?_⟩) (by assumption) ?_
                        rotate_left
                        · (intro w hSw; (try dsimp only at hSw); go_simp <;> with_reducible rfl)
                        (try simp only [Act.put, List.setIfInBounds_toArray, List.set_cons_zero, List.set_cons_succ])
                        refine wpAnyH_take (i := 37) (oi := { dst := some 76, op := Op.move (Operand.tmp 75), type := 4, pos := "law.go:77", after := #[{ on := 36, ground := Ground.data }, { on := 34, ground := Ground.chain }], guard := none }) (v := ?_) rfl (by kernel_rfl) (by kernel_rfl) (by kernel_rfl) (fun _ _ _ h => h) (Or.inl ⟨by rfl, ?_⟩) (by assumption) ?_
                        rotate_left
                        · (intro w hSw; (try dsimp only at hSw); go_simp <;> with_reducible rfl)
                        (try simp only [Act.put, List.setIfInBounds_toArray, List.set_cons_zero, List.set_cons_succ])
                        refine wpAnyH_ready (rs := [38]) (by kernel_rfl) (by simp) ?_
                        refine AllReadyH.cons (o := { dst := some 77, op := Op.call { callee := Callee.value (Operand.func 10), args := #[], argTypes := #[] }, type := 4, pos := "law.go:77", after := #[{ on := 37, ground := Ground.chain }, { on := 37, ground := Ground.guard }], guard := some (37, true) }) rfl (fun K hK => ?_) ?_
                        · go_simp
                          (go_at_call 10; (with_reducible refine (CA.out _ (And.left (by assumption))).mono ?_); rintro e V12 ⟨rfl, b12⟩; have hs12 := keep3 (by assumption) b12)
                          try (go_wp2_with fail)
                          refine hK.out _ _ ?_ (fun hH12 => ?_)
                          · (try dsimp only); (first | exact HT4.out | exact hs12 | exact hs11 | exact hs10 | exact hs9 | exact hs8 | exact hs7 | exact hs6 | exact hs5 | exact keep3 (by assumption) (Below.refl _ _).drew | exact keep3 (by assumption) ((Below.refl _ _).alloc (Nat.le_refl _) _) | exact hH11 | go_keep)
                          clear hK K
                          (try simp only [Act.put, List.setIfInBounds_toArray, List.set_cons_zero, List.set_cons_succ])
                          clear hH11
                          refine wpAnyH_take (i := 39) (oi := { dst := some 78, op := Op.pick (Operand.tmp 76) (Operand.tmp 77) (Operand.const (Value.bool false)), type := 4, pos := "law.go:77", after := #[{ on := 37, ground := Ground.data }, { on := 38, ground := Ground.data }], guard := none }) (v := ?_) rfl (by kernel_rfl) (by kernel_rfl) (by kernel_rfl) (fun _ _ _ h => h) (Or.inl ⟨by rfl, ?_⟩) (by assumption) ?_
                          rotate_left
                          · (intro w hSw; (try dsimp only at hSw); go_simp <;> with_reducible rfl)
                          (try simp only [Act.put, List.setIfInBounds_toArray, List.set_cons_zero, List.set_cons_succ])
                          refine wpAnyH_take (i := 40) (oi := { dst := some 6, op := Op.assign (Operand.tmp 78), type := 4, pos := "law.go:77", after := #[{ on := 39, ground := Ground.data }, { on := 38, ground := Ground.chain }, { on := 0, ground := Ground.phase }, { on := 1, ground := Ground.phase }, { on := 2, ground := Ground.phase }, { on := 3, ground := Ground.phase }, { on := 4, ground := Ground.phase }, { on := 5, ground := Ground.phase }, { on := 6, ground := Ground.phase }, { on := 7, ground := Ground.phase }, { on := 8, ground := Ground.phase }, { on := 9, ground := Ground.phase }, { on := 10, ground := Ground.phase }, { on := 11, ground := Ground.phase }, { on := 12, ground := Ground.phase }, { on := 13, ground := Ground.phase }, { on := 14, ground := Ground.phase }, { on := 15, ground := Ground.phase }, { on := 16, ground := Ground.phase }, { on := 17, ground := Ground.phase }, { on := 18, ground := Ground.phase }, { on := 19, ground := Ground.phase }, { on := 20, ground := Ground.phase }, { on := 21, ground := Ground.phase }, { on := 22, ground := Ground.phase }, { on := 23, ground := Ground.phase }, { on := 24, ground := Ground.phase }, { on := 25, ground := Ground.phase }, { on := 26, ground := Ground.phase }, { on := 27, ground := Ground.phase }, { on := 28, ground := Ground.phase }, { on := 29, ground := Ground.phase }, { on := 30, ground := Ground.phase }, { on := 31, ground := Ground.phase }, { on := 32, ground := Ground.phase }, { on := 33, ground := Ground.phase }, { on := 34, ground := Ground.phase }, { on := 35, ground := Ground.phase }, { on := 36, ground := Ground.phase }, { on := 37, ground := Ground.phase }, { on := 38, ground := Ground.phase }, { on := 39, ground := Ground.phase }], guard := none }) (v := ?_) rfl (by kernel_rfl) (by kernel_rfl) (by kernel_rfl) (fun _ _ _ h => h) (Or.inl ⟨by rfl, ?_⟩) (by assumption) ?_
                          rotate_left
                          · (intro w hSw; (try dsimp only at hSw); go_simp <;> with_reducible rfl)
                          (try simp only [Act.put, List.setIfInBounds_toArray, List.set_cons_zero, List.set_cons_succ])
                          refine wpAnyH_done (by kernel_rfl) ?_ _
                          refine NoPanic.normal ?_
                          have HZ := Lib.hid hs12.1
                          go_wp2
                          go_ret
                          exact ⟨rfl, HZ.out⟩
                        exact AllReadyH.nil
                      exact AllReadyH.nil
                    exact AllReadyH.nil
                  refine AllReadyH.cons (o := { dst := some 72, op := Op.buildSlice 24 2 #[(0, Operand.tmp 70), (1, Operand.tmp 71)], type := 24, pos := "law.go:77", after := #[{ on := 31, ground := Ground.data }, { on := 32, ground := Ground.data }, { on := 26, ground := Ground.guard }], guard := some (26, true) }) rfl (fun K hK => ?_) ?_
                  · go_simp
                    refine hK.out _ _ ?_ (fun hH9 => ?_)
                    · (try dsimp only); (first | exact HT4.out | exact hs12 | exact hs11 | exact hs10 | exact hs9 | exact hs8 | exact hs7 | exact hs6 | exact hs5 | exact keep3 (by assumption) (Below.refl _ _).drew | exact keep3 (by assumption) ((Below.refl _ _).alloc (Nat.le_refl _) _) | exact hH8 | go_keep)
                    clear hK K
                    (try simp only [Act.put, List.setIfInBounds_toArray, List.set_cons_zero, List.set_cons_succ])
                    clear hH8
                    refine wpAnyH_ready (rs := [30]) (by kernel_rfl) (by simp) ?_
                    refine AllReadyH.cons (o := { dst := some 69, op := Op.call { callee := Callee.value (Operand.func 15), args := #[Operand.tmp 68], argTypes := #[24] }, type := 23, pos := "law.go:77", after := #[{ on := 29, ground := Ground.data }, { on := 26, ground := Ground.chain }, { on := 26, ground := Ground.guard }], guard := some (26, true) }) rfl (fun K hK => ?_) ?_
                    · go_simp
                      (go_at_call 15; (with_reducible refine (CN1.out _ _ ?hm10).mono ?_); (case hm10 => first | exact heap_alloc_new _ _ | exact box_alloc (heap_alloc_new _ _) _ | exact heap_alloc_two _ _ _ | fail); rintro e V10 ⟨rfl, b10⟩; have hs10 := keep3 (by assumption) b10)
                      try (go_wp2_with fail)
                      refine hK.out _ _ ?_ (fun hH10 => ?_)
                      · (try dsimp only); (first | exact HT4.out | exact hs12 | exact hs11 | exact hs10 | exact hs9 | exact hs8 | exact hs7 | exact hs6 | exact hs5 | exact keep3 (by assumption) (Below.refl _ _).drew | exact keep3 (by assumption) ((Below.refl _ _).alloc (Nat.le_refl _) _) | exact hH9 | go_keep)
                      clear hK K
                      (try simp only [Act.put, List.setIfInBounds_toArray, List.set_cons_zero, List.set_cons_succ])
                      clear hH9
                      refine wpAnyH_ready (rs := [34]) (by kernel_rfl) (by simp) ?_
                      refine AllReadyH.cons (o := { dst := some 73, op := Op.call { callee := Callee.value (Operand.func 15), args := #[Operand.tmp 72], argTypes := #[24] }, type := 23, pos := "law.go:77", after := #[{ on := 33, ground := Ground.data }, { on := 30, ground := Ground.chain }, { on := 26, ground := Ground.guard }], guard := some (26, true) }) rfl (fun K hK => ?_) ?_
                      · go_simp
                        (go_at_call 15; (with_reducible refine (CN2.out _ _ ?hm11).mono ?_); (case hm11 => first | exact heap_alloc_new _ _ | exact box_below (heap_alloc_two _ _ _) b10 (by simp) | exact box_below (box_alloc (heap_alloc_new _ _) _) b10 (by simp; omega) | fail); rintro e V11 ⟨rfl, b11⟩; have hs11 := keep3 (by assumption) b11)
                        try (go_wp2_with fail)
                        refine hK.out _ _ ?_ (fun hH11 => ?_)
                        · (try dsimp only); (first | exact HT4.out | exact hs12 | exact hs11 | exact hs10 | exact hs9 | exact hs8 | exact hs7 | exact hs6 | exact hs5 | exact keep3 (by assumption) (Below.refl _ _).drew | exact keep3 (by assumption) ((Below.refl _ _).alloc (Nat.le_refl _) _) | exact hH10 | go_keep)
                        clear hK K
                        (try simp only [Act.put, List.setIfInBounds_toArray, List.set_cons_zero, List.set_cons_succ])
                        clear hH10
                        refine wpAnyH_take (i := 35) (oi := { dst := some 74, op := Op.binOp BinOp.eql 23 (Operand.tmp 69) (Operand.tmp 73) 23, type := 4, pos := "law.go:77", after := #[{ on := 30, ground := Ground.data }, { on := 34, ground := Ground.data }, { on := 26, ground := Ground.guard }], guard := some (26, true) }) (v := ?_) rfl (by kernel_rfl) (by kernel_rfl) (by kernel_rfl) (fun _ _ _ h => h) (Or.inl ⟨by rfl, ?_⟩) (by assumption) ?_
                        rotate_left
                        · (intro w hSw; (try dsimp only at hSw); go_simp <;> with_reducible rfl)
                        (try simp only [Act.put, List.setIfInBounds_toArray, List.set_cons_zero, List.set_cons_succ])
                        refine wpAnyH_take (i := 36) (oi := { dst := some 75, op := Op.pick (Operand.tmp 65) (Operand.tmp 74) (Operand.const (Value.bool false)), type := 4, pos := "law.go:77", after := #[{ on := 26, ground := Ground.data }, { on := 35, ground := Ground.data }], guard := none }) (v := ?_) rfl (by kernel_rfl) (by kernel_rfl) (by kernel_rfl) (fun _ _ _ h => h) (Or.inl ⟨by rfl, ?_⟩) (by assumption) ?_
                        rotate_left
                        · (intro w hSw; (try dsimp only at hSw); go_simp <;> with_reducible rfl)
                        (try simp only [Act.put, List.setIfInBounds_toArray, List.set_cons_zero, List.set_cons_succ])
                        refine wpAnyH_take (i := 37) (oi := { dst := some 76, op := Op.move (Operand.tmp 75), type := 4, pos := "law.go:77", after := #[{ on := 36, ground := Ground.data }, { on := 34, ground := Ground.chain }], guard := none }) (v := ?_) rfl (by kernel_rfl) (by kernel_rfl) (by kernel_rfl) (fun _ _ _ h => h) (Or.inl ⟨by rfl, ?_⟩) (by assumption) ?_
                        rotate_left
                        · (intro w hSw; (try dsimp only at hSw); go_simp <;> with_reducible rfl)
                        (try simp only [Act.put, List.setIfInBounds_toArray, List.set_cons_zero, List.set_cons_succ])
                        refine wpAnyH_ready (rs := [38]) (by kernel_rfl) (by simp) ?_
                        refine AllReadyH.cons (o := { dst := some 77, op := Op.call { callee := Callee.value (Operand.func 10), args := #[], argTypes := #[] }, type := 4, pos := "law.go:77", after := #[{ on := 37, ground := Ground.chain }, { on := 37, ground := Ground.guard }], guard := some (37, true) }) rfl (fun K hK => ?_) ?_
                        · go_simp
                          (go_at_call 10; (with_reducible refine (CA.out _ (And.left (by assumption))).mono ?_); rintro e V12 ⟨rfl, b12⟩; have hs12 := keep3 (by assumption) b12)
                          try (go_wp2_with fail)
                          refine hK.out _ _ ?_ (fun hH12 => ?_)
                          · (try dsimp only); (first | exact HT4.out | exact hs12 | exact hs11 | exact hs10 | exact hs9 | exact hs8 | exact hs7 | exact hs6 | exact hs5 | exact keep3 (by assumption) (Below.refl _ _).drew | exact keep3 (by assumption) ((Below.refl _ _).alloc (Nat.le_refl _) _) | exact hH11 | go_keep)
                          clear hK K
                          (try simp only [Act.put, List.setIfInBounds_toArray, List.set_cons_zero, List.set_cons_succ])
                          clear hH11
                          refine wpAnyH_take (i := 39) (oi := { dst := some 78, op := Op.pick (Operand.tmp 76) (Operand.tmp 77) (Operand.const (Value.bool false)), type := 4, pos := "law.go:77", after := #[{ on := 37, ground := Ground.data }, { on := 38, ground := Ground.data }], guard := none }) (v := ?_) rfl (by kernel_rfl) (by kernel_rfl) (by kernel_rfl) (fun _ _ _ h => h) (Or.inl ⟨by rfl, ?_⟩) (by assumption) ?_
                          rotate_left
                          · (intro w hSw; (try dsimp only at hSw); go_simp <;> with_reducible rfl)
                          (try simp only [Act.put, List.setIfInBounds_toArray, List.set_cons_zero, List.set_cons_succ])
                          refine wpAnyH_take (i := 40) (oi := { dst := some 6, op := Op.assign (Operand.tmp 78), type := 4, pos := "law.go:77", after := #[{ on := 39, ground := Ground.data }, { on := 38, ground := Ground.chain }, { on := 0, ground := Ground.phase }, { on := 1, ground := Ground.phase }, { on := 2, ground := Ground.phase }, { on := 3, ground := Ground.phase }, { on := 4, ground := Ground.phase }, { on := 5, ground := Ground.phase }, { on := 6, ground := Ground.phase }, { on := 7, ground := Ground.phase }, { on := 8, ground := Ground.phase }, { on := 9, ground := Ground.phase }, { on := 10, ground := Ground.phase }, { on := 11, ground := Ground.phase }, { on := 12, ground := Ground.phase }, { on := 13, ground := Ground.phase }, { on := 14, ground := Ground.phase }, { on := 15, ground := Ground.phase }, { on := 16, ground := Ground.phase }, { on := 17, ground := Ground.phase }, { on := 18, ground := Ground.phase }, { on := 19, ground := Ground.phase }, { on := 20, ground := Ground.phase }, { on := 21, ground := Ground.phase }, { on := 22, ground := Ground.phase }, { on := 23, ground := Ground.phase }, { on := 24, ground := Ground.phase }, { on := 25, ground := Ground.phase }, { on := 26, ground := Ground.phase }, { on := 27, ground := Ground.phase }, { on := 28, ground := Ground.phase }, { on := 29, ground := Ground.phase }, { on := 30, ground := Ground.phase }, { on := 31, ground := Ground.phase }, { on := 32, ground := Ground.phase }, { on := 33, ground := Ground.phase }, { on := 34, ground := Ground.phase }, { on := 35, ground := Ground.phase }, { on := 36, ground := Ground.phase }, { on := 37, ground := Ground.phase }, { on := 38, ground := Ground.phase }, { on := 39, ground := Ground.phase }], guard := none }) (v := ?_) rfl (by kernel_rfl) (by kernel_rfl) (by kernel_rfl) (fun _ _ _ h => h) (Or.inl ⟨by rfl, ?_⟩) (by assumption) ?_
                          rotate_left
                          · (intro w hSw; (try dsimp only at hSw); go_simp <;> with_reducible rfl)
                          (try simp only [Act.put, List.setIfInBounds_toArray, List.set_cons_zero, List.set_cons_succ])
                          refine wpAnyH_done (by kernel_rfl) ?_ _
                          refine NoPanic.normal ?_
                          have HZ := Lib.hid hs12.1
                          go_wp2
                          go_ret
                          exact ⟨rfl, HZ.out⟩
                        exact AllReadyH.nil
                      exact AllReadyH.nil
                    exact AllReadyH.nil
                  exact AllReadyH.nil
                refine AllReadyH.cons (o := { dst := some 72, op := Op.buildSlice 24 2 #[(0, Operand.tmp 70), (1, Operand.tmp 71)], type := 24, pos := "law.go:77", after := #[{ on := 31, ground := Ground.data }, { on := 32, ground := Ground.data }, { on := 26, ground := Ground.guard }], guard := some (26, true) }) rfl (fun K hK => ?_) ?_
                · go_simp
                  refine hK.out _ _ ?_ (fun hH8 => ?_)
                  · (try dsimp only); (first | exact HT4.out | exact hs12 | exact hs11 | exact hs10 | exact hs9 | exact hs8 | exact hs7 | exact hs6 | exact hs5 | exact keep3 (by assumption) (Below.refl _ _).drew | exact keep3 (by assumption) ((Below.refl _ _).alloc (Nat.le_refl _) _) | exact hH7 | go_keep)
                  clear hK K
                  (try simp only [Act.put, List.setIfInBounds_toArray, List.set_cons_zero, List.set_cons_succ])
                  clear hH7
                  refine wpAnyH_ready (rs := [29]) (by kernel_rfl) (by simp) ?_
                  refine AllReadyH.cons (o := { dst := some 68, op := Op.buildSlice 24 2 #[(0, Operand.tmp 66), (1, Operand.tmp 67)], type := 24, pos := "law.go:77", after := #[{ on := 27, ground := Ground.data }, { on := 28, ground := Ground.data }, { on := 26, ground := Ground.guard }], guard := some (26, true) }) rfl (fun K hK => ?_) ?_
                  · go_simp
                    refine hK.out _ _ ?_ (fun hH9 => ?_)
                    · (try dsimp only); (first | exact HT4.out | exact hs12 | exact hs11 | exact hs10 | exact hs9 | exact hs8 | exact hs7 | exact hs6 | exact hs5 | exact keep3 (by assumption) (Below.refl _ _).drew | exact keep3 (by assumption) ((Below.refl _ _).alloc (Nat.le_refl _) _) | exact hH8 | go_keep)
                    clear hK K
                    (try simp only [Act.put, List.setIfInBounds_toArray, List.set_cons_zero, List.set_cons_succ])
                    clear hH8
                    refine wpAnyH_ready (rs := [30]) (by kernel_rfl) (by simp) ?_
                    refine AllReadyH.cons (o := { dst := some 69, op := Op.call { callee := Callee.value (Operand.func 15), args := #[Operand.tmp 68], argTypes := #[24] }, type := 23, pos := "law.go:77", after := #[{ on := 29, ground := Ground.data }, { on := 26, ground := Ground.chain }, { on := 26, ground := Ground.guard }], guard := some (26, true) }) rfl (fun K hK => ?_) ?_
                    · go_simp
                      (go_at_call 15; (with_reducible refine (CN1.out _ _ ?hm10).mono ?_); (case hm10 => first | exact heap_alloc_new _ _ | exact box_alloc (heap_alloc_new _ _) _ | exact heap_alloc_two _ _ _ | fail); rintro e V10 ⟨rfl, b10⟩; have hs10 := keep3 (by assumption) b10)
                      try (go_wp2_with fail)
                      refine hK.out _ _ ?_ (fun hH10 => ?_)
                      · (try dsimp only); (first | exact HT4.out | exact hs12 | exact hs11 | exact hs10 | exact hs9 | exact hs8 | exact hs7 | exact hs6 | exact hs5 | exact keep3 (by assumption) (Below.refl _ _).drew | exact keep3 (by assumption) ((Below.refl _ _).alloc (Nat.le_refl _) _) | exact hH9 | go_keep)
                      clear hK K
                      (try simp only [Act.put, List.setIfInBounds_toArray, List.set_cons_zero, List.set_cons_succ])
                      clear hH9
                      refine wpAnyH_ready (rs := [34]) (by kernel_rfl) (by simp) ?_
                      refine AllReadyH.cons (o := { dst := some 73, op := Op.call { callee := Callee.value (Operand.func 15), args := #[Operand.tmp 72], argTypes := #[24] }, type := 23, pos := "law.go:77", after := #[{ on := 33, ground := Ground.data }, { on := 30, ground := Ground.chain }, { on := 26, ground := Ground.guard }], guard := some (26, true) }) rfl (fun K hK => ?_) ?_
                      · go_simp
                        (go_at_call 15; (with_reducible refine (CN2.out _ _ ?hm11).mono ?_); (case hm11 => first | exact heap_alloc_new _ _ | exact box_below (heap_alloc_two _ _ _) b10 (by simp) | exact box_below (box_alloc (heap_alloc_new _ _) _) b10 (by simp; omega) | fail); rintro e V11 ⟨rfl, b11⟩; have hs11 := keep3 (by assumption) b11)
                        try (go_wp2_with fail)
                        refine hK.out _ _ ?_ (fun hH11 => ?_)
                        · (try dsimp only); (first | exact HT4.out | exact hs12 | exact hs11 | exact hs10 | exact hs9 | exact hs8 | exact hs7 | exact hs6 | exact hs5 | exact keep3 (by assumption) (Below.refl _ _).drew | exact keep3 (by assumption) ((Below.refl _ _).alloc (Nat.le_refl _) _) | exact hH10 | go_keep)
                        clear hK K
                        (try simp only [Act.put, List.setIfInBounds_toArray, List.set_cons_zero, List.set_cons_succ])
                        clear hH10
                        refine wpAnyH_take (i := 35) (oi := { dst := some 74, op := Op.binOp BinOp.eql 23 (Operand.tmp 69) (Operand.tmp 73) 23, type := 4, pos := "law.go:77", after := #[{ on := 30, ground := Ground.data }, { on := 34, ground := Ground.data }, { on := 26, ground := Ground.guard }], guard := some (26, true) }) (v := ?_) rfl (by kernel_rfl) (by kernel_rfl) (by kernel_rfl) (fun _ _ _ h => h) (Or.inl ⟨by rfl, ?_⟩) (by assumption) ?_
                        rotate_left
                        · (intro w hSw; (try dsimp only at hSw); go_simp <;> with_reducible rfl)
                        (try simp only [Act.put, List.setIfInBounds_toArray, List.set_cons_zero, List.set_cons_succ])
                        refine wpAnyH_take (i := 36) (oi := { dst := some 75, op := Op.pick (Operand.tmp 65) (Operand.tmp 74) (Operand.const (Value.bool false)), type := 4, pos := "law.go:77", after := #[{ on := 26, ground := Ground.data }, { on := 35, ground := Ground.data }], guard := none }) (v := ?_) rfl (by kernel_rfl) (by kernel_rfl) (by kernel_rfl) (fun _ _ _ h => h) (Or.inl ⟨by rfl, ?_⟩) (by assumption) ?_
                        rotate_left
                        · (intro w hSw; (try dsimp only at hSw); go_simp <;> with_reducible rfl)
                        (try simp only [Act.put, List.setIfInBounds_toArray, List.set_cons_zero, List.set_cons_succ])
                        refine wpAnyH_take (i := 37) (oi := { dst := some 76, op := Op.move (Operand.tmp 75), type := 4, pos := "law.go:77", after := #[{ on := 36, ground := Ground.data }, { on := 34, ground := Ground.chain }], guard := none }) (v := ?_) rfl (by kernel_rfl) (by kernel_rfl) (by kernel_rfl) (fun _ _ _ h => h) (Or.inl ⟨by rfl, ?_⟩) (by assumption) ?_
                        rotate_left
                        · (intro w hSw; (try dsimp only at hSw); go_simp <;> with_reducible rfl)
                        (try simp only [Act.put, List.setIfInBounds_toArray, List.set_cons_zero, List.set_cons_succ])
                        refine wpAnyH_ready (rs := [38]) (by kernel_rfl) (by simp) ?_
                        refine AllReadyH.cons (o := { dst := some 77, op := Op.call { callee := Callee.value (Operand.func 10), args := #[], argTypes := #[] }, type := 4, pos := "law.go:77", after := #[{ on := 37, ground := Ground.chain }, { on := 37, ground := Ground.guard }], guard := some (37, true) }) rfl (fun K hK => ?_) ?_
                        · go_simp
                          (go_at_call 10; (with_reducible refine (CA.out _ (And.left (by assumption))).mono ?_); rintro e V12 ⟨rfl, b12⟩; have hs12 := keep3 (by assumption) b12)
                          try (go_wp2_with fail)
                          refine hK.out _ _ ?_ (fun hH12 => ?_)
                          · (try dsimp only); (first | exact HT4.out | exact hs12 | exact hs11 | exact hs10 | exact hs9 | exact hs8 | exact hs7 | exact hs6 | exact hs5 | exact keep3 (by assumption) (Below.refl _ _).drew | exact keep3 (by assumption) ((Below.refl _ _).alloc (Nat.le_refl _) _) | exact hH11 | go_keep)
                          clear hK K
                          (try simp only [Act.put, List.setIfInBounds_toArray, List.set_cons_zero, List.set_cons_succ])
                          clear hH11
                          refine wpAnyH_take (i := 39) (oi := { dst := some 78, op := Op.pick (Operand.tmp 76) (Operand.tmp 77) (Operand.const (Value.bool false)), type := 4, pos := "law.go:77", after := #[{ on := 37, ground := Ground.data }, { on := 38, ground := Ground.data }], guard := none }) (v := ?_) rfl (by kernel_rfl) (by kernel_rfl) (by kernel_rfl) (fun _ _ _ h => h) (Or.inl ⟨by rfl, ?_⟩) (by assumption) ?_
                          rotate_left
                          · (intro w hSw; (try dsimp only at hSw); go_simp <;> with_reducible rfl)
                          (try simp only [Act.put, List.setIfInBounds_toArray, List.set_cons_zero, List.set_cons_succ])
                          refine wpAnyH_take (i := 40) (oi := { dst := some 6, op := Op.assign (Operand.tmp 78), type := 4, pos := "law.go:77", after := #[{ on := 39, ground := Ground.data }, { on := 38, ground := Ground.chain }, { on := 0, ground := Ground.phase }, { on := 1, ground := Ground.phase }, { on := 2, ground := Ground.phase }, { on := 3, ground := Ground.phase }, { on := 4, ground := Ground.phase }, { on := 5, ground := Ground.phase }, { on := 6, ground := Ground.phase }, { on := 7, ground := Ground.phase }, { on := 8, ground := Ground.phase }, { on := 9, ground := Ground.phase }, { on := 10, ground := Ground.phase }, { on := 11, ground := Ground.phase }, { on := 12, ground := Ground.phase }, { on := 13, ground := Ground.phase }, { on := 14, ground := Ground.phase }, { on := 15, ground := Ground.phase }, { on := 16, ground := Ground.phase }, { on := 17, ground := Ground.phase }, { on := 18, ground := Ground.phase }, { on := 19, ground := Ground.phase }, { on := 20, ground := Ground.phase }, { on := 21, ground := Ground.phase }, { on := 22, ground := Ground.phase }, { on := 23, ground := Ground.phase }, { on := 24, ground := Ground.phase }, { on := 25, ground := Ground.phase }, { on := 26, ground := Ground.phase }, { on := 27, ground := Ground.phase }, { on := 28, ground := Ground.phase }, { on := 29, ground := Ground.phase }, { on := 30, ground := Ground.phase }, { on := 31, ground := Ground.phase }, { on := 32, ground := Ground.phase }, { on := 33, ground := Ground.phase }, { on := 34, ground := Ground.phase }, { on := 35, ground := Ground.phase }, { on := 36, ground := Ground.phase }, { on := 37, ground := Ground.phase }, { on := 38, ground := Ground.phase }, { on := 39, ground := Ground.phase }], guard := none }) (v := ?_) rfl (by kernel_rfl) (by kernel_rfl) (by kernel_rfl) (fun _ _ _ h => h) (Or.inl ⟨by rfl, ?_⟩) (by assumption) ?_
                          rotate_left
                          · (intro w hSw; (try dsimp only at hSw); go_simp <;> with_reducible rfl)
                          (try simp only [Act.put, List.setIfInBounds_toArray, List.set_cons_zero, List.set_cons_succ])
                          refine wpAnyH_done (by kernel_rfl) ?_ _
                          refine NoPanic.normal ?_
                          have HZ := Lib.hid hs12.1
                          go_wp2
                          go_ret
                          exact ⟨rfl, HZ.out⟩
                        exact AllReadyH.nil
                      exact AllReadyH.nil
                    exact AllReadyH.nil
                  exact AllReadyH.nil
                exact AllReadyH.nil
              exact AllReadyH.nil
            exact AllReadyH.nil
          exact AllReadyH.nil
        exact AllReadyH.nil
      exact AllReadyH.nil
    exact AllReadyH.nil
  exact AllReadyH.nil
end Go.Proofs.YtijnmhiiojkcgaaDoor
