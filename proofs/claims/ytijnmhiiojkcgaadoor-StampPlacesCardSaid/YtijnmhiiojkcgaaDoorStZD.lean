/-
  StampPlaces.
-/
import Derived.Test.YtijnmhiiojkcgaaDoorStZC
set_option linter.unusedVariables false
namespace Go.Proofs.YtijnmhiiojkcgaaDoor
open Go.RowKit

theorem keepP {w V W : World} {g1 g2 g3 g4 : Nat} {a b : Ev} {c d : Cu} (h : Below w.heap.size w V ∧ EvBox V g1 a ∧ EvBox V g2 b ∧ CuBox V g3 c ∧ CuBox V g4 d) (hb : Below V.heap.size V W) :
    Below w.heap.size w W ∧ EvBox W g1 a ∧ EvBox W g2 b ∧ CuBox W g3 c ∧ CuBox W g4 d :=
  ⟨h.1.trans (hb.mono h.1.size), h.2.1.later hb, h.2.2.1.later hb, h.2.2.2.1.later hb, h.2.2.2.2.later hb⟩
theorem keepP0 {w V W : World} {g1 g2 g3 : Nat} {a b : Ev} {c : Cu} (h : Below w.heap.size w V ∧ EvBox V g1 a ∧ EvBox V g2 b ∧ CuBox V g3 c) (hb : Below V.heap.size V W) :
    Below w.heap.size w W ∧ EvBox W g1 a ∧ EvBox W g2 b ∧ CuBox W g3 c :=
  ⟨h.1.trans (hb.mono h.1.size), h.2.1.later hb, h.2.2.1.later hb, h.2.2.2.later hb⟩
theorem beh_as (e : Ev) (c : Cu) (B : Bool) (hB : behB e c = B) (w : World) :
    Calls Tryd.prog 30 #[.agg #[.string e.s, .int .i64 e.v, .string e.d, .int .i64 e.t.w, .int .i64 e.t.l, .int .i64 e.t.n, .int .i64 e.i], .agg #[.int .i64 c.t.w, .int .i64 c.t.l, .int .i64 c.t.n, .int .i64 c.i, .string c.s]] w (TelPost (.bool B) w) := by
  subst hB
  exact behind_any e c w
theorem rBeh_as (e : Ev) (c : Cu) (B : Bool) (hB : behB e c = B) (w : World) :
    Calls Tryd.prog 31 #[.agg #[.string e.s, .int .i64 e.v, .string e.d, .int .i64 e.t.w, .int .i64 e.t.l, .int .i64 e.t.n, .int .i64 e.i], .agg #[.int .i64 c.t.w, .int .i64 c.t.l, .int .i64 c.t.n, .int .i64 c.i, .string c.s]] w (TelPost (.bool B) w) := by
  subst hB
  exact rBehind_any e c w
theorem beh_self (e : Ev) : behB e (ofE e) = false := by
  unfold behB
  rw [(cmpP_turn (ofE e) (ofE e)).2.2 rfl]
  rfl
theorem beh_three (a b : Ev) : (behB a (ofE b) = true ∧ behB b (ofE a) = false ∧ ofE a ≠ ofE b) ∨ (behB a (ofE b) = false ∧ behB b (ofE a) = true ∧ ofE a ≠ ofE b) ∨ (behB a (ofE b) = false ∧ behB b (ofE a) = false ∧ ofE a = ofE b) := by
  unfold behB
  have h := cmpP_turn (ofE a) (ofE b)
  rw [h.1]
  by_cases h1 : 0 < cmpP (ofE a) (ofE b)
  · left
    exact ⟨decide_eq_true h1, decide_eq_false (by omega), fun e => by rw [h.2.2 e] at h1; omega⟩
  · by_cases h2 : cmpP (ofE a) (ofE b) = 0
    · right; right
      exact ⟨decide_eq_false h1, decide_eq_false (by omega), h.2.1 h2⟩
    · right; left
      exact ⟨decide_eq_false h1, decide_eq_true (by omega), fun e => h2 (h.2.2 e)⟩

set_option maxHeartbeats 16000000 in
set_option maxRecDepth 100000 in
theorem StampPlaces_body (a b : Ev) (c : Cu) (w : World) (h0 : SmI a.t ∧ InI a.i ∧ InI a.v ∧ a.s.size ≤ maxLen ∧ a.d.size ≤ maxLen) (h1 : SmI b.t ∧ InI b.i ∧ InI b.v ∧ b.s.size ≤ maxLen ∧ b.d.size ≤ maxLen) (h2 : SmI c.t ∧ InI c.i ∧ c.s.size ≤ maxLen) (ht : Tab w) :
    Calls Tryd.prog 6 #[.agg #[.string a.s, .int .i64 a.v, .string a.d, .int .i64 a.t.w, .int .i64 a.t.l, .int .i64 a.t.n, .int .i64 a.i], .agg #[.string b.s, .int .i64 b.v, .string b.d, .int .i64 b.t.w, .int .i64 b.t.l, .int .i64 b.t.n, .int .i64 b.i], .agg #[.int .i64 c.t.w, .int .i64 c.t.l, .int .i64 c.t.n, .int .i64 c.i, .string c.s]] w (TelPost (.bool true) w) := by
  have HT := Lib.hid ht
  have bA := (((Below.refl w.heap.size w).alloc (Nat.le_refl _) (.cells #[.string a.s, .int .i64 a.v, .string a.d, .int .i64 a.t.w, .int .i64 a.t.l, .int .i64 a.t.n, .int .i64 a.i] 45)).alloc (by simp) (.cells #[.string b.s, .int .i64 b.v, .string b.d, .int .i64 b.t.w, .int .i64 b.t.l, .int .i64 b.t.n, .int .i64 b.i] 45)).alloc (by simp; omega) (.cells #[.int .i64 c.t.w, .int .i64 c.t.l, .int .i64 c.t.n, .int .i64 c.i, .string c.s] 47)
  have hA := ((EvBox.new w a).later ((Below.refl _ _).alloc (Nat.le_refl _) (.cells #[.string b.s, .int .i64 b.v, .string b.d, .int .i64 b.t.w, .int .i64 b.t.l, .int .i64 b.t.n, .int .i64 b.i] 45))).later ((Below.refl _ _).alloc (Nat.le_refl _) (.cells #[.int .i64 c.t.w, .int .i64 c.t.l, .int .i64 c.t.n, .int .i64 c.i, .string c.s] 47))
  have hB := (EvBox.new (w.alloc (.cells #[.string a.s, .int .i64 a.v, .string a.d, .int .i64 a.t.w, .int .i64 a.t.l, .int .i64 a.t.n, .int .i64 a.i] 45)) b).later ((Below.refl _ _).alloc (Nat.le_refl _) (.cells #[.int .i64 c.t.w, .int .i64 c.t.l, .int .i64 c.t.n, .int .i64 c.i, .string c.s] 47))
  have hC := CuBox.new ((w.alloc (.cells #[.string a.s, .int .i64 a.v, .string a.d, .int .i64 a.t.w, .int .i64 a.t.l, .int .i64 a.t.n, .int .i64 a.i] 45)).alloc (.cells #[.string b.s, .int .i64 b.v, .string b.d, .int .i64 b.t.w, .int .i64 b.t.l, .int .i64 b.t.n, .int .i64 b.i] 45)) c
  rw [World.size_alloc] at hB
  rw [World.size_alloc, World.size_alloc] at hC
  have HS0 := Lib.hid (show _ ∧ _ ∧ _ ∧ _ from ⟨bA, hA, hB, hC⟩)
  obtain ⟨s1, hs1⟩ : ∃ s, s = a.s.size := ⟨_, rfl⟩
  obtain ⟨s2, hs2⟩ : ∃ s, s = b.s.size := ⟨_, rfl⟩
  obtain ⟨s3, hs3⟩ : ∃ s, s = c.s.size := ⟨_, rfl⟩
  have CSum := Lib.hid fun g w t h => sum3_any a.s.size b.s.size c.s.size h0.2.2.2.1 h1.2.2.2.1 h2.2.2 g w t h
  have CA := Lib.hid fun wx (hx : Below w.heap.size w wx) => awake_any wx (HT.out.later hx)
  have COa := Lib.hid fun wx => of_any a wx
  have COb := Lib.hid fun wx => of_any b wx
  obtain ⟨L1, hL1⟩ : ∃ L, behB a (ofE b) = L := ⟨_, rfl⟩
  obtain ⟨L2, hL2⟩ : ∃ L, behB b (ofE a) = L := ⟨_, rfl⟩
  obtain ⟨L3, hL3⟩ : ∃ L, behB a c = L := ⟨_, rfl⟩
  have CB0 := Lib.hid fun wx => beh_as a (ofE a) false (beh_self a) wx
  have CB1 := Lib.hid fun wx => beh_as a (ofE b) L1 hL1 wx
  have CB2 := Lib.hid fun wx => beh_as b (ofE a) L2 hL2 wx
  have CB3 := Lib.hid fun wx => beh_as a c L3 hL3 wx
  have CR3 := Lib.hid fun wx => rBeh_as a c L3 hL3 wx
  have HTH := Lib.hid (beh_three a b)
  rw [hL1, hL2] at HTH
  unfold ofE at CB0 CB1 CB2
  simp only at CB0 CB1 CB2
  clear hL1 hL2 hL3 bA hA hB hC ht h0 h1 h2 hs1 hs2 hs3
  have g3 := heap_alloc_new (((w.alloc (.cells #[.string a.s, .int .i64 a.v, .string a.d, .int .i64 a.t.w, .int .i64 a.t.l, .int .i64 a.t.n, .int .i64 a.i] 45)).alloc (.cells #[.string b.s, .int .i64 b.v, .string b.d, .int .i64 b.t.w, .int .i64 b.t.l, .int .i64 b.t.n, .int .i64 b.i] 45)).alloc (.cells #[.int .i64 c.t.w, .int .i64 c.t.l, .int .i64 c.t.n, .int .i64 c.i, .string c.s] 47)) (.cells #[.int .i64 a.s.size, .int .i64 b.s.size, .int .i64 c.s.size] 3)
  rw [World.size_alloc, World.size_alloc, World.size_alloc] at g3
  have cSum := CSum.out _ _ 3 g3
  have hS1 := keepP0 HS0.out ((Below.refl _ _).alloc (Nat.le_refl _) (.cells #[.int .i64 a.s.size, .int .i64 b.s.size, .int .i64 c.s.size] 3))
  have HS1 := Lib.hid hS1
  clear g3 hS1
  go_enter Tryd.func6, Tryd.ntmps6
  go_wp2_with (go_at_call 28; (with_reducible refine cSum.mono ?_))
  rintro e0 V0 ⟨r, rfl, rfl⟩
  obtain ⟨W4, hW4⟩ : ∃ W4, W4 = (((w.alloc (.cells #[.string a.s, .int .i64 a.v, .string a.d, .int .i64 a.t.w, .int .i64 a.t.l, .int .i64 a.t.n, .int .i64 a.i] 45)).alloc (.cells #[.string b.s, .int .i64 b.v, .string b.d, .int .i64 b.t.w, .int .i64 b.t.l, .int .i64 b.t.n, .int .i64 b.i] 45)).alloc (.cells #[.int .i64 c.t.w, .int .i64 c.t.l, .int .i64 c.t.n, .int .i64 c.i, .string c.s] 47)).alloc (.cells #[.int .i64 a.s.size, .int .i64 b.s.size, .int .i64 c.s.size] 3) := ⟨_, rfl⟩
  rw [← hW4] at HS1 ⊢
  clear hW4 cSum HS0
  by_cases hr : (1000 : Int) < (r : Int)
  · have cA := CA.out _ HS1.out.1
    go_wp2_with (go_at_call 10; (with_reducible refine cA.mono ?_))
    rintro e V1 ⟨rfl, b1⟩
    have HZ := Lib.hid (HS1.out.1.trans (b1.mono HS1.out.1.size))
    clear b1 cA
    go_wp2
    go_ret
    exact ⟨rfl, HZ.out⟩
  · have cO := COa.out W4
    obtain ⟨_, ⟨x0, x1, x2, x3, x4, x5, x6⟩, _⟩ := id HS1.out
    go_wp2_with (go_at_call 29; (with_reducible refine cO.mono ?_))
    rintro e W2 ⟨rfl, b2⟩
    have b2' := b2.alloc b2.size (.cells #[.int .i64 a.t.w, .int .i64 a.t.l, .int .i64 a.t.n, .int .i64 a.i, .string a.s] 47)
    have hS2 := keepP0 HS1.out b2'
    have hO := CuBox.new W2 (ofE a)
    have HS2 := Lib.hid (keepP ⟨hS2.1, hS2.2.1, hS2.2.2.1, hS2.2.2.2, hO⟩ (Below.refl _ _).drew)
    clear b2 b2' hS2 hO cO x0 x1 x2 x3 x4 x5 x6 HS1
    go_wp2_with fail
    go_region_held3 (fun w' => Below w.heap.size w w' ∧ (w'.cell? ⟨w.heap.size, 0, none⟩ = some (.string a.s) ∧ w'.cell? ⟨w.heap.size, 1, none⟩ = some (.int .i64 a.v) ∧ w'.cell? ⟨w.heap.size, 2, none⟩ = some (.string a.d) ∧ w'.cell? ⟨w.heap.size, 3, none⟩ = some (.int .i64 a.t.w) ∧ w'.cell? ⟨w.heap.size, 4, none⟩ = some (.int .i64 a.t.l) ∧ w'.cell? ⟨w.heap.size, 5, none⟩ = some (.int .i64 a.t.n) ∧ w'.cell? ⟨w.heap.size, 6, none⟩ = some (.int .i64 a.i)) ∧ (w'.cell? ⟨w.heap.size + 1, 0, none⟩ = some (.string b.s) ∧ w'.cell? ⟨w.heap.size + 1, 1, none⟩ = some (.int .i64 b.v) ∧ w'.cell? ⟨w.heap.size + 1, 2, none⟩ = some (.string b.d) ∧ w'.cell? ⟨w.heap.size + 1, 3, none⟩ = some (.int .i64 b.t.w) ∧ w'.cell? ⟨w.heap.size + 1, 4, none⟩ = some (.int .i64 b.t.l) ∧ w'.cell? ⟨w.heap.size + 1, 5, none⟩ = some (.int .i64 b.t.n) ∧ w'.cell? ⟨w.heap.size + 1, 6, none⟩ = some (.int .i64 b.i)) ∧ (w'.cell? ⟨w.heap.size + 1 + 1, 0, none⟩ = some (.int .i64 c.t.w) ∧ w'.cell? ⟨w.heap.size + 1 + 1, 1, none⟩ = some (.int .i64 c.t.l) ∧ w'.cell? ⟨w.heap.size + 1 + 1, 2, none⟩ = some (.int .i64 c.t.n) ∧ w'.cell? ⟨w.heap.size + 1 + 1, 3, none⟩ = some (.int .i64 c.i) ∧ w'.cell? ⟨w.heap.size + 1 + 1, 4, none⟩ = some (.string c.s)) ∧ (w'.cell? ⟨W2.heap.size, 0, none⟩ = some (.int .i64 a.t.w) ∧ w'.cell? ⟨W2.heap.size, 1, none⟩ = some (.int .i64 a.t.l) ∧ w'.cell? ⟨W2.heap.size, 2, none⟩ = some (.int .i64 a.t.n) ∧ w'.cell? ⟨W2.heap.size, 3, none⟩ = some (.int .i64 a.i) ∧ w'.cell? ⟨W2.heap.size, 4, none⟩ = some (.string a.s)))
      (first | exact HS2.out | exact hs3 | exact hs2 | exact hs1 | exact keepP (by assumption) (Below.refl _ _).drew | go_keep)
      (first
        | (go_at_call 30; (with_reducible refine (CB0.out _).mono ?_); rintro e V1 ⟨rfl, b1⟩; have hs1 := keepP (by assumption) b1)
        | (go_at_call 30; (with_reducible refine (CB3.out _).mono ?_); rintro e V2 ⟨rfl, b2⟩; have hs2 := keepP (by assumption) b2)
        | (go_at_call 31; (with_reducible refine (CR3.out _).mono ?_); rintro e V3 ⟨rfl, b3⟩; have hs3 := keepP (by assumption) b3)
        | fail)
    all_goals (
      have HS3 := Lib.hid (keepP hs3 (Below.refl _ _).drew)
      clear hs1 hs2 hs3 b1 b2 b3
      go_wp2_with fail
      rcases HTH.out with ⟨rfl, rfl, hne⟩ | ⟨rfl, rfl, hne⟩ | ⟨rfl, rfl, heq⟩
      · have hq : ∀ W, (Op.equalIn 10000 47 (.agg #[.int .i64 a.t.w, .int .i64 a.t.l, .int .i64 a.t.n, .int .i64 a.i, .string a.s]) (.agg #[.int .i64 b.t.w, .int .i64 b.t.l, .int .i64 b.t.n, .int .i64 b.i, .string b.s])).run Tryd.prog W = .ok false W := fun W => (cu_eq (ofE a) (ofE b) W).2 hne
        clear HTH hne
        go_region_held3 (fun w' => Below w.heap.size w w' ∧ (w'.cell? ⟨w.heap.size, 0, none⟩ = some (.string a.s) ∧ w'.cell? ⟨w.heap.size, 1, none⟩ = some (.int .i64 a.v) ∧ w'.cell? ⟨w.heap.size, 2, none⟩ = some (.string a.d) ∧ w'.cell? ⟨w.heap.size, 3, none⟩ = some (.int .i64 a.t.w) ∧ w'.cell? ⟨w.heap.size, 4, none⟩ = some (.int .i64 a.t.l) ∧ w'.cell? ⟨w.heap.size, 5, none⟩ = some (.int .i64 a.t.n) ∧ w'.cell? ⟨w.heap.size, 6, none⟩ = some (.int .i64 a.i)) ∧ (w'.cell? ⟨w.heap.size + 1, 0, none⟩ = some (.string b.s) ∧ w'.cell? ⟨w.heap.size + 1, 1, none⟩ = some (.int .i64 b.v) ∧ w'.cell? ⟨w.heap.size + 1, 2, none⟩ = some (.string b.d) ∧ w'.cell? ⟨w.heap.size + 1, 3, none⟩ = some (.int .i64 b.t.w) ∧ w'.cell? ⟨w.heap.size + 1, 4, none⟩ = some (.int .i64 b.t.l) ∧ w'.cell? ⟨w.heap.size + 1, 5, none⟩ = some (.int .i64 b.t.n) ∧ w'.cell? ⟨w.heap.size + 1, 6, none⟩ = some (.int .i64 b.i)) ∧ (w'.cell? ⟨w.heap.size + 1 + 1, 0, none⟩ = some (.int .i64 c.t.w) ∧ w'.cell? ⟨w.heap.size + 1 + 1, 1, none⟩ = some (.int .i64 c.t.l) ∧ w'.cell? ⟨w.heap.size + 1 + 1, 2, none⟩ = some (.int .i64 c.t.n) ∧ w'.cell? ⟨w.heap.size + 1 + 1, 3, none⟩ = some (.int .i64 c.i) ∧ w'.cell? ⟨w.heap.size + 1 + 1, 4, none⟩ = some (.string c.s)) ∧ (w'.cell? ⟨W2.heap.size, 0, none⟩ = some (.int .i64 a.t.w) ∧ w'.cell? ⟨W2.heap.size, 1, none⟩ = some (.int .i64 a.t.l) ∧ w'.cell? ⟨W2.heap.size, 2, none⟩ = some (.int .i64 a.t.n) ∧ w'.cell? ⟨W2.heap.size, 3, none⟩ = some (.int .i64 a.i) ∧ w'.cell? ⟨W2.heap.size, 4, none⟩ = some (.string a.s)))
          (first | exact HS3.out | exact hs5 | exact hs4 | exact keepP (by assumption) (Below.refl _ _).drew | go_keep)
          (first
            | (go_at_call 29; (with_reducible refine (COb.out _).mono ?_); rintro e V4 ⟨rfl, b4⟩; have hs4 := keepP (by assumption) b4)
            | (go_at_call 30; (with_reducible refine (CB1.out _).mono ?_); rintro e V5 ⟨rfl, b5⟩; have hs5 := keepP (by assumption) b5)
            | fail)
        all_goals (
          have HS5 := Lib.hid (keepP hs5 (Below.refl _ _).drew)
          clear hs4 hs5 b4 b5
          go_wp2_with fail
          go_region_held3 (fun w' => Below w.heap.size w w' ∧ (w'.cell? ⟨w.heap.size, 0, none⟩ = some (.string a.s) ∧ w'.cell? ⟨w.heap.size, 1, none⟩ = some (.int .i64 a.v) ∧ w'.cell? ⟨w.heap.size, 2, none⟩ = some (.string a.d) ∧ w'.cell? ⟨w.heap.size, 3, none⟩ = some (.int .i64 a.t.w) ∧ w'.cell? ⟨w.heap.size, 4, none⟩ = some (.int .i64 a.t.l) ∧ w'.cell? ⟨w.heap.size, 5, none⟩ = some (.int .i64 a.t.n) ∧ w'.cell? ⟨w.heap.size, 6, none⟩ = some (.int .i64 a.i)) ∧ (w'.cell? ⟨w.heap.size + 1, 0, none⟩ = some (.string b.s) ∧ w'.cell? ⟨w.heap.size + 1, 1, none⟩ = some (.int .i64 b.v) ∧ w'.cell? ⟨w.heap.size + 1, 2, none⟩ = some (.string b.d) ∧ w'.cell? ⟨w.heap.size + 1, 3, none⟩ = some (.int .i64 b.t.w) ∧ w'.cell? ⟨w.heap.size + 1, 4, none⟩ = some (.int .i64 b.t.l) ∧ w'.cell? ⟨w.heap.size + 1, 5, none⟩ = some (.int .i64 b.t.n) ∧ w'.cell? ⟨w.heap.size + 1, 6, none⟩ = some (.int .i64 b.i)) ∧ (w'.cell? ⟨w.heap.size + 1 + 1, 0, none⟩ = some (.int .i64 c.t.w) ∧ w'.cell? ⟨w.heap.size + 1 + 1, 1, none⟩ = some (.int .i64 c.t.l) ∧ w'.cell? ⟨w.heap.size + 1 + 1, 2, none⟩ = some (.int .i64 c.t.n) ∧ w'.cell? ⟨w.heap.size + 1 + 1, 3, none⟩ = some (.int .i64 c.i) ∧ w'.cell? ⟨w.heap.size + 1 + 1, 4, none⟩ = some (.string c.s)) ∧ (w'.cell? ⟨W2.heap.size, 0, none⟩ = some (.int .i64 a.t.w) ∧ w'.cell? ⟨W2.heap.size, 1, none⟩ = some (.int .i64 a.t.l) ∧ w'.cell? ⟨W2.heap.size, 2, none⟩ = some (.int .i64 a.t.n) ∧ w'.cell? ⟨W2.heap.size, 3, none⟩ = some (.int .i64 a.i) ∧ w'.cell? ⟨W2.heap.size, 4, none⟩ = some (.string a.s)))
            (first | exact HS5.out | exact hs7 | exact hs6 | exact keepP (by assumption) (Below.refl _ _).drew | go_keep)
            (first
              | (go_at_call 29; (with_reducible refine (COa.out _).mono ?_); rintro e V6 ⟨rfl, b6⟩; have hs6 := keepP (by assumption) b6)
              | (go_at_call 30; (with_reducible refine (CB2.out _).mono ?_); rintro e V7 ⟨rfl, b7⟩; have hs7 := keepP (by assumption) b7)
              | fail)
          all_goals (
            have HS7 := Lib.hid (keepP hs7 (Below.refl _ _).drew)
            clear hs6 hs7 b6 b7
            go_wp2_with fail
            go_region_held3 (fun w' => Below w.heap.size w w' ∧ (w'.cell? ⟨w.heap.size, 0, none⟩ = some (.string a.s) ∧ w'.cell? ⟨w.heap.size, 1, none⟩ = some (.int .i64 a.v) ∧ w'.cell? ⟨w.heap.size, 2, none⟩ = some (.string a.d) ∧ w'.cell? ⟨w.heap.size, 3, none⟩ = some (.int .i64 a.t.w) ∧ w'.cell? ⟨w.heap.size, 4, none⟩ = some (.int .i64 a.t.l) ∧ w'.cell? ⟨w.heap.size, 5, none⟩ = some (.int .i64 a.t.n) ∧ w'.cell? ⟨w.heap.size, 6, none⟩ = some (.int .i64 a.i)) ∧ (w'.cell? ⟨w.heap.size + 1, 0, none⟩ = some (.string b.s) ∧ w'.cell? ⟨w.heap.size + 1, 1, none⟩ = some (.int .i64 b.v) ∧ w'.cell? ⟨w.heap.size + 1, 2, none⟩ = some (.string b.d) ∧ w'.cell? ⟨w.heap.size + 1, 3, none⟩ = some (.int .i64 b.t.w) ∧ w'.cell? ⟨w.heap.size + 1, 4, none⟩ = some (.int .i64 b.t.l) ∧ w'.cell? ⟨w.heap.size + 1, 5, none⟩ = some (.int .i64 b.t.n) ∧ w'.cell? ⟨w.heap.size + 1, 6, none⟩ = some (.int .i64 b.i)) ∧ (w'.cell? ⟨w.heap.size + 1 + 1, 0, none⟩ = some (.int .i64 c.t.w) ∧ w'.cell? ⟨w.heap.size + 1 + 1, 1, none⟩ = some (.int .i64 c.t.l) ∧ w'.cell? ⟨w.heap.size + 1 + 1, 2, none⟩ = some (.int .i64 c.t.n) ∧ w'.cell? ⟨w.heap.size + 1 + 1, 3, none⟩ = some (.int .i64 c.i) ∧ w'.cell? ⟨w.heap.size + 1 + 1, 4, none⟩ = some (.string c.s)) ∧ (w'.cell? ⟨W2.heap.size, 0, none⟩ = some (.int .i64 a.t.w) ∧ w'.cell? ⟨W2.heap.size, 1, none⟩ = some (.int .i64 a.t.l) ∧ w'.cell? ⟨W2.heap.size, 2, none⟩ = some (.int .i64 a.t.n) ∧ w'.cell? ⟨W2.heap.size, 3, none⟩ = some (.int .i64 a.i) ∧ w'.cell? ⟨W2.heap.size, 4, none⟩ = some (.string a.s)))
              (first | exact HS7.out | exact hs9 | exact hs8 | exact keepP (by assumption) (Below.refl _ _).drew | go_keep)
              (first
                | (go_at_call 29; (with_reducible refine (COb.out _).mono ?_); rintro e V8 ⟨rfl, b8⟩; have hs8 := keepP (by assumption) b8)
                | (go_at_call 10; (with_reducible refine (CA.out _ (And.left (by assumption))).mono ?_); rintro e V9 ⟨rfl, b9⟩; have hs9 := keepP (by assumption) b9)
                | fail)
            all_goals (
              have HZ := Lib.hid hs9.1
              clear hs8 hs9 b8 b9
              go_wp2
              go_ret
              exact ⟨rfl, HZ.out⟩)))
      · have hq : ∀ W, (Op.equalIn 10000 47 (.agg #[.int .i64 a.t.w, .int .i64 a.t.l, .int .i64 a.t.n, .int .i64 a.i, .string a.s]) (.agg #[.int .i64 b.t.w, .int .i64 b.t.l, .int .i64 b.t.n, .int .i64 b.i, .string b.s])).run Tryd.prog W = .ok false W := fun W => (cu_eq (ofE a) (ofE b) W).2 hne
        clear HTH hne
        go_region_held3 (fun w' => Below w.heap.size w w' ∧ (w'.cell? ⟨w.heap.size, 0, none⟩ = some (.string a.s) ∧ w'.cell? ⟨w.heap.size, 1, none⟩ = some (.int .i64 a.v) ∧ w'.cell? ⟨w.heap.size, 2, none⟩ = some (.string a.d) ∧ w'.cell? ⟨w.heap.size, 3, none⟩ = some (.int .i64 a.t.w) ∧ w'.cell? ⟨w.heap.size, 4, none⟩ = some (.int .i64 a.t.l) ∧ w'.cell? ⟨w.heap.size, 5, none⟩ = some (.int .i64 a.t.n) ∧ w'.cell? ⟨w.heap.size, 6, none⟩ = some (.int .i64 a.i)) ∧ (w'.cell? ⟨w.heap.size + 1, 0, none⟩ = some (.string b.s) ∧ w'.cell? ⟨w.heap.size + 1, 1, none⟩ = some (.int .i64 b.v) ∧ w'.cell? ⟨w.heap.size + 1, 2, none⟩ = some (.string b.d) ∧ w'.cell? ⟨w.heap.size + 1, 3, none⟩ = some (.int .i64 b.t.w) ∧ w'.cell? ⟨w.heap.size + 1, 4, none⟩ = some (.int .i64 b.t.l) ∧ w'.cell? ⟨w.heap.size + 1, 5, none⟩ = some (.int .i64 b.t.n) ∧ w'.cell? ⟨w.heap.size + 1, 6, none⟩ = some (.int .i64 b.i)) ∧ (w'.cell? ⟨w.heap.size + 1 + 1, 0, none⟩ = some (.int .i64 c.t.w) ∧ w'.cell? ⟨w.heap.size + 1 + 1, 1, none⟩ = some (.int .i64 c.t.l) ∧ w'.cell? ⟨w.heap.size + 1 + 1, 2, none⟩ = some (.int .i64 c.t.n) ∧ w'.cell? ⟨w.heap.size + 1 + 1, 3, none⟩ = some (.int .i64 c.i) ∧ w'.cell? ⟨w.heap.size + 1 + 1, 4, none⟩ = some (.string c.s)) ∧ (w'.cell? ⟨W2.heap.size, 0, none⟩ = some (.int .i64 a.t.w) ∧ w'.cell? ⟨W2.heap.size, 1, none⟩ = some (.int .i64 a.t.l) ∧ w'.cell? ⟨W2.heap.size, 2, none⟩ = some (.int .i64 a.t.n) ∧ w'.cell? ⟨W2.heap.size, 3, none⟩ = some (.int .i64 a.i) ∧ w'.cell? ⟨W2.heap.size, 4, none⟩ = some (.string a.s)))
          (first | exact HS3.out | exact hs5 | exact hs4 | exact keepP (by assumption) (Below.refl _ _).drew | go_keep)
          (first
            | (go_at_call 29; (with_reducible refine (COb.out _).mono ?_); rintro e V4 ⟨rfl, b4⟩; have hs4 := keepP (by assumption) b4)
            | (go_at_call 30; (with_reducible refine (CB1.out _).mono ?_); rintro e V5 ⟨rfl, b5⟩; have hs5 := keepP (by assumption) b5)
            | fail)
        all_goals (
          have HS5 := Lib.hid (keepP hs5 (Below.refl _ _).drew)
          clear hs4 hs5 b4 b5
          go_wp2_with fail
          go_region_held3 (fun w' => Below w.heap.size w w' ∧ (w'.cell? ⟨w.heap.size, 0, none⟩ = some (.string a.s) ∧ w'.cell? ⟨w.heap.size, 1, none⟩ = some (.int .i64 a.v) ∧ w'.cell? ⟨w.heap.size, 2, none⟩ = some (.string a.d) ∧ w'.cell? ⟨w.heap.size, 3, none⟩ = some (.int .i64 a.t.w) ∧ w'.cell? ⟨w.heap.size, 4, none⟩ = some (.int .i64 a.t.l) ∧ w'.cell? ⟨w.heap.size, 5, none⟩ = some (.int .i64 a.t.n) ∧ w'.cell? ⟨w.heap.size, 6, none⟩ = some (.int .i64 a.i)) ∧ (w'.cell? ⟨w.heap.size + 1, 0, none⟩ = some (.string b.s) ∧ w'.cell? ⟨w.heap.size + 1, 1, none⟩ = some (.int .i64 b.v) ∧ w'.cell? ⟨w.heap.size + 1, 2, none⟩ = some (.string b.d) ∧ w'.cell? ⟨w.heap.size + 1, 3, none⟩ = some (.int .i64 b.t.w) ∧ w'.cell? ⟨w.heap.size + 1, 4, none⟩ = some (.int .i64 b.t.l) ∧ w'.cell? ⟨w.heap.size + 1, 5, none⟩ = some (.int .i64 b.t.n) ∧ w'.cell? ⟨w.heap.size + 1, 6, none⟩ = some (.int .i64 b.i)) ∧ (w'.cell? ⟨w.heap.size + 1 + 1, 0, none⟩ = some (.int .i64 c.t.w) ∧ w'.cell? ⟨w.heap.size + 1 + 1, 1, none⟩ = some (.int .i64 c.t.l) ∧ w'.cell? ⟨w.heap.size + 1 + 1, 2, none⟩ = some (.int .i64 c.t.n) ∧ w'.cell? ⟨w.heap.size + 1 + 1, 3, none⟩ = some (.int .i64 c.i) ∧ w'.cell? ⟨w.heap.size + 1 + 1, 4, none⟩ = some (.string c.s)) ∧ (w'.cell? ⟨W2.heap.size, 0, none⟩ = some (.int .i64 a.t.w) ∧ w'.cell? ⟨W2.heap.size, 1, none⟩ = some (.int .i64 a.t.l) ∧ w'.cell? ⟨W2.heap.size, 2, none⟩ = some (.int .i64 a.t.n) ∧ w'.cell? ⟨W2.heap.size, 3, none⟩ = some (.int .i64 a.i) ∧ w'.cell? ⟨W2.heap.size, 4, none⟩ = some (.string a.s)))
            (first | exact HS5.out | exact hs7 | exact hs6 | exact keepP (by assumption) (Below.refl _ _).drew | go_keep)
            (first
              | (go_at_call 29; (with_reducible refine (COa.out _).mono ?_); rintro e V6 ⟨rfl, b6⟩; have hs6 := keepP (by assumption) b6)
              | (go_at_call 30; (with_reducible refine (CB2.out _).mono ?_); rintro e V7 ⟨rfl, b7⟩; have hs7 := keepP (by assumption) b7)
              | fail)
          all_goals (
            have HS7 := Lib.hid (keepP hs7 (Below.refl _ _).drew)
            clear hs6 hs7 b6 b7
            go_wp2_with fail
            go_region_held3 (fun w' => Below w.heap.size w w' ∧ (w'.cell? ⟨w.heap.size, 0, none⟩ = some (.string a.s) ∧ w'.cell? ⟨w.heap.size, 1, none⟩ = some (.int .i64 a.v) ∧ w'.cell? ⟨w.heap.size, 2, none⟩ = some (.string a.d) ∧ w'.cell? ⟨w.heap.size, 3, none⟩ = some (.int .i64 a.t.w) ∧ w'.cell? ⟨w.heap.size, 4, none⟩ = some (.int .i64 a.t.l) ∧ w'.cell? ⟨w.heap.size, 5, none⟩ = some (.int .i64 a.t.n) ∧ w'.cell? ⟨w.heap.size, 6, none⟩ = some (.int .i64 a.i)) ∧ (w'.cell? ⟨w.heap.size + 1, 0, none⟩ = some (.string b.s) ∧ w'.cell? ⟨w.heap.size + 1, 1, none⟩ = some (.int .i64 b.v) ∧ w'.cell? ⟨w.heap.size + 1, 2, none⟩ = some (.string b.d) ∧ w'.cell? ⟨w.heap.size + 1, 3, none⟩ = some (.int .i64 b.t.w) ∧ w'.cell? ⟨w.heap.size + 1, 4, none⟩ = some (.int .i64 b.t.l) ∧ w'.cell? ⟨w.heap.size + 1, 5, none⟩ = some (.int .i64 b.t.n) ∧ w'.cell? ⟨w.heap.size + 1, 6, none⟩ = some (.int .i64 b.i)) ∧ (w'.cell? ⟨w.heap.size + 1 + 1, 0, none⟩ = some (.int .i64 c.t.w) ∧ w'.cell? ⟨w.heap.size + 1 + 1, 1, none⟩ = some (.int .i64 c.t.l) ∧ w'.cell? ⟨w.heap.size + 1 + 1, 2, none⟩ = some (.int .i64 c.t.n) ∧ w'.cell? ⟨w.heap.size + 1 + 1, 3, none⟩ = some (.int .i64 c.i) ∧ w'.cell? ⟨w.heap.size + 1 + 1, 4, none⟩ = some (.string c.s)) ∧ (w'.cell? ⟨W2.heap.size, 0, none⟩ = some (.int .i64 a.t.w) ∧ w'.cell? ⟨W2.heap.size, 1, none⟩ = some (.int .i64 a.t.l) ∧ w'.cell? ⟨W2.heap.size, 2, none⟩ = some (.int .i64 a.t.n) ∧ w'.cell? ⟨W2.heap.size, 3, none⟩ = some (.int .i64 a.i) ∧ w'.cell? ⟨W2.heap.size, 4, none⟩ = some (.string a.s)))
              (first | exact HS7.out | exact hs9 | exact hs8 | exact keepP (by assumption) (Below.refl _ _).drew | go_keep)
              (first
                | (go_at_call 29; (with_reducible refine (COb.out _).mono ?_); rintro e V8 ⟨rfl, b8⟩; have hs8 := keepP (by assumption) b8)
                | (go_at_call 10; (with_reducible refine (CA.out _ (And.left (by assumption))).mono ?_); rintro e V9 ⟨rfl, b9⟩; have hs9 := keepP (by assumption) b9)
                | fail)
            all_goals (
              have HZ := Lib.hid hs9.1
              clear hs8 hs9 b8 b9
              go_wp2
              go_ret
              exact ⟨rfl, HZ.out⟩)))
      · have hq : ∀ W, (Op.equalIn 10000 47 (.agg #[.int .i64 a.t.w, .int .i64 a.t.l, .int .i64 a.t.n, .int .i64 a.i, .string a.s]) (.agg #[.int .i64 b.t.w, .int .i64 b.t.l, .int .i64 b.t.n, .int .i64 b.i, .string b.s])).run Tryd.prog W = .ok true W := fun W => (cu_eq (ofE a) (ofE b) W).1 heq
        clear HTH heq
        go_region_held3 (fun w' => Below w.heap.size w w' ∧ (w'.cell? ⟨w.heap.size, 0, none⟩ = some (.string a.s) ∧ w'.cell? ⟨w.heap.size, 1, none⟩ = some (.int .i64 a.v) ∧ w'.cell? ⟨w.heap.size, 2, none⟩ = some (.string a.d) ∧ w'.cell? ⟨w.heap.size, 3, none⟩ = some (.int .i64 a.t.w) ∧ w'.cell? ⟨w.heap.size, 4, none⟩ = some (.int .i64 a.t.l) ∧ w'.cell? ⟨w.heap.size, 5, none⟩ = some (.int .i64 a.t.n) ∧ w'.cell? ⟨w.heap.size, 6, none⟩ = some (.int .i64 a.i)) ∧ (w'.cell? ⟨w.heap.size + 1, 0, none⟩ = some (.string b.s) ∧ w'.cell? ⟨w.heap.size + 1, 1, none⟩ = some (.int .i64 b.v) ∧ w'.cell? ⟨w.heap.size + 1, 2, none⟩ = some (.string b.d) ∧ w'.cell? ⟨w.heap.size + 1, 3, none⟩ = some (.int .i64 b.t.w) ∧ w'.cell? ⟨w.heap.size + 1, 4, none⟩ = some (.int .i64 b.t.l) ∧ w'.cell? ⟨w.heap.size + 1, 5, none⟩ = some (.int .i64 b.t.n) ∧ w'.cell? ⟨w.heap.size + 1, 6, none⟩ = some (.int .i64 b.i)) ∧ (w'.cell? ⟨w.heap.size + 1 + 1, 0, none⟩ = some (.int .i64 c.t.w) ∧ w'.cell? ⟨w.heap.size + 1 + 1, 1, none⟩ = some (.int .i64 c.t.l) ∧ w'.cell? ⟨w.heap.size + 1 + 1, 2, none⟩ = some (.int .i64 c.t.n) ∧ w'.cell? ⟨w.heap.size + 1 + 1, 3, none⟩ = some (.int .i64 c.i) ∧ w'.cell? ⟨w.heap.size + 1 + 1, 4, none⟩ = some (.string c.s)) ∧ (w'.cell? ⟨W2.heap.size, 0, none⟩ = some (.int .i64 a.t.w) ∧ w'.cell? ⟨W2.heap.size, 1, none⟩ = some (.int .i64 a.t.l) ∧ w'.cell? ⟨W2.heap.size, 2, none⟩ = some (.int .i64 a.t.n) ∧ w'.cell? ⟨W2.heap.size, 3, none⟩ = some (.int .i64 a.i) ∧ w'.cell? ⟨W2.heap.size, 4, none⟩ = some (.string a.s)))
          (first | exact HS3.out | exact hs5 | exact hs4 | exact keepP (by assumption) (Below.refl _ _).drew | go_keep)
          (first
            | (go_at_call 29; (with_reducible refine (COb.out _).mono ?_); rintro e V4 ⟨rfl, b4⟩; have hs4 := keepP (by assumption) b4)
            | (go_at_call 30; (with_reducible refine (CB1.out _).mono ?_); rintro e V5 ⟨rfl, b5⟩; have hs5 := keepP (by assumption) b5)
            | fail)
        all_goals (
          have HS5 := Lib.hid (keepP hs5 (Below.refl _ _).drew)
          clear hs4 hs5 b4 b5
          go_wp2_with fail
          go_region_held3 (fun w' => Below w.heap.size w w' ∧ (w'.cell? ⟨w.heap.size, 0, none⟩ = some (.string a.s) ∧ w'.cell? ⟨w.heap.size, 1, none⟩ = some (.int .i64 a.v) ∧ w'.cell? ⟨w.heap.size, 2, none⟩ = some (.string a.d) ∧ w'.cell? ⟨w.heap.size, 3, none⟩ = some (.int .i64 a.t.w) ∧ w'.cell? ⟨w.heap.size, 4, none⟩ = some (.int .i64 a.t.l) ∧ w'.cell? ⟨w.heap.size, 5, none⟩ = some (.int .i64 a.t.n) ∧ w'.cell? ⟨w.heap.size, 6, none⟩ = some (.int .i64 a.i)) ∧ (w'.cell? ⟨w.heap.size + 1, 0, none⟩ = some (.string b.s) ∧ w'.cell? ⟨w.heap.size + 1, 1, none⟩ = some (.int .i64 b.v) ∧ w'.cell? ⟨w.heap.size + 1, 2, none⟩ = some (.string b.d) ∧ w'.cell? ⟨w.heap.size + 1, 3, none⟩ = some (.int .i64 b.t.w) ∧ w'.cell? ⟨w.heap.size + 1, 4, none⟩ = some (.int .i64 b.t.l) ∧ w'.cell? ⟨w.heap.size + 1, 5, none⟩ = some (.int .i64 b.t.n) ∧ w'.cell? ⟨w.heap.size + 1, 6, none⟩ = some (.int .i64 b.i)) ∧ (w'.cell? ⟨w.heap.size + 1 + 1, 0, none⟩ = some (.int .i64 c.t.w) ∧ w'.cell? ⟨w.heap.size + 1 + 1, 1, none⟩ = some (.int .i64 c.t.l) ∧ w'.cell? ⟨w.heap.size + 1 + 1, 2, none⟩ = some (.int .i64 c.t.n) ∧ w'.cell? ⟨w.heap.size + 1 + 1, 3, none⟩ = some (.int .i64 c.i) ∧ w'.cell? ⟨w.heap.size + 1 + 1, 4, none⟩ = some (.string c.s)) ∧ (w'.cell? ⟨W2.heap.size, 0, none⟩ = some (.int .i64 a.t.w) ∧ w'.cell? ⟨W2.heap.size, 1, none⟩ = some (.int .i64 a.t.l) ∧ w'.cell? ⟨W2.heap.size, 2, none⟩ = some (.int .i64 a.t.n) ∧ w'.cell? ⟨W2.heap.size, 3, none⟩ = some (.int .i64 a.i) ∧ w'.cell? ⟨W2.heap.size, 4, none⟩ = some (.string a.s)))
            (first | exact HS5.out | exact hs7 | exact hs6 | exact keepP (by assumption) (Below.refl _ _).drew | go_keep)
            (first
              | (go_at_call 29; (with_reducible refine (COa.out _).mono ?_); rintro e V6 ⟨rfl, b6⟩; have hs6 := keepP (by assumption) b6)
              | (go_at_call 30; (with_reducible refine (CB2.out _).mono ?_); rintro e V7 ⟨rfl, b7⟩; have hs7 := keepP (by assumption) b7)
              | fail)
          all_goals (
            have HS7 := Lib.hid (keepP hs7 (Below.refl _ _).drew)
            clear hs6 hs7 b6 b7
            go_wp2_with fail
            go_region_held3 (fun w' => Below w.heap.size w w' ∧ (w'.cell? ⟨w.heap.size, 0, none⟩ = some (.string a.s) ∧ w'.cell? ⟨w.heap.size, 1, none⟩ = some (.int .i64 a.v) ∧ w'.cell? ⟨w.heap.size, 2, none⟩ = some (.string a.d) ∧ w'.cell? ⟨w.heap.size, 3, none⟩ = some (.int .i64 a.t.w) ∧ w'.cell? ⟨w.heap.size, 4, none⟩ = some (.int .i64 a.t.l) ∧ w'.cell? ⟨w.heap.size, 5, none⟩ = some (.int .i64 a.t.n) ∧ w'.cell? ⟨w.heap.size, 6, none⟩ = some (.int .i64 a.i)) ∧ (w'.cell? ⟨w.heap.size + 1, 0, none⟩ = some (.string b.s) ∧ w'.cell? ⟨w.heap.size + 1, 1, none⟩ = some (.int .i64 b.v) ∧ w'.cell? ⟨w.heap.size + 1, 2, none⟩ = some (.string b.d) ∧ w'.cell? ⟨w.heap.size + 1, 3, none⟩ = some (.int .i64 b.t.w) ∧ w'.cell? ⟨w.heap.size + 1, 4, none⟩ = some (.int .i64 b.t.l) ∧ w'.cell? ⟨w.heap.size + 1, 5, none⟩ = some (.int .i64 b.t.n) ∧ w'.cell? ⟨w.heap.size + 1, 6, none⟩ = some (.int .i64 b.i)) ∧ (w'.cell? ⟨w.heap.size + 1 + 1, 0, none⟩ = some (.int .i64 c.t.w) ∧ w'.cell? ⟨w.heap.size + 1 + 1, 1, none⟩ = some (.int .i64 c.t.l) ∧ w'.cell? ⟨w.heap.size + 1 + 1, 2, none⟩ = some (.int .i64 c.t.n) ∧ w'.cell? ⟨w.heap.size + 1 + 1, 3, none⟩ = some (.int .i64 c.i) ∧ w'.cell? ⟨w.heap.size + 1 + 1, 4, none⟩ = some (.string c.s)) ∧ (w'.cell? ⟨W2.heap.size, 0, none⟩ = some (.int .i64 a.t.w) ∧ w'.cell? ⟨W2.heap.size, 1, none⟩ = some (.int .i64 a.t.l) ∧ w'.cell? ⟨W2.heap.size, 2, none⟩ = some (.int .i64 a.t.n) ∧ w'.cell? ⟨W2.heap.size, 3, none⟩ = some (.int .i64 a.i) ∧ w'.cell? ⟨W2.heap.size, 4, none⟩ = some (.string a.s)))
              (first | exact HS7.out | exact hs9 | exact hs8 | exact keepP (by assumption) (Below.refl _ _).drew | go_keep)
              (first
                | (go_at_call 29; (with_reducible refine (COb.out _).mono ?_); rintro e V8 ⟨rfl, b8⟩; have hs8 := keepP (by assumption) b8)
                | (go_at_call 10; (with_reducible refine (CA.out _ (And.left (by assumption))).mono ?_); rintro e V9 ⟨rfl, b9⟩; have hs9 := keepP (by assumption) b9)
                | fail)
            all_goals (
              have HZ := Lib.hid hs9.1
              clear hs8 hs9 b8 b9
              go_wp2
              go_ret
              exact ⟨rfl, HZ.out⟩))))

end Go.Proofs.YtijnmhiiojkcgaaDoor
