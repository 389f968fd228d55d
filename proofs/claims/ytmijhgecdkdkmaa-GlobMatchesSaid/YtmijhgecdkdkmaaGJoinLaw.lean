/-
  GlobJoin: the walk of the law's text.
-/
import Derived.Test.YtmijhgecdkdkmaaGlobJ
import Derived.Test.YtmijhgecdkdkmaaRefB
set_option linter.unusedVariables false
namespace Go.Proofs.Ytmijhgecdkdkmaa
open Go.RowKit

theorem rCount_b (s : ByteArray) (w wx : World) (hs : s.size ≤ 1000000) (hb : Below w.heap.size w wx) :
    Calls Try.prog 24 #[.string s] wx fun e w' => e = .returned (.int .i64 (cntB s)) ∧ Below w.heap.size w w' := base hb (rCount_any s wx hs)

theorem join_chk {p q : ByteArray} (hp : chkB p = true) (hq : chkB q = true) (hc : cntB p + cntB q ≤ 40) : chkB (p ++ q) = true ∧ ∀ s t, matB p s = true → matB q t = true → matB (p ++ q) (s ++ t) = true := by
  unfold chkB at *
  obtain ⟨P, hP⟩ := Option.isSome_iff_exists.1 hp
  obtain ⟨Q, hQ⟩ := Option.isSome_iff_exists.1 hq
  unfold cntB at hc
  constructor
  · rw [append_list, patR_app hP hQ hc]; rfl
  · intro s t h1 h2
    unfold matB at *
    rw [append_list, append_list]
    exact matR_app hP hQ hc h1 h2

set_option maxHeartbeats 8000000 in
set_option maxRecDepth 100000 in
theorem GlobJoin_walk (p q s t : ByteArray) (hp : p.size ≤ maxLen) (hq : q.size ≤ maxLen) (hs : s.size ≤ maxLen) (ht : t.size ≤ maxLen) (w : World) :
    Calls Try.prog 10 #[.string p, .string q, .string s, .string t] w fun e w' => e = .returned (.bool true) ∧ Below w.heap.size w w' := by
  have B0 := Below.refl w.heap.size w
  clear hp hq hs ht
  by_cases hout : 300 < p.size ∨ 300 < q.size ∨ 300 < s.size ∨ 300 < t.size
  · have hcase : 300 < p.size ∨ (¬ 300 < p.size ∧ 300 < q.size) ∨ (¬ 300 < p.size ∧ ¬ 300 < q.size ∧ 300 < s.size) ∨ (¬ 300 < p.size ∧ ¬ 300 < q.size ∧ ¬ 300 < s.size ∧ 300 < t.size) := by omega
    clear hout
    rcases hcase with h | ⟨h, h2⟩ | ⟨h, h2, h3⟩ | ⟨h, h2, h3, h4⟩
    all_goals (
      go_enter Try.func10, Try.ntmps10
      go_wp2_with (go_at_call 17; refine (awake2_b w _ B0).mono ?_; rintro e W1 ⟨rfl, b1⟩)
      go_ret
      exact ⟨rfl, b1⟩)
  have hp : ¬ 300 < p.size := by omega
  have hq : ¬ 300 < q.size := by omega
  have hs : ¬ 300 < s.size := by omega
  have ht : ¬ 300 < t.size := by omega
  have cP := fun (wx : World) (hb : Below w.heap.size w wx) => Check_b p w wx (by omega) hb
  have cQ := fun (wx : World) (hb : Below w.heap.size w wx) => Check_b q w wx (by omega) hb
  have nP := fun (wx : World) (hb : Below w.heap.size w wx) => rCount_b p w wx (by omega) hb
  have nQ := fun (wx : World) (hb : Below w.heap.size w wx) => rCount_b q w wx (by omega) hb
  clear hout
  cases kp : chkB p with
  | false =>
    rw [kp] at cP
    simp only [Bool.false_eq_true, if_false] at cP
    clear cQ nP nQ
    go_enter Try.func10, Try.ntmps10
    go_wp2_with (first | (go_at_call 18; (with_reducible refine (cP _ (by assumption)).mono ?_); rintro e W1 ⟨rfl, b1⟩) | (go_at_call 17; refine (awake2_b w _ (by assumption)).mono ?_; rintro e W1 ⟨rfl, b1⟩))
    all_goals (go_ret; exact ⟨rfl, by assumption⟩)
  | true =>
  rw [kp] at cP
  simp only [if_true] at cP
  cases kq : chkB q with
  | false =>
    rw [kq] at cQ
    simp only [Bool.false_eq_true, if_false] at cQ
    clear nP nQ
    go_enter Try.func10, Try.ntmps10
    go_wp2_with (first | (go_at_call 18; (with_reducible refine (cP _ (by assumption)).mono ?_); rintro e W1 ⟨rfl, b1⟩) | (go_at_call 18; (with_reducible refine (cQ _ (by assumption)).mono ?_); rintro e W1 ⟨rfl, b1⟩) | (go_at_call 17; refine (awake2_b w _ (by assumption)).mono ?_; rintro e W1 ⟨rfl, b1⟩))
    all_goals (go_ret; exact ⟨rfl, by assumption⟩)
  | true =>
  rw [kq] at cQ
  simp only [if_true] at cQ
  have hnp : cntB p ≤ p.size := by have := pieces_length_le p.data.toList; rw [← size_len] at this; exact this
  have hnq : cntB q ≤ q.size := by have := pieces_length_le q.data.toList; rw [← size_len] at this; exact this
  have hj := fun h => join_chk kp kq h
  obtain ⟨np, hnpd⟩ : ∃ n, n = cntB p := ⟨_, rfl⟩
  obtain ⟨nq, hnqd⟩ : ∃ n, n = cntB q := ⟨_, rfl⟩
  rw [← hnpd] at nP hnp hj
  rw [← hnqd] at nQ hnq hj
  clear hnpd hnqd kp kq
  by_cases h40 : 40 < np + nq
  · have h40i : (40 : Int) < (np : Int) + (nq : Int) := by omega
    clear hj
    go_enter Try.func10, Try.ntmps10
    go_wp2_with (first | (go_at_call 18; (with_reducible refine (cP _ (by assumption)).mono ?_); rintro e W1 ⟨rfl, b1⟩) | (go_at_call 18; (with_reducible refine (cQ _ (by assumption)).mono ?_); rintro e W1 ⟨rfl, b1⟩) | (go_at_call 24; (with_reducible refine (nP _ (by assumption)).mono ?_); rintro e W1 ⟨rfl, b1⟩) | (go_at_call 24; (with_reducible refine (nQ _ (by assumption)).mono ?_); rintro e W1 ⟨rfl, b1⟩) | (go_at_call 17; refine (awake2_b w _ (by assumption)).mono ?_; rintro e W1 ⟨rfl, b1⟩))
    all_goals (go_ret; exact ⟨rfl, by assumption⟩)
  have h40i : ¬ (40 : Int) < (np : Int) + (nq : Int) := by omega
  obtain ⟨hk, hm⟩ := hj (by omega)
  have hpq : (p ++ q).size ≤ 600 := by rw [ByteArray.size_append]; omega
  have hst : (s ++ t).size ≤ 600 := by rw [ByteArray.size_append]; omega
  have cPQ : ∀ wx, Below w.heap.size w wx → Calls Try.prog 18 #[.string (p ++ q)] wx fun e w' => e = .returned (.int .i64 0) ∧ Below w.heap.size w w' := fun wx hb => by
    have := Check_b (p ++ q) w wx (by omega) hb; rw [hk] at this; exact this
  have mP : ∀ b, matB p s = b → ∀ wx, Below w.heap.size w wx → Calls Try.prog 20 #[.string p, .string s] wx fun e w' => e = .returned (.bool b) ∧ Below w.heap.size w w' := fun b hb0 wx hb => by
    have := Match_b p s w wx (by omega) (by omega) hb; rw [hb0] at this; exact this
  have mQ : ∀ b, matB q t = b → ∀ wx, Below w.heap.size w wx → Calls Try.prog 20 #[.string q, .string t] wx fun e w' => e = .returned (.bool b) ∧ Below w.heap.size w w' := fun b hb0 wx hb => by
    have := Match_b q t w wx (by omega) (by omega) hb; rw [hb0] at this; exact this
  have mPQ : matB (p ++ q) (s ++ t) = true → ∀ wx, Below w.heap.size w wx → Calls Try.prog 20 #[.string (p ++ q), .string (s ++ t)] wx fun e w' => e = .returned (.bool true) ∧ Below w.heap.size w w' := fun hb0 wx hb => by
    have := Match_b (p ++ q) (s ++ t) w wx (by omega) (by omega) hb; rw [hb0] at this; exact this
  clear hk hpq hst h40
  cases h1 : matB p s with
  | false =>
    have m1 := mP _ h1
    clear mP mQ mPQ hm h1
    go_enter Try.func10, Try.ntmps10
    go_wp2_with (first | (go_at_call 18; (with_reducible refine (cP _ (by assumption)).mono ?_); rintro e W1 ⟨rfl, b1⟩) | (go_at_call 18; (with_reducible refine (cQ _ (by assumption)).mono ?_); rintro e W1 ⟨rfl, b1⟩) | (go_at_call 18; (with_reducible refine (cPQ _ (by assumption)).mono ?_); rintro e W1 ⟨rfl, b1⟩) | (go_at_call 24; (with_reducible refine (nP _ (by assumption)).mono ?_); rintro e W1 ⟨rfl, b1⟩) | (go_at_call 24; (with_reducible refine (nQ _ (by assumption)).mono ?_); rintro e W1 ⟨rfl, b1⟩) | (go_at_call 20; (with_reducible refine (m1 _ (by assumption)).mono ?_); rintro e W1 ⟨rfl, b1⟩) | (go_at_call 17; refine (awake2_b w _ (by assumption)).mono ?_; rintro e W1 ⟨rfl, b1⟩))
    all_goals (go_ret; exact ⟨rfl, by assumption⟩)
  | true =>
    have m1 := mP _ h1
    cases h2 : matB q t with
    | false =>
      have m2 := mQ _ h2
      clear mP mQ mPQ hm h1 h2
      go_enter Try.func10, Try.ntmps10
      go_wp2_with (first | (go_at_call 18; (with_reducible refine (cP _ (by assumption)).mono ?_); rintro e W1 ⟨rfl, b1⟩) | (go_at_call 18; (with_reducible refine (cQ _ (by assumption)).mono ?_); rintro e W1 ⟨rfl, b1⟩) | (go_at_call 18; (with_reducible refine (cPQ _ (by assumption)).mono ?_); rintro e W1 ⟨rfl, b1⟩) | (go_at_call 24; (with_reducible refine (nP _ (by assumption)).mono ?_); rintro e W1 ⟨rfl, b1⟩) | (go_at_call 24; (with_reducible refine (nQ _ (by assumption)).mono ?_); rintro e W1 ⟨rfl, b1⟩) | (go_at_call 20; (with_reducible refine (m1 _ (by assumption)).mono ?_); rintro e W1 ⟨rfl, b1⟩) | (go_at_call 20; (with_reducible refine (m2 _ (by assumption)).mono ?_); rintro e W1 ⟨rfl, b1⟩) | (go_at_call 17; refine (awake2_b w _ (by assumption)).mono ?_; rintro e W1 ⟨rfl, b1⟩))
      all_goals (go_ret; exact ⟨rfl, by assumption⟩)
    | true =>
      have m2 := mQ _ h2
      have m3 := mPQ (hm s t h1 h2)
      clear mP mQ mPQ hm h1 h2
      go_enter Try.func10, Try.ntmps10
      go_wp2_with (first | (go_at_call 18; (with_reducible refine (cP _ (by assumption)).mono ?_); rintro e W1 ⟨rfl, b1⟩) | (go_at_call 18; (with_reducible refine (cQ _ (by assumption)).mono ?_); rintro e W1 ⟨rfl, b1⟩) | (go_at_call 18; (with_reducible refine (cPQ _ (by assumption)).mono ?_); rintro e W1 ⟨rfl, b1⟩) | (go_at_call 24; (with_reducible refine (nP _ (by assumption)).mono ?_); rintro e W1 ⟨rfl, b1⟩) | (go_at_call 24; (with_reducible refine (nQ _ (by assumption)).mono ?_); rintro e W1 ⟨rfl, b1⟩) | (go_at_call 20; (with_reducible refine (m1 _ (by assumption)).mono ?_); rintro e W1 ⟨rfl, b1⟩) | (go_at_call 20; (with_reducible refine (m2 _ (by assumption)).mono ?_); rintro e W1 ⟨rfl, b1⟩) | (go_at_call 20; (with_reducible refine (m3 _ (by assumption)).mono ?_); rintro e W1 ⟨rfl, b1⟩) | (go_at_call 17; refine (awake2_b w _ (by assumption)).mono ?_; rintro e W1 ⟨rfl, b1⟩))
      all_goals (go_ret; exact ⟨rfl, by assumption⟩)

end Go.Proofs.Ytmijhgecdkdkmaa
