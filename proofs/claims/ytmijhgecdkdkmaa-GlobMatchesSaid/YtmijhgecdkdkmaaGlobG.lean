/-
  What glob.skip and glob.step answer.
-/
import Derived.Test.YtmijhgecdkdkmaaGlobF
import Derived.Laws.Bits64b
set_option linter.unusedVariables false
namespace Go.Proofs.Ytmijhgecdkdkmaa
open Go.RowKit

/-- The ways, with those on which a star takes no rune. -/
def skipF : List Pc → Nat → Nat → Nat
  | [], _, W => W
  | x :: ps, k, W => skipF ps (k + 1) (if x.many = true ∧ W.testBit k = true then W ||| 2 ^ (k + 1) else W)

theorem lt_pow_mono {W a b : Nat} (h : W < 2 ^ a) (hab : a ≤ b) : W < 2 ^ b := Nat.lt_of_lt_of_le h (Nat.pow_le_pow_right (by omega) hab)

theorem and_bit (N k : Nat) (hN : N < 2 ^ 41) : bits .and .u64 ((N : Int) / 2 ^ k) 1 = if N.testBit k = true then 1 else 0 := by
  have e : (N : Int) / 2 ^ k = ((N / 2 ^ k : Nat) : Int) := by simp
  have hle : N / 2 ^ k ≤ N := Nat.div_le_self _ _
  rw [e, Nat.testBit_eq_decide_div_mod_eq]
  obtain ⟨M, hM⟩ : ∃ M, M = N / 2 ^ k := ⟨_, rfl⟩
  rw [← hM] at hle ⊢
  rw [and_one_u64 _ (by omega) (by omega)]
  by_cases h : M % 2 = 1
  · simp [h]; omega
  · simp [h]; omega
theorem or_pow {N j : Nat} (hN : N < 2 ^ 41) (hj : j ≤ 40) : bits .or .u64 (N : Int) (IntKind.u64.wrap (2 ^ j)) = ((N ||| 2 ^ j : Nat) : Int) := by
  have h1 : 2 ^ j ≤ 2 ^ 40 := Nat.pow_le_pow_right (by omega) hj
  have e : (2 : Int) ^ j = ((2 ^ j : Nat) : Int) := by simp
  rw [e]
  obtain ⟨M, hM⟩ : ∃ M, M = 2 ^ j := ⟨_, rfl⟩
  rw [← hM] at h1 ⊢
  rw [IntWalk.u64_in _ (by omega)]
  exact bits_or_u64_nat N M (by omega) (by omega)
theorem or_lt {N j n : Nat} (hN : N < 2 ^ n) (hj : j < n) : N ||| 2 ^ j < 2 ^ n := Nat.or_lt_two_pow hN (Nat.pow_lt_pow_right (by omega) hj)
theorem and_bit1 {N k : Nat} (hN : N < 2 ^ 41) (h : N.testBit k = true) : bits .and .u64 ((N : Int) / 2 ^ k) 1 = 1 := by rw [and_bit N k hN, if_pos h]
theorem and_bit0 {N k : Nat} (hN : N < 2 ^ 41) (h : N.testBit k = false) : bits .and .u64 ((N : Int) / 2 ^ k) 1 = 0 := by rw [and_bit N k hN, if_neg (by simp [h])]

/-- The cells of one piece of a row. -/
theorem pcs_at {w : World} {B : Nat} {v : Value} {P : List Pc} (h : PcsOwn w B v P) (k : Nat) (hk : k < P.length) :
    ∃ g cap sa sc, v = .slice (some ⟨g, 0, none⟩) P.length cap ∧ w.cell? ⟨g, k * 3, none⟩ = some (.slice sa P[k].spans.length sc) ∧ w.cell? ⟨g, k * 3 + 1, none⟩ = some (.bool P[k].turned) ∧ w.cell? ⟨g, k * 3 + 2, none⟩ = some (.bool P[k].many) ∧
      w.ownsRow B 92 2 (.slice sa P[k].spans.length sc) P[k].spans.length (rowOf spC P[k].spans) := by
  obtain ⟨Q, rfl, ho, hs⟩ := h
  have hk' : k < Q.length := by simpa using hk
  obtain ⟨g, cap, hv, _, hc⟩ := own_cells ho (fun _ => rfl) rfl (by intro e; rw [e] at hk'; simp at hk')
  have hq := hs _ (List.getElem_mem hk')
  obtain ⟨sa, sc, hsv⟩ := own_form hq
  have h0 := hc k hk' 0 (by omega)
  have h1 := hc k hk' 1 (by omega)
  have h2 := hc k hk' 2 (by omega)
  simp only [pcC, List.getElem?_cons_zero, List.getElem?_cons_succ, Nat.add_zero, hsv] at h0 h1 h2
  rw [hsv] at hq
  refine ⟨g, cap, sa, sc, by simpa using hv, ?_, ?_, ?_, ?_⟩
  · simpa using h0
  · simpa using h1
  · simpa using h2
  · simpa using hq

set_option maxHeartbeats 4000000 in
set_option maxRecDepth 100000 in
theorem skip_any (v : Value) (P : List Pc) (W B : Nat) (w : World) (h : PcsOwn w B v P) (hl : P.length ≤ 40) (hW : W < 2 ^ (P.length + 1)) :
    Calls Try.prog 47 #[v, .int .u64 W] w fun e w' => e = .returned (.int .u64 (skipF P 0 W)) ∧ skipF P 0 W < 2 ^ (P.length + 1) ∧ Below w.heap.size w w' := by
  obtain ⟨a, cap, hv⟩ : ∃ a cap, v = .slice a P.length cap := by
    obtain ⟨Q, rfl, ho, _⟩ := h
    obtain ⟨a, cap, hv⟩ := own_form ho
    exact ⟨a, cap, by simpa using hv⟩
  subst hv
  have B0 := Below.refl w.heap.size w
  go_enter Try.func47, Try.ntmps47
  go_wp2
  go_loopw [9, 1] (fun i x wr => ∃ k N : Nat, i = .int .i64 k ∧ x = .int .u64 N ∧ k ≤ P.length ∧ N < 2 ^ (P.length + 1) ∧ Below w.heap.size w wr ∧ Hid (skipF P 0 W = skipF (P.drop k) k N)) (fun i _ _ => P.length - (intOf i).toNat)
  case atStart => exact ⟨0, W, rfl, rfl, Nat.zero_le _, hW, B0, rfl⟩
  case round =>
    obtain ⟨k, N, rfl, rfl, hk, hN, hbw, HS⟩ := hrel
    by_cases hlt : k < P.length
    · obtain ⟨g, cap', sa, sc, hv, hc0, hc1, hc2, _⟩ := pcs_at (h.later hbw) k hlt
      simp at hv
      obtain ⟨rfl, rfl⟩ := hv
      have hg : g < wr.heap.size := World.block_lt_of_cell? _ _ hc0
      have HS2 : Hid (skipF P 0 W = skipF (P.drop (k + 1)) (k + 1) (if P[k].many = true ∧ N.testBit k = true then N ||| 2 ^ (k + 1) else N)) := by
        show _ = _
        rw [HS.out, List.drop_eq_getElem_cons hlt]; rfl
      obtain ⟨⟨sp, tu, ma⟩, hp⟩ : ∃ p, p = P[k] := ⟨_, rfl⟩
      rw [← hp] at hc0 hc1 hc2 HS2
      simp only at hc0 hc1 hc2
      have hlti : (k : Int) < (P.length : Int) := by omega
      have hk0 : (0 : Int) ≤ (k : Int) := by omega
      clear hp
      cases ma with
      | false => 
        have HS3 : Hid (skipF P 0 W = skipF (P.drop (k + 1)) (k + 1) N) := by show _ = _; rw [HS2.out]; rfl
        go_wp2
        go_roundw
        case rel => exact ⟨k + 1, N, by go_num, rfl, by omega, hN, hbw.alloc hbw.size _, HS3⟩
        case measure => simp [intOf]; omega
      | true =>
        have hN41 : N < 2 ^ 41 := lt_pow_mono hN (by omega)
        cases hb : N.testBit k with
        | false =>
          have HS3 : Hid (skipF P 0 W = skipF (P.drop (k + 1)) (k + 1) N) := by show _ = _; rw [HS2.out, if_neg (by simp [hb])]
          have hbit := and_bit0 hN41 hb
          clear hN41 hb
          go_wp2
          go_roundw
          case rel => exact ⟨k + 1, N, by go_num, rfl, by omega, hN, hbw.alloc hbw.size _, HS3⟩
          case measure => simp [intOf]; omega
        | true =>
          have HS3 : Hid (skipF P 0 W = skipF (P.drop (k + 1)) (k + 1) (N ||| 2 ^ (k + 1))) := by show _ = _; rw [HS2.out, if_pos ⟨rfl, hb⟩]
          have hbit := and_bit1 hN41 hb
          have hor := or_pow (j := k + 1) hN41 (by omega)
          clear hN41 hb
          go_wp2
          go_roundw
          case rel => exact ⟨k + 1, _, by go_num, rfl, by omega, or_lt hN (by omega), hbw.alloc hbw.size _, HS3⟩
          case measure => simp [intOf]; omega
    · have hlti : ¬ (k : Int) < (P.length : Int) := by omega
      have HN : Hid (skipF P 0 W = N) := by show _ = _; rw [HS.out, List.drop_of_length_le (by omega)]; rfl
      go_wp2
      go_ret
      exact ⟨by rw [HN.out]; rfl, by rw [HN.out]; exact hN, hbw⟩

/-- The ways behind one more rune. -/
def stepF (r : Nat) (W : Nat) : List Pc → Nat → Nat → Nat
  | [], _, N => N
  | x :: ps, k, N => stepF r W ps (k + 1) (if W.testBit k = false then N else if x.many = true then N ||| 2 ^ k else if takesR x r = true then N ||| 2 ^ (k + 1) else N)

set_option maxHeartbeats 4000000 in
set_option maxRecDepth 100000 in
theorem step_any (v : Value) (P : List Pc) (W r B : Nat) (w : World) (h : PcsOwn w B v P) (hl : P.length ≤ 40) (hsl : ∀ p ∈ P, p.spans.length ≤ 1000) (hW : W < 2 ^ (P.length + 1)) :
    Calls Try.prog 48 #[v, .int .u64 W, .int .i32 r] w fun e w' => e = .returned (.int .u64 (stepF r W P 0 0)) ∧ stepF r W P 0 0 < 2 ^ (P.length + 1) ∧ Below w.heap.size w w' := by
  obtain ⟨a, cap, hv⟩ : ∃ a cap, v = .slice a P.length cap := by
    obtain ⟨Q, rfl, ho, _⟩ := h
    obtain ⟨a, cap, hv⟩ := own_form ho
    exact ⟨a, cap, by simpa using hv⟩
  subst hv
  have B0 := Below.refl w.heap.size w
  have hW41 : W < 2 ^ 41 := lt_pow_mono hW (by omega)
  go_enter Try.func48, Try.ntmps48
  go_wp2
  go_loopw [12, 7] (fun i x wr => ∃ k N : Nat, i = .int .i64 k ∧ x = .int .u64 N ∧ k ≤ P.length ∧ N < 2 ^ (P.length + 1) ∧ Below w.heap.size w wr ∧ Hid (stepF r W P 0 0 = stepF r W (P.drop k) k N)) (fun i _ _ => P.length - (intOf i).toNat)
  case atStart => exact ⟨0, 0, rfl, rfl, Nat.zero_le _, Nat.pow_pos (by omega), B0, rfl⟩
  case round =>
    obtain ⟨k, N, rfl, rfl, hk, hN, hbw, HS⟩ := hrel
    by_cases hlt : k < P.length
    · obtain ⟨g, cap', sa, sc, hv, hc0, hc1, hc2, hos⟩ := pcs_at (h.later hbw) k hlt
      simp at hv
      obtain ⟨rfl, rfl⟩ := hv
      have hg : g < wr.heap.size := World.block_lt_of_cell? _ _ hc0
      have HS2 : Hid (stepF r W P 0 0 = stepF r W (P.drop (k + 1)) (k + 1) (if W.testBit k = false then N else if P[k].many = true then N ||| 2 ^ k else if takesR P[k] r = true then N ||| 2 ^ (k + 1) else N)) := by
        show _ = _
        rw [HS.out, List.drop_eq_getElem_cons hlt]; rfl
      have hslk := hsl _ (List.getElem_mem hlt)
      obtain ⟨⟨sp, tu, ma⟩, hp⟩ : ∃ p, p = P[k] := ⟨_, rfl⟩
      rw [← hp] at hc0 hc1 hc2 HS2 hos hslk
      simp only at hc0 hc1 hc2 hos hslk
      have hlti : (k : Int) < (P.length : Int) := by omega
      have hk0 : (0 : Int) ≤ (k : Int) := by omega
      have hN41 : N < 2 ^ 41 := lt_pow_mono hN (by omega)
      clear hp
      cases hb : W.testBit k with
      | false =>
        have HS3 : Hid (stepF r W P 0 0 = stepF r W (P.drop (k + 1)) (k + 1) N) := by show _ = _; rw [HS2.out, if_pos hb]
        have hbit := and_bit0 hW41 hb
        clear hN41 hb
        go_wp2
        go_roundw
        case rel => exact ⟨k + 1, N, by go_num, rfl, by omega, hN, hbw.alloc hbw.size _, HS3⟩
        case measure => simp [intOf]; omega
      | true =>
        have hbit := and_bit1 hW41 hb
        cases ma with
        | true =>
          have HS3 : Hid (stepF r W P 0 0 = stepF r W (P.drop (k + 1)) (k + 1) (N ||| 2 ^ k)) := by show _ = _; rw [HS2.out, if_neg (by simp [hb]), if_pos rfl]
          have hor := or_pow (j := k) hN41 (by omega)
          clear hN41 hb
          go_wp2
          go_roundw
          case rel => exact ⟨k + 1, _, by go_num, rfl, by omega, or_lt hN (by omega), hbw.alloc hbw.size _, HS3⟩
          case measure => simp [intOf]; omega
        | false =>
          have htk : ∀ wx, Below wr.heap.size wr wx → Calls Try.prog 55 #[.agg #[.slice sa sp.length sc, .bool tu, .bool false], .int .i32 r] wx fun e w' => e = .returned (.bool (takesR ⟨sp, tu, false⟩ r)) ∧ Below wx.heap.size wx w' := fun wx hb => takes_any (.slice sa sp.length sc) ⟨sp, tu, false⟩ r B wx (own_later hos hb) hslk
          have hbA := (Below.refl wr.heap.size wr).alloc (Nat.le_refl _)
          cases ht : takesR ⟨sp, tu, false⟩ r with
          | true =>
            have HS3 : Hid (stepF r W P 0 0 = stepF r W (P.drop (k + 1)) (k + 1) (N ||| 2 ^ (k + 1))) := by show _ = _; rw [HS2.out, if_neg (by simp [hb]), if_neg (by simp), if_pos ht]
            have hor := or_pow (j := k + 1) hN41 (by omega)
            rw [ht] at htk
            clear hN41 hb ht
            go_wp2_with (go_at_call 55; (with_reducible refine (htk _ (hbA _)).mono ?_); rintro e W2 ⟨rfl, b2⟩)
            go_roundw
            case rel => exact ⟨k + 1, _, by go_num, rfl, by omega, or_lt hN (by omega), (hbw.alloc hbw.size _).trans (b2.mono (by have := hbw.size; simp; omega)), HS3⟩
            case measure => simp [intOf]; omega
          | false =>
            have HS3 : Hid (stepF r W P 0 0 = stepF r W (P.drop (k + 1)) (k + 1) N) := by show _ = _; rw [HS2.out, if_neg (by simp [hb]), if_neg (by simp), if_neg (by simp [ht])]
            rw [ht] at htk
            clear hN41 hb ht
            go_wp2_with (go_at_call 55; (with_reducible refine (htk _ (hbA _)).mono ?_); rintro e W2 ⟨rfl, b2⟩)
            go_roundw
            case rel => exact ⟨k + 1, N, by go_num, rfl, by omega, hN, (hbw.alloc hbw.size _).trans (b2.mono (by have := hbw.size; simp; omega)), HS3⟩
            case measure => simp [intOf]; omega
    · have hlti : ¬ (k : Int) < (P.length : Int) := by omega
      have HN : Hid (stepF r W P 0 0 = N) := by show _ = _; rw [HS.out, List.drop_of_length_le (by omega)]; rfl
      go_wp2
      go_ret
      exact ⟨by rw [HN.out]; rfl, by rw [HN.out]; exact hN, hbw⟩

end Go.Proofs.Ytmijhgecdkdkmaa
