/-
  What the reference answers: digit; how a rune's first byte tells how it's quoted.
-/
import Derived.Test.YtkjkejkodilbgaaRefB
import Derived.Test.YtkjkejkodilbgaaPureR
import Derived.Test.YtkjkejkodilbgaaRunesU
set_option linter.unusedVariables false
namespace Go.Proofs.Ytkjkejkodilbgaa
open Go.RowKit

/-- What digit tells of a byte. -/
def digV (c : UInt8) : Int := match hexV c with | some n => (n : Int) | none => -1

set_option maxHeartbeats 2000000 in
set_option maxRecDepth 100000 in
theorem digit_any (c : UInt8) (w : World) :
    Calls Try.prog 28 #[.int .u8 c.toNat] w fun e w' => e = .returned (.int .i64 (digV c)) ∧ w = w' := by
  have hc := UInt8.toNat_lt c
  have hd : digV c = if 48 ≤ c.toNat ∧ c.toNat ≤ 57 then (c.toNat : Int) - 48 else if 97 ≤ c.toNat ∧ c.toNat ≤ 102 then (c.toNat : Int) - 87 else -1 := by
    unfold digV hexV
    by_cases h1 : 48 ≤ c.toNat ∧ c.toNat ≤ 57
    · rw [if_pos h1, if_pos h1]; simp only; omega
    · rw [if_neg h1, if_neg h1]
      by_cases h2 : 97 ≤ c.toNat ∧ c.toNat ≤ 102
      · rw [if_pos h2, if_pos h2]; simp only; omega
      · rw [if_neg h2, if_neg h2]
  obtain ⟨n, hn⟩ : ∃ n, n = c.toNat := ⟨_, rfl⟩
  rw [← hn] at hd hc ⊢
  have HD : Hid (digV c = if 48 ≤ n ∧ n ≤ 57 then (n : Int) - 48 else if 97 ≤ n ∧ n ≤ 102 then (n : Int) - 87 else -1) := hd
  clear hd hn
  go_enter Try.func28, Try.ntmps28
  by_cases h1 : 48 ≤ n ∧ n ≤ 57
  · obtain ⟨a1, a2⟩ := h1
    go_wp2
    go_ret
    refine ⟨?_, rfl⟩
    rw [HD.out, if_pos ⟨a1, a2⟩]
    rfl
  · by_cases h2 : 97 ≤ n ∧ n ≤ 102
    · obtain ⟨a1, a2⟩ := h2
      go_wp2
      go_ret
      refine ⟨?_, rfl⟩
      rw [HD.out, if_neg h1, if_pos ⟨a1, a2⟩]
      show Ending.returned (.int .i64 ((n : Int) - 97 + 10)) = _
      rw [show (n : Int) - 97 + 10 = (n : Int) - 87 by omega]
    · go_wp2
      all_goals go_ret
      all_goals (refine ⟨?_, rfl⟩; rw [HD.out, if_neg h1, if_neg h2]; rfl)


/-- A rune's first byte tells how it's quoted. -/
theorem first_low {b : UInt8} {r : List UInt8} (h : isPiece (b :: r)) : (b.toNat < 128 → (dec (b :: r)).1 = b.toNat) ∧ (¬ b.toNat < 128 → 128 ≤ (dec (b :: r)).1) := by
  refine ⟨fun hl => by rw [dec_ascii b r hl], fun hl => Nat.le_of_not_lt fun hlt => ?_⟩
  have hs := (piece_small h hlt).1
  simp only [List.cons.injEq] at hs
  have := toU8_ofNat _ (show (dec (b :: r)).1 < 256 by omega)
  rw [← hs.1] at this
  omega

theorem qpiece_first {b : UInt8} {r : List UInt8} (h : isPiece (b :: r)) :
    (b.toNat = 34 → qpiece (b :: r) = [92, 34]) ∧ (b.toNat = 92 → qpiece (b :: r) = [92, 92]) ∧ (b.toNat = 10 → qpiece (b :: r) = [92, 110]) ∧
    (b.toNat ≠ 10 → (bad (b :: r) = true ∨ b.toNat < 32 ∨ b.toNat = 127) → qpiece (b :: r) = [92, 120, hexB (b.toNat / 16), hexB (b.toNat % 16)]) ∧
    (b.toNat ≠ 34 → b.toNat ≠ 92 → ¬ b.toNat < 32 → b.toNat ≠ 127 → bad (b :: r) = false → qpiece (b :: r) = b :: r) := by
  obtain ⟨h1, h2⟩ := first_low h
  refine ⟨fun e => qpiece_34 h (by rw [h1 (by omega)]; exact e), fun e => qpiece_92 h (by rw [h1 (by omega)]; exact e), fun e => qpiece_10 h (by rw [h1 (by omega)]; exact e), fun e10 e => ?_, fun a1 a2 a3 a4 a5 => ?_⟩
  · have := qpiece_low h (by
      rcases e with e | e | e
      · exact Or.inr (Or.inr e)
      · left; rw [h1 (by omega)]; exact e
      · right; left; rw [h1 (by omega)]; exact e) (by
      by_cases hl : b.toNat < 128
      · rw [h1 hl]; exact e10
      · have := h2 hl; omega)
    simpa using this
  · by_cases hl : b.toNat < 128
    · have := h1 hl
      exact qpiece_else h (by omega) (by omega) (by omega) (by omega) a5
    · have := h2 hl
      exact qpiece_else h (by omega) (by omega) (by omega) (by omega) a5

/-- What stands at a rune's place. -/
theorem piece_byte (s : ByteArray) (j : Nat) (hj : j < (pieces s.data.toList).length) :
    ((pieces s.data.toList).take j).flatten.length < s.size ∧ ((pieces s.data.toList).take j).flatten.length + ((pieces s.data.toList)[j]'hj).length ≤ s.size ∧
    ∀ hp : ((pieces s.data.toList).take j).flatten.length < s.size, ∃ r, (pieces s.data.toList)[j]'hj = s[((pieces s.data.toList).take j).flatten.length]'hp :: r := by
  have hm := pieces_mem s.data.toList _ (List.getElem_mem hj)
  have hpos : 1 ≤ ((pieces s.data.toList)[j]'hj).length := List.length_pos_iff.2 hm.1
  have e : s.data.toList = ((pieces s.data.toList).take j).flatten ++ ((pieces s.data.toList)[j]'hj ++ ((pieces s.data.toList).drop (j + 1)).flatten) := by
    have h1 := List.drop_eq_getElem_cons hj
    rw [← List.flatten_cons, ← h1, ← List.flatten_append, List.take_append_drop, pieces_flatten]
  generalize hA : ((pieces s.data.toList).take j).flatten = A at *
  generalize hB : ((pieces s.data.toList).drop (j + 1)).flatten = B at *
  generalize hC : (pieces s.data.toList)[j]'hj = C at *
  have hlen := congrArg List.length e
  rw [← size_len] at hlen
  simp only [List.length_append] at hlen
  refine ⟨by omega, by omega, fun hp => ?_⟩
  match C, hpos with
  | b :: r, _ =>
    refine ⟨r, ?_⟩
    have := get_cons s A.length hp
    have h2 : (s.data.toList)[A.length]'(by rw [← size_len]; exact hp) = b := by
      simp only [e]
      rw [List.getElem_append_right (by omega)]
      simp
    rw [← this, h2]

theorem quoted_take (cs : List (List UInt8)) (j : Nat) (hj : j < cs.length) : quoted (cs.take (j + 1)) = quoted (cs.take j) ++ qpiece (cs[j]'hj) := by
  rw [List.take_succ_eq_append_getElem hj, quoted_step]

end Go.Proofs.Ytkjkejkodilbgaa
