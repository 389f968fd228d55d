/-
  Plain mathematics: pieces and runes, quoted texts.
-/
import Derived.Test.YtggognmbjgkdfaaPure
set_option linter.unusedVariables false
namespace Go.Proofs.Ytggognmbjgkdfaa
open Go.Lib (decodeN decode_at)

/-- A small rune is its own byte. -/
theorem piece_small {c : List UInt8} (h : isPiece c) (hr : (dec c).1 < 128) : c = [(dec c).1.toUInt8] ∧ bad c = false := by
  obtain ⟨hne, hw, h4⟩ := h
  match c, hne with
  | b :: r, _ =>
    rw [dec_cons] at hr hw
    have n0 := UInt8.toNat_lt b
    by_cases h0 : b.toNat < 128
    · rw [show dec (b :: r) = (b.toNat, 1) by rw [dec_cons]; simp [decodeN, h0]]
      rw [show decodeN (r.length + 1) b.toNat (r.getD 0 0).toNat (r.getD 1 0).toNat (r.getD 2 0).toNat = (b.toNat, 1) by simp [decodeN, h0]] at hw
      have : r = [] := by
        cases r with
        | nil => rfl
        | cons x y => simp at hw
      subst this
      refine ⟨?_, ?_⟩
      · have : b.toNat.toUInt8 = b := UInt8.toNat_inj.1 (by simp)
        simp [this]
      · simp [bad]; omega
    · exfalso
      unfold decodeN at hr
      rw [if_neg h0] at hr
      split at hr
      · split at hr
        · rename_i g1 g2; exact absurd hr (by show ¬ _ < 128; simp only; omega)
        · simp at hr
      split at hr
      · split at hr
        · rename_i g1 g2 g3; exact absurd hr (by show ¬ _ < 128; simp only; omega)
        · simp at hr
      split at hr
      · split at hr
        · rename_i g1 g2 g3 g4; exact absurd hr (by show ¬ _ < 128; simp only; omega)
        · simp at hr
      · simp at hr

theorem piece_bad {c : List UInt8} (h : isPiece c) (hb : bad c = true) : (dec c).1 = 65533 ∧ ∃ x, c = [x] ∧ 128 ≤ x.toNat := by
  simp [bad] at hb
  have hw : (dec c).2 = 1 := by rw [h.2.1]; exact hb.1
  have := dec_w1 _ hw
  rw [if_neg (by simp; omega)] at this
  refine ⟨by rw [this], ?_⟩
  match c, hb.1 with
  | [x], _ => exact ⟨x, rfl, by simpa using hb.2⟩

theorem toU8_ofNat (n : Nat) (h : n < 256) : n.toUInt8.toNat = n := by simp [Nat.mod_eq_of_lt h]

theorem toU8_eq (b : UInt8) (n : Nat) (h : n = b.toNat) : n.toUInt8 = b := by subst h; simp

set_option maxRecDepth 100000 in
set_option maxHeartbeats 1000000 in
/-- A good rune's bytes are its own. -/
theorem piece_encode {c : List UInt8} (h : isPiece c) (hb : bad c = false) : Lib.encodeRune ((dec c).1 : Int) = c := by
  obtain ⟨hne, hw, h4⟩ := h
  match c, hne with
  | b :: r, _ =>
    have n0 := UInt8.toNat_lt b
    by_cases h0 : b.toNat < 128
    · have hd : dec (b :: r) = (b.toNat, 1) := by rw [dec_cons]; simp [decodeN, h0]
      rw [hd] at hw ⊢
      have : r = [] := by
        cases r with
        | nil => rfl
        | cons x y => simp at hw
      subst this
      simp only [Lib.encodeRune]
      rw [Lib.encodeRuneZ_one (by omega) (by omega)]
      simp
    · have hd := dec_cons b r
      have n1 := UInt8.toNat_lt (r.getD 0 0)
      have n2 := UInt8.toNat_lt (r.getD 1 0)
      have n3 := UInt8.toNat_lt (r.getD 2 0)
      have hl1 : (b :: r).length ≠ 1 := by
        intro h1
        simp [bad] at hb
        have := hb (by simpa using h1)
        omega
      have hwl : (dec (b :: r)).2 = r.length + 1 := by rw [hw]; rfl
      rw [hd] at hwl ⊢
      unfold decodeN at hwl ⊢
      rw [if_neg h0] at hwl ⊢
      by_cases k2 : b.toNat / 32 = 6 ∧ 1 < r.length + 1 ∧ (r.getD 0 0).toNat / 64 = 2
      · rw [if_pos k2] at hwl ⊢
        by_cases r2 : b.toNat % 32 * 64 + (r.getD 0 0).toNat % 64 ≥ 128
        · rw [if_pos r2] at hwl ⊢
          simp at hwl
          match r, hwl with
          | [b1], _ =>
            simp at k2 r2 n1 ⊢
            simp only [Lib.encodeRune]
            rw [Lib.encodeRuneZ_two (by omega) (by omega)]
            simp only [List.map_cons, List.map_nil]
            rw [toU8_eq b _ (by omega), toU8_eq b1 _ (by omega)]
        · rw [if_neg r2] at hwl; simp at hwl; simp [hwl] at hl1
      rw [if_neg k2] at hwl ⊢
      by_cases k3 : b.toNat / 16 = 14 ∧ (1 < r.length + 1 ∧ (r.getD 0 0).toNat / 64 = 2) ∧ 2 < r.length + 1 ∧ (r.getD 1 0).toNat / 64 = 2
      · rw [if_pos k3] at hwl ⊢
        split at hwl
        · rename_i r3
          rw [if_pos r3]
          simp at hwl
          match r, hwl with
          | [b1, b2], _ =>
            simp at k3 r3 n1 n2 ⊢
            simp only [Lib.encodeRune]
            rw [Lib.encodeRuneZ_three (by omega)]
            simp only [List.map_cons, List.map_nil]
            rw [toU8_eq b _ (by omega), toU8_eq b1 _ (by omega), toU8_eq b2 _ (by omega)]
        · simp at hwl; simp [hwl] at hl1
      rw [if_neg k3] at hwl ⊢
      by_cases k4 : b.toNat / 8 = 30 ∧ (1 < r.length + 1 ∧ (r.getD 0 0).toNat / 64 = 2) ∧ (2 < r.length + 1 ∧ (r.getD 1 0).toNat / 64 = 2) ∧ 3 < r.length + 1 ∧ (r.getD 2 0).toNat / 64 = 2
      · rw [if_pos k4] at hwl ⊢
        split at hwl
        · rename_i r4
          rw [if_pos r4]
          simp at hwl
          match r, hwl with
          | [b1, b2, b3], _ =>
            simp at k4 r4 n1 n2 n3 ⊢
            simp only [Lib.encodeRune]
            rw [Lib.encodeRuneZ_four (by omega) (by omega)]
            simp only [List.map_cons, List.map_nil]
            rw [toU8_eq b _ (by omega), toU8_eq b1 _ (by omega), toU8_eq b2 _ (by omega), toU8_eq b3 _ (by omega)]
        · simp at hwl; simp [hwl] at hl1
      · rw [if_neg k4] at hwl; simp at hwl; simp [hwl] at hl1

/-- A small hex digit. -/
def hexB (n : Nat) : UInt8 := ([48, 49, 50, 51, 52, 53, 54, 55, 56, 57, 97, 98, 99, 100, 101, 102] : List UInt8).getD n 0

/-- A rune as it stands in a quoted text. -/
def qpiece (c : List UInt8) : List UInt8 :=
  if c = [34] then [92, 34] else if c = [92] then [92, 92] else if c = [10] then [92, 110]
  else if c.length = 1 ∧ ((c.getD 0 0).toNat < 32 ∨ (c.getD 0 0).toNat = 127 ∨ 128 ≤ (c.getD 0 0).toNat) then [92, 120, hexB ((c.getD 0 0).toNat / 16), hexB ((c.getD 0 0).toNat % 16)]
  else c

def qbody (l : List UInt8) : List UInt8 := (pieces l).flatMap qpiece
def quote (l : List UInt8) : List UInt8 := 34 :: (qbody l ++ [34])

theorem qpiece_len (c : List UInt8) (h : c.length ≤ 4) : (qpiece c).length ≤ 4 := by
  unfold qpiece
  repeat' split
  all_goals (first | exact h | simp)

theorem piece_rune_ge {c : List UInt8} (h : isPiece c) (hr : 128 ≤ (dec c).1) (hb : bad c = false) : 2 ≤ c.length := by
  rcases Nat.lt_or_ge 1 c.length with h1 | h1
  · exact h1
  · exfalso
    have h0 : 1 ≤ c.length := by cases hc : c with | nil => exact absurd hc h.1 | cons a r => simp
    have hw : (dec c).2 = 1 := by rw [h.2.1]; omega
    have := dec_w1 _ hw
    simp [bad] at hb
    have hb' := hb (by omega)
    rw [if_pos (by simpa using hb')] at this
    rw [this] at hr
    simp at hr
    omega

theorem qpiece_34 {c : List UInt8} (h : isPiece c) (hr : (dec c).1 = 34) : qpiece c = [92, 34] := by
  have := (piece_small h (by omega)).1
  rw [hr] at this; rw [this]; rfl
theorem qpiece_92 {c : List UInt8} (h : isPiece c) (hr : (dec c).1 = 92) : qpiece c = [92, 92] := by
  have := (piece_small h (by omega)).1
  rw [hr] at this; rw [this]; rfl
theorem qpiece_10 {c : List UInt8} (h : isPiece c) (hr : (dec c).1 = 10) : qpiece c = [92, 110] := by
  have := (piece_small h (by omega)).1
  rw [hr] at this; rw [this]; rfl

theorem qpiece_low {c : List UInt8} (h : isPiece c) (hr : (dec c).1 < 32 ∨ (dec c).1 = 127 ∨ bad c = true) (h10 : (dec c).1 ≠ 10) :
    qpiece c = [92, 120, hexB ((c.getD 0 0).toNat / 16), hexB ((c.getD 0 0).toNat % 16)] := by
  by_cases hb : bad c = true
  · obtain ⟨_, x, rfl, hx⟩ := piece_bad h hb
    unfold qpiece
    rw [if_neg (by simp; intro e; subst e; simp at hx), if_neg (by simp; intro e; subst e; simp at hx), if_neg (by simp; intro e; subst e; simp at hx), if_pos ⟨rfl, Or.inr (Or.inr hx)⟩]
  · have hr' : (dec c).1 < 128 ∧ ((dec c).1 < 32 ∨ (dec c).1 = 127) := by rcases hr with h | h | h; omega; omega; exact absurd h hb
    have hc := (piece_small h hr'.1).1
    have hu := toU8_ofNat (dec c).1 (by omega)
    generalize (dec c).1 = n at *
    subst hc
    unfold qpiece
    rw [if_neg (fun e => by have e' : n.toUInt8.toNat = 34 := by { rw [List.singleton_inj.1 e]; rfl }; omega), if_neg (fun e => by have e' : n.toUInt8.toNat = 92 := by { rw [List.singleton_inj.1 e]; rfl }; omega), if_neg (fun e => by have e' : n.toUInt8.toNat = 10 := by { rw [List.singleton_inj.1 e]; rfl }; omega), if_pos ⟨rfl, by simp only [List.getD_cons_zero, hu]; omega⟩]

theorem qpiece_else {c : List UInt8} (h : isPiece c) (h34 : (dec c).1 ≠ 34) (h92 : (dec c).1 ≠ 92) (h32 : ¬ (dec c).1 < 32) (h127 : (dec c).1 ≠ 127) (hb : bad c = false) : qpiece c = c := by
  have g34 : c ≠ [34] := by rintro rfl; exact h34 rfl
  have g92 : c ≠ [92] := by rintro rfl; exact h92 rfl
  have g10 : c ≠ [10] := by rintro rfl; exact h32 (by decide)
  unfold qpiece
  rw [if_neg g34, if_neg g92, if_neg g10, if_neg]
  rintro ⟨h1, hx⟩
  have hw : (dec c).2 = 1 := by rw [h.2.1]; exact h1
  have hd := dec_w1 _ hw
  simp [bad] at hb
  have hb' := hb h1
  rw [if_pos (by simpa using hb')] at hd
  have e : (dec c).1 = (c.getD 0 0).toNat := by rw [hd]
  simp at hx e
  omega

end Go.Proofs.Ytggognmbjgkdfaa
