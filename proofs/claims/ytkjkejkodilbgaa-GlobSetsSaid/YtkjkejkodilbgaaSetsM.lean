/-
  Plain mathematics: a set's pattern.
-/
import Derived.Test.YtkjkejkodilbgaaQuoLaw
set_option linter.unusedVariables false
namespace Go.Proofs.Ytkjkejkodilbgaa
open Go.RowKit
open Go.Lib (decodeN)

theorem toU8_small (n : Nat) (h : n < 256) : (n.toUInt8).toNat = n := by simp [Nat.toUInt8]; omega

/-- A rune's bytes are a good piece, and are read as the rune. -/
theorem enc_good (n : Nat) (hn : n ≤ 1114111) (hs : n < 55296 ∨ 57343 < n) : (isPiece (Utf8.encode (n : Int)).data.toList ∧ bad (Utf8.encode (n : Int)).data.toList = false) ∧ (dec (Utf8.encode (n : Int)).data.toList).1 = n := by
  rw [enc_list n hn hs]
  unfold Lib.encodeRune Lib.encodeRuneZ
  by_cases h1 : n < 128
  · rw [if_pos (show (0 : Int) ≤ (n : Int) ∧ (n : Int) ≤ 127 by omega)]
    have e1 : ((n : Int)).toNat = n := by omega
    simp only [List.map_cons, List.map_nil, e1]
    have hd := dec_one n.toUInt8
    rw [toU8_small n (by omega), if_pos h1] at hd
    refine ⟨⟨⟨by simp, by rw [hd]; rfl, by simp⟩, ?_⟩, by rw [hd]⟩
    unfold bad
    simp only [List.length_singleton, List.getD_cons_zero, toU8_small n (by omega)]
    simp; omega
  · rw [if_neg (show ¬ ((0 : Int) ≤ (n : Int) ∧ (n : Int) ≤ 127) by omega)]
    by_cases h2 : n < 2048
    · rw [if_pos (show (128 : Int) ≤ (n : Int) ∧ (n : Int) ≤ 2047 by omega)]
      have e1 : ((192 : Int) + (n : Int) / 64).toNat = 192 + n / 64 := by omega
      have e2 : ((128 : Int) + (n : Int) % 64).toNat = 128 + n % 64 := by omega
      simp only [List.map_cons, List.map_nil, e1, e2]
      have hd : dec [(192 + n / 64).toUInt8, (128 + n % 64).toUInt8] = (n, 2) := by
        rw [dec_def]
        simp only [List.length_cons, List.length_nil, List.getD_cons_zero, List.getD_cons_succ, List.getD_nil, toU8_small (192 + n / 64) (by omega), toU8_small (128 + n % 64) (by omega)]
        unfold decodeN
        rw [if_neg (by omega), if_pos (by omega), if_pos (by omega)]
        congr 1; omega
      refine ⟨⟨⟨by simp, by rw [hd]; rfl, by simp⟩, ?_⟩, by rw [hd]⟩
      unfold bad; simp
    · rw [if_neg (show ¬ ((128 : Int) ≤ (n : Int) ∧ (n : Int) ≤ 2047) by omega)]
      by_cases h3 : n < 65536
      · rw [if_pos (show ((2048 : Int) ≤ (n : Int) ∧ (n : Int) < 55296) ∨ ((57343 : Int) < (n : Int) ∧ (n : Int) ≤ 65535) by omega)]
        have e1 : ((224 : Int) + (n : Int) / 4096).toNat = 224 + n / 4096 := by omega
        have e2 : ((128 : Int) + (n : Int) / 64 % 64).toNat = 128 + n / 64 % 64 := by omega
        have e3 : ((128 : Int) + (n : Int) % 64).toNat = 128 + n % 64 := by omega
        simp only [List.map_cons, List.map_nil, e1, e2, e3]
        have hd : dec [(224 + n / 4096).toUInt8, (128 + n / 64 % 64).toUInt8, (128 + n % 64).toUInt8] = (n, 3) := by
          rw [dec_def]
          simp only [List.length_cons, List.length_nil, List.getD_cons_zero, List.getD_cons_succ, List.getD_nil, toU8_small (224 + n / 4096) (by omega), toU8_small (128 + n / 64 % 64) (by omega), toU8_small (128 + n % 64) (by omega)]
          unfold decodeN
          rw [if_neg (by omega), if_neg (by omega), if_pos (by omega), if_pos (by omega)]
          congr 1; omega
        refine ⟨⟨⟨by simp, by rw [hd]; rfl, by simp⟩, ?_⟩, by rw [hd]⟩
        unfold bad; simp
      · rw [if_neg (show ¬ (((2048 : Int) ≤ (n : Int) ∧ (n : Int) < 55296) ∨ ((57343 : Int) < (n : Int) ∧ (n : Int) ≤ 65535)) by omega), if_pos (show (65536 : Int) ≤ (n : Int) ∧ (n : Int) ≤ 1114111 by omega)]
        have e1 : ((240 : Int) + (n : Int) / 262144).toNat = 240 + n / 262144 := by omega
        have e2 : ((128 : Int) + (n : Int) / 4096 % 64).toNat = 128 + n / 4096 % 64 := by omega
        have e3 : ((128 : Int) + (n : Int) / 64 % 64).toNat = 128 + n / 64 % 64 := by omega
        have e4 : ((128 : Int) + (n : Int) % 64).toNat = 128 + n % 64 := by omega
        simp only [List.map_cons, List.map_nil, e1, e2, e3, e4]
        have hd : dec [(240 + n / 262144).toUInt8, (128 + n / 4096 % 64).toUInt8, (128 + n / 64 % 64).toUInt8, (128 + n % 64).toUInt8] = (n, 4) := by
          rw [dec_def]
          simp only [List.length_cons, List.length_nil, List.getD_cons_zero, List.getD_cons_succ, toU8_small (240 + n / 262144) (by omega), toU8_small (128 + n / 4096 % 64) (by omega), toU8_small (128 + n / 64 % 64) (by omega), toU8_small (128 + n % 64) (by omega)]
          unfold decodeN
          rw [if_neg (by omega), if_neg (by omega), if_neg (by omega), if_pos (by omega), if_pos (by omega)]
          congr 1; omega
        refine ⟨⟨⟨by simp, by rw [hd]; rfl, by simp⟩, ?_⟩, by rw [hd]⟩
        unfold bad; simp

/-- A text of good pieces. -/
theorem good_text {cs : List (List UInt8)} (h : ∀ c ∈ cs, isPiece c ∧ bad c = false) : pieces cs.flatten = cs ∧ valid cs.flatten = true := by
  have := pieces_good_append cs [] h
  rw [List.append_nil, pieces_nil, List.append_nil] at this
  refine ⟨this, ?_⟩
  unfold valid; rw [this, List.all_eq_true]
  intro c hc; simp [(h c hc).2]

theorem good_one (x : UInt8) (h : x.toNat < 128) : (isPiece [x] ∧ bad [x] = false) ∧ (dec [x]).1 = x.toNat := by
  have hd := dec_one x
  rw [if_pos h] at hd
  exact ⟨⟨⟨by simp, by rw [hd]; rfl, by simp⟩, by unfold bad; simp; omega⟩, by rw [hd]⟩

theorem set_pc (a b : Nat) (ha : 256 ≤ a) (hab : a ≤ b) : pcF 5 [(91, true), (a, true), (45, true), (b, true), (93, true)] = some [⟨[(a, b)], false, false⟩] ∧
    pcF 6 [(91, true), (94, true), (a, true), (45, true), (b, true), (93, true)] = some [⟨[(a, b)], true, false⟩] := by
  have na : ∀ r, r < 256 → (a == r) = false := fun r h => by simp; omega
  have nb : ∀ r, r < 256 → (b == r) = false := fun r h => by simp; omega
  have hba : ¬ b < a := by omega
  constructor
  · have h1 : setR [(91, true), (a, true), (45, true), (b, true), (93, true)] = (⟨[(a, b)], false, false⟩, 5) := by
      have hs : spanF [(91, true), (a, true), (45, true), (b, true), (93, true)] 1 = ((a, b), 3) := by simp [spanF, bareAt, nb 93 (by omega)]
      unfold setR setFirst
      simp [bareAt, na 94 (by omega), setL, na 93 (by omega), na 45 (by omega), hs, hba]
    have h2 : headR [(91, true), (a, true), (45, true), (b, true), (93, true)] = (⟨[(a, b)], false, false⟩, 5) := by
      unfold headR; simp [bareAt, h1]
    rw [pcF_more (by simp) h2 (by omega)]
    simp [pcF_nil]
  · have h1 : setR [(91, true), (94, true), (a, true), (45, true), (b, true), (93, true)] = (⟨[(a, b)], true, false⟩, 6) := by
      have hs : spanF [(91, true), (94, true), (a, true), (45, true), (b, true), (93, true)] 2 = ((a, b), 3) := by simp [spanF, bareAt, nb 93 (by omega)]
      unfold setR setFirst
      simp [bareAt, setL, na 93 (by omega), na 45 (by omega), hs, hba]
    have h2 : headR [(91, true), (94, true), (a, true), (45, true), (b, true), (93, true)] = (⟨[(a, b)], true, false⟩, 6) := by
      unfold headR; simp [bareAt, h1]
    rw [pcF_more (by simp) h2 (by omega)]
    simp [pcF_nil]

def setTail (A B : ByteArray) : ByteArray := A ++ ⟨#[45]⟩ ++ B ++ ⟨#[93]⟩

theorem set_mat (a b c : Nat) (ha : 256 ≤ a) (hab : a ≤ b) (hb : b ≤ 1114111) (hc : c ≤ 1114111) (sa : a < 55296 ∨ 57343 < a) (sb : b < 55296 ∨ 57343 < b) (sc : c < 55296 ∨ 57343 < c) :
    matB (⟨#[91]⟩ ++ setTail (Utf8.encode (a : Int)) (Utf8.encode (b : Int))) (Utf8.encode (c : Int)) = (decide (a ≤ c) && decide (c ≤ b)) ∧
    matB (⟨#[91, 94]⟩ ++ setTail (Utf8.encode (a : Int)) (Utf8.encode (b : Int))) (Utf8.encode (c : Int)) = !(decide (a ≤ c) && decide (c ≤ b)) ∧
    matB (⟨#[91]⟩ ++ setTail (Utf8.encode (a : Int)) (Utf8.encode (b : Int))) ⟨#[]⟩ = false := by
  obtain ⟨ga, da⟩ := enc_good a (by omega) sa
  obtain ⟨gb, db⟩ := enc_good b hb sb
  obtain ⟨gc, dc⟩ := enc_good c hc sc
  obtain ⟨g1, d1⟩ := good_one 91 (by decide)
  obtain ⟨g2, d2⟩ := good_one 94 (by decide)
  obtain ⟨g3, d3⟩ := good_one 45 (by decide)
  obtain ⟨g4, d4⟩ := good_one 93 (by decide)
  obtain ⟨A, hA⟩ : ∃ A, A = Utf8.encode (a : Int) := ⟨_, rfl⟩
  obtain ⟨B, hB⟩ : ∃ B, B = Utf8.encode (b : Int) := ⟨_, rfl⟩
  obtain ⟨C, hC⟩ : ∃ C, C = Utf8.encode (c : Int) := ⟨_, rfl⟩
  rw [← hA] at ga da ⊢
  rw [← hB] at gb db ⊢
  rw [← hC] at gc dc ⊢
  have t1 : (⟨#[91]⟩ ++ setTail A B).data.toList = ([[91], A.data.toList, [45], B.data.toList, [93]] : List (List UInt8)).flatten := by
    unfold setTail; simp
  have t2 : (⟨#[91, 94]⟩ ++ setTail A B).data.toList = ([[91], [94], A.data.toList, [45], B.data.toList, [93]] : List (List UInt8)).flatten := by
    unfold setTail; simp
  have t3 : C.data.toList = ([C.data.toList] : List (List UInt8)).flatten := by simp
  have G1 : ∀ c ∈ ([[91], A.data.toList, [45], B.data.toList, [93]] : List (List UInt8)), isPiece c ∧ bad c = false := by
    intro c hc
    simp only [List.mem_cons, List.not_mem_nil, or_false] at hc
    rcases hc with rfl | rfl | rfl | rfl | rfl <;> assumption
  have G2 : ∀ c ∈ ([[91], [94], A.data.toList, [45], B.data.toList, [93]] : List (List UInt8)), isPiece c ∧ bad c = false := by
    intro c hc
    simp only [List.mem_cons, List.not_mem_nil, or_false] at hc
    rcases hc with rfl | rfl | rfl | rfl | rfl | rfl <;> assumption
  have G3 : ∀ c ∈ ([C.data.toList] : List (List UInt8)), isPiece c ∧ bad c = false := by
    intro c hc
    simp only [List.mem_cons, List.not_mem_nil, or_false] at hc
    subst hc; exact gc
  obtain ⟨p1, v1⟩ := good_text G1
  obtain ⟨p2, v2⟩ := good_text G2
  obtain ⟨p3, v3⟩ := good_text G3
  rw [← t3] at p3 v3
  have r1 : runesOf [[91], A.data.toList, [45], B.data.toList, [93]] = [91, a, 45, b, 93] := by simp only [runesOf, List.map_cons, List.map_nil, da, db, d1, d3, d4]; rfl
  have r2 : runesOf [[91], [94], A.data.toList, [45], B.data.toList, [93]] = [91, 94, a, 45, b, 93] := by simp only [runesOf, List.map_cons, List.map_nil, da, db, d1, d2, d3, d4]; rfl
  have r3 : runesOf [C.data.toList] = [c] := by simp only [runesOf, List.map_cons, List.map_nil, dc]
  have q1 : patR (⟨#[91]⟩ ++ setTail A B).data.toList = some [⟨[(a, b)], false, false⟩] := by
    unfold patR
    rw [t1, p1, r1, if_pos ⟨v1, by simp⟩, sgRun_plain _ (by intro r hr; simp at hr; omega)]
    exact (set_pc a b ha hab).1
  have q2 : patR (⟨#[91, 94]⟩ ++ setTail A B).data.toList = some [⟨[(a, b)], true, false⟩] := by
    unfold patR
    rw [t2, p2, r2, if_pos ⟨v2, by simp⟩, sgRun_plain _ (by intro r hr; simp at hr; omega)]
    exact (set_pc a b ha hab).2
  have tk : ∀ t : Bool, takR [⟨[(a, b)], t, false⟩] [c] = takesR ⟨[(a, b)], t, false⟩ c := by
    intro t
    rw [Bool.eq_iff_iff, takR_iff, Mt.one_iff rfl]
    constructor
    · rintro ⟨r, hr, h⟩; simp at hr; subst hr; exact h
    · intro h; exact ⟨c, rfl, h⟩
  refine ⟨?_, ?_, ?_⟩
  · unfold matB matR
    rw [q1, p3, r3, v3]
    simp only [Bool.true_and, tk]
    simp [takesR, inSpan]
  · unfold matB matR
    rw [q2, p3, r3, v3]
    simp only [Bool.true_and, tk]
    simp only [takesR, List.any_cons, List.any_nil, Bool.or_false, inSpan]
    cases (decide (a ≤ c) && decide (c ≤ b)) <;> simp
  · unfold matB matR
    rw [q1]
    apply Bool.eq_false_iff.2
    intro h
    simp only [Bool.and_eq_true, takR_iff] at h
    obtain ⟨r, hr, _⟩ := (Mt.one_iff rfl).1 h.2
    rw [pieces_nil] at hr
    simp [runesOf] at hr

theorem enc_size (r : Int) : (Utf8.encode r).size ≤ 4 := by
  unfold Utf8.encode
  simp only
  repeat' split
  all_goals exact Nat.le_of_ble_eq_true rfl

end Go.Proofs.Ytkjkejkodilbgaa
