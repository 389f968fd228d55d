/-
  Plain mathematics: what a quoted text's bytes are; a text that is cut.
-/
import Derived.Test.YthjcljgkgahglaaPureU
set_option linter.unusedVariables false
namespace Go.Proofs.Ythjcljgkgahglaa
open Go.Lib (decodeN decode_at)

/-- The first so many runes are the runes of the first part. -/
theorem pieces_take : ∀ (k : Nat) (l : List UInt8), pieces ((pieces l).take k).flatten = (pieces l).take k
  | 0, l => by simp [pieces_nil]
  | k + 1, l => by
    by_cases h : l = []
    · subst h; simp [pieces_nil]
    · have hw := dec_width l h
      have e := pieces_eq l h
      have ih := pieces_take k (l.drop (dec l).2)
      rw [e, List.take_succ_cons, List.flatten_cons]
      have hsplit : l = (l.take (dec l).2 ++ ((pieces (l.drop (dec l).2)).take k).flatten) ++ ((pieces (l.drop (dec l).2)).drop k).flatten := by
        rw [List.append_assoc, ← List.flatten_append, List.take_append_drop, pieces_flatten, List.take_append_drop]
      have hlen : (l.take (dec l).2).length = (dec l).2 := by simp; omega
      have hA : l.take (dec l).2 ++ ((pieces (l.drop (dec l).2)).take k).flatten ≠ [] := by
        intro h0; rw [(List.append_eq_nil_iff.1 h0).1] at hlen; simp at hlen; omega
      have hd : dec (l.take (dec l).2 ++ ((pieces (l.drop (dec l).2)).take k).flatten) = dec l := by
        have h1 := dec_short _ ((pieces (l.drop (dec l).2)).drop k).flatten hA (by rw [← hsplit, List.length_append, hlen]; omega)
        rw [← hsplit] at h1
        exact h1
      have e1 : (l.take (dec l).2 ++ ((pieces (l.drop (dec l).2)).take k).flatten).take (dec l).2 = l.take (dec l).2 := by
        rw [List.take_append_of_le_length (by rw [hlen]; exact Nat.le_refl _)]
        exact List.take_of_length_le (by rw [hlen]; exact Nat.le_refl _)
      have e2 : (l.take (dec l).2 ++ ((pieces (l.drop (dec l).2)).take k).flatten).drop (dec l).2 = ((pieces (l.drop (dec l).2)).take k).flatten := by
        rw [List.drop_append_of_le_length (by rw [hlen]; exact Nat.le_refl _), List.drop_eq_nil_of_le (by rw [hlen]; exact Nat.le_refl _), List.nil_append]
      rw [pieces_eq _ hA, hd, e1, e2, ih]

theorem pieces_drop : ∀ (k : Nat) (l : List UInt8), pieces ((pieces l).drop k).flatten = (pieces l).drop k
  | 0, l => by simp [pieces_flatten]
  | k + 1, l => by
    by_cases h : l = []
    · subst h; simp [pieces_nil]
    · rw [pieces_eq l h, List.drop_succ_cons]
      exact pieces_drop k _

theorem valid_flatten (cs : List (List UInt8)) (h : ∀ c ∈ cs, isPiece c ∧ bad c = false) : valid cs.flatten = true := by
  have := pieces_good_append cs [] h
  simp only [List.append_nil, pieces_nil] at this
  unfold valid
  rw [this, List.all_eq_true]
  intro c hc
  simp [(h c hc).2]

theorem good_ascii (b : UInt8) (h : b.toNat < 128) : isPiece [b] ∧ bad [b] = false := by
  have hd : dec [b] = (b.toNat, 1) := by rw [dec_one, if_pos h]
  exact ⟨⟨by simp, by rw [hd]; rfl, by simp⟩, by simp [bad]; omega⟩

theorem valid_qpiece {c : List UInt8} (h : isPiece c) : valid (qpiece c) = true := by
  have asc : ∀ l : List UInt8, (∀ b ∈ l, b.toNat < 128) → valid l = true := by
    intro l hl
    have := valid_flatten (l.map fun b => [b]) (fun d hd => by
      obtain ⟨b, hb, rfl⟩ := List.mem_map.1 hd
      exact good_ascii b (hl b hb))
    have e : (l.map fun b => [b]).flatten = l := by
      clear this hl
      induction l with
      | nil => rfl
      | cons x r ih => simp [ih]
    rwa [e] at this
  rcases qpiece_cases h with ⟨rfl, hq⟩ | ⟨rfl, hq⟩ | ⟨rfl, hq⟩ | ⟨x, rfl, hq⟩ | ⟨hq, hb, _⟩
  · rw [hq]; exact asc _ (by intro b hb; simp at hb; rcases hb with rfl | rfl <;> decide)
  · rw [hq]; exact asc _ (by intro b hb; simp at hb; subst hb; decide)
  · rw [hq]; exact asc _ (by intro b hb; simp at hb; rcases hb with rfl | rfl <;> decide)
  · rw [hq]
    have hx := UInt8.toNat_lt x
    exact asc _ (by
      intro b hb
      simp only [List.mem_cons, List.not_mem_nil, or_false] at hb
      rcases hb with rfl | rfl | rfl | rfl
      · decide
      · decide
      · exact hexB_ascii _ (by omega)
      · exact hexB_ascii _ (by omega))
  · rw [hq]
    have := valid_flatten [c] (fun d hd => by simp at hd; subst hd; exact ⟨h, hb⟩)
    simpa using this

theorem valid_flatMap (cs : List (List UInt8)) (h : ∀ c ∈ cs, isPiece c) : valid (cs.flatMap qpiece) = true := by
  induction cs with
  | nil => rfl
  | cons c r ih =>
    rw [List.flatMap_cons]
    exact valid_append _ _ (valid_qpiece (h c (by simp))) (ih fun d hd => h d (by simp [hd]))

theorem valid_quote (l : List UInt8) : valid (quote l) = true := by
  have h1 : valid [34] = true := valid_flatten [[34]] (fun d hd => by simp at hd; subst hd; exact good_ascii 34 (by decide))
  have := valid_append [34] (qbody l ++ [34]) h1 (valid_append _ _ (valid_flatMap _ (pieces_mem l)) h1)
  simpa [quote] using this

/-- Bytes that stand in one line, marks only behind a \. -/
def plainBytes (x : List UInt8) : Prop := ∀ i (h : i < x.length), 32 ≤ (x[i]'h).toNat ∧ (x[i]'h).toNat ≠ 127 ∧ ((x[i]'h) = 34 → 0 < i ∧ x.getD (i - 1) 0 = 92)

theorem plainBytes_append {a b : List UInt8} (ha : plainBytes a) (hb : plainBytes b) : plainBytes (a ++ b) := by
  intro i h
  by_cases hi : i < a.length
  · have := ha i hi
    rw [List.getElem_append_left hi]
    refine ⟨this.1, this.2.1, fun e => ?_⟩
    have h3 := this.2.2 e
    refine ⟨h3.1, ?_⟩
    rw [append_getD _ _ _ (by omega)]
    exact h3.2
  · have hi2 : i - a.length < b.length := by simp at h; omega
    have := hb (i - a.length) hi2
    rw [List.getElem_append_right (by omega)]
    refine ⟨this.1, this.2.1, fun e => ?_⟩
    have h3 := this.2.2 e
    refine ⟨by omega, ?_⟩
    have e2 : (a ++ b).getD (i - 1) 0 = b.getD (i - a.length - 1) 0 := by
      simp only [List.getD_eq_getElem?_getD]
      rw [List.getElem?_append_right (by omega), show i - 1 - a.length = i - a.length - 1 by omega]
    rw [e2]; exact h3.2

theorem hexB_plain (n : Nat) (h : n < 16) : 32 ≤ (hexB n).toNat ∧ (hexB n).toNat ≠ 127 ∧ hexB n ≠ 34 := by
  have key : ∀ m : Fin 16, 32 ≤ (hexB m.val).toNat ∧ (hexB m.val).toNat ≠ 127 ∧ hexB m.val ≠ 34 := by decide
  exact key ⟨n, h⟩

theorem plainBytes_of {x : List UInt8} (h : ∀ b ∈ x, 32 ≤ b.toNat ∧ b.toNat ≠ 127 ∧ b ≠ 34) : plainBytes x := by
  intro i hi
  have := h _ (List.getElem_mem hi)
  exact ⟨this.1, this.2.1, fun e => absurd e this.2.2⟩

theorem plainBytes_qpiece {c : List UInt8} (h : isPiece c) : plainBytes (qpiece c) := by
  rcases qpiece_cases h with ⟨rfl, hq⟩ | ⟨rfl, hq⟩ | ⟨rfl, hq⟩ | ⟨x, rfl, hq⟩ | ⟨hq, hb, h92, h34, h32, h127⟩
  · rw [hq]
    intro i hi
    match i, hi with
    | 0, _ =>
      refine ⟨?_, ?_, ?_⟩
      · show 32 ≤ (92 : UInt8).toNat; decide
      · show (92 : UInt8).toNat ≠ 127; decide
      · show (92 : UInt8) = 34 → _; intro e; exact absurd e (by decide)
    | 1, _ =>
      refine ⟨?_, ?_, fun _ => ⟨by omega, rfl⟩⟩
      · show 32 ≤ (34 : UInt8).toNat; decide
      · show (34 : UInt8).toNat ≠ 127; decide
  · rw [hq]; exact plainBytes_of (by intro b hb; simp at hb; subst hb; decide)
  · rw [hq]; exact plainBytes_of (by intro b hb; simp at hb; rcases hb with rfl | rfl <;> decide)
  · rw [hq]
    have hx := UInt8.toNat_lt x
    exact plainBytes_of (by
      intro b hb
      simp only [List.mem_cons, List.not_mem_nil, or_false] at hb
      rcases hb with rfl | rfl | rfl | rfl
      · decide
      · decide
      · exact hexB_plain _ (by omega)
      · exact hexB_plain _ (by omega))
  · rw [hq]
    apply plainBytes_of
    intro b hbm
    by_cases hr : (dec c).1 < 128
    · have hs := (piece_small h hr).1
      rw [hs] at hbm
      simp only [List.mem_cons, List.not_mem_nil, or_false] at hbm
      have hu := toU8_ofNat (dec c).1 (by omega)
      rw [hbm]
      refine ⟨by omega, by omega, ?_⟩
      intro e
      have : (dec c).1.toUInt8.toNat = 34 := by rw [e]; rfl
      omega
    · have hlen := piece_rune_ge h (by omega) hb
      have hconts := piece_conts h
      have hhi : 128 ≤ b.toNat := by
        match c, h.1 with
        | b0 :: r, _ =>
          rcases List.mem_cons.1 hbm with rfl | hm
          · apply Nat.le_of_not_lt
            intro hlt
            have := dec_ascii b r hlt
            have hw := h.2.1
            rw [this] at hw
            simp at hw hlen
            rw [hw] at hlen
            simp at hlen
          · have := hconts b (by simpa using hm)
            omega
      refine ⟨by omega, by omega, ?_⟩
      intro e; rw [e] at hhi; simp at hhi

theorem plainBytes_qbody (l : List UInt8) : plainBytes (qbody l) := by
  have : ∀ cs : List (List UInt8), (∀ c ∈ cs, isPiece c) → plainBytes (cs.flatMap qpiece) := by
    intro cs h
    induction cs with
    | nil => intro i hi; simp at hi
    | cons c r ih =>
      rw [List.flatMap_cons]
      exact plainBytes_append (plainBytes_qpiece (h c (by simp))) (ih fun d hd => h d (by simp [hd]))
  exact this _ (pieces_mem l)

/-- What the law asks of a quoted text's bytes. -/
theorem quote_bytes (l : List UInt8) (i : Nat) (h : i < (quote l).length) :
    32 ≤ ((quote l)[i]'h).toNat ∧ ((quote l)[i]'h).toNat ≠ 127 ∧ ((quote l)[i]'h = 34 → i = 0 ∨ i = (quote l).length - 1 ∨ (0 < i ∧ (quote l).getD (i - 1) 0 = 92)) := by
  have hb := plainBytes_qbody l
  have hlen : (quote l).length = (qbody l).length + 2 := by simp [quote]
  cases i with
  | zero => exact ⟨by show 32 ≤ (34 : UInt8).toNat; decide, by show (34 : UInt8).toNat ≠ 127; decide, fun _ => Or.inl rfl⟩
  | succ i =>
    have e : (quote l)[i + 1]'h = (qbody l ++ [34])[i]'(by simp; omega) := rfl
    rw [e]
    by_cases hi : i < (qbody l).length
    · rw [List.getElem_append_left hi]
      have := hb i hi
      refine ⟨this.1, this.2.1, fun e => Or.inr (Or.inr ⟨by omega, ?_⟩)⟩
      obtain ⟨h1, h2⟩ := this.2.2 e
      obtain ⟨j, rfl⟩ : ∃ j, i = j + 1 := ⟨i - 1, by omega⟩
      show (quote l).getD (j + 1) 0 = 92
      show (qbody l ++ [34]).getD j 0 = 92
      rw [append_getD _ _ _ (by omega)]
      simpa using h2
    · have hii : i = (qbody l).length := by omega
      subst hii
      rw [List.getElem_append_right (by omega)]
      simp only [Nat.sub_self, List.getElem_cons_zero]
      exact ⟨by decide, by decide, fun _ => Or.inr (Or.inl (by omega))⟩

end Go.Proofs.Ythjcljgkgahglaa
