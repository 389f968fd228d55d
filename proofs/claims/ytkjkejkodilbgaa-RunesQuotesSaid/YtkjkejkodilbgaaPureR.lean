/-
  Plain mathematics: what the reference reads of a quoted text, byte for byte.
-/
import Derived.Test.YtkjkejkodilbgaaPureU
set_option linter.unusedVariables false
namespace Go.Proofs.Ytkjkejkodilbgaa
open Go.Lib (decodeN decode_at)

/-- What the reference's Unquote reads of the bytes between the marks. -/
def rparF : Nat → List UInt8 → Option (List UInt8)
  | 0, _ => some []
  | _ + 1, [] => some []
  | f + 1, c :: r =>
    if c = 92 then
      match r with
      | [] => none
      | d :: r =>
        if d = 110 then (rparF f r).map (10 :: ·)
        else if d = 120 then
          match r with
          | x :: y :: r => match hexV x, hexV y with
            | some m, some n => (rparF f r).map ((m * 16 + n).toUInt8 :: ·)
            | _, _ => none
          | _ => none
        else (rparF f r).map (d :: ·)
    else (rparF f r).map (c :: ·)

theorem rparF_nil (f : Nat) : rparF f [] = some [] := by cases f <;> rfl
theorem rparF_lit (f : Nat) (c : UInt8) (r : List UInt8) (h : c ≠ 92) : rparF (f + 1) (c :: r) = (rparF f r).map (c :: ·) := by
  show (if c = 92 then _ else (rparF f r).map (c :: ·)) = _
  rw [if_neg h]
theorem rparF_end (f : Nat) : rparF (f + 1) [92] = none := rfl
theorem rparF_n (f : Nat) (r : List UInt8) : rparF (f + 1) (92 :: 110 :: r) = (rparF f r).map (10 :: ·) := rfl
theorem rparF_x (f : Nat) (x y : UInt8) (r : List UInt8) (m n : Nat) (hx : hexV x = some m) (hy : hexV y = some n) : rparF (f + 1) (92 :: 120 :: x :: y :: r) = (rparF f r).map ((m * 16 + n).toUInt8 :: ·) := by
  show (match hexV x, hexV y with | some m, some n => (rparF f r).map ((m * 16 + n).toUInt8 :: ·) | _, _ => none) = _
  rw [hx, hy]
theorem rparF_x0 (f : Nat) (x y : UInt8) (r : List UInt8) (h : hexV x = none ∨ hexV y = none) : rparF (f + 1) (92 :: 120 :: x :: y :: r) = none := by
  show (match hexV x, hexV y with | some m, some n => (rparF f r).map ((m * 16 + n).toUInt8 :: ·) | _, _ => none) = _
  rcases h with h | h
  · rw [h]
  · rw [h]; cases hexV x <;> rfl
theorem rparF_xs (f : Nat) (r : List UInt8) (h : r.length < 2) : rparF (f + 1) (92 :: 120 :: r) = none := by
  match r, h with
  | [], _ => rfl
  | [_], _ => rfl
theorem rparF_other (f : Nat) (d : UInt8) (r : List UInt8) (h1 : d ≠ 110) (h2 : d ≠ 120) : rparF (f + 1) (92 :: d :: r) = (rparF f r).map (d :: ·) := by
  show (if d = 110 then _ else if d = 120 then _ else _) = _
  rw [if_neg h1, if_neg h2]

theorem rparF_lits : ∀ (c : List UInt8) (f : Nat) (m : List UInt8), (∀ b ∈ c, b ≠ 92) → c.length ≤ f → rparF f (c ++ m) = (rparF (f - c.length) m).map (c ++ ·)
  | [], f, m, _, _ => by simp
  | b :: r, f, m, h, hf => by
    obtain ⟨g, rfl⟩ : ∃ g, f = g + 1 := ⟨f - 1, by simp at hf; omega⟩
    rw [List.cons_append, rparF_lit g b _ (h b (by simp)), rparF_lits r g m (fun d hd => h d (by simp [hd])) (by simp at hf; omega)]
    simp [Function.comp_def]

/-- A rune that stands for itself has no \ in it. -/
theorem piece_no92 {c : List UInt8} (h : isPiece c) (hb : bad c = false) (h92 : (dec c).1 ≠ 92) : ∀ b ∈ c, b ≠ 92 := by
  intro b hbm
  by_cases hr : (dec c).1 < 128
  · have hs := (piece_small h hr).1
    rw [hs] at hbm
    simp only [List.mem_cons, List.not_mem_nil, or_false] at hbm
    have hu := toU8_ofNat (dec c).1 (by omega)
    rw [hbm]
    intro e
    have : (dec c).1.toUInt8.toNat = 92 := by rw [e]; rfl
    omega
  · have hlen := piece_rune_ge h (by omega) hb
    have hconts := piece_conts h
    have hhi : 128 ≤ b.toNat := by
      match c, h.1 with
      | b0 :: r, _ =>
        rcases List.mem_cons.1 hbm with rfl | hm
        · apply Nat.le_of_not_lt
          intro hlt
          have := dec_ascii b r hlt
          have hw := h.2.1
          rw [this] at hw
          simp at hw hlen
          rw [hw] at hlen
          simp at hlen
        · have := hconts b (by simpa using hm)
          omega
    intro e; rw [e] at hhi; simp at hhi

theorem rparF_qpiece (f : Nat) (c m : List UInt8) (h : isPiece c) (hf : (qpiece c).length ≤ f) : ∃ f', f ≤ f' + (qpiece c).length ∧ rparF f (qpiece c ++ m) = (rparF f' m).map (c ++ ·) := by
  have hpos := qpiece_pos h
  obtain ⟨g, rfl⟩ : ∃ g, f = g + 1 := ⟨f - 1, by omega⟩
  rcases qpiece_cases h with ⟨rfl, hq⟩ | ⟨rfl, hq⟩ | ⟨rfl, hq⟩ | ⟨x, rfl, hq⟩ | ⟨hq, hb, h92, _⟩
  · refine ⟨g, by omega, ?_⟩
    rw [hq]; exact rparF_other g 34 m (by decide) (by decide)
  · refine ⟨g, by omega, ?_⟩
    rw [hq]; exact rparF_other g 92 m (by decide) (by decide)
  · refine ⟨g, by omega, ?_⟩
    rw [hq]; exact rparF_n g m
  · refine ⟨g, by omega, ?_⟩
    have hx := UInt8.toNat_lt x
    rw [hq]
    have := rparF_x g (hexB (x.toNat / 16)) (hexB (x.toNat % 16)) m _ _ (hexV_hexB _ (by omega)) (hexV_hexB _ (by omega))
    rw [toU8_eq x (x.toNat / 16 * 16 + x.toNat % 16) (by omega)] at this
    exact this
  · refine ⟨g + 1 - c.length, by rw [hq] at hf ⊢; omega, ?_⟩
    rw [hq]
    exact rparF_lits c (g + 1) m (piece_no92 h hb h92) (by rw [hq] at hf; exact hf)

theorem rparF_quoted (cs : List (List UInt8)) (h : ∀ c ∈ cs, isPiece c) : ∀ f, (cs.flatMap qpiece).length ≤ f → rparF f (cs.flatMap qpiece) = some cs.flatten := by
  induction cs with
  | nil => intro f _; simpa using rparF_nil f
  | cons c r ih =>
    intro f hf
    simp only [List.flatMap_cons, List.length_append] at hf
    obtain ⟨f', h1, h2⟩ := rparF_qpiece f c (r.flatMap qpiece) (h c (by simp)) (by omega)
    rw [List.flatMap_cons, h2, ih (fun d hd => h d (by simp [hd])) f' (by omega)]
    simp

theorem rparF_qbody (u : List UInt8) : rparF (qbody u).length (qbody u) = some u := by
  have h := rparF_quoted (pieces u) (pieces_mem u) (qbody u).length (Nat.le_refl _)
  rw [pieces_flatten] at h
  exact h

theorem rparF_len : ∀ (f : Nat) (l t : List UInt8), rparF f l = some t → t.length ≤ l.length
  | 0, l, t, h => by simp [rparF] at h; subst h; simp
  | f + 1, [], t, h => by simp [rparF] at h; subst h; simp
  | f + 1, c :: r, t, h => by
    have step : ∀ (x : UInt8) (m : List UInt8), (rparF f m).map (x :: ·) = some t → t.length ≤ m.length + 1 := by
      intro x m hm
      obtain ⟨u, hu, rfl⟩ := Option.map_eq_some_iff.1 hm
      have := rparF_len f _ _ hu
      simp; omega
    by_cases hc : c = 92
    · subst hc
      match r with
      | [] => simp [rparF] at h
      | d :: r =>
        by_cases h1 : d = 110
        · subst h1; rw [rparF_n] at h; have := step _ _ h; simp; omega
        · by_cases h2 : d = 120
          · subst h2
            match r with
            | [] => simp [rparF] at h
            | [_] => simp [rparF] at h
            | x :: y :: r =>
              cases hx : hexV x with
              | none => rw [rparF_x0 f x y r (Or.inl hx)] at h; simp at h
              | some m =>
                cases hy : hexV y with
                | none => rw [rparF_x0 f x y r (Or.inr hy)] at h; simp at h
                | some n => rw [rparF_x f x y r m n hx hy] at h; have := step _ _ h; simp; omega
          · rw [rparF_other f d r h1 h2] at h; have := step _ _ h; simp; omega
    · rw [rparF_lit f c r hc] at h; have := step _ _ h; simp; omega

/-- A text that was read and is quoted so: it's the one; and one that isn't quoted so: there's none. -/
theorem unq_read {l m t : List UInt8} (hl : l = 34 :: (m ++ [34])) (h : rparF m.length m = some t) : unq l = if quote t = l then some t else none := by
  by_cases e : quote t = l
  · rw [if_pos e, unq_some e]
  · rw [if_neg e]
    apply unq_none
    intro u hu
    have : m = qbody u := by
      rw [hl] at hu
      unfold quote at hu
      simp only [List.cons.injEq, true_and, List.append_cancel_right_eq] at hu
      exact hu.symm
    rw [this, rparF_qbody] at h
    cases h
    exact e hu

theorem unq_unread {l m : List UInt8} (hl : l = 34 :: (m ++ [34])) (h : rparF m.length m = none) : unq l = none := by
  apply unq_none
  intro u hu
  have : m = qbody u := by
    rw [hl] at hu
    unfold quote at hu
    simp only [List.cons.injEq, true_and, List.append_cancel_right_eq] at hu
    exact hu.symm
  rw [this, rparF_qbody] at h
  cases h

end Go.Proofs.Ytkjkejkodilbgaa
