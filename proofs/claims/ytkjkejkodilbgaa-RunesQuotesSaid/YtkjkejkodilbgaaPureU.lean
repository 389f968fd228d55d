/-
  Plain mathematics: a quoted text is read again.
-/
import Derived.Test.YtkjkejkodilbgaaPureJ
set_option linter.unusedVariables false
namespace Go.Proofs.Ytkjkejkodilbgaa
open Go.Lib (decodeN decode_at)

/-- The value of a small hex digit. -/
def hexV (b : UInt8) : Option Nat :=
  if 48 ≤ b.toNat ∧ b.toNat ≤ 57 then some (b.toNat - 48) else if 97 ≤ b.toNat ∧ b.toNat ≤ 102 then some (b.toNat - 87) else none

theorem hexV_lt {b : UInt8} {n : Nat} (h : hexV b = some n) : n < 16 := by
  unfold hexV at h
  split at h
  · simp at h; omega
  · split at h
    · simp at h; omega
    · simp at h

theorem hexV_hexB (n : Nat) (h : n < 16) : hexV (hexB n) = some n := by
  have key : ∀ m : Fin 16, hexV (hexB m.val) = some m.val := by decide
  exact key ⟨n, h⟩

theorem hexB_ascii (n : Nat) (h : n < 16) : (hexB n).toNat < 128 := by
  have key : ∀ m : Fin 16, (hexB m.val).toNat < 128 := by decide
  exact key ⟨n, h⟩

/-- The byte for which a \ stands, with what follows it, and how many bytes these are. -/
def escF : List UInt8 → Option (UInt8 × Nat)
  | _ :: b :: r =>
    if b = 34 ∨ b = 92 then some (b, 2)
    else if b = 110 then some (10, 2)
    else if b = 120 then
      match r with
      | h :: l :: _ => match hexV h, hexV l with
        | some x, some y => some ((x * 16 + y).toUInt8, 4)
        | _, _ => none
      | _ => none
    else none
  | _ => none

/-- What plain tells of a text, k bytes of it passed over. -/
def plainF : Nat → Nat → List UInt8 → Option (List UInt8)
  | 0, _, _ => some []
  | f + 1, k, l =>
    if l = [] then some []
    else if 0 < k then plainF f (k - (dec l).2) (l.drop (dec l).2)
    else if (dec l).1 = 92 then
      match escF l with
      | none => none
      | some (c, n) => (plainF f (n - (dec l).2) (l.drop (dec l).2)).map (c :: ·)
    else if bad (l.take (dec l).2) = true then none
    else (plainF f 0 (l.drop (dec l).2)).map (l.take (dec l).2 ++ ·)

theorem plainF_succ (f k : Nat) (l : List UInt8) : plainF (f + 1) k l = if l = [] then some []
    else if 0 < k then plainF f (k - (dec l).2) (l.drop (dec l).2)
    else if (dec l).1 = 92 then
      match escF l with
      | none => none
      | some (c, n) => (plainF f (n - (dec l).2) (l.drop (dec l).2)).map (c :: ·)
    else if bad (l.take (dec l).2) = true then none
    else (plainF f 0 (l.drop (dec l).2)).map (l.take (dec l).2 ++ ·) := rfl

theorem dec_ascii (b : UInt8) (r : List UInt8) (h : b.toNat < 128) : dec (b :: r) = (b.toNat, 1) := by
  rw [dec_cons]; simp [decodeN, h]

theorem plainF_skip1 (f k : Nat) (b : UInt8) (r : List UInt8) (h : b.toNat < 128) : plainF (f + 1) (k + 1) (b :: r) = plainF f k r := by
  simp [plainF, dec_ascii b r h]

theorem plainF_esc (f : Nat) (r : List UInt8) (c : UInt8) (n : Nat) (he : escF (92 :: r) = some (c, n)) : plainF (f + 1) 0 (92 :: r) = (plainF f (n - 1) r).map (c :: ·) := by
  have hd := dec_ascii 92 r (by decide)
  have e : (dec (92 :: r)).1 = 92 := by rw [hd]; rfl
  have e2 : (dec (92 :: r)).2 = 1 := by rw [hd]
  rw [plainF_succ, if_neg (by simp), if_neg (by omega), if_pos e, he, e2]
  rfl

theorem plainF_piece (f : Nat) (c m : List UInt8) (hc : isPiece c) (hb : bad c = false) (h92 : (dec c).1 ≠ 92) : plainF (f + 1) 0 (c ++ m) = (plainF f 0 m).map (c ++ ·) := by
  have hd := dec_ahead c m hc.1 hc.2.1 hb
  have hne : c ++ m ≠ [] := by simp [hc.1]
  have ht : (c ++ m).take (dec (c ++ m)).2 = c := by rw [hd, hc.2.1]; simp
  have hdr : (c ++ m).drop (dec (c ++ m)).2 = m := by rw [hd, hc.2.1]; simp
  rw [plainF_succ, if_neg hne, if_neg (by omega), if_neg (by rw [hd]; exact h92), if_neg (by rw [ht, hb]; simp), ht, hdr]

/-- How a piece stands in a quoted text. -/
theorem qpiece_cases {c : List UInt8} (h : isPiece c) :
    (c = [34] ∧ qpiece c = [92, 34]) ∨ (c = [92] ∧ qpiece c = [92, 92]) ∨ (c = [10] ∧ qpiece c = [92, 110]) ∨
    (∃ x : UInt8, c = [x] ∧ qpiece c = [92, 120, hexB (x.toNat / 16), hexB (x.toNat % 16)]) ∨
    (qpiece c = c ∧ bad c = false ∧ (dec c).1 ≠ 92 ∧ (dec c).1 ≠ 34 ∧ ¬ (dec c).1 < 32 ∧ (dec c).1 ≠ 127) := by
  by_cases h34 : (dec c).1 = 34
  · left; exact ⟨by have := (piece_small h (by omega)).1; rw [h34] at this; exact this, qpiece_34 h h34⟩
  by_cases h92 : (dec c).1 = 92
  · right; left; exact ⟨by have := (piece_small h (by omega)).1; rw [h92] at this; exact this, qpiece_92 h h92⟩
  by_cases h10 : (dec c).1 = 10
  · right; right; left; exact ⟨by have := (piece_small h (by omega)).1; rw [h10] at this; exact this, qpiece_10 h h10⟩
  by_cases hlow : (dec c).1 < 32 ∨ (dec c).1 = 127 ∨ bad c = true
  · right; right; right; left
    have hq := qpiece_low h hlow h10
    by_cases hb : bad c = true
    · obtain ⟨_, x, rfl, _⟩ := piece_bad h hb
      exact ⟨x, rfl, hq⟩
    · have := (piece_small h (by rcases hlow with h | h | h; omega; omega; exact absurd h hb)).1
      generalize (dec c).1.toUInt8 = x at this
      subst this
      exact ⟨x, rfl, hq⟩
  · right; right; right; right
    have hb : bad c = false := by
      cases hb : bad c with
      | false => rfl
      | true => exact absurd (Or.inr (Or.inr hb)) hlow
    refine ⟨qpiece_else h h34 h92 (by omega) (by omega) hb, hb, h92, h34, by omega, by omega⟩

theorem plainF_qpiece (f : Nat) (c m : List UInt8) (h : isPiece c) (hf : 4 ≤ f) : ∃ f', f ≤ f' + 4 ∧ f' < f ∧ plainF f 0 (qpiece c ++ m) = (plainF f' 0 m).map (c ++ ·) := by
  obtain ⟨g, rfl⟩ : ∃ g, f = g + 4 := ⟨f - 4, by omega⟩
  rcases qpiece_cases h with ⟨rfl, hq⟩ | ⟨rfl, hq⟩ | ⟨rfl, hq⟩ | ⟨x, rfl, hq⟩ | ⟨hq, hb, h92, _⟩
  · refine ⟨g + 2, by omega, by omega, ?_⟩
    rw [hq]
    show plainF (g + 3 + 1) 0 (92 :: 34 :: m) = _
    rw [plainF_esc (g + 3) (34 :: m) 34 2 (by simp [escF])]
    show (plainF (g + 2 + 1) (0 + 1) (34 :: m)).map _ = _
    rw [plainF_skip1 _ _ _ _ (by decide)]
    rfl
  · refine ⟨g + 2, by omega, by omega, ?_⟩
    rw [hq]
    show plainF (g + 3 + 1) 0 (92 :: 92 :: m) = _
    rw [plainF_esc (g + 3) (92 :: m) 92 2 (by simp [escF])]
    show (plainF (g + 2 + 1) (0 + 1) (92 :: m)).map _ = _
    rw [plainF_skip1 _ _ _ _ (by decide)]
    rfl
  · refine ⟨g + 2, by omega, by omega, ?_⟩
    rw [hq]
    show plainF (g + 3 + 1) 0 (92 :: 110 :: m) = _
    rw [plainF_esc (g + 3) (110 :: m) 10 2 (by simp [escF])]
    show (plainF (g + 2 + 1) (0 + 1) (110 :: m)).map _ = _
    rw [plainF_skip1 _ _ _ _ (by decide)]
    rfl
  · refine ⟨g, by omega, by omega, ?_⟩
    rw [hq]
    have hx := UInt8.toNat_lt x
    have e1 := hexV_hexB (x.toNat / 16) (by omega)
    have e2 := hexV_hexB (x.toNat % 16) (by omega)
    have hv : (x.toNat / 16 * 16 + x.toNat % 16).toUInt8 = x := toU8_eq x _ (by omega)
    show plainF (g + 3 + 1) 0 (92 :: 120 :: hexB (x.toNat / 16) :: hexB (x.toNat % 16) :: m) = _
    rw [plainF_esc (g + 3) _ x 4 (by simp only [escF, e1, e2, hv]; simp)]
    show (plainF (g + 2 + 1) (2 + 1) (120 :: _)).map _ = _
    rw [plainF_skip1 _ _ _ _ (by decide)]
    show (plainF (g + 1 + 1) (1 + 1) _).map _ = _
    rw [plainF_skip1 _ _ _ _ (hexB_ascii _ (by omega))]
    show (plainF (g + 1) (0 + 1) _).map _ = _
    rw [plainF_skip1 _ _ _ _ (hexB_ascii _ (by omega))]
    rfl
  · refine ⟨g + 3, by omega, by omega, ?_⟩
    rw [hq, plainF_piece (g + 3) c m h hb h92]

theorem plainF_quoted (cs : List (List UInt8)) (h : ∀ c ∈ cs, isPiece c) : ∀ f, 4 * cs.length ≤ f → plainF f 0 (cs.flatMap qpiece) = some cs.flatten := by
  induction cs with
  | nil => intro f hf; cases f <;> simp [plainF]
  | cons c r ih =>
    intro f hf
    simp only [List.length_cons] at hf
    obtain ⟨f', h1, h2, h3⟩ := plainF_qpiece f c (r.flatMap qpiece) (h c (by simp)) (by omega)
    rw [List.flatMap_cons, h3, ih (fun d hd => h d (by simp [hd])) f' (by omega)]
    simp

theorem qpiece_pos {c : List UInt8} (h : isPiece c) : 1 ≤ (qpiece c).length := by
  rcases qpiece_cases h with ⟨rfl, hq⟩ | ⟨rfl, hq⟩ | ⟨rfl, hq⟩ | ⟨x, rfl, hq⟩ | ⟨hq, _⟩
  · rw [hq]; simp
  · rw [hq]; simp
  · rw [hq]; simp
  · rw [hq]; simp
  · rw [hq]; exact List.length_pos_iff.2 h.1

theorem flatMap_ge (cs : List (List UInt8)) (h : ∀ c ∈ cs, isPiece c) : cs.length ≤ (cs.flatMap qpiece).length := by
  induction cs with
  | nil => simp
  | cons c r ih =>
    have h1 := qpiece_pos (h c (by simp))
    have h2 := ih (fun d hd => h d (by simp [hd]))
    simp only [List.flatMap_cons, List.length_append, List.length_cons]
    omega

/-- What plain tells of a text. -/
def plainL (l : List UInt8) : Option (List UInt8) := plainF (4 * l.length + 4) 0 l

theorem plainL_quoted (u : List UInt8) : plainL (qbody u) = some u := by
  have h := plainF_quoted (pieces u) (pieces_mem u) (4 * (qbody u).length + 4) (by have := flatMap_ge (pieces u) (pieces_mem u); unfold qbody; omega)
  rw [pieces_flatten] at h
  exact h

/-- Two texts are quoted unlike. -/
theorem quote_inj {a b : List UInt8} (h : quote a = quote b) : a = b := by
  unfold quote at h
  simp only [List.cons.injEq, true_and, List.append_cancel_right_eq] at h
  have h1 := plainL_quoted a
  rw [h, plainL_quoted b] at h1
  exact (Option.some.inj h1).symm

/-- The text that is quoted so. -/
noncomputable def unq (l : List UInt8) : Option (List UInt8) := open Classical in if h : ∃ t, quote t = l then some (Classical.choose h) else none

theorem unq_some {l t : List UInt8} (h : quote t = l) : unq l = some t := by
  unfold unq
  have hx : ∃ t, quote t = l := ⟨t, h⟩
  rw [dif_pos hx]
  exact congrArg some (quote_inj ((Classical.choose_spec hx).trans h.symm))
theorem unq_none {l : List UInt8} (h : ∀ t, quote t ≠ l) : unq l = none := by
  unfold unq
  rw [dif_neg (by rintro ⟨t, ht⟩; exact h t ht)]

end Go.Proofs.Ytkjkejkodilbgaa
