/-
  Stamps' texts, plainly: unlike stamps are written unlike; a stamp that may be is read of its own text, and of no other one.
-/
import Derived.Test.YtijnmhiiojkcgaaDoorStI
set_option linter.unusedVariables false
namespace Go.Proofs.YtijnmhiiojkcgaaDoor
open Go.RowKit

theorem dig_toNat (d : Nat) (h : d < 10) : (UInt8.ofNat (48 + d)).toNat = 48 + d := by
  rw [UInt8.toNat_ofNat']
  omega
theorem dec_digit : ∀ (k u : Nat), u ≤ k → ∀ c ∈ Lib.decDigits u, 48 ≤ c.toNat ∧ c.toNat ≤ 57 := by
  intro k
  induction k with
  | zero =>
    intro u hu c hc
    rw [Lib.decDigits_one (by omega)] at hc
    obtain rfl := List.mem_singleton.1 hc
    rw [dig_toNat _ (by omega)]
    omega
  | succ k ih =>
    intro u hu c hc
    rw [Lib.decDigits] at hc
    by_cases h10 : u < 10
    · rw [dif_pos h10] at hc
      obtain rfl := List.mem_singleton.1 hc
      rw [dig_toNat _ h10]
      omega
    · rw [dif_neg h10] at hc
      rcases List.mem_append.1 hc with h | h
      · exact ih (u / 10) (by omega) c h
      · obtain rfl := List.mem_singleton.1 h
        rw [dig_toNat _ (by omega)]
        omega
def dval (l : List UInt8) : Nat := l.foldl (fun a c => 10 * a + (c.toNat - 48)) 0
theorem dval_dec : ∀ (k u : Nat), u ≤ k → dval (Lib.decDigits u) = u := by
  intro k
  induction k with
  | zero =>
    intro u hu
    rw [Lib.decDigits_one (by omega)]
    unfold dval
    simp only [List.foldl_cons, List.foldl_nil]
    rw [dig_toNat _ (by omega)]
    omega
  | succ k ih =>
    intro u hu
    rw [Lib.decDigits]
    by_cases h10 : u < 10
    · rw [dif_pos h10]
      unfold dval
      simp only [List.foldl_cons, List.foldl_nil]
      rw [dig_toNat _ h10]
      omega
    · rw [dif_neg h10]
      have := ih (u / 10) (by omega)
      unfold dval at this ⊢
      rw [List.foldl_append, this]
      simp only [List.foldl_cons, List.foldl_nil]
      rw [dig_toNat _ (by omega)]
      omega
theorem dec_inj {u v : Nat} (h : Lib.decDigits u = Lib.decDigits v) : u = v := by
  have h1 := dval_dec u u (Nat.le_refl _)
  have h2 := dval_dec v v (Nat.le_refl _)
  rw [h] at h1
  omega
theorem itoa_sign (n : Int) : ∀ c ∈ Lib.itoa n, c.toNat = 45 ∨ (48 ≤ c.toNat ∧ c.toNat ≤ 57) := by
  intro c hc
  unfold Lib.itoa at hc
  by_cases hn : n < 0
  · rw [if_pos hn] at hc
    rcases List.mem_cons.1 hc with rfl | h
    · exact .inl rfl
    · exact .inr (dec_digit _ _ (Nat.le_refl _) c h)
  · rw [if_neg hn] at hc
    exact .inr (dec_digit _ _ (Nat.le_refl _) c hc)
theorem dec_ne (u v : Nat) : ¬ (45 : UInt8) :: Lib.decDigits u = Lib.decDigits v := by
  intro h
  have := dec_digit v v (Nat.le_refl _) 45 (by rw [← h]; exact List.mem_cons_self)
  have e : (45 : UInt8).toNat = 45 := rfl
  omega
theorem itoa_inj {m n : Int} (h : Lib.itoa m = Lib.itoa n) : m = n := by
  unfold Lib.itoa at h
  by_cases hm : m < 0 <;> by_cases hn : n < 0
  · rw [if_pos hm, if_pos hn] at h
    have := dec_inj (List.cons.inj h).2
    omega
  · rw [if_pos hm, if_neg hn] at h
    exact absurd h (dec_ne _ _)
  · rw [if_neg hm, if_pos hn] at h
    exact absurd h.symm (dec_ne _ _)
  · rw [if_neg hm, if_neg hn] at h
    have := dec_inj h
    omega
theorem split_at {c : UInt8} : ∀ {a b r t : List UInt8}, c ∉ a → c ∉ b → a ++ c :: r = b ++ c :: t → a = b ∧ r = t := by
  intro a
  induction a with
  | nil =>
    intro b r t ha hb h
    cases b with
    | nil => exact ⟨rfl, (List.cons.inj h).2⟩
    | cons y b =>
      have := (List.cons.inj h).1
      subst this
      exact absurd List.mem_cons_self hb
  | cons x a ih =>
    intro b r t ha hb h
    cases b with
    | nil =>
      have := (List.cons.inj h).1
      subst this
      exact absurd List.mem_cons_self ha
    | cons y b =>
      obtain ⟨h1, h2⟩ := List.cons.inj h
      obtain ⟨h3, h4⟩ := ih (fun h => ha (List.mem_cons_of_mem _ h)) (fun h => hb (List.mem_cons_of_mem _ h)) h2
      exact ⟨by rw [h1, h3], h4⟩
theorem no46 (n : Int) : (46 : UInt8) ∉ Lib.itoa n := fun h => by
  have := itoa_sign n _ h
  have e : (46 : UInt8).toNat = 46 := rfl
  omega
theorem no64 (n : Int) : (64 : UInt8) ∉ Lib.itoa n := fun h => by
  have := itoa_sign n _ h
  have e : (64 : UInt8).toNat = 64 := rfl
  omega
theorem textL_inj {a b : Sm} (h : textL a = textL b) : a = b := by
  unfold textL at h
  obtain ⟨h1, h2⟩ := split_at (no46 _) (no46 _) h
  obtain ⟨h3, h4⟩ := split_at (no64 _) (no64 _) h2
  exact Sm.ext' (itoa_inj h1) (itoa_inj h3) (itoa_inj h4)

theorem run_dec0 (y z : Int) : ∀ (k u : Nat), u ≤ k → u ≤ 1125899906842624 → run (some ⟨0, y, z, 0⟩) (Lib.decDigits u) = some ⟨(u : Int), y, z, 0⟩ := by
  intro k
  induction k with
  | zero =>
    intro u hu hm
    rw [Lib.decDigits_one (by omega), run_cons, dig_toNat _ (by omega), stp0, if_pos (by omega)]
    show some _ = some _
    congr 2
    omega
  | succ k ih =>
    intro u hu hm
    rw [Lib.decDigits]
    by_cases h10 : u < 10
    · rw [dif_pos h10, run_cons, dig_toNat _ h10, stp0, if_pos (by omega)]
      show some _ = some _
      congr 2
      omega
    · rw [dif_neg h10, run_append, ih (u / 10) (by omega) (by omega), run_cons, dig_toNat _ (by omega), stp0, if_pos (by omega)]
      show some _ = some _
      congr 2
      omega
theorem run_dec1 (x z : Int) : ∀ (k u : Nat), u ≤ k → u ≤ 1125899906842624 → run (some ⟨x, 0, z, 1⟩) (Lib.decDigits u) = some ⟨x, (u : Int), z, 1⟩ := by
  intro k
  induction k with
  | zero =>
    intro u hu hm
    rw [Lib.decDigits_one (by omega), run_cons, dig_toNat _ (by omega), stp1, if_pos (by omega)]
    show some _ = some _
    congr 2
    omega
  | succ k ih =>
    intro u hu hm
    rw [Lib.decDigits]
    by_cases h10 : u < 10
    · rw [dif_pos h10, run_cons, dig_toNat _ h10, stp1, if_pos (by omega)]
      show some _ = some _
      congr 2
      omega
    · rw [dif_neg h10, run_append, ih (u / 10) (by omega) (by omega), run_cons, dig_toNat _ (by omega), stp1, if_pos (by omega)]
      show some _ = some _
      congr 2
      omega
theorem run_dec2 (x y : Int) : ∀ (k u : Nat), u ≤ k → u ≤ 1125899906842624 → run (some ⟨x, y, 0, 2⟩) (Lib.decDigits u) = some ⟨x, y, (u : Int), 2⟩ := by
  intro k
  induction k with
  | zero =>
    intro u hu hm
    rw [Lib.decDigits_one (by omega), run_cons, dig_toNat _ (by omega), stp2, if_pos (by omega)]
    show some _ = some _
    congr 2
    omega
  | succ k ih =>
    intro u hu hm
    rw [Lib.decDigits]
    by_cases h10 : u < 10
    · rw [dif_pos h10, run_cons, dig_toNat _ h10, stp2, if_pos (by omega)]
      show some _ = some _
      congr 2
      omega
    · rw [dif_neg h10, run_append, ih (u / 10) (by omega) (by omega), run_cons, dig_toNat _ (by omega), stp2, if_pos (by omega)]
      show some _ = some _
      congr 2
      omega

theorem itoa_of {n : Int} (h : 0 ≤ n) : Lib.itoa n = Lib.decDigits n.toNat := by
  unfold Lib.itoa
  rw [if_neg (by omega)]
theorem parse_text {a : Sm} (h : soundB a = true) : parseL (textL a) = some a := by
  obtain ⟨w, l, n⟩ := a
  have hs := of_decide_eq_true h
  simp only at hs
  have hrun : run (some start0) (textL ⟨w, l, n⟩) = some ⟨w, l, n, 2⟩ := by
    unfold textL
    simp only
    rw [itoa_of hs.1, itoa_of hs.2.2.1, itoa_of hs.2.2.2.2.1]
    rw [run_append, show start0 = ⟨0, 0, 0, 0⟩ from rfl, run_dec0 0 0 _ w.toNat (Nat.le_refl _) (by omega), run_cons]
    rw [show (((46 : UInt8).toNat : Nat) : Int) = 46 from rfl, stp0, if_neg (by omega), if_pos rfl]
    rw [run_append, run_dec1 _ 0 _ l.toNat (Nat.le_refl _) (by omega), run_cons]
    rw [show (((64 : UInt8).toNat : Nat) : Int) = 64 from rfl, stp1, if_neg (by omega), if_pos rfl]
    rw [run_dec2 _ _ _ n.toNat (Nat.le_refl _) (by omega)]
    show some _ = some _
    congr 2 <;> omega
  unfold parseL
  rw [hrun]
  show (if _ then _ else _) = _
  rw [if_pos ⟨h, rfl⟩]
  rfl
theorem parse_some {l : List UInt8} {a : Sm} (h : parseL l = some a) : soundB a = true ∧ textL a = l := by
  unfold parseL at h
  cases hr : run (some start0) l with
  | none => rw [hr] at h; cases h
  | some st =>
    rw [hr] at h
    have h : (if soundB (stm st) = true ∧ textL (stm st) = l then some (stm st) else none) = some a := h
    by_cases hc : soundB (stm st) = true ∧ textL (stm st) = l
    · rw [if_pos hc] at h
      injection h with h
      rw [← h]
      exact hc
    · rw [if_neg hc] at h
      cases h
theorem parse_unsound {a : Sm} (h : soundB a = false) : parseL (textL a) = none := by
  cases hp : parseL (textL a) with
  | none => rfl
  | some b =>
    obtain ⟨h1, h2⟩ := parse_some hp
    have := textL_inj h2
    subst this
    rw [h] at h1
    cases h1

theorem text501 : textL ⟨5, 0, 1⟩ = [53, 46, 48, 64, 49] := by
  unfold textL
  simp only
  rw [itoa_of (by decide), itoa_of (by decide), itoa_of (by decide), Lib.decDigits_one (by decide), Lib.decDigits_one (by decide), Lib.decDigits_one (by decide)]
  rfl
theorem parse501 : parseL [53, 46, 48, 64, 49] = some ⟨5, 0, 1⟩ := by
  rw [← text501]
  exact parse_text rfl
theorem parse0501 : parseL [48, 53, 46, 48, 64, 49] = none := by
  unfold parseL
  have e : run (some start0) [48, 53, 46, 48, 64, 49] = some ⟨5, 0, 1, 2⟩ := rfl
  rw [e]
  show (if _ then _ else _) = _
  rw [if_neg]
  rintro ⟨_, h⟩
  rw [show stm ⟨5, 0, 1, 2⟩ = ⟨5, 0, 1⟩ from rfl, text501] at h
  cases h
end Go.Proofs.YtijnmhiiojkcgaaDoor
