/-
  Plain mathematics: a text with its letters made small.
-/
import Derived.Test.YthjcljgkgahglaaPureJ
set_option linter.unusedVariables false
namespace Go.Proofs.Ythjcljgkgahglaa
open Go.Lib (decodeN decode_at)

def foldN (b : Nat) : Nat := if 65 ≤ b ∧ b ≤ 90 then b + 32 else b
def foldB (b : UInt8) : UInt8 := if 65 ≤ b.toNat ∧ b.toNat ≤ 90 then b + 32 else b

theorem foldB_toNat (b : UInt8) : (foldB b).toNat = foldN b.toNat := by
  unfold foldB foldN
  split
  · rw [UInt8.toNat_add]
    have : (32 : UInt8).toNat = 32 := rfl
    omega
  · rfl

theorem foldN_twice (b : Nat) : foldN (foldN b) = foldN b := by
  unfold foldN
  by_cases h : 65 ≤ b ∧ b ≤ 90
  · rw [if_pos h, if_neg (by omega)]
  · rw [if_neg h, if_neg h]
theorem foldB_twice (b : UInt8) : foldB (foldB b) = foldB b := UInt8.toNat_inj.1 (by rw [foldB_toNat, foldB_toNat, foldN_twice])

theorem foldN_high (b : Nat) (h : 128 ≤ b) : foldN b = b := by unfold foldN; rw [if_neg (by omega)]
theorem foldN_cont (b : Nat) : (foldN b / 64 = 2) ↔ (b / 64 = 2) := by unfold foldN; split <;> omega
theorem foldN_cont_eq (b : Nat) (h : b / 64 = 2) : foldN b = b := by unfold foldN; rw [if_neg (by omega)]
theorem foldN_low (b : Nat) : foldN b < 128 ↔ b < 128 := by unfold foldN; split <;> omega

theorem decodeN_fold (n b0 b1 b2 b3 : Nat) : decodeN n (foldN b0) (foldN b1) (foldN b2) (foldN b3) = if b0 < 128 then (foldN b0, 1) else decodeN n b0 b1 b2 b3 := by
  by_cases h0 : b0 < 128
  · rw [if_pos h0]; unfold decodeN; rw [if_pos ((foldN_low b0).2 h0)]
  · rw [if_neg h0, foldN_high b0 (by omega)]
    by_cases c1 : b1 / 64 = 2
    · rw [foldN_cont_eq b1 c1]
      by_cases c2 : b2 / 64 = 2
      · rw [foldN_cont_eq b2 c2]
        by_cases c3 : b3 / 64 = 2
        · rw [foldN_cont_eq b3 c3]
        · have d3 : ¬ foldN b3 / 64 = 2 := fun h => c3 ((foldN_cont b3).1 h)
          unfold decodeN
          simp only [c3, d3, and_false, if_false]
      · have d2 : ¬ foldN b2 / 64 = 2 := fun h => c2 ((foldN_cont b2).1 h)
        unfold decodeN
        simp only [c2, d2, and_false, false_and, if_false]
    · have d1 : ¬ foldN b1 / 64 = 2 := fun h => c1 ((foldN_cont b1).1 h)
      unfold decodeN
      simp only [c1, d1, and_false, false_and, if_false]

theorem getD_fold (l : List UInt8) (k : Nat) : ((l.map foldB).getD k 0).toNat = foldN (l.getD k 0).toNat := by
  simp only [List.getD_eq_getElem?_getD, List.getElem?_map]
  cases l[k]? with
  | none => rfl
  | some b => exact foldB_toNat b

theorem dec_fold (l : List UInt8) : dec (l.map foldB) = if (l.getD 0 0).toNat < 128 then (foldN (l.getD 0 0).toNat, 1) else dec l := by
  unfold dec
  rw [getD_fold, getD_fold, getD_fold, getD_fold, List.length_map, decodeN_fold]

theorem dec_low (l : List UInt8) (h : (l.getD 0 0).toNat < 128) : dec l = ((l.getD 0 0).toNat, 1) := by
  rw [dec_def]; simp only [decodeN]; rw [if_pos h]

theorem dec_fold_width (l : List UInt8) : (dec (l.map foldB)).2 = (dec l).2 := by
  rw [dec_fold]
  split
  · rename_i h; rw [dec_low l h]
  · rfl

theorem pieces_fold (l : List UInt8) : pieces (l.map foldB) = (pieces l).map fun c => c.map foldB := by
  generalize hn : l.length = n
  induction n using Nat.strongRecOn generalizing l with
  | _ n ih =>
    by_cases h : l = []
    · subst h; rfl
    · have hne : l.map foldB ≠ [] := by simp [h]
      have hw := dec_width l h
      rw [pieces_eq _ hne, pieces_eq l h, dec_fold_width, List.map_cons, List.map_take, ← List.map_drop, ih _ (by rw [← hn]; simp; omega) (l.drop (dec l).2) rfl]

theorem bad_fold (c : List UInt8) : bad (c.map foldB) = bad c := by
  unfold bad
  rw [List.length_map, getD_fold]
  congr 1
  rw [Bool.eq_iff_iff]
  simp only [decide_eq_true_eq]
  have := foldN_low (c.getD 0 0).toNat
  omega

theorem valid_fold (l : List UInt8) : valid (l.map foldB) = valid l := by
  unfold valid
  rw [pieces_fold, List.all_map]
  congr 1
  funext c
  simp [Function.comp, bad_fold]

theorem count_fold (l : List UInt8) : (pieces (l.map foldB)).length = (pieces l).length := by rw [pieces_fold, List.length_map]

/-- The bytes of a rune that is no big letter are no big letters. -/
theorem piece_fold_same {c : List UInt8} (h : isPiece c) (hr : ¬ (65 ≤ (dec c).1 ∧ (dec c).1 ≤ 90)) : c.map foldB = c := by
  have hconts := piece_conts h
  obtain ⟨hne, hw, h4⟩ := h
  match c, hne with
  | b :: r, _ =>
    have hb : foldB b = b := by
      apply UInt8.toNat_inj.1
      rw [foldB_toNat]
      unfold foldN
      rw [if_neg]
      rintro ⟨h1, h2⟩
      have hd := dec_low (b :: r) (by show b.toNat < 128; omega)
      rw [hd] at hr
      exact hr ⟨h1, h2⟩
    have hrr : r.map foldB = r := by
      have : ∀ x ∈ r, foldB x = x := by
        intro x hx
        apply UInt8.toNat_inj.1
        rw [foldB_toNat, foldN_cont_eq]
        exact hconts x (by simpa using hx)
      conv => rhs; rw [← List.map_id r]
      exact List.map_congr_left fun x hx => by simpa using this x hx
    rw [List.map_cons, hb, hrr]

/-- A text, small up to a place. -/
def mixed (l : List UInt8) (pos : Nat) : List UInt8 := (l.take pos).map foldB ++ l.drop pos

theorem mixed_len (l : List UInt8) (pos : Nat) : (mixed l pos).length = l.length := by simp [mixed]; omega

theorem mixed_skip (l : List UInt8) (pos : Nat) (h : pos < l.length) (hr : ¬ (65 ≤ (dec (l.drop pos)).1 ∧ (dec (l.drop pos)).1 ≤ 90)) : mixed l (pos + (dec (l.drop pos)).2) = mixed l pos := by
  obtain ⟨hp, hl, hd⟩ := pieceAt_is l pos h
  have := piece_fold_same hp (by rw [hd]; exact hr)
  unfold mixed
  rw [List.take_add, List.map_append]
  show _ ++ (pieceAt l pos).map foldB ++ _ = _
  rw [this, List.append_assoc]
  congr 1
  unfold pieceAt
  rw [← List.drop_drop, List.take_append_drop]

theorem mixed_set (l : List UInt8) (pos : Nat) (h : pos < l.length) (hr : 65 ≤ (dec (l.drop pos)).1 ∧ (dec (l.drop pos)).1 ≤ 90) :
    (dec (l.drop pos)).2 = 1 ∧ (dec (l.drop pos)).1 = (l[pos]'h).toNat ∧ mixed l (pos + 1) = (mixed l pos).set pos (l[pos]'h + 32) := by
  obtain ⟨hp, hl, hd⟩ := pieceAt_is l pos h
  have hs := piece_small hp (by rw [hd]; omega)
  have hw : (dec (l.drop pos)).2 = 1 := by rw [← hl, hs.1]; rfl
  have hg : (l.drop pos).getD 0 0 = l[pos]'h := by simp [List.getD_eq_getElem?_getD, List.getElem?_drop, h]
  have hv : (dec (l.drop pos)).1 = (l[pos]'h).toNat := by
    have := dec_w1 _ hw
    rw [hg] at this
    by_cases h128 : (l[pos]'h).toNat < 128
    · rw [if_pos h128] at this; rw [this]
    · rw [if_neg h128] at this; rw [this] at hr; simp at hr
  refine ⟨hw, hv, ?_⟩
  have hf : foldB (l[pos]'h) = l[pos]'h + 32 := by unfold foldB; rw [if_pos (by omega)]
  have hlen : ((l.take pos).map foldB).length = pos := by simp; omega
  unfold mixed
  rw [List.take_succ_eq_append_getElem h, List.map_append, List.map_singleton, hf, List.set_append_right _ _ (by omega), hlen, Nat.sub_self]
  rw [List.append_assoc, List.singleton_append]
  congr 1
  have e := List.drop_eq_getElem_cons h
  rw [e, List.set_cons_zero]

theorem mixed_end (l : List UInt8) (pos : Nat) (h : ¬ pos < l.length) : mixed l pos = l.map foldB := by
  unfold mixed
  rw [List.take_of_length_le (by omega), List.drop_eq_nil_of_le (by omega), List.append_nil]
theorem mixed_zero (l : List UInt8) : mixed l 0 = l := by simp [mixed]

end Go.Proofs.Ythjcljgkgahglaa
