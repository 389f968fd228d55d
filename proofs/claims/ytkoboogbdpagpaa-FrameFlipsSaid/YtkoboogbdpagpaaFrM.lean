/-
  Plain mathematics of frames: one behind the other, cut, flipped.
-/
import Derived.Test.YtkoboogbdpagpaaFrF
set_option linter.unusedVariables false
namespace Go.Proofs.Ytkoboogbdpagpaa
open Go.RowKit

theorem wd_le4 (v : Nat) (h : v < 4294967296) (r : List UInt8) : wdL (le4 v ++ r) = v := by
  simp only [wdL, le4, List.cons_append, List.getD_cons_zero, List.getD_cons_succ, wd, UInt8.toNat_ofNat']
  omega

theorem frm_next (p r : List UInt8) (h : p.length ≤ 131072) : nextF (frm p ++ r) = (p, p.length + 8, 1) := by
  have hw : wdL (frm p ++ r) = p.length := by
    unfold frm
    rw [List.append_assoc, List.append_assoc]
    exact wd_le4 _ (by omega) _
  have hl : (frm p ++ r).length = p.length + 8 + r.length := by rw [List.length_append, frm_len]
  have h4 : (le4 p.length ++ p).length = p.length + 4 := by rw [List.length_append, le4_len]; omega
  have ht : (frm p ++ r).take (p.length + 4) = le4 p.length ++ p := by
    unfold frm
    rw [List.append_assoc, ← h4, List.take_left]
  have hd : (frm p ++ r).drop (p.length + 4) = le4 (crc (le4 p.length ++ p)) ++ r := by
    unfold frm
    rw [List.append_assoc, ← h4, List.drop_left]
  have hm : ((frm p ++ r).drop 4).take p.length = p := by
    unfold frm
    rw [List.append_assoc, List.append_assoc]
    show (List.drop (le4 p.length).length (le4 p.length ++ _)).take p.length = p
    rw [List.drop_left, List.take_left]
  rw [nx_e, hw, hm]
  · omega
  · rw [hw]; omega
  · rw [hw, hl]; omega
  · rw [hw, ht, hd, wd_le4 _ (crc_lt _)]; simp

/-- A frame cut short is torn. -/
theorem frm_cut (p : List UInt8) (h : p.length ≤ 131072) (c : Nat) (hc : c < (frm p).length) : nextF ((frm p).take c) = ([], 0, 2) := by
  have hl : ((frm p).take c).length = c := by rw [List.length_take]; omega
  by_cases h4 : c < 4
  · exact nx_a (by rw [hl]; exact h4)
  · have hw : wdL ((frm p).take c) = p.length := by
      have e : (frm p).take c = le4 p.length ++ (p ++ le4 (crc (le4 p.length ++ p))).take (c - 4) := by
        unfold frm
        rw [List.append_assoc, List.take_append, le4_len, List.take_of_length_le (by rw [le4_len]; omega)]
      rw [e]
      exact wd_le4 _ (by omega) _
    rw [frm_len] at hc
    exact nx_c (by rw [hl]; exact h4) (by rw [hw]; omega) (by rw [hw, hl]; omega)

/-- A frame of whose text one byte is another is bad. -/
theorem frm_flip (p : List UInt8) (h : p.length ≤ 131072) (k : Nat) (hk : k < p.length) (x : UInt8) (hx : x ≠ p[k]) : nextF ((frm p).set (4 + k) x) = ([], 0, 3) := by
  have hp : p = p.take k ++ p[k] :: p.drop (k + 1) := by rw [List.getElem_cons_drop, List.take_append_drop]
  have e1 : (frm p).set (4 + k) x = le4 p.length ++ (p.set k x) ++ le4 (crc (le4 p.length ++ p)) := by
    unfold frm
    rw [List.append_assoc, List.append_assoc, List.set_append_right _ _ (by rw [le4_len]; omega), le4_len, show 4 + k - 4 = k by omega, List.set_append_left _ _ hk]
  have hs : (p.set k x).length = p.length := by simp
  have hl : ((frm p).set (4 + k) x).length = p.length + 8 := by rw [List.length_set, frm_len]
  have hw : wdL ((frm p).set (4 + k) x) = p.length := by rw [e1, List.append_assoc]; exact wd_le4 _ (by omega) _
  have h4 : (le4 p.length ++ p.set k x).length = p.length + 4 := by rw [List.length_append, le4_len, hs]; omega
  have ht : ((frm p).set (4 + k) x).take (p.length + 4) = le4 p.length ++ p.set k x := by rw [e1, ← h4, List.take_left]
  have hd : ((frm p).set (4 + k) x).drop (p.length + 4) = le4 (crc (le4 p.length ++ p)) := by rw [e1, ← h4, List.drop_left]
  apply nx_d
  · rw [hl]; omega
  · rw [hw]; omega
  · rw [hw, hl]; omega
  · rw [hw, ht, hd]
    have := wd_le4 (crc (le4 p.length ++ p)) (crc_lt _) []
    rw [List.append_nil] at this
    rw [this]
    intro e
    have hset : p.set k x = p.take k ++ x :: p.drop (k + 1) := by
      rw [List.set_eq_take_append_cons_drop, if_pos hk]
    rw [hset] at e
    rw [show crc (le4 p.length ++ p) = crc (le4 p.length ++ (p.take k ++ p[k] :: p.drop (k + 1))) from congrArg (fun q => crc (le4 p.length ++ q)) hp] at e
    rw [← List.append_assoc, ← List.append_assoc] at e
    exact hx (crc_flip _ _ _ _ e)

/-- Frames, one behind the other. -/
def frs (L : List (List UInt8)) : List UInt8 := (L.map frm).flatten
theorem frs_append (L M : List (List UInt8)) : frs (L ++ M) = frs L ++ frs M := by simp [frs]
theorem frs_one (p : List UInt8) : frs [p] = frm p := by simp [frs]
theorem frs_cons (p : List UInt8) (L : List (List UInt8)) : frs (p :: L) = frm p ++ frs L := by simp [frs]
theorem frs_len : ∀ L : List (List UInt8), (frs L).length = (L.map List.length).sum + 8 * L.length
  | [] => rfl
  | p :: L => by rw [frs_cons, List.length_append, frm_len, frs_len L]; simp; omega

theorem scanF_frs : ∀ (L : List (List UInt8)) (f at_ : Nat) (acc : List (List UInt8)) (r : List UInt8), (∀ p ∈ L, p.length ≤ 131072) → scanF (f + L.length) at_ acc (frs L ++ r) = scanF f (at_ + (frs L).length) (acc ++ L) r
  | [], f, at_, acc, r, _ => by simp [frs]
  | p :: L, f, at_, acc, r, h => by
    have hp := h p (by simp)
    have e : frs (p :: L) ++ r = frm p ++ (frs L ++ r) := by rw [frs_cons, List.append_assoc]
    have hne : frm p ++ (frs L ++ r) ≠ [] := by intro e; have := congrArg List.length e; rw [List.length_append, frm_len] at this; simp at this
    rw [e, show f + (p :: L).length = (f + L.length) + 1 by simp; omega, scanF, if_neg hne, frm_next p _ hp, if_pos rfl]
    simp only
    rw [← frm_len p, List.drop_left, scanF_frs L f _ _ r (fun q hq => h q (by simp [hq])), frs_cons, List.length_append, List.append_assoc]
    simp [Nat.add_assoc]

/-- Frames are told one by one. -/
theorem scan_frs (L : List (List UInt8)) (h : ∀ p ∈ L, p.length ≤ 131072) : scan (frs L) = (L, (frs L).length, 1) := by
  have hf : L.length ≤ (frs L).length := by rw [frs_len]; omega
  have := scanF_frs L ((frs L).length + 1 - L.length) 0 [] [] h
  rw [List.append_nil, Nat.zero_add, List.nil_append, scanF_nil, show (frs L).length + 1 - L.length + L.length = (frs L).length + 1 by omega] at this
  exact this
/-- .. and what is torn behind them. -/
theorem scan_torn (L : List (List UInt8)) (h : ∀ p ∈ L, p.length ≤ 131072) (p : List UInt8) (hp : p.length ≤ 131072) (c : Nat) (hc : c < (frm p).length) (h0 : 0 < c) : scan (frs L ++ (frm p).take c) = (L, (frs L).length, 2) := by
  have hf : L.length ≤ (frs L).length := by rw [frs_len]; omega
  have hl : ((frm p).take c).length = c := by rw [List.length_take]; omega
  have hne : (frm p).take c ≠ [] := by intro e; rw [e] at hl; simp at hl; omega
  have := scanF_frs L ((frs L).length + c + 1 - L.length) 0 [] ((frm p).take c) h
  rw [Nat.zero_add, List.nil_append, show (frs L).length + c + 1 - L.length + L.length = (frs L).length + c + 1 by omega] at this
  unfold scan
  rw [List.length_append, hl, this, show (frs L).length + c + 1 - L.length = ((frs L).length + c - L.length) + 1 by omega, scanF, if_neg hne, frm_cut p hp c hc]
  simp

end Go.Proofs.Ytkoboogbdpagpaa
