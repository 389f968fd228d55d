/-
  What glob's piece.takes answers.
-/
import Derived.Test.YtmijhgecdkdkmaaGlobE
set_option linter.unusedVariables false
namespace Go.Proofs.Ytmijhgecdkdkmaa
open Go.RowKit

def inSpan (r : Nat) (s : Nat × Nat) : Bool := decide (s.1 ≤ r) && decide (r ≤ s.2)
/-- Does the piece take the rune? -/
def takesR (p : Pc) (r : Nat) : Bool := if p.spans.any (inSpan r) = true then !p.turned else p.turned

set_option maxHeartbeats 4000000 in
set_option maxRecDepth 100000 in
theorem takes_any (sv : Value) (p : Pc) (r : Nat) (B : Nat) (w : World) (h : w.ownsRow B 92 2 sv p.spans.length (rowOf spC p.spans)) (hl : p.spans.length ≤ 1000) :
    Calls Try.prog 55 #[pcVal sv p, .int .i32 r] w fun e w' => e = .returned (.bool (takesR p r)) ∧ Below w.heap.size w w' := by
  obtain ⟨sa, sc, hsv⟩ := own_form h
  subst hsv
  obtain ⟨sp, tu, ma⟩ := p
  simp only at h hl
  have hbA := (Below.refl w.heap.size w).alloc (Nat.le_refl _)
  show Calls Try.prog 55 #[.agg #[.slice sa sp.length sc, .bool tu, .bool ma], .int .i32 r] w fun e w' => e = .returned (.bool (takesR ⟨sp, tu, ma⟩ r)) ∧ Below w.heap.size w w'
  go_enter Try.func55, Try.ntmps55
  go_wp2
  go_loopw [10] (fun i wr => ∃ j : Nat, i = .int .i64 j ∧ j ≤ sp.length ∧ wr.ownsRow w.heap.size 76 3 (.slice (some ⟨w.heap.size, 0, none⟩) 1 1) 1 [.slice sa sp.length sc, .bool tu, .bool ma] ∧ Below w.heap.size w wr ∧ Hid ((sp.take j).any (inSpan r) = false)) (fun i _ => sp.length - (intOf i).toNat)
  case atStart => exact ⟨0, rfl, Nat.zero_le _, World.ownsRow_lit w #[.slice sa sp.length sc, .bool tu, .bool ma] 1 (Nat.le_refl _) (by unfold maxLen; omega) rfl, hbA _, rfl⟩
  case round =>
    obtain ⟨j, rfl, hj, hx, hbw, HT⟩ := hrel
    obtain ⟨⟨hx0, hx1, hx2⟩, hy0, hy1, hy2⟩ := pc_cells hx
    have hxs : w.heap.size < wr.heap.size := (hx.lt _ rfl).2
    by_cases hlt : j < sp.length
    · obtain ⟨g, cap, hv, hgB, hcell⟩ := own_cells (own_later h hbw) (fun _ => rfl) rfl (by intro e; rw [e] at hlt; simp at hlt)
      simp at hv
      obtain ⟨rfl, rfl⟩ := hv
      have h1 := hcell j hlt 0 (by omega)
      have h2 := hcell j hlt 1 (by omega)
      rw [Nat.add_zero] at h1
      have hg : g < wr.heap.size := World.block_lt_of_cell? _ _ h1
      obtain ⟨⟨a1, a2⟩, ha⟩ : ∃ x, x = sp[j] := ⟨_, rfl⟩
      rw [← ha] at h1 h2
      simp only [spC, List.getElem?_cons_zero, List.getElem?_cons_succ] at h1 h2
      have hlti : (j : Int) < (sp.length : Int) := by omega
      have hj0 : (0 : Int) ≤ (j : Int) := by omega
      have HTS : Hid ((sp.take (j + 1)).any (inSpan r) = inSpan r (a1, a2)) := by
        show _ = _
        rw [List.take_succ_eq_append_getElem hlt, List.any_append, HT.out, ← ha]; simp
      have HIN : Hid (inSpan r (a1, a2) = true → sp.any (inSpan r) = true) := by
        intro hin
        rw [List.any_eq_true]
        exact ⟨_, List.getElem_mem hlt, by rw [← ha]; exact hin⟩
      clear hcell ha h
      by_cases c1 : a1 ≤ r
      · have c1i : (a1 : Int) ≤ (r : Int) := by omega
        by_cases c2 : r ≤ a2
        · have c2i : (r : Int) ≤ (a2 : Int) := by omega
          have HN : Hid (takesR ⟨sp, tu, ma⟩ r = !tu) := by
            show _ = _
            unfold takesR; rw [if_pos (HIN.out (by simp [inSpan, c1, c2]))]
          go_wp2
          go_ret
          exact ⟨by rw [HN.out]; rfl, hbw.alloc hbw.size _⟩
        · have c2i : ¬ (r : Int) ≤ (a2 : Int) := by omega
          have HT2 : Hid ((sp.take (j + 1)).any (inSpan r) = false) := by show _ = _; rw [HTS.out]; simp [inSpan, c2]
          go_wp2
          go_roundw
          case rel => exact ⟨j + 1, by go_num, by omega, hx.alloc _, hbw.alloc hbw.size _, HT2⟩
          case measure => simp [intOf]; omega
      · have c1i : ¬ (a1 : Int) ≤ (r : Int) := by omega
        have HT2 : Hid ((sp.take (j + 1)).any (inSpan r) = false) := by show _ = _; rw [HTS.out]; simp [inSpan, c1]
        go_wp2
        go_roundw
        case rel => exact ⟨j + 1, by go_num, by omega, hx.alloc _, hbw.alloc hbw.size _, HT2⟩
        case measure => simp [intOf]; omega
    · have hlti : ¬ (j : Int) < (sp.length : Int) := by omega
      have HN : Hid (takesR ⟨sp, tu, ma⟩ r = tu) := by
        have hT := HT.out
        rw [List.take_of_length_le (by omega)] at hT
        show _ = _
        unfold takesR; rw [if_neg (by simp only; rw [hT]; simp)]
      go_wp2
      go_ret
      exact ⟨by rw [HN.out]; rfl, hbw⟩

end Go.Proofs.Ytmijhgecdkdkmaa
