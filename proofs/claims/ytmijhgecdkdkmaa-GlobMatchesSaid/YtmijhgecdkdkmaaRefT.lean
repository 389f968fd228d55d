/-
  What the reference's takes answers.
-/
import Derived.Test.YtmijhgecdkdkmaaGlobF
set_option linter.unusedVariables false
namespace Go.Proofs.Ytmijhgecdkdkmaa
open Go.RowKit

def iC (x : Nat) : List Value := [.int .i32 x]

/-- The reference's piece as a value, its bounds at lo and hi. -/
def rpVal (lo hi : Value) (p : Pc) : Value := .agg #[.bool p.many, .bool p.turned, lo, hi]

/-- The bounds of a piece of the reference. -/
def Bounds (w : World) (B : Nat) (lo hi : Value) (p : Pc) : Prop :=
  w.ownsRow B 21 1 lo p.spans.length (rowOf iC (p.spans.map (·.1))) ∧ w.ownsRow B 21 1 hi p.spans.length (rowOf iC (p.spans.map (·.2)))

theorem Bounds.later {w w' : World} {B : Nat} {lo hi : Value} {p : Pc} (h : Bounds w B lo hi p) (hb : Below w.heap.size w w') : Bounds w' B lo hi p := ⟨own_later h.1 hb, own_later h.2 hb⟩

theorem int_cell {w : World} {B n : Nat} {v : Value} {es : List Nat} (h : w.ownsRow B 21 1 v n (rowOf iC es)) (hl : es.length = n) (j : Nat) (hj : j < es.length) :
    ∃ g cap, v = .slice (some ⟨g, 0, none⟩) n cap ∧ w.cell? ⟨g, j, none⟩ = some (.int .i32 es[j]) := by
  obtain ⟨g, cap, hv, _, hc⟩ := own_cells h (fun _ => rfl) hl (by intro e; rw [e] at hj; simp at hj)
  have := hc j hj 0 (by omega)
  rw [Nat.mul_one, Nat.add_zero] at this
  exact ⟨g, cap, hv, this⟩

set_option maxHeartbeats 4000000 in
set_option maxRecDepth 100000 in
theorem rTakes_any (lo hi : Value) (p : Pc) (r : Nat) (B : Nat) (w : World) (h : Bounds w B lo hi p) (hl : p.spans.length ≤ 1000) :
    Calls Try.prog 39 #[rpVal lo hi p, .int .i32 r] w fun e w' => e = .returned (.bool (takesR p r)) ∧ Below w.heap.size w w' := by
  obtain ⟨h1, h2⟩ := h
  obtain ⟨la, lc, hv1⟩ := own_form h1
  obtain ⟨ha, hc, hv2⟩ := own_form h2
  subst hv1 hv2
  obtain ⟨sp, tu, ma⟩ := p
  simp only at h1 h2 hl
  have hbA := (Below.refl w.heap.size w).alloc (Nat.le_refl _)
  show Calls Try.prog 39 #[.agg #[.bool ma, .bool tu, .slice la sp.length lc, .slice ha sp.length hc], .int .i32 r] w fun e w' => e = .returned (.bool (takesR ⟨sp, tu, ma⟩ r)) ∧ Below w.heap.size w w'
  go_enter Try.func39, Try.ntmps39
  go_wp2
  go_loop [5, 6] (fun b i => ∃ (j : Nat) (x : Bool), i = .int .i64 j ∧ b = .bool x ∧ j ≤ sp.length ∧ Hid ((sp.take j).any (inSpan r) = x)) (fun _ i => sp.length - (intOf i).toNat)
  case atStart => exact ⟨0, false, rfl, rfl, Nat.zero_le _, rfl⟩
  case round =>
    obtain ⟨j, x, rfl, rfl, hj, HT⟩ := hrel
    by_cases hlt : j < sp.length
    · have hlti : (j : Int) < (sp.length : Int) := by omega
      have hj0 : (0 : Int) ≤ (j : Int) := by omega
      obtain ⟨⟨a1, a2⟩, hae⟩ : ∃ y, y = sp[j] := ⟨_, rfl⟩
      have HTS : Hid ((sp.take (j + 1)).any (inSpan r) = (x || inSpan r (a1, a2))) := by
        show _ = _
        rw [List.take_succ_eq_append_getElem hlt, List.any_append, HT.out, ← hae]; simp
      cases x with
      | true =>
        have HT2 : Hid ((sp.take (j + 1)).any (inSpan r) = true) := by show _ = _; rw [HTS.out]; rfl
        clear hae
        go_wp2
        go_round
        case rel => exact ⟨j + 1, true, by go_num, rfl, by omega, HT2⟩
        case measure => simp [intOf]; omega
      | false =>
        obtain ⟨g1, cp1, e1, k1⟩ := int_cell h1 (by simp) j (by simpa using hlt)
        obtain ⟨g2, cp2, e2, k2⟩ := int_cell h2 (by simp) j (by simpa using hlt)
        rw [List.getElem_map, ← hae] at k1 k2
        simp at e1 e2
        obtain ⟨rfl, rfl⟩ := e1
        obtain ⟨rfl, rfl⟩ := e2
        have l1 : g1 < w.heap.size := World.block_lt_of_cell? _ _ k1
        have l2 : g2 < w.heap.size := World.block_lt_of_cell? _ _ k2
        clear hae
        by_cases c1 : a1 ≤ r
        · have c1i : (a1 : Int) ≤ (r : Int) := by omega
          by_cases c2 : r ≤ a2
          · have c2i : (r : Int) ≤ (a2 : Int) := by omega
            have HT2 : Hid ((sp.take (j + 1)).any (inSpan r) = true) := by show _ = _; rw [HTS.out]; simp [inSpan, c1, c2]
            go_wp2
            go_round
            case rel => exact ⟨j + 1, true, by go_num, rfl, by omega, HT2⟩
            case measure => simp [intOf]; omega
          · have c2i : ¬ (r : Int) ≤ (a2 : Int) := by omega
            have c2d : decide ((r : Int) ≤ (a2 : Int)) = false := decide_eq_false c2i
            have HT2 : Hid ((sp.take (j + 1)).any (inSpan r) = false) := by show _ = _; rw [HTS.out]; simp [inSpan, c2]
            go_wp2
            go_round
            case rel => exact ⟨j + 1, false, by go_num, by simp, by omega, HT2⟩
            case measure => simp [intOf]; omega
        · have c1i : ¬ (a1 : Int) ≤ (r : Int) := by omega
          have HT2 : Hid ((sp.take (j + 1)).any (inSpan r) = false) := by show _ = _; rw [HTS.out]; simp [inSpan, c1]
          go_wp2
          go_round
          case rel => exact ⟨j + 1, false, by go_num, rfl, by omega, HT2⟩
          case measure => simp [intOf]; omega
    · have hlti : ¬ (j : Int) < (sp.length : Int) := by omega
      have HN : Hid (takesR ⟨sp, tu, ma⟩ r = (x != tu)) := by
        have hT := HT.out
        rw [List.take_of_length_le (by omega)] at hT
        show _ = _
        unfold takesR; simp only; rw [hT]; cases x <;> cases tu <;> rfl
      go_wp2
      go_ret
      exact ⟨by rw [HN.out]; rfl, hbA _⟩

end Go.Proofs.Ytmijhgecdkdkmaa
