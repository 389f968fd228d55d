/-
  What the reference answers: Valid, Count.
-/
import Derived.Test.YtggognmbjgkdfaaRAll
import Derived.Test.YtggognmbjgkdfaaRuA
import Derived.Deep.QuietTactic
import Derived.BigQuiet
set_option linter.unusedVariables false
namespace Go.Proofs.Ytggognmbjgkdfaa
open Go.RowKit

/-- All's answer, in one word. -/
def AllPost (s : ByteArray) (w : World) (e : Ending) (w' : World) : Prop :=
  ∃ a n cap, e = .returned (.slice a n cap) ∧ n = (pieces s.data.toList).length ∧ w'.ownsRow w.heap.size 120 4 (.slice a n cap) n (cellsOf (elems 0 (pieces s.data.toList))) ∧ Below w.heap.size w w'
theorem All_p (s : ByteArray) (w : World) (hs : s.size ≤ 1000000) : Calls Try.prog 76 #[.string s] w (AllPost s w) := All_any s w hs

/-- The cells of a rune in All's row. -/
theorem row_at {w : World} {B n cap : Nat} {a : Option Addr} {es : List RE} (h : w.ownsRow B 120 4 (.slice a n cap) n (cellsOf es)) (hl : es.length = n) (h0 : 0 < n) :
    ∃ g, a = some ⟨g, 0, none⟩ ∧ B ≤ g ∧ ∀ i (hi : i < es.length),
      w.cell? ⟨g, i * 4, none⟩ = some (.int .i32 (es[i]'hi).r) ∧ w.cell? ⟨g, i * 4 + 1, none⟩ = some (.int .i64 (es[i]'hi).at') ∧ w.cell? ⟨g, i * 4 + 2, none⟩ = some (.int .i64 (es[i]'hi).en) ∧ w.cell? ⟨g, i * 4 + 3, none⟩ = some (.bool (es[i]'hi).no) := by
  rcases h.2 with ⟨_, hn⟩ | ⟨g, cap', cur, hv, hb, _⟩
  · omega
  · simp at hv
    obtain ⟨rfl, rfl⟩ := hv
    refine ⟨g, rfl, hb, fun i hi => ?_⟩
    have hc : ∀ j, j < 4 → w.cell? ⟨g, i * 4 + j, none⟩ = (es[i]'hi).cells[j]? := fun j hj => by
      rw [h.cellAt (i * 4 + j) (by omega), cellsOf_get es i j hi hj]
    exact ⟨hc 0 (by omega), hc 1 (by omega), hc 2 (by omega), hc 3 (by omega)⟩

theorem elems_get (cs : List (List UInt8)) (i : Nat) (h : i < cs.length) : ∀ p, (elems p cs)[i]'(by rw [elems_len]; exact h) = ⟨(dec cs[i]).1, p + (cs.take i).flatten.length, p + (cs.take i).flatten.length + cs[i].length, bad cs[i]⟩ := by
  induction cs generalizing i with
  | nil => simp at h
  | cons c r ih =>
    intro p
    cases i with
    | zero => simp [elems]
    | succ i =>
      simp only [elems, List.getElem_cons_succ, List.take_succ_cons, List.flatten_cons, List.length_append]
      rw [ih i (by simpa using h) (p + c.length)]
      simp only [RE.mk.injEq, true_and, and_true]
      omega

set_option maxHeartbeats 2000000 in
set_option maxRecDepth 100000 in
theorem rValid_any (s : ByteArray) (w : World) (hs : s.size ≤ 1000000) :
    Calls Try.prog 45 #[.string s] w fun e w' => e = .returned (.bool (valid s.data.toList)) ∧ Below w.heap.size w w' := by
  have hA := All_any s w hs
  have hlen := pieces_length_le s.data.toList
  rw [← size_len] at hlen
  go_enter Try.func45, Try.ntmps45
  go_wp2_with (go_at_call 76; refine hA.mono ?_)
  rintro e W1 ⟨a, n, cap, rfl, hn, hown, hb⟩
  rw [← hn] at hlen
  have HN : Hid (n = (pieces s.data.toList).length) := hn
  clear hn hA
  go_wp2
  go_loopw [4] (fun i wr => ∃ j : Nat, i = .int .i64 j ∧ j ≤ n ∧ wr = W1 ∧ (((pieces s.data.toList).take j).all fun c => !bad c) = true) (fun i _ => n - (intOf i).toNat)
  case atStart => exact ⟨0, rfl, Nat.zero_le _, rfl, rfl⟩
  case round =>
    obtain ⟨j, rfl, hj, rfl, hg⟩ := hrel
    have HG : Hid ((((pieces s.data.toList).take j).all fun c => !bad c) = true) := hg
    clear hg
    by_cases hlt : j < n
    · have hlt' : j < (pieces s.data.toList).length := by rw [← HN.out]; exact hlt
      obtain ⟨g, rfl, _, hrow⟩ := row_at hown (by rw [elems_len]; exact HN.out.symm) (by omega)
      obtain ⟨_, _, _, hc3⟩ := hrow j (by rw [elems_len]; exact hlt')
      rw [elems_get _ j hlt' 0] at hc3
      simp only at hc3
      clear hrow
      cases hbad : bad ((pieces s.data.toList)[j]'hlt') with
      | true =>
        rw [hbad] at hc3
        have HV : Hid (valid s.data.toList = false) := by
          show valid s.data.toList = false
          unfold valid
          rw [List.all_eq_false]
          exact ⟨_, List.getElem_mem hlt', by simp [hbad]⟩
        clear hbad
        go_wp2
        go_ret
        exact ⟨by rw [HV.out]; rfl, hb⟩
      | false =>
        rw [hbad] at hc3
        have HV : Hid ((((pieces s.data.toList).take (j + 1)).all fun c => !bad c) = true) := by
          show (((pieces s.data.toList).take (j + 1)).all fun c => !bad c) = true
          rw [List.take_succ_eq_append_getElem hlt', List.all_append, HG.out]
          simp [hbad]
        clear hbad
        go_wp2
        go_roundw
        case rel => exact ⟨j + 1, by go_num, by omega, by trivial, HV.out⟩
        case measure => simp [intOf]; omega
    · have HV : Hid (valid s.data.toList = true) := by
        show valid s.data.toList = true
        have := HG.out
        rw [List.take_of_length_le (by rw [← HN.out]; omega)] at this
        exact this
      go_wp2
      go_ret
      exact ⟨by rw [HV.out]; rfl, hb⟩

end Go.Proofs.Ytggognmbjgkdfaa
