/-
  What runes.Cut answers.
-/
import Derived.Test.YthjcljgkgahglaaForms
set_option linter.unusedVariables false
namespace Go.Proofs.Ythjcljgkgahglaa
open Go.RowKit

def cutL (l : List UInt8) (n : Int) : List UInt8 := ((pieces l).take n.toNat).flatten
def cuB (s : ByteArray) (n : Int) : ByteArray := ⟨(cutL s.data.toList n).toArray⟩

theorem cutL_here {l : List UInt8} {pre : List (List UInt8)} {pos : Nat} {n : Int} (h : upTo l pre pos) (hk : pre.length = 0 ∨ (pre.length : Int) ≤ n) (hn : n ≤ (pre.length : Int)) : cutL l n = l.take pos := by
  have e : n.toNat = pre.length := by omega
  unfold cutL
  rw [h.1, e, List.take_append_of_le_length (Nat.le_refl _), List.take_length, h.2.1]

theorem cutL_all {l : List UInt8} {pre : List (List UInt8)} {pos : Nat} {n : Int} (h : upTo l pre pos) (hp : ¬ pos < l.length) (hk : pre.length = 0 ∨ (pre.length : Int) ≤ n) : cutL l n = l := by
  have hpe := upTo_end h hp
  unfold cutL
  rw [List.take_of_length_le (by rw [hpe]; omega), pieces_flatten]

theorem list_mk (s : ByteArray) : (⟨s.data.toList.toArray⟩ : ByteArray) = s := by cases s; simp

theorem clone_any (s : ByteArray) (w : World) (hs : s.size ≤ 281474976710656) :
    Calls Try.prog 36 #[.string s] w fun e w' => e = .returned (.string s) ∧ Below w.heap.size w w' := by
  go_enter Try.func36, Try.ntmps36
  go_wp2_with (go_at_call 45; refine (Try.stringslite_Clone _ _ hs).mono ?_)
  first | rintro e W1 rfl b1 | rintro e W1 ⟨rfl, b1⟩
  go_wp2
  go_ret
  exact ⟨rfl, b1⟩

set_option maxHeartbeats 2000000 in
set_option maxRecDepth 100000 in
theorem Cut_any (s : ByteArray) (n : Int) (w : World) (hs : s.size ≤ 1000000) :
    Calls Try.prog 24 #[.string s, .int .i64 n] w fun e w' => e = .returned (.string (cuB s n)) ∧ Below w.heap.size w w' := by
  go_enter Try.func24, Try.ntmps24
  go_wp2
  go_loopw [5] (fun k wr => ∃ (pos : Nat) (pre : List (List UInt8)), wr = w.iter s pos ∧ k = .int .i64 pre.length ∧ upTo s.data.toList pre pos ∧ (pre.length = 0 ∨ (pre.length : Int) ≤ n)) (fun _ wr => s.size - wr.iterPos w.heap.size)
  case atStart => exact ⟨0, [], rfl, rfl, upTo_start _, Or.inl rfl⟩
  case round =>
    obtain ⟨pos, pre, rfl, rfl, hu, hk⟩ := hrel
    have hcnt := upTo_count hu
    rw [← size_len] at hcnt
    by_cases hp : pos < s.size
    · have hpl : pos < s.data.toList.length := by rw [← size_len]; exact hp
      have hnx : ∀ ty, (Instr.next (.pointer (some ⟨w.heap.size, 0, none⟩)) true ty).run Try.prog (w.iter s pos) = _ := fun ty => run_next_any w s pos ty hp
      have hstep := upTo_step hu hpl
      have hwd := (dec_width (s.data.toList.drop pos) (by intro h0; have := congrArg List.length h0; simp at this; omega)).1
      rw [← dec_at] at hstep hwd
      by_cases hkn : n ≤ (pre.length : Int)
      · have HC : Hid (cuB s n = s.extract 0 pos) := by
          show cuB s n = s.extract 0 pos
          apply Go.WideShapes.bytes_inj
          rw [Lib.extract_data]
          show cutL s.data.toList n = _
          rw [cutL_here hu hk hkn]
          simp
        have hcl := fun wx => clone_any (s.extract 0 pos) wx (by simp; omega)
        have hb : Below w.heap.size w ((w.iter s (pos + (Utf8.decode s pos).2))) := (Below.refl _ w).alloc (Nat.le_refl _) _
        clear hk hstep
        go_wp2_with (go_at_call 36; refine (base hb (hcl _)).mono ?_)
        first | rintro e W1 rfl b1 | rintro e W1 ⟨rfl, b1⟩
        go_wp2
        go_ret
        exact ⟨by rw [HC.out]; rfl, b1⟩
      · go_wp2
        go_roundw
        case rel => exact ⟨_, _, rfl, by simp, hstep, Or.inr (by simp; omega)⟩
        case measure =>
          simp
          omega
    · have hnx : ∀ ty, (Instr.next (.pointer (some ⟨w.heap.size, 0, none⟩)) true ty).run Try.prog (w.iter s pos) = _ := fun ty => run_next_end w s pos ty hp
      have HC : Hid (cuB s n = s) := by
        show cuB s n = s
        apply Go.WideShapes.bytes_inj
        exact cutL_all hu (by rw [← size_len]; exact hp) hk
      have hcl := fun wx => clone_any s wx (by omega)
      have hb : Below w.heap.size w (w.iter s pos) := (Below.refl _ w).alloc (Nat.le_refl _) _
      clear hk
      go_wp2_with (go_at_call 36; refine (base hb (hcl _)).mono ?_)
      first | rintro e W1 rfl b1 | rintro e W1 ⟨rfl, b1⟩
      go_wp2
      go_ret
      exact ⟨by rw [HC.out]; rfl, b1⟩

end Go.Proofs.Ythjcljgkgahglaa
