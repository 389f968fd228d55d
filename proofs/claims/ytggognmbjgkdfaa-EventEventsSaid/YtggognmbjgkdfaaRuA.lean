/-
  What runes' functions answer: broken, Valid.
-/
import Derived.Test.YtggognmbjgkdfaaPure
import Derived.Test.YtggognmbjgkdfaaByA
import Derived.Test.YtggognmbjgkdfaaShelf
import Derived.Lib.IndexBytes
import Derived.WalkSpells
import Derived.BigCall
set_option linter.unusedVariables false
namespace Go.Proofs.Ytggognmbjgkdfaa
open Go.RowKit

theorem size_len (s : ByteArray) : s.size = s.data.toList.length := by simp
theorem hp_lost : (⟨#[239, 191, 189]⟩ : ByteArray).data.toList = [239, 191, 189] := rfl

set_option maxHeartbeats 1000000 in
set_option maxRecDepth 100000 in
theorem broken_any (s : ByteArray) (p : Nat) (r : Int) (w : World) (hp : p ≤ s.size) (hs : s.size ≤ maxLen) :
    Calls Try.prog 107 #[.string s, .int .i64 p, .int .i32 r] w fun e w' => e = .returned (.bool (decide (r = 65533) && !Lib.hasPrefix (s.data.toList.drop p) [239, 191, 189])) ∧ w = w' := by
  unfold maxLen at hs
  by_cases hr : r = 65533
  · subst hr
    go_enter Try.func107, Try.ntmps107
    go_wp2_with (go_at_call 116; refine (Try.strings_HasPrefix _ _ _).mono ?_; rintro e w' ⟨rfl, rfl⟩)
    go_ret
    refine ⟨?_, rfl⟩
    show Ending.returned (.bool (!Lib.hasPrefix (List.take (s.size - p) (List.drop p s.data.toList)) [239, 191, 189])) = _
    rw [List.take_of_length_le (by simp)]
    simp
  · have hr' : (r == 65533) = false := by simpa using hr
    go_enter Try.func107, Try.ntmps107
    go_wp2_with fail
    go_ret
    exact ⟨by simp [hr], rfl⟩

/-- At a rune of a text. -/
theorem broken_piece (s : ByteArray) (p : Nat) (r : Int) (w : World) (hp : p < s.size) (hs : s.size ≤ maxLen) (hr : r = ((Utf8.decode s p).1 : Int)) :
    Calls Try.prog 107 #[.string s, .int .i64 p, .int .i32 r] w fun e w' => e = .returned (.bool (bad (pieceAt s.data.toList p))) ∧ w = w' := by
  refine (broken_any s p r w (by omega) hs).mono ?_
  rintro e w' ⟨rfl, rfl⟩
  refine ⟨?_, rfl⟩
  rw [← broken_at s.data.toList p (by rw [← size_len]; exact hp), hr, dec_at]
  congr 3
  simp
  omega

set_option maxHeartbeats 2000000 in
set_option maxRecDepth 100000 in
theorem Valid_any (s : ByteArray) (w : World) (hs : s.size ≤ maxLen) :
    Calls Try.prog 83 #[.string s] w fun e w' => e = .returned (.bool (valid s.data.toList)) ∧ Below w.heap.size w w' := by
  have hs0 := hs
  unfold maxLen at hs
  go_enter Try.func83, Try.ntmps83
  go_wp2
  go_loopw [] (fun wr => ∃ (pos : Nat) (pre : List (List UInt8)), wr = w.iter s pos ∧ upTo s.data.toList pre pos ∧ (pre.all fun c => !bad c) = true) (fun wr => s.size - wr.iterPos w.heap.size)
  case atStart => exact ⟨0, [], rfl, upTo_start _, rfl⟩
  case round =>
    obtain ⟨pos, pre, rfl, hu, hg⟩ := hrel
    by_cases hp : pos < s.size
    · have hnx : ∀ ty, (Instr.next (.pointer (some ⟨w.heap.size, 0, none⟩)) true ty).run Try.prog (w.iter s pos) = _ := fun ty => run_next_any w s pos ty hp
      have hstep := upTo_step hu (by rw [← size_len]; exact hp)
      have hmore := upTo_more hu (by rw [← size_len]; exact hp)
      rw [← dec_at] at hstep hmore
      have hwd := (dec_width (s.data.toList.drop pos) (by intro h0; have := congrArg List.length h0; simp at this; omega)).1
      rw [← dec_at] at hwd
      have HM : Hid (pieces s.data.toList = _) := hmore
      clear hmore
      have HG : Hid ((pre.all fun c => !bad c) = true) := hg
      clear hg
      cases hbad : bad (pieceAt s.data.toList pos) with
      | false =>
        have hc := fun wx => broken_piece s pos ((Utf8.decode s pos).1 : Int) wx hp hs0 rfl
        rw [hbad] at hc
        have HB : Hid (bad (pieceAt s.data.toList pos) = false) := hbad
        clear hbad
        go_wp2_with (go_at_call 107; refine (hc _).mono ?_; rintro e w' ⟨rfl, rfl⟩)
        go_roundw
        case rel => exact ⟨_, _, rfl, hstep, by rw [List.all_append, HG.out]; simp [HB.out]⟩
        case measure =>
          simp
          omega
      | true =>
        have hc := fun wx => broken_piece s pos ((Utf8.decode s pos).1 : Int) wx hp hs0 rfl
        rw [hbad] at hc
        have HB : Hid (bad (pieceAt s.data.toList pos) = true) := hbad
        clear hbad
        go_wp2_with (go_at_call 107; refine (hc _).mono ?_; rintro e w' ⟨rfl, rfl⟩)
        go_ret
        refine ⟨?_, (Below.refl _ w).alloc (Nat.le_refl _) _⟩
        unfold valid
        rw [HM.out]
        simp [HB.out]
    · have hnx : ∀ ty, (Instr.next (.pointer (some ⟨w.heap.size, 0, none⟩)) true ty).run Try.prog (w.iter s pos) = _ := fun ty => run_next_end w s pos ty hp
      have HG : Hid ((pre.all fun c => !bad c) = true) := hg
      clear hg
      go_wp2
      go_ret
      refine ⟨?_, (Below.refl _ w).alloc (Nat.le_refl _) _⟩
      unfold valid
      rw [upTo_end hu (by rw [← size_len]; exact hp), HG.out]
      rfl

end Go.Proofs.Ytggognmbjgkdfaa
