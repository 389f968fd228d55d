/-
  What runes' functions answer: broken, Valid, Count, At.
-/
import Derived.Test.YtmijhgecdkdkmaaPure
import Derived.Test.YtmijhgecdkdkmaaBuild
import Derived.Lib.IndexBytes
import Derived.WalkSpells
import Derived.BigCall
set_option linter.unusedVariables false
namespace Go.Proofs.Ytmijhgecdkdkmaa
open Go.RowKit

theorem size_len (s : ByteArray) : s.size = s.data.toList.length := by simp
theorem hp_lost : (⟨#[239, 191, 189]⟩ : ByteArray).data.toList = [239, 191, 189] := rfl

set_option maxHeartbeats 1000000 in
set_option maxRecDepth 100000 in
theorem broken_any (s : ByteArray) (p : Nat) (r : Int) (w : World) (hp : p ≤ s.size) (hs : s.size ≤ maxLen) :
    Calls Try.prog 32 #[.string s, .int .i64 p, .int .i32 r] w fun e w' => e = .returned (.bool (decide (r = 65533) && !Lib.hasPrefix (s.data.toList.drop p) [239, 191, 189])) ∧ w = w' := by
  unfold maxLen at hs
  by_cases hr : r = 65533
  · subst hr
    go_enter Try.func32, Try.ntmps32
    go_wp2_with (go_at_call 43; refine (Try.strings_HasPrefix _ _ _).mono ?_; rintro e w' ⟨rfl, rfl⟩)
    go_ret
    refine ⟨?_, rfl⟩
    show Ending.returned (.bool (!Lib.hasPrefix (List.take (s.size - p) (List.drop p s.data.toList)) [239, 191, 189])) = _
    rw [List.take_of_length_le (by simp)]
    simp
  · have hr' : (r == 65533) = false := by simpa using hr
    go_enter Try.func32, Try.ntmps32
    go_wp2_with fail
    go_ret
    exact ⟨by simp [hr], rfl⟩

/-- At a rune of a text. -/
theorem broken_piece (s : ByteArray) (p : Nat) (r : Int) (w : World) (hp : p < s.size) (hs : s.size ≤ maxLen) (hr : r = ((Utf8.decode s p).1 : Int)) :
    Calls Try.prog 32 #[.string s, .int .i64 p, .int .i32 r] w fun e w' => e = .returned (.bool (bad (pieceAt s.data.toList p))) ∧ w = w' := by
  refine (broken_any s p r w (by omega) hs).mono ?_
  rintro e w' ⟨rfl, rfl⟩
  refine ⟨?_, rfl⟩
  rw [← broken_at s.data.toList p (by rw [← size_len]; exact hp), hr, dec_at]
  congr 3
  simp
  omega

set_option maxHeartbeats 2000000 in
set_option maxRecDepth 100000 in
theorem Count_any (s : ByteArray) (w : World) (hs : s.size ≤ maxLen) :
    Calls Try.prog 26 #[.string s] w fun e w' => e = .returned (.int .i64 (pieces s.data.toList).length) ∧ Below w.heap.size w w' := by
  unfold maxLen at hs
  go_enter Try.func26, Try.ntmps26
  go_wp2
  go_loopw [3] (fun n wr => ∃ (pos : Nat) (pre : List (List UInt8)), wr = w.iter s pos ∧ n = .int .i64 pre.length ∧ upTo s.data.toList pre pos) (fun _ wr => s.size - wr.iterPos w.heap.size)
  case atStart => exact ⟨0, [], rfl, rfl, upTo_start _⟩
  case round =>
    obtain ⟨pos, pre, rfl, rfl, hu⟩ := hrel
    have hcnt := upTo_count hu
    rw [← size_len] at hcnt
    by_cases hp : pos < s.size
    · have hnx : ∀ ty, (Instr.next (.pointer (some ⟨w.heap.size, 0, none⟩)) true ty).run Try.prog (w.iter s pos) = _ := fun ty => run_next_any w s pos ty hp
      have hstep := upTo_step hu (by rw [← size_len]; exact hp)
      rw [← dec_at] at hstep
      have hc1 : pre.length + 1 ≤ s.size := by have := upTo_count hstep; rw [← size_len] at this; simpa using this
      have hwd := (dec_width (s.data.toList.drop pos) (by intro h0; have := congrArg List.length h0; simp at this; omega)).1
      rw [← dec_at] at hwd
      go_wp2
      go_roundw
      case rel => exact ⟨_, _, rfl, by simp, hstep⟩
      case measure =>
        simp
        omega
    · have hnx : ∀ ty, (Instr.next (.pointer (some ⟨w.heap.size, 0, none⟩)) true ty).run Try.prog (w.iter s pos) = _ := fun ty => run_next_end w s pos ty hp
      go_wp2
      go_ret
      rw [upTo_end hu (by rw [← size_len]; exact hp)]
      exact ⟨rfl, (Below.refl _ w).alloc (Nat.le_refl _) _⟩

set_option maxHeartbeats 2000000 in
set_option maxRecDepth 100000 in
theorem Valid_any (s : ByteArray) (w : World) (hs : s.size ≤ maxLen) :
    Calls Try.prog 37 #[.string s] w fun e w' => e = .returned (.bool (valid s.data.toList)) ∧ Below w.heap.size w w' := by
  have hs0 := hs
  unfold maxLen at hs
  go_enter Try.func37, Try.ntmps37
  go_wp2
  go_loopw [] (fun wr => ∃ (pos : Nat) (pre : List (List UInt8)), wr = w.iter s pos ∧ upTo s.data.toList pre pos ∧ (pre.all fun c => !bad c) = true) (fun wr => s.size - wr.iterPos w.heap.size)
  case atStart => exact ⟨0, [], rfl, upTo_start _, rfl⟩
  case round =>
    obtain ⟨pos, pre, rfl, hu, hg⟩ := hrel
    by_cases hp : pos < s.size
    · have hnx : ∀ ty, (Instr.next (.pointer (some ⟨w.heap.size, 0, none⟩)) true ty).run Try.prog (w.iter s pos) = _ := fun ty => run_next_any w s pos ty hp
      have hstep := upTo_step hu (by rw [← size_len]; exact hp)
      have hmore := upTo_more hu (by rw [← size_len]; exact hp)
      rw [← dec_at] at hstep hmore
      have hwd := (dec_width (s.data.toList.drop pos) (by intro h0; have := congrArg List.length h0; simp at this; omega)).1
      rw [← dec_at] at hwd
      have HM : Hid (pieces s.data.toList = _) := hmore
      clear hmore
      have HG : Hid ((pre.all fun c => !bad c) = true) := hg
      clear hg
      cases hbad : bad (pieceAt s.data.toList pos) with
      | false =>
        have hc := fun wx => broken_piece s pos ((Utf8.decode s pos).1 : Int) wx hp hs0 rfl
        rw [hbad] at hc
        have HB : Hid (bad (pieceAt s.data.toList pos) = false) := hbad
        clear hbad
        go_wp2_with (go_at_call 32; refine (hc _).mono ?_; rintro e w' ⟨rfl, rfl⟩)
        go_roundw
        case rel => exact ⟨_, _, rfl, hstep, by rw [List.all_append, HG.out]; simp [HB.out]⟩
        case measure =>
          simp
          omega
      | true =>
        have hc := fun wx => broken_piece s pos ((Utf8.decode s pos).1 : Int) wx hp hs0 rfl
        rw [hbad] at hc
        have HB : Hid (bad (pieceAt s.data.toList pos) = true) := hbad
        clear hbad
        go_wp2_with (go_at_call 32; refine (hc _).mono ?_; rintro e w' ⟨rfl, rfl⟩)
        go_ret
        refine ⟨?_, (Below.refl _ w).alloc (Nat.le_refl _) _⟩
        unfold valid
        rw [HM.out]
        simp [HB.out]
    · have hnx : ∀ ty, (Instr.next (.pointer (some ⟨w.heap.size, 0, none⟩)) true ty).run Try.prog (w.iter s pos) = _ := fun ty => run_next_end w s pos ty hp
      have HG : Hid ((pre.all fun c => !bad c) = true) := hg
      clear hg
      go_wp2
      go_ret
      refine ⟨?_, (Below.refl _ w).alloc (Nat.le_refl _) _⟩
      unfold valid
      rw [upTo_end hu (by rw [← size_len]; exact hp), HG.out]
      rfl

/-- The rune k of a text: what it is, and where. -/
def atOf (l : List UInt8) (k : Int) : Option (Nat × Nat) :=
  if 0 ≤ k ∧ k < (pieces l).length then some ((dec ((pieces l).getD k.toNat [])).1, ((pieces l).take k.toNat).flatten.length) else none
def atVal : Option (Nat × Nat) → Ending
  | some (r, p) => .returned (.tuple #[.int .i32 r, .int .i64 p, .bool true])
  | none => .returned (.tuple #[.int .i32 0, .int .i64 0, .bool false])

theorem atOf_here {l : List UInt8} {pre : List (List UInt8)} {pos : Nat} (h : upTo l pre pos) (hp : pos < l.length) : atOf l (pre.length : Int) = some ((dec (l.drop pos)).1, pos) := by
  have hm := upTo_more h hp
  have hd := (pieceAt_is l pos hp).2.2
  unfold atOf
  rw [if_pos ⟨by omega, by rw [hm]; simp; omega⟩, hm]
  simp [upTo_len h, hd]

theorem atOf_past (l : List UInt8) (k : Int) (h : k < 0 ∨ ((pieces l).length : Int) ≤ k) : atOf l k = none := by
  unfold atOf
  rw [if_neg (by omega)]

set_option maxHeartbeats 2000000 in
set_option maxRecDepth 100000 in
theorem At_any (s : ByteArray) (k : Int) (w : World) (hs : s.size ≤ maxLen) :
    Calls Try.prog 25 #[.string s, .int .i64 k] w fun e w' => e = atVal (atOf s.data.toList k) ∧ Below w.heap.size w w' := by
  unfold maxLen at hs
  go_enter Try.func25, Try.ntmps25
  go_wp2
  go_loopw [7] (fun n wr => ∃ (pos : Nat) (pre : List (List UInt8)), wr = w.iter s pos ∧ n = .int .i64 pre.length ∧ upTo s.data.toList pre pos ∧ (k < 0 ∨ (pre.length : Int) ≤ k)) (fun _ wr => s.size - wr.iterPos w.heap.size)
  case atStart => exact ⟨0, [], rfl, rfl, upTo_start _, by simp; omega⟩
  case round =>
    obtain ⟨pos, pre, rfl, rfl, hu, hk⟩ := hrel
    have hcnt := upTo_count hu
    rw [← size_len] at hcnt
    by_cases hp : pos < s.size
    · have hnx : ∀ ty, (Instr.next (.pointer (some ⟨w.heap.size, 0, none⟩)) true ty).run Try.prog (w.iter s pos) = _ := fun ty => run_next_any w s pos ty hp
      have hstep := upTo_step hu (by rw [← size_len]; exact hp)
      have hhere := atOf_here hu (by rw [← size_len]; exact hp)
      rw [← dec_at] at hstep hhere
      have hc1 : pre.length + 1 ≤ s.size := by have := upTo_count hstep; rw [← size_len] at this; simpa using this
      have hwd := (dec_width (s.data.toList.drop pos) (by intro h0; have := congrArg List.length h0; simp at this; omega)).1
      rw [← dec_at] at hwd
      have HH : Hid (atOf s.data.toList (pre.length : Int) = _) := hhere
      clear hhere
      by_cases hkk : (pre.length : Int) = k
      · subst hkk
        go_wp2
        go_ret3
        rw [HH.out]
        exact ⟨rfl, (Below.refl _ w).alloc (Nat.le_refl _) _⟩
      · have hkb : ((pre.length : Int) == k) = false := by simpa using hkk
        go_wp2
        go_roundw
        case rel => exact ⟨_, _, rfl, by simp, hstep, by simp; omega⟩
        case measure =>
          simp
          omega
    · have hnx : ∀ ty, (Instr.next (.pointer (some ⟨w.heap.size, 0, none⟩)) true ty).run Try.prog (w.iter s pos) = _ := fun ty => run_next_end w s pos ty hp
      have hend := atOf_past s.data.toList k (by rw [upTo_end hu (by rw [← size_len]; exact hp)]; exact hk)
      have HH : Hid (atOf s.data.toList k = none) := hend
      clear hend
      go_wp2
      go_ret3
      rw [HH.out]
      exact ⟨rfl, (Below.refl _ w).alloc (Nat.le_refl _) _⟩

end Go.Proofs.Ytmijhgecdkdkmaa
