/-
  What runes.Name and runes.Key answer.
-/
import Derived.Test.YtggognmbjgkdfaaRuA
import Derived.WalkLawsBesides
set_option linter.unusedVariables false
namespace Go.Proofs.Ytggognmbjgkdfaa
open Go.RowKit

/-- A name's runes, a key's. -/
def nameOk (r : Nat) : Bool :=
  decide (97 ≤ r ∧ r ≤ 122) || decide (65 ≤ r ∧ r ≤ 90) || decide (48 ≤ r ∧ r ≤ 57) || decide (r = 45) || decide (r = 95) || decide (r = 46) || decide (r = 47) || decide (161 ≤ r)
def keyOk (r : Nat) : Bool := decide (32 ≤ r) && decide (r ≠ 127)

theorem nameOk_eq {r : Nat} {b : Bool} (h : (b = true) ↔ (97 ≤ r ∧ r ≤ 122 ∨ 65 ≤ r ∧ r ≤ 90 ∨ 48 ≤ r ∧ r ≤ 57 ∨ r = 45 ∨ r = 95 ∨ r = 46 ∨ r = 47 ∨ 161 ≤ r)) : b = nameOk r := by
  rw [Bool.eq_iff_iff, h]
  simp only [nameOk, Bool.or_eq_true, decide_eq_true_eq]
  omega
theorem keyOk_eq {r : Nat} {b : Bool} (h : (b = true) ↔ (32 ≤ r ∧ r ≠ 127)) : b = keyOk r := by
  rw [Bool.eq_iff_iff, h]
  simp only [keyOk, Bool.and_eq_true, decide_eq_true_eq]

theorem ret_bool {a b : Bool} (h : a = b) : Ending.returned (.bool a) = .returned (.bool b) := by rw [h]

set_option maxHeartbeats 2000000 in
set_option maxRecDepth 100000 in
theorem nameRune_any (r : Nat) (w : World) (hr : r ≤ 1114111) :
    Calls Try.prog 106 #[.int .i32 r] w fun e w' => e = .returned (.bool (nameOk r)) ∧ w = w' := by
  go_enter Try.func106, Try.ntmps106
  go_wp2
  all_goals (go_ret)
  all_goals (refine ⟨ret_bool (nameOk_eq ?_), rfl⟩)
  all_goals simp_all
  all_goals omega

set_option maxHeartbeats 2000000 in
set_option maxRecDepth 100000 in
theorem keyRune_any (r : Nat) (w : World) (hr : r ≤ 1114111) :
    Calls Try.prog 103 #[.int .i32 r] w fun e w' => e = .returned (.bool (keyOk r)) ∧ w = w' := by
  go_enter Try.func103, Try.ntmps103
  go_wp2
  all_goals (go_ret)
  all_goals (refine ⟨ret_bool (keyOk_eq ?_), rfl⟩)
  all_goals simp_all
  all_goals omega

/-- Is a text made of so many runes, each of a kind? -/
def madeOf (most : Nat) (ok : Nat → Bool) (l : List UInt8) : Bool := decide ((pieces l).length ≤ most) && (pieces l).all fun c => !bad c && ok (dec c).1

theorem madeOf_more {most : Nat} {ok : Nat → Bool} {l : List UInt8} {pre : List (List UInt8)} {pos : Nat} (h : upTo l pre pos) (hp : pos < l.length)
    (hno : most < pre.length + 1 ∨ bad (pieceAt l pos) = true ∨ ok (dec (l.drop pos)).1 = false) : madeOf most ok l = false := by
  have hm := upTo_more h hp
  have hd := (pieceAt_is l pos hp).2.2
  unfold madeOf
  rcases hno with hno | hno | hno
  · rw [decide_eq_false (by rw [hm]; simp; omega)]; rfl
  · rw [hm]; simp [hno]
  · rw [← hd] at hno; rw [hm]; simp [hno]

theorem madeOf_end {most : Nat} {ok : Nat → Bool} {l : List UInt8} {pre : List (List UInt8)} {pos : Nat} (h : upTo l pre pos) (hp : ¬ pos < l.length)
    (hm : pre.length ≤ most) (hg : (pre.all fun c => !bad c && ok (dec c).1) = true) : madeOf most ok l = true := by
  unfold madeOf
  rw [upTo_end h hp, hg]
  simp [hm]

set_option maxHeartbeats 4000000 in
set_option maxRecDepth 1000000 in
theorem made_any (s : ByteArray) (most : Nat) (K : Nat) (ok : Nat → Bool) (w : World) (hs : s.size ≤ maxLen) (hmost : most ≤ 1000)
    (hent : ∀ args wx, (callFunc K args).run Try.prog wx = .ok (.enter K args) wx)
    (hK : ∀ (r : Nat) (wx : World), r ≤ 1114111 → Calls Try.prog K #[.int .i32 r] wx fun e w' => e = .returned (.bool (ok r)) ∧ wx = w') :
    Calls Try.prog 102 #[.string s, .int .i64 most, .func (.func K) #[] #[]] w fun e w' => e = .returned (.bool (madeOf most ok s.data.toList)) ∧ Below w.heap.size w w' := by
  have hs0 := hs
  unfold maxLen at hs
  go_enter Try.func102, Try.ntmps102
  go_wp2
  go_loopw [7] (fun n wr => ∃ (pos : Nat) (pre : List (List UInt8)), wr = w.iter s pos ∧ n = .int .i64 pre.length ∧ upTo s.data.toList pre pos ∧ pre.length ≤ most ∧ (pre.all fun c => !bad c && ok (dec c).1) = true) (fun _ wr => s.size - wr.iterPos w.heap.size)
  case atStart => exact ⟨0, [], rfl, rfl, upTo_start _, by simp, rfl⟩
  case round =>
    obtain ⟨pos, pre, rfl, rfl, hu, hmo, hg⟩ := hrel
    have HG : Hid ((pre.all fun c => !bad c && ok (dec c).1) = true) := hg
    clear hg
    by_cases hp : pos < s.size
    · have hpl : pos < s.data.toList.length := by rw [← size_len]; exact hp
      have hnx : ∀ ty, (Instr.next (.pointer (some ⟨w.heap.size, 0, none⟩)) true ty).run Try.prog (w.iter s pos) = _ := fun ty => run_next_any w s pos ty hp
      have hstep := upTo_step hu hpl
      have hno := @madeOf_more most ok _ _ _ hu hpl
      obtain ⟨hpc, hpl2, hpd⟩ := pieceAt_is s.data.toList pos hpl
      have hwd := (dec_width (s.data.toList.drop pos) (by intro h0; have := congrArg List.length h0; simp at this; omega)).1
      have hbr := fun wx => broken_piece s pos ((Utf8.decode s pos).1 : Int) wx hp hs0 rfl
      have hr4 := dec_rune (s.data.toList.drop pos)
      rw [← dec_at] at hstep hno hwd hpd hr4
      obtain ⟨r, wd, hdec⟩ : ∃ r wd, Utf8.decode s pos = (r, wd) := ⟨_, _, rfl⟩
      rw [hdec] at hnx hstep hwd hbr hno hpd hr4
      simp only at hnx hstep hwd hbr hno hr4
      clear hdec hpl2
      have hKr := fun wx => hK r wx hr4
      have hdr : (dec (pieceAt s.data.toList pos)).1 = r := by rw [hpd]
      clear hpd hK
      have HNO : Hid (most < pre.length + 1 ∨ bad (pieceAt s.data.toList pos) = true ∨ ok r = false → madeOf most ok s.data.toList = false) := hno
      clear hno
      by_cases hmore : most < pre.length + 1
      · have hgt : (most : Int) < (pre.length : Int) + 1 := by omega
        go_wp2
        go_ret
        rw [HNO.out (Or.inl hmore)]
        exact ⟨rfl, (Below.refl _ w).alloc (Nat.le_refl _) _⟩
      have hgt : ¬ (most : Int) < (pre.length : Int) + 1 := by omega
      cases hb : bad (pieceAt s.data.toList pos) with
      | true =>
        rw [hb] at hbr
        have HF := HNO.out (Or.inr (Or.inl hb))
        have HF' : Hid (madeOf most ok s.data.toList = false) := HF
        clear HF hb HNO
        go_wp2_with (go_at_call 107; refine (hbr _).mono ?_; rintro e w' ⟨rfl, rfl⟩)
        go_ret
        rw [HF'.out]
        exact ⟨rfl, (Below.refl _ w).alloc (Nat.le_refl _) _⟩
      | false =>
        rw [hb] at hbr
        cases hk : ok r with
        | false =>
          rw [hk] at hKr
          have HF := HNO.out (Or.inr (Or.inr hk))
          have HF' : Hid (madeOf most ok s.data.toList = false) := HF
          clear HF hb HNO hk
          go_wp2_with (first | (go_at_call 107; refine (hbr _).mono ?_; rintro e w' ⟨rfl, rfl⟩) | (refine (hKr _).mono ?_; rintro e w' ⟨rfl, rfl⟩))
          go_ret
          rw [HF'.out]
          exact ⟨rfl, (Below.refl _ w).alloc (Nat.le_refl _) _⟩
        | true =>
          rw [hk] at hKr
          have HB : Hid (bad (pieceAt s.data.toList pos) = false ∧ ok r = true ∧ (dec (pieceAt s.data.toList pos)).1 = r) := ⟨hb, hk, hdr⟩
          clear hb HNO hk hdr
          go_wp2_with (first | (go_at_call 107; refine (hbr _).mono ?_; rintro e w' ⟨rfl, rfl⟩) | (refine (hKr _).mono ?_; rintro e w' ⟨rfl, rfl⟩))
          go_roundw
          case rel => exact ⟨_, _, rfl, by simp, hstep, by simp; omega, by rw [List.all_append, HG.out]; simp [HB.out.1, HB.out.2.2, HB.out.2.1]⟩
          case measure =>
            simp
            omega
    · have hnx : ∀ ty, (Instr.next (.pointer (some ⟨w.heap.size, 0, none⟩)) true ty).run Try.prog (w.iter s pos) = _ := fun ty => run_next_end w s pos ty hp
      have HF' : Hid (madeOf most ok s.data.toList = true) := madeOf_end hu (by rw [← size_len]; exact hp) hmo HG.out
      go_wp2
      go_ret
      rw [HF'.out]
      exact ⟨rfl, (Below.refl _ w).alloc (Nat.le_refl _) _⟩

/-- What a name is, a key. -/
def isName (l : List UInt8) : Bool := !l.isEmpty && madeOf 40 nameOk l
def isKey (l : List UInt8) : Bool := madeOf 40 keyOk l

set_option maxHeartbeats 2000000 in
set_option maxRecDepth 100000 in
theorem Key_any (s : ByteArray) (w : World) (hs : s.size ≤ maxLen) :
    Calls Try.prog 74 #[.string s] w fun e w' => e = .returned (.bool (isKey s.data.toList)) ∧ Below w.heap.size w w' := by
  have hm := made_any s 40 103 keyOk w hs (by omega) (fun args wx => enters_of Try.func103 (by kernel_rfl) rfl args wx) (fun r wx hr => keyRune_any r wx hr)
  go_enter Try.func74, Try.ntmps74
  go_wp2_with (go_at_call 102; refine hm.mono ?_)
  first | rintro e W1 rfl b1 | rintro e W1 ⟨rfl, b1⟩
  go_wp2
  go_ret
  exact ⟨rfl, b1⟩

set_option maxHeartbeats 2000000 in
set_option maxRecDepth 100000 in
theorem Name_any (s : ByteArray) (w : World) (hs : s.size ≤ maxLen) :
    Calls Try.prog 81 #[.string s] w fun e w' => e = .returned (.bool (isName s.data.toList)) ∧ Below w.heap.size w w' := by
  have hm := made_any s 40 106 nameOk w hs (by omega) (fun args wx => enters_of Try.func106 (by kernel_rfl) rfl args wx) (fun r wx hr => nameRune_any r wx hr)
  by_cases h0 : s.data.toList = []
  · have he : s.toList.isEmpty = true := by rw [Lib.toList_data, h0]; rfl
    have hb : isName s.data.toList = false := by rw [h0]; rfl
    have HB : Hid (isName s.data.toList = false) := hb
    clear hb h0 hm
    go_enter Try.func81, Try.ntmps81
    go_wp2
    go_ret
    rw [HB.out]
    exact ⟨rfl, Below.refl _ _⟩
  · have he : s.toList.isEmpty = false := by rw [Lib.toList_data]; simpa using h0
    have hb : isName s.data.toList = madeOf 40 nameOk s.data.toList := by unfold isName; rw [← Lib.toList_data, he]; rfl
    have HB : Hid (isName s.data.toList = madeOf 40 nameOk s.data.toList) := hb
    clear hb h0
    go_enter Try.func81, Try.ntmps81
    go_wp2_with (go_at_call 102; refine hm.mono ?_)
    first | rintro e W1 rfl b1 | rintro e W1 ⟨rfl, b1⟩
    go_wp2
    go_ret
    rw [HB.out]
    exact ⟨rfl, b1⟩
end Go.Proofs.Ytggognmbjgkdfaa
