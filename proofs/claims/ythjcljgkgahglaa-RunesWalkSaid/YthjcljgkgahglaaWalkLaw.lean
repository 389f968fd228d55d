/-
  RunesWalk: the walk of the law's text.
-/
import Derived.Test.YthjcljgkgahglaaAwake
import Derived.Lib.Bytes
set_option linter.unusedVariables false
namespace Go.Proofs.Ythjcljgkgahglaa
open Go.RowKit

theorem below_size {B : Nat} {a b c : World} (h : Below B a b) (k : Below b.heap.size b c) (hB : B ≤ b.heap.size) : Below B a c := h.trans (k.mono hB)

theorem pieces_zero (l : List UInt8) : (pieces l).length = 0 ↔ l = [] := by
  constructor
  · intro h
    have := pieces_flatten l
    rw [List.length_eq_zero_iff.1 h] at this
    exact this.symm
  · rintro rfl; rfl

theorem At_here (s : ByteArray) (pos : Nat) (pre : List (List UInt8)) (w : World) (hs : s.size ≤ maxLen) (hp : pos < s.size) (hu : upTo s.data.toList pre pos) :
    Calls Try.prog 12 #[.string s, .int .i64 pre.length] w fun e w' => e = .returned (.tuple #[.int .i32 (Utf8.decode s pos).1, .int .i64 pos, .bool true]) ∧ Below w.heap.size w w' := by
  refine (At_any s _ w hs).mono ?_
  rintro e w' ⟨rfl, hb⟩
  refine ⟨?_, hb⟩
  rw [atOf_here hu (by rw [← size_len]; exact hp), dec_at]
  rfl
theorem At_past (s : ByteArray) (w : World) (hs : s.size ≤ maxLen) :
    Calls Try.prog 12 #[.string s, .int .i64 (pieces s.data.toList).length] w fun e w' => e = .returned (.tuple #[.int .i32 0, .int .i64 0, .bool false]) ∧ Below w.heap.size w w' := by
  refine (At_any s _ w hs).mono ?_
  rintro e w' ⟨rfl, hb⟩
  refine ⟨?_, hb⟩
  rw [atOf_past _ _ (Or.inr (by omega))]
  rfl

set_option maxHeartbeats 4000000 in
set_option maxRecDepth 1000000 in
theorem RunesWalk_walk (s : ByteArray) (hs : s.size ≤ maxLen) (w : World) :
    Calls Try.prog 7 #[.string s] w fun e w' => e = .returned (.bool true) ∧ Below w.heap.size w w' := by
  have hs0 := hs
  unfold maxLen at hs
  by_cases hbig : 1000 < s.size
  · go_enter Try.func7, Try.ntmps7
    go_wp2_with (go_at_call 11; refine (awake_any _).mono ?_)
    first | rintro e W1 rfl b1 | rintro e W1 ⟨rfl, b1⟩
    go_wp2
    go_ret
    exact ⟨rfl, b1⟩
  · obtain ⟨n, hn⟩ : ∃ n, n = (pieces s.data.toList).length := ⟨_, rfl⟩
    have hC := fun wx => Count_any s wx hs0
    have hAp := fun wx => At_past s wx hs0
    have hz0 := pieces_zero s.data.toList
    rw [← hn] at hC hAp hz0
    have HN : Hid (n = (pieces s.data.toList).length) := hn
    clear hn
    go_enter Try.func7, Try.ntmps7
    go_wp2_with (go_at_call 16; refine (hC _).mono ?_)
    first | rintro e W1 rfl b1 | rintro e W1 ⟨rfl, b1⟩
    have hz1 := b1.size
    go_wp2
    go_loopw [4, 5] (fun la i wr => ∃ (pos : Nat) (pre : List (List UInt8)) (lz : Int), wr.heap[W1.heap.size]? = some (.stringIter s pos) ∧ Below w.heap.size w wr ∧ upTo s.data.toList pre pos ∧ i = .int .i64 pre.length ∧ la = .int .i64 lz ∧ lz < pos) (fun _ _ wr => s.size - wr.iterPos W1.heap.size)
    case atStart => exact ⟨0, [], -1, World.iter_heap W1 s 0, b1.alloc (by omega) _, upTo_start _, rfl, rfl, by omega⟩
    case round =>
      obtain ⟨pos, pre, lz, hit, hbw, hu, rfl, rfl, hlz⟩ := hrel
      have hKz : W1.heap.size < wr.heap.size := (Array.getElem?_eq_some_iff.1 hit).1
      have hcnt := upTo_count hu
      rw [← size_len] at hcnt
      by_cases hp : pos < s.size
      · have hnx : ∀ ty, (Instr.next (.pointer (some ⟨W1.heap.size, 0, none⟩)) true ty).run Try.prog wr = _ := fun ty => Lib.run_next_any_at wr W1.heap.size s pos ty hit hp
        have hstep := upTo_step hu (by rw [← size_len]; exact hp)
        rw [← dec_at] at hstep
        have hwd := (dec_width (s.data.toList.drop pos) (by intro h0; have := congrArg List.length h0; simp at this; omega)).1
        rw [← dec_at] at hwd
        have hAt := fun wx => At_here s pos pre wx hs0 hp hu
        obtain ⟨r, wd, hdec⟩ : ∃ r wd, Utf8.decode s pos = (r, wd) := ⟨_, _, rfl⟩
        rw [hdec] at hnx hstep hwd hAt
        simp only at hnx hstep hwd hAt
        clear hdec
        have hit2 := Lib.iterAt_heap wr W1.heap.size s pos (pos + wd) hit
        have hbw2 := Lib.below_iterAt hbw (k := W1.heap.size) (by omega) s (pos + wd)
        go_wp2_with (go_at_call 12; refine (hAt _).mono ?_)
        first | rintro e W2 rfl b2 | rintro e W2 ⟨rfl, b2⟩
        have hz2 := b2.size
        rw [Lib.iterAt_size] at hz2
        have hit3 : W2.heap[W1.heap.size]? = some (.stringIter s (pos + wd)) := by rw [b2.block _ (by rw [Lib.iterAt_size]; omega)]; exact hit2
        have hbw3 : Below w.heap.size w W2 := hbw2.trans (b2.mono (by rw [Lib.iterAt_size]; omega))
        have hle : ¬ (pos : Int) ≤ lz := by omega
        clear hAt
        go_wp2
        go_roundw
        case rel => exact ⟨pos + wd, _, pos, hit3, hbw3, hstep, by simp, rfl, by omega⟩
        case measure =>
          simp only [World.iterPos, hit3, hit]
          omega
      · have hnx : ∀ ty, (Instr.next (.pointer (some ⟨W1.heap.size, 0, none⟩)) true ty).run Try.prog wr = _ := fun ty => Lib.run_next_end_at wr W1.heap.size s pos ty hit hp
        have hpn : ((pre.length : Int) == (n : Int)) = true := by
          have := HN.out; rw [upTo_end hu (by rw [← size_len]; exact hp)] at this; rw [this]; simp
        have hlast : ∃ q : Bool, ((n : Int) == 0) = q ∧ s.toList.isEmpty = q := by
          rw [Lib.toList_data]
          by_cases h0 : s.data.toList = []
          · exact ⟨true, by simp [hz0.2 h0], by rw [h0]; rfl⟩
          · exact ⟨false, beq_false_of_ne (fun e => h0 (hz0.1 (by omega))), by simpa using h0⟩
        obtain ⟨q, hq1, hq2⟩ := hlast
        clear hz0
        go_wp2_with (first | (go_at_call 12; refine (hAp _).mono ?_))
        first | rintro e W2 rfl b2 | rintro e W2 ⟨rfl, b2⟩
        go_wp2_with (go_at_call 11; refine (awake_any _).mono ?_)
        first | rintro e W3 rfl b3 | rintro e W3 ⟨rfl, b3⟩
        go_wp2
        go_ret
        exact ⟨rfl, (hbw.trans (b2.mono (by omega))).trans (b3.mono (by have := b2.size; omega))⟩
end Go.Proofs.Ythjcljgkgahglaa
