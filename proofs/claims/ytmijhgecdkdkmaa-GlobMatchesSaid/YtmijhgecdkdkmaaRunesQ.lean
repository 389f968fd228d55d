/-
  What runes.Quote answers.
-/
import Derived.Test.YtmijhgecdkdkmaaPureQ
import Derived.Test.YtmijhgecdkdkmaaRunesA
set_option linter.unusedVariables false
namespace Go.Proofs.Ytmijhgecdkdkmaa
open Go.RowKit

theorem flatMap_len (pre : List (List UInt8)) (h : ∀ c ∈ pre, isPiece c) : (pre.flatMap qpiece).length ≤ 4 * pre.length := by
  induction pre with
  | nil => simp
  | cons c r ih =>
    have h1 := qpiece_len c (h c (by simp)).2.2
    have h2 := ih (fun d hd => h d (by simp [hd]))
    simp only [List.flatMap_cons, List.length_append, List.length_cons]
    omega

/-- What the loop of Quote has written at a place. -/
def quoted (pre : List (List UInt8)) : List UInt8 := 34 :: pre.flatMap qpiece

theorem quoted_len {l : List UInt8} {pre : List (List UInt8)} {pos : Nat} (h : upTo l pre pos) : (quoted pre).length ≤ 1 + 4 * l.length := by
  have h1 := flatMap_len pre (fun c hc => pieces_mem l c (by rw [h.1]; simp [hc]))
  have h2 := upTo_count h
  simp only [quoted, List.length_cons]
  omega

theorem quoted_step (pre : List (List UInt8)) (c : List UInt8) : quoted (pre ++ [c]) = quoted pre ++ qpiece c := by
  simp [quoted]

theorem quoted_end {l : List UInt8} {pre : List (List UInt8)} {pos : Nat} (h : upTo l pre pos) (hp : ¬ pos < l.length) : quote l = quoted pre ++ [34] := by
  simp [quote, quoted, qbody, upTo_end h hp]

theorem byte_get (s : ByteArray) (p : Nat) (hp : p < s.size) : (s.data.toList.drop p).getD 0 0 = s[p] := by
  have : p < s.data.toList.length := by rw [← size_len]; exact hp
  have hp' : p < s.data.size := hp
  simp [List.getD_eq_getElem?_getD, List.getElem?_drop]
  rw [Array.getElem?_eq_getElem hp']
  rfl

theorem hex_get (n : Nat) (h' : n < (⟨#[48, 49, 50, 51, 52, 53, 54, 55, 56, 57, 97, 98, 99, 100, 101, 102]⟩ : ByteArray).size) : (⟨#[48, 49, 50, 51, 52, 53, 54, 55, 56, 57, 97, 98, 99, 100, 101, 102]⟩ : ByteArray)[n] = hexB n := by
  have h : n < 16 := h'
  have key : ∀ m : Fin 16, (⟨#[48, 49, 50, 51, 52, 53, 54, 55, 56, 57, 97, 98, 99, 100, 101, 102]⟩ : ByteArray)[m.val]'(m.isLt) = hexB m.val := by decide
  exact key ⟨n, h⟩

set_option maxHeartbeats 40000000 in
set_option maxRecDepth 1000000 in
theorem Quote_any (s : ByteArray) (w : World) (hs : s.size ≤ 17592186044416) :
    Calls Try.prog 15 #[.string s] w fun e w' => e = .returned (.string ⟨(quote s.data.toList).toArray⟩) ∧ Below w.heap.size w w' := by
  go_enter Try.func15, Try.ntmps15
  go_wp2_with (go_at_call 29; refine (writeByte_k w.heap.size w.heap.size [] 34 _ (Lib.IsBuilderF.of (Lib.fresh_isBuilder _ _ w)) (by simp) (by simp)).mono ?_)
  rintro e W1 ⟨rfl, h1, b1, k1⟩
  have b1' : Below w.heap.size w W1 := ((Below.refl _ w).alloc (Nat.le_refl _) _).trans b1
  have hz1 : w.heap.size + 1 ≤ W1.heap.size := by have := b1.size; simp at this; omega
  obtain ⟨K, hK⟩ : ∃ K, K = W1.heap.size := ⟨_, rfl⟩
  go_wp2
  go_loopw [] (fun wr => ∃ (pos : Nat) (pre : List (List UInt8)), Lib.IsBuilderF 41 5 w.heap.size w.heap.size (Lib.byteCells (quoted pre)) wr ∧ wr.heap[K]? = some (.stringIter s pos) ∧ Below w.heap.size w wr ∧ upTo s.data.toList pre pos) (fun wr => s.size - wr.iterPos K)
  case atStart =>
    refine ⟨0, [], h1.alloc _, ?_, b1'.alloc (by omega) _, upTo_start _⟩
    rw [hK]
    exact World.iter_heap W1 s 0
  case round =>
    obtain ⟨pos, pre, hI, hit, hbw, hu⟩ := hrel
    have hql := quoted_len hu
    rw [← size_len] at hql
    have hKz : K < wr.heap.size := (Array.getElem?_eq_some_iff.1 hit).1
    subst hK
    by_cases hp : pos < s.size
    · have hpl : pos < s.data.toList.length := by rw [← size_len]; exact hp
      have hnx : ∀ ty, (Instr.next (.pointer (some ⟨W1.heap.size, 0, none⟩)) true ty).run Try.prog wr = _ := fun ty => Lib.run_next_any_at wr W1.heap.size s pos ty hit hp
      obtain ⟨hpc, hpl2, hpd⟩ := pieceAt_is s.data.toList pos hpl
      have hstep := upTo_step hu hpl
      rw [← dec_at] at hpl2 hpd hstep
      have hbr := fun wx => broken_piece s pos ((Utf8.decode s pos).1 : Int) wx hp (by unfold maxLen; omega) rfl
      have hget := byte_get s pos hp
      have hc0 : (pieceAt s.data.toList pos).getD 0 0 = s[pos] := by
        rw [← hget]; simp only [pieceAt]; rw [take_getD]
        have := (dec_width (s.data.toList.drop pos) (by intro h0; have := congrArg List.length h0; simp at this; omega)).1
        omega
      obtain ⟨r, wd, hdec⟩ : ∃ r wd, Utf8.decode s pos = (r, wd) := ⟨_, _, rfl⟩
      rw [hdec] at hnx hpl2 hpd hstep hbr
      obtain ⟨c, hc⟩ : ∃ c, c = pieceAt s.data.toList pos := ⟨_, rfl⟩
      rw [← hc] at hpc hpl2 hpd hstep hbr hc0
      simp only at hnx hpl2 hpd hstep hbr
      have hw1 := hpc.2.1
      rw [hpd] at hw1
      simp only at hw1
      have hwd : 1 ≤ wd := by
        have : c.length ≠ 0 := fun h0 => hpc.1 (List.length_eq_zero_iff.1 h0)
        omega
      have hr4 : r ≤ 1114111 := by have := dec_rune c; rw [hpd] at this; exact this
      have hdr : (dec c).1 = r := by rw [hpd]
      have hI2 := hI.iterAt hit (pos + wd)
      have hit2 := Lib.iterAt_heap wr W1.heap.size s pos (pos + wd) hit
      have hbw2 := Lib.below_iterAt hbw (k := W1.heap.size) (by omega) s (pos + wd)
      have hsz2 : w.heap.size ≤ (wr.iterAt W1.heap.size s (pos + wd)).heap.size := by rw [Lib.iterAt_size]; omega
      have HD : Hid (Utf8.decode s pos = (r, wd)) := hdec
      clear hdec hget hc hpd hw1
      by_cases h34 : r = 34
      · subst h34
        have HQ : Hid (qpiece c = _) := qpiece_34 hpc hdr
        clear hdr hbr hc0
        go_wp2_with (go_at_call 29; refine (writeByte_k w.heap.size w.heap.size _ 92 _ hI2 (by rw [Lib.byteCells_length]; omega) hsz2).mono ?_)
        first | rintro e W2 rfl h2 b2 k2 | rintro e W2 ⟨rfl, h2, b2, k2⟩
        have g2 : Lib.IsBuilderF 41 5 w.heap.size w.heap.size (Lib.byteCells (quoted pre ++ [92])) W2 := by rw [Lib.byteCells_append]; exact h2
        have hz2 : w.heap.size ≤ W2.heap.size := by have := b2.size; omega
        clear h2
        go_wp2_with (go_at_call 30; refine (writeRune_k w.heap.size w.heap.size _ _ (by omega) (by omega) _ g2 (by rw [Lib.byteCells_length]; simp; omega) hz2).mono ?_)
        first | rintro e W3 rfl h3 b3 k3 | rintro e W3 ⟨rfl, h3, b3, k3⟩
        have g3 : Lib.IsBuilderF 41 5 w.heap.size w.heap.size (Lib.byteCells (quoted pre ++ [92, 34])) W3 := by
          rw [show quoted pre ++ [92, 34] = (quoted pre ++ [92]) ++ [34] by simp, Lib.byteCells_append]; exact h3
        clear h3
        have it2 := k2.iter hit2 (by omega)
        have it3 := k3.iter it2 (by omega)
        go_wp2
        go_roundw
        case rel => exact ⟨pos + wd, pre ++ [c], by rw [quoted_step, HQ.out]; exact g3, it3, ((hbw2.trans b2).trans b3), hstep⟩
        case measure =>
          simp only [World.iterPos, it3, hit]
          omega
      by_cases h92 : r = 92
      · subst h92
        have HQ : Hid (qpiece c = _) := qpiece_92 hpc hdr
        clear hdr hbr hc0
        go_wp2_with (go_at_call 29; refine (writeByte_k w.heap.size w.heap.size _ 92 _ hI2 (by rw [Lib.byteCells_length]; omega) hsz2).mono ?_)
        first | rintro e W2 rfl h2 b2 k2 | rintro e W2 ⟨rfl, h2, b2, k2⟩
        have g2 : Lib.IsBuilderF 41 5 w.heap.size w.heap.size (Lib.byteCells (quoted pre ++ [92])) W2 := by rw [Lib.byteCells_append]; exact h2
        have hz2 : w.heap.size ≤ W2.heap.size := by have := b2.size; omega
        clear h2
        go_wp2_with (go_at_call 30; refine (writeRune_k w.heap.size w.heap.size _ _ (by omega) (by omega) _ g2 (by rw [Lib.byteCells_length]; simp; omega) hz2).mono ?_)
        first | rintro e W3 rfl h3 b3 k3 | rintro e W3 ⟨rfl, h3, b3, k3⟩
        have g3 : Lib.IsBuilderF 41 5 w.heap.size w.heap.size (Lib.byteCells (quoted pre ++ [92, 92])) W3 := by
          rw [show quoted pre ++ [92, 92] = (quoted pre ++ [92]) ++ [92] by simp, Lib.byteCells_append]; exact h3
        clear h3
        have it2 := k2.iter hit2 (by omega)
        have it3 := k3.iter it2 (by omega)
        go_wp2
        go_roundw
        case rel => exact ⟨pos + wd, pre ++ [c], by rw [quoted_step, HQ.out]; exact g3, it3, ((hbw2.trans b2).trans b3), hstep⟩
        case measure =>
          simp only [World.iterPos, it3, hit]
          omega
      have e34 : ((r : Int) == 34) = false := beq_false_of_ne (by omega)
      have e92 : ((r : Int) == 92) = false := beq_false_of_ne (by omega)
      by_cases h10 : r = 10
      · subst h10
        have HQ : Hid (qpiece c = _) := qpiece_10 hpc hdr
        clear hdr hbr hc0
        go_wp2_with (go_at_call 31; refine (writeString_k w.heap.size w.heap.size _ ⟨#[92, 110]⟩ _ hI2 (by rw [Lib.byteCells_length]; show _ + 2 ≤ _; omega) hsz2).mono ?_)
        first | rintro e W2 rfl h2 b2 k2 | rintro e W2 ⟨rfl, h2, b2, k2⟩
        have g2 : Lib.IsBuilderF 41 5 w.heap.size w.heap.size (Lib.byteCells (quoted pre ++ [92, 110])) W2 := by rw [Lib.byteCells_append]; exact h2
        clear h2
        have it2 := k2.iter hit2 (by omega)
        go_wp2
        go_roundw
        case rel => exact ⟨pos + wd, pre ++ [c], by rw [quoted_step, HQ.out]; exact g2, it2, (hbw2.trans b2), hstep⟩
        case measure =>
          simp only [World.iterPos, it2, hit]
          omega
      have e10 : ((r : Int) == 10) = false := beq_false_of_ne (by omega)
      by_cases h32 : r < 32
      · have l32 : (r : Int) < 32 := by omega
        have HQ : Hid (qpiece c = _) := qpiece_low hpc (Or.inl (by omega)) (by omega)
        have HQ : Hid (qpiece c = [92, 120, hexB (s[pos].toNat / 16), hexB (s[pos].toNat % 16)]) := by have := HQ.out; rw [hc0] at this; exact this
        clear hdr hbr hc0
        go_wp2_with (first | (go_at_call 32; refine (hbr _).mono ?_; rintro e w' ⟨rfl, rfl⟩) | (go_at_call 31; refine (writeString_k w.heap.size w.heap.size _ ⟨#[92, 120]⟩ _ hI2 (by rw [Lib.byteCells_length]; show _ + 2 ≤ _; omega) hsz2).mono ?_))
        first | rintro e W2 rfl h2 b2 k2 | rintro e W2 ⟨rfl, h2, b2, k2⟩
        have g2 : Lib.IsBuilderF 41 5 w.heap.size w.heap.size (Lib.byteCells (quoted pre ++ [92, 120])) W2 := by rw [Lib.byteCells_append]; exact h2
        have hz2 : w.heap.size ≤ W2.heap.size := by have := b2.size; omega
        clear h2
        have hx := UInt8.toNat_lt s[pos]
        go_wp2_with (go_at_call 29; refine (writeByte_k w.heap.size w.heap.size _ _ _ g2 (by rw [Lib.byteCells_length]; simp; omega) hz2).mono ?_)
        first | rintro e W3 rfl h3 b3 k3 | rintro e W3 ⟨rfl, h3, b3, k3⟩
        have g3 : Lib.IsBuilderF 41 5 w.heap.size w.heap.size (Lib.byteCells (quoted pre ++ [92, 120, hexB (s[pos].toNat / 16)])) W3 := by
          rw [show quoted pre ++ [92, 120, hexB (s[pos].toNat / 16)] = (quoted pre ++ [92, 120]) ++ [hexB (s[pos].toNat / 16)] by simp, Lib.byteCells_append]
          rw [hex_get] at h3; exact h3
        have hz3 : w.heap.size ≤ W3.heap.size := by have := b3.size; omega
        clear h3
        go_wp2_with (go_at_call 29; refine (writeByte_k w.heap.size w.heap.size _ _ _ g3 (by rw [Lib.byteCells_length]; simp; omega) hz3).mono ?_)
        first | rintro e W4 rfl h4 b4 k4 | rintro e W4 ⟨rfl, h4, b4, k4⟩
        have g4 : Lib.IsBuilderF 41 5 w.heap.size w.heap.size (Lib.byteCells (quoted pre ++ [92, 120, hexB (s[pos].toNat / 16), hexB (s[pos].toNat % 16)])) W4 := by
          rw [show quoted pre ++ [92, 120, hexB (s[pos].toNat / 16), hexB (s[pos].toNat % 16)] = (quoted pre ++ [92, 120, hexB (s[pos].toNat / 16)]) ++ [hexB (s[pos].toNat % 16)] by simp, Lib.byteCells_append]
          rw [hex_get] at h4; exact h4
        clear h4
        have it2 := k2.iter hit2 (by omega)
        have it3 := k3.iter it2 (by omega)
        have it4 := k4.iter it3 (by omega)
        go_wp2
        go_roundw
        case rel => exact ⟨pos + wd, pre ++ [c], by rw [quoted_step, HQ.out]; exact g4, it4, (((hbw2.trans b2).trans b3).trans b4), hstep⟩
        case measure =>
          simp only [World.iterPos, it4, hit]
          omega
      have l32 : ¬ (r : Int) < 32 := by omega
      by_cases h127 : r = 127
      · have e127 : ((r : Int) == 127) = true := by rw [h127]; rfl
        have HQ : Hid (qpiece c = _) := qpiece_low hpc (Or.inr (Or.inl (by omega))) (by omega)
        have HQ : Hid (qpiece c = [92, 120, hexB (s[pos].toNat / 16), hexB (s[pos].toNat % 16)]) := by have := HQ.out; rw [hc0] at this; exact this
        clear hdr hbr hc0 h127
        go_wp2_with (first | (go_at_call 32; refine (hbr _).mono ?_; rintro e w' ⟨rfl, rfl⟩) | (go_at_call 31; refine (writeString_k w.heap.size w.heap.size _ ⟨#[92, 120]⟩ _ hI2 (by rw [Lib.byteCells_length]; show _ + 2 ≤ _; omega) hsz2).mono ?_))
        first | rintro e W2 rfl h2 b2 k2 | rintro e W2 ⟨rfl, h2, b2, k2⟩
        have g2 : Lib.IsBuilderF 41 5 w.heap.size w.heap.size (Lib.byteCells (quoted pre ++ [92, 120])) W2 := by rw [Lib.byteCells_append]; exact h2
        have hz2 : w.heap.size ≤ W2.heap.size := by have := b2.size; omega
        clear h2
        have hx := UInt8.toNat_lt s[pos]
        go_wp2_with (go_at_call 29; refine (writeByte_k w.heap.size w.heap.size _ _ _ g2 (by rw [Lib.byteCells_length]; simp; omega) hz2).mono ?_)
        first | rintro e W3 rfl h3 b3 k3 | rintro e W3 ⟨rfl, h3, b3, k3⟩
        have g3 : Lib.IsBuilderF 41 5 w.heap.size w.heap.size (Lib.byteCells (quoted pre ++ [92, 120, hexB (s[pos].toNat / 16)])) W3 := by
          rw [show quoted pre ++ [92, 120, hexB (s[pos].toNat / 16)] = (quoted pre ++ [92, 120]) ++ [hexB (s[pos].toNat / 16)] by simp, Lib.byteCells_append]
          rw [hex_get] at h3; exact h3
        have hz3 : w.heap.size ≤ W3.heap.size := by have := b3.size; omega
        clear h3
        go_wp2_with (go_at_call 29; refine (writeByte_k w.heap.size w.heap.size _ _ _ g3 (by rw [Lib.byteCells_length]; simp; omega) hz3).mono ?_)
        first | rintro e W4 rfl h4 b4 k4 | rintro e W4 ⟨rfl, h4, b4, k4⟩
        have g4 : Lib.IsBuilderF 41 5 w.heap.size w.heap.size (Lib.byteCells (quoted pre ++ [92, 120, hexB (s[pos].toNat / 16), hexB (s[pos].toNat % 16)])) W4 := by
          rw [show quoted pre ++ [92, 120, hexB (s[pos].toNat / 16), hexB (s[pos].toNat % 16)] = (quoted pre ++ [92, 120, hexB (s[pos].toNat / 16)]) ++ [hexB (s[pos].toNat % 16)] by simp, Lib.byteCells_append]
          rw [hex_get] at h4; exact h4
        clear h4
        have it2 := k2.iter hit2 (by omega)
        have it3 := k3.iter it2 (by omega)
        have it4 := k4.iter it3 (by omega)
        go_wp2
        go_roundw
        case rel => exact ⟨pos + wd, pre ++ [c], by rw [quoted_step, HQ.out]; exact g4, it4, (((hbw2.trans b2).trans b3).trans b4), hstep⟩
        case measure =>
          simp only [World.iterPos, it4, hit]
          omega
      have e127 : ((r : Int) == 127) = false := beq_false_of_ne (by omega)
      cases hb : bad c with
      | true =>
        have HQ : Hid (qpiece c = _) := qpiece_low hpc (Or.inr (Or.inr hb)) (by omega)
        have HQ : Hid (qpiece c = [92, 120, hexB (s[pos].toNat / 16), hexB (s[pos].toNat % 16)]) := by have := HQ.out; rw [hc0] at this; exact this
        rw [hb] at hbr
        clear hdr hc0 hb
        go_wp2_with (first | (go_at_call 32; refine (hbr _).mono ?_; rintro e w' ⟨rfl, rfl⟩) | (go_at_call 31; refine (writeString_k w.heap.size w.heap.size _ ⟨#[92, 120]⟩ _ hI2 (by rw [Lib.byteCells_length]; show _ + 2 ≤ _; omega) hsz2).mono ?_))
        first | rintro e W2 rfl h2 b2 k2 | rintro e W2 ⟨rfl, h2, b2, k2⟩
        have g2 : Lib.IsBuilderF 41 5 w.heap.size w.heap.size (Lib.byteCells (quoted pre ++ [92, 120])) W2 := by rw [Lib.byteCells_append]; exact h2
        have hz2 : w.heap.size ≤ W2.heap.size := by have := b2.size; omega
        clear h2
        have hx := UInt8.toNat_lt s[pos]
        go_wp2_with (go_at_call 29; refine (writeByte_k w.heap.size w.heap.size _ _ _ g2 (by rw [Lib.byteCells_length]; simp; omega) hz2).mono ?_)
        first | rintro e W3 rfl h3 b3 k3 | rintro e W3 ⟨rfl, h3, b3, k3⟩
        have g3 : Lib.IsBuilderF 41 5 w.heap.size w.heap.size (Lib.byteCells (quoted pre ++ [92, 120, hexB (s[pos].toNat / 16)])) W3 := by
          rw [show quoted pre ++ [92, 120, hexB (s[pos].toNat / 16)] = (quoted pre ++ [92, 120]) ++ [hexB (s[pos].toNat / 16)] by simp, Lib.byteCells_append]
          rw [hex_get] at h3; exact h3
        have hz3 : w.heap.size ≤ W3.heap.size := by have := b3.size; omega
        clear h3
        go_wp2_with (go_at_call 29; refine (writeByte_k w.heap.size w.heap.size _ _ _ g3 (by rw [Lib.byteCells_length]; simp; omega) hz3).mono ?_)
        first | rintro e W4 rfl h4 b4 k4 | rintro e W4 ⟨rfl, h4, b4, k4⟩
        have g4 : Lib.IsBuilderF 41 5 w.heap.size w.heap.size (Lib.byteCells (quoted pre ++ [92, 120, hexB (s[pos].toNat / 16), hexB (s[pos].toNat % 16)])) W4 := by
          rw [show quoted pre ++ [92, 120, hexB (s[pos].toNat / 16), hexB (s[pos].toNat % 16)] = (quoted pre ++ [92, 120, hexB (s[pos].toNat / 16)]) ++ [hexB (s[pos].toNat % 16)] by simp, Lib.byteCells_append]
          rw [hex_get] at h4; exact h4
        clear h4
        have it2 := k2.iter hit2 (by omega)
        have it3 := k3.iter it2 (by omega)
        have it4 := k4.iter it3 (by omega)
        go_wp2
        go_roundw
        case rel => exact ⟨pos + wd, pre ++ [c], by rw [quoted_step, HQ.out]; exact g4, it4, (((hbw2.trans b2).trans b3).trans b4), hstep⟩
        case measure =>
          simp only [World.iterPos, it4, hit]
          omega
      | false =>
        have HQ : Hid (qpiece c = _) := qpiece_else hpc (by omega) (by omega) (by omega) (by omega) hb
        have HR : Hid (Lib.encodeRune (r : Int) = c) := by have := piece_encode hpc hb; rw [hdr] at this; exact this
        rw [hb] at hbr
        clear hdr hc0 hb
        go_wp2_with (first | (go_at_call 32; refine (hbr _).mono ?_; rintro e w' ⟨rfl, rfl⟩) | (go_at_call 30; refine (writeRune_k w.heap.size w.heap.size _ _ (by omega) (by omega) _ hI2 (by rw [Lib.byteCells_length]; omega) hsz2).mono ?_))
        first | rintro e W2 rfl h2 b2 k2 | rintro e W2 ⟨rfl, h2, b2, k2⟩
        have g2 : Lib.IsBuilderF 41 5 w.heap.size w.heap.size (Lib.byteCells (quoted pre ++ c)) W2 := by rw [Lib.byteCells_append, ← HR.out, Lib.byteCells_encodeRune]; exact h2
        clear h2
        have it2 := k2.iter hit2 (by omega)
        go_wp2
        go_roundw
        case rel => exact ⟨pos + wd, pre ++ [c], by rw [quoted_step, HQ.out]; exact g2, it2, (hbw2.trans b2), hstep⟩
        case measure =>
          simp only [World.iterPos, it2, hit]
          omega
    · have hnx : ∀ ty, (Instr.next (.pointer (some ⟨W1.heap.size, 0, none⟩)) true ty).run Try.prog wr = _ := fun ty => Lib.run_next_end_at wr W1.heap.size s pos ty hit hp
      have HE : Hid (quote s.data.toList = _) := quoted_end hu (by rw [← size_len]; exact hp)
      go_wp2_with (go_at_call 29; refine (writeByte_k w.heap.size w.heap.size _ 34 _ hI (by rw [Lib.byteCells_length]; omega) (by omega)).mono ?_)
      rintro e W2 ⟨rfl, h2, b2, k2⟩
      have h2' : Lib.IsBuilderF 41 5 w.heap.size w.heap.size (Lib.byteCells (quoted pre ++ [34])) W2 := by rw [Lib.byteCells_append]; exact h2
      have hz2 : w.heap.size ≤ W2.heap.size := by have := b2.size; omega
      go_wp2_with (go_at_call 33; refine (Try.Builder_String_any_k w.heap.size w.heap.size _ _ h2' hz2).mono ?_)
      rintro e W3 ⟨rfl, h3, b3, k3⟩
      go_wp2
      go_ret
      rw [HE.out]
      exact ⟨rfl, (hbw.trans b2).trans b3⟩
end Go.Proofs.Ytmijhgecdkdkmaa
