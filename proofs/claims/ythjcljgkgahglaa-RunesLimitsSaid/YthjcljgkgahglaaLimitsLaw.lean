/-
  RunesLimits: the walk of the law's text.
-/
import Derived.Test.YthjcljgkgahglaaRunesN
import Derived.Test.YthjcljgkgahglaaAlike
import Derived.LoopTactic
set_option linter.unusedVariables false
namespace Go.Proofs.Ythjcljgkgahglaa
open Go.RowKit

/-- A text of n runes that a name may have. -/
def many (c : List UInt8) (n : Nat) : List UInt8 := (List.replicate n c).flatten

theorem pieces_many (c : List UInt8) (hc : isPiece c) (hb : bad c = false) (n : Nat) : pieces (many c n) = List.replicate n c := by
  have := pieces_good_append (List.replicate n c) [] (fun d hd => by rw [List.eq_of_mem_replicate hd]; exact ⟨hc, hb⟩)
  simpa [many, pieces_nil] using this

theorem isPiece_ascii (b : UInt8) (h : b.toNat < 128) : isPiece [b] ∧ bad [b] = false ∧ (dec [b]).1 = b.toNat := by
  have hd : dec [b] = (b.toNat, 1) := by rw [dec_one, if_pos h]
  refine ⟨⟨by simp, by rw [hd]; rfl, by simp⟩, by simp [bad]; omega, by rw [hd]⟩

theorem pieces_ascii (l : List UInt8) (h : ∀ b ∈ l, b.toNat < 128) : pieces l = l.map fun b => [b] := by
  have := pieces_good_append (l.map fun b => [b]) [] (fun d hd => by
    obtain ⟨b, hb, rfl⟩ := List.mem_map.1 hd
    exact ⟨(isPiece_ascii b (h b hb)).1, (isPiece_ascii b (h b hb)).2.1⟩)
  have e : (l.map fun b => [b]).flatten = l := by
    clear this h
    induction l with
    | nil => rfl
    | cons x r ih => simp [ih]
  simpa [pieces_nil, e] using this

theorem letter_range (k : Int) (i : Nat) : 97 ≤ (letter k i).toNat ∧ (letter k i).toNat ≤ 122 := by
  have h := letter_val k i
  have h1 : 0 ≤ ((i : Int) * i + k) % 26 := Int.emod_nonneg _ (by omega)
  have h2 : ((i : Int) * i + k) % 26 < 26 := Int.emod_lt_of_pos _ (by omega)
  omega

/-- What the law asks of a text: n runes; a name, a key, by its number alone. -/
structure Sized (l : List UInt8) (n : Nat) : Prop where
  count : (pieces l).length = n
  name : isName l = decide (1 ≤ n ∧ n ≤ 40)
  key : isKey l = decide (n ≤ 40)

theorem sized_of (l : List UInt8) (n : Nat) (hl : (pieces l).length = n) (h : ∀ c ∈ pieces l, bad c = false ∧ nameOk (dec c).1 = true ∧ keyOk (dec c).1 = true) : Sized l n := by
  have h1 : ((pieces l).all fun c => !bad c && nameOk (dec c).1) = true := by
    rw [List.all_eq_true]; intro c hc; simp [(h c hc).1, (h c hc).2.1]
  have h2 : ((pieces l).all fun c => !bad c && keyOk (dec c).1) = true := by
    rw [List.all_eq_true]; intro c hc; simp [(h c hc).1, (h c hc).2.2]
  have h0 : l.isEmpty = decide (n = 0) := by
    rw [Bool.eq_iff_iff]
    simp only [List.isEmpty_iff, decide_eq_true_eq]
    constructor
    · rintro rfl; simpa [pieces_nil] using hl.symm
    · intro h0
      have := pieces_flatten l
      rw [List.length_eq_zero_iff.1 (hl.trans h0)] at this
      exact this.symm
  refine ⟨hl, ?_, ?_⟩
  · unfold isName madeOf
    rw [h0, h1, hl, Bool.eq_iff_iff]
    simp
    omega
  · unfold isKey madeOf
    rw [h2, hl]; simp

theorem sized_letters (n : Nat) (k : Int) : Sized (letters n k) n := by
  have hp := pieces_ascii (letters n k) (by
    intro b hb
    obtain ⟨i, _, rfl⟩ := List.mem_map.1 hb
    have := letter_range k i
    omega)
  refine sized_of _ _ (by rw [hp]; simp [letters]) ?_
  intro c hc
  rw [hp] at hc
  obtain ⟨b, hb, rfl⟩ := List.mem_map.1 hc
  obtain ⟨i, _, rfl⟩ := List.mem_map.1 hb
  have hr := letter_range k i
  obtain ⟨_, h2, h3⟩ := isPiece_ascii (letter k i) (by omega)
  refine ⟨h2, ?_, ?_⟩
  · rw [h3]; simp [nameOk]; omega
  · rw [h3]; simp [keyOk]; omega

theorem sized_many (n : Nat) : Sized (many [195, 169] n) n := by
  have hp := pieces_many [195, 169] ⟨by simp, by decide +kernel, by simp⟩ (by decide +kernel) n
  refine sized_of _ _ (by rw [hp]; simp) ?_
  intro c hc
  rw [hp] at hc
  rw [List.eq_of_mem_replicate hc]
  decide +kernel

theorem many_succ (n : Nat) : many [195, 169] (n + 1) = many [195, 169] n ++ [195, 169] := by
  simp [many, List.replicate_succ']
theorem many_len (n : Nat) : (many [195, 169] n).length = 2 * n := by
  induction n with
  | zero => rfl
  | succ n ih => rw [many_succ]; simp [ih]; omega

def manyB (n : Nat) : ByteArray := ⟨(many [195, 169] n).toArray⟩
theorem manyB_succ (n : Nat) : manyB n ++ ⟨#[195, 169]⟩ = manyB (n + 1) := by
  apply Go.WideShapes.bytes_inj
  rw [append_list]
  simp [manyB, many_succ]
theorem manyB_size (n : Nat) : (manyB n).size = 2 * n := by simp [manyB, ByteArray.size, many_len]

def nameB (s : ByteArray) : Bool := isName s.data.toList
def keyB (s : ByteArray) : Bool := isKey s.data.toList
theorem Name_b (s : ByteArray) (w wx : World) (hs : s.size ≤ 1000000) (hb : Below w.heap.size w wx) :
    Calls Try.prog 18 #[.string s] wx fun e w' => e = .returned (.bool (nameB s)) ∧ Below w.heap.size w w' := base hb (Name_any s wx (by unfold maxLen; omega))
theorem Key_b (s : ByteArray) (w wx : World) (hs : s.size ≤ 1000000) (hb : Below w.heap.size w wx) :
    Calls Try.prog 20 #[.string s] wx fun e w' => e = .returned (.bool (keyB s)) ∧ Below w.heap.size w w' := base hb (Key_any s wx (by unfold maxLen; omega))

theorem sized_b {s : ByteArray} {n : Nat} (h : Sized s.data.toList n) : cntB s = n ∧ nameB s = decide (1 ≤ n ∧ n ≤ 40) ∧ keyB s = decide (n ≤ 40) := ⟨h.count, h.name, h.key⟩

set_option maxHeartbeats 4000000 in
set_option maxRecDepth 1000000 in
theorem RunesLimits_walk (n : Int) (wide : Bool) (_hn : (Lit.int .i64 n).wf = true) (w : World) :
    Calls Try.prog 9 #[.int .i64 n, .bool wide] w fun e w' => e = .returned (.bool true) ∧ Below w.heap.size w w' := by
  have B0 := Below.refl w.heap.size w
  by_cases h0 : n < 0
  · go_enter Try.func9, Try.ntmps9
    go_wp2_with (go_at_call 11; refine (awake_b w _ B0).mono ?_)
    first | rintro e W1 rfl b1 | rintro e W1 ⟨rfl, b1⟩
    go_wp2
    go_ret
    exact ⟨rfl, b1⟩
  by_cases h60 : 60 < n
  · go_enter Try.func9, Try.ntmps9
    go_wp2_with (go_at_call 11; refine (awake_b w _ B0).mono ?_)
    first | rintro e W1 rfl b1 | rintro e W1 ⟨rfl, b1⟩
    go_wp2
    go_ret
    exact ⟨rfl, b1⟩
  clear _hn
  obtain ⟨m, rfl⟩ : ∃ m : Nat, n = (m : Int) := ⟨n.toNat, by omega⟩
  have hm : m ≤ 60 := by omega
  clear h0 h60
  have hL := fun wx => Letters_any m 1 wx (by omega) (by omega) (by omega)
  obtain ⟨sl, hsl⟩ : ∃ s : ByteArray, s = ⟨(letters m 1).toArray⟩ := ⟨_, rfl⟩
  rw [← hsl] at hL
  have szl : Sized sl.data.toList m := by rw [hsl]; exact sized_letters m 1
  have szz : sl.size ≤ 1000000 := by rw [hsl]; simp [ByteArray.size, letters]; omega
  have szm : Sized (manyB m).data.toList m := by simpa [manyB] using sized_many m
  have szy : (manyB m).size ≤ 1000000 := by rw [manyB_size]; omega
  clear hsl
  cases wide with
  | false =>
    obtain ⟨hc, hN, hK⟩ := sized_b szl
    have hC : ((cntB sl : Int) == (m : Int)) = true := by rw [hc]; simp
    have hsz := szz
    clear hc szl szm szy szz
    rcases (by omega : m = 0 ∨ (1 ≤ m ∧ m ≤ 40) ∨ 40 < m) with h | ⟨h1, h2⟩ | h
    · have hN' : nameB sl = false := by rw [hN]; simp; omega
      have hK' : keyB sl = true := by rw [hK]; simp; omega
      have e1 : ¬ (1 : Int) ≤ m := by omega
      have e2 : (m : Int) ≤ 40 := by omega
      clear hN hK h
      go_enter Try.func9, Try.ntmps9
      go_wp2_with (go_at_call 30; refine (base B0 (hL _)).mono ?_)
      first | rintro e W1 rfl b1 | rintro e W1 ⟨rfl, b1⟩
      clear B0 hL
      go_wp2_with (first | (go_at_call 18; refine (Name_b _ w _ hsz (by assumption)).mono ?_; rintro e W2 ⟨rfl, b2⟩) | (go_at_call 20; refine (Key_b _ w _ hsz (by assumption)).mono ?_; rintro e W3 ⟨rfl, b3⟩) | (go_at_call 16; refine (Count_b _ w _ hsz (by assumption)).mono ?_; rintro e W4 ⟨rfl, b4⟩) | (go_at_call 11; refine (awake_b w _ (by assumption)).mono ?_; rintro e W5 ⟨rfl, b5⟩))
      go_ret
      exact ⟨rfl, by assumption⟩
    · have hN' : nameB sl = true := by rw [hN]; simp; omega
      have hK' : keyB sl = true := by rw [hK]; simp; omega
      have e1 : (1 : Int) ≤ m := by omega
      have e2 : (m : Int) ≤ 40 := by omega
      clear hN hK h1 h2
      go_enter Try.func9, Try.ntmps9
      go_wp2_with (go_at_call 30; refine (base B0 (hL _)).mono ?_)
      first | rintro e W1 rfl b1 | rintro e W1 ⟨rfl, b1⟩
      clear B0 hL
      go_wp2_with (first | (go_at_call 18; refine (Name_b _ w _ hsz (by assumption)).mono ?_; rintro e W2 ⟨rfl, b2⟩) | (go_at_call 20; refine (Key_b _ w _ hsz (by assumption)).mono ?_; rintro e W3 ⟨rfl, b3⟩) | (go_at_call 16; refine (Count_b _ w _ hsz (by assumption)).mono ?_; rintro e W4 ⟨rfl, b4⟩) | (go_at_call 11; refine (awake_b w _ (by assumption)).mono ?_; rintro e W5 ⟨rfl, b5⟩))
      go_ret
      exact ⟨rfl, by assumption⟩
    · have hN' : nameB sl = false := by rw [hN]; simp; omega
      have hK' : keyB sl = false := by rw [hK]; simp; omega
      have e1 : (1 : Int) ≤ m := by omega
      have e2 : decide ((m : Int) ≤ 40) = false := decide_eq_false (by omega)
      clear hN hK h
      go_enter Try.func9, Try.ntmps9
      go_wp2_with (go_at_call 30; refine (base B0 (hL _)).mono ?_)
      first | rintro e W1 rfl b1 | rintro e W1 ⟨rfl, b1⟩
      clear B0 hL
      go_wp2_with (first | (go_at_call 18; refine (Name_b _ w _ hsz (by assumption)).mono ?_; rintro e W2 ⟨rfl, b2⟩) | (go_at_call 20; refine (Key_b _ w _ hsz (by assumption)).mono ?_; rintro e W3 ⟨rfl, b3⟩) | (go_at_call 16; refine (Count_b _ w _ hsz (by assumption)).mono ?_; rintro e W4 ⟨rfl, b4⟩) | (go_at_call 11; refine (awake_b w _ (by assumption)).mono ?_; rintro e W5 ⟨rfl, b5⟩))
      go_ret
      exact ⟨rfl, by assumption⟩
  | true =>
    obtain ⟨hc, hN, hK⟩ := sized_b szm
    have hC : ((cntB (manyB m) : Int) == (m : Int)) = true := by rw [hc]; simp
    have hsz := szy
    clear hc szl szm szy szz
    go_enter Try.func9, Try.ntmps9
    go_wp2_with (go_at_call 30; refine (base B0 (hL _)).mono ?_)
    first | rintro e W1 rfl b1 | rintro e W1 ⟨rfl, b1⟩
    clear B0 hL
    go_wp2
    go_loop [5, 6] (fun s i => ∃ j : Nat, j ≤ m ∧ i = .int .i64 j ∧ s = .string (manyB j)) (fun _ i => m - (intOf i).toNat)
    case atStart => exact ⟨0, Nat.zero_le _, rfl, rfl⟩
    case round =>
      obtain ⟨j, hj, rfl, rfl⟩ := hrel
      by_cases hlt : j < m
      · have hs1 : (manyB j).size ≤ 120 := by rw [manyB_size]; omega
        have HS : Hid (manyB j ++ ⟨#[195, 169]⟩ = manyB (j + 1)) := manyB_succ j
        go_wp2
        go_round
        case rel => exact ⟨j + 1, by omega, by go_num, by first | rw [HS.out] | (rw [← HS.out]; rfl)⟩
        case measure => simp [intOf]; omega
      · obtain rfl : j = m := by omega
        rcases (by omega : j = 0 ∨ (1 ≤ j ∧ j ≤ 40) ∨ 40 < j) with h | ⟨h1, h2⟩ | h
        · have hN' : nameB (manyB j) = false := by rw [hN]; simp; omega
          have hK' : keyB (manyB j) = true := by rw [hK]; simp; omega
          have e1 : ¬ (1 : Int) ≤ j := by omega
          have e2 : (j : Int) ≤ 40 := by omega
          clear hN hK h
          go_wp2_with (first | (go_at_call 18; refine (Name_b _ w _ hsz (by assumption)).mono ?_; rintro e W2 ⟨rfl, b2⟩) | (go_at_call 20; refine (Key_b _ w _ hsz (by assumption)).mono ?_; rintro e W3 ⟨rfl, b3⟩) | (go_at_call 16; refine (Count_b _ w _ hsz (by assumption)).mono ?_; rintro e W4 ⟨rfl, b4⟩) | (go_at_call 11; refine (awake_b w _ (by assumption)).mono ?_; rintro e W5 ⟨rfl, b5⟩))
          go_ret
          exact ⟨rfl, by assumption⟩
        · have hN' : nameB (manyB j) = true := by rw [hN]; simp; omega
          have hK' : keyB (manyB j) = true := by rw [hK]; simp; omega
          have e1 : (1 : Int) ≤ j := by omega
          have e2 : (j : Int) ≤ 40 := by omega
          clear hN hK h1 h2
          go_wp2_with (first | (go_at_call 18; refine (Name_b _ w _ hsz (by assumption)).mono ?_; rintro e W2 ⟨rfl, b2⟩) | (go_at_call 20; refine (Key_b _ w _ hsz (by assumption)).mono ?_; rintro e W3 ⟨rfl, b3⟩) | (go_at_call 16; refine (Count_b _ w _ hsz (by assumption)).mono ?_; rintro e W4 ⟨rfl, b4⟩) | (go_at_call 11; refine (awake_b w _ (by assumption)).mono ?_; rintro e W5 ⟨rfl, b5⟩))
          go_ret
          exact ⟨rfl, by assumption⟩
        · have hN' : nameB (manyB j) = false := by rw [hN]; simp; omega
          have hK' : keyB (manyB j) = false := by rw [hK]; simp; omega
          have e1 : (1 : Int) ≤ j := by omega
          have e2 : decide ((j : Int) ≤ 40) = false := decide_eq_false (by omega)
          clear hN hK h
          go_wp2_with (first | (go_at_call 18; refine (Name_b _ w _ hsz (by assumption)).mono ?_; rintro e W2 ⟨rfl, b2⟩) | (go_at_call 20; refine (Key_b _ w _ hsz (by assumption)).mono ?_; rintro e W3 ⟨rfl, b3⟩) | (go_at_call 16; refine (Count_b _ w _ hsz (by assumption)).mono ?_; rintro e W4 ⟨rfl, b4⟩) | (go_at_call 11; refine (awake_b w _ (by assumption)).mono ?_; rintro e W5 ⟨rfl, b5⟩))
          go_ret
          exact ⟨rfl, by assumption⟩

end Go.Proofs.Ythjcljgkgahglaa
