/-
  RunesFold: the walk of the law's text.
-/
import Derived.Test.YthjcljgkgahglaaRunesF
import Derived.Test.YthjcljgkgahglaaRunesN
import Derived.Deep.QuietTactic
import Derived.BigQuiet
import Derived.LoopTactic
import Derived.WalkLawsBesides
import Derived.WalkSmall
set_option linter.unusedVariables false
namespace Go.Proofs.Ythjcljgkgahglaa
open Go.RowKit

def foB (s : ByteArray) : ByteArray := ⟨(s.data.toList.map foldB).toArray⟩
theorem foB_list (s : ByteArray) : (foB s).data.toList = s.data.toList.map foldB := rfl
theorem foB_size (s : ByteArray) : (foB s).size = s.size := by rw [size_len, foB_list, List.length_map, ← size_len]
theorem foB_twice (s : ByteArray) : foB (foB s) = foB s := by
  apply Go.WideShapes.bytes_inj
  rw [foB_list, foB_list, List.map_map]
  exact List.map_congr_left fun x _ => foldB_twice x
theorem nameOk_fold (r : Nat) : nameOk (foldN r) = nameOk r := by
  refine (nameOk_eq ?_).symm ▸ rfl
  unfold foldN nameOk
  split <;> simp <;> omega

theorem rune_fold {c : List UInt8} (h : isPiece c) : (dec (c.map foldB)).1 = foldN (dec c).1 := by
  rw [dec_fold]
  split
  · rename_i h1; rw [dec_low c h1]
  · rename_i h1
    rw [foldN_high]
    apply Nat.le_of_not_lt
    intro hr
    have hs := piece_small h hr
    rw [hs.1] at h1
    simp only [List.getD_cons_zero] at h1
    rw [toU8_ofNat _ (by omega)] at h1
    exact h1 hr

theorem madeOf_fold (l : List UInt8) : madeOf 40 nameOk (l.map foldB) = madeOf 40 nameOk l := by
  unfold madeOf
  rw [pieces_fold, List.length_map, List.all_map]
  congr 1
  rw [Bool.eq_iff_iff, List.all_eq_true, List.all_eq_true]
  have h := pieces_mem l
  constructor
  · intro hh c hc
    have := hh c hc
    simp only [Function.comp, bad_fold, rune_fold (h c hc), nameOk_fold] at this
    exact this
  · intro hh c hc
    simp only [Function.comp, bad_fold, rune_fold (h c hc), nameOk_fold]
    exact hh c hc
theorem isName_fold (l : List UInt8) : isName (l.map foldB) = isName l := by
  unfold isName
  rw [madeOf_fold]
  cases l <;> rfl

/-- Byte by byte. -/
theorem foB_byte (s : ByteArray) (i : Nat) (h : i < (foB s).size) (h' : i < s.size) : (foB s)[i] = foldB s[i] := by
  show (foB s).data[i] = foldB s.data[i]
  simp [foB]

def nameV (s : ByteArray) : Bool := isName s.data.toList

set_option maxHeartbeats 4000000 in
set_option maxRecDepth 1000000 in
theorem RunesFold_walk (s : ByteArray) (hs : s.size ≤ maxLen) (w : World) :
    Calls Try.prog 8 #[.string s] w fun e w' => e = .returned (.bool true) ∧ Below w.heap.size w w' := by
  have B0 := Below.refl w.heap.size w
  by_cases h1 : 1000 < s.size
  · go_enter Try.func8, Try.ntmps8
    go_wp2_with (go_at_call 11; refine (awake_b w _ B0).mono ?_)
    first | rintro e W1 rfl b1 | rintro e W1 ⟨rfl, b1⟩
    go_wp2
    go_ret
    exact ⟨rfl, b1⟩
  have hsz : s.size ≤ 1000 := by omega
  clear h1
  have hF : ∀ wx, Below w.heap.size w wx → Calls Try.prog 22 #[.string s] wx fun e w' => e = .returned (.string (foB s)) ∧ Below w.heap.size w w' := fun wx hb => base hb (Fold_any s wx hs)
  have hF2 : ∀ wx, Below w.heap.size w wx → Calls Try.prog 22 #[.string (foB s)] wx fun e w' => e = .returned (.string (foB s)) ∧ Below w.heap.size w w' := fun wx hb => by
    have := base hb (Fold_any (foB s) wx (by rw [foB_size]; exact hs))
    rw [show (⟨((foB s).data.toList.map foldB).toArray⟩ : ByteArray) = foB s from foB_twice s] at this
    exact this
  have hfs : (foB s).size = s.size := foB_size s
  have hN : ∀ wx, Below w.heap.size w wx → Calls Try.prog 18 #[.string s] wx fun e w' => e = .returned (.bool (nameV s)) ∧ Below w.heap.size w w' := fun wx hb => base hb (Name_any s wx hs)
  have hN2 : ∀ wx, Below w.heap.size w wx → Calls Try.prog 18 #[.string (foB s)] wx fun e w' => e = .returned (.bool (nameV s)) ∧ Below w.heap.size w w' := fun wx hb => by
    have := base hb (Name_any (foB s) wx (by rw [hfs]; exact hs))
    rw [foB_list, isName_fold] at this
    exact this
  have hV2 : ∀ wx, Below w.heap.size w wx → Calls Try.prog 14 #[.string (foB s)] wx fun e w' => e = .returned (.bool (vldB s)) ∧ Below w.heap.size w w' := fun wx hb => by
    have := base hb (Valid_any (foB s) wx (by rw [hfs]; exact hs))
    rw [foB_list, valid_fold] at this
    exact this
  have hV : ∀ wx, Below w.heap.size w wx → Calls Try.prog 14 #[.string s] wx fun e w' => e = .returned (.bool (vldB s)) ∧ Below w.heap.size w w' := fun wx hb => base hb (Valid_any s wx hs)
  have hC2 : ∀ wx, Below w.heap.size w wx → Calls Try.prog 16 #[.string (foB s)] wx fun e w' => e = .returned (.int .i64 (cntB s)) ∧ Below w.heap.size w w' := fun wx hb => by
    have := base hb (Count_any (foB s) wx (by rw [hfs]; exact hs))
    rw [foB_list, count_fold] at this
    exact this
  have hC : ∀ wx, Below w.heap.size w wx → Calls Try.prog 16 #[.string s] wx fun e w' => e = .returned (.int .i64 (cntB s)) ∧ Below w.heap.size w w' := fun wx hb => base hb (Count_any s wx hs)
  have hbytes : ∀ (i : Nat) (h : i < (foB s).size) (h' : i < s.size), (foB s)[i] = foldB s[i] := fun i h h' => foB_byte s i h h'
  obtain ⟨f, hf⟩ : ∃ f, f = foB s := ⟨_, rfl⟩
  rw [← hf] at hF hF2 hfs hN2 hV2 hC2
  simp only [← hf] at hbytes
  have HB : Hid (∀ (i : Nat) (h : i < f.size) (h' : i < s.size), f[i] = foldB s[i]) := hbytes
  have hne : ((f.size : Int) != (s.size : Int)) = false := by rw [hfs]; simp
  have HFS : Hid (f.size = s.size) := hfs
  have hfz : f.size ≤ 1000 := by omega
  clear hbytes hf hfs hs
  go_enter Try.func8, Try.ntmps8
  go_wp2_with (first | (go_at_call 22; ((with_reducible refine (hF _ (by assumption)).mono ?_); rintro e W1 ⟨rfl, b1⟩)))
  go_wp2_with (first | (go_at_call 22; ((with_reducible refine (hF2 _ (by assumption)).mono ?_); rintro e W1 ⟨rfl, b1⟩)))
  go_wp2_with (first | (go_at_call 18; ((with_reducible refine (hN2 _ (by assumption)).mono ?_); rintro e W1 ⟨rfl, b1⟩)))
  go_wp2_with (first | (go_at_call 18; ((with_reducible refine (hN _ (by assumption)).mono ?_); rintro e W1 ⟨rfl, b1⟩)))
  go_wp2_with (first | (go_at_call 14; ((with_reducible refine (hV2 _ (by assumption)).mono ?_); rintro e W1 ⟨rfl, b1⟩)))
  go_wp2_with (first | (go_at_call 14; ((with_reducible refine (hV _ (by assumption)).mono ?_); rintro e W1 ⟨rfl, b1⟩)))
  go_wp2_with (first | (go_at_call 16; ((with_reducible refine (hC2 _ (by assumption)).mono ?_); rintro e W1 ⟨rfl, b1⟩)))
  go_wp2_with (first | (go_at_call 16; ((with_reducible refine (hC _ (by assumption)).mono ?_); rintro e W1 ⟨rfl, b1⟩)))
  clear hN hV hC hC2 hV2 hN2 hF2 hF hne B0
  have hb1 : Below w.heap.size w W1 := b1
  go_wp2
  go_loopw [4] (fun i wr => ∃ j : Nat, i = .int .i64 j ∧ j ≤ f.size ∧ Below w.heap.size w wr) (fun i _ => f.size - (intOf i).toNat)
  case atStart => exact ⟨0, rfl, Nat.zero_le _, hb1⟩
  case round =>
    obtain ⟨j, rfl, hj, hb⟩ := hrel
    by_cases hlt : j < f.size
    · have hls : j < s.size := by have := HFS.out; omega
      have hI1 : (j : Int) < (f.size : Int) := by omega
      have hI2 : (j : Int) < (s.size : Int) := by omega
      have hv : f[j].toNat = foldN s[j].toNat := by rw [HB.out j hlt hls, foldB_toNat]
      have hs8 := UInt8.toNat_lt s[j]
      have hf8 := UInt8.toNat_lt f[j]
      by_cases hbig : 65 ≤ s[j].toNat ∧ s[j].toNat ≤ 90
      · have hv2 : f[j].toNat = s[j].toNat + 32 := by rw [hv]; unfold foldN; rw [if_pos hbig]
        have e1 : (65 : Int) ≤ (f[j].toNat : Int) := by omega
        have e2 : decide ((f[j].toNat : Int) ≤ 90) = false := decide_eq_false (by omega)
        have e3 : ((f[j].toNat : Int) != (s[j].toNat : Int)) = true := bne_iff_ne.2 (by omega)
        have e4 : ((f[j].toNat : Int) != (s[j].toNat : Int) + 32) = false := by simpa using (by omega : (f[j].toNat : Int) = (s[j].toNat : Int) + 32)
        have e5 : IntKind.u8.wrap ((s[j].toNat : Int) + 32) = (s[j].toNat : Int) + 32 := IntWalk.u8_in _ (by omega)
        clear hv hv2 hbig
        go_wp2_with fail
        go_quiet (fail)
        go_wp2
        go_roundw
        case rel => exact ⟨j + 1, by go_num, by omega, below_drewN hb _⟩
        case measure => simp [intOf]; omega
      · have hv2 : f[j].toNat = s[j].toNat := by rw [hv]; unfold foldN; rw [if_neg hbig]
        have e3 : ((f[j].toNat : Int) != (s[j].toNat : Int)) = false := by rw [hv2]; simp
        by_cases e1 : (65 : Int) ≤ (f[j].toNat : Int)
        · have e2 : decide ((f[j].toNat : Int) ≤ 90) = false := decide_eq_false (by omega)
          clear hv hv2 hbig
          go_wp2_with fail
          go_quiet (fail)
          go_wp2
          go_roundw
          case rel => exact ⟨j + 1, by go_num, by omega, below_drewN hb _⟩
          case measure => simp [intOf]; omega
        · have e1' : decide ((65 : Int) ≤ (f[j].toNat : Int)) = false := decide_eq_false e1
          clear hv hv2 hbig e1
          go_wp2_with fail
          go_quiet (fail)
          go_wp2
          go_roundw
          case rel => exact ⟨j + 1, by go_num, by omega, below_drewN hb _⟩
          case measure => simp [intOf]; omega
    · go_wp2_with (go_at_call 11; refine (awake_b w _ hb).mono ?_)
      first | rintro e W2 rfl b2 | rintro e W2 ⟨rfl, b2⟩
      go_wp2
      go_ret
      exact ⟨rfl, b2⟩

end Go.Proofs.Ythjcljgkgahglaa
