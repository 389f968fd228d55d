/-
  What the reference answers: Fold.
-/
import Derived.Test.YthjcljgkgahglaaRunesF
import Derived.WalkSmall
set_option linter.unusedVariables false
namespace Go.Proofs.Ythjcljgkgahglaa
open Go.RowKit

theorem mixed_here (l : List UInt8) (i : Nat) (h : i < l.length) : (mixed l i)[i]'(by rw [mixed_len]; exact h) = l[i]'h := by
  simp only [mixed]
  rw [List.getElem_append_right (by simp; omega)]
  simp [Nat.min_eq_left (Nat.le_of_lt h)]
theorem mixed_byte (l : List UInt8) (i : Nat) (h : i < l.length) : mixed l (i + 1) = (mixed l i).set i (foldB (l[i]'h)) := by
  have hlen : ((l.take i).map foldB).length = i := by simp; omega
  unfold mixed
  rw [List.take_succ_eq_append_getElem h, List.map_append, List.map_singleton, List.set_append_right _ _ (by omega), hlen, Nat.sub_self, List.append_assoc, List.singleton_append]
  congr 1
  have e := List.drop_eq_getElem_cons h
  rw [e, List.set_cons_zero]
theorem mixed_same (l : List UInt8) (i : Nat) (h : i < l.length) (hs : foldB (l[i]'h) = l[i]'h) : mixed l (i + 1) = mixed l i := by
  rw [mixed_byte l i h, hs]
  have := mixed_here l i h
  conv => lhs; rw [← this]
  exact List.set_getElem_self _

set_option maxHeartbeats 4000000 in
set_option maxRecDepth 1000000 in
theorem rFold_any (s : ByteArray) (w : World) (hs : s.size ≤ 1000000) :
    Calls Try.prog 23 #[.string s] w fun e w' => e = .returned (.string ⟨(s.data.toList.map foldB).toArray⟩) ∧ Below w.heap.size w w' := by
  have hconv := run_bytes_of_string (P := Try.prog) w 9 42 5 s Try.underlying9 Try.underlying42 Try.underlying5
  have hmade := bytesAt_made w.drew s (grownCap w s.size 0 5) ((bytesRow s (grownCap w s.size 0 5)).size + 1)
  obtain ⟨cap, hcap⟩ : ∃ c, c = grownCap w s.size 0 5 := ⟨_, rfl⟩
  rw [← hcap] at hconv hmade
  obtain ⟨W1, hW1⟩ : ∃ W1, W1 = w.drew.alloc (.cells (bytesRow s cap) 5 ((bytesRow s cap).size, (bytesRow s cap).size + 1)) := ⟨_, rfl⟩
  rw [← hW1] at hconv hmade
  have hmade : BytesAt W1 w.heap.size s.data.toList := hmade
  have hb1 : Below w.heap.size w W1 := by rw [hW1]; exact ((Below.refl _ w).drew).alloc (by simp) _
  clear hcap hW1
  go_enter Try.func23, Try.ntmps23
  go_wp2
  go_loopw [4] (fun i wr => ∃ j : Nat, i = .int .i64 j ∧ j ≤ s.size ∧ BytesAt wr w.heap.size (mixed s.data.toList j) ∧ Below w.heap.size w wr) (fun i _ => s.size - (intOf i).toNat)
  case atStart => exact ⟨0, rfl, Nat.zero_le _, by rw [mixed_zero]; exact hmade, hb1⟩
  case round =>
    obtain ⟨j, rfl, hj, hby, hbw⟩ := hrel
    clear hmade hb1
    by_cases hlt : j < s.size
    · have hl : j < s.data.toList.length := by rw [← size_len]; exact hlt
      have hjm : j < (mixed s.data.toList j).length := by rw [mixed_len]; exact hl
      have hcell := hby.cell j hjm
      rw [mixed_here _ _ hl] at hcell
      have hfree := hby.free j hjm
      have hstore := hby.store j (foldB (s.data.toList[j]'hl))
      rw [← mixed_byte _ _ hl, foldB_toNat] at hstore
      have hsame := mixed_same _ _ hl
      have hfold := foldB_toNat (s.data.toList[j]'hl)
      have h8 := UInt8.toNat_lt (s.data.toList[j]'hl)
      obtain ⟨x, hx⟩ : ∃ x, x = (s.data.toList[j]'hl).toNat := ⟨_, rfl⟩
      have hsame' : foldN x = x → mixed s.data.toList (j + 1) = mixed s.data.toList j := fun h => hsame (UInt8.toNat_inj.1 (by rw [hfold, ← hx, h]))
      rw [← hx] at hcell hstore h8
      clear hsame hfold hx
      have hI : (j : Int) < (s.size : Int) := by omega
      by_cases hbig : 65 ≤ x ∧ x ≤ 90
      · have hv : foldN x = x + 32 := by unfold foldN; rw [if_pos hbig]
        rw [hv] at hstore
        have hpush : ((x + 32 : Nat) : Int) = (x : Int) + 32 := by omega
        rw [hpush] at hstore
        have l65 : (65 : Int) ≤ x := by omega
        have l90 : (x : Int) ≤ 90 := by omega
        clear hv hpush hbig hsame'
        go_wp2
        go_roundw
        case rel => exact ⟨j + 1, by go_num, by omega, hstore, hbw.setCell (p := ⟨w.heap.size, j, none⟩) (Nat.le_refl _) _⟩
        case measure => simp [intOf]; omega
      · have hm := hsame' (by unfold foldN; rw [if_neg hbig])
        have HM : Hid (mixed s.data.toList (j + 1) = mixed s.data.toList j) := hm
        clear hm hsame' hstore
        by_cases h65 : (65 : Int) ≤ x
        · have h90 : ¬ (x : Int) ≤ 90 := by omega
          clear hbig
          go_wp2
          go_roundw
          case rel => exact ⟨j + 1, by go_num, by omega, by rw [HM.out]; exact hby, hbw⟩
          case measure => simp [intOf]; omega
        · clear hbig
          go_wp2
          go_roundw
          case rel => exact ⟨j + 1, by go_num, by omega, by rw [HM.out]; exact hby, hbw⟩
          case measure => simp [intOf]; omega
    · rw [mixed_end _ _ (by rw [← size_len]; exact hlt)] at hby
      have hback := hby.toString cap
      rw [List.length_map, ← size_len] at hback
      go_wp2
      go_ret
      exact ⟨rfl, hbw⟩

end Go.Proofs.Ythjcljgkgahglaa
