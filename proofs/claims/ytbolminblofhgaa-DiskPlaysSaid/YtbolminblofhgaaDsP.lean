/-
  The walk of DiskCuts.
-/
import Derived.Test.YtbolminblofhgaaDsO
set_option linter.unusedVariables false
namespace Go.Proofs.Ytbolminblofhgaa
open Go.RowKit

abbrev nmF : ByteArray := ⟨#[102]⟩
theorem badF : badN nmF = false := by decide
theorem getF (b : List UInt8) (s : Nat) : getL nmF [⟨nmF, b, s⟩] = some ⟨nmF, b, s⟩ := by simp [getL]
theorem putF (b c : List UInt8) (s t : Nat) : putL ⟨nmF, b, s⟩ [⟨nmF, c, t⟩] = [⟨nmF, b, s⟩] := by simp [putL, delL, insL]
theorem putF0 (b : List UInt8) (s : Nat) : putL ⟨nmF, b, s⟩ [] = [⟨nmF, b, s⟩] := by simp [putL, delL, insL]

def cutB (j k : Nat) : List UInt8 := (List.range (min j k)).map fun i => UInt8.ofNat i
def cutL (j k : Nat) : List RF := if min j k = 0 then [] else [⟨nmF, cutB j k, 0⟩]
def cutC (j k : Nat) : CD := ⟨5000, cutL j k, j, true, (k : Int) - (min j k : Nat)⟩
theorem cutB_len (j k : Nat) : (cutB j k).length = min j k := by simp [cutB]
theorem cut_inv (j k : Nat) (hk : k ≤ 60) : Inv (cutC j k) := by
  unfold cutC cutL
  refine ⟨by show (5000 : Nat) ≤ 8388608; omega, ?_, ?_, ?_, ?_, ?_, ?_⟩
  · show tot (if min j k = 0 then [] else [⟨nmF, cutB j k, 0⟩]) ≤ 5000
    split
    · exact Nat.zero_le _
    · simp [tot, cutB_len]; omega
  · show (if min j k = 0 then [] else [⟨nmF, cutB j k, 0⟩] : List RF).length ≤ 3000
    split <;> simp
  · intro f hf
    simp only at hf
    split at hf
    · cases hf
    · simp at hf; subst hf; exact Nat.zero_le _
  · intro f hf
    simp only at hf
    split at hf
    · cases hf
    · simp at hf; subst hf; show (1 : Nat) ≤ 100; omega
  · show (-9223372036854775808 : Int) ≤ (k : Int) - (min j k : Nat); omega
  · show (k : Int) - (min j k : Nat) ≤ 9223372036854775807; omega
theorem cut_step (j k : Nat) (hj : j ≤ 50) (hk : k ≤ 60) : resC (cutC j k) (appL 5000 nmF [UInt8.ofNat j] (cutL j k)) = (if j < k then 0 else 9, cutC (j + 1) k) := by
  by_cases hlt : j < k
  · have hoff : offC (cutC j k) = false := by
      unfold offC cutC
      simp only [Bool.true_and, decide_eq_false_iff_not]
      omega
    have hop : (cutC j k).op = ⟨5000, cutL j k, j + 1, true, (k : Int) - (min (j + 1) k : Nat)⟩ := by
      unfold CD.op cutC
      have : (0 : Int) < (k : Int) - (min j k : Nat) := by omega
      simp only [Bool.true_and, decide_eq_true this, if_true]
      congr 1
      omega
    rw [resC_on hoff, if_pos hlt, hop]
    have hL : cutL (j + 1) k = [⟨nmF, cutB j k ++ [UInt8.ofNat j], 0⟩] := by
      unfold cutL cutB
      rw [if_neg (by omega), show min (j + 1) k = j + 1 by omega, show min j k = j by omega, List.range_succ, List.map_append]; rfl
    unfold appL
    rw [badF]
    by_cases h0 : j = 0
    · subst h0
      have hc : cutL 0 k = [] := by unfold cutL; rw [if_pos (by omega)]
      rw [hc, show getL nmF [] = none from rfl]
      rw [if_neg (by decide), if_neg (by simp [tot])]
      simp only [putF0]
      have hb : cutB 0 k = [] := by unfold cutB; rw [show min 0 k = 0 by omega]; rfl
      rw [hb, List.nil_append] at hL
      unfold cutC CD.setL
      rw [hL]
    · have hc : cutL j k = [⟨nmF, cutB j k, 0⟩] := by unfold cutL; rw [if_neg (by omega)]
      have hl := cutB_len j k
      rw [hc, getF, if_neg (by decide), if_neg (by simp [tot, hl]; omega)]
      simp only [putF]
      unfold cutC CD.setL
      rw [hL]
  · have hoff : offC (cutC j k) = true := by
      unfold offC cutC
      simp only [Bool.true_and, decide_eq_true_eq]
      omega
    rw [resC_off hoff, if_neg hlt]
    unfold CD.op cutC
    have : ¬ (0 : Int) < (k : Int) - (min j k : Nat) := by omega
    have e : min (j + 1) k = min j k := by omega
    have e2 : cutL (j + 1) k = cutL j k := by unfold cutL cutB; rw [e]
    simp only [Bool.true_and, decide_eq_false this, e, e2]
    rfl

def DRel (w wr : World) (mv : Value) (Q : List (Value × RF)) (C : CD) : Prop := ImAt wr w.heap.size w.heap.size mv Q C ∧ Below w.heap.size w wr
theorem DRel.step {w wr W3 : World} {mv mv3 : Value} {Q Q3 : List (Value × RF)} {C : CD} {o : Obj} (hb : Below w.heap.size w wr) (hs : ∀ k, ImS w.heap.size mv Q k → w.heap.size ≤ k) (hz : w.heap.size ≤ wr.heap.size) (h3 : ImAt W3 w.heap.size w.heap.size mv3 Q3 C) (k3 : Kept (ImS w.heap.size mv Q) (wr.alloc o) W3) : DRel w W3 mv3 Q3 C :=
  ⟨h3, (hb.trans ((Below.refl w.heap.size wr).alloc hz o)).trans (k3.below (by simp; omega) hs)⟩

set_option maxHeartbeats 8000000 in
set_option maxRecDepth 100000 in
theorem DiskCuts_out (a0 a1 : Int) (w : World) (h : ¬ (0 ≤ a0 ∧ a0 ≤ 50 ∧ 0 ≤ a1 ∧ a1 ≤ 60)) :
    Calls Try.prog 6 #[.int .i64 a0, .int .i64 a1] w (AwPost w) := by
  have cW := awake5 w
  by_cases h1 : a0 < 0
  · clear h
    go_enter Try.func6, Try.ntmps6
    go_wp2_with (go_at_call 10; (with_reducible refine cW.mono ?_))
    rintro e W1 ⟨rfl, hb⟩
    go_wp2
    go_ret
    exact ⟨rfl, hb⟩
  · by_cases h2 : 50 < a0
    · clear h
      go_enter Try.func6, Try.ntmps6
      go_wp2_with (go_at_call 10; (with_reducible refine cW.mono ?_))
      rintro e W1 ⟨rfl, hb⟩
      go_wp2
      go_ret
      exact ⟨rfl, hb⟩
    · by_cases h3 : a1 < 0
      · clear h
        go_enter Try.func6, Try.ntmps6
        go_wp2_with (go_at_call 10; (with_reducible refine cW.mono ?_))
        rintro e W1 ⟨rfl, hb⟩
        go_wp2
        go_ret
        exact ⟨rfl, hb⟩
      · have h4 : 60 < a1 := by omega
        clear h
        go_enter Try.func6, Try.ntmps6
        go_wp2_with (go_at_call 10; (with_reducible refine cW.mono ?_))
        rintro e W1 ⟨rfl, hb⟩
        go_wp2
        go_ret
        exact ⟨rfl, hb⟩

set_option maxHeartbeats 8000000 in
set_option maxRecDepth 100000 in
theorem DiskCuts_main (n k : Nat) (hn : n ≤ 50) (hk : k ≤ 60) (w : World) :
    Calls Try.prog 6 #[.int .i64 n, .int .i64 k] w (AwPost w) := by
  have cN : Calls Try.prog 11 #[.int .i64 5000] w fun e w' => e = .returned (.tuple #[.pointer (some ⟨w.heap.size, 0, none⟩), .int .i64 0]) ∧ w' = w.alloc (.cells (stC (newC 5000) 0 (.map none)) 62) := dNew w 5000 (by omega)
  go_enter Try.func6, Try.ntmps6
  go_wp2_with (go_at_call 11; (with_reducible refine cN.mono ?_))
  rintro e W1 ⟨rfl, hW1⟩
  have h1 : ImAt W1 w.heap.size w.heap.size (.map none) [] (newC 5000) := by rw [hW1]; exact newAt w w.heap.size 5000 (Nat.le_refl _)
  have b1 : Below w.heap.size w W1 := by rw [hW1]; exact (Below.refl _ _).alloc (Nat.le_refl _) _
  have cC := dCut W1 w.heap.size w.heap.size (.map none) [] _ _ (k : Int) h1
  clear hW1 cN h1
  go_wp2_with (go_at_call 25; (with_reducible refine cC.mono ?_); rintro e W2 ⟨rfl, h2, k2, z2⟩)
  have e2 : (newC 5000).cutN k = cutC 0 k := by
    unfold cutC cutL newC CD.cutN
    rw [if_pos (by omega)]
    congr 1
  rw [e2] at h2
  have b2 : Below w.heap.size w W2 := b1.trans (k2.below b1.size (fun k e => by omega))
  clear cC k2 z2 e2
  have HR0 : DRel w W2 (.map none) [] (cutC 0 k) := ⟨h2, b2⟩
  clear h2 b2 b1
  go_wp2
  go_loopw [7] (fun i wr => ∃ (j : Nat) (mv : Value) (Q : List (Value × RF)), i = .int .i64 j ∧ j ≤ n ∧ DRel w wr mv Q (cutC j k)) (fun i _ => n - (intOf i).toNat)
  case atStart => exact ⟨0, _, _, rfl, Nat.zero_le _, HR0⟩
  case round =>
    obtain ⟨j, mv, Q, rfl, hj, hR⟩ := hrel
    clear HR0
    by_cases hlt : j < n
    · have hz := hR.2.size
      have bb := (Below.refl wr.heap.size wr).alloc (Nat.le_refl _) (.cells #[.int .u8 j] 5)
      have cA := dAppend (wr.alloc (.cells #[.int .u8 j] 5)) w.heap.size w.heap.size mv Q (cutC j k) nmF (some ⟨wr.heap.size, 0, none⟩) 1 1 [UInt8.ofNat j] (hR.1.below bb) (cut_inv j k hk) (by show j ≤ 1000000; omega) (by decide) rfl (by omega)
        (lit_bts wr [UInt8.ofNat j] _ (0, 0) (by simp [Lib.byteCells]; omega)) (fun e => by cases e) (Nat.le_trans hz bb.size) (fun x hx => by injection hx with hx; subst hx; exact hR.1.new)
      rw [show resC (cutC j k) (appL (cutC j k).room nmF [UInt8.ofNat j] (cutC j k).L) = (if j < k then 0 else 9, cutC (j + 1) k) from cut_step j k (by omega) hk] at cA
      have HS := Lib.hid (fun i hi => (hR.1.ltS i hi).1)
      have HB := Lib.hid hR.2
      clear hR bb
      by_cases hjk : j < k
      · rw [if_pos hjk] at cA
        go_wp2_with (go_at_call 16; (with_reducible refine cA.mono ?_))
        rintro e W3 ⟨mv3, Q3, rfl, h3, k3, n3⟩
        have HR3 := Lib.hid (DRel.step HB.out HS.out hz h3 k3)
        clear h3 k3 n3 cA
        go_wp2
        go_roundw
        case rel => exact ⟨j + 1, mv3, Q3, by go_num, by omega, HR3.out⟩
        case measure => simp [intOf]; omega
      · rw [if_neg hjk] at cA
        go_wp2_with (go_at_call 16; (with_reducible refine cA.mono ?_))
        rintro e W3 ⟨mv3, Q3, rfl, h3, k3, n3⟩
        have HR3 := Lib.hid (DRel.step HB.out HS.out hz h3 k3)
        clear h3 k3 n3 cA
        go_wp2
        go_roundw
        case rel => exact ⟨j + 1, mv3, Q3, by go_num, by omega, HR3.out⟩
        case measure => simp [intOf]; omega
    · obtain rfl : j = n := by omega
      have cR := dRead wr w.heap.size w.heap.size mv Q (cutC j k) nmF hR.1 (cut_inv j k hk) (by decide)
      have hz := hR.2.size
      have HR := Lib.hid hR
      clear hR
      by_cases hm : min j k = 0
      · rw [show rdL nmF (cutC j k).L = ([], 4) by unfold cutC cutL; rw [if_pos hm]; rfl] at cR
        go_wp2_with (go_at_call 19; (with_reducible refine cR.mono ?_))
        rintro e W4 ⟨ra, rc, rfl, ro, rb⟩
        have hmin : min (j : Int) (k : Int) = 0 := by omega
        have b4 := HR.out.2.trans (rb.mono hz)
        have cO := dOps W4 w.heap.size w.heap.size mv Q _ (cutC j k) (HR.out.1.below rb)
        have cW := awake5_b w W4 b4
        clear ro rb b4 cR
        go_wp2_with (first | (go_at_call 24; (with_reducible refine cO.mono ?_); rintro e W5 ⟨rfl, rfl⟩) | (go_at_call 10; (with_reducible refine cW.mono ?_)))
        rintro e W6 ⟨rfl, b6⟩
        go_wp2
        go_ret
        exact ⟨rfl, b6⟩
      · rw [show rdL nmF (cutC j k).L = (cutB j k, 0) by unfold cutC cutL; rw [if_neg hm]; unfold rdL; rw [getF]] at cR
        go_wp2_with (go_at_call 19; (with_reducible refine cR.mono ?_))
        rintro e W4 ⟨ra, rc, rfl, ro, rb⟩
        obtain ⟨m, hmm⟩ : ∃ m, m = min j k := ⟨_, rfl⟩
        have hmin : min (j : Int) (k : Int) = (m : Int) := by omega
        have hm0 : 0 < m := by omega
        have hlb : (cutB j k).length = m := by rw [cutB_len, hmm]
        clear hmm hm
        have b4 := HR.out.2.trans (rb.mono hz)
        have cO := dOps W4 w.heap.size w.heap.size mv Q _ (cutC j k) (HR.out.1.below rb)
        have cW := awake5_b w W4 b4
        clear ro rb b4 cR
        go_wp2_with (first | (go_at_call 24; (with_reducible refine cO.mono ?_); rintro e W5 ⟨rfl, rfl⟩) | (go_at_call 10; (with_reducible refine cW.mono ?_)))
        rintro e W6 ⟨rfl, b6⟩
        go_wp2
        go_ret
        exact ⟨rfl, b6⟩

theorem DiskCuts_walk (a0 a1 : Int) (w0 : (Lit.int .i64 a0).wf = true) (w1 : (Lit.int .i64 a1).wf = true) (w : World) :
    Calls Try.prog 6 #[.int .i64 a0, .int .i64 a1] w fun e w' => e = .returned (.bool true) ∧ Below w.heap.size w w' := by
  by_cases h : 0 ≤ a0 ∧ a0 ≤ 50 ∧ 0 ≤ a1 ∧ a1 ≤ 60
  · obtain ⟨n, rfl⟩ := Int.eq_ofNat_of_zero_le h.1
    obtain ⟨k, rfl⟩ := Int.eq_ofNat_of_zero_le h.2.2.1
    exact DiskCuts_main n k (by omega) (by omega) w
  · exact DiskCuts_out a0 a1 w h

end Go.Proofs.Ytbolminblofhgaa
