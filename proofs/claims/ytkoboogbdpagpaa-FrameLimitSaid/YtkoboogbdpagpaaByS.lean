/-
  penstockalike.Sum (of one number more) and TotalBytes.
-/
import Derived.Test.YtkoboogbdpagpaaFrE
set_option linter.unusedVariables false
namespace Go.Proofs.Ytkoboogbdpagpaa
open Go.RowKit

def sumF (n x : Nat) : Nat := if 1099511627776 < n + x then 1099511627776 else n + x

theorem sumF_small {n x top : Nat} (ht : top < 1099511627776) (h : sumF n x ≤ top) : sumF n x = n + x := by
  unfold sumF at h ⊢
  by_cases hb : 1099511627776 < n + x
  · rw [if_pos hb] at h; omega
  · rw [if_neg hb]
theorem sumF_le (n x : Nat) : sumF n x ≤ 1099511627776 := by unfold sumF; split <;> omega

set_option maxHeartbeats 2000000 in
set_option maxRecDepth 100000 in
theorem sum1_any (n x g cap : Nat) (w : World) (hn : n ≤ 1099511627776) (hx : x ≤ maxLen) (hc : w.cell? ⟨g, 0, none⟩ = some (.int .i64 x)) :
    Calls Try.prog 28 #[.int .i64 n, .slice (some ⟨g, 0, none⟩) 1 cap] w fun e w' => e = .returned (.int .i64 (sumF n x)) ∧ w = w' := by
  unfold maxLen at hx
  have H := Lib.hid (show sumF n x = if 1099511627776 < n + x then 1099511627776 else n + x from rfl)
  go_enter Try.func28, Try.ntmps28
  go_wp2
  go_loop [0, 5] (fun v i => (i = .int .i64 0 ∧ v = .int .i64 n) ∨ (i = .int .i64 1 ∧ v = .int .i64 (sumF n x) ∧ n + x ≤ 1099511627776)) (fun _ i => 1 - (intOf i).toNat)
  case atStart => exact .inl ⟨rfl, rfl⟩
  case round =>
    rcases hrel with ⟨rfl, rfl⟩ | ⟨rfl, rfl, hle⟩
    · by_cases hbig : 1099511627776 < n + x
      · have h1 : ¬ (1099511627776 : Int) < (n : Int) := by omega
        have h2 : (1099511627776 : Int) - (n : Int) < (x : Int) := by omega
        go_wp2
        go_ret
        exact ⟨retI (by rw [H.out, if_pos hbig]; rfl), rfl⟩
      · have h1 : ¬ (1099511627776 : Int) < (n : Int) := by omega
        have h2 : ¬ (1099511627776 : Int) - (n : Int) < (x : Int) := by omega
        go_wp2
        go_round
        case rel => exact .inr ⟨rfl, by rw [H.out, if_neg hbig]; go_num, by omega⟩
        case measure => simp [intOf]
    · go_wp2
      go_ret
      exact ⟨rfl, rfl⟩

def sumLen (L : List (List UInt8)) : Nat := (L.map List.length).sum
theorem sumLen_snoc (L : List (List UInt8)) (l : List UInt8) : sumLen (L ++ [l]) = sumLen L + l.length := by simp [sumLen]
theorem sumLen_take (L : List (List UInt8)) (j : Nat) (h : j < L.length) : sumLen (L.take (j + 1)) = sumLen (L.take j) + (L[j]'h).length := by
  rw [List.take_succ_eq_append_getElem h, sumLen_snoc]

/-- What TotalBytes leaves. -/
def TotPost (top : Nat) (L : List (List UInt8)) (w : World) (e : Ending) (w' : World) : Prop :=
  ∃ t : Nat, e = .returned (.int .i64 t) ∧ t ≤ 1099511627776 ∧ (t ≤ top → L.length + sumLen L ≤ top) ∧ Below w.heap.size w w'

set_option maxHeartbeats 2000000 in
set_option maxRecDepth 100000 in
theorem Total_any (a : Option Addr) (n cap top : Nat) (L : List (List UInt8)) (w : World) (hl : L.length = n) (hn : n ≤ maxLen) (htop : top < 1099511627776) (hL : ∀ x ∈ L, x.length ≤ maxLen) (hb : Brs w a L) :
    Calls Try.prog 20 #[.slice a n cap, .int .i64 top] w (TotPost top L w) := by
  have hn' := hn
  unfold maxLen at hn
  have c0 : ∀ (wx : World) (g : Nat), wx.cell? ⟨g, 0, none⟩ = some (.int .i64 n) → Calls Try.prog 28 #[.int .i64 0, .slice (some ⟨g, 0, none⟩) 1 1] wx fun e w' => e = .returned (.int .i64 (sumF 0 n)) ∧ wx = w' := fun wx g hc => sum1_any 0 n g 1 wx (by omega) hn' hc
  have hs0 := sumF_le 0 n
  have HS0 : Hid (sumF 0 n ≤ top → sumF 0 n = n) := fun h => by rw [sumF_small htop h]; omega
  obtain ⟨t0, ht0⟩ : ∃ t, t = sumF 0 n := ⟨_, rfl⟩
  rw [← ht0] at hs0 HS0
  simp only [← ht0] at c0
  clear ht0
  have k0 : (w.alloc (.cells #[.int .i64 n] 3)).cell? ⟨w.heap.size, 0, none⟩ = some (.int .i64 n) := new_cells8 w #[.int .i64 n] 3 w.heap.size rfl 0 _ rfl
  have B1 : Below w.heap.size w (w.alloc (.cells #[.int .i64 n] 3)) := (Below.refl _ w).alloc (Nat.le_refl _) _
  go_enter Try.func20, Try.ntmps20
  go_wp2_with (first | (go_at_call 28; (with_reducible refine (c0 _ _ k0).mono ?_); rintro e W2 ⟨rfl, rfl⟩))
  go_loopw [5, 6] (fun v i wr => ∃ (j t : Nat), i = .int .i64 j ∧ v = .int .i64 t ∧ j ≤ n ∧ t ≤ 1099511627776 ∧ Hid (t ≤ top → t = n + sumLen (L.take j)) ∧ Below w.heap.size w wr) (fun _ i _ => n - (intOf i).toNat)
  case atStart => exact ⟨0, t0, rfl, rfl, Nat.zero_le _, hs0, fun h => by simp [sumLen]; exact HS0.out h, B1⟩
  case round =>
    obtain ⟨j, t, rfl, rfl, hj, ht, HT, hbw⟩ := hrel
    clear B1 k0 c0 HS0
    by_cases hlt : j < n
    · by_cases hto : t ≤ top
      · obtain ⟨x, b, c, rfl, hx, _, _, _⟩ := (hb.later hbw).at j (by omega)
        have hlm := hL _ (List.getElem_mem (show j < L.length by omega))
        have HTK := Lib.hid (sumLen_take L j (by omega))
        obtain ⟨m, hm⟩ : ∃ m, m = (L[j]'(by omega)).length := ⟨_, rfl⟩
        rw [← hm] at hx hlm HTK
        have hlm' := hlm
        unfold maxLen at hlm
        have c1 := fun (wx : World) (g : Nat) (hc : wx.cell? ⟨g, 0, none⟩ = some (.int .i64 m)) => sum1_any t m g 1 wx ht hlm' hc
        have hs1 := sumF_le t m
        have HT2 : Hid (sumF t m ≤ top → sumF t m = n + sumLen (L.take (j + 1))) := fun h => by
          have h1 := HT.out hto
          rw [HTK.out, sumF_small htop h]
          omega
        obtain ⟨t1, ht1⟩ : ∃ t1, t1 = sumF t m := ⟨_, rfl⟩
        rw [← ht1] at hs1 HT2
        simp only [← ht1] at c1
        have k1 : (wr.alloc (.cells #[.int .i64 m] 3)).cell? ⟨wr.heap.size, 0, none⟩ = some (.int .i64 m) := new_cells8 wr #[.int .i64 m] 3 wr.heap.size rfl 0 _ rfl
        have B2 : Below w.heap.size w (wr.alloc (.cells #[.int .i64 m] 3)) := hbw.alloc hbw.size _
        have hti : (t : Int) ≤ (top : Int) := by omega
        clear ht1 hm HT HTK
        go_wp2_with (first | (go_at_call 28; (with_reducible refine (c1 _ _ k1).mono ?_); rintro e W2 ⟨rfl, rfl⟩))
        go_roundw
        case rel => exact ⟨j + 1, t1, by go_num, rfl, by omega, hs1, HT2, B2⟩
        case measure => simp [intOf]; omega
      · have hti : ¬ (t : Int) ≤ (top : Int) := by omega
        go_wp2
        go_ret
        exact ⟨t, rfl, ht, fun h => absurd h hto, hbw⟩
    · have HF : Hid (t ≤ top → L.length + sumLen L ≤ top) := fun h => by
        have := HT.out h
        rw [List.take_of_length_le (by omega)] at this
        omega
      go_wp2
      go_ret
      exact ⟨t, rfl, ht, HF.out, hbw⟩

end Go.Proofs.Ytkoboogbdpagpaa
