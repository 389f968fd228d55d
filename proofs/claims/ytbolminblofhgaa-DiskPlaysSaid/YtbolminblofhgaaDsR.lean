/-
  The walk of DiskLasts.
-/
import Derived.Test.YtbolminblofhgaaDsQ
set_option linter.unusedVariables false
namespace Go.Proofs.Ytbolminblofhgaa
open Go.RowKit

/-- Bytes beside a disk: what a call on it leaves of them. -/
def Src (w : World) (G : Nat) (mv : Value) (Q : List (Value × RF)) (g : Nat) (l : List UInt8) : Prop := Bts w (some ⟨g, 0, none⟩) l ∧ ¬ ImS G mv Q g ∧ g < w.heap.size
theorem Src.step {w w' : World} {G g : Nat} {mv mv' : Value} {Q Q' : List (Value × RF)} {l : List UInt8} (h : Src w G mv Q g l) (hk : Kept (ImS G mv Q) w w') (hn : ∀ k, ImS G mv' Q' k → ImS G mv Q k ∨ w.heap.size ≤ k) : Src w' G mv' Q' g l :=
  ⟨h.1.kept hk (fun x hx => by injection hx with hx; subst hx; exact h.2.1), fun e => by
    rcases hn g e with e | e
    · exact h.2.1 e
    · have := h.2.2; omega, Nat.lt_of_lt_of_le h.2.2 hk.size⟩
theorem Src.below {w w' : World} {G g : Nat} {mv : Value} {Q : List (Value × RF)} {l : List UInt8} (h : Src w G mv Q g l) (hb : Below w.heap.size w w') : Src w' G mv Q g l :=
  ⟨h.1.later hb, h.2.1, Nat.lt_of_lt_of_le h.2.2 hb.size⟩

def laC (L : List RF) (n : Nat) : CD := ⟨5000, L, n, false, 0⟩
theorem la_inv {b : List UInt8} {s n : Nat} (h2 : b.length ≤ 5000) (h3 : s ≤ b.length) (nm : ByteArray) (hnm : nm.size ≤ 100) : Inv (laC [⟨nm, b, s⟩] n) :=
  ⟨by show (5000 : Nat) ≤ 8388608; omega, by simpa [laC, tot] using h2, by simp [laC], fun f hf => by simp [laC] at hf; subst hf; exact h3, fun f hf => by simp [laC] at hf; subst hf; exact hnm, by show (-9223372036854775808 : Int) ≤ 0; omega, by show (0 : Int) ≤ 9223372036854775807; omega⟩
theorem la1 (l : List UInt8) (h : l.length ≤ 5000) : resC (newC 5000) (appL 5000 nmF l []) = (0, laC [⟨nmF, l, 0⟩] 1) := by
  rw [resC_on rfl]
  unfold appL
  rw [badF, if_neg (by decide), if_neg (by simp [tot]; omega)]
  simp only [show getL nmF [] = none from rfl, putF0]
  rfl
theorem la2 (l : List UInt8) : resC (laC [⟨nmF, l, 0⟩] 1) (syncL nmF [⟨nmF, l, 0⟩]) = (0, laC [⟨nmF, l, l.length⟩] 2) := by
  rw [resC_on rfl]
  unfold syncL
  rw [getF]
  simp only [putF]
  rfl
theorem la3 (l m : List UInt8) (s : Nat) (hs : l.length = s) (h : s + m.length ≤ 5000) : resC (laC [⟨nmF, l, s⟩] 2) (appL 5000 nmF m [⟨nmF, l, s⟩]) = (0, laC [⟨nmF, l ++ m, s⟩] 3) := by
  rw [resC_on rfl]
  unfold appL
  rw [badF, if_neg (by decide), getF, if_neg (by simp [tot]; omega)]
  simp only [putF]
  rfl
theorem addr0 (g s : Nat) : (⟨g, 0, none⟩ : Addr).add s = ⟨g, s, none⟩ := by
  unfold Addr.add
  by_cases h : s = 0 <;> simp [h]
theorem la4 (ps : List Int) (nm : ByteArray) (b : List UInt8) (s : Nat) (h : s ≤ b.length) : ∃ k, crashL ps [⟨nm, b, s⟩] = [⟨nm, b.take k, k⟩] ∧ s ≤ k ∧ k ≤ b.length :=
  ⟨keepN ⟨nm, b, s⟩ ps, rfl, keepN_le ⟨nm, b, s⟩ ps h⟩

set_option maxHeartbeats 8000000 in
set_option maxRecDepth 100000 in
theorem DiskLasts_main (s m : Nat) (pa : Option Addr) (pn pc : Nat) (picks : List Int) (hs : s ≤ 500) (hm : m ≤ 500) (hpn : pn ≤ 50) (w : World) (hp : Its w pa picks) (hpl : picks.length = pn) (hpc : pn ≤ pc) (hwf : ∀ p ∈ picks, -9223372036854775808 ≤ p ∧ p ≤ 9223372036854775807) :
    Calls Try.prog 4 #[.int .i64 s, .int .i64 m, .slice pa pn pc] w (AwPost w) := by
  have cN : Calls Try.prog 11 #[.int .i64 5000] w fun e w' => e = .returned (.tuple #[.pointer (some ⟨w.heap.size, 0, none⟩), .int .i64 0]) ∧ w' = w.alloc (.cells (stC (newC 5000) 0 (.map none)) 62) := dNew w 5000 (by omega)
  go_enter Try.func4, Try.ntmps4
  go_wp2_with (go_at_call 11; (with_reducible refine cN.mono ?_))
  rintro e W1 ⟨rfl, hW1⟩
  have h1 : ImAt W1 w.heap.size w.heap.size (.map none) [] (newC 5000) := by rw [hW1]; exact newAt w w.heap.size 5000 (Nat.le_refl _)
  have b1 : Below w.heap.size w W1 := by rw [hW1]; exact (Below.refl _ _).alloc (Nat.le_refl _) _
  obtain ⟨L, hLd⟩ : ∃ L, L = letters (s + m) 7 := ⟨_, rfl⟩
  have hLl : L.length = s + m := by rw [hLd, letters_len]
  have cB := bytes_nat (s + m) 7 W1 (by omega) (by omega) (by omega)
  rw [← hLd, show ((s + m : Nat) : Int) = (s : Int) + (m : Int) by omega] at cB
  clear hW1 cN hLd
  go_wp2_with (go_at_call 15; (with_reducible refine cB.mono ?_))
  rintro e W2 ⟨g, cap, rfl, hg1, hg2, hc1, hc2, hbt, b2⟩
  have h2 := h1.below b2
  have hsrc : Src W2 w.heap.size (.map none) [] g L := ⟨hbt, (fun e => by
    rcases e with e | e | ⟨q, hq, _⟩
    · have := h1.lt; omega
    · cases e
    · cases hq), hg2⟩
  have z1 := b1.size
  have bb2 := b1.trans (b2.mono z1)
  rw [hLl] at hc1 ⊢
  clear h1 b1 b2 hbt cB
  have hls : (L.take s).length = s := by rw [List.length_take]; omega
  have hld : (L.drop s).length = m := by rw [List.length_drop]; omega
  have cA := dAppend W2 w.heap.size w.heap.size (.map none) [] (newC 5000) nmF (some ⟨g, 0, none⟩) s cap (L.take s) h2 (newC_inv 5000 (by omega)) (by decide) (by decide) hls (by omega) (hsrc.1.take s) (fun e => by cases e) bb2.size (fun x hx => by injection hx with hx; subst hx; exact hsrc.2.1)
  rw [show resC (newC 5000) (appL (newC 5000).room nmF (L.take s) (newC 5000).L) = (0, laC [⟨nmF, L.take s, 0⟩] 1) from la1 _ (by rw [hls]; omega)] at cA
  have HS2 := Lib.hid (fun k hk => (h2.ltS k hk).1)
  have HSRC := Lib.hid hsrc
  have HB2 := Lib.hid bb2
  have HLS := Lib.hid hls
  have HLD := Lib.hid hld
  have HLL := Lib.hid hLl
  clear h2 hsrc bb2 hls hld hLl
  go_wp2_with (go_at_call 16; (with_reducible refine cA.mono ?_))
  rintro e W3 ⟨mv3, Q3, rfl, h3, k3, n3⟩
  have s3 := HSRC.out.step k3 n3
  have b3 := HB2.out.trans (k3.below HB2.out.size HS2.out)
  have cS := dSync W3 w.heap.size w.heap.size mv3 Q3 _ nmF h3 (la_inv (by rw [HLS.out]; omega) (Nat.zero_le _) nmF (by decide)) (by show (1 : Nat) ≤ 1000000; omega) (by decide) b3.size
  rw [show (laC [⟨nmF, L.take s, 0⟩] 1).L = [⟨nmF, L.take s, 0⟩] from rfl, la2, HLS.out] at cS
  have HS3 := Lib.hid (fun k hk => (h3.ltS k hk).1)
  have HSRC3 := Lib.hid s3
  have HB3 := Lib.hid b3
  clear h3 k3 n3 s3 b3 cA HS2 HSRC HB2
  go_wp2_with (go_at_call 17; (with_reducible refine cS.mono ?_))
  rintro e W4 ⟨mv4, Q4, rfl, h4, k4, n4⟩
  have s4 := HSRC3.out.step k4 n4
  have b4 := HB3.out.trans (k4.below HB3.out.size HS3.out)
  have HS4 := Lib.hid (fun k hk => (h4.ltS k hk).1)
  have HSRC4 := Lib.hid s4
  have HB4 := Lib.hid b4
  have H4 := Lib.hid h4
  clear h4 k4 n4 s4 b4 cS HS3 HSRC3 HB3
  have hta : L.take s ++ L.drop s = L := List.take_append_drop s L
  have HTA := Lib.hid hta
  clear hta
  by_cases hcs : s = cap
  · obtain rfl : m = 0 := by omega
    subst hcs
    have cA := dAppend W4 w.heap.size w.heap.size mv4 Q4 _ nmF (some ⟨g, 0, none⟩) 0 0 (L.drop s) H4.out (la_inv (by rw [HLS.out]; omega) (by rw [HLS.out]; omega) nmF (by decide)) (by show (2 : Nat) ≤ 1000000; omega) (by decide) HLD.out (by omega) (by rw [List.drop_eq_nil_of_le (by rw [HLL.out]; omega)]; exact Bts.nil _ _) (fun e => by cases e) HB4.out.size (fun x hx => by injection hx with hx; subst hx; exact HSRC4.out.2.1)
    rw [show resC (laC [⟨nmF, L.take s, s⟩] 2) (appL (laC [⟨nmF, L.take s, s⟩] 2).room nmF (L.drop s) (laC [⟨nmF, L.take s, s⟩] 2).L) = (0, laC [⟨nmF, L, s⟩] 3) by rw [← HTA.out]; simp only [HTA.out]; exact (la3 (L.take s) (L.drop s) s HLS.out (by rw [HLD.out]; omega)).trans (by rw [HTA.out])] at cA
    go_wp2_with (go_at_call 16; (with_reducible refine cA.mono ?_))
    rintro e W5 ⟨mv5, Q5, rfl, h5, k5, n5⟩
    have s5 := HSRC4.out.step k5 n5
    have b5 := HB4.out.trans (k5.below HB4.out.size HS4.out)
    have cC := dCrash W5 w.heap.size w.heap.size mv5 Q5 _ pa pn pc picks h5 (la_inv (by rw [HLL.out]; omega) (by rw [HLL.out]; omega) nmF (by decide)) (hp.later b5) hpl (by omega) hpc hwf
    have HSRC5 := Lib.hid s5
    have HB5 := Lib.hid b5
    clear h5 k5 n5 s5 b5 cA HSRC4 HB4 H4 HS4
    go_wp2_with (go_at_call 18; (with_reducible refine cC.mono ?_))
    rintro e W6 ⟨G6, mv6, Q6, rfl, h6, b6⟩
    obtain ⟨k, hk, hk1, hk2⟩ := la4 picks nmF L s (by rw [HLL.out]; omega)
    rw [show (laC [⟨nmF, L, s⟩] 3).L = [⟨nmF, L, s⟩] from rfl, hk] at h6
    rw [HLL.out] at hk2
    have hkl : (L.take k).length = k := by rw [List.length_take, HLL.out]; omega
    have cR := dRead W6 _ G6 mv6 Q6 _ nmF h6 (la_inv (n := 0) (by rw [hkl]; omega) (by rw [hkl]; omega) nmF (by decide)) (by decide)
    rw [show rdL nmF [⟨nmF, L.take k, k⟩] = (L.take k, 0) by unfold rdL; rw [getF]] at cR
    have HSRC6 := Lib.hid (HSRC5.out.below b6)
    have HB6 := Lib.hid (HB5.out.trans (b6.mono HB5.out.size))
    have HKL := Lib.hid hkl
    clear h6 b6 cC HSRC5 HB5 hk hkl
    go_wp2_with (go_at_call 19; (with_reducible refine cR.mono ?_))
    rintro e W7 ⟨ra, rc, rfl, ro, rb⟩
    have s7 := HSRC6.out.below rb
    have b7 := HB6.out.trans (rb.mono HB6.out.size)
    have cE := fun c1 c2 => Bytes_same ra (some ⟨g, 0, none⟩) k k c1 c2 (L.take k) W7 HKL.out HKL.out (by omega) (Bts.own ro) (s7.1.take k)
    have hkl := HKL.out
    have HB7 := Lib.hid b7
    clear s7 b7 ro rb cR HSRC6 HB6
    go_wp2_with (go_at_call 20; (with_reducible refine (nilP (cE _ _)).mono ?_))
    rintro e W8 ⟨rfl, b8⟩
    have cW := awake5_b w W8 (HB7.out.trans (b8.mono HB7.out.size))
    clear b8
    go_wp2_with (go_at_call 10; (with_reducible refine cW.mono ?_))
    rintro e W9 ⟨rfl, b9⟩
    go_wp2
    go_ret
    exact ⟨rfl, b9⟩
  · have hcs2 : s < cap := by omega
    have cA := dAppend W4 w.heap.size w.heap.size mv4 Q4 _ nmF (some ⟨g, s, none⟩) m (cap - s) (L.drop s) H4.out (la_inv (by rw [HLS.out]; omega) (by rw [HLS.out]; omega) nmF (by decide)) (by show (2 : Nat) ≤ 1000000; omega) (by decide) HLD.out (by omega) (by have := HSRC4.out.1.drop s; rw [addr0] at this; exact this) (fun e => by cases e) HB4.out.size (fun x hx => by injection hx with hx; subst hx; exact HSRC4.out.2.1)
    rw [show resC (laC [⟨nmF, L.take s, s⟩] 2) (appL (laC [⟨nmF, L.take s, s⟩] 2).room nmF (L.drop s) (laC [⟨nmF, L.take s, s⟩] 2).L) = (0, laC [⟨nmF, L, s⟩] 3) by rw [← HTA.out]; simp only [HTA.out]; exact (la3 (L.take s) (L.drop s) s HLS.out (by rw [HLD.out]; omega)).trans (by rw [HTA.out])] at cA
    go_wp2_with (go_at_call 16; (with_reducible refine cA.mono ?_))
    rintro e W5 ⟨mv5, Q5, rfl, h5, k5, n5⟩
    have s5 := HSRC4.out.step k5 n5
    have b5 := HB4.out.trans (k5.below HB4.out.size HS4.out)
    have cC := dCrash W5 w.heap.size w.heap.size mv5 Q5 _ pa pn pc picks h5 (la_inv (by rw [HLL.out]; omega) (by rw [HLL.out]; omega) nmF (by decide)) (hp.later b5) hpl (by omega) hpc hwf
    have HSRC5 := Lib.hid s5
    have HB5 := Lib.hid b5
    clear h5 k5 n5 s5 b5 cA HSRC4 HB4 H4 HS4
    go_wp2_with (go_at_call 18; (with_reducible refine cC.mono ?_))
    rintro e W6 ⟨G6, mv6, Q6, rfl, h6, b6⟩
    obtain ⟨k, hk, hk1, hk2⟩ := la4 picks nmF L s (by rw [HLL.out]; omega)
    rw [show (laC [⟨nmF, L, s⟩] 3).L = [⟨nmF, L, s⟩] from rfl, hk] at h6
    rw [HLL.out] at hk2
    have hkl : (L.take k).length = k := by rw [List.length_take, HLL.out]; omega
    have cR := dRead W6 _ G6 mv6 Q6 _ nmF h6 (la_inv (n := 0) (by rw [hkl]; omega) (by rw [hkl]; omega) nmF (by decide)) (by decide)
    rw [show rdL nmF [⟨nmF, L.take k, k⟩] = (L.take k, 0) by unfold rdL; rw [getF]] at cR
    have HSRC6 := Lib.hid (HSRC5.out.below b6)
    have HB6 := Lib.hid (HB5.out.trans (b6.mono HB5.out.size))
    have HKL := Lib.hid hkl
    clear h6 b6 cC HSRC5 HB5 hk hkl
    go_wp2_with (go_at_call 19; (with_reducible refine cR.mono ?_))
    rintro e W7 ⟨ra, rc, rfl, ro, rb⟩
    have s7 := HSRC6.out.below rb
    have b7 := HB6.out.trans (rb.mono HB6.out.size)
    have cE := fun c1 c2 => Bytes_same ra (some ⟨g, 0, none⟩) k k c1 c2 (L.take k) W7 HKL.out HKL.out (by omega) (Bts.own ro) (s7.1.take k)
    have hkl := HKL.out
    have HB7 := Lib.hid b7
    clear s7 b7 ro rb cR HSRC6 HB6
    go_wp2_with (go_at_call 20; (with_reducible refine (nilP (cE _ _)).mono ?_))
    rintro e W8 ⟨rfl, b8⟩
    have cW := awake5_b w W8 (HB7.out.trans (b8.mono HB7.out.size))
    clear b8
    go_wp2_with (go_at_call 10; (with_reducible refine cW.mono ?_))
    rintro e W9 ⟨rfl, b9⟩
    go_wp2
    go_ret
    exact ⟨rfl, b9⟩

set_option maxHeartbeats 8000000 in
set_option maxRecDepth 100000 in
theorem DiskLasts_out (a0 a1 : Int) (a2 : Option Addr) (len2 cap2 : Nat) (w : World) (h : ¬ (0 ≤ a0 ∧ a0 ≤ 500 ∧ 0 ≤ a1 ∧ a1 ≤ 500 ∧ len2 ≤ 50)) :
    Calls Try.prog 4 #[.int .i64 a0, .int .i64 a1, .slice a2 len2 cap2] w (AwPost w) := by
  have cW := awake5 w
  by_cases h0 : a0 < 0
  · clear h
    go_enter Try.func4, Try.ntmps4
    go_wp2_with (go_at_call 10; (with_reducible refine cW.mono ?_))
    rintro e W1 ⟨rfl, hb⟩
    go_wp2
    go_ret
    exact ⟨rfl, hb⟩
  · skip
    by_cases h1 : 500 < a0
    · clear h
      go_enter Try.func4, Try.ntmps4
      go_wp2_with (go_at_call 10; (with_reducible refine cW.mono ?_))
      rintro e W1 ⟨rfl, hb⟩
      go_wp2
      go_ret
      exact ⟨rfl, hb⟩
    · skip
      by_cases h2 : a1 < 0
      · clear h
        go_enter Try.func4, Try.ntmps4
        go_wp2_with (go_at_call 10; (with_reducible refine cW.mono ?_))
        rintro e W1 ⟨rfl, hb⟩
        go_wp2
        go_ret
        exact ⟨rfl, hb⟩
      · skip
        by_cases h3 : 500 < a1
        · clear h
          go_enter Try.func4, Try.ntmps4
          go_wp2_with (go_at_call 10; (with_reducible refine cW.mono ?_))
          rintro e W1 ⟨rfl, hb⟩
          go_wp2
          go_ret
          exact ⟨rfl, hb⟩
        · skip
          have h4 : (50 : Int) < (len2 : Int) := by omega
          clear h
          go_enter Try.func4, Try.ntmps4
          go_wp2_with (go_at_call 10; (with_reducible refine cW.mono ?_))
          rintro e W1 ⟨rfl, hb⟩
          go_wp2
          go_ret
          exact ⟨rfl, hb⟩

theorem DiskLasts_walk (a0 a1 : Int) (a2 : Option Addr) (len2 cap2 : Nat) (z2 : List Int) (w : World) (w0 : (Lit.int .i64 a0).wf = true) (w1 : (Lit.int .i64 a1).wf = true) (w2 : RowIn .i64 w a2 len2 cap2 z2) :
    Calls Try.prog 4 #[.int .i64 a0, .int .i64 a1, .slice a2 len2 cap2] w fun e w' => e = .returned (.bool true) ∧ Below w.heap.size w w' := by
  obtain ⟨h1, h2, h3, h4⟩ := w2.its
  by_cases h : 0 ≤ a0 ∧ a0 ≤ 500 ∧ 0 ≤ a1 ∧ a1 ≤ 500 ∧ len2 ≤ 50
  · obtain ⟨s, rfl⟩ := Int.eq_ofNat_of_zero_le h.1
    obtain ⟨m, rfl⟩ := Int.eq_ofNat_of_zero_le h.2.2.1
    exact DiskLasts_main s m a2 len2 cap2 (z2.take len2) (by omega) (by omega) (by omega) w h1 h2 h3 h4
  · exact DiskLasts_out a0 a1 a2 len2 cap2 w h

end Go.Proofs.Ytbolminblofhgaa
