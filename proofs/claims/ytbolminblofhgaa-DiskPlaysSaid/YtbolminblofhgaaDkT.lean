/-
  The law's does: Cut, Crash, Copy, none of them.
-/
import Derived.Test.YtbolminblofhgaaDkS
set_option linter.unusedVariables false
namespace Go.Proofs.Ytbolminblofhgaa
open Go.RowKit

theorem DkAt.lower {w : World} {B B' g : Nat} {v : Value} {Q : List (Value × RF)} {M : RD} (h : DkAt w B g v Q M) (hb : B' ≤ B) : DkAt w B' g v Q M :=
  ⟨Nat.le_trans hb h.1, h.2.1, h.2.2.1, own_low h.2.2.2.1 hb, fun q hq => own_low (h.2.2.2.2 q hq) hb⟩

set_option maxHeartbeats 8000000 in
set_option maxRecDepth 100000 in
theorem does_other (w : World) (B g g2 : Nat) (mv v : Value) (Q P : List (Value × RF)) (C : CD) (M : RD) (nA nB : ByteArray) (N : Int) (pa : Option Addr) (pn pc : Nat) (ci : Int) (T : Two w B g mv Q C g2 v P M) (hB : B ≤ w.heap.size) (hn : C.n ≤ 1000000) (k : Int) (hk : ¬ (1 ≤ k ∧ k ≤ 7)) :
    Calls Try.prog 13 #[.pointer (some ⟨g, 0, none⟩), .pointer (some ⟨g2, 0, none⟩), .agg #[.int .i64 k, .string nA, .string nB, .int .i64 N, .slice pa pn pc], .int .i64 ci] w (DoesPost w B C N) := by
  obtain ⟨W0, hW0⟩ : ∃ W, W = w.alloc (.cells #[.int .i64 k, .string nA, .string nB, .int .i64 N, .slice pa pn pc] 36) := ⟨_, rfl⟩
  have b0 : Below w.heap.size w W0 := by rw [hW0]; exact (Below.refl _ _).alloc (Nat.le_refl _) _
  have T0 := T.below b0
  have hbox : W0.heap[w.heap.size]? = some (.cells #[.int .i64 k, .string nA, .string nB, .int .i64 N, .slice pa pn pc] 36 (0, 0)) := by rw [hW0]; exact heap_alloc_new w _
  have hMn : M.n ≤ 1000000 := by rw [T.sim.n]; exact hn
  have hPl : P.length ≤ 100000 := by rw [T.dk.rise, T.sim.L]; have := T.inv.len; omega
  have hz0 : B ≤ W0.heap.size := Nat.le_trans hB b0.size
  have HLT : Hid (∀ i, ImS g mv Q i → i < w.heap.size) := fun i e => (T.im.ltS i e).2
  have HLD : Hid (∀ i, DkAll g2 v P i → i < w.heap.size) := fun i e => (T.dk.ltAll i e).2
  have e1 : (k == 1) = false := by simp; omega
  have e2 : (k == 2) = false := by simp; omega
  have e3 : (k == 3) = false := by simp; omega
  have e4 : (k == 4) = false := by simp; omega
  have e5 : (k == 5) = false := by simp; omega
  have e6 : (k == 6) = false := by simp; omega
  have e7 : (k == 7) = false := by simp; omega
  have HT0 := Lib.hid T0
  have HW0 := Lib.hid hW0
  have HB0 := Lib.hid b0
  clear T T0 hbox b0 hW0 hk
  go_enter Try.func13, Try.ntmps13
  go_wp2
  go_ret3
  rw [← HW0.out]
  exact ⟨g, mv, Q, C, g2, v, P, M, rfl, HT0.out, HB0.out.mono hB, by omega, Nat.le_succ _⟩
set_option maxHeartbeats 8000000 in
set_option maxRecDepth 100000 in
theorem does_Cut (w : World) (B g g2 : Nat) (mv v : Value) (Q P : List (Value × RF)) (C : CD) (M : RD) (nA nB : ByteArray) (N : Int) (pa : Option Addr) (pn pc : Nat) (ci : Int) (T : Two w B g mv Q C g2 v P M) (hB : B ≤ w.heap.size) (hn : C.n ≤ 1000000) (hlo : -9223372036854775808 ≤ N) (hhi : N ≤ 9223372036854775807) :
    Calls Try.prog 13 #[.pointer (some ⟨g, 0, none⟩), .pointer (some ⟨g2, 0, none⟩), .agg #[.int .i64 5, .string nA, .string nB, .int .i64 N, .slice pa pn pc], .int .i64 ci] w (DoesPost w B C N) := by
  obtain ⟨W0, hW0⟩ : ∃ W, W = w.alloc (.cells #[.int .i64 5, .string nA, .string nB, .int .i64 N, .slice pa pn pc] 36) := ⟨_, rfl⟩
  have b0 : Below w.heap.size w W0 := by rw [hW0]; exact (Below.refl _ _).alloc (Nat.le_refl _) _
  have T0 := T.below b0
  have hbox : W0.heap[w.heap.size]? = some (.cells #[.int .i64 5, .string nA, .string nB, .int .i64 N, .slice pa pn pc] 36 (0, 0)) := by rw [hW0]; exact heap_alloc_new w _
  have hMn : M.n ≤ 1000000 := by rw [T.sim.n]; exact hn
  have hPl : P.length ≤ 100000 := by rw [T.dk.rise, T.sim.L]; have := T.inv.len; omega
  have hz0 : B ≤ W0.heap.size := Nat.le_trans hB b0.size
  have HLT : Hid (∀ i, ImS g mv Q i → i < w.heap.size) := fun i e => (T.im.ltS i e).2
  have HLD : Hid (∀ i, DkAll g2 v P i → i < w.heap.size) := fun i e => (T.dk.ltAll i e).2
  have c1 : Calls Try.prog 25 #[.pointer (some ⟨g, 0, none⟩), .int .i64 N] (w.alloc (.cells #[.int .i64 5, .string nA, .string nB, .int .i64 N, .slice pa pn pc] 36)) (CutPost W0 B g mv Q (tot C.L) (C.cutN N)) := by
    rw [← hW0]
    exact dCut W0 B g mv Q (tot C.L) C N T0.im
  have HT0 := Lib.hid T0
  have HB0 := Lib.hid b0
  have HBOX := Lib.hid hbox
  clear T T0 hbox b0 hW0
  unfold CutPost at c1
  go_enter Try.func13, Try.ntmps13
  go_wp2_with (go_at_call 25; (with_reducible refine c1.mono ?_))
  rintro e W1 ⟨rfl, h1, k1, z1⟩
  have k1' : Kept (ImS g mv Q) W0 W1 := k1.mono (fun i _ e => .inl e)
  obtain ⟨hd1, hf1⟩ := HT0.out.left k1' h1 (fun k e => .inl e)
  have hbx1 := (k1'.block w.heap.size (lt_of_block HBOX.out) (fun e => absurd (HLT.out _ e) (Nat.lt_irrefl _))).trans HBOX.out
  have y3 : W1.cell? ⟨w.heap.size, 3, none⟩ = some (.int .i64 N) := by rw [cell_of_row _ _ _ _ _ _ hbx1]; rfl
  have hz1 := Nat.le_trans hz0 k1.size
  have c2 := rCut W1 B g2 v P M N hd1 hMn
  have H1 := Lib.hid h1
  have HF1 := Lib.hid hf1
  have K1 := Lib.hid k1'
  have HD1 := Lib.hid hd1
  clear h1 hd1 k1 k1' hf1 hbx1 c1
  go_wp2_with (go_at_call 33; (with_reducible refine c2.mono ?_))
  rintro e W2 ⟨rfl, h2, k2⟩
  have k2' : Kept (DkS g2 v) W1 W2 := k2.mono (fun i _ e => .inl e)
  obtain ⟨hi2, hf2⟩ := right_of H1.out HF1.out k2' (fun k e => .inl e)
  have hTwo : Two W2 B g mv Q (C.cutN N) g2 v P (M.cut N) := ⟨hi2, h2, HT0.out.inv.cutN N hlo hhi, HT0.out.sim.cutN N, hf2⟩
  have hbel : Below B w W2 := (HB0.out.mono hB).trans ((K1.out.below hz0 (fun i e => (HT0.out.im.ltS i e).1)).trans (k2'.below hz1 (fun i e => (HD1.out.ltAll i (.inl e)).1)))
  have HTW := Lib.hid hTwo
  have HBE := Lib.hid hbel
  clear hTwo hbel h2 k2 k2' hi2 hf2 c2 y3
  go_wp2
  go_ret3
  exact ⟨g, mv, Q, C.cutN N, g2, v, P, _, rfl, HTW.out, HBE.out, by show (tot C.L : Int) ≤ _; omega, Nat.le_succ _⟩
set_option maxHeartbeats 8000000 in
set_option maxRecDepth 100000 in
theorem does_Crash (w : World) (B g g2 : Nat) (mv v : Value) (Q P : List (Value × RF)) (C : CD) (M : RD) (nA nB : ByteArray) (N : Int) (pa : Option Addr) (pn pc : Nat) (ci : Int) (T : Two w B g mv Q C g2 v P M) (hB : B ≤ w.heap.size) (hn : C.n ≤ 1000000) (picks : List Int) (hp : Its w pa picks) (hpl : picks.length = pn) (hpn : pn ≤ 1000000) (hpc : pn ≤ pc) (hwf : ∀ p ∈ picks, -9223372036854775808 ≤ p ∧ p ≤ 9223372036854775807) :
    Calls Try.prog 13 #[.pointer (some ⟨g, 0, none⟩), .pointer (some ⟨g2, 0, none⟩), .agg #[.int .i64 6, .string nA, .string nB, .int .i64 N, .slice pa pn pc], .int .i64 ci] w (DoesPost w B C N) := by
  obtain ⟨W0, hW0⟩ : ∃ W, W = w.alloc (.cells #[.int .i64 6, .string nA, .string nB, .int .i64 N, .slice pa pn pc] 36) := ⟨_, rfl⟩
  have b0 : Below w.heap.size w W0 := by rw [hW0]; exact (Below.refl _ _).alloc (Nat.le_refl _) _
  have T0 := T.below b0
  have hbox : W0.heap[w.heap.size]? = some (.cells #[.int .i64 6, .string nA, .string nB, .int .i64 N, .slice pa pn pc] 36 (0, 0)) := by rw [hW0]; exact heap_alloc_new w _
  have hMn : M.n ≤ 1000000 := by rw [T.sim.n]; exact hn
  have hPl : P.length ≤ 100000 := by rw [T.dk.rise, T.sim.L]; have := T.inv.len; omega
  have hz0 : B ≤ W0.heap.size := Nat.le_trans hB b0.size
  have HLT : Hid (∀ i, ImS g mv Q i → i < w.heap.size) := fun i e => (T.im.ltS i e).2
  have HLD : Hid (∀ i, DkAll g2 v P i → i < w.heap.size) := fun i e => (T.dk.ltAll i e).2
  have c1 : Calls Try.prog 18 #[.pointer (some ⟨g, 0, none⟩), .slice pa pn pc] (w.alloc (.cells #[.int .i64 6, .string nA, .string nB, .int .i64 N, .slice pa pn pc] 36)) (CrashPost W0 C picks) := by
    rw [← hW0]
    exact dCrash W0 B g mv Q C pa pn pc picks T0.im T0.inv (hp.later b0) hpl hpn hpc hwf
  have HT0 := Lib.hid T0
  have HB0 := Lib.hid b0
  have HBOX := Lib.hid hbox
  have HP := Lib.hid hp
  have HPL := Lib.hid hpl
  have HWF := Lib.hid hwf
  clear T T0 hbox b0 hW0 hp hpl hwf
  unfold CrashPost at c1
  go_enter Try.func13, Try.ntmps13
  go_wp2_with (go_at_call 18; (with_reducible refine c1.mono ?_))
  rintro e W1 ⟨G, mv1, Q1, rfl, h1, k1⟩
  have hd1 := HT0.out.dk.kept (S := fun _ => False) (Kept.of_below k1) (fun _ _ h => h) (fun _ _ _ _ h => h)
  have hbx1 := (k1.block w.heap.size (lt_of_block HBOX.out)).trans HBOX.out
  have y4 : W1.cell? ⟨w.heap.size, 4, none⟩ = some (.slice pa pn pc) := by rw [cell_of_row _ _ _ _ _ _ hbx1]; rfl
  have hz1 := Nat.le_trans hz0 k1.size
  have c2 := rCrash W1 B g2 v P M pa pn pc picks hd1 hPl (by rw [HT0.out.sim.L]; have := HT0.out.inv.tot; have := HT0.out.inv.room; omega) (by rw [HT0.out.sim.L]; exact HT0.out.inv.syn) ((HP.out.later HB0.out).later k1) HPL.out hpn hpc HWF.out
  unfold RCrashPost at c2
  have H1 := Lib.hid h1
  have K1 := Lib.hid k1
  clear h1 hd1 k1 hbx1 c1
  go_wp2_with (go_at_call 34; (with_reducible refine c2.mono ?_))
  rintro e W2 ⟨G2, v2, P2, rfl, h2, k2⟩
  have hTwo : Two W2 B G mv1 Q1 ⟨C.room, crashL picks C.L, 0, false, 0⟩ G2 v2 P2 ⟨M.room, crashL picks M.L, 0, -1⟩ := by
    refine ⟨(H1.out.below k2).low hz0, h2.lower hz1, crash_inv HT0.out.inv picks, HT0.out.sim.crash picks, fun k e e2 => ?_⟩
    have x1 := (H1.out.ltS k e).2
    have x2 := (h2.ltAll k e2).1
    omega
  have hbel : Below B w W2 := (HB0.out.mono hB).trans ((K1.out.mono hz0).trans (k2.mono hz1))
  have htt := crSt_tot picks C.L HT0.out.inv.syn
  have HTW := Lib.hid hTwo
  have HBE := Lib.hid hbel
  have HTT := Lib.hid htt
  clear hTwo hbel h2 k2 c2 y4 htt
  go_wp2
  go_ret3
  exact ⟨G, mv1, Q1, _, G2, v2, P2, _, rfl, HTW.out, HBE.out, by have := HTT.out; show ((tot (crashL picks C.L) : Nat) : Int) ≤ _; unfold crashL; omega, Nat.zero_le _⟩
set_option maxHeartbeats 8000000 in
set_option maxRecDepth 100000 in
theorem does_Copy (w : World) (B g g2 : Nat) (mv v : Value) (Q P : List (Value × RF)) (C : CD) (M : RD) (nA nB : ByteArray) (N : Int) (pa : Option Addr) (pn pc : Nat) (ci : Int) (T : Two w B g mv Q C g2 v P M) (hB : B ≤ w.heap.size) (hn : C.n ≤ 1000000) :
    Calls Try.prog 13 #[.pointer (some ⟨g, 0, none⟩), .pointer (some ⟨g2, 0, none⟩), .agg #[.int .i64 7, .string nA, .string nB, .int .i64 N, .slice pa pn pc], .int .i64 ci] w (DoesPost w B C N) := by
  obtain ⟨W0, hW0⟩ : ∃ W, W = w.alloc (.cells #[.int .i64 7, .string nA, .string nB, .int .i64 N, .slice pa pn pc] 36) := ⟨_, rfl⟩
  have b0 : Below w.heap.size w W0 := by rw [hW0]; exact (Below.refl _ _).alloc (Nat.le_refl _) _
  have T0 := T.below b0
  have hbox : W0.heap[w.heap.size]? = some (.cells #[.int .i64 7, .string nA, .string nB, .int .i64 N, .slice pa pn pc] 36 (0, 0)) := by rw [hW0]; exact heap_alloc_new w _
  have hMn : M.n ≤ 1000000 := by rw [T.sim.n]; exact hn
  have hPl : P.length ≤ 100000 := by rw [T.dk.rise, T.sim.L]; have := T.inv.len; omega
  have hz0 : B ≤ W0.heap.size := Nat.le_trans hB b0.size
  have HLT : Hid (∀ i, ImS g mv Q i → i < w.heap.size) := fun i e => (T.im.ltS i e).2
  have HLD : Hid (∀ i, DkAll g2 v P i → i < w.heap.size) := fun i e => (T.dk.ltAll i e).2
  have c1 : Calls Try.prog 35 #[.pointer (some ⟨g, 0, none⟩)] (w.alloc (.cells #[.int .i64 7, .string nA, .string nB, .int .i64 N, .slice pa pn pc] 36)) (CopyPost W0 C) := by
    rw [← hW0]
    exact dCopy W0 B g mv Q C T0.im T0.inv
  have HT0 := Lib.hid T0
  have HB0 := Lib.hid b0
  clear T T0 hbox b0 hW0
  unfold CopyPost at c1
  go_enter Try.func13, Try.ntmps13
  go_wp2_with (go_at_call 35; (with_reducible refine c1.mono ?_))
  rintro e W1 ⟨G, mv1, Q1, rfl, h1, k1⟩
  have hd1 := HT0.out.dk.kept (S := fun _ => False) (Kept.of_below k1) (fun _ _ h => h) (fun _ _ _ _ h => h)
  have hz1 := Nat.le_trans hz0 k1.size
  have c2 := rCopy W1 B g2 v P M hd1 hPl hz1
  unfold RCopyPost at c2
  have H1 := Lib.hid h1
  have K1 := Lib.hid k1
  clear h1 hd1 k1 c1
  go_wp2_with (go_at_call 36; (with_reducible refine c2.mono ?_))
  rintro e W2 ⟨G2, v2, rfl, h2, k2, n2⟩
  have hTwo : Two W2 B G mv1 Q1 C G2 v2 P M := by
    refine ⟨(H1.out.below k2).low hz0, h2, HT0.out.inv, HT0.out.sim, fun k e e2 => ?_⟩
    have x1 := H1.out.ltS k e
    rcases e2 with e2 | e2
    · have := n2 k e2; omega
    · have := HLD.out k (.inr e2)
      have := HB0.out.size
      omega
  have hbel : Below B w W2 := (HB0.out.mono hB).trans ((K1.out.mono hz0).trans (k2.mono hz1))
  have HTW := Lib.hid hTwo
  have HBE := Lib.hid hbel
  clear hTwo hbel h2 k2 n2 c2
  go_wp2
  go_ret3
  exact ⟨G, mv1, Q1, _, G2, v2, P, _, rfl, HTW.out, HBE.out, by omega, Nat.le_succ _⟩

end Go.Proofs.Ytbolminblofhgaa
