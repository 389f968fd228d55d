/-
  The law's does: one call on both disks (all kinds but Append, Crash, Copy).
-/
import Derived.Test.YtbolminblofhgaaDkR
set_option linter.unusedVariables false
namespace Go.Proofs.Ytbolminblofhgaa
open Go.RowKit

/-- Behind one step. -/
def DoesPost (w : World) (B : Nat) (C : CD) (N : Int) (e : Ending) (w' : World) : Prop :=
  ∃ g mv Q C' g2 v P M', e = .returned (.tuple #[.pointer (some ⟨g, 0, none⟩), .pointer (some ⟨g2, 0, none⟩), .bool true]) ∧ Two w' B g mv Q C' g2 v P M' ∧ Below B w w' ∧ (tot C'.L : Int) ≤ tot C.L + max N 0 ∧ C'.n ≤ C.n + 1

theorem tot_res {C : CD} {x : Int × List RF} {k : Nat} (h : tot x.2 ≤ tot C.L + k) : tot (resC C x).2.L ≤ tot C.L + k ∧ (resC C x).2.n ≤ C.n + 1 := by
  cases ho : offC C with
  | true => rw [resC_off ho]; exact ⟨by show tot C.L ≤ _; omega, Nat.le_refl _⟩
  | false => rw [resC_on ho]; exact ⟨h, Nat.le_refl _⟩
theorem tot_sync {L : List RF} (hr : Rise L) (nm : ByteArray) : tot (syncL nm L).2 ≤ tot L := by
  unfold syncL
  cases hg : getL nm L with
  | none => exact Nat.le_refl _
  | some f =>
    obtain ⟨hm, hn⟩ := getL_mem hg
    have := (put_tot hr ⟨nm, f.b, f.b.length⟩).1
    simp only [hg] at this ⊢
    omega
theorem tot_rem {L : List RF} (hr : Rise L) (nm : ByteArray) : tot (remL nm L).2 ≤ tot L := by
  unfold remL
  cases hg : getL nm L with
  | none => exact Nat.le_refl _
  | some f => have := (tot_del nm hr.ne).1; simp only; omega
theorem tot_ren {L : List RF} (hr : Rise L) (nm tn : ByteArray) : tot (renL nm tn L).2 ≤ tot L := by
  unfold renL
  cases hg : getL nm L with
  | none => exact Nat.le_refl _
  | some f =>
    simp only
    split
    · exact Nat.le_refl _
    · split
      · exact Nat.le_refl _
      · have h1 := (tot_del nm hr.ne).1
        have h2 := (put_tot (hr.del nm) ⟨tn, f.b, f.s⟩).1
        simp only [hg] at h1 h2 ⊢
        omega
set_option maxHeartbeats 8000000 in
set_option maxRecDepth 100000 in
theorem does_Sync (w : World) (B g g2 : Nat) (mv v : Value) (Q P : List (Value × RF)) (C : CD) (M : RD) (nA nB : ByteArray) (N : Int) (pa : Option Addr) (pn pc : Nat) (ci : Int) (T : Two w B g mv Q C g2 v P M) (hB : B ≤ w.heap.size) (hn : C.n ≤ 1000000) (hA : nA.size ≤ 1000000) (hBn : nB.size ≤ 1000000) :
    Calls Try.prog 13 #[.pointer (some ⟨g, 0, none⟩), .pointer (some ⟨g2, 0, none⟩), .agg #[.int .i64 2, .string nA, .string nB, .int .i64 N, .slice pa pn pc], .int .i64 ci] w (DoesPost w B C N) := by
  obtain ⟨W0, hW0⟩ : ∃ W, W = w.alloc (.cells #[.int .i64 2, .string nA, .string nB, .int .i64 N, .slice pa pn pc] 36) := ⟨_, rfl⟩
  have b0 : Below w.heap.size w W0 := by rw [hW0]; exact (Below.refl _ _).alloc (Nat.le_refl _) _
  have T0 := T.below b0
  have hbox : W0.heap[w.heap.size]? = some (.cells #[.int .i64 2, .string nA, .string nB, .int .i64 N, .slice pa pn pc] 36 (0, 0)) := by rw [hW0]; exact heap_alloc_new w _
  have hMn : M.n ≤ 1000000 := by rw [T.sim.n]; exact hn
  have hPl : P.length ≤ 100000 := by rw [T.dk.rise, T.sim.L]; have := T.inv.len; omega
  have hri : Rise C.L := T.im.rise
  have hz0 : B ≤ W0.heap.size := Nat.le_trans hB b0.size
  have c1 : Calls Try.prog 17 #[.pointer (some ⟨g, 0, none⟩), .string nA] (w.alloc (.cells #[.int .i64 2, .string nA, .string nB, .int .i64 N, .slice pa pn pc] 36)) (ImRes W0 B g mv Q (resC C (syncL nA C.L))) := by
    rw [← hW0]
    exact dSync W0 B g mv Q C nA T0.im T0.inv hn hA hz0
  obtain ⟨xc, hxc⟩ : ∃ x, x = resC C (syncL nA C.L) := ⟨_, rfl⟩
  rw [← hxc] at c1
  obtain ⟨r1, hr1⟩ : ∃ r : Int, r = xc.1 := ⟨_, rfl⟩
  have hsr := T.sim.res hMn (syncL nA C.L)
  rw [← hxc, ← hr1] at hsr
  have hinv : Inv xc.2 := by rw [hxc]; exact sync_inv T.inv hri nA
  have htt := tot_res (k := 0) (show tot (syncL nA C.L).2 ≤ tot C.L + 0 from tot_sync hri nA)
  rw [← hxc] at htt
  have HLT : Hid (∀ i, ImS g mv Q i → i < w.heap.size) := fun i e => (T.im.ltS i e).2
  have HT0 := Lib.hid T0
  have HW0 := Lib.hid hW0
  have HB0 := Lib.hid b0
  have HBOX := Lib.hid hbox
  have HSR := Lib.hid hsr
  have HINV := Lib.hid hinv
  have HTT := Lib.hid htt
  have HRI := Lib.hid hri
  have HR1 := Lib.hid hr1
  have e11 : (r1 == r1) = true := beq_self_eq_true _
  unfold ImRes at c1
  rw [← hr1] at c1
  clear T T0 hbox b0 hW0 hxc hsr hinv htt hri hr1
  go_enter Try.func13, Try.ntmps13
  go_wp2_with (go_at_call 17; (with_reducible refine c1.mono ?_))
  rintro e W1 ⟨mv1, Q1, rfl, h1, k1, n1⟩
  obtain ⟨hd1, hf1⟩ := HT0.out.left k1 h1 n1
  have hbx1 := (k1.block w.heap.size (lt_of_block HBOX.out) (fun e => absurd (HLT.out _ e) (Nat.lt_irrefl _))).trans HBOX.out
  have y1 : W1.cell? ⟨w.heap.size, 1, none⟩ = some (.string nA) := by rw [cell_of_row _ _ _ _ _ _ hbx1]; rfl
  have y2 : W1.cell? ⟨w.heap.size, 2, none⟩ = some (.string nB) := by rw [cell_of_row _ _ _ _ _ _ hbx1]; rfl
  have y3 : W1.cell? ⟨w.heap.size, 3, none⟩ = some (.int .i64 N) := by rw [cell_of_row _ _ _ _ _ _ hbx1]; rfl
  have hz1 := Nat.le_trans hz0 k1.size
  have c2 := rSyncR W1 B g2 v P M nA hd1 hMn hPl (by rw [HT0.out.sim.L]; exact HRI.out)
  rw [HT0.out.sim.L] at c2
  unfold RkRes at c2
  rw [HSR.out.1] at c2
  have H1 := Lib.hid h1
  have HF1 := Lib.hid hf1
  have K1 := Lib.hid k1
  have HD1 := Lib.hid hd1
  clear h1 hd1 k1 n1 hf1 hbx1 c1
  go_wp2_with (go_at_call 30; (with_reducible refine c2.mono ?_))
  rintro e W2 ⟨v2, P2, rfl, h2, k2, n2⟩
  obtain ⟨hi2, hf2⟩ := right_of H1.out HF1.out k2 n2
  have hTwo : Two W2 B g mv1 Q1 xc.2 g2 v2 P2 (resM M (syncL nA C.L)).2 := ⟨hi2, h2, HINV.out, HSR.out.2, hf2⟩
  have hbel : Below B w W2 := (HB0.out.mono hB).trans ((K1.out.below hz0 (fun i e => (HT0.out.im.ltS i e).1)).trans (k2.below hz1 (fun i e => (HD1.out.ltAll i (.inl e)).1)))
  have HTW := Lib.hid hTwo
  have HBE := Lib.hid hbel
  clear hTwo hbel h2 k2 n2 hi2 hf2 c2 y1 y2 y3
  go_wp2
  go_ret3
  exact ⟨g, mv1, Q1, xc.2, g2, v2, P2, _, rfl, HTW.out, HBE.out, by have := HTT.out.1; omega, HTT.out.2⟩
set_option maxHeartbeats 8000000 in
set_option maxRecDepth 100000 in
theorem does_Remove (w : World) (B g g2 : Nat) (mv v : Value) (Q P : List (Value × RF)) (C : CD) (M : RD) (nA nB : ByteArray) (N : Int) (pa : Option Addr) (pn pc : Nat) (ci : Int) (T : Two w B g mv Q C g2 v P M) (hB : B ≤ w.heap.size) (hn : C.n ≤ 1000000) (hA : nA.size ≤ 1000000) (hBn : nB.size ≤ 1000000) :
    Calls Try.prog 13 #[.pointer (some ⟨g, 0, none⟩), .pointer (some ⟨g2, 0, none⟩), .agg #[.int .i64 4, .string nA, .string nB, .int .i64 N, .slice pa pn pc], .int .i64 ci] w (DoesPost w B C N) := by
  obtain ⟨W0, hW0⟩ : ∃ W, W = w.alloc (.cells #[.int .i64 4, .string nA, .string nB, .int .i64 N, .slice pa pn pc] 36) := ⟨_, rfl⟩
  have b0 : Below w.heap.size w W0 := by rw [hW0]; exact (Below.refl _ _).alloc (Nat.le_refl _) _
  have T0 := T.below b0
  have hbox : W0.heap[w.heap.size]? = some (.cells #[.int .i64 4, .string nA, .string nB, .int .i64 N, .slice pa pn pc] 36 (0, 0)) := by rw [hW0]; exact heap_alloc_new w _
  have hMn : M.n ≤ 1000000 := by rw [T.sim.n]; exact hn
  have hPl : P.length ≤ 100000 := by rw [T.dk.rise, T.sim.L]; have := T.inv.len; omega
  have hri : Rise C.L := T.im.rise
  have hz0 : B ≤ W0.heap.size := Nat.le_trans hB b0.size
  have c1 : Calls Try.prog 27 #[.pointer (some ⟨g, 0, none⟩), .string nA] (w.alloc (.cells #[.int .i64 4, .string nA, .string nB, .int .i64 N, .slice pa pn pc] 36)) (ImRes W0 B g mv Q (resC C (remL nA C.L))) := by
    rw [← hW0]
    exact dRemove W0 B g mv Q C nA T0.im T0.inv hn hA hz0
  obtain ⟨xc, hxc⟩ : ∃ x, x = resC C (remL nA C.L) := ⟨_, rfl⟩
  rw [← hxc] at c1
  obtain ⟨r1, hr1⟩ : ∃ r : Int, r = xc.1 := ⟨_, rfl⟩
  have hsr := T.sim.res hMn (remL nA C.L)
  rw [← hxc, ← hr1] at hsr
  have hinv : Inv xc.2 := by rw [hxc]; exact rem_inv T.inv hri nA
  have htt := tot_res (k := 0) (show tot (remL nA C.L).2 ≤ tot C.L + 0 from tot_rem hri nA)
  rw [← hxc] at htt
  have HLT : Hid (∀ i, ImS g mv Q i → i < w.heap.size) := fun i e => (T.im.ltS i e).2
  have HT0 := Lib.hid T0
  have HW0 := Lib.hid hW0
  have HB0 := Lib.hid b0
  have HBOX := Lib.hid hbox
  have HSR := Lib.hid hsr
  have HINV := Lib.hid hinv
  have HTT := Lib.hid htt
  have HRI := Lib.hid hri
  have HR1 := Lib.hid hr1
  have e11 : (r1 == r1) = true := beq_self_eq_true _
  unfold ImRes at c1
  rw [← hr1] at c1
  clear T T0 hbox b0 hW0 hxc hsr hinv htt hri hr1
  go_enter Try.func13, Try.ntmps13
  go_wp2_with (go_at_call 27; (with_reducible refine c1.mono ?_))
  rintro e W1 ⟨mv1, Q1, rfl, h1, k1, n1⟩
  obtain ⟨hd1, hf1⟩ := HT0.out.left k1 h1 n1
  have hbx1 := (k1.block w.heap.size (lt_of_block HBOX.out) (fun e => absurd (HLT.out _ e) (Nat.lt_irrefl _))).trans HBOX.out
  have y1 : W1.cell? ⟨w.heap.size, 1, none⟩ = some (.string nA) := by rw [cell_of_row _ _ _ _ _ _ hbx1]; rfl
  have y2 : W1.cell? ⟨w.heap.size, 2, none⟩ = some (.string nB) := by rw [cell_of_row _ _ _ _ _ _ hbx1]; rfl
  have y3 : W1.cell? ⟨w.heap.size, 3, none⟩ = some (.int .i64 N) := by rw [cell_of_row _ _ _ _ _ _ hbx1]; rfl
  have hz1 := Nat.le_trans hz0 k1.size
  have c2 := rRemove W1 B g2 v P M nA hd1 hMn hPl hz1 (by rw [HT0.out.sim.L]; exact HRI.out)
  rw [HT0.out.sim.L] at c2
  unfold RkRes at c2
  rw [HSR.out.1] at c2
  have H1 := Lib.hid h1
  have HF1 := Lib.hid hf1
  have K1 := Lib.hid k1
  have HD1 := Lib.hid hd1
  clear h1 hd1 k1 n1 hf1 hbx1 c1
  go_wp2_with (go_at_call 32; (with_reducible refine c2.mono ?_))
  rintro e W2 ⟨v2, P2, rfl, h2, k2, n2⟩
  obtain ⟨hi2, hf2⟩ := right_of H1.out HF1.out k2 n2
  have hTwo : Two W2 B g mv1 Q1 xc.2 g2 v2 P2 (resM M (remL nA C.L)).2 := ⟨hi2, h2, HINV.out, HSR.out.2, hf2⟩
  have hbel : Below B w W2 := (HB0.out.mono hB).trans ((K1.out.below hz0 (fun i e => (HT0.out.im.ltS i e).1)).trans (k2.below hz1 (fun i e => (HD1.out.ltAll i (.inl e)).1)))
  have HTW := Lib.hid hTwo
  have HBE := Lib.hid hbel
  clear hTwo hbel h2 k2 n2 hi2 hf2 c2 y1 y2 y3
  go_wp2
  go_ret3
  exact ⟨g, mv1, Q1, xc.2, g2, v2, P2, _, rfl, HTW.out, HBE.out, by have := HTT.out.1; omega, HTT.out.2⟩
set_option maxHeartbeats 8000000 in
set_option maxRecDepth 100000 in
theorem does_Rename (w : World) (B g g2 : Nat) (mv v : Value) (Q P : List (Value × RF)) (C : CD) (M : RD) (nA nB : ByteArray) (N : Int) (pa : Option Addr) (pn pc : Nat) (ci : Int) (T : Two w B g mv Q C g2 v P M) (hB : B ≤ w.heap.size) (hn : C.n ≤ 1000000) (hA : nA.size ≤ 1000000) (hBn : nB.size ≤ 1000000) :
    Calls Try.prog 13 #[.pointer (some ⟨g, 0, none⟩), .pointer (some ⟨g2, 0, none⟩), .agg #[.int .i64 3, .string nA, .string nB, .int .i64 N, .slice pa pn pc], .int .i64 ci] w (DoesPost w B C N) := by
  obtain ⟨W0, hW0⟩ : ∃ W, W = w.alloc (.cells #[.int .i64 3, .string nA, .string nB, .int .i64 N, .slice pa pn pc] 36) := ⟨_, rfl⟩
  have b0 : Below w.heap.size w W0 := by rw [hW0]; exact (Below.refl _ _).alloc (Nat.le_refl _) _
  have T0 := T.below b0
  have hbox : W0.heap[w.heap.size]? = some (.cells #[.int .i64 3, .string nA, .string nB, .int .i64 N, .slice pa pn pc] 36 (0, 0)) := by rw [hW0]; exact heap_alloc_new w _
  have hMn : M.n ≤ 1000000 := by rw [T.sim.n]; exact hn
  have hPl : P.length ≤ 100000 := by rw [T.dk.rise, T.sim.L]; have := T.inv.len; omega
  have hri : Rise C.L := T.im.rise
  have hz0 : B ≤ W0.heap.size := Nat.le_trans hB b0.size
  have c1 : Calls Try.prog 26 #[.pointer (some ⟨g, 0, none⟩), .string nA, .string nB] (w.alloc (.cells #[.int .i64 3, .string nA, .string nB, .int .i64 N, .slice pa pn pc] 36)) (ImRes W0 B g mv Q (resC C (renL nA nB C.L))) := by
    rw [← hW0]
    exact dRename W0 B g mv Q C nA T0.im T0.inv hn hA hz0 nB hBn
  obtain ⟨xc, hxc⟩ : ∃ x, x = resC C (renL nA nB C.L) := ⟨_, rfl⟩
  rw [← hxc] at c1
  obtain ⟨r1, hr1⟩ : ∃ r : Int, r = xc.1 := ⟨_, rfl⟩
  have hsr := T.sim.res hMn (renL nA nB C.L)
  rw [← hxc, ← hr1] at hsr
  have hinv : Inv xc.2 := by rw [hxc]; exact ren_inv T.inv hri nA nB
  have htt := tot_res (k := 0) (show tot (renL nA nB C.L).2 ≤ tot C.L + 0 from tot_ren hri nA nB)
  rw [← hxc] at htt
  have HLT : Hid (∀ i, ImS g mv Q i → i < w.heap.size) := fun i e => (T.im.ltS i e).2
  have HT0 := Lib.hid T0
  have HW0 := Lib.hid hW0
  have HB0 := Lib.hid b0
  have HBOX := Lib.hid hbox
  have HSR := Lib.hid hsr
  have HINV := Lib.hid hinv
  have HTT := Lib.hid htt
  have HRI := Lib.hid hri
  have HR1 := Lib.hid hr1
  have e11 : (r1 == r1) = true := beq_self_eq_true _
  unfold ImRes at c1
  rw [← hr1] at c1
  clear T T0 hbox b0 hW0 hxc hsr hinv htt hri hr1
  go_enter Try.func13, Try.ntmps13
  go_wp2_with (go_at_call 26; (with_reducible refine c1.mono ?_))
  rintro e W1 ⟨mv1, Q1, rfl, h1, k1, n1⟩
  obtain ⟨hd1, hf1⟩ := HT0.out.left k1 h1 n1
  have hbx1 := (k1.block w.heap.size (lt_of_block HBOX.out) (fun e => absurd (HLT.out _ e) (Nat.lt_irrefl _))).trans HBOX.out
  have y1 : W1.cell? ⟨w.heap.size, 1, none⟩ = some (.string nA) := by rw [cell_of_row _ _ _ _ _ _ hbx1]; rfl
  have y2 : W1.cell? ⟨w.heap.size, 2, none⟩ = some (.string nB) := by rw [cell_of_row _ _ _ _ _ _ hbx1]; rfl
  have y3 : W1.cell? ⟨w.heap.size, 3, none⟩ = some (.int .i64 N) := by rw [cell_of_row _ _ _ _ _ _ hbx1]; rfl
  have hz1 := Nat.le_trans hz0 k1.size
  have c2 := rRename W1 B g2 v P M nA nB hd1 hMn hPl hz1 (by rw [HT0.out.sim.L]; exact HRI.out)
  rw [HT0.out.sim.L] at c2
  unfold RkRes at c2
  rw [HSR.out.1] at c2
  have H1 := Lib.hid h1
  have HF1 := Lib.hid hf1
  have K1 := Lib.hid k1
  have HD1 := Lib.hid hd1
  clear h1 hd1 k1 n1 hf1 hbx1 c1
  go_wp2_with (go_at_call 31; (with_reducible refine c2.mono ?_))
  rintro e W2 ⟨v2, P2, rfl, h2, k2, n2⟩
  obtain ⟨hi2, hf2⟩ := right_of H1.out HF1.out k2 n2
  have hTwo : Two W2 B g mv1 Q1 xc.2 g2 v2 P2 (resM M (renL nA nB C.L)).2 := ⟨hi2, h2, HINV.out, HSR.out.2, hf2⟩
  have hbel : Below B w W2 := (HB0.out.mono hB).trans ((K1.out.below hz0 (fun i e => (HT0.out.im.ltS i e).1)).trans (k2.below hz1 (fun i e => (HD1.out.ltAll i (.inl e)).1)))
  have HTW := Lib.hid hTwo
  have HBE := Lib.hid hbel
  clear hTwo hbel h2 k2 n2 hi2 hf2 c2 y1 y2 y3
  go_wp2
  go_ret3
  exact ⟨g, mv1, Q1, xc.2, g2, v2, P2, _, rfl, HTW.out, HBE.out, by have := HTT.out.1; omega, HTT.out.2⟩

end Go.Proofs.Ytbolminblofhgaa
