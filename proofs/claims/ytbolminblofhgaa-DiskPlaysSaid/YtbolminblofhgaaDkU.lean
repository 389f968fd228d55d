/-
  The law's does: Append.
-/
import Derived.Test.YtbolminblofhgaaDkT
set_option linter.unusedVariables false
namespace Go.Proofs.Ytbolminblofhgaa
open Go.RowKit

theorem bytes_int (N k : Int) (w : World) (hlo : -9223372036854775808 ≤ N) (hn : N ≤ 1000000) (hk0 : -1000000000000 ≤ k) (hk1 : k ≤ 1000000000000) :
    Calls Try.prog 15 #[.int .i64 N, .int .i64 k] w (BytesPost w (letters N.toNat k)) := by
  by_cases h : N < 0
  · rw [show N.toNat = 0 by omega]
    exact bytes_of N k [] w (Nat.zero_le _) (Letters_neg N k w h hlo)
  · have := bytes_nat N.toNat k w (by omega) hk0 hk1
    rw [show ((N.toNat : Nat) : Int) = N by omega] at this
    exact this
theorem tot_app {L : List RF} (hr : Rise L) (room : Nat) (nm : ByteArray) (l : List UInt8) : tot (appL room nm l L).2 ≤ tot L + l.length := by
  unfold appL
  split
  · exact Nat.le_add_right _ _
  · split
    · exact Nat.le_add_right _ _
    · cases hg : getL nm L with
      | none => have := (put_tot hr ⟨nm, l, 0⟩).1; simp only [hg] at this ⊢; omega
      | some f => have := (put_tot hr ⟨nm, f.b ++ l, f.s⟩).1; simp only [hg, List.length_append] at this ⊢; omega

set_option maxHeartbeats 8000000 in
set_option maxRecDepth 100000 in
theorem does_Append (w : World) (B g g2 : Nat) (mv v : Value) (Q P : List (Value × RF)) (C : CD) (M : RD) (nA nB : ByteArray) (N : Int) (pa : Option Addr) (pn pc : Nat) (ci : Int) (T : Two w B g mv Q C g2 v P M) (hB : B ≤ w.heap.size) (hn : C.n ≤ 1000000) (hA : nA.size ≤ 1000000) (hlo : -9223372036854775808 ≤ N) (hN : N ≤ 1000000) (hk0 : -1000000000000 ≤ ci) (hk1 : ci ≤ 1000000000000) :
    Calls Try.prog 13 #[.pointer (some ⟨g, 0, none⟩), .pointer (some ⟨g2, 0, none⟩), .agg #[.int .i64 1, .string nA, .string nB, .int .i64 N, .slice pa pn pc], .int .i64 ci] w (DoesPost w B C N) := by
  obtain ⟨W0, hW0⟩ : ∃ W, W = w.alloc (.cells #[.int .i64 1, .string nA, .string nB, .int .i64 N, .slice pa pn pc] 36) := ⟨_, rfl⟩
  have b0 : Below w.heap.size w W0 := by rw [hW0]; exact (Below.refl _ _).alloc (Nat.le_refl _) _
  have T0 := T.below b0
  have hbox : W0.heap[w.heap.size]? = some (.cells #[.int .i64 1, .string nA, .string nB, .int .i64 N, .slice pa pn pc] 36 (0, 0)) := by rw [hW0]; exact heap_alloc_new w _
  have hMn : M.n ≤ 1000000 := by rw [T.sim.n]; exact hn
  have hPl : P.length ≤ 100000 := by rw [T.dk.rise, T.sim.L]; have := T.inv.len; omega
  have hz0 : B ≤ W0.heap.size := Nat.le_trans hB b0.size
  have HLT : Hid (∀ i, ImS g mv Q i → i < w.heap.size) := fun i e => (T.im.ltS i e).2
  have HLD : Hid (∀ i, DkAll g2 v P i → i < w.heap.size) := fun i e => (T.dk.ltAll i e).2
  have hri : Rise C.L := T.im.rise
  obtain ⟨l, hl⟩ : ∃ l, l = letters N.toNat ci := ⟨_, rfl⟩
  obtain ⟨m, hm⟩ : ∃ m, m = l.length := ⟨_, rfl⟩
  have hmN : m = N.toNat := by rw [hm, hl, letters_len]
  obtain ⟨xc, hxc⟩ : ∃ x, x = resC C (appL C.room nA l C.L) := ⟨_, rfl⟩
  obtain ⟨r1, hr1⟩ : ∃ r : Int, r = xc.1 := ⟨_, rfl⟩
  have hsr := T.sim.res hMn (appL C.room nA l C.L)
  rw [← hxc, ← hr1] at hsr
  have hinv : Inv xc.2 := by rw [hxc]; exact app_inv T.inv hri nA l
  have htt := tot_res (tot_app hri C.room nA l)
  rw [← hxc, ← hm, hmN] at htt
  have e11 : (r1 == r1) = true := beq_self_eq_true _
  have y1 : W0.cell? ⟨w.heap.size, 1, none⟩ = some (.string nA) := by rw [cell_of_row _ _ _ _ _ _ hbox]; rfl
  have y3 : W0.cell? ⟨w.heap.size, 3, none⟩ = some (.int .i64 N) := by rw [cell_of_row _ _ _ _ _ _ hbox]; rfl
  have cellB : ∀ wx (j : Nat) (u : Value), Below W0.heap.size W0 wx → W0.cell? ⟨w.heap.size, j, none⟩ = some u → wx.cell? ⟨w.heap.size, j, none⟩ = some u := fun wx j u hb hc => (hb.cell (p := ⟨w.heap.size, j, none⟩) (lt_of_block hbox)).trans hc
  have hBy : Calls Try.prog 15 #[.int .i64 N, .int .i64 ci] W0.drew fun e w' => ∃ gb cap, e = .returned (.slice (some ⟨gb, 0, none⟩) m cap) ∧ W0.heap.size ≤ gb ∧ Bts w' (some ⟨gb, 0, none⟩) l ∧ Below W0.heap.size W0 w' ∧ w'.cell? ⟨w.heap.size, 1, none⟩ = some (.string nA) ∧ w'.cell? ⟨w.heap.size, 3, none⟩ = some (.int .i64 N) := by
    refine (bytes_int N ci W0.drew hlo hN hk0 hk1).mono ?_
    rw [← hl]
    rintro e w' ⟨gb, cap, rfl, h1, h2, h3, h4, h5, h6⟩
    have h6' : Below W0.heap.size W0 w' := (Below.refl _ W0).drew.trans h6
    rw [← hm]
    exact ⟨gb, cap, rfl, h1, h5, h6', cellB w' 1 _ h6' y1, cellB w' 3 _ h6' y3⟩
  have hAp : ∀ wx gb cap, W0.heap.size ≤ gb → Bts wx (some ⟨gb, 0, none⟩) l → Below W0.heap.size W0 wx → Calls Try.prog 16 #[.pointer (some ⟨g, 0, none⟩), .string nA, .slice (some ⟨gb, 0, none⟩) m cap] wx fun e w' => ∃ mv1 Q1, e = .returned (.int .i64 r1) ∧ ImAt w' B g mv1 Q1 xc.2 ∧ Kept (ImS g mv Q) W0 w' ∧ (∀ k, ImS g mv1 Q1 k → ImS g mv Q k ∨ W0.heap.size ≤ k) ∧ w'.cell? ⟨w.heap.size, 1, none⟩ = some (.string nA) ∧ w'.cell? ⟨w.heap.size, 3, none⟩ = some (.int .i64 N) := fun wx gb cap hgb hbt hb => by
    refine (dAppend wx B g mv Q C nA (some ⟨gb, 0, none⟩) m cap l (T0.below hb).im T0.inv hn hA hm.symm (by omega) hbt (fun h => by cases h) (Nat.le_trans hz0 hb.size) (fun x hx e => by injection hx with hx; subst hx; have := HLT.out _ e; have := b0.size; simp only at *; omega)).mono ?_
    rw [← hxc]
    rintro e w' ⟨mv1, Q1, rfl, h1, h2, h3⟩
    have h2' : Kept (ImS g mv Q) W0 w' := (Kept.of_below hb).trans h2 (fun _ _ e => e)
    refine ⟨mv1, Q1, by rw [hr1], h1, h2', fun k e => ?_, ?_, ?_⟩
    · rcases h3 k e with e | e
      · exact .inl e
      · exact .inr (Nat.le_trans hb.size e)
    · rw [World.cell?_of_block (w := W0) (h2'.block w.heap.size (lt_of_block hbox) (fun e => absurd (HLT.out _ e) (Nat.lt_irrefl _)))]; exact y1
    · rw [World.cell?_of_block (w := W0) (h2'.block w.heap.size (lt_of_block hbox) (fun e => absurd (HLT.out _ e) (Nat.lt_irrefl _)))]; exact y3
  have HT0 := Lib.hid T0
  have HB0 := Lib.hid b0
  have HBOX := Lib.hid hbox
  have HW0 := Lib.hid hW0
  have HSR := Lib.hid hsr
  have HINV := Lib.hid hinv
  have HTT := Lib.hid htt
  have HRI := Lib.hid hri
  have HL := Lib.hid hl
  have HM := Lib.hid hm
  have HMN := Lib.hid hmN
  clear T T0 hbox b0 hW0 hsr hinv htt hri hr1 hxc hl hm hmN cellB
  go_enter Try.func13, Try.ntmps13
  go_wp2
  rw [← HW0.out]
  go_region_held3 (fun w' => w'.cell? ⟨w.heap.size, 1, none⟩ = some (.string nA) ∧ w'.cell? ⟨w.heap.size, 3, none⟩ = some (.int .i64 N))
    (first
      | exact ⟨c61, c63⟩
      | exact ⟨c51, c53⟩
      | exact ⟨y1, y3⟩
      | go_keep)
    (first
      | (go_at_call 15; refine hBy.mono ?_; rintro e W5 ⟨gb, cap5, rfl, g5, t5, b5, c51, c53⟩)
      | (go_at_call 16; refine (hAp _ _ _ (by assumption) (by assumption) (by assumption)).mono ?_; rintro e W6 ⟨mv1, Q1, rfl, h6, k6, n6, c61, c63⟩))
  obtain ⟨hd1, hf1⟩ := HT0.out.left k6 h6 n6
  have hz6 : B ≤ W6.heap.size := Nat.le_trans hz0 k6.size
  have hlt6 : w.heap.size < W6.heap.size := Nat.lt_of_lt_of_le (lt_of_block HBOX.out) k6.size
  have HLD6 : Hid (∀ i, DkAll g2 v P i → i < W6.heap.size) := fun i e => (hd1.ltAll i e).2
  have cell6 : ∀ wx (j : Nat) (u : Value), Below W6.heap.size W6 wx → W6.cell? ⟨w.heap.size, j, none⟩ = some u → wx.cell? ⟨w.heap.size, j, none⟩ = some u := fun wx j u hb hc => (hb.cell (p := ⟨w.heap.size, j, none⟩) hlt6).trans hc
  have hBy2 : Calls Try.prog 15 #[.int .i64 N, .int .i64 ci] W6.drew fun e w' => ∃ gb cap, e = .returned (.slice (some ⟨gb, 0, none⟩) m cap) ∧ W6.heap.size ≤ gb ∧ Bts w' (some ⟨gb, 0, none⟩) l ∧ Below W6.heap.size W6 w' ∧ w'.cell? ⟨w.heap.size, 1, none⟩ = some (.string nA) ∧ w'.cell? ⟨w.heap.size, 3, none⟩ = some (.int .i64 N) := by
    refine (bytes_int N ci W6.drew hlo hN hk0 hk1).mono ?_
    rw [← HL.out]
    rintro e w' ⟨gb, cap, rfl, h1, h2, h3, h4, h5, h6⟩
    have h6' : Below W6.heap.size W6 w' := (Below.refl _ W6).drew.trans h6
    rw [← HM.out]
    exact ⟨gb, cap, rfl, h1, h5, h6', cell6 w' 1 _ h6' c61, cell6 w' 3 _ h6' c63⟩
  have hAp2 : ∀ wx gb cap, W6.heap.size ≤ gb → Bts wx (some ⟨gb, 0, none⟩) l → Below W6.heap.size W6 wx → Calls Try.prog 29 #[.pointer (some ⟨g2, 0, none⟩), .string nA, .slice (some ⟨gb, 0, none⟩) m cap] wx fun e w' => ∃ v2 P2, e = .returned (.int .i64 r1) ∧ DkAt w' B g2 v2 P2 (resM M (appL C.room nA l C.L)).2 ∧ Kept (DkS g2 v) W6 w' ∧ (∀ k, DkAll g2 v2 P2 k → DkAll g2 v P k ∨ W6.heap.size ≤ k) ∧ w'.cell? ⟨w.heap.size, 1, none⟩ = some (.string nA) ∧ w'.cell? ⟨w.heap.size, 3, none⟩ = some (.int .i64 N) := fun wx gb cap hgb hbt hb => by
    have hdx := hd1.kept (S := fun _ => False) (Kept.of_below hb) (fun _ _ h => h) (fun _ _ _ _ h => h)
    have hmm : m ≤ 1000000 := by have := HMN.out; omega
    have hr2 := HT0.out.inv.room
    have ht2 := HT0.out.inv.tot
    refine (rAppend wx B g2 v P M nA (some ⟨gb, 0, none⟩) m cap l hdx hMn hPl (Nat.le_trans hz6 hb.size) (by rw [HT0.out.sim.L]; exact HRI.out) (by rw [HT0.out.sim.L]; omega) (by rw [HT0.out.sim.room]; exact hr2) HM.out.symm hmm hbt (fun h => by cases h) (fun x hx e => by injection hx with hx; subst hx; have := HLD6.out g2 (.inl (.inl rfl)); have e' : gb = g2 := e; omega)).mono ?_
    rw [HT0.out.sim.L, HT0.out.sim.room]
    rintro e w' ⟨v2, P2, rfl, h1, h2, h3⟩
    have h2' : Kept (DkS g2 v) W6 w' := (Kept.of_below hb).trans h2 (fun _ _ e => e)
    have hnb : ¬ DkS g2 v w.heap.size := fun e => absurd (HLD.out _ (.inl e)) (Nat.lt_irrefl _)
    refine ⟨v2, P2, by rw [HSR.out.1], h1, h2', fun k e => ?_, ?_, ?_⟩
    · rcases h3 k e with e | e
      · exact .inl e
      · exact .inr (Nat.le_trans hb.size e)
    · rw [World.cell?_of_block (w := W6) (h2'.block w.heap.size hlt6 hnb)]; exact c61
    · rw [World.cell?_of_block (w := W6) (h2'.block w.heap.size hlt6 hnb)]; exact c63
  have H6 := Lib.hid h6
  have HF1 := Lib.hid hf1
  have K6 := Lib.hid k6
  have HD1 := Lib.hid hd1
  clear h6 k6 n6 hd1 hf1 hBy hAp b5 t5 g5 c51 c53 cell6 y1 y3
  go_wp2
  go_region_held3 (fun w' => w'.cell? ⟨w.heap.size, 1, none⟩ = some (.string nA) ∧ w'.cell? ⟨w.heap.size, 3, none⟩ = some (.int .i64 N))
    (first
      | exact ⟨c81, c83⟩
      | exact ⟨c71, c73⟩
      | exact ⟨c61, c63⟩
      | go_keep)
    (first
      | (go_at_call 15; refine hBy2.mono ?_; rintro e W7 ⟨gb7, cap7, rfl, g7, t7, b7, c71, c73⟩)
      | (go_at_call 29; refine (hAp2 _ _ _ (by assumption) (by assumption) (by assumption)).mono ?_; rintro e W8 ⟨v2, P2, rfl, h8, k8, n8, c81, c83⟩))
  obtain ⟨hi2, hf2⟩ := right_of H6.out HF1.out k8 n8
  have hTwo : Two W8 B g mv1 Q1 xc.2 g2 v2 P2 (resM M (appL C.room nA l C.L)).2 := ⟨hi2, h8, HINV.out, HSR.out.2, hf2⟩
  have hbel : Below B w W8 := (HB0.out.mono hB).trans ((K6.out.below hz0 (fun i e => (HT0.out.im.ltS i e).1)).trans (k8.below hz6 (fun i e => (HD1.out.ltAll i (.inl e)).1)))
  have HTW := Lib.hid hTwo
  have HBE := Lib.hid hbel
  clear hTwo hbel h8 k8 n8 hi2 hf2 c81 c83 c71 c73 c61 c63 b7 t7 g7 hBy2 hAp2
  go_wp2
  go_ret3
  exact ⟨g, mv1, Q1, xc.2, g2, v2, P2, _, rfl, HTW.out, HBE.out, by have := HTT.out.1; omega, HTT.out.2⟩

end Go.Proofs.Ytbolminblofhgaa
