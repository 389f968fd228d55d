/-
  The law's same: both have the same files.
-/
import Derived.Test.YtbolminblofhgaaDkQ
import Derived.Test.YtbolminblofhgaaDsS
set_option linter.unusedVariables false
namespace Go.Proofs.Ytbolminblofhgaa
open Go.RowKit

theorem Two.below {w w' : World} {B g g2 : Nat} {mv v : Value} {Q P : List (Value × RF)} {C : CD} {M : RD} (h : Two w B g mv Q C g2 v P M) (hb : Below w.heap.size w w') : Two w' B g mv Q C g2 v P M :=
  ⟨h.im.below hb, h.dk.kept (S := fun _ => False) (Kept.of_below hb) (fun _ _ h => h) (fun _ _ _ _ h => h), h.inv, h.sim, h.far⟩
def NmPost (W : World) (g2 : Nat) (C : CD) (e : Ending) (w' : World) : Prop :=
  ∃ na nc, e = .returned (.slice na C.L.length nc) ∧ w'.ownsRow W.heap.size 9 1 (.slice na C.L.length nc) C.L.length (C.L.map fun f => .string f.nm) ∧ Below W.heap.size W w' ∧ w'.cell? ⟨g2, 2, none⟩ = some (.int .i64 C.n)
def TxPost (W : World) (g2 : Nat) (C : CD) (e : Ending) (w' : World) : Prop :=
  e = .returned (.bool true) ∧ Below W.heap.size W w' ∧ w'.cell? ⟨g2, 2, none⟩ = some (.int .i64 C.n)

set_option maxHeartbeats 8000000 in
set_option maxRecDepth 100000 in
theorem same_two (w : World) (B g g2 : Nat) (mv v : Value) (Q P : List (Value × RF)) (C : CD) (M : RD) (T : Two w B g mv Q C g2 v P M) (ht : tot C.L ≤ 1000000) :
    Calls Try.prog 14 #[.pointer (some ⟨g, 0, none⟩), .pointer (some ⟨g2, 0, none⟩)] w fun e w' => e = .returned (.bool true) ∧ Below w.heap.size w w' := by
  have hlen := T.inv.len
  have hPl : P.length = C.L.length := by rw [T.dk.rise, T.sim.L]
  have cN2 := rNames w B g2 v P M T.dk (by omega)
  rw [T.sim.L] at cN2
  have HT := Lib.hid T
  have HPL := Lib.hid hPl
  have HTO := Lib.hid ht
  obtain ⟨n, hn⟩ : ∃ n, n = C.L.length := ⟨_, rfl⟩
  have HN := Lib.hid hn
  obtain ⟨cn, hcn⟩ : ∃ x : Int, x = (C.n : Int) := ⟨_, rfl⟩
  have HCN := Lib.hid hcn
  have ecn : (cn != cn) = false := by simp
  clear T hPl ht hn hcn
  go_enter Try.func14, Try.ntmps14
  go_wp2_with (go_at_call 37; (with_reducible refine cN2.mono ?_))
  rintro e W1 ⟨ra, rc, rfl, o1, b1⟩
  have T1 := HT.out.below b1
  have hcell : ∀ wx, Below W1.heap.size W1 wx → wx.cell? ⟨g2, 2, none⟩ = some (.int .i64 cn) := fun wx hb => by
    have := (T1.below hb).dk.cell.2.2.1
    rw [HCN.out, ← HT.out.sim.n]; exact this
  have hNm : ∀ wx, Below W1.heap.size W1 wx → Calls Try.prog 23 #[.pointer (some ⟨g, 0, none⟩)] wx fun e w' => ∃ na nc, e = .returned (.slice na C.L.length nc) ∧ w'.ownsRow W1.heap.size 9 1 (.slice na C.L.length nc) C.L.length (C.L.map fun f => .string f.nm) ∧ Below W1.heap.size W1 w' ∧ w'.cell? ⟨g2, 2, none⟩ = some (.int .i64 cn) := fun wx hb =>
    (dNames wx B g mv Q _ C (T1.below hb).im (by omega)).mono fun e w' ⟨na, nc, he, ho, hb2⟩ => ⟨na, nc, he, own_low ho hb.size, hb.trans (hb2.mono hb.size), hcell _ (hb.trans (hb2.mono hb.size))⟩
  have hTx : ∀ wx (na : Option Addr) (nc : Nat), wx.ownsRow W1.heap.size 9 1 (.slice na C.L.length nc) C.L.length (C.L.map fun f => .string f.nm) → Below W1.heap.size W1 wx → Calls Try.prog 38 #[.slice na C.L.length nc, .slice ra C.L.length rc] wx fun e w' => e = .returned (.bool true) ∧ Below W1.heap.size W1 w' ∧ w'.cell? ⟨g2, 2, none⟩ = some (.int .i64 cn) := fun wx na nc ho hb =>
    (Texts_eq wx W1.heap.size w.heap.size C.L.length na ra nc rc C.L rfl (by omega) ho (Kept.own o1 (Kept.of_below (S := fun _ => False) hb) (fun _ _ h => h))).mono fun e w' ⟨he, hb2⟩ => ⟨he, hb.trans (hb2.mono hb.size), hcell _ (hb.trans (hb2.mono hb.size))⟩
  have hOp : ∀ wx, Below W1.heap.size W1 wx → Calls Try.prog 24 #[.pointer (some ⟨g, 0, none⟩)] wx fun e w' => e = .returned (.int .i64 cn) ∧ wx = w' := fun wx hb => by
    have := dOps wx B g mv Q _ C (T1.below hb).im
    rw [← HCN.out] at this
    exact this
  have c0 := hcell W1 (Below.refl _ _)
  have b0 : Below W1.heap.size W1 W1 := Below.refl _ _
  have HC := Lib.hid hcell
  have HO1 := Lib.hid o1
  have HB1 := Lib.hid b1
  rw [← HN.out] at hNm hTx ⊢
  clear cN2 hcell o1 b1 T1
  go_wp2
  go_region_held3 (fun w' => Below W1.heap.size W1 w' ∧ w'.cell? ⟨g2, 2, none⟩ = some (.int .i64 cn))
    (first
      | exact ⟨b0, c0⟩
      | exact ⟨b0.drew, c0⟩
      | exact ⟨b7, c7⟩
      | exact ⟨b6, c6⟩
      | exact ⟨b5, c5⟩
      | go_keep)
    (first
      | (go_at_call 23; refine (hNm _ (by first | assumption | (go_split_ands; assumption))).mono ?_; rintro e W5 ⟨na, nc, rfl, on5, b5, c5⟩)
      | (go_at_call 38; refine (hTx _ _ _ (by assumption) (by first | assumption | (go_split_ands; assumption))).mono ?_; rintro e W6 ⟨rfl, b6, c6⟩)
      | (go_at_call 24; refine (hOp _ (by first | assumption | (go_split_ands; assumption))).mono ?_; rintro e W7 ⟨rfl, rfl⟩))
  have bW := HB1.out.trans (b6.mono HB1.out.size)
  have HB6 := Lib.hid b6
  have HBW := Lib.hid bW
  clear b6 c6 b5 c5 on5 b0 c0 hNm hTx hOp bW
  go_wp2
  go_loopw [6] (fun i wr => ∃ j : Nat, i = .int .i64 j ∧ j ≤ n ∧ Below W6.heap.size W6 wr) (fun i _ => n - (intOf i).toNat)
  case atStart => exact ⟨0, rfl, Nat.zero_le _, Below.refl _ _⟩
  case round =>
    obtain ⟨j, rfl, hj, hb⟩ := hrel
    by_cases hlt : j < n
    · have hlt2 : j < C.L.length := by have := HN.out; omega
      have hb1 := HB6.out.trans (hb.mono HB6.out.size)
      have hbw := HBW.out.trans (hb.mono HBW.out.size)
      have T1 := HT.out.below hbw
      have o1 := Kept.own HO1.out (Kept.of_below (S := fun _ => False) hb1) (fun _ _ h => h)
      obtain ⟨gn, hna, _, _⟩ := own_some o1 (by omega)
      subst hna
      have hrise := T1.im.rise
      have hga := get_at hrise j hlt2
      have hmem : C.L[j]'hlt2 ∈ C.L := List.getElem_mem hlt2
      obtain ⟨f, hf⟩ : ∃ f, f = C.L[j]'hlt2 := ⟨_, rfl⟩
      have x1 := o1.cellAt j (show j < C.L.length * 1 by omega)
      have y1 : wr.cell? ⟨gn, j, none⟩ = some (.string f.nm) := by rw [x1, hf]; simp [hlt2]
      rw [← hf] at hga hmem
      have hfl : f.b.length ≤ 1000000 := by have := mem_tot hmem; have := HTO.out; omega
      have cD := dRead wr B g mv Q C f.nm T1.im T1.inv (by have := T1.inv.nm f hmem; omega)
      rw [show rdL f.nm C.L = (f.b, 0) by unfold rdL; rw [hga]] at cD
      have HF := Lib.hid hf
      have HGA := Lib.hid hga
      have HB := Lib.hid hb
      have HT1 := Lib.hid T1
      have HRS := Lib.hid hrise
      have hgn := own_lt o1 gn rfl
      obtain ⟨fn, hfn⟩ : ∃ x, x = f.b.length := ⟨_, rfl⟩
      have HFN := Lib.hid hfn
      unfold ReadPost at cD
      simp only at cD
      rw [← hfn] at cD
      clear hf hga hb hb1 hbw T1 o1 x1 hrise hmem hfn
      go_wp2_with (go_at_call 19; (with_reducible refine cD.mono ?_))
      rintro e W8 ⟨da, dc, rfl, od, bd⟩
      have T8 := HT1.out.below bd
      have y8 : W8.cell? ⟨gn, j, none⟩ = some (.string f.nm) := (bd.cell (p := ⟨gn, j, none⟩) (World.block_lt_of_cell? wr _ y1)).trans y1
      have cR := rRead W8 B g2 v P M f.nm T8.dk (by have := HPL.out; omega) (by rw [T8.sim.L]; have := HTO.out; omega) (by rw [T8.sim.L]; exact HRS.out)
      rw [T8.sim.L, show rdL f.nm C.L = (f.b, 0) by unfold rdL; rw [HGA.out]] at cR
      unfold ReadPost at cR
      simp only at cR
      rw [← HFN.out] at cR
      have HOD := Lib.hid od
      have HBD := Lib.hid bd
      clear T8 od bd cD y1
      go_wp2_with (go_at_call 39; (with_reducible refine cR.mono ?_))
      rintro e W9 ⟨xa, xc, rfl, ox, bx⟩
      have q1 : Bts W9 da f.b := (Bts.own HOD.out).later bx
      have q2 : Bts W9 xa f.b := Bts.own ox
      have cB := Bytes_same da xa fn fn dc xc f.b W9 HFN.out.symm HFN.out.symm (by have := HFN.out; omega) q1 q2
      have b9 : Below W6.heap.size W6 W9 := HB.out.trans ((HBD.out.mono HB.out.size).trans (bx.mono (Nat.le_trans HB.out.size HBD.out.size)))
      have HB9 := Lib.hid b9
      clear ox bx q1 q2 cR b9 y8
      go_wp2_with (go_at_call 20; (with_reducible refine cB.mono ?_))
      rintro e W10 ⟨rfl, b10⟩
      have HB10 := Lib.hid (HB9.out.trans (b10.mono HB9.out.size))
      clear b10 cB
      go_wp2
      go_roundw
      case rel => exact ⟨j + 1, by go_num, by omega, HB10.out⟩
      case measure => simp [intOf]; omega
    · have HB := Lib.hid hb
      clear hb
      go_wp2
      go_ret
      exact ⟨rfl, HBW.out.trans (HB.out.mono HBW.out.size)⟩

end Go.Proofs.Ytbolminblofhgaa
