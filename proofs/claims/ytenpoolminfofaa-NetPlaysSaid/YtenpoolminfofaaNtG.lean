/-
  Package net: slices.DeleteFunc, Clear.
-/
import Derived.Test.YtenpoolminfofaaNtF
set_option linter.unusedVariables false
namespace Go.Proofs.Ytenpoolminfofaa
open Go.RowKit

set_option maxHeartbeats 8000000 in
set_option maxRecDepth 100000 in
theorem nDelFunc (w : World) (B G gr cp n : Nat) (node : Int) (Q : List (Value × Pk)) (hn : n = Q.length) (hq : Q.length ≤ 100000) (hcap : Q.length ≤ cp) (hcm : cp ≤ maxLen) (hc : w.cell? ⟨G, 0, none⟩ = some (.int .i64 node)) (hGr : G ≠ gr) (hB : B ≤ w.heap.size)
    (ho : w.ownsRow B 36 3 (.slice (some ⟨gr, 0, none⟩) Q.length cp) Q.length (rowOf pC Q)) (hb : ∀ q ∈ Q, ∃ a c, q.1 = .slice a q.2.b.length c) :
    Calls Try.prog 30 #[.slice (some ⟨gr, 0, none⟩) n cp, .func (.func 31) #[] #[.pointer (some ⟨G, 0, none⟩)]] w (DelPost w B gr cp (Q.filter (keepQ node))) := by
  have cI := nIndex w B G gr cp n node Q hn hq hc ho hb
  rcases hfi : (Q.map Prod.snd).findIdx? (hitP node) with _ | k0
  · rw [show idxL node (Q.map Prod.snd) = -1 by unfold idxL; rw [hfi]] at cI
    have hall : Q.filter (keepQ node) = Q := List.filter_eq_self.2 (fun q hq2 => by
      rw [List.findIdx?_eq_none_iff] at hfi
      have := hfi q.2 (List.mem_map_of_mem hq2)
      unfold keepQ
      rw [this]; rfl)
    rw [hall]
    subst hn
    have HO := Lib.hid ho
    obtain ⟨n, hn⟩ : ∃ n, n = Q.length := ⟨_, rfl⟩
    unfold DelPost
    rw [← hn] at cI HO ⊢
    clear ho hb hfi hall hn hcap hq
    go_enter Try.func30, Try.ntmps30
    go_wp2_with (go_at_call 34; (with_reducible refine cI.mono ?_); rintro e w' ⟨rfl, hb'⟩)
    go_ret
    exact ⟨rfl, Kept.own HO.out (Kept.of_below (S := fun _ => False) hb') (fun _ _ h => h), Kept.of_below hb'⟩
  · rw [show idxL node (Q.map Prod.snd) = (k0 : Int) by unfold idxL; rw [hfi]] at cI
    rw [List.findIdx?_eq_some_iff_getElem] at hfi
    obtain ⟨hk, hp, hne⟩ := hfi
    have hkQ : k0 < Q.length := by simpa using hk
    have hI0 : DelInv node Q Q k0 (k0 + 1) := DelInv.start hkQ (by simpa using hp) (fun t ht htl => by simpa using hne t ht)
    have hk1 : ((k0 : Int) == -1) = false := beq_false_of_ne (by omega)
    subst hn
    have HO := Lib.hid ho
    have HBV := Lib.hid hb
    obtain ⟨n, hn⟩ : ∃ n, n = Q.length := ⟨_, rfl⟩
    have HN := Lib.hid hn
    have HI0 := Lib.hid hI0
    have HC := Lib.hid hc
    rw [← hn] at cI HO hcap hq hkQ ⊢
    have hwr : IntKind.i64.wrap ((k0 : Int) + 1) = (k0 : Int) + 1 := IntWalk.i64_in _ (by omega)
    clear ho hb hp hne hk hn hI0 hc
    go_enter Try.func30, Try.ntmps30
    go_wp2_with (go_at_call 34; (with_reducible refine cI.mono ?_); rintro e W1 ⟨rfl, hb1⟩)
    have HB1 := Lib.hid hb1
    clear hb1 cI
    go_loopw [5, 6] (fun u i wr => ∃ (a j : Nat) (R : List (Value × Pk)), u = .int .i64 a ∧ i = .int .i64 j ∧ j ≤ n ∧ a < j ∧ Hid (DelInv node Q R a j) ∧ Hid (wr.ownsRow B 36 3 (.slice (some ⟨gr, 0, none⟩) n cp) n (rowOf pC R)) ∧ Hid (Kept (fun i => i = gr) w wr)) (fun _ i _ => n - (intOf i).toNat)
    case atStart => exact ⟨k0, k0 + 1, Q, rfl, by go_num, by omega, by omega, HI0, Kept.own HO.out (Kept.of_below (S := fun _ => False) HB1.out) (fun _ _ h => h), Kept.of_below HB1.out⟩
    case round =>
      obtain ⟨a, j, R, rfl, rfl, hj, haj, HI, HR, HK⟩ := hrel
      by_cases hlt : j < n
      · have hlt2 : j < Q.length := by have := HN.out; omega
        have haR : a < R.length := by rw [HI.out.len]; have := HN.out; omega
        have hjR : j < R.length := by rw [HI.out.len]; exact hlt2
        have hrl : n * 3 = R.length * 3 := by rw [HI.out.len, HN.out]
        have hat := HI.out.at hlt2
        have x0 := HR.out.cellAt (j * 3 + 0) (by omega)
        have x1 := HR.out.cellAt (j * 3 + 1) (by omega)
        have x2 := HR.out.cellAt (j * 3 + 2) (by omega)
        rw [rowOf_get pC 3 pC_len R j _ hjR (by omega)] at x0 x1 x2
        rw [hat] at x0 x1 x2
        have y0 := HR.out.cellAt (a * 3 + 0) (by omega)
        have y1 := HR.out.cellAt (a * 3 + 1) (by omega)
        have y2 := HR.out.cellAt (a * 3 + 2) (by omega)
        rw [rowOf_get pC 3 pC_len R a _ haR (by omega)] at y0 y1 y2
        have f0 := HR.out.frozenAt (a * 3 + 0)
        have f1 := HR.out.frozenAt (a * 3 + 1)
        have f2 := HR.out.frozenAt (a * 3 + 2)
        obtain ⟨ba, bc, hbv⟩ := HBV.out _ (List.getElem_mem hlt2)
        have hskip := fun h => Lib.hid (HI.out.skip hlt2 h)
        have hkeep := fun h => Lib.hid (HI.out.keep hlt2 h)
        obtain ⟨q, hq2⟩ : ∃ q, q = Q[j]'hlt2 := ⟨_, rfl⟩
        rw [← hq2] at x0 x1 x2 hbv hskip hkeep
        obtain ⟨old, hold⟩ : ∃ o, o = R[a]'haR := ⟨_, rfl⟩
        rw [← hold] at y0 y1 y2
        obtain ⟨qv, pf, pt, pb⟩ := q
        simp only at hbv
        subst hbv
        have x0' : wr.cell? ⟨gr, j * 3, none⟩ = some (.int .i64 pf) := x0
        have x1' : wr.cell? ⟨gr, j * 3 + 1, none⟩ = some (.int .i64 pt) := x1
        obtain ⟨m, hm⟩ : ∃ m, m = pb.length := ⟨_, rfl⟩
        have x2' : wr.cell? ⟨gr, j * 3 + 2, none⟩ = some (.slice ba pb.length bc) := x2
        rw [← hm] at x2'
        have HM := Lib.hid hm
        obtain ⟨ov, ofr, ot, ob⟩ := old
        have y0' : wr.cell? ⟨gr, a * 3, none⟩ = some (.int .i64 ofr) := y0
        have y1' : wr.cell? ⟨gr, a * 3 + 1, none⟩ = some (.int .i64 ot) := y1
        have y2' : wr.cell? ⟨gr, a * 3 + 2, none⟩ = some ov := y2
        simp only [Nat.add_zero] at f0
        have hcw : wr.cell? ⟨G, 0, none⟩ = some (.int .i64 node) := (HK.out.cell (p := ⟨G, 0, none⟩) (World.block_lt_of_cell? w _ HC.out) hGr).trans HC.out
        have bA : Below wr.heap.size wr (wr.alloc (.cells #[.int .i64 pf, .int .i64 pt, .slice ba m bc] 36)) := (Below.refl _ wr).alloc (Nat.le_refl _) _
        have cH := nHit _ G node pf pt ba m bc (alloc_cell hcw (.cells #[.int .i64 pf, .int .i64 pt, .slice ba m bc] 36))
        have gA := heap_alloc_new wr (.cells #[.int .i64 pf, .int .i64 pt, .slice ba m bc] 36)
        have hkv : keepQ node (.slice ba pb.length bc, ⟨pf, pt, pb⟩) = !hitB node pf pt := rfl
        rw [hkv] at hskip hkeep
        clear hkv x0 x1 x2 y0 y1 y2 hat hq2 hold hm hjR
        cases hh : hitB node pf pt with
        | true =>
          rw [hh] at cH
          have HV := hskip (by rw [hh]; rfl)
          clear hskip hkeep
          have HBA := Lib.hid bA
          clear bA gA
          go_wp2_with (go_at_call 31; (with_reducible refine cH.mono ?_); rintro e w' ⟨rfl, hb'⟩)
          have hbb := HBA.out.trans (hb'.mono HBA.out.size)
          have HR2 := Lib.hid (Kept.own HR.out (Kept.of_below (S := fun _ => False) hbb) (fun _ _ h => h))
          have HK2 := Lib.hid (HK.out.trans (Kept.of_below (S := fun _ => False) hbb) (fun _ _ h => h.elim))
          clear hb' hbb
          go_roundw
          case rel => exact ⟨a, j + 1, R, rfl, by go_num, by omega, by omega, HV, HR2, HK2⟩
          case measure => simp [intOf]; omega
        | false =>
          rw [hh] at cH
          have HV := hkeep (by rw [hh]; rfl)
          clear hskip hkeep
          have HBA := Lib.hid bA
          go_wp2_with (go_at_call 31; (with_reducible refine cH.mono ?_))
          rintro e W2 ⟨rfl, hb'⟩
          have hbb := HBA.out.trans (hb'.mono HBA.out.size)
          have hr2 := Kept.own HR.out (Kept.of_below (S := fun _ => False) hbb) (fun _ _ h => h)
          have k2 := HK.out.trans (Kept.of_below (S := fun _ => False) hbb) (fun _ _ h => h.elim)
          have G2 := box_below gA hb' (by simp)
          obtain ⟨z0, z1, z2, _⟩ := box_cells G2
          have s1 := (hr2.stored (a * 3) (.int .i64 pf)).1
          have s2 := (s1.stored (a * 3 + 1) (.int .i64 pt)).1
          have s3 := (s2.stored (a * 3 + 2) (.slice ba pb.length bc)).1
          rw [rowOf_setP R a haR (.slice ba pb.length bc, ⟨pf, pt, pb⟩), ← HM.out] at s3
          have k3 := ((k2.setCell (p := ⟨gr, a * 3, none⟩) (fun _ => rfl) (.int .i64 pf)).setCell (p := ⟨gr, a * 3 + 1, none⟩) (fun _ => rfl) (.int .i64 pt)).setCell (p := ⟨gr, a * 3 + 2, none⟩) (fun _ => rfl) (.slice ba m bc)
          have HS3 := Lib.hid s3
          have HK3 := Lib.hid k3
          have fcl : ∀ {p : Addr} {u : Value}, wr.cell? p = some u → W2.cell? p = some u := fun h => (hbb.cell (World.block_lt_of_cell? wr _ h)).trans h
          have q0 := fcl y0'
          have q1 := fcl y1'
          have q2 := fcl y2'
          have g0 := hr2.frozenAt (a * 3)
          have g1 := hr2.frozenAt (a * 3 + 1)
          have g2 := hr2.frozenAt (a * 3 + 2)
          have ia0 : (0 : Int) ≤ (a : Int) := by omega
          have ia1 : (a : Int) < (n : Int) := by omega
          clear hb' hbb hr2 k2 G2 s1 s2 s3 k3 fcl x0' x1' x2' y0' y1' y2' f0 f1 f2 cH bA gA hcw
          go_wp2
          go_roundw
          case rel => exact ⟨a + 1, j + 1, _, by go_num, by go_num, by omega, by omega, HV, by rw [← HM.out]; exact HS3, HK3⟩
          case measure => simp [intOf]; omega
      · have hjn : j = n := by omega
        subst hjn
        have HI2 := HI.out
        rw [HN.out] at HI2
        obtain ⟨hd1, hd2⟩ := HI2.done
        have hRl : R.length = j := by rw [HI.out.len, HN.out]
        have o2 := own_shrink HR.out (m := a) (by omega)
        rw [rowOf_take R a (by omega), hd1] at o2
        obtain ⟨Z, hcl⟩ : ∃ Z : List Value, ∀ ty, (Builtin.clear_ #[27] ty #[.slice (some ⟨gr, a * 3, none⟩) (j - a) (cp - a)]).run Try.prog wr = .ok (.tuple #[]) (wr.setCells gr (a * 3) Z) :=
          run_clear_any (P := Try.prog) wr 27 36 (.agg #[.int .i64 0, .int .i64 0, .slice none 0 0]) Try.underlying27 zeroP (by simp [Value.cells]; decide) gr _ _ _ (by omega)
            (fun t ht => by
              have ht2 : t < (j - a) * 3 := ht
              rw [HR.out.cellAt _ (by omega)]
              rw [List.getElem?_eq_getElem (by rw [rowOf_len pC 3 pC_len]; omega)]; rfl)
            (fun t ht => HR.out.frozenAt _)
        have HO2 := Lib.hid o2
        have HD2 := Lib.hid hd2
        have hne : ¬ cp = a := by omega
        have ia0 : (0 : Int) ≤ (a : Int) := by omega
        have ia1 : (a : Int) ≤ (j : Int) := by omega
        have hac : a ≤ cp := by omega
        have hln : ¬ (j : Int) < (j : Int) := by omega
        clear HI2 hd1 hd2 o2 hlt hRl HI
        go_wp2
        go_ret
        unfold DelPost
        rw [HD2.out]
        have h1 := HO2.out
        rw [← HD2.out] at h1
        rw [← HD2.out]
        exact ⟨rfl, own_setTail Z _ h1 (by rw [HD2.out]; exact Nat.le_refl _), Kept.setCells (S := fun i => i = gr) (fun _ => rfl) Z _ HK.out⟩

/-! ### Clear -/
def clearL (node : Int) (L : List Pk) : List Pk := L.filter fun p => !hitP node p
theorem clear_map (node : Int) (Q : List (Value × Pk)) : (Q.filter (keepQ node)).map Prod.snd = clearL node (Q.map Prod.snd) := by
  unfold clearL
  rw [List.filter_map]; rfl

def ClearPost (t : TypeId) (w : World) (B g : Nat) (v : Value) (Q : List (Value × Pk)) (L : List Pk) (node : Int) (e : Ending) (w' : World) : Prop :=
  ∃ v' Q', e = .returned (.int .i64 ((L.length : Int) - ((clearL node L).length : Int))) ∧ NtRel t w w' B g v Q v' Q' (clearL node L)

end Go.Proofs.Ytenpoolminfofaa
