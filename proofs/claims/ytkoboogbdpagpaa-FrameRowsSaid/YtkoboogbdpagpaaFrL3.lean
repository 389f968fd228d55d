/-
  FrameTorn: the walk.
-/
import Derived.Test.YtkoboogbdpagpaaFrL2
set_option linter.unusedVariables false
namespace Go.Proofs.Ytkoboogbdpagpaa
open Go.RowKit

theorem infoInt8 : (Try.prog.info? 3).map (fun i => (i.zero, i.size, i.bytes)) = some (some (.int .i64 0), 1, 8) := by kernel_rfl

/-- Where the first frames end. -/
def eN (L : List (List UInt8)) (t : Nat) : Nat := (frs (L.take t)).length
def ends (L : List (List UInt8)) (j : Nat) : List Value := (List.range (j + 1)).map fun t => Value.int .i64 (eN L t)
theorem eN_zero (L : List (List UInt8)) : eN L 0 = 0 := by simp [eN, frs]
theorem eN_next (L : List (List UInt8)) (j : Nat) (h : j < L.length) : eN L (j + 1) = eN L j + ((L[j]'h).length + 8) := by
  unfold eN
  rw [List.take_succ_eq_append_getElem h, frs_append, List.length_append, frs_one, frm_len]
theorem eN_all (L : List (List UInt8)) (j : Nat) (h : L.length ≤ j) : eN L j = (frs L).length := by unfold eN; rw [List.take_of_length_le h]
theorem eN_mono (L : List (List UInt8)) (j : Nat) : eN L j ≤ (frs L).length := by
  unfold eN
  have : frs L = frs (L.take j) ++ frs (L.drop j) := by rw [← frs_append, List.take_append_drop]
  rw [this, List.length_append]; omega
theorem ends_len (L : List (List UInt8)) (j : Nat) : (ends L j).length = j + 1 := by simp [ends]
theorem ends_get (L : List (List UInt8)) (j t : Nat) (h : t ≤ j) : (ends L j)[t]? = some (.int .i64 (eN L t)) := by
  simp only [ends, List.getElem?_map, List.getElem?_range (show t < j + 1 by omega), Option.map_some]
theorem ends_next (L : List (List UInt8)) (j : Nat) : ends L j ++ [.int .i64 (eN L (j + 1))] = ends L (j + 1) := by
  simp only [ends]
  rw [List.range_succ (n := j + 1), List.map_append]; rfl
theorem frs_take (L : List (List UInt8)) (j : Nat) (h : j < L.length) : frs (L.take (j + 1)) = frs (L.take j) ++ frm (L[j]'h) := by
  rw [List.take_succ_eq_append_getElem h, frs_append, frs_one]
theorem sumLen_frs (L : List (List UInt8)) : (frs L).length = sumLen L + 8 * L.length := frs_len L
theorem mem_le_sum : ∀ (L : List (List UInt8)) (x : List UInt8), x ∈ L → x.length ≤ sumLen L
  | [], x, h => by cases h
  | y :: L, x, h => by
    rcases List.mem_cons.1 h with rfl | h
    · simp [sumLen]
    · have := mem_le_sum L x h
      simp only [sumLen, List.map_cons, List.sum_cons] at this ⊢
      omega

/-- The first c bytes of frames. -/
theorem cut_frs (L : List (List UInt8)) (n c : Nat) (hn : n < L.length) (h1 : eN L n ≤ c) (h2 : c < eN L (n + 1)) : (frs L).take c = frs (L.take n) ++ (frm (L[n]'hn)).take (c - eN L n) := by
  have e : frs L = frs (L.take n) ++ (frm (L[n]'hn) ++ frs (L.drop (n + 1))) := by
    rw [← List.append_assoc, ← frs_take L n hn, ← frs_append, List.take_append_drop]
  rw [eN_next L n hn] at h2
  rw [e, List.take_append, show (frs (L.take n)).length = eN L n from rfl, List.take_of_length_le (by show _ ≤ c; exact h1), List.take_append_of_le_length (by rw [frm_len]; omega)]

theorem scan_cut (L : List (List UInt8)) (h : ∀ p ∈ L, p.length ≤ 131072) (n c : Nat) (hn : n ≤ L.length) (h1 : eN L n ≤ c) (h2 : n = L.length ∨ c < eN L (n + 1)) (hc : c ≤ (frs L).length) :
    scan ((frs L).take c) = (L.take n, eN L n, if eN L n = c then 1 else 2) := by
  have hh : ∀ p ∈ L.take n, p.length ≤ 131072 := fun p hp => h p (List.mem_of_mem_take hp)
  by_cases he : eN L n = c
  · rw [if_pos he]
    have e : (frs L).take c = frs (L.take n) := by
      have e : frs L = frs (L.take n) ++ frs (L.drop n) := by rw [← frs_append, List.take_append_drop]
      rw [e, ← he]
      exact List.take_left
    rw [e, scan_frs _ hh]
    rfl
  · rw [if_neg he]
    have hlt : n < L.length := by
      rcases h2 with h2 | h2
      · have := eN_all L n (by omega); omega
      · apply Nat.lt_of_le_of_ne hn
        intro e
        have := eN_all L n (by omega)
        omega
    have h3 : c < eN L (n + 1) := by
      rcases h2 with h2 | h2
      · omega
      · exact h2
    have h4 := eN_next L n hlt
    rw [cut_frs L n c hlt h1 h3, scan_torn _ hh _ (h _ (List.getElem_mem hlt)) _ (by rw [frm_len]; omega) (by omega)]
    rfl

/-- What Scan answers, its numbers by name. -/
def Rows3N (B n m k : Nat) (M : List (List UInt8)) (w : World) (e : Ending) (w' : World) : Prop :=
  ∃ a cap, e = .returned (.tuple #[.slice a n cap, .int .i64 m, .int .i64 k]) ∧ RwOwn w' B (.slice a n cap) M ∧ Below w.heap.size w w'
theorem rows3N {f : FuncId} {args : Array Value} {n m k : Nat} {M : List (List UInt8)} {x : List (List UInt8) × Nat × Nat} {w : World} (h : Calls Try.prog f args w (Rows3Post x w)) (hx : x = (M, m, k)) (hl : M.length = n) : Calls Try.prog f args w (Rows3N w.heap.size n m k M w) := by
  subst hx hl
  exact h.mono fun e w' ⟨hb, a, cap, he, ho⟩ => ⟨a, cap, he, ho, hb⟩

set_option maxHeartbeats 8000000 in
set_option maxRecDepth 100000 in
theorem FrameTorn_walk (a0 : Option Addr) (len0 cap0 : Nat) (a1 : Int) (w : World) (w0 : RowsIn w a0 len0 cap0) (w1 : (Lit.int .i64 a1).wf = true) :
    Calls Try.prog 5 #[.slice a0 len0 cap0, .int .i64 a1] w fun e w' => e = .returned (.bool true) ∧ Below w.heap.size w w' := by
  obtain ⟨L, hl, hB, hcap, hmax, hnil, hLm⟩ := w0
  have hc1 : -9223372036854775808 ≤ a1 ∧ a1 ≤ 9223372036854775807 := by
    simp [Lit.wf, IntKind.min, IntKind.max, IntKind.signed, IntKind.bits] at w1; omega
  have B0 := Below.refl w.heap.size w
  clear w1
  by_cases hbig : 20 < len0
  · go_enter Try.func5, Try.ntmps5
    go_wp2_with (first | (go_at_call 9; refine (awake_b w _ (by assumption)).mono ?_; rintro e W1 ⟨rfl, b1⟩))
    all_goals (go_ret; exact ⟨rfl, by assumption⟩)
  obtain ⟨i0, hi, hz0, hz1, hz2⟩ := info_parts infoByte8
  obtain ⟨j0, hji, hy0, hy1, hy2⟩ := info_parts infoInt8
  have cT : Calls Try.prog 20 #[.slice a0 len0 cap0, .int .i64 3000] w (TotPost 3000 L w) := Total_any a0 len0 cap0 3000 L w hl (by omega) (by omega) hLm hB
  have HLl := Lib.hid hl
  clear hLm hmax hl
  go_enter Try.func5, Try.ntmps5
  go_wp2_with (go_at_call 20; (with_reducible refine cT.mono ?_))
  rintro e W1 ⟨t, rfl, htM, htot, b1⟩
  have hB1 := hB.later b1
  clear cT
  by_cases ht : 3000 < t
  · have hti : (3000 : Int) < (t : Int) := by omega
    clear htot
    go_wp2_with (first | (go_at_call 9; refine (awake_b w _ (by assumption)).mono ?_; rintro e W4 ⟨rfl, b4⟩))
    all_goals (go_ret; exact ⟨rfl, by assumption⟩)
  have hti : ¬ (3000 : Int) < (t : Int) := by omega
  have hsum := htot (by omega)
  have hfl := sumLen_frs L
  have hFl : (frs L).length ≤ 30000 := by have := HLl.out; omega
  have HM : Hid (∀ p ∈ L, p.length ≤ 3000) := fun p hp => by have := mem_le_sum L p hp; omega
  have hb0 : Below w.heap.size w (W1.alloc (.cells #[.int .i64 0] 3)) := b1.alloc b1.size _
  have he0 : (W1.alloc (.cells #[.int .i64 0] 3)).ownsRow w.heap.size 3 1 (.slice (some ⟨W1.heap.size, 0, none⟩) 1 1) 1 (ends L 0) := by
    have h := World.ownsRow_lit (base := w.heap.size) (e := 3) (size := 1) W1 #[.int .i64 0] 1 b1.size (by unfold maxLen; omega) rfl
    have e : ends L 0 = (#[Value.int .i64 0]).toList := by simp [ends, eN_zero]
    rw [e]; exact h
  clear htot hsum hfl
  go_wp2
  go_loopw [5, 6, 7] (fun vb ve i wr => ∃ (j : Nat) (a : Option Addr) (k : Nat) (ae : Option Addr) (ke : Nat), i = .int .i64 j ∧ j ≤ len0 ∧ vb = .slice a (eN L j) k ∧ ve = .slice ae (j + 1) ke ∧ wr.ownsRow w.heap.size 5 1 (.slice a (eN L j) k) (eN L j) (Lib.byteCells (frs (L.take j))) ∧ wr.ownsRow w.heap.size 3 1 (.slice ae (j + 1) ke) (j + 1) (ends L j) ∧ Below w.heap.size w wr) (fun _ _ i _ => len0 - (intOf i).toNat)
  case atStart => exact ⟨0, none, 0, _, _, rfl, Nat.zero_le _, by rw [eN_zero], rfl, by rw [eN_zero]; exact own_nil _ _, he0, hb0⟩
  case round =>
    obtain ⟨j, a, k, ae, ke, rfl, hj, rfl, rfl, ho, hoe, hbw⟩ := hrel
    clear he0 hb0
    have hmono := eN_mono L j
    by_cases hlt : j < len0
    · have hjL : j < L.length := by rw [HLl.out]; exact hlt
      obtain ⟨x, pb, pc, rfl, hx, hxb, hx1, hx2⟩ := (hB.later hbw).at j hjL
      have hpl := HM.out _ (List.getElem_mem hjL)
      have HT := Lib.hid (frs_take L j hjL)
      have hen := eN_next L j hjL
      obtain ⟨p, hp⟩ : ∃ p, p = L[j] := ⟨_, rfl⟩
      rw [← hp] at hx hxb hx1 hpl HT hen
      obtain ⟨m, hm⟩ : ∃ m, m = p.length := ⟨_, rfl⟩
      rw [← hm] at hx hx1 hpl hen
      have cP := own2N (Put_yes pb m pc p wr hm.symm (by omega) hx1 hxb hx2) (show (frm p).length = m + 8 by rw [frm_len, hm])
      have HFL : Hid ((frm p).length = m + 8) := by show _ = _; rw [frm_len, hm]
      have HEN := Lib.hid hen
      have hen2 : eN L (j + 1) ≤ 30000 := Nat.le_trans (eN_mono L (j + 1)) hFl
      clear hp hm hen hxb hx1 hx2
      go_wp2_with (go_at_call 10; (with_reducible refine cP.mono ?_))
      rintro e W2 ⟨p2, k2, rfl, o2, b2⟩
      have hb2 : Below w.heap.size w W2 := hbw.trans (b2.mono hbw.size)
      have ho2 := ownL ho b2
      have hoe2 := ownL hoe b2
      have q2 := Bts.own o2
      have z2 := own_none o2
      clear cP ho hoe hbw b2 o2 hx
      go_wp2_with (at_builtin; go_loud (refine wpList_append_bts _ rfl _ _ 22 rfl w.heap.size 5 i0 Try.underlying22 hi hz0 hz1 hz2 _ _ _ rfl ho2 _ _ _ (frm p) rfl HFL.out q2 z2 ?c1 ?c2 ?_))
      case c1 => omega
      case c2 => exact hb2.size
      intro v3 W3 o3 hg3
      obtain ⟨a3, k3, rfl⟩ := own_slice o3
      have hb3 := below_grown hb2 (Nat.le_refl _) ho2 hg3
      have hoe3 := hoe2.kept hg3 (ownApart hoe2 ho2 (by decide))
      rw [byteCells_app, ← HT.out] at o3
      have O3 := Lib.hid o3
      clear o3 hg3 ho2 hoe2 q2 z2 hb2
      obtain ⟨O, hO⟩ : ∃ O, O = Obj.cells #[Value.int .i64 ((eN L j : Int) + ((m : Int) + 8))] 3 := ⟨_, rfl⟩
      have hoe4 := hoe3.alloc O
      have O3a := Lib.hid (O3.out.alloc O)
      have hb3a : Below w.heap.size w (W3.alloc O) := hb3.alloc hb3.size _
      have HSz : Hid (w.heap.size ≤ (W3.alloc O).heap.size) := hb3a.size
      subst hO
      go_wp2_with (at_builtin; go_loud (refine wpList_append_own _ rfl _ _ 37 rfl w.heap.size 3 j0 (.int .i64 0) 1 8 Try.underlying37 hji hy0 hy1 hy2 rfl (by decide) _ _ _ rfl hoe4 ⟨W3.heap.size, 0, none⟩ 1 1 [.int .i64 ((eN L j : Int) + ((m : Int) + 8))] rfl rfl ?d1 ?d2 ?d3 ?d4 ?d5 ?_))
      case d1 => exact fun i u h => new_marked W3 _ _ _ i u (by simpa using h)
      case d2 => intro u hu; simp only [List.mem_singleton] at hu; subst hu; rfl
      case d3 => unfold maxLen; omega
      case d4 => omega
      case d5 => exact HSz.out
      intro v4 W4 o4 hg4 _
      obtain ⟨a4, k4, rfl⟩ := own_slice o4
      have hE : Value.int .i64 ((eN L j : Int) + ((m : Int) + 8)) = .int .i64 (eN L (j + 1)) := by rw [HEN.out]; simp
      rw [hE, ends_next] at o4
      have hb4 := below_grown hb3a (Nat.le_refl _) hoe4 hg4
      have o5 := O3a.out.kept hg4 (ownApart O3a.out hoe4 (by decide))
      have O5 := Lib.hid o5
      have O4 := Lib.hid o4
      clear o4 o5 O3 O3a hg4 hoe3 hoe4 hb3 hb3a hE
      go_wp2
      go_roundw
      case rel => exact ⟨j + 1, a3, k3, a4, k4, by go_num, by omega, by rw [HEN.out], rfl, by rw [← HEN.out] at O5; exact O5.out, O4.out, hb4⟩
      case measure => simp [intOf]; omega
    · obtain rfl : j = len0 := by omega
      have HN := Lib.hid (eN_all L j (by rw [HLl.out]; omega))
      have ho1 : wr.ownsRow w.heap.size 5 1 (.slice a (eN L j) k) (eN L j) (Lib.byteCells (frs L)) := by
        have h := ho
        rw [List.take_of_length_le (by rw [HLl.out]; exact Nat.le_refl _)] at h
        exact h
      have gr := rndI_range a1 (eN L j + 1) (by omega)
      obtain ⟨c, hc⟩ := Int.eq_ofNat_of_zero_le gr.1
      have cR : ∀ wx, Calls Try.prog 21 #[.int .i64 a1, .int .i64 ((eN L j : Int) + 1)] wx fun e w' => e = .returned (.int .i64 c) ∧ wx = w' := fun wx => by
        have h := Round_eq a1 (eN L j + 1) wx (by omega) (by omega) hc1.1 hc1.2
        rw [hc] at h
        exact h.mono fun e w' ⟨he, hw⟩ => ⟨he, hw.symm⟩
      rw [hc] at gr
      have hcN : c ≤ eN L j := by omega
      have HSc : ∀ n, n ≤ j → eN L n ≤ c → (n = j ∨ c < eN L (n + 1)) → Hid (scan ((frs L).take c) = (L.take n, eN L n, if eN L n = c then 1 else 2)) := fun n h1 h2 h3 =>
        scan_cut L (fun p hp => by have := HM.out p hp; omega) n c (by rw [HLl.out]; exact h1) h2 (by rw [HLl.out]; exact h3) (by rw [← HN.out]; exact hcN)
      have HSC := Lib.hid HSc
      obtain ⟨g, hg, hk1, hk2⟩ := own_some hoe (by omega)
      subst hg
      have HQ : Hid (∀ n, n ≤ j → wr.cell? ⟨g, n, none⟩ = some (.int .i64 (eN L n))) := fun n hn => by
        rw [hoe.cellAt n (by omega)]; exact ends_get L j n hn
      have hB2 := hB.later hbw
      have q1 := Bts.own ho1
      have z1 := own_none ho1
      have r1 := own_room ho1
      clear ho ho1 hoe HSc gr hc
      go_wp2_with (go_at_call 21; (with_reducible refine (cR _).mono ?_))
      rintro e W ⟨rfl, rfl⟩
      go_wp2
      obtain ⟨wx, hwx⟩ : ∃ wx, wx = wr := ⟨_, rfl⟩
      subst hwx
      go_loopw [10] (fun v wr => ∃ n : Nat, v = .int .i64 n ∧ n ≤ j ∧ eN L n ≤ c ∧ wr = wx) (fun v _ => j - (intOf v).toNat)
      case atStart => exact ⟨0, rfl, Nat.zero_le _, by rw [eN_zero]; exact Nat.zero_le _, rfl⟩
      case round =>
        obtain ⟨n, rfl, hnj, hnc, rfl⟩ := hrel
        by_cases hgo : n + 1 < j + 1 ∧ eN L (n + 1) ≤ c
        · obtain ⟨hlt2, hle⟩ := hgo
          have hcell := HQ.out (n + 1) (by omega)
          go_wp2
          exact ⟨⟨n + 1, by go_num, by omega, hle, trivial⟩, by simp [intOf]; omega⟩
        · have HS := HSC.out n hnj hnc (by omega)
          have hcn := HQ.out n hnj
          have hcell : n + 1 < j + 1 → wr.cell? ⟨g, n + 1, none⟩ = some (.int .i64 (eN L (n + 1))) := fun h => HQ.out (n + 1) (by omega)
          have cS := fun k' (h : scan ((frs L).take c) = (L.take n, eN L n, k')) => rows3N (Scan_any a c k ((frs L).take c) wr (by rw [List.length_take, ← HN.out]; omega) (by omega) (by omega) (q1.take c) z1) h (show (L.take n).length = n by rw [List.length_take, HLl.out]; omega)
          have HC := Lib.hid HS.out
          obtain ⟨M, hM⟩ : ∃ M, M = L.take n := ⟨_, rfl⟩
          have HMl : Hid (M.length = n) := by show _ = _; rw [hM, List.length_take, HLl.out]; omega
          have HMM : Hid (∀ x ∈ M, x.length ≤ 1000000) := fun x hx => by
            have := HM.out x (List.mem_of_mem_take (hM ▸ hx)); omega
          have hBM : Brs wr a0 M := by rw [hM]; exact hB2.take n
          rw [← hM] at cS HC
          clear hM HS
          obtain ⟨E, hEn⟩ : ∃ E, E = eN L n := ⟨_, rfl⟩
          obtain ⟨N, hNn⟩ : ∃ N, N = eN L j := ⟨_, rfl⟩
          have hgl : g < wr.heap.size := World.block_lt_of_cell? wr _ hcn
          have cS2 : Calls Try.prog 17 #[.slice a c k] wr (Rows3N wr.heap.size n (eN L n) (if eN L n = c then 1 else 2) M wr) := cS _ HC.out
          clear cS HC
          by_cases hEc : eN L n = c
          all_goals (first | (have hEi : ((eN L n : Int) == (c : Int)) = true := by simp [hEc]) | (have hEi : ((eN L n : Int) == (c : Int)) = false := by simp; omega))
          all_goals (first | rw [if_pos hEc] at cS2 | rw [if_neg hEc] at cS2)
          all_goals clear hEc HSC HQ q1 z1
          all_goals rcases (show (¬ n + 1 < j + 1) ∨ (n + 1 < j + 1 ∧ ¬ eN L (n + 1) ≤ c) by omega) with hx | ⟨hx, hy⟩
          all_goals (first | (replace hcell := hcell hx) | clear hcell)
          all_goals go_wp2_with (go_at_call 17; (with_reducible refine cS2.mono ?_))
          all_goals rintro e W2 ⟨ra, rc, rfl, ro, b2⟩
          all_goals have hb2 : Below w.heap.size w W2 := hbw.trans (b2.mono hbw.size)
          all_goals have hcn2 := (b2.cell hgl).trans hcn
          all_goals have cRw := Rows_any ra a0 n n rc cap0 M M W2 HMl.out HMl.out (by omega) (by omega) HMM.out HMM.out ro.brs (hBM.later b2)
          all_goals rw [sameR_self] at cRw
          all_goals clear cS2 ro b2
          all_goals go_wp2_with (go_at_call 19; (with_reducible refine cRw.mono ?_))
          all_goals (first | rintro e W6 rfl b6 | rintro e W6 ⟨rfl, b6⟩)
          all_goals have hb6 : Below w.heap.size w W6 := hb2.trans (b6.mono hb2.size)
          all_goals have hcn6 := (b6.cell (World.block_lt_of_cell? W2 _ hcn2)).trans hcn2
          all_goals clear cRw b6 hcn hcn2 hBM
          all_goals (try clear hcell)
          all_goals go_wp2_with (first | (go_at_call 9; refine (awake_b w _ (by assumption)).mono ?_; rintro e W4 ⟨rfl, b4⟩))
          all_goals (go_ret; exact ⟨rfl, by assumption⟩)

end Go.Proofs.Ytkoboogbdpagpaa
