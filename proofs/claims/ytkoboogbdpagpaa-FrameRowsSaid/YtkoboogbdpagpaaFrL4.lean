/-
  FrameRows: the walk.
-/
import Derived.Test.YtkoboogbdpagpaaFrL3
set_option linter.unusedVariables false
namespace Go.Proofs.Ytkoboogbdpagpaa
open Go.RowKit

theorem eN_le (L : List (List UInt8)) (n : Nat) (hn : L.length = n) (h10 : n ≤ 10) (h : L.length + sumLen L ≤ 3000) : (frs L).length ≤ 30000 := by
  have := sumLen_frs L; omega

set_option maxHeartbeats 8000000 in
set_option maxRecDepth 100000 in
theorem FrameRows_walk (a0 : Option Addr) (len0 cap0 : Nat) (a1 : Option Addr) (len1 cap1 : Nat) (w : World) (w0 : RowsIn w a0 len0 cap0) (w1 : RowsIn w a1 len1 cap1) :
    Calls Try.prog 8 #[.slice a0 len0 cap0, .slice a1 len1 cap1] w fun e w' => e = .returned (.bool true) ∧ Below w.heap.size w w' := by
  obtain ⟨A, hA, hBA, hcapA, hmaxA, hnilA, hLmA⟩ := w0
  obtain ⟨B, hB, hBB, hcapB, hmaxB, hnilB, hLmB⟩ := w1
  have B0 := Below.refl w.heap.size w
  by_cases hbig : 10 < len0
  · go_enter Try.func8, Try.ntmps8
    go_wp2_with (first | (go_at_call 9; refine (awake_b w _ (by assumption)).mono ?_; rintro e W1 ⟨rfl, b1⟩))
    all_goals (go_ret; exact ⟨rfl, by assumption⟩)
  by_cases hbig2 : 10 < len1
  · go_enter Try.func8, Try.ntmps8
    go_wp2_with (first | (go_at_call 9; refine (awake_b w _ (by assumption)).mono ?_; rintro e W1 ⟨rfl, b1⟩))
    all_goals (go_ret; exact ⟨rfl, by assumption⟩)
  obtain ⟨i0, hi, hz0, hz1, hz2⟩ := info_parts infoByte8
  have cT : Calls Try.prog 20 #[.slice a0 len0 cap0, .int .i64 3000] w (TotPost 3000 A w) := Total_any a0 len0 cap0 3000 A w hA (by omega) (by omega) hLmA hBA
  have cU := fun (wx : World) (hx : Below w.heap.size w wx) => Total_any a1 len1 cap1 3000 B wx hB (by omega) (by omega) hLmB (hBB.later hx)
  have HA := Lib.hid hA
  have HB := Lib.hid hB
  clear hLmA hLmB hA hB hmaxA hmaxB
  go_enter Try.func8, Try.ntmps8
  go_wp2_with (go_at_call 20; (with_reducible refine cT.mono ?_))
  rintro e W1 ⟨t, rfl, htM, htot, b1⟩
  clear cT
  by_cases ht : 3000 < t
  · have hti : (3000 : Int) < (t : Int) := by omega
    clear htot cU
    go_wp2_with (first | (go_at_call 9; refine (awake_b w _ (by assumption)).mono ?_; rintro e W4 ⟨rfl, b4⟩))
    all_goals (go_ret; exact ⟨rfl, by assumption⟩)
  have hti : ¬ (3000 : Int) < (t : Int) := by omega
  have hsA := Lib.hid (htot (by omega))
  have cU1 : Calls Try.prog 20 #[.slice a1 len1 cap1, .int .i64 3000] W1 (TotPost 3000 B W1) := cU W1 b1
  clear htot cU
  go_wp2_with (go_at_call 20; (with_reducible refine cU1.mono ?_))
  rintro e W2 ⟨s, rfl, hsM, htot, c2⟩
  have b2 : Below w.heap.size w W2 := b1.trans (c2.mono b1.size)
  clear cU1
  by_cases hs : 3000 < s
  · have hsi : (3000 : Int) < (s : Int) := by omega
    clear htot c2
    go_wp2_with (first | (go_at_call 9; refine (awake_b w _ (by assumption)).mono ?_; rintro e W4 ⟨rfl, b4⟩))
    all_goals (go_ret; exact ⟨rfl, by assumption⟩)
  have hsi : ¬ (3000 : Int) < (s : Int) := by omega
  have hsB := Lib.hid (htot (by omega))
  have hFA : (frs A).length ≤ 30000 := eN_le A len0 HA.out (by omega) hsA.out
  have hFB : (frs B).length ≤ 30000 := eN_le B len1 HB.out (by omega) hsB.out
  have HMA : Hid (∀ p ∈ A, p.length ≤ 3000) := fun p hp => by have := mem_le_sum A p hp; have := hsA.out; omega
  have HMB : Hid (∀ p ∈ B, p.length ≤ 3000) := fun p hp => by have := mem_le_sum B p hp; have := hsB.out; omega
  clear htot c2 hsA hsB
  go_wp2
  go_loopw [5, 7] (fun vb i wr => ∃ (j : Nat) (a : Option Addr) (k : Nat), i = .int .i64 j ∧ j ≤ len0 ∧ vb = .slice a (eN A j) k ∧ wr.ownsRow w.heap.size 5 1 (.slice a (eN A j) k) (eN A j) (Lib.byteCells (frs (A.take j))) ∧ Below w.heap.size w wr) (fun _ i _ => len0 - (intOf i).toNat)
  case atStart => exact ⟨0, none, 0, rfl, Nat.zero_le _, by rw [eN_zero], by rw [eN_zero]; exact own_nil _ _, b2⟩
  case round =>
    obtain ⟨j, a, k, rfl, hj, rfl, ho, hbw⟩ := hrel
    have hmono := eN_mono A j
    by_cases hlt : j < len0
    · have hjL : j < A.length := by rw [HA.out]; exact hlt
      obtain ⟨x, pb, pc, rfl, hx, hxb, hx1, hx2⟩ := (hBA.later hbw).at j hjL
      have hpl := HMA.out _ (List.getElem_mem hjL)
      have HT := Lib.hid (frs_take A j hjL)
      have hen := eN_next A j hjL
      obtain ⟨p, hp⟩ : ∃ p, p = A[(j)] := ⟨_, rfl⟩
      rw [← hp] at hx hxb hx1 hpl HT hen
      obtain ⟨m, hm⟩ : ∃ m, m = p.length := ⟨_, rfl⟩
      rw [← hm] at hx hx1 hpl hen
      have cP := own2N (Put_yes pb m pc p wr hm.symm (by omega) hx1 hxb hx2) (show (frm p).length = m + 8 by rw [frm_len, hm])
      have HFL : Hid ((frm p).length = m + 8) := by show _ = _; rw [frm_len, hm]
      have HEN := Lib.hid hen
      have hen2 : eN A (j + 1) ≤ 30000 := Nat.le_trans (eN_mono A (j + 1)) (by assumption)
      clear hp hm hen hxb hx1 hx2
      go_wp2_with (go_at_call 10; (with_reducible refine cP.mono ?_))
      rintro e W3 ⟨p2, k2, rfl, o2, b2⟩
      have hb2 : Below w.heap.size w W3 := hbw.trans (b2.mono hbw.size)
      have ho2 := ownL ho b2
      have q2 := Bts.own o2
      have z2 := own_none o2
      clear cP ho hbw b2 o2 hx
      go_wp2_with (at_builtin; go_loud (refine wpList_append_bts _ rfl _ _ 22 rfl w.heap.size 5 i0 Try.underlying22 hi hz0 hz1 hz2 _ _ _ rfl ho2 _ _ _ (frm p) rfl HFL.out q2 z2 ?c1 ?c2 ?_))
      case c1 => omega
      case c2 => exact hb2.size
      intro v3 W4 o3 hg3
      obtain ⟨a3, k3, rfl⟩ := own_slice o3
      have hb3 := below_grown hb2 (Nat.le_refl _) ho2 hg3
      rw [byteCells_app, ← HT.out] at o3
      have O3 := Lib.hid o3
      clear o3 hg3 ho2 q2 z2 hb2
      go_wp2
      go_roundw
      case rel => exact ⟨j + 1, a3, k3, by go_num, by omega, by rw [HEN.out], by rw [← HEN.out] at O3; exact O3.out, hb3⟩
      case measure => simp [intOf]; omega
    · obtain rfl : j = len0 := by omega
      clear hlt hj
      obtain ⟨wx, hwx⟩ : ∃ wx, wx = wr := ⟨_, rfl⟩
      subst hwx
      have qx : Bts wx a (frs A) := by
        have h := Bts.own ho
        rw [List.take_of_length_le (by rw [HA.out]; exact Nat.le_refl _)] at h
        exact h
      have zx := own_none ho
      have rx := own_room ho
      have hNx : eN A j ≤ 30000 := by omega
      have HNx := Lib.hid (show (frs A).length = eN A j from (eN_all A j (by rw [HA.out]; exact Nat.le_refl _)).symm)
      have hBB2 := hBB.later hbw
      have hBA2 := hBA.later hbw
      clear ho hmono
      have hbwx := hbw
      clear hbw
      have hx0 := Below.refl wx.heap.size wx
      go_wp2
      go_loopw [6, 10] (fun vb i wr => ∃ (j1 : Nat) (y1 : Option Addr) (k1 : Nat), i = .int .i64 j1 ∧ j1 ≤ len1 ∧ vb = .slice y1 (eN B j1) k1 ∧ wr.ownsRow wx.heap.size 5 1 (.slice y1 (eN B j1) k1) (eN B j1) (Lib.byteCells (frs (B.take j1))) ∧ Below wx.heap.size wx wr) (fun _ i _ => len1 - (intOf i).toNat)
      case atStart => exact ⟨0, none, 0, rfl, Nat.zero_le _, by rw [eN_zero], by rw [eN_zero]; exact own_nil _ _, hx0⟩
      case round =>
        obtain ⟨j1, y1, k1, rfl, hj, rfl, ho, hbw⟩ := hrel
        have hmono := eN_mono B j1
        by_cases hlt : j1 < len1
        · have hjL : j1 < B.length := by rw [HB.out]; exact hlt
          obtain ⟨x, pb, pc, rfl, hx, hxb, hx1, hx2⟩ := (hBB2.later hbw).at j1 hjL
          have hpl := HMB.out _ (List.getElem_mem hjL)
          have HT := Lib.hid (frs_take B j1 hjL)
          have hen := eN_next B j1 hjL
          obtain ⟨p, hp⟩ : ∃ p, p = B[(j1)] := ⟨_, rfl⟩
          rw [← hp] at hx hxb hx1 hpl HT hen
          obtain ⟨m, hm⟩ : ∃ m, m = p.length := ⟨_, rfl⟩
          rw [← hm] at hx hx1 hpl hen
          have cP := own2N (Put_yes pb m pc p wr hm.symm (by omega) hx1 hxb hx2) (show (frm p).length = m + 8 by rw [frm_len, hm])
          have HFL : Hid ((frm p).length = m + 8) := by show _ = _; rw [frm_len, hm]
          have HEN := Lib.hid hen
          have hen2 : eN B (j1 + 1) ≤ 30000 := Nat.le_trans (eN_mono B (j1 + 1)) (by assumption)
          clear hp hm hen hxb hx1 hx2
          go_wp2_with (go_at_call 10; (with_reducible refine cP.mono ?_))
          rintro e W3 ⟨p2, k2, rfl, o2, b2⟩
          have hb2 : Below wx.heap.size wx W3 := hbw.trans (b2.mono hbw.size)
          have ho2 := ownL ho b2
          have q2 := Bts.own o2
          have z2 := own_none o2
          clear cP ho hbw b2 o2 hx
          go_wp2_with (at_builtin; go_loud (refine wpList_append_bts _ rfl _ _ 22 rfl wx.heap.size 5 i0 Try.underlying22 hi hz0 hz1 hz2 _ _ _ rfl ho2 _ _ _ (frm p) rfl HFL.out q2 z2 ?d1 ?d2 ?_))
          case d1 => omega
          case d2 => exact hb2.size
          intro v3 W4 o3 hg3
          obtain ⟨a3, k3, rfl⟩ := own_slice o3
          have hb3 := below_grown hb2 (Nat.le_refl _) ho2 hg3
          rw [byteCells_app, ← HT.out] at o3
          have O3 := Lib.hid o3
          clear o3 hg3 ho2 q2 z2 hb2
          go_wp2
          go_roundw
          case rel => exact ⟨j1 + 1, a3, k3, by go_num, by omega, by rw [HEN.out], by rw [← HEN.out] at O3; exact O3.out, hb3⟩
          case measure => simp [intOf]; omega
        · obtain rfl : j1 = len1 := by omega
          clear hlt hj
          have qy : Bts wr y1 (frs B) := by
            have h := Bts.own ho
            rw [List.take_of_length_le (by rw [HB.out]; exact Nat.le_refl _)] at h
            exact h
          have zy := own_none ho
          have ry := own_room ho
          have hNy : eN B j1 ≤ 30000 := by omega
          have HNy := Lib.hid (show (frs B).length = eN B j1 from (eN_all B j1 (by rw [HB.out]; exact Nat.le_refl _)).symm)
          have hBB3 := hBB2.later hbw
          have hBA3 := hBA2.later hbw
          have qx2 := qx.later hbw
          have hbw2 : Below w.heap.size w wr := by
            exact hbwx.trans (hbw.mono hbwx.size)
          have cS := rows3N (Scan_any a (eN A j) k (frs A) wr HNx.out (by omega) rx qx2 zx) (show scan (frs A) = (A, eN A j, 1) by rw [scan_frs A (fun p hp => by have := HMA.out p hp; omega), HNx.out]) HA.out
          clear ho hmono qx hBB2 hBA2 hBA hBB
          go_wp2_with (go_at_call 17; (with_reducible refine cS.mono ?_))
          rintro e W5 ⟨ra, rc, rfl, ro, b5⟩
          have hb5 : Below w.heap.size w W5 := hbw2.trans (b5.mono hbw2.size)
          have qx5 := qx2.later b5
          have qy5 := qy.later b5
          have hBB5 := hBB3.later b5
          have hBA5 := hBA3.later b5
          have BR := ro.brs
          clear cS ro b5 qx2 qy hBB3 hBA3 hbw hbw2
          have e0 : (W5.alloc (.cells #[] 5)).ownsRow W5.heap.size 5 1 (.slice (some ⟨W5.heap.size, 0, none⟩) 0 0) 0 (Lib.byteCells []) := World.ownsRow_lit (base := W5.heap.size) (e := 5) (size := 1) W5 #[] 0 (Nat.le_refl _) (by unfold maxLen; omega) rfl
          have b6 : Below W5.heap.size W5 (W5.alloc (.cells #[] 5)) := (Below.refl _ W5).alloc (Nat.le_refl _) _
          have qx6 := qx5.later b6
          go_wp2_with (at_builtin; go_loud (refine wpList_append_bts _ rfl _ _ 22 rfl W5.heap.size 5 i0 Try.underlying22 hi hz0 hz1 hz2 _ _ _ rfl e0 _ _ _ (frs A) rfl HNx.out qx6 zx ?f1 ?f2 ?_))
          case f1 => omega
          case f2 => exact b6.size
          intro v7 W7 o7 hg7
          rw [byteCells_app, List.nil_append] at o7
          obtain ⟨a7, k7, rfl⟩ := own_slice o7
          have b7 := below_grown b6 (Nat.le_refl _) e0 hg7
          have qy7 := qy5.later b7
          clear qx6 qx5 e0 b6 hg7
          go_wp2_with (at_builtin; go_loud (refine wpList_append_bts _ rfl _ _ 22 rfl W5.heap.size 5 i0 Try.underlying22 hi hz0 hz1 hz2 _ _ _ rfl o7 _ _ _ (frs B) rfl HNy.out qy7 zy ?g1 ?g2 ?_))
          case g1 => omega
          case g2 => exact b7.size
          intro v8 W8 o8 hg8
          obtain ⟨a8, k8, rfl⟩ := own_slice o8
          have b8 := below_grown b7 (Nat.le_refl _) o7 hg8
          rw [byteCells_app] at o8
          have q8 := Bts.own o8
          have z8 := own_none o8
          have r8 := own_room o8
          have hb8 : Below w.heap.size w W8 := hb5.trans (b8.mono hb5.size)
          have cS := rows3N (Scan_any a8 (eN A j + eN B j1) k8 (frs A ++ frs B) W8 (by rw [List.length_append, HNx.out, HNy.out]) (by omega) r8 q8 z8) (show scan (frs A ++ frs B) = (A ++ B, eN A j + eN B j1, 1) by
            rw [← frs_append, scan_frs (A ++ B) (fun p hp => by
              rcases List.mem_append.1 hp with h | h
              · have := HMA.out p h; omega
              · have := HMB.out p h; omega), frs_append, List.length_append, HNx.out, HNy.out]) (show (A ++ B).length = j + j1 by rw [List.length_append, HA.out, HB.out])
          have hBB8 := (hBB5.later b8)
          have hBA8 := (hBA5.later b8)
          have BR8 := BR.later b8
          clear o7 o8 hg8 q8 z8 r8 b7 b8 qy7 qy5 zx zy rx ry hBB5 hBA5 BR
          go_wp2_with (go_at_call 17; (with_reducible refine cS.mono ?_))
          rintro e W9 ⟨ma, mc, rfl, mo, b9⟩
          have hb9 : Below w.heap.size w W9 := hb8.trans (b9.mono hb8.size)
          have hroom : j + j1 ≤ mc := by
            obtain ⟨Q, hQ, hQo, _⟩ := mo
            have hl : Q.length = j + j1 := by rw [← List.length_map (f := Prod.snd), hQ, List.length_append, HA.out, HB.out]
            rw [hl] at hQo
            exact own_room hQo
          have BM := mo.brs
          have hBB9 := hBB8.later b9
          have hBA9 := hBA8.later b9
          have BR9 := BR8.later b9
          clear cS mo b9 hBB8 hBA8 BR8
          have c1 := fun wx (h1 : Brs wx ra A) (h2 : Brs wx a0 A) => Rows_same ra a0 j j rc cap0 A wx HA.out HA.out (by omega) (fun x hx => by have := HMA.out x hx; omega) h1 h2
          have c2 := fun wx (h1 : Brs wx ma A) (h2 : Brs wx a0 A) => Rows_same ma a0 j j mc cap0 A wx HA.out HA.out (by omega) (fun x hx => by have := HMA.out x hx; omega) h1 h2
          have c3 := fun aa n cc wx (hn : n = j1) (h1 : Brs wx aa B) (h2 : Brs wx a1 B) => Rows_same aa a1 n j1 cc cap1 B wx (hn ▸ HB.out) HB.out (by omega) (fun x hx => by have := HMB.out x hx; omega) h1 h2
          have c1' := c1 W9 BR9 hBA9
          go_wp2_with (go_at_call 19; (with_reducible refine c1'.mono ?_))
          rintro e Wa ⟨rfl, ba⟩
          have hba := hb9.trans (ba.mono hb9.size)
          have BMa := BM.later ba
          have hBBa := hBB9.later ba
          have hBAa := hBA9.later ba
          clear c1 c1' BR9 BM hBB9 hBA9 ba
          have c2' := c2 Wa (by
            have := BMa.take j
            rwa [List.take_left' HA.out] at this) hBAa
          go_wp2_with (go_at_call 19; (with_reducible refine c2'.mono ?_))
          rintro e Wb ⟨rfl, bb⟩
          have hbb := hba.trans (bb.mono hba.size)
          have BMb := BMa.later bb
          have hBBb := hBBa.later bb
          clear c2 c2' BMa hBBa hBAa bb
          have hBy : Brs Wb (if mc = j then ma else Option.map (fun x => x.add j) ma) B := by
            have hBl := HB.out
            by_cases hm : mc = j
            · exact .inl (List.length_eq_zero_iff.1 (by omega))
            · rw [if_neg hm]
              cases ma with
              | none =>
                rcases BMb with h | ⟨x, hx, _⟩
                · exact .inl (List.append_eq_nil_iff.1 h).2
                · cases hx
              | some x =>
                have h := BMb.drop j
                rw [List.drop_left' HA.out] at h
                exact h
          have c3' := c3 _ j1 (mc - j) Wb rfl hBy hBBb
          clear c3 hBy hBBb BMb hroom
          go_wp2_with (go_at_call 19; (with_reducible refine c3'.mono ?_))
          all_goals (first | rintro e Wc rfl bc | rintro e Wc ⟨rfl, bc⟩)
          all_goals have hbc := hbb.trans (bc.mono hbb.size)
          all_goals clear bc
          all_goals go_wp2_with (first | (go_at_call 9; refine (awake_b w _ (by assumption)).mono ?_; rintro e W4 ⟨rfl, b4⟩))
          all_goals (go_ret; exact ⟨rfl, by assumption⟩)

end Go.Proofs.Ytkoboogbdpagpaa
