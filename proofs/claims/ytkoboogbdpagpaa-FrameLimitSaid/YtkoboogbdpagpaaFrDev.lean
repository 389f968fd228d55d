/-
  Package frame: Put, Next, Scan.
-/
import Derived.Test.YtkoboogbdpagpaaFrDa
set_option linter.unusedVariables false
namespace Go.Proofs.Ytkoboogbdpagpaa
open Go.RowKit

set_option maxHeartbeats 2000000 in
set_option maxRecDepth 100000 in
theorem Put_no (a : Option Addr) (n cap : Nat) (w : World) (hn : 131072 < n) :
    Calls Try.prog 10 #[.slice a n cap] w (Own2Post w.heap.size [] false w) := by
  go_enter Try.func10, Try.ntmps10
  go_wp2
  go_ret2
  exact ⟨none, 0, rfl, own_nil _ _, Below.refl _ _⟩

set_option maxHeartbeats 2000000 in
set_option maxRecDepth 100000 in
theorem Put_yes (a : Option Addr) (n cap : Nat) (l : List UInt8) (w : World) (hl : l.length = n) (hn : n ≤ 131072) (hcap : n ≤ cap) (hb : Bts w a l) (hA : a = none → cap = 0) :
    Calls Try.prog 10 #[.slice a n cap] w (Own2Post w.heap.size (frm l) true w) := by
  obtain ⟨i0, hi, hz0, hz1, hz2⟩ := info_parts infoByte8
  obtain ⟨W1, hmk, ho1, hg1⟩ := run_make_own (P := Try.prog) w w.heap.size 22 5 i0 (.int .u8 0) 1 Try.underlying22 hi hz0 hz1 .i64 .i64 (4 + n + 4) (by rw [hz2]; omega) (by unfold maxLen; omega) (Nat.le_refl _)
  have hb1 : Below w.heap.size w W1 := (Below.refl _ _).grown hg1 (Nat.le_refl _) (fun k hk => by cases hk)
  have ec : ((4 + n + 4 : Nat) : Int) = 4 + (n : Int) + 4 := by omega
  rw [ec] at hmk
  have hfl : frm l = le4 n ++ l ++ le4 (crc (le4 n ++ l)) := by unfold frm; rw [hl]
  have hfn : (frm l).length = 4 + n + 4 := by rw [frm_len, hl]; omega
  have hcl := crc_lt (le4 n ++ l)
  have c1 := lay_own w.heap.size 0 (4 + n + 4) _ [] n (by omega) W1 ho1 hb1.size (by omega)
  have H1 := Lib.hid hfl
  have H2 := Lib.hid hfn
  clear hfl hfn ec hg1
  go_enter Try.func10, Try.ntmps10
  go_wp2_with (go_at_call 22; (with_reducible refine c1.mono ?_))
  rintro e W2 ⟨⟨a2, k2, rfl, o2⟩, f2⟩
  have b2 := f2 _ hb1
  have hB2 := hb.later b2
  clear c1 f2 hmk ho1 hb1
  go_wp2_with (at_builtin; go_loud (refine wpList_append_bts _ rfl _ _ 22 rfl w.heap.size 5 i0 Try.underlying22 hi hz0 hz1 hz2 _ _ _ rfl o2 _ _ _ l rfl hl hB2 hA (by omega) b2.size ?_))
  intro v3 W3 o3 hg3
  obtain ⟨a3, k3, rfl⟩ := own_slice o3
  have b3 := below_grown b2 (Nat.le_refl _) o2 hg3
  rw [byteCells_app] at o3
  have e3 : [] ++ le4 n ++ l = le4 n ++ l := rfl
  have q3 := Bts.own o3
  have hl3 : (le4 n ++ l).length = 4 + n := by rw [List.length_append, le4_len, hl]
  have c3 := Sum_same a3 (4 + n) k3 (le4 n ++ l) W3 hl3 (by omega) q3
  obtain ⟨x, hx⟩ : ∃ x, x = crc (le4 n ++ l) := ⟨_, rfl⟩
  rw [← hx] at c3 hcl
  have HX := Lib.hid hx
  have c4 := lay_own w.heap.size (4 + n) k3 a3 (le4 n ++ l) x hcl W3 o3 b3.size (by omega)
  have B3 := Lib.hid b3
  clear o2 hg3 b2 hB2 q3 hl3 hx hcl o3 b3 e3
  go_wp2_with (first | (go_at_call 13; (with_reducible refine c3.mono ?_); rintro e W4 ⟨rfl, rfl⟩) | (go_at_call 22; (with_reducible refine c4.mono ?_)))
  rintro e W5 ⟨⟨a5, k5, rfl, o5⟩, f5⟩
  have b5 := f5 _ B3.out
  have O5 := Lib.hid o5
  clear c3 c4 f5 o5
  go_wp2
  go_ret2
  have o6 := O5.out
  have e1 := H1.out
  rw [HX.out, ← e1] at o6
  rw [← H2.out] at o6
  exact ⟨a5, k5, by rw [H2.out]; rfl, o6, b5⟩

set_option maxHeartbeats 4000000 in
set_option maxRecDepth 100000 in
theorem Next_any (a : Option Addr) (n cap : Nat) (l : List UInt8) (w : World) (hl : l.length = n) (hn : n ≤ 1000000) (hcap : n ≤ cap) (hb : Bts w a l) (hA : a = none → cap = 0) :
    Calls Try.prog 15 #[.slice a n cap] w (Own3Post w.heap.size (nextF l) w) := by
  by_cases h4 : n < 4
  · rw [nx_a (by omega)]
    have h4i : (n : Int) < 4 := by omega
    go_enter Try.func15, Try.ntmps15
    go_wp2
    go_ret3
    exact own3_nil _ 0 2 w (Below.refl _ _)
  have h4l : ¬ l.length < 4 := by omega
  obtain ⟨x, rfl⟩ : ∃ x, a = some x := by
    obtain ⟨x, hx, _⟩ := hb.at 0 (by omega)
    exact ⟨x, hx⟩
  have cw := take_l x n cap l w hl (by omega) hb
  have hlt := wdL_lt l
  have h4i : ¬ (n : Int) < 4 := by omega
  have HD1 := Lib.hid (nx_b h4l)
  have HD2 := Lib.hid (nx_c h4l)
  have HD3 := Lib.hid (nx_d h4l)
  have HD4 := Lib.hid (nx_e h4l)
  obtain ⟨m, hm⟩ : ∃ m, m = wdL l := ⟨_, rfl⟩
  rw [← hm] at cw hlt HD1 HD2 HD3 HD4
  rw [hl] at HD2 HD3 HD4
  clear hm h4l
  by_cases hbig : 131072 < m
  · rw [HD1.out hbig]
    have hi2 : (131072 : Int) < (m : Int) := by omega
    go_enter Try.func15, Try.ntmps15
    go_wp2_with (go_at_call 25; refine cw.mono ?_; rintro e W1 ⟨rfl, q, rfl⟩)
    go_ret3
    exact own3_nil _ 0 3 w (below_drewN (Below.refl _ w) _)
  have hi2 : ¬ (131072 : Int) < (m : Int) := by omega
  by_cases hsh : n < m + 8
  · rw [HD2.out hbig hsh]
    have hi3 : (n : Int) < 4 + (m : Int) + 4 := by omega
    go_enter Try.func15, Try.ntmps15
    go_wp2_with (go_at_call 25; refine cw.mono ?_; rintro e W1 ⟨rfl, q, rfl⟩)
    go_ret3
    exact own3_nil _ 0 2 w (below_drewN (Below.refl _ w) _)
  have hi3 : ¬ (n : Int) < 4 + (m : Int) + 4 := by omega
  have cs := fun (wx : World) (hx : Bts wx (some x) (l.take (m + 4))) => Sum_same (some x) (4 + m) cap (l.take (m + 4)) wx (by rw [List.length_take]; omega) (by omega) hx
  have cw2 := fun (wx : World) (hx : Bts wx (some (x.add (4 + m))) (l.drop (m + 4))) => take_l (x.add (4 + m)) (n - (4 + m)) (cap - (4 + m)) (l.drop (m + 4)) wx (by rw [List.length_drop]; omega) (by omega) hx
  have t1 := hb.take (m + 4)
  have t2 := hb.drop (m + 4)
  rw [show x.add (m + 4) = x.add (4 + m) by rw [Nat.add_comm]] at t2
  have hc1 := crc_lt (l.take (m + 4))
  have hc2 := wdL_lt (l.drop (m + 4))
  obtain ⟨s1, hs1⟩ : ∃ s, s = crc (l.take (m + 4)) := ⟨_, rfl⟩
  obtain ⟨s2, hs2⟩ : ∃ s, s = wdL (l.drop (m + 4)) := ⟨_, rfl⟩
  rw [← hs1] at cs hc1 HD3 HD4
  rw [← hs2] at cw2 hc2 HD3 HD4
  have hcm : ¬ cap = 4 + m := by omega
  have hsum0 : (0 : Int) ≤ 4 + (m : Int) := by omega
  have hsum1 : (4 + (m : Int)).toNat = 4 + m := by omega
  have hsum2 : 4 + (m : Int) ≤ (n : Int) := by omega
  have hsum3 : 4 + (m : Int) ≤ (cap : Int) := by omega
  have q1 : ∀ (W : World) (k : Nat), Below w.heap.size w W → Calls Try.prog 13 #[.slice (some x) (4 + m) cap] (W.drewN k) fun e w'' => e = .returned (.int .u32 s1) ∧ ∃ j, w'' = W.drewN j := fun W k hW => quiet_left (cs _ (t1.later (below_drewN hW k)))
  have q2 : ∀ (W : World) (k : Nat), Below w.heap.size w W → Calls Try.prog 25 #[.slice (some (x.add (4 + m))) (n - (4 + m)) (cap - (4 + m))] (W.drewN k) fun e w'' => e = .returned (.int .u32 s2) ∧ ∃ j, w'' = W.drewN j := fun W k hW => Calls.quiet_of (cw2 _ (t2.later (below_drewN hW k)))
  have cwb : Calls Try.prog 25 #[.slice (some x) n cap] w fun e w' => e = .returned (.int .u32 m) ∧ Below w.heap.size w w' := cw.mono fun e w' ⟨he, q, hq⟩ => ⟨he, by rw [hq]; exact below_drewN (Below.refl _ w) _⟩
  clear cw
  have tD := (hb.drop 4).take m
  clear hs1 hs2 HD1 HD2 cs cw2 t1 t2
  by_cases hne : s1 ≠ s2
  · rw [HD3.out hbig hsh hne]
    have hni : ((s1 : Int) != (s2 : Int)) = true := bne_iff_ne.2 (by omega)
    clear hne HD3 HD4
    go_enter Try.func15, Try.ntmps15
    go_wp2_with (go_at_call 25; refine cwb.mono ?_)
    first | rintro e W1 rfl hW1 | rintro e W1 ⟨rfl, hW1⟩
    clear cwb
    go_wp2_with fail
    go_quiet (first | (go_at_call 13; exact q1 _ _ hW1) | (go_at_call 25; exact q2 _ _ hW1))
    go_wp2
    go_ret3
    exact own3_nil _ 0 3 w (below_drewN hW1 _)
  · rw [HD4.out hbig hsh hne]
    have hni : ((s1 : Int) != (s2 : Int)) = false := by simpa using (by omega : (s1 : Int) = (s2 : Int))
    clear hne HD3 HD4
    have e4 : x.add 4 = ⟨x.block, x.off + 4, none⟩ := by unfold Addr.add; simp
    rw [e4] at tD
    have hDl : ((l.drop 4).take m).length = m := by rw [List.length_take, List.length_drop]; omega
    have hc4 : ¬ cap = 4 := by omega
    go_enter Try.func15, Try.ntmps15
    go_wp2_with (go_at_call 25; refine cwb.mono ?_)
    first | rintro e W1 rfl hW1 | rintro e W1 ⟨rfl, hW1⟩
    clear cwb
    go_wp2_with fail
    go_quiet (first | (go_at_call 13; exact q1 _ _ hW1) | (go_at_call 25; exact q2 _ _ hW1))
    have cC := fun q => Clone_any ⟨x.block, x.off + 4, none⟩ m (cap - 4) ((l.drop 4).take m) (W1.drewN q) hDl (by omega) (tD.later (below_drewN hW1 q))
    have HL := Lib.hid hDl
    clear e4 q1 q2 hb tD hDl
    go_wp2_with (go_at_call 26; (with_reducible refine (cC _).mono ?_))
    rintro e W2 ⟨a2, k2, rfl, o2, b2⟩
    have B2 := Lib.hid ((below_drewN hW1 _).trans (b2.mono (below_drewN hW1 _).size))
    have O2 := Lib.hid (ownB o2 (below_drewN hW1 _).size)
    clear cC o2 b2 hW1
    go_wp2
    go_ret3
    have o3 := O2.out
    unfold Own3Post
    simp only
    rw [HL.out]
    exact ⟨a2, k2, by simp; omega, o3, B2.out⟩

set_option maxHeartbeats 4000000 in
set_option maxRecDepth 100000 in
theorem Scan_any (a : Option Addr) (n cap : Nat) (l : List UInt8) (w : World) (hl : l.length = n) (hn : n ≤ 1000000) (hcap : n ≤ cap) (hb : Bts w a l) (hA : a = none → cap = 0) :
    Calls Try.prog 17 #[.slice a n cap] w (Rows3Post (scan l) w) := by
  obtain ⟨i0, hi, hz0, hz1, hz2⟩ := info_parts infoRow8
  go_enter Try.func17, Try.ntmps17
  go_wp2
  go_loopw [2, 3] (fun v i wr => ∃ (k f : Nat) (acc : List (List UInt8)), i = .int .i64 k ∧ k ≤ n ∧ n ≤ k + f ∧ acc.length ≤ k ∧ RwOwn wr w.heap.size v acc ∧ Below w.heap.size w wr ∧ Hid (scan l = scanF (f + 1) k acc (l.drop k))) (fun _ i _ => n - (intOf i).toNat)
  case atStart => exact ⟨0, n, [], rfl, Nat.zero_le _, by omega, Nat.le_refl _, RwOwn.nil _ _, Below.refl _ _, by show _ = _; unfold scan; rw [hl]; rfl⟩
  case round =>
    obtain ⟨k, f, acc, rfl, hk, hkf, hal, ho, hbw, HS⟩ := hrel
    by_cases hlt : k < n
    · obtain ⟨x, rfl⟩ : ∃ x, a = some x := by
        obtain ⟨x, hx, _⟩ := hb.at k (by omega)
        exact ⟨x, hx⟩
      have hdl : (l.drop k).length = n - k := by rw [List.length_drop, hl]
      have hne : l.drop k ≠ [] := by intro e; rw [e] at hdl; simp at hdl; omega
      have cN := Next_any (some (x.add k)) (n - k) (cap - k) (l.drop k) wr hdl (by omega) (by omega) ((hb.later hbw).drop k) (fun h => by cases h)
      have HS2 : Hid (scan l = if (nextF (l.drop k)).2.2 = 1 then scanF f (k + (nextF (l.drop k)).2.1) (acc ++ [(nextF (l.drop k)).1]) ((l.drop k).drop (nextF (l.drop k)).2.1) else (acc, k, (nextF (l.drop k)).2.2)) := by
        show _ = _
        rw [HS.out, scanF, if_neg hne]
      have hck : ¬ cap = k := by omega
      obtain ⟨Q, hQ, hQo, hQs⟩ := ho
      obtain ⟨oa, oc, hov⟩ := own_slice hQo
      subst hov
      have hQl : Q.length = acc.length := by rw [← hQ, List.length_map]
      have HQ := Lib.hid hQ
      have hQn : Q.length ≤ 1000000 := by omega
      clear hQ HS hQl
      by_cases hone : (nextF (l.drop k)).2.2 = 1
      · obtain ⟨m, hm1, hm2, hnx⟩ := nextF_one hone
        rw [hdl] at hm2
        have HS3 : Hid (scan l = scanF f (k + (m + 8)) (acc ++ [((l.drop k).drop 4).take m]) (l.drop (k + (m + 8)))) := by
          show _ = _
          rw [HS2.out, hnx, if_pos rfl]
          simp only [List.drop_drop]
        have hpl : (((l.drop k).drop 4).take m).length = m := by rw [List.length_take, List.length_drop, hdl]; omega
        unfold Own3Post at cN
        rw [hnx] at cN
        simp only at cN
        rw [hpl] at cN
        have HPL := Lib.hid hpl
        obtain ⟨p, hp⟩ : ∃ p, p = ((l.drop k).drop 4).take m := ⟨_, rfl⟩
        rw [← hp] at cN HS3 HPL
        clear hone hnx hp hpl HS2 hne hdl
        go_wp2_with (go_at_call 15; (with_reducible refine cN.mono ?_))
        rintro e W1 ⟨pa, pc, rfl, op, b1⟩
        have hb1 : Below w.heap.size w W1 := hbw.trans (b1.mono hbw.size)
        have hQo1 := ownL hQo b1
        have hQs1 := fun q hq => ownL (hQs q hq) b1
        have op1 := ownB op hbw.size
        clear cN hQo hQs hbw b1 op
        go_wp2_with (at_builtin; go_loud (refine wpList_append_own _ rfl _ _ 32 rfl w.heap.size 22 i0 (.slice none 0 0) 1 24 Try.underlying32 hi hz0 hz1 hz2 rfl (by decide) _ _ _ rfl (hQo1.alloc _) ⟨W1.heap.size, 0, none⟩ 1 1 [.slice pa m pc] rfl rfl ?c1 ?c2 ?c3 ?c4 ?c5 ?_))
        case c1 => intro j u hj; exact new_cells8 _ _ _ _ rfl j u hj
        case c2 => intro u hu; simp at hu; subst hu; rfl
        case c3 => unfold maxLen; omega
        case c4 => omega
        case c5 => have := hb1.size; simp; omega
        intro v2 w3 o3 hg3 _
        obtain ⟨a2, k2, rfl⟩ := own_slice o3
        have ho3 := RwOwn.put (hQo1.alloc _) (fun q hq => (hQs1 q hq).alloc _) (by rw [HPL.out]; exact op1.alloc _) hg3 o3
        rw [HQ.out] at ho3
        have hb3 : Below w.heap.size w w3 := (hb1.alloc hb1.size _).grown hg3 (by have := hb1.size; simp; omega) (fun k hk => (hQo1.lt k hk).1)
        clear o3 hg3 hQo1 hQs1 op1 hb1
        go_wp2
        go_roundw
        case rel => exact ⟨k + (m + 8), f - 1, _, by go_num, by omega, by omega, by simp; omega, ho3, hb3, by
          show _ = _
          obtain ⟨f, rfl⟩ : ∃ z, f = z + 1 := ⟨f - 1, by omega⟩
          rw [HS3.out]; rfl⟩
        case measure => simp [intOf]; omega
      · have HS3 : Hid (scan l = (acc, k, (nextF (l.drop k)).2.2)) := by show _ = _; rw [HS2.out, if_neg hone]
        have hki : (((nextF (l.drop k)).2.2 : Nat) : Int) != 1 := bne_iff_ne.2 (by omega)
        have hki2 : ((((nextF (l.drop k)).2.2 : Nat) : Int) != 1) = true := hki
        unfold Own3Post at cN
        obtain ⟨q, hq⟩ : ∃ q, q = nextF (l.drop k) := ⟨_, rfl⟩
        rw [← hq] at cN HS3 hki2
        obtain ⟨q1, q2, q3⟩ := q
        simp only at cN HS3 hki2
        have HQL : Hid (Q.length = acc.length) := by show _ = _; rw [← HQ.out, List.length_map]
        clear hone hq HS2 hne hdl hki
        go_wp2_with (go_at_call 15; (with_reducible refine cN.mono ?_))
        rintro e W1 ⟨pa, pc, rfl, op, b1⟩
        have hb1 : Below w.heap.size w W1 := hbw.trans (b1.mono hbw.size)
        have hfin : RwOwn W1 w.heap.size (.slice oa Q.length oc) acc := ⟨Q, HQ.out, ownL hQo b1, fun q hq => ownL (hQs q hq) b1⟩
        clear cN hQo hQs hbw b1 op
        go_wp2
        go_ret3
        unfold Rows3Post
        rw [HS3.out]
        refine ⟨hb1, oa, oc, ?_, ?_⟩
        · rw [← HQL.out]; rfl
        · rw [← HQL.out]; exact hfin
    · have HN : Hid (scan l = (acc, k, 1)) := by
        show _ = _
        rw [HS.out, List.drop_of_length_le (by omega), scanF_nil]
      obtain ⟨oa, oc, hov⟩ := ho.form
      subst hov
      go_wp2
      go_ret3
      unfold Rows3Post
      rw [HN.out]
      exact ⟨hbw, oa, oc, rfl, ho⟩

end Go.Proofs.Ytkoboogbdpagpaa
