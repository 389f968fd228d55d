/-
  StampMost: its walk.
-/
import Derived.Test.YtijnmhiiojkcgaaDoorStZE
import Derived.Test.YtijnmhiiojkcgaaDoorStN
set_option linter.unusedVariables false
namespace Go.Proofs.YtijnmhiiojkcgaaDoor
open Go.RowKit

theorem max_as (a : Option Addr) (n c : Nat) (ss : List Sm) (M : Sm) (hM : maxOf ss = M) (w : World) (hn : n ≤ 1000000) (h : SmsIn w a n ss) :
    Calls Tryd.prog 13 #[.slice a n c] w (TelPost (.agg #[.int .i64 M.w, .int .i64 M.l, .int .i64 M.n]) w) := by
  subst hM
  exact max_any a n c ss w hn h
theorem min_as (a : Option Addr) (n c : Nat) (ss : List Sm) (M : Sm) (hM : minOf ss = M) (w : World) (hn : n ≤ 1000000) (h : SmsIn w a n ss) :
    Calls Tryd.prog 15 #[.slice a n c] w (TelPost (.agg #[.int .i64 M.w, .int .i64 M.l, .int .i64 M.n]) w) := by
  subst hM
  exact min_any a n c ss w hn h

set_option maxHeartbeats 16000000 in
set_option maxRecDepth 100000 in
theorem StampMost_body (a : Option Addr) (n c : Nat) (ss : List Sm) (w : World) (h0 : SmsIn w a n ss ∧ (∀ x ∈ ss, SmI x) ∧ n ≤ maxLen) (ht : Tab w) :
    Calls Tryd.prog 9 #[.slice a n c] w (TelPost (.bool true) w) := by
  obtain ⟨hin, _, hn⟩ := h0
  unfold maxLen at hn
  have HT := Lib.hid ht
  have CA := Lib.hid fun wx (hx : Below w.heap.size w wx) => awake_any wx (HT.out.later hx)
  by_cases hbig : (200 : Int) < n
  · have cA := awake_any w ht
    clear ht
    go_enter Tryd.func9, Tryd.ntmps9
    go_wp2_with (go_at_call 10; (with_reducible refine cA.mono ?_))
    rintro e W1 ⟨rfl, b1⟩
    have HZ := Lib.hid b1
    clear b1
    go_wp2
    go_ret
    exact ⟨rfl, HZ.out⟩
  · obtain ⟨i0, hi, hz0, hz1, hz2⟩ := info_parts infoStamp
    obtain ⟨M, hM⟩ : ∃ M, maxOf ss = M := ⟨_, rfl⟩
    obtain ⟨N, hN⟩ : ∃ N, minOf ss = N := ⟨_, rfl⟩
    have HM := Lib.hid hM
    have HN := Lib.hid hN
    have HIN := Lib.hid hin
    have HL := Lib.hid hin.1
    have cM := max_as a n c ss M hM w (by omega) hin
    have CN := Lib.hid fun wx (hx : Below w.heap.size w wx) => min_as a n c ss N hN wx (by omega) (hin.later hx)
    clear ht hM hN hin
    go_enter Tryd.func9, Tryd.ntmps9
    go_wp2_with (go_at_call 13; (with_reducible refine cM.mono ?_))
    rintro e W1 ⟨rfl, b1⟩
    have b1' := b1.alloc b1.size (.cells #[.int .i64 M.w, .int .i64 M.l, .int .i64 M.n] 23)
    have HB1 := Lib.hid b1'
    have HM1 := Lib.hid (Box3.new W1 M.w M.l M.n 23)
    have cN := CN.out _ b1'
    clear b1 b1' cM
    go_wp2_with (go_at_call 15; (with_reducible refine cN.mono ?_))
    rintro e W2 ⟨rfl, b2⟩
    have b2' := b2.alloc b2.size (.cells #[.int .i64 N.w, .int .i64 N.l, .int .i64 N.n] 23)
    have HS2 := Lib.hid (keepMN ⟨HB1.out.trans (b2'.mono HB1.out.size), HM1.out.later b2', Box3.new W2 N.w N.l N.n 23⟩ (Below.refl _ _))
    have hz2' : w.heap.size ≤ W2.heap.size := Nat.le_trans HB1.out.size b2.size
    clear b2 b2' cN
    by_cases hn0 : n = 0
    · have hss : ss = [] := List.length_eq_zero_iff.1 (by rw [HL.out]; exact hn0)
      have hMz : M = ⟨0, 0, 0⟩ := by rw [← HM.out, hss]; rfl
      have hNz : N = ⟨0, 0, 0⟩ := by rw [← HN.out, hss]; rfl
      subst hn0 hMz hNz
      obtain ⟨_, ⟨x0, x1, x2⟩, y0, y1, y2⟩ := id HS2.out
      simp only at x0 x1 x2 y0 y1 y2
      have cA := CA.out _ HS2.out.1
      clear hss
      go_wp2_with (go_at_call 10; (with_reducible refine cA.mono ?_))
      rintro e W3 ⟨rfl, b3⟩
      have HZ := Lib.hid (HS2.out.1.trans (b3.mono HS2.out.1.size))
      clear b3 cA x0 x1 x2 y0 y1 y2
      go_wp2
      go_ret
      exact ⟨rfl, HZ.out⟩
    · have hne : ss ≠ [] := fun e => by have := HL.out; rw [e] at this; exact hn0 this.symm
      have HMS := Lib.hid (show M ∈ ss ∧ ∀ x ∈ ss, lessB M x = false by rw [← HM.out]; exact max_spec hne)
      have HNS := Lib.hid (show N ∈ ss ∧ ∀ x ∈ ss, lessB x N = false by rw [← HN.out]; exact min_spec hne)
      have HMR := Lib.hid (show maxOf ss.reverse = M by rw [← HM.out]; exact max_rev hne)
      have HNR := Lib.hid (show minOf ss.reverse = N by rw [← HN.out]; exact min_rev hne)
      have e0 : ((n : Int) == 0) = false := beq_false_of_ne (by omega)
      clear hne
      obtain ⟨W3, hW3⟩ : ∃ W3, W3 = W2.alloc (.cells #[.int .i64 N.w, .int .i64 N.l, .int .i64 N.n] 23) := ⟨_, rfl⟩
      rw [← hW3] at HS2
      have HW3 := Lib.hid hW3
      have hz3 : w.heap.size ≤ W3.heap.size := HS2.out.1.size
      clear hW3
      go_wp2
      rw [← HW3.out]
      go_loopw [5, 6, 7, 8] (fun vt vin vun vi wr => ∃ (j : Nat) (ta : Option Addr) (tc : Nat), vi = .int .i64 j ∧ j ≤ n ∧ vt = .slice ta j tc ∧ vin = .bool (inB M (ss.take j)) ∧ vun = .bool (inB N (ss.take j)) ∧ wr.ownsRow w.heap.size 23 3 (.slice ta j tc) j (rowOf smC (ss.take j).reverse) ∧ Below w.heap.size w wr ∧ Box3 wr W1.heap.size M.w M.l M.n ∧ Box3 wr W2.heap.size N.w N.l N.n) (fun _ _ _ vi _ => n - (intOf vi).toNat)
      case atStart => exact ⟨0, none, 0, rfl, Nat.zero_le _, rfl, rfl, rfl, World.ownsRow_nil _ _ _ _, HS2.out.1, HS2.out.2.1, HS2.out.2.2⟩
      case round =>
        obtain ⟨j, ta, tc, rfl, hj, rfl, rfl, rfl, ho, hS⟩ := hrel
        by_cases hlt : j < n
        · have hlt2 : j < ss.length := by have := HL.out; omega
          obtain ⟨x, rfl, hx⟩ := (HIN.out.later hS.1).at j hlt2
          obtain ⟨s, hs⟩ : ∃ s, s = ss[j]'hlt2 := ⟨_, rfl⟩
          have hmem : s ∈ ss := by rw [hs]; exact List.getElem_mem hlt2
          have hi1 := inB_take M ss j hlt2
          have hi2 := inB_take N ss j hlt2
          rw [← hs] at hx hi1 hi2
          obtain ⟨p0, p1, p2⟩ := hx
          rw [fld x (j * 3) 1 (by decide)] at p1
          rw [fld x (j * 3) 2 (by decide)] at p2
          have HS := Lib.hid (keepM (i := j) (x := x) (s := s) ⟨hS.1, hS.2.1, hS.2.2, p0, p1, p2⟩ (Below.refl _ _).drew)
          have HO := Lib.hid ho
          have HI1 := Lib.hid hi1
          have HI2 := Lib.hid hi2
          have CL1 := Lib.hid fun wx => less_as M s false (HMS.out.2 s hmem) wx
          have CL2 := Lib.hid fun wx => less_as s N false (HNS.out.2 s hmem) wx
          have HTK : Hid ((ss.take (j + 1)).reverse = s :: (ss.take j).reverse) := by
            show _ = _
            rw [List.take_add_one, List.getElem?_eq_getElem hlt2, ← hs]
            simp
          clear hs hi1 hi2 hmem p0 p1 p2 ho
          obtain ⟨i1, hi1⟩ : ∃ b, b = inB M (ss.take j) := ⟨_, rfl⟩
          obtain ⟨i2, hi2⟩ : ∃ b, b = inB N (ss.take j) := ⟨_, rfl⟩
          rw [← hi1] at HI1 ⊢
          rw [← hi2] at HI2 ⊢
          clear hi1 hi2 hS
          obtain ⟨E1, hE1⟩ : ∃ E, E = decide (s = M) := ⟨_, rfl⟩
          obtain ⟨E2, hE2⟩ : ∃ E, E = decide (s = N) := ⟨_, rfl⟩
          have hq1 : ∀ W, (Op.equalIn 10000 23 (.agg #[.int .i64 s.w, .int .i64 s.l, .int .i64 s.n]) (.agg #[.int .i64 M.w, .int .i64 M.l, .int .i64 M.n])).run Tryd.prog W = .ok E1 W := fun W => by rw [hE1]; exact eq_stamp s M W
          have hq2 : ∀ W, (Op.equalIn 10000 23 (.agg #[.int .i64 s.w, .int .i64 s.l, .int .i64 s.n]) (.agg #[.int .i64 N.w, .int .i64 N.l, .int .i64 N.n])).run Tryd.prog W = .ok E2 W := fun W => by rw [hE2]; exact eq_stamp s N W
          rw [← hE1] at HI1
          rw [← hE2] at HI2
          clear hE1 hE2
          go_wp2_with fail
          go_region_held3 (fun w' => Below w.heap.size w w' ∧ (w'.cell? ⟨W1.heap.size, 0, none⟩ = some (.int .i64 M.w) ∧ w'.cell? ⟨W1.heap.size, 1, none⟩ = some (.int .i64 M.l) ∧ w'.cell? ⟨W1.heap.size, 2, none⟩ = some (.int .i64 M.n)) ∧ (w'.cell? ⟨W2.heap.size, 0, none⟩ = some (.int .i64 N.w) ∧ w'.cell? ⟨W2.heap.size, 1, none⟩ = some (.int .i64 N.l) ∧ w'.cell? ⟨W2.heap.size, 2, none⟩ = some (.int .i64 N.n)) ∧ (w'.cell? (x.add (j * 3)) = some (.int .i64 s.w) ∧ w'.cell? ⟨(x.add (j * 3)).block, (x.add (j * 3)).off + 1, none⟩ = some (.int .i64 s.l) ∧ w'.cell? ⟨(x.add (j * 3)).block, (x.add (j * 3)).off + 2, none⟩ = some (.int .i64 s.n)))
            (first | exact HS.out | exact hs2 | exact hs1 | exact keepM (by assumption) (Below.refl _ _).drew | go_keep)
            (first
              | (go_at_call 11; (with_reducible refine (CL1.out _).mono ?_); rintro e V1 ⟨rfl, b1⟩; have hs1 := keepM (by assumption) b1)
              | (go_at_call 11; (with_reducible refine (CL2.out _).mono ?_); rintro e V2 ⟨rfl, b2⟩; have hs2 := keepM (by assumption) b2)
              | fail)
          all_goals (
            have HSV := Lib.hid hs2
            have hzv : w.heap.size ≤ V2.heap.size := hs2.1.size
            have HO2 := Lib.hid (rowLater (rowLater HO.out ((Below.refl _ _).drew.trans (b1.mono (Nat.le_refl _)))) b2)
            have HLIT := Lib.hid fun (B q : Nat) (hB : B ≤ V2.heap.size) => (show ((V2.drewN q).alloc (.cells #[.int .i64 s.w, .int .i64 s.l, .int .i64 s.n] 23)).ownsRow B 23 3 (.slice (some ⟨V2.heap.size, 0, none⟩) 1 1) 1 (smC s) from by
              have := World.ownsRow_lit (base := B) (e := 23) (size := 3) (V2.drewN q) #[.int .i64 s.w, .int .i64 s.l, .int .i64 s.n] 1 (by simpa using hB) (by decide) rfl
              simpa [smC] using this)
            have HSRC := Lib.hid fun (q : Nat) => (show ((V2.drewN q).alloc (.cells #[.int .i64 s.w, .int .i64 s.l, .int .i64 s.n] 23)).ownsRow w.heap.size 23 3 (.slice ta j tc) j (rowOf smC (ss.take j).reverse) from
              rowLater HO2.out ((below_drewN (Below.refl _ V2) q).alloc (Nat.le_refl _) _))
            have HNX := Lib.hid fun (q : Nat) (W : World) (hg : ((V2.drewN q).alloc (.cells #[.int .i64 s.w, .int .i64 s.l, .int .i64 s.n] 23)).grownBy W (some V2.heap.size)) =>
              most_next (s := s) (v := (.slice (some ⟨V2.heap.size, 0, none⟩) 1 1)) (keepMN ⟨HSV.out.1, HSV.out.2.1, HSV.out.2.2.1⟩ (below_drewN (Below.refl _ _) q)) (by simpa using HLIT.out V2.heap.size q (Nat.le_refl _)) hg
            obtain ⟨_, ⟨m0, m1, m2⟩, ⟨k0, k1, k2⟩, p0, p1, p2⟩ := id hs2
            clear hs1 hs2 b1 b2
            go_wp2_with fail
            cases i1
            all_goals (
              go_quiet (fail)
              go_wp2_with fail
              cases i2
              all_goals (
                go_quiet (fail)
                go_wp2_with (at_builtin; refine wpList_append_row _ rfl _ _ 24 rfl w.heap.size 23 i0 (.agg #[.int .i64 0, .int .i64 0, .int .i64 0]) 3 24 Tryd.underlying24 hi hz0 hz1 hz2 rfl (by decide) (.slice (some ⟨V2.heap.size, 0, none⟩) 1 1) 1 (smC s) rfl (HLIT.out _ _ hzv) w.heap.size ta j tc (rowOf smC (ss.take j).reverse) rfl (HSRC.out _) (row_one _) (by unfold maxLen; omega) (by omega) (by simp; omega) (j + 1) (by omega) ?_)
                intro ta' tc' W6 o6 g6 _
                have HN6 := Lib.hid (HNX.out _ _ g6)
                have HO6 : Hid (W6.ownsRow w.heap.size 23 3 (.slice ta' (j + 1) tc') (j + 1) (rowOf smC (ss.take (j + 1)).reverse)) := by
                  show _
                  rw [HTK.out]
                  exact o6
                clear o6 g6
                go_wp2
                go_roundw
                case rel => exact ⟨j + 1, ta', tc', by go_num, by omega, rfl, by rw [HI1.out]; rfl, by rw [HI2.out]; rfl, HO6.out, HN6.out.1, HN6.out.2.1, HN6.out.2.2⟩
                case measure => simp [intOf]; omega)))
        · obtain rfl : j = n := by omega
          have hss : ss.take j = ss := List.take_of_length_le (by have := HL.out; omega)
          rw [hss] at ho ⊢
          rw [inB_all HMS.out.1, inB_all HNS.out.1]
          have hsm := sms_own ho (by have := HL.out; simpa using this)
          have HSR := Lib.hid hsm
          have HS := Lib.hid hS
          have c1 := fun wx (hx : Below wr.heap.size wr wx) => max_as ta j tc ss.reverse M HMR.out wx (by omega) (HSR.out.later hx)
          have c2 := fun wx (hx : Below wr.heap.size wr wx) => min_as ta j tc ss.reverse N HNR.out wx (by omega) (HSR.out.later hx)
          have C1 := Lib.hid c1
          have C2 := Lib.hid c2
          have C3 := Lib.hid fun wx (hx : Below wr.heap.size wr wx) => CA.out wx (HS.out.1.trans (hx.mono HS.out.1.size))
          have hqM : ∀ W, (Op.equalIn 10000 23 (.agg #[.int .i64 M.w, .int .i64 M.l, .int .i64 M.n]) (.agg #[.int .i64 M.w, .int .i64 M.l, .int .i64 M.n])).run Tryd.prog W = .ok true W := fun W => by rw [eq_stamp M M W]; simp
          have hqN : ∀ W, (Op.equalIn 10000 23 (.agg #[.int .i64 N.w, .int .i64 N.l, .int .i64 N.n]) (.agg #[.int .i64 N.w, .int .i64 N.l, .int .i64 N.n])).run Tryd.prog W = .ok true W := fun W => by rw [eq_stamp N N W]; simp
          have HKK := Lib.hid (show Below wr.heap.size wr wr.drew ∧ Box3 wr.drew W1.heap.size M.w M.l M.n ∧ Box3 wr.drew W2.heap.size N.w N.l N.n from ⟨(Below.refl _ _).drew, hS.2.1.later (Below.refl _ _).drew, hS.2.2.later (Below.refl _ _).drew⟩)
          clear hss ho hsm hS c1 c2
          go_wp2_with fail
          go_region_held3 (fun w' => Below wr.heap.size wr w' ∧ (w'.cell? ⟨W1.heap.size, 0, none⟩ = some (.int .i64 M.w) ∧ w'.cell? ⟨W1.heap.size, 1, none⟩ = some (.int .i64 M.l) ∧ w'.cell? ⟨W1.heap.size, 2, none⟩ = some (.int .i64 M.n)) ∧ (w'.cell? ⟨W2.heap.size, 0, none⟩ = some (.int .i64 N.w) ∧ w'.cell? ⟨W2.heap.size, 1, none⟩ = some (.int .i64 N.l) ∧ w'.cell? ⟨W2.heap.size, 2, none⟩ = some (.int .i64 N.n)))
            (first | exact HKK.out | exact hs3 | exact hs2 | exact hs1 | exact keepMN (by assumption) (Below.refl _ _).drew | go_keep)
            (first
              | (go_at_call 13; (with_reducible refine (C1.out _ (And.left (by assumption))).mono ?_); rintro e V1 ⟨rfl, b1⟩; have hs1 := keepMN (by assumption) b1)
              | (go_at_call 15; (with_reducible refine (C2.out _ (And.left (by assumption))).mono ?_); rintro e V2 ⟨rfl, b2⟩; have hs2 := keepMN (by assumption) b2)
              | (go_at_call 10; (with_reducible refine (C3.out _ (And.left (by assumption))).mono ?_); rintro e V3 ⟨rfl, b3⟩; have hs3 := keepMN (by assumption) b3)
              | fail)
          all_goals (
            have HZ := Lib.hid (HS.out.1.trans (hs3.1.mono HS.out.1.size))
            go_wp2
            go_ret
            exact ⟨rfl, HZ.out⟩)

end Go.Proofs.YtijnmhiiojkcgaaDoor
