/-
  ClockLives.
-/
import Derived.Test.YtnlpbldpbnlekaaCkL
set_option linter.unusedVariables false
namespace Go.Proofs.Ytnlpbldpbnlekaa
open Go.RowKit

/-- Where a run of ClockLives stands: the clock, and the last stamp of the first one, at least D below its wall. -/
structure LvR (w wr : World) (g b : Nat) (D : Int) (k : Ck) (lst : Sm) : Prop where
  c : CkAt wr g k
  t : Bx wr b lst
  ok : CkOk k
  low : Below w.heap.size w wr
  hg : w.heap.size ≤ g
  hb : w.heap.size ≤ b
  ne : b ≠ g
  le : lst.w + D ≤ k.s.w

theorem read_le (n : Int) (k : Ck) : k.s.w ≤ (readC n k).s.w := by unfold readC; split <;> exact Int.le_refl _
theorem tell_le (k : Ck) : k.s.w ≤ (tellS k).w := by
  unfold tellS
  split
  · simp only; omega
  · exact Int.le_refl _
theorem merge_le (s : Sm) (k : Ck) : k.s.w ≤ (mergeC s k).s.w := by
  unfold mergeC
  split
  · rename_i h
    have := of_decide_eq_true h.2
    simp only
    omega
  · exact Int.le_refl _
theorem Bx.set {w : World} {b : Nat} {s : Sm} (h : Bx w b s) (t : Sm) : Bx (((w.setCell ⟨b, 0, none⟩ (.int .i64 t.w)).setCell ⟨b, 1, none⟩ (.int .i64 t.l)).setCell ⟨b, 2, none⟩ (.int .i64 t.n)) b t := set3 h _ _ _

set_option maxHeartbeats 32000000 in
set_option maxRecDepth 100000 in
theorem ClockLives_body (a0 : Option Addr) (len0 cap0 : Nat) (HS0s : List St) (a1 : Option Addr) (len1 cap1 : Nat) (HS1s : List St) (w : World) (h0 : StepsIn w a0 len0 HS0s) (hlen0 : len0 ≤ maxLen) (h1 : StepsIn w a1 len1 HS1s) (hlen1 : len1 ≤ maxLen) :
    Calls Try.prog 8 #[.slice a0 len0 cap0, .slice a1 len1 cap1] w (TelPost (.bool true) w) := by
  unfold maxLen at hlen0 hlen1
  have c6 := fun wx => awake_any wx
  unfold TelPost at c6
  by_cases hbig0 : 200 < len0
  · have j1 : (200 : Int) < (len0 : Int) := by omega
    go_enter Try.func8, Try.ntmps8
    go_wp2_with (go_at_call 9; (with_reducible refine (c6 _).mono ?_); rintro e W ⟨rfl, b⟩)
    go_ret
    exact ⟨rfl, b⟩
  have j0 : ¬ (200 : Int) < (len0 : Int) := by omega
  by_cases hbig1 : 200 < len1
  · have j1 : (200 : Int) < (len1 : Int) := by omega
    go_enter Try.func8, Try.ntmps8
    go_wp2_with (go_at_call 9; (with_reducible refine (c6 _).mono ?_); rintro e W ⟨rfl, b⟩)
    go_ret
    exact ⟨rfl, b⟩
  have j1 : ¬ (200 : Int) < (len1 : Int) := by omega
  have HS0 := Lib.hid h0
  have HS1 := Lib.hid h1
  clear h0 h1
  obtain ⟨g, hg⟩ : ∃ g, w.heap.size = g := ⟨_, rfl⟩
  have HG := Lib.hid hg
  have cN := new_as' 1 0 (by decide) w g hg
  clear hg
  go_enter Try.func8, Try.ntmps8
  go_wp2_with (go_at_call 10; (with_reducible refine cN.mono ?_))
  rintro e W0 ⟨rfl, A0, B0⟩
  obtain ⟨b, hm⟩ : ∃ b, W0.heap.size = b := ⟨_, rfl⟩
  have hgm : g < b := by rw [← hm]; exact lt_of_block A0
  have HP0 : Hid (LvR w (W0.alloc (.cells #[.int .i64 0, .int .i64 0, .int .i64 0] 32)) g b 0 (newC 1 0) ⟨0, 0, 0⟩) :=
    ⟨A0.alloc _, by have := Bx.new W0 ⟨0, 0, 0⟩; rw [hm] at this; exact this, newC_ok (by decide), by rw [HG.out]; exact B0.alloc (by omega) _, by rw [HG.out]; exact Nat.le_refl _, by rw [HG.out]; omega, by omega, by decide⟩
  clear A0 B0 cN
  go_wp2
  try rw [hm]
  clear hm
  go_loopw [8] (fun i wr => ∃ (j : Nat) (k : Ck) (lst : Sm), i = .int .i64 j ∧ j ≤ len0 ∧ Hid (LvR w wr g b 0 k lst)) (fun i _ => len0 - (intOf i).toNat)
  case atStart => exact ⟨0, _, _, rfl, Nat.zero_le _, HP0⟩
  case round =>
    obtain ⟨j, k, lst, rfl, hj, HR⟩ := hrel
    clear HP0
    by_cases hlt : j < len0
    · skip
      have hlt2 : j < HS0s.length := by rw [HS0.out.1]; exact hlt
      obtain ⟨x, hax, hst⟩ := HS0.out.at j hlt2
      subst hax
      obtain ⟨⟨kd, N, s⟩, hs⟩ : ∃ s, s = HS0s[j]'hlt2 := ⟨_, rfl⟩
      rw [← hs] at hst
      obtain ⟨c0, c1, c2, c3, c4⟩ := hst
      simp only at c0 c1 c2 c3 c4
      have f : ∀ {a : Addr} {u : Value}, w.cell? a = some u → wr.cell? a = some u := fun hc => (HR.out.low.cell (World.block_lt_of_cell? w _ hc)).trans hc
      have c0 := f c0
      have c1 := f c1
      have c2 := f c2
      have c3 := f c3
      have c4 := f c4
      rw [fld x (j * 5) 1 (by decide)] at c1
      rw [fld x (j * 5) 2 (by decide)] at c2
      rw [fld x (j * 5) 3 (by decide)] at c3
      rw [fld x (j * 5) 4 (by decide)] at c4
      have i1 : (0 : Int) ≤ (j : Int) := by omega
      have i2 : (j : Int) < (len0 : Int) := by omega
      clear hs f
      by_cases k1 : kd = 1
      · subst k1
        obtain ⟨kk, hkk⟩ : ∃ kk, readC N k = kk := ⟨_, rfl⟩
        have q1 := read_as g k N kk hkk wr HR.out.c HR.out.ok
        have hok : CkOk kk := by rw [← hkk]; exact readC_ok HR.out.ok N
        have hle : k.s.w ≤ kk.s.w := by rw [← hkk]; exact read_le N k
        clear hkk
        go_wp2_with (go_at_call 12; (with_reducible refine q1.mono ?_))
        rintro e W5 ⟨rfl, A5, K5⟩
        have HZ := Lib.hid (show LvR w W5 g b 0 kk lst from ⟨A5, HR.out.t.kept K5 HR.out.ne, hok, kept_below HR.out.low K5 HR.out.hg (Nat.le_refl _), HR.out.hg, HR.out.hb, HR.out.ne, Int.le_trans HR.out.le hle⟩)
        clear A5 K5 q1 hok hle
        go_wp2
        go_roundw
        case rel => exact ⟨j + 1, _, _, by go_num, by omega, HZ⟩
        case measure => simp [intOf]; omega
      · by_cases k2 : kd = 2
        · subst k2
          by_cases ho : overB k = true
          · have HT : Hid (tickS k = ⟨0, 0, 0⟩ ∧ tickC k = k ∧ tickE k = 7) := by
              refine ⟨?_, ?_, ?_⟩
              · unfold tickS; rw [if_pos ho]
              · unfold tickC; rw [if_pos ho]
              · unfold tickE; rw [if_pos ho]
            clear ho
            have q1 := tick_as g k ⟨0, 0, 0⟩ k 7 HT.out.1 HT.out.2.1 HT.out.2.2 wr HR.out.c HR.out.ok
            go_wp2_with (go_at_call 14; (with_reducible refine q1.mono ?_))
            rintro e W5 ⟨rfl, A5, K5⟩
            have hlow := kept_below HR.out.low K5 HR.out.hg (Nat.le_refl _)
            have HZ := Lib.hid (show LvR w (W5.alloc (.cells #[.int .i64 0, .int .i64 0, .int .i64 0] 32)) g b 0 k lst from ⟨A5.alloc _, (HR.out.t.kept K5 HR.out.ne).alloc _, HR.out.ok, hlow.alloc hlow.size _, HR.out.hg, HR.out.hb, HR.out.ne, HR.out.le⟩)
            clear A5 K5 q1 hlow
            go_wp2
            go_roundw
            case rel => exact ⟨j + 1, _, _, by go_num, by omega, HZ⟩
            case measure => simp [intOf]; omega
          · obtain ⟨t, ht⟩ : ∃ t, tellS k = t := ⟨_, rfl⟩
            have HT : Hid (tickS k = t ∧ tickC k = ⟨k.r, t⟩ ∧ tickE k = 0) := by
              refine ⟨?_, ?_, ?_⟩
              · unfold tickS; rw [if_neg ho, ht]
              · unfold tickC; rw [if_neg ho, ht]
              · unfold tickE; rw [if_neg ho]
            have HOK : Hid (CkOk ⟨k.r, t⟩) := by show CkOk _; rw [← HT.out.2.1]; exact tickC_ok HR.out.ok
            have hle : k.s.w ≤ t.w := by rw [← ht]; exact tell_le k
            have HLE := Lib.hid (Int.le_trans HR.out.le hle)
            clear ho ht hle
            have q1 := tick_as g k t ⟨k.r, t⟩ 0 HT.out.1 HT.out.2.1 HT.out.2.2 wr HR.out.c HR.out.ok
            go_wp2_with (go_at_call 14; (with_reducible refine q1.mono ?_))
            rintro e W5 ⟨rfl, A5, K5⟩
            have T5 := (HR.out.t.kept K5 HR.out.ne).alloc (.cells #[.int .i64 t.w, .int .i64 t.l, .int .i64 t.n] 32)
            have T5' : (W5.alloc (.cells #[.int .i64 t.w, .int .i64 t.l, .int .i64 t.n] 32)).heap[b]? = some (.cells #[.int .i64 lst.w, .int .i64 lst.l, .int .i64 lst.n] 32 (0, 0)) := T5
            obtain ⟨y0, y1, y2, z0, z1, z2⟩ := box_cells T5'
            have hlow := (kept_below HR.out.low K5 HR.out.hg (Nat.le_refl _)).alloc (kept_below HR.out.low K5 HR.out.hg (Nat.le_refl _)).size (.cells #[.int .i64 t.w, .int .i64 t.l, .int .i64 t.n] 32)
            have HZ := Lib.hid (show LvR w _ g b 0 ⟨k.r, t⟩ t from ⟨CkAt.box (A5.alloc (.cells #[.int .i64 t.w, .int .i64 t.l, .int .i64 t.n] 32)) HR.out.ne.symm (.int .i64 t.w) (.int .i64 t.l) (.int .i64 t.n), T5.set t, HOK.out, below3 hlow HR.out.hb (.int .i64 t.w) (.int .i64 t.l) (.int .i64 t.n), HR.out.hg, HR.out.hb, HR.out.ne, by have : t.w + 0 = t.w := Int.add_zero _; rw [this]; exact Int.le_refl _⟩)
            clear A5 K5 q1 T5 T5' hlow
            go_wp2
            go_roundw
            case rel => exact ⟨j + 1, _, _, by go_num, by omega, HZ⟩
            case measure => simp [intOf]; omega
        · by_cases k3 : kd = 3
          · subst k3
            obtain ⟨kk, hkk⟩ : ∃ kk, mergeC s k = kk := ⟨_, rfl⟩
            obtain ⟨cc, hcc⟩ : ∃ cc, mergeE s k = cc := ⟨_, rfl⟩
            have q1 := merge_as g k s kk cc hkk hcc wr HR.out.c HR.out.ok
            have hok : CkOk kk := by rw [← hkk]; exact mergeC_ok HR.out.ok s
            have hle : k.s.w ≤ kk.s.w := by rw [← hkk]; exact merge_le s k
            clear hkk hcc
            go_wp2_with (go_at_call 16; (with_reducible refine q1.mono ?_))
            rintro e W5 ⟨rfl, A5, K5⟩
            have HZ := Lib.hid (show LvR w W5 g b 0 kk lst from ⟨A5, HR.out.t.kept K5 HR.out.ne, hok, kept_below HR.out.low K5 HR.out.hg (Nat.le_refl _), HR.out.hg, HR.out.hb, HR.out.ne, Int.le_trans HR.out.le hle⟩)
            clear A5 K5 q1 hok hle
            go_wp2
            go_roundw
            case rel => exact ⟨j + 1, _, _, by go_num, by omega, HZ⟩
            case measure => simp [intOf]; omega
          · have e1 : (kd == 1) = false := by simpa using k1
            have e2 : (kd == 2) = false := by simpa using k2
            have e3 : (kd == 3) = false := by simpa using k3
            have HZ := HR
            go_wp2
            go_roundw
            case rel => exact ⟨j + 1, _, _, by go_num, by omega, HZ⟩
            case measure => simp [intOf]; omega
    · obtain ⟨wx, hwx⟩ : ∃ wx, wx = wr := ⟨_, rfl⟩
      subst hwx
      have q1 := now_any g k wx HR.out.c
      go_wp2_with (go_at_call 18; (with_reducible refine q1.mono ?_))
      rintro e W1 ⟨rfl, b1⟩
      have HR1 := Lib.hid (show LvR w W1 g b 0 k lst from ⟨HR.out.c.later b1, HR.out.t.later b1, HR.out.ok, HR.out.low.trans (b1.mono HR.out.low.size), HR.out.hg, HR.out.hb, HR.out.ne, HR.out.le⟩)
      clear b1 q1 HR
      have w0 := HR1.out.ok.w0
      have hfld : ∀ V : World, (Instr.field 32 (.agg #[.int .i64 k.s.w, .int .i64 k.s.l, .int .i64 k.s.n]) 0).run Try.prog V = .ok (.int .i64 k.s.w) V := fun _ => by kernel_rfl
      by_cases hmx : 1125899906842624 ≤ k.s.w
      · go_wp2_with (go_at_call 9; (with_reducible refine (c6 _).mono ?_); rintro e W ⟨rfl, b⟩)
        go_ret
        exact ⟨rfl, HR1.out.low.trans (b.mono HR1.out.low.size)⟩
      · have q2 := now_any g k W1 HR1.out.c
        go_wp2_with (go_at_call 18; (with_reducible refine q2.mono ?_))
        rintro e W2 ⟨rfl, b2⟩
        have HR2 := Lib.hid (show LvR w W2 g b 0 k lst from ⟨HR1.out.c.later b2, HR1.out.t.later b2, HR1.out.ok, HR1.out.low.trans (b2.mono HR1.out.low.size), HR1.out.hg, HR1.out.hb, HR1.out.ne, HR1.out.le⟩)
        clear b2 q2
        obtain ⟨m, hm⟩ : ∃ m, W2.heap.size = m := ⟨_, rfl⟩
        have q3 := new_as' 1 (k.s.w + 1) (decide_eq_true (by omega)) W2 m hm
        have hbm : b < m := by rw [← hm]; exact lt_of_block HR2.out.t
        have HM := Lib.hid hm
        clear hm
        go_wp2_with (go_at_call 10; (with_reducible refine q3.mono ?_))
        rintro e W3 ⟨rfl, A3, B3⟩
        have HP0 : Hid (LvR w W3 m b 1 (newC 1 (k.s.w + 1)) lst) :=
          ⟨A3, HR2.out.t.later (by rw [HM.out]; exact B3), newC_ok (decide_eq_true (by omega)), HR2.out.low.trans (B3.mono (by have := HM.out; have := HR2.out.low.size; omega)), by have := HR2.out.hb; omega, HR2.out.hb, by omega, by have := HR2.out.le; show lst.w + 1 ≤ k.s.w + 1; omega⟩
        clear A3 B3 q3 HR1 HR2 HM hfld
        go_wp2
        go_loopw [13] (fun i wr => ∃ (j : Nat) (d : Ck) (lz : Sm), i = .int .i64 j ∧ j ≤ len1 ∧ Hid (LvR w wr m b 1 d lz)) (fun i _ => len1 - (intOf i).toNat)
        case atStart => exact ⟨0, _, _, rfl, Nat.zero_le _, HP0⟩
        case round =>
          obtain ⟨j, k, lst, rfl, hj, HR⟩ := hrel
          clear HP0
          by_cases hlt : j < len1
          · skip
            have hlt2 : j < HS1s.length := by rw [HS1.out.1]; exact hlt
            obtain ⟨x, hax, hst⟩ := HS1.out.at j hlt2
            subst hax
            obtain ⟨⟨kd, N, s⟩, hs⟩ : ∃ s, s = HS1s[j]'hlt2 := ⟨_, rfl⟩
            rw [← hs] at hst
            obtain ⟨c0, c1, c2, c3, c4⟩ := hst
            simp only at c0 c1 c2 c3 c4
            have f : ∀ {a : Addr} {u : Value}, w.cell? a = some u → wr.cell? a = some u := fun hc => (HR.out.low.cell (World.block_lt_of_cell? w _ hc)).trans hc
            have c0 := f c0
            have c1 := f c1
            have c2 := f c2
            have c3 := f c3
            have c4 := f c4
            rw [fld x (j * 5) 1 (by decide)] at c1
            rw [fld x (j * 5) 2 (by decide)] at c2
            rw [fld x (j * 5) 3 (by decide)] at c3
            rw [fld x (j * 5) 4 (by decide)] at c4
            have i1 : (0 : Int) ≤ (j : Int) := by omega
            have i2 : (j : Int) < (len1 : Int) := by omega
            clear hs f
            by_cases k1 : kd = 1
            · subst k1
              obtain ⟨kk, hkk⟩ : ∃ kk, readC N k = kk := ⟨_, rfl⟩
              have q1 := read_as m k N kk hkk wr HR.out.c HR.out.ok
              have hok : CkOk kk := by rw [← hkk]; exact readC_ok HR.out.ok N
              have hle : k.s.w ≤ kk.s.w := by rw [← hkk]; exact read_le N k
              clear hkk
              go_wp2_with (go_at_call 12; (with_reducible refine q1.mono ?_))
              rintro e W5 ⟨rfl, A5, K5⟩
              have HZ := Lib.hid (show LvR w W5 m b 1 kk lst from ⟨A5, HR.out.t.kept K5 HR.out.ne, hok, kept_below HR.out.low K5 HR.out.hg (Nat.le_refl _), HR.out.hg, HR.out.hb, HR.out.ne, Int.le_trans HR.out.le hle⟩)
              clear A5 K5 q1 hok hle
              go_wp2
              go_roundw
              case rel => exact ⟨j + 1, _, _, by go_num, by omega, HZ⟩
              case measure => simp [intOf]; omega
            · by_cases k2 : kd = 2
              · subst k2
                by_cases ho : overB k = true
                · have HT : Hid (tickS k = ⟨0, 0, 0⟩ ∧ tickC k = k ∧ tickE k = 7) := by
                    refine ⟨?_, ?_, ?_⟩
                    · unfold tickS; rw [if_pos ho]
                    · unfold tickC; rw [if_pos ho]
                    · unfold tickE; rw [if_pos ho]
                  clear ho
                  have q1 := tick_as m k ⟨0, 0, 0⟩ k 7 HT.out.1 HT.out.2.1 HT.out.2.2 wr HR.out.c HR.out.ok
                  go_wp2_with (go_at_call 14; (with_reducible refine q1.mono ?_))
                  rintro e W5 ⟨rfl, A5, K5⟩
                  have hlow := kept_below HR.out.low K5 HR.out.hg (Nat.le_refl _)
                  have HZ := Lib.hid (show LvR w (W5.alloc (.cells #[.int .i64 0, .int .i64 0, .int .i64 0] 32)) m b 1 k lst from ⟨A5.alloc _, (HR.out.t.kept K5 HR.out.ne).alloc _, HR.out.ok, hlow.alloc hlow.size _, HR.out.hg, HR.out.hb, HR.out.ne, HR.out.le⟩)
                  clear A5 K5 q1 hlow
                  go_wp2
                  go_roundw
                  case rel => exact ⟨j + 1, _, _, by go_num, by omega, HZ⟩
                  case measure => simp [intOf]; omega
                · obtain ⟨t, ht⟩ : ∃ t, tellS k = t := ⟨_, rfl⟩
                  have HT : Hid (tickS k = t ∧ tickC k = ⟨k.r, t⟩ ∧ tickE k = 0) := by
                    refine ⟨?_, ?_, ?_⟩
                    · unfold tickS; rw [if_neg ho, ht]
                    · unfold tickC; rw [if_neg ho, ht]
                    · unfold tickE; rw [if_neg ho]
                  have HOK : Hid (CkOk ⟨k.r, t⟩) := by show CkOk _; rw [← HT.out.2.1]; exact tickC_ok HR.out.ok
                  have hle : k.s.w ≤ t.w := by rw [← ht]; exact tell_le k
                  have HLE := Lib.hid (Int.le_trans HR.out.le hle)
                  clear ho ht hle
                  have q1 := tick_as m k t ⟨k.r, t⟩ 0 HT.out.1 HT.out.2.1 HT.out.2.2 wr HR.out.c HR.out.ok
                  go_wp2_with (go_at_call 14; (with_reducible refine q1.mono ?_))
                  rintro e W5 ⟨rfl, A5, K5⟩
                  have T5 := (HR.out.t.kept K5 HR.out.ne).alloc (.cells #[.int .i64 t.w, .int .i64 t.l, .int .i64 t.n] 32)
                  have T5' : (W5.alloc (.cells #[.int .i64 t.w, .int .i64 t.l, .int .i64 t.n] 32)).heap[b]? = some (.cells #[.int .i64 lst.w, .int .i64 lst.l, .int .i64 lst.n] 32 (0, 0)) := T5
                  obtain ⟨y0, y1, y2, z0, z1, z2⟩ := box_cells T5'
                  have hlow := (kept_below HR.out.low K5 HR.out.hg (Nat.le_refl _)).alloc (kept_below HR.out.low K5 HR.out.hg (Nat.le_refl _)).size (.cells #[.int .i64 t.w, .int .i64 t.l, .int .i64 t.n] 32)
                  have hL : lessB lst t = true := by
                    have := HLE.out
                    unfold lessB
                    rw [if_pos (by omega)]
                    exact decide_eq_true (by omega)
                  have c8 : Calls Try.prog 21 #[.agg #[.int .i64 lst.w, .int .i64 lst.l, .int .i64 lst.n], .agg #[.int .i64 t.w, .int .i64 t.l, .int .i64 t.n]] (W5.alloc (.cells #[.int .i64 t.w, .int .i64 t.l, .int .i64 t.n] 32)) (TelPost (.bool true) (W5.alloc (.cells #[.int .i64 t.w, .int .i64 t.l, .int .i64 t.n] 32))) := by
                    have := rLess_any lst t (W5.alloc (.cells #[.int .i64 t.w, .int .i64 t.l, .int .i64 t.n] 32))
                    rw [hL] at this
                    exact this
                  have HZ0 := Lib.hid (show LvR w (W5.alloc (.cells #[.int .i64 t.w, .int .i64 t.l, .int .i64 t.n] 32)) m b 1 ⟨k.r, t⟩ lst from ⟨A5.alloc _, T5, HOK.out, hlow, HR.out.hg, HR.out.hb, HR.out.ne, HLE.out⟩)
                  clear A5 K5 q1 T5 T5' hlow hL
                  go_wp2_with (go_at_call 21; (with_reducible refine c8.mono ?_))
                  rintro e W6 ⟨rfl, b6⟩
                  have HZ := Lib.hid (show LvR w W6 m b 1 ⟨k.r, t⟩ lst from ⟨HZ0.out.c.later b6, HZ0.out.t.later b6, HZ0.out.ok, HZ0.out.low.trans (b6.mono HZ0.out.low.size), HR.out.hg, HR.out.hb, HR.out.ne, HZ0.out.le⟩)
                  clear b6 c8 y0 y1 y2 z0 z1 z2
                  go_wp2
                  go_roundw
                  case rel => exact ⟨j + 1, _, _, by go_num, by omega, HZ⟩
                  case measure => simp [intOf]; omega
              · by_cases k3 : kd = 3
                · subst k3
                  obtain ⟨kk, hkk⟩ : ∃ kk, mergeC s k = kk := ⟨_, rfl⟩
                  obtain ⟨cc, hcc⟩ : ∃ cc, mergeE s k = cc := ⟨_, rfl⟩
                  have q1 := merge_as m k s kk cc hkk hcc wr HR.out.c HR.out.ok
                  have hok : CkOk kk := by rw [← hkk]; exact mergeC_ok HR.out.ok s
                  have hle : k.s.w ≤ kk.s.w := by rw [← hkk]; exact merge_le s k
                  clear hkk hcc
                  go_wp2_with (go_at_call 16; (with_reducible refine q1.mono ?_))
                  rintro e W5 ⟨rfl, A5, K5⟩
                  have HZ := Lib.hid (show LvR w W5 m b 1 kk lst from ⟨A5, HR.out.t.kept K5 HR.out.ne, hok, kept_below HR.out.low K5 HR.out.hg (Nat.le_refl _), HR.out.hg, HR.out.hb, HR.out.ne, Int.le_trans HR.out.le hle⟩)
                  clear A5 K5 q1 hok hle
                  go_wp2
                  go_roundw
                  case rel => exact ⟨j + 1, _, _, by go_num, by omega, HZ⟩
                  case measure => simp [intOf]; omega
                · have e1 : (kd == 1) = false := by simpa using k1
                  have e2 : (kd == 2) = false := by simpa using k2
                  have e3 : (kd == 3) = false := by simpa using k3
                  have HZ := HR
                  go_wp2
                  go_roundw
                  case rel => exact ⟨j + 1, _, _, by go_num, by omega, HZ⟩
                  case measure => simp [intOf]; omega
          · go_wp2_with (go_at_call 9; (with_reducible refine (c6 _).mono ?_); rintro e W ⟨rfl, b⟩)
            go_ret
            exact ⟨rfl, HR.out.low.trans (b.mono HR.out.low.size)⟩

end Go.Proofs.Ytnlpbldpbnlekaa
