/-
  ClockPlays: a round's parts.
-/
import Derived.Test.YtnlpbldpbnlekaaCkG
import Derived.Test.YtnlpbldpbnlekaaCkI
import Derived.Test.YtnlpbldpbnlekaaCkS
set_option linter.unusedVariables false
namespace Go.Proofs.Ytnlpbldpbnlekaa
open Go.RowKit

/-- Where a play stands: both clocks, alike. -/
structure PlR (w wr : World) (g m : Nat) (k : Ck) : Prop where
  c : CkAt wr g k
  r : RkAt wr m k
  ok : CkOk k
  low : Below w.heap.size w wr
  hg : w.heap.size ≤ g
  hm : w.heap.size ≤ m
  ne : g ≠ m

def RNewAs (g : Nat) (node floor : Int) (w : World) (e : Ending) (w' : World) : Prop := e = .returned (.tuple #[.pointer (some ⟨g, 0, none⟩), .int .i64 0]) ∧ RkAt w' g (newC node floor) ∧ Below g w w'
theorem rNew_as (node floor : Int) (h : newB node floor = true) (w : World) (g : Nat) (hg : w.heap.size = g) : Calls Try.prog 11 #[.int .i64 node, .int .i64 floor] w (RNewAs g node floor w) := by
  subst hg
  exact rNew_yes node floor h w
def NewAs (g : Nat) (node floor : Int) (w : World) (e : Ending) (w' : World) : Prop := e = .returned (.tuple #[.pointer (some ⟨g, 0, none⟩), .int .i64 0]) ∧ CkAt w' g (newC node floor) ∧ Below g w w'
theorem new_as' (node floor : Int) (h : newB node floor = true) (w : World) (g : Nat) (hg : w.heap.size = g) : Calls Try.prog 10 #[.int .i64 node, .int .i64 floor] w (NewAs g node floor w) := new_as node floor h w g hg

theorem PlR.both {w wr W V : World} {g m : Nat} {k k' : Ck} (h : PlR w wr g m k) (a : CkAt W g k') (ka : Kept (fun i => i = g) wr W) (b : RkAt V m k') (kb : Kept (fun i => i = m) W V) (hk : CkOk k') : PlR w V g m k' :=
  ⟨a.kept kb h.ne, b, hk, kept_below (kept_below h.low ka h.hg (Nat.le_refl _)) kb h.hm (Nat.le_refl _), h.hg, h.hm, h.ne⟩
theorem Kept.of_drew {S : Nat → Prop} {w w' : World} (h : Kept S w.drew w') : Kept S w w' := ⟨h.os, h.tape, h.output, h.size, h.block⟩
theorem PlR.mid {w wr W : World} {g m : Nat} {k : Ck} (h : PlR w wr g m k) (ka : Kept (fun i => i = g) wr W) : RkAt W m k := h.r.kept ka h.ne.symm
theorem PlR.later {w wr W : World} {g m : Nat} {k : Ck} (h : PlR w wr g m k) (b : Below wr.heap.size wr W) : PlR w W g m k :=
  ⟨h.c.later b, h.r.later b, h.ok, h.low.trans (b.mono h.low.size), h.hg, h.hm, h.ne⟩

theorem keepP {w V W : World} {g m : Nat} {k : Ck} (h : Below w.heap.size w V ∧ CkAt V g k ∧ RkAt V m k ∧ V.cell? ⟨m, 3, none⟩ = some (.int .i64 k.r)) (hb : Below V.heap.size V W) :
    Below w.heap.size w W ∧ CkAt W g k ∧ RkAt W m k ∧ W.cell? ⟨m, 3, none⟩ = some (.int .i64 k.r) :=
  ⟨h.1.trans (hb.mono h.1.size), h.2.1.later hb, h.2.2.1.later hb, (hb.cell (World.block_lt_of_cell? _ _ h.2.2.2)).trans h.2.2.2⟩

set_option maxRecDepth 100000 in
theorem eq_stamp (a b : Sm) (W : World) :
    (Op.equalIn 10000 32 (.agg #[.int .i64 a.w, .int .i64 a.l, .int .i64 a.n]) (.agg #[.int .i64 b.w, .int .i64 b.l, .int .i64 b.n])).run Try.prog W = .ok (decide (a = b)) W := by
  by_cases h1 : a.w = b.w
  · have f1 : (a.w == b.w) = true := by simpa using h1
    by_cases h2 : a.l = b.l
    · have f2 : (a.l == b.l) = true := by simpa using h2
      by_cases h3 : a.n = b.n
      · have f3 : (a.n == b.n) = true := by simpa using h3
        rw [decide_eq_true (Sm.ext' h1 h2 h3)]
        simp [go_sem, f1, f2, f3]
      · have f3 : (a.n == b.n) = false := by simpa using h3
        rw [decide_eq_false (fun e => h3 (by rw [e]))]
        simp [go_sem, f1, f2, f3]
    · have f2 : (a.l == b.l) = false := by simpa using h2
      rw [decide_eq_false (fun e => h2 (by rw [e]))]
      simp [go_sem, f1, f2]
  · have f1 : (a.w == b.w) = false := by simpa using h1
    rw [decide_eq_false (fun e => h1 (by rw [e]))]
    simp [go_sem, f1]

theorem kept_cell {w V V' : World} {b : Nat} {p : Addr} {u : Value} (hp : p.block < w.heap.size) (hb : w.heap.size ≤ b) (hV : w.heap.size ≤ V.heap.size) (hk : Kept (fun i => i = b) V V') (h : V.cell? p = some u) : V'.cell? p = some u :=
  (hk.cell (Nat.lt_of_lt_of_le hp hV) (fun e => by have e2 : p.block = b := e; omega)).trans h
theorem kept_cell2 {w V V' : World} {b bl o : Nat} {u : Value} (hp : bl < w.heap.size) (hb : w.heap.size ≤ b) (hV : w.heap.size ≤ V.heap.size) (hk : Kept (fun i => i = b) V V') (h : V.cell? ⟨bl, o, none⟩ = some u) : V'.cell? ⟨bl, o, none⟩ = some u :=
  kept_cell (p := ⟨bl, o, none⟩) hp hb hV hk h
theorem rRead_as (g : Nat) (k : Ck) (n : Int) (k' : Ck) (hk' : readC n k = k') (w : World) (h : RkAt w g k) (hk : CkOk k) :
    Calls Try.prog 13 #[.pointer (some ⟨g, 0, none⟩), .int .i64 n] w (RkPost g k' (.tuple #[]) w) := by
  subst hk'
  exact rRead_any g k n w h hk
def RTickAs (g : Nat) (s : Sm) (k' : Ck) (c : Int) (w : World) (e : Ending) (w' : World) : Prop :=
  e = .returned (.tuple #[.agg #[.int .i64 s.w, .int .i64 s.l, .int .i64 s.n], .int .i64 c]) ∧ RkAt w' g k' ∧ Kept (fun i => i = g) w w'
theorem rTick_as (g : Nat) (k : Ck) (s : Sm) (k' : Ck) (c : Int) (hs : tickS k = s) (hk' : tickC k = k') (hc : tickE k = c) (w : World) (h : RkAt w g k) (hk : CkOk k) :
    Calls Try.prog 15 #[.pointer (some ⟨g, 0, none⟩)] w (RTickAs g s k' c w) := by
  subst hs hk' hc
  exact rTick_any g k w h hk
theorem rMerge_as (g : Nat) (k : Ck) (s : Sm) (k' : Ck) (c : Int) (hk' : mergeC s k = k') (hc : mergeE s k = c) (w : World) (h : RkAt w g k) (hk : CkOk k) :
    Calls Try.prog 17 #[.pointer (some ⟨g, 0, none⟩), .agg #[.int .i64 s.w, .int .i64 s.l, .int .i64 s.n]] w (RkPost g k' (.int .i64 c) w) := by
  subst hk' hc
  exact rMerge_any g k s w h hk
theorem RkAt.alloc {w : World} {b : Nat} {k : Ck} (h : RkAt w b k) (o : Obj) : RkAt (w.alloc o) b k := box_alloc h o

set_option maxHeartbeats 16000000 in
set_option maxRecDepth 100000 in
theorem ClockPlays_body (a0 a1 : Int) (a2 : Option Addr) (len2 cap2 : Nat) (ss : List St) (w : World) (h : StepsIn w a2 len2 ss) (hlen : len2 ≤ maxLen) :
    Calls Try.prog 3 #[.int .i64 a0, .int .i64 a1, .slice a2 len2 cap2] w (TelPost (.bool true) w) := by
  unfold maxLen at hlen
  have c6 := fun wx => awake_any wx
  unfold TelPost at c6
  by_cases hbig : 300 < len2
  · have j1 : (300 : Int) < (len2 : Int) := by omega
    go_enter Try.func3, Try.ntmps3
    go_wp2_with (go_at_call 9; (with_reducible refine (c6 _).mono ?_); rintro e W ⟨rfl, b⟩)
    go_ret
    exact ⟨rfl, b⟩
  have j1 : ¬ (300 : Int) < (len2 : Int) := by omega
  have HS := Lib.hid h
  clear h
  cases hn : newB a0 a1 with
  | false =>
    have c1 := fun wx => new_no a0 a1 hn wx
    have c2 := fun wx => rNew_no a0 a1 hn wx
    clear hn
    go_enter Try.func3, Try.ntmps3
    go_wp2_with (first
      | (go_at_call 10; (with_reducible refine (c1 _).mono ?_); rintro e W ⟨rfl, rfl⟩)
      | (go_at_call 11; (with_reducible refine (c2 _).mono ?_); rintro e W ⟨rfl, rfl⟩)
      | (go_at_call 9; (with_reducible refine (c6 _).mono ?_); rintro e W ⟨rfl, b⟩))
    go_ret
    exact ⟨rfl, b⟩
  | true =>
    obtain ⟨g, hg⟩ : ∃ g, w.heap.size = g := ⟨_, rfl⟩
    have HG := Lib.hid hg
    have cN := new_as' a0 a1 hn w g hg
    clear hg
    go_enter Try.func3, Try.ntmps3
    go_wp2_with (go_at_call 10; (with_reducible refine cN.mono ?_))
    rintro e W0 ⟨rfl, A0, B0⟩
    obtain ⟨m, hm⟩ : ∃ m, W0.heap.size = m := ⟨_, rfl⟩
    have cM := rNew_as a0 a1 hn W0 m hm
    have hgm : g < m := by rw [← hm]; exact lt_of_block A0
    have HA0 := Lib.hid A0
    have HB0 := Lib.hid B0
    have HM := Lib.hid hm
    clear A0 B0 cN hm
    go_wp2_with (go_at_call 11; (with_reducible refine cM.mono ?_))
    rintro e W1 ⟨rfl, R1, B1⟩
    have HP0 : Hid (PlR w W1 g m (newC a0 a1)) := ⟨(by have := HM.out; exact HA0.out.later (by rw [this]; exact B1)), R1, newC_ok hn, by rw [HG.out]; exact HB0.out.trans (B1.mono (by omega)), by rw [HG.out]; exact Nat.le_refl _, by rw [HG.out]; omega, by omega⟩
    clear R1 B1 cM hn
    go_wp2
    go_loopw [11] (fun i wr => ∃ (j : Nat) (k : Ck), i = .int .i64 j ∧ j ≤ len2 ∧ Hid (PlR w wr g m k)) (fun i _ => len2 - (intOf i).toNat)
    case atStart => exact ⟨0, _, rfl, Nat.zero_le _, HP0⟩
    case round =>
      obtain ⟨j, k, rfl, hj, HR⟩ := hrel
      clear HP0
      by_cases hlt : j < len2
      · have hlt2 : j < ss.length := by rw [HS.out.1]; exact hlt
        obtain ⟨x, hax, hst⟩ := HS.out.at j hlt2
        subst hax
        obtain ⟨⟨kd, N, s⟩, hs⟩ : ∃ s, s = ss[j]'hlt2 := ⟨_, rfl⟩
        rw [← hs] at hst
        obtain ⟨c0, c1, c2, c3, c4⟩ := hst
        simp only at c0 c1 c2 c3 c4
        have f : ∀ {a : Addr} {u : Value}, w.cell? a = some u → wr.cell? a = some u := fun hc => (HR.out.low.cell (World.block_lt_of_cell? w _ hc)).trans hc
        have hx0 := World.block_lt_of_cell? w _ c0
        have c0 := f c0
        have c1 := f c1
        have c2 := f c2
        have c3 := f c3
        have c4 := f c4
        rw [fld x (j * 5) 1 (by decide)] at c1
        rw [fld x (j * 5) 2 (by decide)] at c2
        rw [fld x (j * 5) 3 (by decide)] at c3
        rw [fld x (j * 5) 4 (by decide)] at c4
        have i1 : (0 : Int) ≤ (j : Int) := by omega
        have i2 : (j : Int) < (len2 : Int) := by omega
        clear hs f
        have hx1 : (x.add (j * 5)).block < w.heap.size := hx0
        by_cases k1 : kd = 1
        · subst k1
          obtain ⟨kk, hkk⟩ : ∃ kk, readC N k = kk := ⟨_, rfl⟩
          have q1 := read_as g k N kk hkk wr HR.out.c HR.out.ok
          have hok : CkOk kk := by rw [← hkk]; exact readC_ok HR.out.ok N
          go_wp2_with (go_at_call 12; (with_reducible refine q1.mono ?_))
          rintro e W5 ⟨rfl, A5, K5⟩
          have d1 := kept_cell2 hx1 HR.out.hg HR.out.low.size K5 c1
          have d0 := kept_cell (p := x.add (j * 5)) hx1 HR.out.hg HR.out.low.size K5 c0
          have q2 := rRead_as m k N kk hkk W5 (HR.out.mid K5) HR.out.ok
          have HA5 := Lib.hid A5
          have HK5 := Lib.hid K5
          clear A5 K5 q1 c0 c1 c2 c3 c4
          go_wp2_with (go_at_call 13; (with_reducible refine q2.mono ?_))
          rintro e W6 ⟨rfl, R6, K6⟩
          have HP := Lib.hid (HR.out.both HA5.out HK5.out R6 K6 hok)
          clear R6 K6 q2 d0 d1 hok hkk
          have d3 : W6.cell? ⟨m, 3, none⟩ = some (.int .i64 kk.r) := (four_cells HP.out.r).2.2.2.1
          have HS4 := Lib.hid (show Below w.heap.size w W6.drew ∧ CkAt W6.drew g kk ∧ RkAt W6.drew m kk ∧ W6.drew.cell? ⟨m, 3, none⟩ = some (.int .i64 kk.r) from ⟨HP.out.low.drew, HP.out.c, HP.out.r, d3⟩)
          have C4 := Lib.hid (fun wx (h : CkAt wx g kk) => now_any g kk wx h)
          have C5 := Lib.hid (fun wx (h : RkAt wx m kk) => rNow_any m kk wx h)
          have C7 := Lib.hid (fun wx (h : CkAt wx g kk) => reading_any g kk wx h)
          have hE : ∀ V, (Op.equalIn 10000 32 (.agg #[.int .i64 kk.s.w, .int .i64 kk.s.l, .int .i64 kk.s.n]) (.agg #[.int .i64 kk.s.w, .int .i64 kk.s.l, .int .i64 kk.s.n])).run Try.prog V = .ok true V := fun V => by rw [eq_stamp, decide_eq_true rfl]
          have hrr : (kk.r != kk.r) = false := by simp
          go_wp2_with fail
          go_region_held3 (fun w' => Below w.heap.size w w' ∧ CkAt w' g kk ∧ RkAt w' m kk ∧ w'.cell? ⟨m, 3, none⟩ = some (.int .i64 kk.r))
            (first | exact HS4.out | exact hs6 | exact hs5 | exact keepP (by assumption) (Below.refl _ _).drew | go_keep)
            (first
              | (go_at_call 18; (with_reducible refine (C4.out _ (And.left (And.right (by assumption)))).mono ?_); rintro e W8 ⟨rfl, b5⟩; have hs5 := keepP (by assumption) b5)
              | (go_at_call 19; (with_reducible refine (C5.out _ (And.left (And.right (And.right (by assumption))))).mono ?_); rintro e W9 ⟨rfl, b6⟩; have hs6 := keepP (by assumption) b6)
              | (go_at_call 20; (with_reducible refine (C7.out _ (And.left (And.right (by assumption)))).mono ?_); rintro e W10 ⟨rfl, rfl⟩))
          all_goals (
            have HZ := Lib.hid (show PlR w _ g m kk from ⟨hs6.2.1, hs6.2.2.1, HP.out.ok, hs6.1, HP.out.hg, HP.out.hm, HP.out.ne⟩)
            go_wp2
            go_roundw
            case rel => exact ⟨j + 1, kk, by go_num, by omega, HZ⟩
            case measure => simp [intOf]; omega)
        · by_cases k2 : kd = 2
          · subst k2
            obtain ⟨kk, hkk⟩ : ∃ kk, tickC k = kk := ⟨_, rfl⟩
            obtain ⟨t, ht⟩ : ∃ t, tickS k = t := ⟨_, rfl⟩
            obtain ⟨cc, hcc⟩ : ∃ cc, tickE k = cc := ⟨_, rfl⟩
            have q1 := tick_as g k t kk cc ht hkk hcc wr HR.out.c HR.out.ok
            have hok : CkOk kk := by rw [← hkk]; exact tickC_ok HR.out.ok
            clear c1 c2 c3 c4
            go_wp2_with (go_at_call 14; (with_reducible refine q1.mono ?_))
            rintro e W5 ⟨rfl, A5, K5⟩
            have q2 := rTick_as m k t kk cc ht hkk hcc (W5.alloc (.cells #[.int .i64 t.w, .int .i64 t.l, .int .i64 t.n] 32)) ((HR.out.mid K5).alloc _) HR.out.ok
            have hz5 : m < W5.heap.size := lt_of_block (HR.out.mid K5)
            have HX5 := Lib.hid (Bx.new W5 t)
            have HA5 := Lib.hid (A5.alloc (.cells #[.int .i64 t.w, .int .i64 t.l, .int .i64 t.n] 32))
            have HK5 := Lib.hid (K5.alloc (.cells #[.int .i64 t.w, .int .i64 t.l, .int .i64 t.n] 32))
            clear A5 K5 q1
            go_wp2_with (go_at_call 15; (with_reducible refine q2.mono ?_))
            rintro e W6 ⟨rfl, R6, K6⟩
            have X6 : (W6.alloc (.cells #[.int .i64 t.w, .int .i64 t.l, .int .i64 t.n] 32)).heap[W5.heap.size]? = some (.cells #[.int .i64 t.w, .int .i64 t.l, .int .i64 t.n] 32 (0, 0)) := (HX5.out.kept K6 (ne_gt (by omega))).alloc _
            obtain ⟨x0, x1, x2, _⟩ := box_cells X6
            have HP := Lib.hid ((HR.out.both HA5.out HK5.out R6 K6 hok).later ((Below.refl _ _).alloc (Nat.le_refl _) (.cells #[.int .i64 t.w, .int .i64 t.l, .int .i64 t.n] 32)))
            have hE1 : ∀ V, (Op.equalIn 10000 32 (.agg #[.int .i64 t.w, .int .i64 t.l, .int .i64 t.n]) (.agg #[.int .i64 t.w, .int .i64 t.l, .int .i64 t.n])).run Try.prog V = .ok true V := fun V => by rw [eq_stamp, decide_eq_true rfl]
            have hcE : (cc != cc) = false := by simp
            clear R6 K6 q2 hok hkk ht hcc X6 c0
            have d3 : (W6.alloc (.cells #[.int .i64 t.w, .int .i64 t.l, .int .i64 t.n] 32)).cell? ⟨m, 3, none⟩ = some (.int .i64 kk.r) := (four_cells HP.out.r).2.2.2.1
            have HS4 := Lib.hid (show Below w.heap.size w (W6.alloc (.cells #[.int .i64 t.w, .int .i64 t.l, .int .i64 t.n] 32)).drew ∧ CkAt (W6.alloc (.cells #[.int .i64 t.w, .int .i64 t.l, .int .i64 t.n] 32)).drew g kk ∧ RkAt (W6.alloc (.cells #[.int .i64 t.w, .int .i64 t.l, .int .i64 t.n] 32)).drew m kk ∧ (W6.alloc (.cells #[.int .i64 t.w, .int .i64 t.l, .int .i64 t.n] 32)).drew.cell? ⟨m, 3, none⟩ = some (.int .i64 kk.r) from ⟨HP.out.low.drew, HP.out.c, HP.out.r, d3⟩)
            have C4 := Lib.hid (fun wx (h : CkAt wx g kk) => now_any g kk wx h)
            have C5 := Lib.hid (fun wx (h : RkAt wx m kk) => rNow_any m kk wx h)
            have C7 := Lib.hid (fun wx (h : CkAt wx g kk) => reading_any g kk wx h)
            have hE : ∀ V, (Op.equalIn 10000 32 (.agg #[.int .i64 kk.s.w, .int .i64 kk.s.l, .int .i64 kk.s.n]) (.agg #[.int .i64 kk.s.w, .int .i64 kk.s.l, .int .i64 kk.s.n])).run Try.prog V = .ok true V := fun V => by rw [eq_stamp, decide_eq_true rfl]
            have hrr : (kk.r != kk.r) = false := by simp
            go_wp2_with fail
            go_region_held3 (fun w' => Below w.heap.size w w' ∧ CkAt w' g kk ∧ RkAt w' m kk ∧ w'.cell? ⟨m, 3, none⟩ = some (.int .i64 kk.r))
              (first | exact HS4.out | exact hs6 | exact hs5 | exact keepP (by assumption) (Below.refl _ _).drew | go_keep)
              (first
                | (go_at_call 18; (with_reducible refine (C4.out _ (And.left (And.right (by assumption)))).mono ?_); rintro e W8 ⟨rfl, b5⟩; have hs5 := keepP (by assumption) b5)
                | (go_at_call 19; (with_reducible refine (C5.out _ (And.left (And.right (And.right (by assumption))))).mono ?_); rintro e W9 ⟨rfl, b6⟩; have hs6 := keepP (by assumption) b6)
                | (go_at_call 20; (with_reducible refine (C7.out _ (And.left (And.right (by assumption)))).mono ?_); rintro e W10 ⟨rfl, rfl⟩))
            all_goals (
              have HZ := Lib.hid (show PlR w _ g m kk from ⟨hs6.2.1, hs6.2.2.1, HP.out.ok, hs6.1, HP.out.hg, HP.out.hm, HP.out.ne⟩)
              go_wp2
              go_roundw
              case rel => exact ⟨j + 1, kk, by go_num, by omega, HZ⟩
              case measure => simp [intOf]; omega)
          · by_cases k3 : kd = 3
            · subst k3
              obtain ⟨kk, hkk⟩ : ∃ kk, mergeC s k = kk := ⟨_, rfl⟩
              obtain ⟨cc, hcc⟩ : ∃ cc, mergeE s k = cc := ⟨_, rfl⟩
              have q1 := (merge_as g k s kk cc hkk hcc wr.drew HR.out.c HR.out.ok).mono (fun e w' hp => (show e = .returned (.int .i64 cc) ∧ (CkAt w' g kk ∧ Kept (fun i => i = g) wr w') ∧ (w'.cell? ⟨(x.add (j * 5)).block, (x.add (j * 5)).off + 2, none⟩ = some (.int .i64 s.w) ∧ w'.cell? ⟨(x.add (j * 5)).block, (x.add (j * 5)).off + 3, none⟩ = some (.int .i64 s.l) ∧ w'.cell? ⟨(x.add (j * 5)).block, (x.add (j * 5)).off + 4, none⟩ = some (.int .i64 s.n)) from ⟨hp.1, ⟨hp.2.1, hp.2.2.of_drew⟩, kept_cell2 hx1 HR.out.hg HR.out.low.size hp.2.2.of_drew c2, kept_cell2 hx1 HR.out.hg HR.out.low.size hp.2.2.of_drew c3, kept_cell2 hx1 HR.out.hg HR.out.low.size hp.2.2.of_drew c4⟩))
              have Q2 := Lib.hid (fun (W6 : World) (hk : CkAt W6 g kk ∧ Kept (fun i => i = g) wr W6) (hc : W6.cell? ⟨(x.add (j * 5)).block, (x.add (j * 5)).off + 2, none⟩ = some (.int .i64 s.w) ∧ W6.cell? ⟨(x.add (j * 5)).block, (x.add (j * 5)).off + 3, none⟩ = some (.int .i64 s.l) ∧ W6.cell? ⟨(x.add (j * 5)).block, (x.add (j * 5)).off + 4, none⟩ = some (.int .i64 s.n)) => (rMerge_as m k s kk cc hkk hcc W6 (HR.out.mid hk.2) HR.out.ok).mono (fun e w' hp => (show e = .returned (.int .i64 cc) ∧ (RkAt w' m kk ∧ Kept (fun i => i = m) W6 w') ∧ (w'.cell? ⟨(x.add (j * 5)).block, (x.add (j * 5)).off + 2, none⟩ = some (.int .i64 s.w) ∧ w'.cell? ⟨(x.add (j * 5)).block, (x.add (j * 5)).off + 3, none⟩ = some (.int .i64 s.l) ∧ w'.cell? ⟨(x.add (j * 5)).block, (x.add (j * 5)).off + 4, none⟩ = some (.int .i64 s.n)) from ⟨hp.1, hp.2, kept_cell2 hx1 HR.out.hm (Nat.le_trans HR.out.low.size hk.2.size) hp.2.2 hc.1, kept_cell2 hx1 HR.out.hm (Nat.le_trans HR.out.low.size hk.2.size) hp.2.2 hc.2.1, kept_cell2 hx1 HR.out.hm (Nat.le_trans HR.out.low.size hk.2.size) hp.2.2 hc.2.2⟩)))
              have hok : CkOk kk := by rw [← hkk]; exact mergeC_ok HR.out.ok s
              have hcE : (cc != cc) = false := by simp
              have HC := Lib.hid (show wr.drew.cell? ⟨(x.add (j * 5)).block, (x.add (j * 5)).off + 2, none⟩ = some (.int .i64 s.w) ∧ wr.drew.cell? ⟨(x.add (j * 5)).block, (x.add (j * 5)).off + 3, none⟩ = some (.int .i64 s.l) ∧ wr.drew.cell? ⟨(x.add (j * 5)).block, (x.add (j * 5)).off + 4, none⟩ = some (.int .i64 s.n) from ⟨c2, c3, c4⟩)
              go_wp2_with fail
              go_region_held3 (fun w' => w'.cell? ⟨(x.add (j * 5)).block, (x.add (j * 5)).off + 2, none⟩ = some (.int .i64 s.w) ∧ w'.cell? ⟨(x.add (j * 5)).block, (x.add (j * 5)).off + 3, none⟩ = some (.int .i64 s.l) ∧ w'.cell? ⟨(x.add (j * 5)).block, (x.add (j * 5)).off + 4, none⟩ = some (.int .i64 s.n))
                (first | exact HC.out | exact e6 | exact e7 | go_keep)
                (first
                  | (go_at_call 16; refine q1.mono ?_; rintro e W6 ⟨rfl, H6, e6⟩)
                  | (go_at_call 17; refine (Q2.out _ H6 e6).mono ?_; rintro e W7 ⟨rfl, H7, e7⟩))
              have HP := Lib.hid (HR.out.both H6.1 H6.2 H7.1 H7.2 hok)
              clear H6 H7 q1 Q2 hok hkk hcc e6 e7 HC c0 c1 c2 c3 c4
              have d3 : W7.cell? ⟨m, 3, none⟩ = some (.int .i64 kk.r) := (four_cells HP.out.r).2.2.2.1
              have HS4 := Lib.hid (show Below w.heap.size w W7.drew ∧ CkAt W7.drew g kk ∧ RkAt W7.drew m kk ∧ W7.drew.cell? ⟨m, 3, none⟩ = some (.int .i64 kk.r) from ⟨HP.out.low.drew, HP.out.c, HP.out.r, d3⟩)
              have C4 := Lib.hid (fun wx (h : CkAt wx g kk) => now_any g kk wx h)
              have C5 := Lib.hid (fun wx (h : RkAt wx m kk) => rNow_any m kk wx h)
              have C7 := Lib.hid (fun wx (h : CkAt wx g kk) => reading_any g kk wx h)
              have hE : ∀ V, (Op.equalIn 10000 32 (.agg #[.int .i64 kk.s.w, .int .i64 kk.s.l, .int .i64 kk.s.n]) (.agg #[.int .i64 kk.s.w, .int .i64 kk.s.l, .int .i64 kk.s.n])).run Try.prog V = .ok true V := fun V => by rw [eq_stamp, decide_eq_true rfl]
              have hrr : (kk.r != kk.r) = false := by simp
              go_wp2_with fail
              go_region_held3 (fun w' => Below w.heap.size w w' ∧ CkAt w' g kk ∧ RkAt w' m kk ∧ w'.cell? ⟨m, 3, none⟩ = some (.int .i64 kk.r))
                (first | exact HS4.out | exact hs6 | exact hs5 | exact keepP (by assumption) (Below.refl _ _).drew | go_keep)
                (first
                  | (go_at_call 18; (with_reducible refine (C4.out _ (And.left (And.right (by assumption)))).mono ?_); rintro e W8 ⟨rfl, b5⟩; have hs5 := keepP (by assumption) b5)
                  | (go_at_call 19; (with_reducible refine (C5.out _ (And.left (And.right (And.right (by assumption))))).mono ?_); rintro e W9 ⟨rfl, b6⟩; have hs6 := keepP (by assumption) b6)
                  | (go_at_call 20; (with_reducible refine (C7.out _ (And.left (And.right (by assumption)))).mono ?_); rintro e W10 ⟨rfl, rfl⟩))
              all_goals (
                have HZ := Lib.hid (show PlR w _ g m kk from ⟨hs6.2.1, hs6.2.2.1, HP.out.ok, hs6.1, HP.out.hg, HP.out.hm, HP.out.ne⟩)
                go_wp2
                go_roundw
                case rel => exact ⟨j + 1, kk, by go_num, by omega, HZ⟩
                case measure => simp [intOf]; omega)
            · have e1 : (kd == 1) = false := by simpa using k1
              have e2 : (kd == 2) = false := by simpa using k2
              have e3 : (kd == 3) = false := by simpa using k3
              have HP := HR
              have d3 : wr.cell? ⟨m, 3, none⟩ = some (.int .i64 k.r) := (four_cells HP.out.r).2.2.2.1
              have HS4 := Lib.hid (show Below w.heap.size w wr.drew ∧ CkAt wr.drew g k ∧ RkAt wr.drew m k ∧ wr.drew.cell? ⟨m, 3, none⟩ = some (.int .i64 k.r) from ⟨HP.out.low.drew, HP.out.c, HP.out.r, d3⟩)
              have C4 := Lib.hid (fun wx (h : CkAt wx g k) => now_any g k wx h)
              have C5 := Lib.hid (fun wx (h : RkAt wx m k) => rNow_any m k wx h)
              have C7 := Lib.hid (fun wx (h : CkAt wx g k) => reading_any g k wx h)
              have hE : ∀ V, (Op.equalIn 10000 32 (.agg #[.int .i64 k.s.w, .int .i64 k.s.l, .int .i64 k.s.n]) (.agg #[.int .i64 k.s.w, .int .i64 k.s.l, .int .i64 k.s.n])).run Try.prog V = .ok true V := fun V => by rw [eq_stamp, decide_eq_true rfl]
              have hrr : (k.r != k.r) = false := by simp
              go_wp2_with fail
              go_region_held3 (fun w' => Below w.heap.size w w' ∧ CkAt w' g k ∧ RkAt w' m k ∧ w'.cell? ⟨m, 3, none⟩ = some (.int .i64 k.r))
                (first | exact HS4.out | exact hs6 | exact hs5 | exact keepP (by assumption) (Below.refl _ _).drew | go_keep)
                (first
                  | (go_at_call 18; (with_reducible refine (C4.out _ (And.left (And.right (by assumption)))).mono ?_); rintro e W8 ⟨rfl, b5⟩; have hs5 := keepP (by assumption) b5)
                  | (go_at_call 19; (with_reducible refine (C5.out _ (And.left (And.right (And.right (by assumption))))).mono ?_); rintro e W9 ⟨rfl, b6⟩; have hs6 := keepP (by assumption) b6)
                  | (go_at_call 20; (with_reducible refine (C7.out _ (And.left (And.right (by assumption)))).mono ?_); rintro e W10 ⟨rfl, rfl⟩))
              all_goals (
                have HZ := Lib.hid (show PlR w _ g m k from ⟨hs6.2.1, hs6.2.2.1, HP.out.ok, hs6.1, HP.out.hg, HP.out.hm, HP.out.ne⟩)
                go_wp2
                go_roundw
                case rel => exact ⟨j + 1, k, by go_num, by omega, HZ⟩
                case measure => simp [intOf]; omega)
      · go_wp2_with (go_at_call 9; (with_reducible refine (c6 _).mono ?_); rintro e W ⟨rfl, b⟩)
        go_ret
        exact ⟨rfl, HR.out.low.trans (b.mono HR.out.low.size)⟩

end Go.Proofs.Ytnlpbldpbnlekaa
