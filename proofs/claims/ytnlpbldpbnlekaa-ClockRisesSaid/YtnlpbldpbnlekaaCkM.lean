/-
  ClockRises.
-/
import Derived.Test.YtnlpbldpbnlekaaCkL
import Derived.Deep.RegionHeld3
set_option linter.unusedVariables false
namespace Go.Proofs.Ytnlpbldpbnlekaa
open Go.RowKit

/-- Where a run of ClockRises stands: the clock, and the greatest of what was told or taken in, by its numbers the clock's own. -/
structure RiR (w wr : World) (g b : Nat) (nd : Int) (k : Ck) (tp : Sm) : Prop where
  c : CkAt wr g k
  t : Bx wr b tp
  ok : CkOk k
  low : Below w.heap.size w wr
  hg : w.heap.size ≤ g
  hb : w.heap.size ≤ b
  ne : b ≠ g
  ew : k.s.w = tp.w
  el : k.s.l = tp.l
  en : k.s.n = nd

theorem rises_out (a0 a1 : Int) (a2 : Option Addr) (len2 cap2 : Nat) (w : World) (hlen : len2 ≤ 300) (h : ¬ (1 ≤ a0 ∧ a0 ≤ 5 ∧ 0 ≤ a1 ∧ a1 ≤ 1099511627776)) :
    Calls Try.prog 4 #[.int .i64 a0, .int .i64 a1, .slice a2 len2 cap2] w (TelPost (.bool true) w) := by
  have c6 := awake_any w
  have j1 : ¬ (300 : Int) < (len2 : Int) := by omega
  by_cases h1 : 1 ≤ a0
  · by_cases h2 : a0 ≤ 5
    · by_cases h3 : 0 ≤ a1
      · have h4 : ¬ a1 ≤ 1099511627776 := fun e => h ⟨h1, h2, h3, e⟩
        clear h
        go_enter Try.func4, Try.ntmps4
        go_wp2_with (go_at_call 9; (with_reducible refine c6.mono ?_); rintro e W ⟨rfl, b⟩)
        go_ret
        exact ⟨rfl, b⟩
      · clear h
        go_enter Try.func4, Try.ntmps4
        go_wp2_with (go_at_call 9; (with_reducible refine c6.mono ?_); rintro e W ⟨rfl, b⟩)
        go_ret
        exact ⟨rfl, b⟩
    · clear h
      go_enter Try.func4, Try.ntmps4
      go_wp2_with (go_at_call 9; (with_reducible refine c6.mono ?_); rintro e W ⟨rfl, b⟩)
      go_ret
      exact ⟨rfl, b⟩
  · clear h
    go_enter Try.func4, Try.ntmps4
    go_wp2_with (go_at_call 9; (with_reducible refine c6.mono ?_); rintro e W ⟨rfl, b⟩)
    go_ret
    exact ⟨rfl, b⟩

theorem keepR {w V W : World} {g X b : Nat} {k : Ck} {t tp : Sm} (h : Below w.heap.size w V ∧ CkAt V g k ∧ Bx V X t ∧ Bx V b tp ∧ (V.cell? ⟨X, 0, none⟩ = some (.int .i64 t.w) ∧ V.cell? ⟨X, 1, none⟩ = some (.int .i64 t.l) ∧ V.cell? ⟨X, 2, none⟩ = some (.int .i64 t.n)) ∧ V.cell? ⟨b, 0, none⟩ = some (.int .i64 tp.w) ∧ V.cell? ⟨b, 1, none⟩ = some (.int .i64 tp.l)) (hb : Below V.heap.size V W) :
    Below w.heap.size w W ∧ CkAt W g k ∧ Bx W X t ∧ Bx W b tp ∧ (W.cell? ⟨X, 0, none⟩ = some (.int .i64 t.w) ∧ W.cell? ⟨X, 1, none⟩ = some (.int .i64 t.l) ∧ W.cell? ⟨X, 2, none⟩ = some (.int .i64 t.n)) ∧ W.cell? ⟨b, 0, none⟩ = some (.int .i64 tp.w) ∧ W.cell? ⟨b, 1, none⟩ = some (.int .i64 tp.l) := by
  have f : ∀ {a : Addr} {u : Value}, V.cell? a = some u → W.cell? a = some u := fun hc => (hb.cell (World.block_lt_of_cell? V _ hc)).trans hc
  exact ⟨h.1.trans (hb.mono h.1.size), h.2.1.later hb, h.2.2.1.later hb, h.2.2.2.1.later hb, ⟨f h.2.2.2.2.1.1, f h.2.2.2.2.1.2.1, f h.2.2.2.2.1.2.2⟩, f h.2.2.2.2.2.1, f h.2.2.2.2.2.2⟩
theorem Bx.set {w : World} {b : Nat} {s : Sm} (h : Bx w b s) (t : Sm) : Bx (((w.setCell ⟨b, 0, none⟩ (.int .i64 t.w)).setCell ⟨b, 1, none⟩ (.int .i64 t.l)).setCell ⟨b, 2, none⟩ (.int .i64 t.n)) b t := set3 h _ _ _
theorem readC_s (n : Int) (k : Ck) : (readC n k).s = k.s := by unfold readC; split <;> rfl

theorem keepS {V W : World} {b bl o1 o2 o3 : Nat} {tp s : Sm} (h : (V.cell? ⟨b, 0, none⟩ = some (.int .i64 tp.w) ∧ V.cell? ⟨b, 1, none⟩ = some (.int .i64 tp.l) ∧ V.cell? ⟨b, 2, none⟩ = some (.int .i64 tp.n)) ∧ V.cell? ⟨bl, o1, none⟩ = some (.int .i64 s.w) ∧ V.cell? ⟨bl, o2, none⟩ = some (.int .i64 s.l) ∧ V.cell? ⟨bl, o3, none⟩ = some (.int .i64 s.n)) (hb : Below V.heap.size V W) :
    (W.cell? ⟨b, 0, none⟩ = some (.int .i64 tp.w) ∧ W.cell? ⟨b, 1, none⟩ = some (.int .i64 tp.l) ∧ W.cell? ⟨b, 2, none⟩ = some (.int .i64 tp.n)) ∧ W.cell? ⟨bl, o1, none⟩ = some (.int .i64 s.w) ∧ W.cell? ⟨bl, o2, none⟩ = some (.int .i64 s.l) ∧ W.cell? ⟨bl, o3, none⟩ = some (.int .i64 s.n) := by
  have f : ∀ {a : Addr} {u : Value}, V.cell? a = some u → W.cell? a = some u := fun hc => (hb.cell (World.block_lt_of_cell? V _ hc)).trans hc
  exact ⟨⟨f h.1.1, f h.1.2.1, f h.1.2.2⟩, f h.2.1, f h.2.2.1, f h.2.2.2⟩

set_option maxHeartbeats 32000000 in
set_option maxRecDepth 100000 in
theorem ClockRises_body (a0 a1 : Int) (a2 : Option Addr) (len2 cap2 : Nat) (ss : List St) (w : World) (h : StepsIn w a2 len2 ss) (hlen : len2 ≤ maxLen) :
    Calls Try.prog 4 #[.int .i64 a0, .int .i64 a1, .slice a2 len2 cap2] w (TelPost (.bool true) w) := by
  unfold maxLen at hlen
  have c6 := fun wx => awake_any wx
  unfold TelPost at c6
  by_cases hbig : 300 < len2
  · have j1 : (300 : Int) < (len2 : Int) := by omega
    go_enter Try.func4, Try.ntmps4
    go_wp2_with (go_at_call 9; (with_reducible refine (c6 _).mono ?_); rintro e W ⟨rfl, b⟩)
    go_ret
    exact ⟨rfl, b⟩
  by_cases hin : 1 ≤ a0 ∧ a0 ≤ 5 ∧ 0 ≤ a1 ∧ a1 ≤ 1099511627776
  case neg => exact rises_out a0 a1 a2 len2 cap2 w (by omega) hin
  obtain ⟨n0, n1, n2, n3⟩ := hin
  have hn : newB a0 a1 = true := decide_eq_true ⟨n0, n1, n2, by omega⟩
  have j1 : ¬ (300 : Int) < (len2 : Int) := by omega
  have HS := Lib.hid h
  clear h
  obtain ⟨g, hg⟩ : ∃ g, w.heap.size = g := ⟨_, rfl⟩
  have HG := Lib.hid hg
  have cN := new_as' a0 a1 hn w g hg
  have hok := newC_ok hn
  clear hg hn
  go_enter Try.func4, Try.ntmps4
  go_wp2_with (go_at_call 10; (with_reducible refine cN.mono ?_))
  rintro e W0 ⟨rfl, A0, B0⟩
  obtain ⟨b, hm⟩ : ∃ b, W0.heap.size = b := ⟨_, rfl⟩
  have hgm : g < b := by rw [← hm]; exact lt_of_block A0
  have HA0 := Lib.hid A0
  have HB0 := Lib.hid B0
  have HM := Lib.hid hm
  have HP0 : Hid (RiR w (W0.alloc (.cells #[.int .i64 a1, .int .i64 0, .int .i64 a0] 32)) g b a0 (newC a0 a1) ⟨a1, 0, a0⟩) :=
    ⟨HA0.out.alloc _, by have := Bx.new W0 ⟨a1, 0, a0⟩; rw [hm] at this; exact this, hok, by rw [HG.out]; exact HB0.out.alloc (by omega) _, by rw [HG.out]; exact Nat.le_refl _, by rw [HG.out]; omega, by omega, rfl, rfl, rfl⟩
  clear A0 B0 cN hok
  go_wp2
  try rw [hm]
  clear hm
  go_loopw [10] (fun i wr => ∃ (j : Nat) (k : Ck) (tp : Sm), i = .int .i64 j ∧ j ≤ len2 ∧ Hid (RiR w wr g b a0 k tp)) (fun i _ => len2 - (intOf i).toNat)
  case atStart => exact ⟨0, _, _, rfl, Nat.zero_le _, HP0⟩
  case round =>
    obtain ⟨j, k, tp, rfl, hj, HR⟩ := hrel
    clear HP0
    by_cases hlt : j < len2
    · have hlt2 : j < ss.length := by rw [HS.out.1]; exact hlt
      obtain ⟨x, hax, hst⟩ := HS.out.at j hlt2
      subst hax
      obtain ⟨⟨kd, N, s⟩, hs⟩ : ∃ s, s = ss[j]'hlt2 := ⟨_, rfl⟩
      rw [← hs] at hst
      obtain ⟨c0, c1, c2, c3, c4⟩ := hst
      simp only at c0 c1 c2 c3 c4
      have f : ∀ {a : Addr} {u : Value}, w.cell? a = some u → wr.cell? a = some u := fun hc => (HR.out.low.cell (World.block_lt_of_cell? w _ hc)).trans hc
      have hx0 := World.block_lt_of_cell? w _ c0
      have c0 := f c0
      have c1 := f c1
      have c2 := f c2
      have c3 := f c3
      have c4 := f c4
      rw [fld x (j * 5) 1 (by decide)] at c1
      rw [fld x (j * 5) 2 (by decide)] at c2
      rw [fld x (j * 5) 3 (by decide)] at c3
      rw [fld x (j * 5) 4 (by decide)] at c4
      have i1 : (0 : Int) ≤ (j : Int) := by omega
      have i2 : (j : Int) < (len2 : Int) := by omega
      have hx1 : (x.add (j * 5)).block < w.heap.size := hx0
      clear hs f
      by_cases k1 : kd = 1
      · subst k1
        obtain ⟨kk, hkk⟩ : ∃ kk, readC N k = kk := ⟨_, rfl⟩
        have q1 := read_as g k N kk hkk wr HR.out.c HR.out.ok
        have hok : CkOk kk := by rw [← hkk]; exact readC_ok HR.out.ok N
        have hks : kk.s = k.s := by rw [← hkk]; exact readC_s N k
        have HKS := Lib.hid hks
        clear hkk hks
        go_wp2_with (go_at_call 12; (with_reducible refine q1.mono ?_))
        rintro e W5 ⟨rfl, A5, K5⟩
        have HZ := Lib.hid (show RiR w W5 g b a0 kk tp from ⟨A5, HR.out.t.kept K5 HR.out.ne, hok, kept_below HR.out.low K5 HR.out.hg (Nat.le_refl _), HR.out.hg, HR.out.hb, HR.out.ne, by rw [HKS.out]; exact HR.out.ew, by rw [HKS.out]; exact HR.out.el, by rw [HKS.out]; exact HR.out.en⟩)
        clear A5 K5 q1 hok HKS
        go_wp2
        go_roundw
        case rel => exact ⟨j + 1, _, _, by go_num, by omega, HZ⟩
        case measure => simp [intOf]; omega
      · by_cases k2 : kd = 2
        · subst k2
          by_cases ho : overB k = true
          · have HT : Hid (tickS k = ⟨0, 0, 0⟩ ∧ tickC k = k ∧ tickE k = 7) := by
              refine ⟨?_, ?_, ?_⟩
              · unfold tickS; rw [if_pos ho]
              · unfold tickC; rw [if_pos ho]
              · unfold tickE; rw [if_pos ho]
            clear ho
            have q1 := tick_as g k ⟨0, 0, 0⟩ k 7 HT.out.1 HT.out.2.1 HT.out.2.2 wr HR.out.c HR.out.ok
            go_wp2_with (go_at_call 14; (with_reducible refine q1.mono ?_))
            rintro e W5 ⟨rfl, A5, K5⟩
            have hlow := kept_below HR.out.low K5 HR.out.hg (Nat.le_refl _)
            have HZ := Lib.hid (show RiR w (W5.alloc (.cells #[.int .i64 0, .int .i64 0, .int .i64 0] 32)) g b a0 k tp from ⟨A5.alloc _, (HR.out.t.kept K5 HR.out.ne).alloc _, HR.out.ok, hlow.alloc hlow.size _, HR.out.hg, HR.out.hb, HR.out.ne, HR.out.ew, HR.out.el, HR.out.en⟩)
            clear A5 K5 q1 hlow
            go_wp2
            go_roundw
            case rel => exact ⟨j + 1, _, _, by go_num, by omega, HZ⟩
            case measure => simp [intOf]; omega
          · by_cases hw : k.s.w < k.r
            · have HT : Hid (tickS k = ⟨k.r, 0, a0⟩ ∧ tickC k = ⟨k.r, ⟨k.r, 0, a0⟩⟩ ∧ tickE k = 0) := by
                have ht : tellS k = ⟨k.r, 0, a0⟩ := by unfold tellS; rw [if_pos hw, HR.out.en]
                refine ⟨?_, ?_, ?_⟩
                · unfold tickS; rw [if_neg ho, ht]
                · unfold tickC; rw [if_neg ho, ht]
                · unfold tickE; rw [if_neg ho]
              have HOK : Hid (CkOk ⟨k.r, ⟨k.r, 0, a0⟩⟩) := by show CkOk _; rw [← HT.out.2.1]; exact tickC_ok HR.out.ok
              have g1 : decide (k.r < tp.w) = false := decide_eq_false (by have := HR.out.ew; omega)
              have g2 : (k.r == tp.w) = false := by have := HR.out.ew; simp; omega
              have g3 : ¬ k.r < k.r := by omega
              clear ho hw
              have q1 := tick_as g k ⟨k.r, 0, a0⟩ ⟨k.r, ⟨k.r, 0, a0⟩⟩ 0 HT.out.1 HT.out.2.1 HT.out.2.2 wr HR.out.c HR.out.ok
              go_wp2_with (go_at_call 14; (with_reducible refine q1.mono ?_))
              rintro e W5 ⟨rfl, A5, K5⟩
              have X5 : (W5.alloc (.cells #[.int .i64 k.r, .int .i64 0, .int .i64 a0] 32)).heap[W5.heap.size]? = some (.cells #[.int .i64 k.r, .int .i64 0, .int .i64 a0] 32 (0, 0)) := heap_alloc_new _ _
              obtain ⟨x0, x1, x2, _⟩ := box_cells X5
              have T5 := (HR.out.t.kept K5 HR.out.ne).alloc (.cells #[.int .i64 k.r, .int .i64 0, .int .i64 a0] 32)
              have T5' : (W5.alloc (.cells #[.int .i64 k.r, .int .i64 0, .int .i64 a0] 32)).heap[b]? = some (.cells #[.int .i64 tp.w, .int .i64 tp.l, .int .i64 tp.n] 32 (0, 0)) := T5
              obtain ⟨y0, y1, y2, _⟩ := box_cells T5'
              have hlow := (kept_below HR.out.low K5 HR.out.hg (Nat.le_refl _)).alloc (kept_below HR.out.low K5 HR.out.hg (Nat.le_refl _)).size (.cells #[.int .i64 k.r, .int .i64 0, .int .i64 a0] 32)
              have HS5 := Lib.hid (show (fun w' => Below w.heap.size w w' ∧ CkAt w' g ⟨k.r, ⟨k.r, 0, a0⟩⟩ ∧ Bx w' W5.heap.size ⟨k.r, 0, a0⟩ ∧ Bx w' b tp ∧ (w'.cell? ⟨W5.heap.size, 0, none⟩ = some (.int .i64 k.r) ∧ w'.cell? ⟨W5.heap.size, 1, none⟩ = some (.int .i64 0) ∧ w'.cell? ⟨W5.heap.size, 2, none⟩ = some (.int .i64 a0)) ∧ w'.cell? ⟨b, 0, none⟩ = some (.int .i64 tp.w) ∧ w'.cell? ⟨b, 1, none⟩ = some (.int .i64 tp.l)) (W5.alloc (.cells #[.int .i64 k.r, .int .i64 0, .int .i64 a0] 32)).drew from ⟨hlow.drew, A5.alloc _, X5, T5, ⟨x0, x1, x2⟩, y0, y1⟩)
              have C4 := Lib.hid (fun wx (h : CkAt wx g ⟨k.r, ⟨k.r, 0, a0⟩⟩) => (show Calls Try.prog 18 #[.pointer (some ⟨g, 0, none⟩)] wx (TelPost (.agg #[.int .i64 k.r, .int .i64 0, .int .i64 a0]) wx) from now_any g _ wx h))
              have C7 := Lib.hid (fun wx (h : CkAt wx g ⟨k.r, ⟨k.r, 0, a0⟩⟩) => (show Calls Try.prog 20 #[.pointer (some ⟨g, 0, none⟩)] wx (fun e w' => e = .returned (.int .i64 k.r) ∧ wx = w') from reading_any g ⟨k.r, ⟨k.r, 0, a0⟩⟩ wx h))
              have hE : ∀ V, (Op.equalIn 10000 32 (.agg #[.int .i64 k.r, .int .i64 0, .int .i64 a0]) (.agg #[.int .i64 k.r, .int .i64 0, .int .i64 a0])).run Try.prog V = .ok true V := fun V => by
                have := eq_stamp ⟨k.r, 0, a0⟩ ⟨k.r, 0, a0⟩ V
                rw [decide_eq_true rfl] at this
                exact this
              clear A5 K5 q1 x0 x1 x2 y0 y1 y2 X5 T5 T5' hlow
              go_wp2_with fail
              refine wp_region_noPanic ?_
              refine wp_region_held_drew (S := (fun w' => Below w.heap.size w w' ∧ CkAt w' g ⟨k.r, ⟨k.r, 0, a0⟩⟩ ∧ Bx w' W5.heap.size ⟨k.r, 0, a0⟩ ∧ Bx w' b tp ∧ (w'.cell? ⟨W5.heap.size, 0, none⟩ = some (.int .i64 k.r) ∧ w'.cell? ⟨W5.heap.size, 1, none⟩ = some (.int .i64 0) ∧ w'.cell? ⟨W5.heap.size, 2, none⟩ = some (.int .i64 a0)) ∧ w'.cell? ⟨b, 0, none⟩ = some (.int .i64 tp.w) ∧ w'.cell? ⟨b, 1, none⟩ = some (.int .i64 tp.l))) (by kernel_rfl) ?_ (fun hH0 => ?_)
              · (try dsimp only); exact HS5.out
              refine wpAnyH_take (i := 0) (oi := { dst := some 84, op := Op.fieldAddr 32 (Operand.tmp 11) 2, type := 0, pos := "law.go:89", after := #[], guard := none }) (v := ?_) rfl (by kernel_rfl) (by kernel_rfl) (by kernel_rfl) (fun _ _ _ h => h) (Or.inl ⟨by rfl, ?_⟩) (by assumption) ?_
              rotate_left
              · (intro w hSw; (try dsimp only at hSw); go_simp <;> with_reducible rfl)
              (try simp only [Act.put, List.setIfInBounds_toArray, List.set_cons_zero, List.set_cons_succ])
              refine wpAnyH_take (i := 1) (oi := { dst := some 85, op := Op.load 3 (Operand.tmp 84), type := 3, pos := "law.go:89", after := #[{ on := 0, ground := Ground.data }], guard := none }) (v := ?_) rfl (by kernel_rfl) (by kernel_rfl) (by kernel_rfl) (fun _ _ _ h => h) (Or.inl ⟨by rfl, ?_⟩) (by assumption) ?_
              rotate_left
              · (intro w hSw; (try dsimp only at hSw); go_simp <;> with_reducible rfl)
              (try simp only [Act.put, List.setIfInBounds_toArray, List.set_cons_zero, List.set_cons_succ])
              refine wpAnyH_take (i := 2) (oi := { dst := some 86, op := Op.move (Operand.tmp 0), type := 3, pos := "law.go:89", after := #[], guard := none }) (v := ?_) rfl (by kernel_rfl) (by kernel_rfl) (by kernel_rfl) (fun _ _ _ h => h) (Or.inl ⟨by rfl, ?_⟩) (by assumption) ?_
              rotate_left
              · (intro w hSw; (try dsimp only at hSw); go_simp <;> with_reducible rfl)
              (try simp only [Act.put, List.setIfInBounds_toArray, List.set_cons_zero, List.set_cons_succ])
              refine wpAnyH_take (i := 3) (oi := { dst := some 87, op := Op.binOp BinOp.neq 3 (Operand.tmp 85) (Operand.tmp 86) 3, type := 4, pos := "law.go:89", after := #[{ on := 1, ground := Ground.data }, { on := 2, ground := Ground.data }], guard := none }) (v := ?_) rfl (by kernel_rfl) (by kernel_rfl) (by kernel_rfl) (fun _ _ _ h => h) (Or.inl ⟨by rfl, ?_⟩) (by assumption) ?_
              rotate_left
              · (intro w hSw; (try dsimp only at hSw); go_simp <;> with_reducible rfl)
              (try simp only [Act.put, List.setIfInBounds_toArray, List.set_cons_zero, List.set_cons_succ])
              refine wpAnyH_take (i := 4) (oi := { dst := some 88, op := Op.move (Operand.tmp 87), type := 4, pos := "law.go:89", after := #[{ on := 3, ground := Ground.data }], guard := none }) (v := ?_) rfl (by kernel_rfl) (by kernel_rfl) (by kernel_rfl) (fun _ _ _ h => h) (Or.inl ⟨by rfl, ?_⟩) (by assumption) ?_
              rotate_left
              · (intro w hSw; (try dsimp only at hSw); go_simp <;> with_reducible rfl)
              (try simp only [Act.put, List.setIfInBounds_toArray, List.set_cons_zero, List.set_cons_succ])
              refine wpAnyH_take (i := 5) (oi := { dst := some 89, op := Op.fieldAddr 32 (Operand.tmp 11) 0, type := 0, pos := "law.go:89", after := #[{ on := 4, ground := Ground.guard }], guard := some (4, false) }) (v := ?_) rfl (by kernel_rfl) (by kernel_rfl) (by kernel_rfl) (fun _ _ _ h => h) (Or.inl ⟨by rfl, ?_⟩) (by assumption) ?_
              rotate_left
              · (intro w hSw; (try dsimp only at hSw); go_simp <;> with_reducible rfl)
              (try simp only [Act.put, List.setIfInBounds_toArray, List.set_cons_zero, List.set_cons_succ])
              refine wpAnyH_take (i := 6) (oi := { dst := some 90, op := Op.load 3 (Operand.tmp 89), type := 3, pos := "law.go:89", after := #[{ on := 5, ground := Ground.data }, { on := 4, ground := Ground.guard }], guard := some (4, false) }) (v := ?_) rfl (by kernel_rfl) (by kernel_rfl) (by kernel_rfl) (fun _ _ _ h => h) (Or.inl ⟨by rfl, ?_⟩) (by assumption) ?_
              rotate_left
              · (intro w hSw; (try dsimp only at hSw); go_simp <;> with_reducible rfl)
              (try simp only [Act.put, List.setIfInBounds_toArray, List.set_cons_zero, List.set_cons_succ])
              refine wpAnyH_take (i := 7) (oi := { dst := some 91, op := Op.fieldAddr 32 (Operand.tmp 9) 0, type := 0, pos := "law.go:89", after := #[{ on := 4, ground := Ground.guard }], guard := some (4, false) }) (v := ?_) rfl (by kernel_rfl) (by kernel_rfl) (by kernel_rfl) (fun _ _ _ h => h) (Or.inl ⟨by rfl, ?_⟩) (by assumption) ?_
              rotate_left
              · (intro w hSw; (try dsimp only at hSw); go_simp <;> with_reducible rfl)
              (try simp only [Act.put, List.setIfInBounds_toArray, List.set_cons_zero, List.set_cons_succ])
              refine wpAnyH_take (i := 8) (oi := { dst := some 92, op := Op.load 3 (Operand.tmp 91), type := 3, pos := "law.go:89", after := #[{ on := 7, ground := Ground.data }, { on := 4, ground := Ground.guard }], guard := some (4, false) }) (v := ?_) rfl (by kernel_rfl) (by kernel_rfl) (by kernel_rfl) (fun _ _ _ h => h) (Or.inl ⟨by rfl, ?_⟩) (by assumption) ?_
              rotate_left
              · (intro w hSw; (try dsimp only at hSw); go_simp <;> with_reducible rfl)
              (try simp only [Act.put, List.setIfInBounds_toArray, List.set_cons_zero, List.set_cons_succ])
              refine wpAnyH_take (i := 9) (oi := { dst := some 93, op := Op.binOp BinOp.lss 3 (Operand.tmp 90) (Operand.tmp 92) 3, type := 4, pos := "law.go:89", after := #[{ on := 6, ground := Ground.data }, { on := 8, ground := Ground.data }, { on := 4, ground := Ground.guard }], guard := some (4, false) }) (v := ?_) rfl (by kernel_rfl) (by kernel_rfl) (by kernel_rfl) (fun _ _ _ h => h) (Or.inl ⟨by rfl, ?_⟩) (by assumption) ?_
              rotate_left
              · (intro w hSw; (try dsimp only at hSw); go_simp <;> with_reducible rfl)
              (try simp only [Act.put, List.setIfInBounds_toArray, List.set_cons_zero, List.set_cons_succ])
              refine wpAnyH_take (i := 10) (oi := { dst := some 94, op := Op.pick (Operand.tmp 88) (Operand.const (Value.bool true)) (Operand.tmp 93), type := 4, pos := "law.go:89", after := #[{ on := 4, ground := Ground.data }, { on := 9, ground := Ground.data }], guard := none }) (v := ?_) rfl (by kernel_rfl) (by kernel_rfl) (by kernel_rfl) (fun _ _ _ h => h) (Or.inl ⟨by rfl, ?_⟩) (by assumption) ?_
              rotate_left
              · (intro w hSw; (try dsimp only at hSw); go_simp <;> with_reducible rfl)
              (try simp only [Act.put, List.setIfInBounds_toArray, List.set_cons_zero, List.set_cons_succ])
              refine wpAnyH_take (i := 11) (oi := { dst := some 95, op := Op.move (Operand.tmp 94), type := 4, pos := "law.go:89", after := #[{ on := 10, ground := Ground.data }, { on := 4, ground := Ground.chain }], guard := none }) (v := ?_) rfl (by kernel_rfl) (by kernel_rfl) (by kernel_rfl) (fun _ _ _ h => h) (Or.inl ⟨by rfl, ?_⟩) (by assumption) ?_
              rotate_left
              · (intro w hSw; (try dsimp only at hSw); go_simp <;> with_reducible rfl)
              (try simp only [Act.put, List.setIfInBounds_toArray, List.set_cons_zero, List.set_cons_succ])
              refine wpAnyH_take (i := 12) (oi := { dst := some 96, op := Op.fieldAddr 32 (Operand.tmp 11) 0, type := 0, pos := "law.go:89", after := #[{ on := 11, ground := Ground.guard }], guard := some (11, false) }) (v := ?_) rfl (by kernel_rfl) (by kernel_rfl) (by kernel_rfl) (fun _ _ _ h => h) (Or.inl ⟨by rfl, ?_⟩) (by assumption) ?_
              rotate_left
              · (intro w hSw; (try dsimp only at hSw); go_simp <;> with_reducible rfl)
              (try simp only [Act.put, List.setIfInBounds_toArray, List.set_cons_zero, List.set_cons_succ])
              refine wpAnyH_take (i := 13) (oi := { dst := some 97, op := Op.load 3 (Operand.tmp 96), type := 3, pos := "law.go:89", after := #[{ on := 12, ground := Ground.data }, { on := 11, ground := Ground.guard }], guard := some (11, false) }) (v := ?_) rfl (by kernel_rfl) (by kernel_rfl) (by kernel_rfl) (fun _ _ _ h => h) (Or.inl ⟨by rfl, ?_⟩) (by assumption) ?_
              rotate_left
              · (intro w hSw; (try dsimp only at hSw); go_simp <;> with_reducible rfl)
              (try simp only [Act.put, List.setIfInBounds_toArray, List.set_cons_zero, List.set_cons_succ])
              refine wpAnyH_take (i := 14) (oi := { dst := some 98, op := Op.fieldAddr 32 (Operand.tmp 9) 0, type := 0, pos := "law.go:89", after := #[{ on := 11, ground := Ground.guard }], guard := some (11, false) }) (v := ?_) rfl (by kernel_rfl) (by kernel_rfl) (by kernel_rfl) (fun _ _ _ h => h) (Or.inl ⟨by rfl, ?_⟩) (by assumption) ?_
              rotate_left
              · (intro w hSw; (try dsimp only at hSw); go_simp <;> with_reducible rfl)
              (try simp only [Act.put, List.setIfInBounds_toArray, List.set_cons_zero, List.set_cons_succ])
              refine wpAnyH_take (i := 15) (oi := { dst := some 99, op := Op.load 3 (Operand.tmp 98), type := 3, pos := "law.go:89", after := #[{ on := 14, ground := Ground.data }, { on := 11, ground := Ground.guard }], guard := some (11, false) }) (v := ?_) rfl (by kernel_rfl) (by kernel_rfl) (by kernel_rfl) (fun _ _ _ h => h) (Or.inl ⟨by rfl, ?_⟩) (by assumption) ?_
              rotate_left
              · (intro w hSw; (try dsimp only at hSw); go_simp <;> with_reducible rfl)
              (try simp only [Act.put, List.setIfInBounds_toArray, List.set_cons_zero, List.set_cons_succ])
              refine wpAnyH_take (i := 16) (oi := { dst := some 100, op := Op.binOp BinOp.eql 3 (Operand.tmp 97) (Operand.tmp 99) 3, type := 4, pos := "law.go:89", after := #[{ on := 13, ground := Ground.data }, { on := 15, ground := Ground.data }, { on := 11, ground := Ground.guard }], guard := some (11, false) }) (v := ?_) rfl (by kernel_rfl) (by kernel_rfl) (by kernel_rfl) (fun _ _ _ h => h) (Or.inl ⟨by rfl, ?_⟩) (by assumption) ?_
              rotate_left
              · (intro w hSw; (try dsimp only at hSw); go_simp <;> with_reducible rfl)
              (try simp only [Act.put, List.setIfInBounds_toArray, List.set_cons_zero, List.set_cons_succ])
              refine wpAnyH_take (i := 17) (oi := { dst := some 101, op := Op.move (Operand.tmp 100), type := 4, pos := "law.go:89", after := #[{ on := 16, ground := Ground.data }, { on := 11, ground := Ground.chain }, { on := 11, ground := Ground.guard }], guard := some (11, false) }) (v := ?_) rfl (by kernel_rfl) (by kernel_rfl) (by kernel_rfl) (fun _ _ _ h => h) (Or.inl ⟨by rfl, ?_⟩) (by assumption) ?_
              rotate_left
              · (intro w hSw; (try dsimp only at hSw); go_simp <;> with_reducible rfl)
              (try simp only [Act.put, List.setIfInBounds_toArray, List.set_cons_zero, List.set_cons_succ])
              refine wpAnyH_take (i := 18) (oi := { dst := some 102, op := Op.fieldAddr 32 (Operand.tmp 11) 1, type := 0, pos := "law.go:89", after := #[{ on := 17, ground := Ground.guard }], guard := some (17, true) }) (v := undef) rfl (by kernel_rfl) (by kernel_rfl) (by kernel_rfl) (fun _ _ _ h => h) (Or.inr ⟨by rfl, rfl⟩) (by assumption) ?_
              (try simp only [Act.put, List.setIfInBounds_toArray, List.set_cons_zero, List.set_cons_succ])
              refine wpAnyH_take (i := 19) (oi := { dst := some 103, op := Op.load 3 (Operand.tmp 102), type := 3, pos := "law.go:89", after := #[{ on := 18, ground := Ground.data }, { on := 17, ground := Ground.guard }], guard := some (17, true) }) (v := undef) rfl (by kernel_rfl) (by kernel_rfl) (by kernel_rfl) (fun _ _ _ h => h) (Or.inr ⟨by rfl, rfl⟩) (by assumption) ?_
              (try simp only [Act.put, List.setIfInBounds_toArray, List.set_cons_zero, List.set_cons_succ])
              refine wpAnyH_take (i := 20) (oi := { dst := some 104, op := Op.fieldAddr 32 (Operand.tmp 9) 1, type := 0, pos := "law.go:89", after := #[{ on := 17, ground := Ground.guard }], guard := some (17, true) }) (v := undef) rfl (by kernel_rfl) (by kernel_rfl) (by kernel_rfl) (fun _ _ _ h => h) (Or.inr ⟨by rfl, rfl⟩) (by assumption) ?_
              (try simp only [Act.put, List.setIfInBounds_toArray, List.set_cons_zero, List.set_cons_succ])
              refine wpAnyH_take (i := 21) (oi := { dst := some 105, op := Op.load 3 (Operand.tmp 104), type := 3, pos := "law.go:89", after := #[{ on := 20, ground := Ground.data }, { on := 17, ground := Ground.guard }], guard := some (17, true) }) (v := undef) rfl (by kernel_rfl) (by kernel_rfl) (by kernel_rfl) (fun _ _ _ h => h) (Or.inr ⟨by rfl, rfl⟩) (by assumption) ?_
              (try simp only [Act.put, List.setIfInBounds_toArray, List.set_cons_zero, List.set_cons_succ])
              refine wpAnyH_take (i := 22) (oi := { dst := some 106, op := Op.binOp BinOp.leq 3 (Operand.tmp 103) (Operand.tmp 105) 3, type := 4, pos := "law.go:89", after := #[{ on := 19, ground := Ground.data }, { on := 21, ground := Ground.data }, { on := 17, ground := Ground.guard }], guard := some (17, true) }) (v := undef) rfl (by kernel_rfl) (by kernel_rfl) (by kernel_rfl) (fun _ _ _ h => h) (Or.inr ⟨by rfl, rfl⟩) (by assumption) ?_
              (try simp only [Act.put, List.setIfInBounds_toArray, List.set_cons_zero, List.set_cons_succ])
              refine wpAnyH_take (i := 23) (oi := { dst := some 107, op := Op.pick (Operand.tmp 101) (Operand.tmp 106) (Operand.const (Value.bool false)), type := 4, pos := "law.go:89", after := #[{ on := 17, ground := Ground.data }, { on := 22, ground := Ground.data }, { on := 11, ground := Ground.guard }], guard := some (11, false) }) (v := ?_) rfl (by kernel_rfl) (by kernel_rfl) (by kernel_rfl) (fun _ _ _ h => h) (Or.inl ⟨by rfl, ?_⟩) (by assumption) ?_
              rotate_left
              · (intro w hSw; (try dsimp only at hSw); go_simp <;> with_reducible rfl)
              (try simp only [Act.put, List.setIfInBounds_toArray, List.set_cons_zero, List.set_cons_succ])
              refine wpAnyH_take (i := 24) (oi := { dst := some 108, op := Op.pick (Operand.tmp 95) (Operand.const (Value.bool true)) (Operand.tmp 107), type := 4, pos := "law.go:89", after := #[{ on := 11, ground := Ground.data }, { on := 23, ground := Ground.data }], guard := none }) (v := ?_) rfl (by kernel_rfl) (by kernel_rfl) (by kernel_rfl) (fun _ _ _ h => h) (Or.inl ⟨by rfl, ?_⟩) (by assumption) ?_
              rotate_left
              · (intro w hSw; (try dsimp only at hSw); go_simp <;> with_reducible rfl)
              (try simp only [Act.put, List.setIfInBounds_toArray, List.set_cons_zero, List.set_cons_succ])
              refine wpAnyH_take (i := 25) (oi := { dst := some 109, op := Op.move (Operand.tmp 108), type := 4, pos := "law.go:89", after := #[{ on := 24, ground := Ground.data }, { on := 17, ground := Ground.chain }], guard := none }) (v := ?_) rfl (by kernel_rfl) (by kernel_rfl) (by kernel_rfl) (fun _ _ _ h => h) (Or.inl ⟨by rfl, ?_⟩) (by assumption) ?_
              rotate_left
              · (intro w hSw; (try dsimp only at hSw); go_simp <;> with_reducible rfl)
              (try simp only [Act.put, List.setIfInBounds_toArray, List.set_cons_zero, List.set_cons_succ])
              refine wpAnyH_take (i := 26) (oi := { dst := some 110, op := Op.load 32 (Operand.tmp 11), type := 32, pos := "law.go:89", after := #[{ on := 25, ground := Ground.guard }], guard := some (25, false) }) (v := ?_) rfl (by kernel_rfl) (by kernel_rfl) (by kernel_rfl) (fun _ _ _ h => h) (Or.inl ⟨by rfl, ?_⟩) (by assumption) ?_
              rotate_left
              · (intro w hSw; (try dsimp only at hSw); go_simp <;> with_reducible rfl)
              (try simp only [Act.put, List.setIfInBounds_toArray, List.set_cons_zero, List.set_cons_succ])
              refine wpAnyH_take (i := 27) (oi := { dst := some 111, op := Op.move (Operand.tmp 7), type := 24, pos := "law.go:89", after := #[{ on := 25, ground := Ground.guard }], guard := some (25, false) }) (v := ?_) rfl (by kernel_rfl) (by kernel_rfl) (by kernel_rfl) (fun _ _ _ h => h) (Or.inl ⟨by rfl, ?_⟩) (by assumption) ?_
              rotate_left
              · (intro w hSw; (try dsimp only at hSw); go_simp <;> with_reducible rfl)
              (try simp only [Act.put, List.setIfInBounds_toArray, List.set_cons_zero, List.set_cons_succ])
              refine wpAnyH_ready (rs := [28]) (by kernel_rfl) (by simp) ?_
              refine AllReadyH.cons (o := { dst := some 112, op := Op.call { callee := Callee.value (Operand.func 18), args := #[Operand.tmp 111], argTypes := #[24] }, type := 32, pos := "law.go:89", after := #[{ on := 27, ground := Ground.data }, { on := 25, ground := Ground.chain }, { on := 25, ground := Ground.guard }], guard := some (25, false) }) rfl (fun K hK => ?_) ?_
              · go_simp
                (go_at_call 18; (with_reducible refine (C4.out _ (And.left (And.right (by assumption)))).mono ?_); rintro e W6 ⟨rfl, b6⟩; have hs6 := keepR (by assumption) b6)
                try (go_wp2_with fail)
                refine hK.out _ _ ?_ (fun hH1 => ?_)
                · (try dsimp only); (first | exact hs6 | exact hH0 | exact keepR hH0 (Below.refl _ _).drew | go_keep)
                clear hK K
                (try simp only [Act.put, List.setIfInBounds_toArray, List.set_cons_zero, List.set_cons_succ])
                clear hH0
                refine wpAnyH_take (i := 29) (oi := { dst := some 113, op := Op.binOp BinOp.neq 32 (Operand.tmp 110) (Operand.tmp 112) 32, type := 4, pos := "law.go:89", after := #[{ on := 26, ground := Ground.data }, { on := 28, ground := Ground.data }, { on := 25, ground := Ground.guard }], guard := some (25, false) }) (v := ?_) rfl (by kernel_rfl) (by kernel_rfl) (by kernel_rfl) (fun _ _ _ h => h) (Or.inl ⟨by rfl, ?_⟩) (by assumption) ?_
                rotate_left
                · (intro w hSw; (try dsimp only at hSw); go_simp <;> with_reducible rfl)
                (try simp only [Act.put, List.setIfInBounds_toArray, List.set_cons_zero, List.set_cons_succ])
                refine wpAnyH_take (i := 30) (oi := { dst := some 114, op := Op.pick (Operand.tmp 109) (Operand.const (Value.bool true)) (Operand.tmp 113), type := 4, pos := "law.go:89", after := #[{ on := 25, ground := Ground.data }, { on := 29, ground := Ground.data }], guard := none }) (v := ?_) rfl (by kernel_rfl) (by kernel_rfl) (by kernel_rfl) (fun _ _ _ h => h) (Or.inl ⟨by rfl, ?_⟩) (by assumption) ?_
                rotate_left
                · (intro w hSw; (try dsimp only at hSw); go_simp <;> with_reducible rfl)
                (try simp only [Act.put, List.setIfInBounds_toArray, List.set_cons_zero, List.set_cons_succ])
                refine wpAnyH_take (i := 31) (oi := { dst := some 115, op := Op.move (Operand.tmp 114), type := 4, pos := "law.go:89", after := #[{ on := 30, ground := Ground.data }, { on := 28, ground := Ground.chain }], guard := none }) (v := ?_) rfl (by kernel_rfl) (by kernel_rfl) (by kernel_rfl) (fun _ _ _ h => h) (Or.inl ⟨by rfl, ?_⟩) (by assumption) ?_
                rotate_left
                · (intro w hSw; (try dsimp only at hSw); go_simp <;> with_reducible rfl)
                (try simp only [Act.put, List.setIfInBounds_toArray, List.set_cons_zero, List.set_cons_succ])
                refine wpAnyH_take (i := 32) (oi := { dst := some 116, op := Op.fieldAddr 32 (Operand.tmp 11) 0, type := 0, pos := "law.go:89", after := #[{ on := 31, ground := Ground.guard }], guard := some (31, false) }) (v := ?_) rfl (by kernel_rfl) (by kernel_rfl) (by kernel_rfl) (fun _ _ _ h => h) (Or.inl ⟨by rfl, ?_⟩) (by assumption) ?_
                rotate_left
                · (intro w hSw; (try dsimp only at hSw); go_simp <;> with_reducible rfl)
                (try simp only [Act.put, List.setIfInBounds_toArray, List.set_cons_zero, List.set_cons_succ])
                refine wpAnyH_take (i := 33) (oi := { dst := some 117, op := Op.load 3 (Operand.tmp 116), type := 3, pos := "law.go:89", after := #[{ on := 32, ground := Ground.data }, { on := 31, ground := Ground.guard }], guard := some (31, false) }) (v := ?_) rfl (by kernel_rfl) (by kernel_rfl) (by kernel_rfl) (fun _ _ _ h => h) (Or.inl ⟨by rfl, ?_⟩) (by assumption) ?_
                rotate_left
                · (intro w hSw; (try dsimp only at hSw); go_simp <;> with_reducible rfl)
                (try simp only [Act.put, List.setIfInBounds_toArray, List.set_cons_zero, List.set_cons_succ])
                refine wpAnyH_take (i := 34) (oi := { dst := some 118, op := Op.move (Operand.tmp 7), type := 24, pos := "law.go:89", after := #[{ on := 31, ground := Ground.guard }], guard := some (31, false) }) (v := ?_) rfl (by kernel_rfl) (by kernel_rfl) (by kernel_rfl) (fun _ _ _ h => h) (Or.inl ⟨by rfl, ?_⟩) (by assumption) ?_
                rotate_left
                · (intro w hSw; (try dsimp only at hSw); go_simp <;> with_reducible rfl)
                (try simp only [Act.put, List.setIfInBounds_toArray, List.set_cons_zero, List.set_cons_succ])
                refine wpAnyH_ready (rs := [35]) (by kernel_rfl) (by simp) ?_
                refine AllReadyH.cons (o := { dst := some 119, op := Op.call { callee := Callee.value (Operand.func 20), args := #[Operand.tmp 118], argTypes := #[24] }, type := 3, pos := "law.go:89", after := #[{ on := 34, ground := Ground.data }, { on := 31, ground := Ground.chain }, { on := 31, ground := Ground.guard }], guard := some (31, false) }) rfl (fun K hK => ?_) ?_
                · go_simp
                  (go_at_call 20; (with_reducible refine (C7.out _ (And.left (And.right (by assumption)))).mono ?_); rintro e W7 ⟨rfl, rfl⟩)
                  try (go_wp2_with fail)
                  refine hK.out _ _ ?_ (fun hH2 => ?_)
                  · (try dsimp only); (first | exact hs6 | exact hH1 | exact keepR hH1 (Below.refl _ _).drew | go_keep)
                  clear hK K
                  (try simp only [Act.put, List.setIfInBounds_toArray, List.set_cons_zero, List.set_cons_succ])
                  clear hH1
                  refine wpAnyH_take (i := 36) (oi := { dst := some 120, op := Op.binOp BinOp.lss 3 (Operand.tmp 117) (Operand.tmp 119) 3, type := 4, pos := "law.go:89", after := #[{ on := 33, ground := Ground.data }, { on := 35, ground := Ground.data }, { on := 31, ground := Ground.guard }], guard := some (31, false) }) (v := ?_) rfl (by kernel_rfl) (by kernel_rfl) (by kernel_rfl) (fun _ _ _ h => h) (Or.inl ⟨by rfl, ?_⟩) (by assumption) ?_
                  rotate_left
                  · (intro w hSw; (try dsimp only at hSw); go_simp <;> with_reducible rfl)
                  (try simp only [Act.put, List.setIfInBounds_toArray, List.set_cons_zero, List.set_cons_succ])
                  refine wpAnyH_take (i := 37) (oi := { dst := some 121, op := Op.pick (Operand.tmp 115) (Operand.const (Value.bool true)) (Operand.tmp 120), type := 4, pos := "law.go:89", after := #[{ on := 31, ground := Ground.data }, { on := 36, ground := Ground.data }], guard := none }) (v := ?_) rfl (by kernel_rfl) (by kernel_rfl) (by kernel_rfl) (fun _ _ _ h => h) (Or.inl ⟨by rfl, ?_⟩) (by assumption) ?_
                  rotate_left
                  · (intro w hSw; (try dsimp only at hSw); go_simp <;> with_reducible rfl)
                  (try simp only [Act.put, List.setIfInBounds_toArray, List.set_cons_zero, List.set_cons_succ])
                  refine wpAnyH_done (by kernel_rfl) ?_ _
                  refine NoPanic.normal ?_
                  obtain ⟨l6, a6, x6, t6, _⟩ := id hs6
                  have T6' : Bx _ b tp := t6
                  obtain ⟨y0, y1, y2, z0, z1, z2⟩ := box_cells T6'
                  obtain ⟨x0, x1, x2, _⟩ := box_cells (x := .int .i64 k.r) (y := .int .i64 0) (z := .int .i64 a0) x6
                  have HZ := Lib.hid (show RiR w _ g b a0 ⟨k.r, ⟨k.r, 0, a0⟩⟩ ⟨k.r, 0, a0⟩ from ⟨CkAt.box a6 HR.out.ne.symm (.int .i64 k.r) (.int .i64 0) (.int .i64 a0), t6.set ⟨k.r, 0, a0⟩, HOK.out, below3 l6 HR.out.hb (.int .i64 k.r) (.int .i64 0) (.int .i64 a0), HR.out.hg, HR.out.hb, HR.out.ne, rfl, rfl, rfl⟩)
                  clear l6 a6 x6 t6 T6' hs6
                  go_wp2
                  go_roundw
                  case rel => exact ⟨j + 1, _, _, by go_num, by omega, HZ⟩
                  case measure => simp [intOf]; omega
                exact AllReadyH.nil
              exact AllReadyH.nil
            · have HT : Hid (tickS k = ⟨tp.w, tp.l + 1, a0⟩ ∧ tickC k = ⟨k.r, ⟨tp.w, tp.l + 1, a0⟩⟩ ∧ tickE k = 0) := by
                have ht : tellS k = ⟨tp.w, tp.l + 1, a0⟩ := by unfold tellS; rw [if_neg hw, HR.out.en, HR.out.ew, HR.out.el]
                refine ⟨?_, ?_, ?_⟩
                · unfold tickS; rw [if_neg ho, ht]
                · unfold tickC; rw [if_neg ho, ht]
                · unfold tickE; rw [if_neg ho]
              have HOK : Hid (CkOk ⟨k.r, ⟨tp.w, tp.l + 1, a0⟩⟩) := by show CkOk _; rw [← HT.out.2.1]; exact tickC_ok HR.out.ok
              have g1 : ¬ tp.w < tp.w := by omega
              have g2 : (tp.w == tp.w) = true := by simp
              have g4 : decide (tp.l + 1 ≤ tp.l) = false := decide_eq_false (by omega)
              have g3 : decide (tp.w < k.r) = false := decide_eq_false (by have := HR.out.ew; omega)
              clear ho hw
              have q1 := tick_as g k ⟨tp.w, tp.l + 1, a0⟩ ⟨k.r, ⟨tp.w, tp.l + 1, a0⟩⟩ 0 HT.out.1 HT.out.2.1 HT.out.2.2 wr HR.out.c HR.out.ok
              go_wp2_with (go_at_call 14; (with_reducible refine q1.mono ?_))
              rintro e W5 ⟨rfl, A5, K5⟩
              have X5 : (W5.alloc (.cells #[.int .i64 tp.w, .int .i64 (tp.l + 1), .int .i64 a0] 32)).heap[W5.heap.size]? = some (.cells #[.int .i64 tp.w, .int .i64 (tp.l + 1), .int .i64 a0] 32 (0, 0)) := heap_alloc_new _ _
              obtain ⟨x0, x1, x2, _⟩ := box_cells X5
              have T5 := (HR.out.t.kept K5 HR.out.ne).alloc (.cells #[.int .i64 tp.w, .int .i64 (tp.l + 1), .int .i64 a0] 32)
              have T5' : (W5.alloc (.cells #[.int .i64 tp.w, .int .i64 (tp.l + 1), .int .i64 a0] 32)).heap[b]? = some (.cells #[.int .i64 tp.w, .int .i64 tp.l, .int .i64 tp.n] 32 (0, 0)) := T5
              obtain ⟨y0, y1, y2, _⟩ := box_cells T5'
              have hlow := (kept_below HR.out.low K5 HR.out.hg (Nat.le_refl _)).alloc (kept_below HR.out.low K5 HR.out.hg (Nat.le_refl _)).size (.cells #[.int .i64 tp.w, .int .i64 (tp.l + 1), .int .i64 a0] 32)
              have HS5 := Lib.hid (show (fun w' => Below w.heap.size w w' ∧ CkAt w' g ⟨k.r, ⟨tp.w, tp.l + 1, a0⟩⟩ ∧ Bx w' W5.heap.size ⟨tp.w, tp.l + 1, a0⟩ ∧ Bx w' b tp ∧ (w'.cell? ⟨W5.heap.size, 0, none⟩ = some (.int .i64 tp.w) ∧ w'.cell? ⟨W5.heap.size, 1, none⟩ = some (.int .i64 (tp.l + 1)) ∧ w'.cell? ⟨W5.heap.size, 2, none⟩ = some (.int .i64 a0)) ∧ w'.cell? ⟨b, 0, none⟩ = some (.int .i64 tp.w) ∧ w'.cell? ⟨b, 1, none⟩ = some (.int .i64 tp.l)) (W5.alloc (.cells #[.int .i64 tp.w, .int .i64 (tp.l + 1), .int .i64 a0] 32)).drew from ⟨hlow.drew, A5.alloc _, X5, T5, ⟨x0, x1, x2⟩, y0, y1⟩)
              have C4 := Lib.hid (fun wx (h : CkAt wx g ⟨k.r, ⟨tp.w, tp.l + 1, a0⟩⟩) => (show Calls Try.prog 18 #[.pointer (some ⟨g, 0, none⟩)] wx (TelPost (.agg #[.int .i64 tp.w, .int .i64 (tp.l + 1), .int .i64 a0]) wx) from now_any g _ wx h))
              have C7 := Lib.hid (fun wx (h : CkAt wx g ⟨k.r, ⟨tp.w, tp.l + 1, a0⟩⟩) => (show Calls Try.prog 20 #[.pointer (some ⟨g, 0, none⟩)] wx (fun e w' => e = .returned (.int .i64 k.r) ∧ wx = w') from reading_any g ⟨k.r, ⟨tp.w, tp.l + 1, a0⟩⟩ wx h))
              have hE : ∀ V, (Op.equalIn 10000 32 (.agg #[.int .i64 tp.w, .int .i64 (tp.l + 1), .int .i64 a0]) (.agg #[.int .i64 tp.w, .int .i64 (tp.l + 1), .int .i64 a0])).run Try.prog V = .ok true V := fun V => by
                have := eq_stamp ⟨tp.w, tp.l + 1, a0⟩ ⟨tp.w, tp.l + 1, a0⟩ V
                rw [decide_eq_true rfl] at this
                exact this
              clear A5 K5 q1 x0 x1 x2 y0 y1 y2 X5 T5 T5' hlow
              go_wp2_with fail
              go_region_held3 (fun w' => Below w.heap.size w w' ∧ CkAt w' g ⟨k.r, ⟨tp.w, tp.l + 1, a0⟩⟩ ∧ Bx w' W5.heap.size ⟨tp.w, tp.l + 1, a0⟩ ∧ Bx w' b tp ∧ (w'.cell? ⟨W5.heap.size, 0, none⟩ = some (.int .i64 tp.w) ∧ w'.cell? ⟨W5.heap.size, 1, none⟩ = some (.int .i64 (tp.l + 1)) ∧ w'.cell? ⟨W5.heap.size, 2, none⟩ = some (.int .i64 a0)) ∧ w'.cell? ⟨b, 0, none⟩ = some (.int .i64 tp.w) ∧ w'.cell? ⟨b, 1, none⟩ = some (.int .i64 tp.l))
                (first | exact HS5.out | exact hs6 | exact keepR (by assumption) (Below.refl _ _).drew | go_keep)
                (first
              | (go_at_call 18; (with_reducible refine (C4.out _ (And.left (And.right (by assumption)))).mono ?_); rintro e W6 ⟨rfl, b6⟩; have hs6 := keepR (by assumption) b6)
              | (go_at_call 20; (with_reducible refine (C7.out _ (And.left (And.right (by assumption)))).mono ?_); rintro e W7 ⟨rfl, rfl⟩))
              all_goals (
                obtain ⟨l6, a6, x6, t6, _⟩ := id hs6
                have T6' : Bx _ b tp := t6
                obtain ⟨y0, y1, y2, z0, z1, z2⟩ := box_cells T6'
                obtain ⟨x0, x1, x2, _⟩ := box_cells (x := .int .i64 tp.w) (y := .int .i64 (tp.l + 1)) (z := .int .i64 a0) x6
                have HZ := Lib.hid (show RiR w _ g b a0 ⟨k.r, ⟨tp.w, tp.l + 1, a0⟩⟩ ⟨tp.w, tp.l + 1, a0⟩ from ⟨CkAt.box a6 HR.out.ne.symm (.int .i64 tp.w) (.int .i64 (tp.l + 1)) (.int .i64 a0), t6.set ⟨tp.w, tp.l + 1, a0⟩, HOK.out, below3 l6 HR.out.hb (.int .i64 tp.w) (.int .i64 (tp.l + 1)) (.int .i64 a0), HR.out.hg, HR.out.hb, HR.out.ne, rfl, rfl, rfl⟩)
                clear l6 a6 x6 t6 T6' hs6
                go_wp2
                go_roundw
                case rel => exact ⟨j + 1, _, _, by go_num, by omega, HZ⟩
                case measure => simp [intOf]; omega)
        · by_cases k3 : kd = 3
          · subst k3
            obtain ⟨kk, hkk⟩ : ∃ kk, mergeC s k = kk := ⟨_, rfl⟩
            obtain ⟨cc, hcc⟩ : ∃ cc, mergeE s k = cc := ⟨_, rfl⟩
            have T5' : wr.heap[b]? = some (.cells #[.int .i64 tp.w, .int .i64 tp.l, .int .i64 tp.n] 32 (0, 0)) := HR.out.t
            obtain ⟨y0, y1, y2, z0, z1, z2⟩ := box_cells T5'
            have q1 := (merge_as g k s kk cc hkk hcc wr.drew HR.out.c HR.out.ok).mono (fun e w' hp => (show e = .returned (.int .i64 cc) ∧ (CkAt w' g kk ∧ Bx w' b tp ∧ Below w.heap.size w w') ∧ ((w'.cell? ⟨b, 0, none⟩ = some (.int .i64 tp.w) ∧ w'.cell? ⟨b, 1, none⟩ = some (.int .i64 tp.l) ∧ w'.cell? ⟨b, 2, none⟩ = some (.int .i64 tp.n)) ∧ w'.cell? ⟨(x.add (j * 5)).block, (x.add (j * 5)).off + 2, none⟩ = some (.int .i64 s.w) ∧ w'.cell? ⟨(x.add (j * 5)).block, (x.add (j * 5)).off + 3, none⟩ = some (.int .i64 s.l) ∧ w'.cell? ⟨(x.add (j * 5)).block, (x.add (j * 5)).off + 4, none⟩ = some (.int .i64 s.n)) from ⟨hp.1, ⟨hp.2.1, HR.out.t.kept hp.2.2.of_drew HR.out.ne, kept_below HR.out.low hp.2.2.of_drew HR.out.hg (Nat.le_refl _)⟩, ⟨(box_cells (HR.out.t.kept hp.2.2.of_drew HR.out.ne)).1, (box_cells (HR.out.t.kept hp.2.2.of_drew HR.out.ne)).2.1, (box_cells (HR.out.t.kept hp.2.2.of_drew HR.out.ne)).2.2.1⟩, kept_cell2 hx1 HR.out.hg HR.out.low.size hp.2.2.of_drew c2, kept_cell2 hx1 HR.out.hg HR.out.low.size hp.2.2.of_drew c3, kept_cell2 hx1 HR.out.hg HR.out.low.size hp.2.2.of_drew c4⟩))
            have HC := Lib.hid (show (wr.drew.cell? ⟨b, 0, none⟩ = some (.int .i64 tp.w) ∧ wr.drew.cell? ⟨b, 1, none⟩ = some (.int .i64 tp.l) ∧ wr.drew.cell? ⟨b, 2, none⟩ = some (.int .i64 tp.n)) ∧ wr.drew.cell? ⟨(x.add (j * 5)).block, (x.add (j * 5)).off + 2, none⟩ = some (.int .i64 s.w) ∧ wr.drew.cell? ⟨(x.add (j * 5)).block, (x.add (j * 5)).off + 3, none⟩ = some (.int .i64 s.l) ∧ wr.drew.cell? ⟨(x.add (j * 5)).block, (x.add (j * 5)).off + 4, none⟩ = some (.int .i64 s.n) from ⟨⟨y0, y1, y2⟩, c2, c3, c4⟩)
            have hok : CkOk kk := by rw [← hkk]; exact mergeC_ok HR.out.ok s
            clear T5' y0 y1 y2 z0 z1 z2
            by_cases hc0 : cc = 0
            · subst hc0
              have hkn : kk.s.n = a0 := by
                rw [← hkk]
                unfold mergeC
                split
                · exact HR.out.en
                · exact HR.out.en
              obtain ⟨L, hL⟩ : ∃ L, lessB tp s = L := ⟨_, rfl⟩
              have C8 := Lib.hid (fun wx => (show Calls Try.prog 21 #[.agg #[.int .i64 tp.w, .int .i64 tp.l, .int .i64 tp.n], .agg #[.int .i64 s.w, .int .i64 s.l, .int .i64 s.n]] wx (TelPost (.bool L) wx) from hL ▸ rLess_any tp s wx))
              have HN : Hid (if L then kk.s.w = s.w ∧ kk.s.l = s.l else kk.s.w = tp.w ∧ kk.s.l = tp.l) := by
                show ite _ _ _
                have ew := HR.out.ew
                have el := HR.out.el
                by_cases ha : aheadB s k = true
                · have ha2 := of_decide_eq_true ha
                  have hk2 : kk = ⟨k.r, ⟨s.w, s.l, k.s.n⟩⟩ := by rw [← hkk]; unfold mergeC; rw [if_pos ⟨hcc, ha⟩]
                  have hL2 : L = true := by
                    rw [← hL]
                    unfold lessB
                    by_cases e1 : tp.w = s.w
                    · rw [if_neg (by simpa using e1), if_pos (by omega)]
                      exact decide_eq_true (by omega)
                    · rw [if_pos e1]
                      exact decide_eq_true (by omega)
                  rw [hL2, hk2]
                  exact ⟨rfl, rfl⟩
                · have ha2 : ¬ (k.s.w < s.w ∨ (k.s.w = s.w ∧ k.s.l < s.l)) := fun e => ha (decide_eq_true e)
                  have hk2 : kk = k := by rw [← hkk]; unfold mergeC; rw [if_neg (fun e => ha e.2)]
                  rw [hk2]
                  cases L with
                  | false => exact ⟨ew, el⟩
                  | true =>
                    unfold lessB at hL
                    by_cases e1 : tp.w = s.w
                    · by_cases e2 : tp.l = s.l
                      · exact ⟨by omega, by omega⟩
                      · rw [if_neg (by simpa using e1), if_pos e2] at hL
                        have := of_decide_eq_true hL
                        omega
                    · rw [if_pos e1] at hL
                      have := of_decide_eq_true hL
                      omega
              clear hL hkk hcc c1 c2 c3 c4
              go_wp2_with fail
              clear c0
              go_region_held3 (fun w' => (w'.cell? ⟨b, 0, none⟩ = some (.int .i64 tp.w) ∧ w'.cell? ⟨b, 1, none⟩ = some (.int .i64 tp.l) ∧ w'.cell? ⟨b, 2, none⟩ = some (.int .i64 tp.n)) ∧ w'.cell? ⟨(x.add (j * 5)).block, (x.add (j * 5)).off + 2, none⟩ = some (.int .i64 s.w) ∧ w'.cell? ⟨(x.add (j * 5)).block, (x.add (j * 5)).off + 3, none⟩ = some (.int .i64 s.l) ∧ w'.cell? ⟨(x.add (j * 5)).block, (x.add (j * 5)).off + 4, none⟩ = some (.int .i64 s.n))
                (first | exact HC.out | exact e6 | exact e7 | go_keep)
                (first
                  | (go_at_call 16; refine q1.mono ?_; rintro e W6 ⟨rfl, H6, e6⟩)
                  | (go_at_call 21; (with_reducible refine (C8.out _).mono ?_); rintro e W7 ⟨rfl, b7⟩; have e7 := keepS e6 b7))
              all_goals (
                have A7 := H6.1.later b7
                have T7 := H6.2.1.later b7
                have B7 := H6.2.2.trans (b7.mono H6.2.2.size)
                obtain ⟨⟨y0, y1, y2⟩, c2, c3, c4⟩ := id e7
                obtain ⟨_, _, _, z0, z1, z2⟩ := box_cells T7
                have HA7 := Lib.hid A7
                have HT7 := Lib.hid T7
                have HB7 := Lib.hid B7
                clear A7 T7 B7 H6 e6 e7 b7 q1 HC
                cases L with
                | true =>
                  have HZ := Lib.hid (show RiR w _ g b a0 kk s from ⟨CkAt.box HA7.out HR.out.ne.symm (.int .i64 s.w) (.int .i64 s.l) (.int .i64 s.n), HT7.out.set s, hok, below3 HB7.out HR.out.hb (.int .i64 s.w) (.int .i64 s.l) (.int .i64 s.n), HR.out.hg, HR.out.hb, HR.out.ne, HN.out.1, HN.out.2, hkn⟩)
                  clear hkn hok
                  go_wp2
                  go_roundw
                  case rel => exact ⟨j + 1, _, _, by go_num, by omega, HZ⟩
                  case measure => simp [intOf]; omega
                | false =>
                  have HZ := Lib.hid (show RiR w _ g b a0 kk tp from ⟨HA7.out, HT7.out, hok, HB7.out, HR.out.hg, HR.out.hb, HR.out.ne, HN.out.1, HN.out.2, hkn⟩)
                  clear hkn hok
                  go_wp2
                  go_roundw
                  case rel => exact ⟨j + 1, _, _, by go_num, by omega, HZ⟩
                  case measure => simp [intOf]; omega)
            · have hk2 : k = kk := by rw [← hkk]; unfold mergeC; rw [if_neg (fun e => hc0 (hcc.symm.trans e.1))]
              have hc1 : (cc == 0) = false := by simpa using hc0
              have HK2 := Lib.hid hk2
              clear hk2 hkk hcc hc0 c1 c2 c3 c4
              go_wp2_with fail
              clear c0
              refine wp_region_noPanic ?_
              refine wp_region_held_drew (S := (fun w' => (w'.cell? ⟨b, 0, none⟩ = some (.int .i64 tp.w) ∧ w'.cell? ⟨b, 1, none⟩ = some (.int .i64 tp.l) ∧ w'.cell? ⟨b, 2, none⟩ = some (.int .i64 tp.n)) ∧ w'.cell? ⟨(x.add (j * 5)).block, (x.add (j * 5)).off + 2, none⟩ = some (.int .i64 s.w) ∧ w'.cell? ⟨(x.add (j * 5)).block, (x.add (j * 5)).off + 3, none⟩ = some (.int .i64 s.l) ∧ w'.cell? ⟨(x.add (j * 5)).block, (x.add (j * 5)).off + 4, none⟩ = some (.int .i64 s.n))) (by kernel_rfl) ?_ (fun hH0 => ?_)
              · (try dsimp only); exact HC.out
              refine wpAnyH_take (i := 0) (oi := { dst := some 125, op := Op.move (Operand.tmp 7), type := 24, pos := "law.go:94", after := #[], guard := none }) (v := ?_) rfl (by kernel_rfl) (by kernel_rfl) (by kernel_rfl) (fun _ _ _ h => h) (Or.inl ⟨by rfl, ?_⟩) (by assumption) ?_
              rotate_left
              · (intro w hSw; (try dsimp only at hSw); go_simp <;> with_reducible rfl)
              (try simp only [Act.put, List.setIfInBounds_toArray, List.set_cons_zero, List.set_cons_succ])
              refine wpAnyH_take (i := 1) (oi := { dst := some 126, op := Op.move (Operand.tmp 2), type := 22, pos := "law.go:94", after := #[], guard := none }) (v := ?_) rfl (by kernel_rfl) (by kernel_rfl) (by kernel_rfl) (fun _ _ _ h => h) (Or.inl ⟨by rfl, ?_⟩) (by assumption) ?_
              rotate_left
              · (intro w hSw; (try dsimp only at hSw); go_simp <;> with_reducible rfl)
              (try simp only [Act.put, List.setIfInBounds_toArray, List.set_cons_zero, List.set_cons_succ])
              refine wpAnyH_take (i := 2) (oi := { dst := some 127, op := Op.move (Operand.tmp 10), type := 3, pos := "law.go:94", after := #[], guard := none }) (v := ?_) rfl (by kernel_rfl) (by kernel_rfl) (by kernel_rfl) (fun _ _ _ h => h) (Or.inl ⟨by rfl, ?_⟩) (by assumption) ?_
              rotate_left
              · (intro w hSw; (try dsimp only at hSw); go_simp <;> with_reducible rfl)
              (try simp only [Act.put, List.setIfInBounds_toArray, List.set_cons_zero, List.set_cons_succ])
              refine wpAnyH_take (i := 3) (oi := { dst := some 128, op := Op.indexAddr 22 (Operand.tmp 126) (Operand.tmp 127), type := 0, pos := "law.go:94", after := #[{ on := 1, ground := Ground.data }, { on := 2, ground := Ground.data }], guard := none }) (v := ?_) rfl (by kernel_rfl) (by kernel_rfl) (by kernel_rfl) (fun _ _ _ h => h) (Or.inl ⟨by rfl, ?_⟩) (by assumption) ?_
              rotate_left
              · (intro w hSw; (try dsimp only at hSw); go_simp <;> with_reducible rfl)
              (try simp only [Act.put, List.setIfInBounds_toArray, List.set_cons_zero, List.set_cons_succ])
              refine wpAnyH_take (i := 4) (oi := { dst := some 129, op := Op.fieldAddr 34 (Operand.tmp 128) 2, type := 0, pos := "law.go:94", after := #[{ on := 3, ground := Ground.data }], guard := none }) (v := ?_) rfl (by kernel_rfl) (by kernel_rfl) (by kernel_rfl) (fun _ _ _ h => h) (Or.inl ⟨by rfl, ?_⟩) (by assumption) ?_
              rotate_left
              · (intro w hSw; (try dsimp only at hSw); go_simp <;> with_reducible rfl)
              (try simp only [Act.put, List.setIfInBounds_toArray, List.set_cons_zero, List.set_cons_succ])
              refine wpAnyH_take (i := 5) (oi := { dst := some 130, op := Op.load 32 (Operand.tmp 129), type := 32, pos := "law.go:94", after := #[{ on := 4, ground := Ground.data }], guard := none }) (v := ?_) rfl (by kernel_rfl) (by kernel_rfl) (by kernel_rfl) (fun _ _ _ h => h) (Or.inl ⟨by rfl, ?_⟩) (by assumption) ?_
              rotate_left
              · (intro w hSw; (try dsimp only at hSw); go_simp <;> with_reducible rfl)
              (try simp only [Act.put, List.setIfInBounds_toArray, List.set_cons_zero, List.set_cons_succ])
              refine wpAnyH_ready (rs := [6]) (by kernel_rfl) (by simp) ?_
              refine AllReadyH.cons (o := { dst := some 131, op := Op.call { callee := Callee.value (Operand.func 16), args := #[Operand.tmp 125, Operand.tmp 130], argTypes := #[24, 32] }, type := 25, pos := "law.go:94", after := #[{ on := 0, ground := Ground.data }, { on := 5, ground := Ground.data }], guard := none }) rfl (fun K hK => ?_) ?_
              · go_simp
                (go_at_call 16; refine q1.mono ?_; rintro e W6 ⟨rfl, H6, e6⟩)
                try (go_wp2_with fail)
                refine hK.out _ _ ?_ (fun hH1 => ?_)
                · (try dsimp only); (first | exact e6 | exact hH0 | go_keep)
                clear hK K
                (try simp only [Act.put, List.setIfInBounds_toArray, List.set_cons_zero, List.set_cons_succ])
                clear hH0
                refine wpAnyH_take (i := 7) (oi := { dst := some 132, op := Op.binOp BinOp.eql 25 (Operand.tmp 131) (Operand.const (Value.int IntKind.i64 0)) 25, type := 4, pos := "law.go:94", after := #[{ on := 6, ground := Ground.data }], guard := none }) (v := ?_) rfl (by kernel_rfl) (by kernel_rfl) (by kernel_rfl) (fun _ _ _ h => h) (Or.inl ⟨by rfl, ?_⟩) (by assumption) ?_
                rotate_left
                · (intro w hSw; (try dsimp only at hSw); go_simp <;> with_reducible rfl)
                (try simp only [Act.put, List.setIfInBounds_toArray, List.set_cons_zero, List.set_cons_succ])
                refine wpAnyH_take (i := 8) (oi := { dst := some 133, op := Op.move (Operand.tmp 132), type := 4, pos := "law.go:94", after := #[{ on := 7, ground := Ground.data }, { on := 6, ground := Ground.chain }], guard := none }) (v := ?_) rfl (by kernel_rfl) (by kernel_rfl) (by kernel_rfl) (fun _ _ _ h => h) (Or.inl ⟨by rfl, ?_⟩) (by assumption) ?_
                rotate_left
                · (intro w hSw; (try dsimp only at hSw); go_simp <;> with_reducible rfl)
                (try simp only [Act.put, List.setIfInBounds_toArray, List.set_cons_zero, List.set_cons_succ])
                refine wpAnyH_take (i := 9) (oi := { dst := some 134, op := Op.load 32 (Operand.tmp 9), type := 32, pos := "law.go:94", after := #[{ on := 8, ground := Ground.guard }], guard := some (8, true) }) (v := undef) rfl (by kernel_rfl) (by kernel_rfl) (by kernel_rfl) (fun _ _ _ h => h) (Or.inr ⟨by rfl, rfl⟩) (by assumption) ?_
                (try simp only [Act.put, List.setIfInBounds_toArray, List.set_cons_zero, List.set_cons_succ])
                refine wpAnyH_take (i := 10) (oi := { dst := some 135, op := Op.move (Operand.tmp 2), type := 22, pos := "law.go:94", after := #[{ on := 8, ground := Ground.guard }], guard := some (8, true) }) (v := undef) rfl (by kernel_rfl) (by kernel_rfl) (by kernel_rfl) (fun _ _ _ h => h) (Or.inr ⟨by rfl, rfl⟩) (by assumption) ?_
                (try simp only [Act.put, List.setIfInBounds_toArray, List.set_cons_zero, List.set_cons_succ])
                refine wpAnyH_take (i := 11) (oi := { dst := some 136, op := Op.move (Operand.tmp 10), type := 3, pos := "law.go:94", after := #[{ on := 8, ground := Ground.guard }], guard := some (8, true) }) (v := undef) rfl (by kernel_rfl) (by kernel_rfl) (by kernel_rfl) (fun _ _ _ h => h) (Or.inr ⟨by rfl, rfl⟩) (by assumption) ?_
                (try simp only [Act.put, List.setIfInBounds_toArray, List.set_cons_zero, List.set_cons_succ])
                refine wpAnyH_take (i := 12) (oi := { dst := some 137, op := Op.indexAddr 22 (Operand.tmp 135) (Operand.tmp 136), type := 0, pos := "law.go:94", after := #[{ on := 10, ground := Ground.data }, { on := 11, ground := Ground.data }, { on := 8, ground := Ground.guard }], guard := some (8, true) }) (v := undef) rfl (by kernel_rfl) (by kernel_rfl) (by kernel_rfl) (fun _ _ _ h => h) (Or.inr ⟨by rfl, rfl⟩) (by assumption) ?_
                (try simp only [Act.put, List.setIfInBounds_toArray, List.set_cons_zero, List.set_cons_succ])
                refine wpAnyH_take (i := 13) (oi := { dst := some 138, op := Op.fieldAddr 34 (Operand.tmp 137) 2, type := 0, pos := "law.go:94", after := #[{ on := 12, ground := Ground.data }, { on := 8, ground := Ground.guard }], guard := some (8, true) }) (v := undef) rfl (by kernel_rfl) (by kernel_rfl) (by kernel_rfl) (fun _ _ _ h => h) (Or.inr ⟨by rfl, rfl⟩) (by assumption) ?_
                (try simp only [Act.put, List.setIfInBounds_toArray, List.set_cons_zero, List.set_cons_succ])
                refine wpAnyH_take (i := 14) (oi := { dst := some 139, op := Op.load 32 (Operand.tmp 138), type := 32, pos := "law.go:94", after := #[{ on := 13, ground := Ground.data }, { on := 8, ground := Ground.guard }], guard := some (8, true) }) (v := undef) rfl (by kernel_rfl) (by kernel_rfl) (by kernel_rfl) (fun _ _ _ h => h) (Or.inr ⟨by rfl, rfl⟩) (by assumption) ?_
                (try simp only [Act.put, List.setIfInBounds_toArray, List.set_cons_zero, List.set_cons_succ])
                refine wpAnyH_ready (rs := [15]) (by kernel_rfl) (by simp) ?_
                refine AllReadyH.cons (o := { dst := some 140, op := Op.call { callee := Callee.value (Operand.func 21), args := #[Operand.tmp 134, Operand.tmp 139], argTypes := #[32, 32] }, type := 4, pos := "law.go:94", after := #[{ on := 9, ground := Ground.data }, { on := 14, ground := Ground.data }, { on := 8, ground := Ground.chain }, { on := 8, ground := Ground.guard }], guard := some (8, true) }) rfl (fun K hK => ?_) ?_
                · go_simp
                  refine hK.out _ _ ?_ (fun hH2 => ?_)
                  · (try dsimp only); (first | exact e6 | exact hH1 | go_keep)
                  clear hK K
                  (try simp only [Act.put, List.setIfInBounds_toArray, List.set_cons_zero, List.set_cons_succ])
                  clear hH1
                  refine wpAnyH_take (i := 16) (oi := { dst := some 141, op := Op.pick (Operand.tmp 133) (Operand.tmp 140) (Operand.const (Value.bool false)), type := 4, pos := "law.go:94", after := #[{ on := 8, ground := Ground.data }, { on := 15, ground := Ground.data }], guard := none }) (v := ?_) rfl (by kernel_rfl) (by kernel_rfl) (by kernel_rfl) (fun _ _ _ h => h) (Or.inl ⟨by rfl, ?_⟩) (by assumption) ?_
                  rotate_left
                  · (intro w hSw; (try dsimp only at hSw); go_simp <;> with_reducible rfl)
                  (try simp only [Act.put, List.setIfInBounds_toArray, List.set_cons_zero, List.set_cons_succ])
                  refine wpAnyH_done (by kernel_rfl) ?_ _
                  refine NoPanic.normal ?_
                  have HZ := Lib.hid (show RiR w _ g b a0 kk tp from ⟨H6.1, H6.2.1, hok, H6.2.2, HR.out.hg, HR.out.hb, HR.out.ne, by rw [← HK2.out]; exact HR.out.ew, by rw [← HK2.out]; exact HR.out.el, by rw [← HK2.out]; exact HR.out.en⟩)
                  clear H6 e6 hok q1
                  go_wp2
                  go_roundw
                  case rel => exact ⟨j + 1, _, _, by go_num, by omega, HZ⟩
                  case measure => simp [intOf]; omega
                exact AllReadyH.nil
              exact AllReadyH.nil
          · have e1 : (kd == 1) = false := by simpa using k1
            have e2 : (kd == 2) = false := by simpa using k2
            have e3 : (kd == 3) = false := by simpa using k3
            have HZ := HR
            go_wp2
            go_roundw
            case rel => exact ⟨j + 1, _, _, by go_num, by omega, HZ⟩
            case measure => simp [intOf]; omega
    · go_wp2_with (go_at_call 9; (with_reducible refine (c6 _).mono ?_); rintro e W ⟨rfl, b⟩)
      go_ret
      exact ⟨rfl, HR.out.low.trans (b.mono HR.out.low.size)⟩

end Go.Proofs.Ytnlpbldpbnlekaa
