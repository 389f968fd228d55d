/-
  EventMakes.
-/
import Derived.Test.YtggognmbjgkdfaaMkC
import Derived.Test.YtggognmbjgkdfaaEvArg
set_option linter.unusedVariables false
namespace Go.Proofs.Ytggognmbjgkdfaa
open Go.RowKit

theorem make_p (b : Ba) (a : Option Addr) (n c : Nat) (fs : List Int) (fa : Option Addr) (fn fc : Nat) (s : Sm) (ix : Int) (L : List Ev) (hL : makeL b.p fs s ix = L) (w : World) (hs : baSum b ≤ 1000000) (hl : b.p.length = n) (h : PtsIn w a b.p)
    (hfl : fs.length = fn) (hfn : fn ≤ 1000000) (hf : IntsIn w fa fs) (hfb : ∀ f ∈ fs, -2199023255552 ≤ f ∧ f ≤ 2199023255552) (hi0 : -2199023255552 ≤ ix) (hi1 : ix ≤ 2199023255552) :
    Calls Try.prog 32 #[.agg #[.string b.k, .slice a n c], .slice fa fn fc, .agg #[.int .i64 s.w, .int .i64 s.l, .int .i64 s.n], .int .i64 ix] w (EvsPost w.heap.size L w) := by
  subst hL
  exact make_any b a n c fs fa fn fc s ix w hs hl h hfl hfn hf hfb hi0 hi1
theorem rMake_p (b : Ba) (a : Option Addr) (n c : Nat) (fs : List Int) (fa : Option Addr) (fn fc : Nat) (s : Sm) (ix : Int) (L : List Ev) (hL : makeL b.p fs s ix = L) (w : World) (hs : baSum b ≤ 1000000) (hl : b.p.length = n) (h : PtsIn w a b.p)
    (hfl : fs.length = fn) (hfn : fn ≤ 1000000) (hf : IntsIn w fa fs) (hfb : ∀ f ∈ fs, -2199023255552 ≤ f ∧ f ≤ 2199023255552) (hi0 : -2199023255552 ≤ ix) (hi1 : ix ≤ 2199023255552) :
    Calls Try.prog 33 #[.agg #[.string b.k, .slice a n c], .slice fa fn fc, .agg #[.int .i64 s.w, .int .i64 s.l, .int .i64 s.n], .int .i64 ix] w (EvsPost w.heap.size L w) := by
  subst hL
  exact rMake_any b a n c fs fa fn fc s ix w hs hl h hfl hfn hf hfb hi0 hi1
theorem makeL_len {b : Ba} (hs : baSum b ≤ 1000000) (fs : List Int) (s : Sm) (ix : Int) : (makeL b.p fs s ix).length ≤ 1000000 := by
  unfold makeL
  rw [mkUpto_len _ _ _ _ _ (Nat.le_refl _)]
  exact dLens_le hs _

theorem aBatch_6 (b : Ba) (a : Option Addr) (n c : Nat) (w : World) (hf : BaFit b) (hl : b.p.length = n) (h : PtsIn w a b.p) :
    Calls Try.prog 10 #[.agg #[.string b.k, .slice a n c], .int .i64 6000] w (TotP 6000 (baSum b) w) := by
  subst hl
  exact aBatch_any b a c 6000 w hf (by omega) h
/-- What awake leaves. -/
theorem aw_t (w wx : World) (hb : Below w.heap.size w wx) : Calls Try.prog 11 #[] wx (TelPost (.bool true) w) :=
  (awake_any wx).mono fun e w' ⟨he, hb'⟩ => ⟨he, hb.trans (hb'.mono hb.size)⟩

theorem sameEvs' (a b : Option Addr) (n m ca cb : Nat) (l : List Ev) (w : World) (hn : n = l.length) (hm : m = l.length) (hl : l.length ≤ 1000000) (ha : EvsIn w a l) (hb : EvsIn w b l) :
    Calls Try.prog 31 #[.slice a n ca, .slice b m cb] w (TelPost (.bool true) w) := by
  subst hn hm
  exact sameEvs a b _ ca cb l w rfl hl ha hb
theorem keep5 {w V W : World} {a1 a2 a3 a4 a5 : Addr} {u1 u2 u3 u4 u5 : Value} (h : Below w.heap.size w V ∧ V.cell? a1 = some u1 ∧ V.cell? a2 = some u2 ∧ V.cell? a3 = some u3 ∧ V.cell? a4 = some u4 ∧ V.cell? a5 = some u5) (hb : Below V.heap.size V W) :
    Below w.heap.size w W ∧ W.cell? a1 = some u1 ∧ W.cell? a2 = some u2 ∧ W.cell? a3 = some u3 ∧ W.cell? a4 = some u4 ∧ W.cell? a5 = some u5 :=
  ⟨h.1.trans (hb.mono h.1.size), cell_later hb h.2.1, cell_later hb h.2.2.1, cell_later hb h.2.2.2.1, cell_later hb h.2.2.2.2.1, cell_later hb h.2.2.2.2.2⟩

set_option maxHeartbeats 8000000 in
set_option maxRecDepth 100000 in
theorem EventMakes_body (b : Ba) (a : Option Addr) (n c : Nat) (fs : List Int) (fa : Option Addr) (fn fc : Nat) (s : Sm) (ix : Int) (w : World) (h0 : BaIn w b a n c) (hfl : fs.length = fn) (hfm : fn ≤ maxLen) (hf : IntsIn w fa fs) (hi : InI ix) :
    Calls Try.prog 6 #[.agg #[.string b.k, .slice a n c], .slice fa fn fc, .agg #[.int .i64 s.w, .int .i64 s.l, .int .i64 s.n], .int .i64 ix] w (TelPost (.bool true) w) := by
  have bA := ((Below.refl w.heap.size w).alloc (Nat.le_refl _) (.cells #[.string b.k, .slice a n c] 24)).alloc (by simp) (.cells #[.int .i64 s.w, .int .i64 s.l, .int .i64 s.n] 40)
  have gA := box_alloc (heap_alloc_new w (.cells #[.string b.k, .slice a n c] 24)) (.cells #[.int .i64 s.w, .int .i64 s.l, .int .i64 s.n] 40)
  have gB := heap_alloc_new (w.alloc (.cells #[.string b.k, .slice a n c] 24)) (.cells #[.int .i64 s.w, .int .i64 s.l, .int .i64 s.n] 40)
  rw [World.size_alloc] at gB
  have hfm' := hfm
  unfold maxLen at hfm'
  have hn := h0.fit.n
  rw [h0.len] at hn
  unfold maxLen at hn
  obtain ⟨i0, i1⟩ := hi
  have cA := aBatch_6 b a n c _ h0.fit h0.len (h0.at_.later bA)
  have HI := Lib.hid h0
  have HBA := Lib.hid bA
  have HGA := Lib.hid gA
  have HGB := Lib.hid gB
  have HF := Lib.hid hf
  have HFL := Lib.hid hfl.symm
  clear bA gA gB h0 hf hfl
  go_enter Try.func6, Try.ntmps6
  go_wp2_with (go_at_call 10; (with_reducible refine cA.mono ?_))
  rintro e W1 ⟨t, rfl, ht, hS, b1⟩
  have HB1 := Lib.hid (HBA.out.trans (b1.mono (by simp; omega)))
  have HG1 := Lib.hid (box_below HGA.out b1 (by simp; omega))
  have HG2 := Lib.hid (box_below HGB.out b1 (by simp))
  have HSS := Lib.hid hS
  clear b1 hS cA HBA HGA HGB
  have cW := fun wx hb => aw_t w wx hb
  by_cases hbad : 6000 < t ∨ 100 < fn ∨ ix < -1099511627776 ∨ 1099511627776 < ix
  · have hz := HB1.out
    by_cases c1 : (6000 : Int) < (t : Int)
    · go_wp2_with (go_at_call 11; (with_reducible refine (cW _ HB1.out).mono ?_))
      rintro e W2 ⟨rfl, b2⟩
      go_wp2
      go_ret
      exact ⟨rfl, b2⟩
    by_cases c2 : (100 : Int) < (fn : Int)
    · go_wp2_with (go_at_call 11; (with_reducible refine (cW _ HB1.out).mono ?_))
      rintro e W2 ⟨rfl, b2⟩
      go_wp2
      go_ret
      exact ⟨rfl, b2⟩
    by_cases c3 : ix < -1099511627776
    · go_wp2_with (go_at_call 11; (with_reducible refine (cW _ HB1.out).mono ?_))
      rintro e W2 ⟨rfl, b2⟩
      go_wp2
      go_ret
      exact ⟨rfl, b2⟩
    have c4 : 1099511627776 < ix := by omega
    go_wp2_with (go_at_call 11; (with_reducible refine (cW _ HB1.out).mono ?_))
    rintro e W2 ⟨rfl, b2⟩
    go_wp2
    go_ret
    exact ⟨rfl, b2⟩
  · have hS := HSS.out (by omega)
    have ht1 : ¬ (6000 : Int) < (t : Int) := by omega
    have hf1 : ¬ (100 : Int) < (fn : Int) := by omega
    have hi1 : ¬ ix < -1099511627776 := by omega
    have hi2 : ¬ 1099511627776 < ix := by omega
    clear hbad
    have hba : baSum b ≤ 6000 := hS.1
    have HBA := Lib.hid hba
    clear hS hba
    go_wp2
    go_loopw [9] (fun i wr => ∃ j : Nat, i = .int .i64 j ∧ j ≤ fn ∧ wr = W1 ∧ ∀ f ∈ fs.take j, -1099511627776 ≤ f ∧ f ≤ 1099511627776) (fun i _ => fn - (intOf i).toNat)
    case atStart => exact ⟨0, rfl, Nat.zero_le _, rfl, fun f hf => by simp at hf⟩
    case round =>
      obtain ⟨j, rfl, hj, hwr, hall⟩ := hrel
      subst hwr
      have HAL := Lib.hid hall
      clear hall
      by_cases hlt : j < fn
      · have hlt2 : j < fs.length := by have := HFL.out; omega
        obtain ⟨x, rfl, hx0⟩ := HF.out j hlt2
        have hx := cell_later HB1.out hx0
        have HNX : Hid (∀ f ∈ fs.take (j + 1), f ∈ fs.take j ∨ f = fs[j]'hlt2) := fun f hf => by
          rw [List.take_succ_eq_append_getElem hlt2, List.mem_append, List.mem_singleton] at hf
          exact hf
        obtain ⟨f, hf⟩ : ∃ f, f = fs[j]'hlt2 := ⟨_, rfl⟩
        rw [← hf] at hx HNX
        have hji0 : (0 : Int) ≤ (j : Int) := by omega
        have hji1 : (j : Int) < (fn : Int) := by omega
        clear hf hx0
        by_cases c1 : f < -1099511627776
        · go_wp2_with (go_at_call 11; (with_reducible refine (cW _ HB1.out).mono ?_))
          rintro e W2 ⟨rfl, b2⟩
          go_wp2
          go_ret
          exact ⟨rfl, b2⟩
        by_cases c2 : 1099511627776 < f
        · go_wp2_with (go_at_call 11; (with_reducible refine (cW _ HB1.out).mono ?_))
          rintro e W2 ⟨rfl, b2⟩
          go_wp2
          go_ret
          exact ⟨rfl, b2⟩
        · go_wp2
          go_roundw
          case rel => exact ⟨j + 1, by go_num, by omega, by trivial, fun g hg => by
            rcases HNX.out g hg with h | h
            · exact HAL.out g h
            · omega⟩
          case measure => simp [intOf]; omega
      · obtain rfl : j = fn := by omega
        have HAL2 : Hid (∀ f ∈ fs, -2199023255552 ≤ f ∧ f ≤ 2199023255552) := fun f hf => by
          have := HAL.out f (by rw [List.take_of_length_le (by have := HFL.out; omega)]; exact hf)
          omega
        obtain ⟨x0, x1, _⟩ := box2_cells HG1.out
        obtain ⟨y0, y1, y2, _⟩ := box_cells HG2.out
        obtain ⟨L, hL⟩ : ∃ L, makeL b.p fs s ix = L := ⟨_, rfl⟩
        have hLl : L.length ≤ 1000000 := by rw [← hL]; exact makeL_len (by have := HBA.out; omega) _ _ _
        have cM : Hid (∀ V, Below wr.heap.size wr V → Calls Try.prog 32 #[.agg #[.string b.k, .slice a n c], .slice fa j fc, .agg #[.int .i64 s.w, .int .i64 s.l, .int .i64 s.n], .int .i64 ix] V (EvsPost V.heap.size L V)) := fun V hV =>
          make_p b a n c fs fa j fc s ix L hL V (by have := HBA.out; omega) HI.out.len (HI.out.at_.later (HB1.out.trans (hV.mono HB1.out.size))) HFL.out.symm (by omega) (HF.out.later (HB1.out.trans (hV.mono HB1.out.size))) HAL2.out (by omega) (by omega)
        have cR : Hid (∀ V, Below wr.heap.size wr V → Calls Try.prog 33 #[.agg #[.string b.k, .slice a n c], .slice fa j fc, .agg #[.int .i64 s.w, .int .i64 s.l, .int .i64 s.n], .int .i64 ix] V (EvsPost V.heap.size L V)) := fun V hV =>
          rMake_p b a n c fs fa j fc s ix L hL V (by have := HBA.out; omega) HI.out.len (HI.out.at_.later (HB1.out.trans (hV.mono HB1.out.size))) HFL.out.symm (by omega) (HF.out.later (HB1.out.trans (hV.mono HB1.out.size))) HAL2.out (by omega) (by omega)
        clear hL
        go_wp2_with fail
        go_region_held3 (fun w' => Below wr.heap.size wr w' ∧ w'.cell? ⟨w.heap.size, 0, none⟩ = some (.string b.k) ∧ w'.cell? ⟨w.heap.size, 1, none⟩ = some (.slice a n c) ∧ w'.cell? ⟨w.heap.size + 1, 0, none⟩ = some (.int .i64 s.w) ∧ w'.cell? ⟨w.heap.size + 1, 1, none⟩ = some (.int .i64 s.l) ∧ w'.cell? ⟨w.heap.size + 1, 2, none⟩ = some (.int .i64 s.n))
          (first
            | exact ⟨(Below.refl _ _).drew, x0, x1, y0, y1, y2⟩
            | exact hs4
            | exact hs3
            | exact hs2
            | exact hs1
            | go_keep)
          (first
            | (go_at_call 32; (with_reducible refine (cM.out _ (And.left (by assumption))).mono ?_); rintro e V1 ⟨a1, m1, p1, rfl, rfl, o1, b1⟩; have hs1 := keep5 (by assumption) b1)
            | (go_at_call 33; (with_reducible refine (cR.out _ hs1.1).mono ?_); rintro e V2 ⟨a2, m2, p2, rfl, rfl, o2, b2⟩; have hs2 := keep5 hs1 b2)
            | (go_at_call 31; (with_reducible refine (sameEvs' a1 a2 _ _ p1 p2 L V2 rfl rfl hLl (evs_of_own (ownsLater o1 b2) rfl) (evs_of_own o2 rfl)).mono ?_); rintro e V3 ⟨rfl, b3⟩; have hs3 := keep5 hs2 b3)
            | (go_at_call 11; (with_reducible refine (awake_any V3).mono ?_); rintro e V4 ⟨rfl, b4⟩; have hs4 := keep5 hs3 b4)
            | fail)
        all_goals (
          have HB4 := Lib.hid (HB1.out.trans (hs4.1.mono HB1.out.size))
          clear hs1 hs2 hs3 hs4 b1 b2 b3 b4 o1 o2
          go_wp2
          go_ret
          exact ⟨rfl, HB4.out⟩)

theorem ints_of {w : World} {a : Option Addr} {n c : Nat} {z : List Int} (h : RowIn .i64 w a n c z) : (z.take n).length = n ∧ n ≤ c ∧ n ≤ maxLen ∧ IntsIn w a (z.take n) ∧ ∀ f ∈ z.take n, InI f := by
  rcases h with ⟨rfl, rfl, rfl, rfl⟩ | ⟨x, rfl, h1, h2, h3, h4, h5⟩
  · exact ⟨rfl, Nat.le_refl _, Nat.zero_le _, fun i hi => by simp at hi, fun f hf => by simp at hf⟩
  · refine ⟨by rw [List.length_take]; omega, h1, by omega, fun i hi => ⟨x, rfl, ?_⟩, fun f hf => ini_of (h5 f (List.mem_of_mem_take hf))⟩
    rw [List.length_take] at hi
    rw [h4 i (by omega), List.getElem_take]
    simp [List.getD_eq_getElem?_getD, List.getElem?_eq_getElem (show i < z.length by omega)]

theorem EventMakes_walk (b0 : Ba) (a0 : Option Addr) (n0 c0 : Nat) (a1 : Option Addr) (len1 cap1 : Nat) (z1 : List Int) (a2 : Sm) (a3 : Int) (w : World) (w0 : BaIn w b0 a0 n0 c0) (w1 : RowIn .i64 w a1 len1 cap1 z1) (w2 : SmI a2) (w3 : (Lit.int .i64 a3).wf = true) :
    Calls Try.prog 6 #[.agg #[.string b0.k, .slice a0 n0 c0], .slice a1 len1 cap1, .agg #[.int .i64 a2.w, .int .i64 a2.l, .int .i64 a2.n], .int .i64 a3] w fun e w' => e = .returned (.bool true) ∧ Below w.heap.size w w' :=
  EventMakes_body b0 a0 n0 c0 (z1.take len1) a1 len1 cap1 a2 a3 w w0 (ints_of w1).1 (ints_of w1).2.2.1 (ints_of w1).2.2.2.1 (ini_of w3)

end Go.Proofs.Ytggognmbjgkdfaa
