/-
  Package event's reader: its state; fail, step, number, whole, text, stamp.
-/
import Derived.Test.YtggognmbjgkdfaaEvC
import Derived.Test.YtggognmbjgkdfaaStT
import Derived.Test.YtggognmbjgkdfaaMkB
set_option linter.unusedVariables false
namespace Go.Proofs.Ytggognmbjgkdfaa
open Go.RowKit

theorem Bts.kept {S : Nat → Prop} {w w' : World} {a : Option Addr} {l : List UInt8} (h : Bts w a l) (k : Kept S w w') (hs : l ≠ [] → ∀ x, a = some x → ¬ S x.block) : Bts w' a l := by
  rcases h with h | ⟨x, hx, hc⟩
  · exact .inl h
  · refine .inr ⟨x, hx, fun j hj => ?_⟩
    have h1 := hc j hj
    have hb : (x.add j).block = x.block := by unfold Addr.add; split <;> rfl
    have hlt := World.block_lt_of_cell? w _ h1
    rw [k.cell hlt (by rw [hb]; exact hs (by intro e; rw [e] at hj; simp at hj) x hx)]
    exact h1

theorem Bts.lt {w : World} {a : Option Addr} {l : List UInt8} (h : Bts w a l) (hl : l ≠ []) (x : Addr) (hx : a = some x) : x.block < w.heap.size := by
  rcases h with h | ⟨y, hy, hc⟩
  · exact absurd h hl
  · have h0 : 0 < l.length := List.length_pos_iff.2 hl
    have := World.block_lt_of_cell? w _ (hc 0 h0)
    rw [hx] at hy
    injection hy with hy
    subst hy
    have hb : (x.add 0).block = x.block := by unfold Addr.add; split <;> rfl
    rw [hb] at this
    exact this

/-- The reader in block g: it has l before it. -/
structure RdAt (w : World) (g : Nat) (a : Option Addr) (n c : Nat) (l : List UInt8) (bad : Bool) : Prop where
  box : w.heap[g]? = some (.cells #[.slice a n c, .bool bad] 106 (0, 0))
  bts : Bts w a l
  len : l.length = n
  cap : n ≤ c
  far : l ≠ [] → ∀ x, a = some x → x.block < g
  lim : n ≤ 1000000
  end_ : bad = true → l = []
/-- What a call leaves of it. -/
def RdTo (g : Nat) (l : List UInt8) (bad : Bool) (w w' : World) : Prop := ∃ a n c, RdAt w' g a n c l bad ∧ Kept (fun k => k = g) w w'

def stL (k : Nat) (l : List UInt8) : List UInt8 := if k = 0 then [] else l.drop k
def stB (k : Nat) (bad : Bool) : Bool := if k = 0 then true else bad
def StepPost (g k : Nat) (l : List UInt8) (bad : Bool) (w : World) (e : Ending) (w' : World) : Prop := e = .returned (.tuple #[]) ∧ RdTo g (stL k l) (stB k bad) w w'

theorem RdAt.kept {w w' : World} {g : Nat} {a : Option Addr} {n c : Nat} {l : List UInt8} {bad : Bool} (h : RdAt w g a n c l bad) (hb : Below w.heap.size w w') : RdAt w' g a n c l bad :=
  ⟨box_below h.box hb (lt_of_block h.box), h.bts.later hb, h.len, h.cap, h.far, h.lim, h.end_⟩
theorem RdAt.keep {S : Nat → Prop} {w w' : World} {g : Nat} {a : Option Addr} {n c : Nat} {l : List UInt8} {bad : Bool} (h : RdAt w g a n c l bad) (k : Kept S w w') (hS : ∀ i, S i → g < i) : RdAt w' g a n c l bad :=
  ⟨(k.block g (lt_of_block h.box) (fun e => by have := hS g e; omega)).trans h.box, h.bts.kept k (fun hl x hx e => by have := hS _ e; have := h.far hl x hx; omega), h.len, h.cap, h.far, h.lim, h.end_⟩
theorem RdTo.on {S : Nat → Prop} {g : Nat} {l : List UInt8} {bad : Bool} {w w1 w' : World} (h : RdTo g l bad w w1) (k : Kept S w1 w') (hS : ∀ i, S i → w.heap.size ≤ i) (hg : g < w.heap.size) : RdTo g l bad w w' := by
  obtain ⟨a, n, c, h1, h2⟩ := h
  exact ⟨a, n, c, h1.keep k (fun i hi => by have := hS i hi; omega), h2.trans k (fun i hi e => by have := hS i e; omega)⟩
theorem RdTo.back {g : Nat} {l : List UInt8} {bad : Bool} {w w1 w' : World} (h : RdTo g l bad w1 w') (k : Kept (fun k => k = g) w w1) : RdTo g l bad w w' := by
  obtain ⟨a, n, c, h1, h2⟩ := h
  exact ⟨a, n, c, h1, k.trans h2 (fun _ _ h => h)⟩

set_option maxHeartbeats 4000000 in
set_option maxRecDepth 100000 in
theorem fail_any (g : Nat) (a : Option Addr) (n c : Nat) (l : List UInt8) (bad : Bool) (w : World) (h : RdAt w g a n c l bad) :
    Calls Try.prog 97 #[.pointer (some ⟨g, 0, none⟩)] w fun e w' => e = .returned (.tuple #[]) ∧ RdTo g [] true w w' := by
  obtain ⟨x0, x1, y0, y1⟩ := box2_cells h.box
  have HB := Lib.hid h.box
  clear h
  go_enter Try.func97, Try.ntmps97
  go_wp2
  refine bodyPost_end (v := .tuple #[]) (by simp [results, Try.results97, go_sem]) rfl ?_
  refine ⟨rfl, none, 0, 0, ⟨?_, Bts.nil _ _, rfl, Nat.le_refl _, fun hl => absurd rfl hl, by omega, fun _ => rfl⟩, ?_⟩
  · exact heap_setCell_same _ g 1 _ 106 _ (heap_setCell_same _ g 0 _ 106 _ HB.out)
  · exact ((Kept.refl (fun k => k = g) w).setCell (p := ⟨g, 0, none⟩) (fun _ => rfl) _).setCell (p := ⟨g, 1, none⟩) (fun _ => rfl) _

theorem fail_t (g : Nat) (a : Option Addr) (n c : Nat) (l : List UInt8) (bad : Bool) (w : World) (h : RdAt w g a n c l bad) :
    Calls Try.prog 97 #[.pointer (some ⟨g, 0, none⟩)] w (StepPost g 0 l bad w) := fail_any g a n c l bad w h

set_option maxHeartbeats 4000000 in
set_option maxRecDepth 100000 in
theorem step_any (g : Nat) (a : Option Addr) (n c k : Nat) (l : List UInt8) (bad : Bool) (w : World) (h : RdAt w g a n c l bad) (hk : k ≤ n) :
    Calls Try.prog 95 #[.pointer (some ⟨g, 0, none⟩), .int .i64 k] w (StepPost g k l bad w) := by
  obtain ⟨x0, x1, y0, y1⟩ := box2_cells h.box
  by_cases h0 : k = 0
  · subst h0
    have cF := fail_t g a n c l bad w h
    clear h
    go_enter Try.func95, Try.ntmps95
    go_wp2_with (go_at_call 97; (with_reducible refine cF.mono ?_))
    rintro e W1 ⟨rfl, h1⟩
    have H1 := Lib.hid h1
    clear h1 cF
    go_wp2
    refine bodyPost_ret (v := .tuple #[]) (by simp [results, Try.results95, go_sem]) rfl ?_
    exact ⟨rfl, H1.out⟩
  · have hne : ((k : Int) == 0) = false := by rw [beq_eq_false_iff_ne]; omega
    have hka : ((k : Nat) : Int) ≤ (n : Int) := by omega
    have hkc : ((k : Nat) : Int) ≤ (c : Int) := by have := h.cap; omega
    have hl : l ≠ [] := by intro e; have := h.len; rw [e] at this; simp at this; omega
    have hbad : bad = false := by cases hb : bad with
      | false => rfl
      | true => exact absurd (h.end_ hb) hl
    subst hbad
    have eL : stL k l = l.drop k := if_neg h0
    have eB : stB k false = false := if_neg h0
    have HF : Hid (∀ (A : Option Addr) (C : Nat), (C = 0 ∧ A = a ∧ c = k ∨ C = c - k ∧ A = Option.map (fun x => x.add k) a) → StepPost g k l false w (.returned (.tuple #[])) (w.setCell ⟨g, 0, none⟩ (.slice A (n - k) C))) := fun A C hA => by
      have hK : Kept (fun k => k = g) w (w.setCell ⟨g, 0, none⟩ (.slice A (n - k) C)) := (Kept.refl (fun k => k = g) w).setCell (p := ⟨g, 0, none⟩) (fun _ => rfl) _
      rw [show StepPost g k l false w (.returned (.tuple #[])) (w.setCell ⟨g, 0, none⟩ (.slice A (n - k) C)) ↔ RdTo g (stL k l) (stB k false) w (w.setCell ⟨g, 0, none⟩ (.slice A (n - k) C)) from ⟨fun h => h.2, fun h => ⟨rfl, h⟩⟩, eL, eB]
      have hnc := h.cap
      have hlen := h.len
      refine ⟨A, n - k, C, ⟨heap_setCell_same _ g 0 _ 106 _ h.box, ?_, ?_, ?_, ?_, ?_, fun e => (by cases e)⟩, hK⟩
      · rcases hA with ⟨_, _, h3⟩ | ⟨_, h2⟩
        · have : l.drop k = [] := List.drop_eq_nil_of_le (by omega)
          rw [this]; exact Bts.nil _ _
        · have := bts_drop (h.bts.kept hK (fun hl x hx e => Nat.ne_of_lt (h.far hl x hx) e)) k
          rw [← h2] at this
          exact this
      · rw [List.length_drop]; omega
      · rcases hA with ⟨_, _, _⟩ | ⟨_, _⟩ <;> omega
      · intro hld x hx
        rcases hA with ⟨_, h2, _⟩ | ⟨_, h2⟩
        · exact h.far hl x (h2 ▸ hx)
        · rw [h2] at hx
          cases ha : a with
          | none => rw [ha] at hx; cases hx
          | some y =>
            rw [ha] at hx
            injection hx with hx
            rw [← hx]
            have := h.far hl y ha
            unfold Addr.add
            split <;> exact this
      · have := h.lim; omega
    have H := Lib.hid h
    clear h
    go_enter Try.func95, Try.ntmps95
    go_wp2
    all_goals (
      refine bodyPost_end (v := .tuple #[]) (by simp [results, Try.results95, go_sem]) rfl ?_
      first | exact HF.out _ _ (.inr ⟨rfl, rfl⟩) | exact HF.out _ _ (.inl ⟨rfl, rfl, by assumption⟩))

def NumTo (g : Nat) (l : List UInt8) (bad : Bool) (w : World) (e : Ending) (w' : World) : Prop := e = .returned (.int .u64 (unv l).1) ∧ RdTo g (stL (unv l).2 l) (stB (unv l).2 bad) w w'
def WholeTo (g : Nat) (l : List UInt8) (bad : Bool) (w : World) (e : Ending) (w' : World) : Prop := e = .returned (.int .i64 (toI (unv l).1)) ∧ RdTo g (stL (unv l).2 l) (stB (unv l).2 bad) w w'
def TextTo (g : Nat) (l : List UInt8) (bad : Bool) (w : World) (e : Ending) (w' : World) : Prop := e = .returned (.string (takeL l).1) ∧ RdTo g (stL (takeL l).2 l) (stB (takeL l).2 bad) w w'
def smOf (l : List UInt8) : Sm × Nat := (decL l).getD (⟨0, 0, 0⟩, 0)
def StampTo (g : Nat) (l : List UInt8) (bad : Bool) (w : World) (e : Ending) (w' : World) : Prop :=
  e = .returned (.agg #[.int .i64 (smOf l).1.w, .int .i64 (smOf l).1.l, .int .i64 (smOf l).1.n]) ∧ RdTo g (stL (smOf l).2 l) (stB (smOf l).2 bad) w w'

set_option maxHeartbeats 4000000 in
set_option maxRecDepth 100000 in
theorem number_any (g : Nat) (a : Option Addr) (n c : Nat) (l : List UInt8) (bad : Bool) (w : World) (h : RdAt w g a n c l bad) :
    Calls Try.prog 96 #[.pointer (some ⟨g, 0, none⟩)] w (NumTo g l bad w) := by
  obtain ⟨x0, x1, y0, y1⟩ := box2_cells h.box
  have cU := Unvarint_any a n c l w h.len (by have := h.lim; unfold maxLen; omega) h.bts
  have hb := (unv_bounds l).2
  rw [h.len] at hb
  have cS := step_any g a n c (unv l).2 l bad w h hb
  obtain ⟨k, hk⟩ : ∃ k, k = (unv l).2 := ⟨_, rfl⟩
  obtain ⟨v, hv⟩ : ∃ v, v = (unv l).1 := ⟨_, rfl⟩
  rw [← hk] at cS cU
  rw [← hv] at cU
  have HK := Lib.hid hk
  have HV := Lib.hid hv
  clear h hk hv
  go_enter Try.func96, Try.ntmps96
  go_wp2_with (first | (go_at_call 112; (with_reducible refine cU.mono ?_); rintro e W1 ⟨rfl, rfl⟩) | (go_at_call 95; (with_reducible refine cS.mono ?_)))
  rintro e W2 ⟨rfl, h2⟩
  have H2 := Lib.hid h2
  clear h2 cS cU
  go_wp2
  go_ret
  refine ⟨by rw [HV.out]; rfl, ?_⟩
  rw [← HK.out]
  exact H2.out

set_option maxHeartbeats 4000000 in
set_option maxRecDepth 100000 in
theorem whole_any (g : Nat) (a : Option Addr) (n c : Nat) (l : List UInt8) (bad : Bool) (w : World) (h : RdAt w g a n c l bad) :
    Calls Try.prog 79 #[.pointer (some ⟨g, 0, none⟩)] w (WholeTo g l bad w) := by
  have cN := number_any g a n c l bad w h
  have hI : toI (unv l).1 = wrap64 ((unv l).1 : Int) := IntWalk.i64_left _
  have HI := Lib.hid hI
  clear h hI
  go_enter Try.func79, Try.ntmps79
  go_wp2_with (go_at_call 96; (with_reducible refine cN.mono ?_))
  rintro e W2 ⟨rfl, h2⟩
  have H2 := Lib.hid h2
  clear h2 cN
  go_wp2
  go_ret
  exact ⟨by rw [HI.out]; rfl, H2.out⟩

set_option maxHeartbeats 4000000 in
set_option maxRecDepth 100000 in
theorem text_any (g : Nat) (a : Option Addr) (n c : Nat) (l : List UInt8) (bad : Bool) (w : World) (h : RdAt w g a n c l bad) :
    Calls Try.prog 68 #[.pointer (some ⟨g, 0, none⟩)] w (TextTo g l bad w) := by
  obtain ⟨x0, x1, y0, y1⟩ := box2_cells h.box
  have cU := Take_any a n c l w h.len h.lim h.cap h.bts
  have hb := (takeL_bounds l).1
  rw [h.len] at hb
  have cS := step_any g a n c (takeL l).2 l bad w h hb
  obtain ⟨k, hk⟩ : ∃ k, k = (takeL l).2 := ⟨_, rfl⟩
  obtain ⟨v, hv⟩ : ∃ v, v = (takeL l).1 := ⟨_, rfl⟩
  rw [← hk] at cS cU
  rw [← hv] at cU
  have HK := Lib.hid hk
  have HV := Lib.hid hv
  clear h hk hv
  go_enter Try.func68, Try.ntmps68
  go_wp2_with (first | (go_at_call 94; (with_reducible refine cU.mono ?_); rintro e W1 ⟨rfl, rfl⟩) | (go_at_call 95; (with_reducible refine cS.mono ?_)))
  rintro e W2 ⟨rfl, h2⟩
  have H2 := Lib.hid h2
  clear h2 cS cU
  go_wp2
  go_ret
  refine ⟨by rw [HV.out]; rfl, ?_⟩
  rw [← HK.out]
  exact H2.out

theorem smOf_le (l : List UInt8) : (smOf l).2 ≤ l.length := by
  unfold smOf
  cases h : decL l with
  | none => exact Nat.zero_le _
  | some p => exact (dec3_bounds h).2.1

def DecTo (p : Sm × Nat) (x : Int) (w : World) (e : Ending) (w' : World) : Prop :=
  e = .returned (.tuple #[.agg #[.int .i64 p.1.w, .int .i64 p.1.l, .int .i64 p.1.n], .int .i64 p.2, .int .i64 x]) ∧ Below w.heap.size w w'
theorem decode_t (a : Option Addr) (n c : Nat) (l : List UInt8) (w : World) (hl : l.length = n) (hn : n ≤ 1000000) (hnc : n ≤ c) (h : Bts w a l) :
    Calls Try.prog 105 #[.slice a n c] w (DecTo (smOf l) (if (decL l).isSome then 0 else 10) w) := decode_any a n c l w hl hn hnc h

set_option maxHeartbeats 4000000 in
set_option maxRecDepth 100000 in
theorem stamp_any (g : Nat) (a : Option Addr) (n c : Nat) (l : List UInt8) (bad : Bool) (w : World) (h : RdAt w g a n c l bad) :
    Calls Try.prog 80 #[.pointer (some ⟨g, 0, none⟩)] w (StampTo g l bad w) := by
  have bA := (Below.refl w.heap.size w).alloc (Nat.le_refl _) (.cells #[.int .i64 0, .int .i64 0, .int .i64 0] 40)
  have gA := heap_alloc_new w (.cells #[.int .i64 0, .int .i64 0, .int .i64 0] 40)
  have hA := h.kept bA
  obtain ⟨x0, x1, y0, y1⟩ := box2_cells hA.box
  have cD := decode_t a n c l _ hA.len hA.lim hA.cap hA.bts
  have hb := smOf_le l
  rw [h.len] at hb
  have cS := fun V (hV : RdAt V g a n c l bad) => step_any g a n c (smOf l).2 l bad V hV hb
  obtain ⟨er, her⟩ : ∃ er : Int, er = (if (decL l).isSome then 0 else 10) := ⟨_, rfl⟩
  rw [← her] at cD
  have HST := Lib.hid (show ∀ W, ∀ e, e = .returned (.agg #[.int .i64 (smOf l).1.w, .int .i64 (smOf l).1.l, .int .i64 (smOf l).1.n]) → RdTo g (stL (smOf l).2 l) (stB (smOf l).2 bad) w W → StampTo g l bad w e W from fun W e h1 h2 => ⟨h1, h2⟩)
  obtain ⟨⟨⟨sw, sl, sn⟩, k⟩, hk⟩ : ∃ p, p = smOf l := ⟨_, rfl⟩
  rw [← hk] at cD cS HST
  simp only at cD cS HST
  have HA := Lib.hid hA
  have HBA := Lib.hid bA
  have HGA := Lib.hid gA
  have hgg := lt_of_block h.box
  clear her hk h hA bA gA hb
  go_enter Try.func80, Try.ntmps80
  go_wp2_with (go_at_call 105; (with_reducible refine cD.mono ?_))
  rintro e W1 ⟨rfl, b1⟩
  have b2 : Below w.heap.size w (W1.alloc (.cells #[.int .i64 sw, .int .i64 sl, .int .i64 sn] 40)) := (HBA.out.trans (b1.mono HBA.out.size)).alloc (by have := (HBA.out.trans (b1.mono HBA.out.size)).size; omega) _
  have z1 : w.heap.size < W1.heap.size := by have := b1.size; rw [World.size_alloc] at this; omega
  have G2 := Lib.hid (heap_alloc_new W1 (.cells #[.int .i64 sw, .int .i64 sl, .int .i64 sn] 40))
  have G0 := Lib.hid (box_alloc (nb b1 HGA.out) (.cells #[.int .i64 sw, .int .i64 sl, .int .i64 sn] 40))
  have h2 := (HA.out.kept b1).kept ((Below.refl _ W1).alloc (Nat.le_refl _) (.cells #[.int .i64 sw, .int .i64 sl, .int .i64 sn] 40))
  have cS2 := cS _ h2
  have HB2 := Lib.hid b2
  clear b1 h2 b2 cD cS x0 x1 y0 y1
  go_wp2_with (go_at_call 95; (with_reducible refine cS2.mono ?_))
  rintro e W3 ⟨rfl, h3⟩
  have HK3 : Hid (Kept (fun k => k = g) (W1.alloc (.cells #[.int .i64 sw, .int .i64 sl, .int .i64 sn] 40)) W3) := by
    obtain ⟨a', n', c', _, hk⟩ := h3
    exact hk
  have G3 : W3.heap[W1.heap.size]? = _ := (HK3.out.block W1.heap.size (lt_of_block G2.out) (fun e => by omega)).trans G2.out
  have G30 : W3.heap[w.heap.size]? = _ := (HK3.out.block w.heap.size (lt_of_block G0.out) (fun e => by omega)).trans G0.out
  have H3 := Lib.hid (h3.back (Kept.of_below HB2.out))
  obtain ⟨t0, t1, t2, _⟩ := box_cells G3
  obtain ⟨_, _, _, f0, f1, f2⟩ := box_cells G30
  have G4 := set3 G30 (.int .i64 sw) (.int .i64 sl) (.int .i64 sn)
  obtain ⟨r0, r1, r2, _⟩ := box_cells G4
  have HF := Lib.hid (H3.out.on (((Kept.refl (fun k => k = w.heap.size) W3).setCell (p := ⟨w.heap.size, 0, none⟩) (fun _ => rfl) (.int .i64 sw)).setCell (p := ⟨w.heap.size, 1, none⟩) (fun _ => rfl) (.int .i64 sl) |>.setCell (p := ⟨w.heap.size, 2, none⟩) (fun _ => rfl) (.int .i64 sn)) (fun i e => by omega) hgg)
  clear G3 G30 G4 h3 cS2
  go_wp2
  refine bodyPost_ret (v := .agg #[.int .i64 sw, .int .i64 sl, .int .i64 sn]) (by simp [results, Try.results80, go_sem, r0, r1, r2]) rfl ?_
  exact HST.out _ _ rfl HF.out

end Go.Proofs.Ytggognmbjgkdfaa
