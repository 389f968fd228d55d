/-
  What the document fixes of frame; FramePuts, FrameReads: the walks.
-/
import Derived.Test.YtkoboogbdpagpaaFrDev
import Derived.Lib.SlBytesConst
set_option linter.unusedVariables false
namespace Go.Proofs.Ytkoboogbdpagpaa
open Go.RowKit

def AwF (w : World) (e : Ending) (w' : World) : Prop :=
  ∃ g cap, e = .returned (.tuple #[.slice (some ⟨g, 0, none⟩) 9 cap, .bool true]) ∧ w'.cell? ⟨g, 0, none⟩ = some (.int .u8 1) ∧ Below w.heap.size w w'

theorem new_marked (W : World) (C : Array Value) (t : TypeId) (m : Nat × Nat) (j : Nat) (u : Value) (h : C.toList[j]? = some u) : (W.alloc (.cells C t m)).cell? ((⟨W.heap.size, 0, none⟩ : Addr).add j) = some u := by
  have hadd : (⟨W.heap.size, 0, none⟩ : Addr).add j = ⟨W.heap.size, j, none⟩ := by unfold Addr.add; split <;> simp_all
  have hg : (W.alloc (.cells C t m)).heap[W.heap.size]? = some (.cells C t m) := by
    show (W.heap.push _)[W.heap.size]? = _
    simp
  rw [hadd, cell_of_row _ W.heap.size j C t m hg]
  simpa using h
theorem lit_bts (w : World) (cs : Array Value) (m : Nat × Nat) (l : List UInt8) (h : cs.toList = Lib.byteCells l) : Bts (w.alloc (.cells cs 5 m)) (some ⟨w.heap.size, 0, none⟩) l := by
  right
  refine ⟨_, rfl, fun j hj => new_marked w cs 5 m j _ ?_⟩
  rw [h]; exact byteCells_at l j hj

theorem aw_Put (w : World) : Calls Try.prog 10 #[.slice (some ⟨w.heap.size, 0, none⟩) 1 1] (w.alloc (.cells #[.int .u8 97] 5 (1, 2))) (AwF w) := by
  refine (Put_yes (some ⟨w.heap.size, 0, none⟩) 1 1 [97] _ rfl (by omega) (by omega) (lit_bts w #[.int .u8 97] (1, 2) [97] rfl) (fun h => by cases h)).mono ?_
  rintro e w' ⟨a, cap, rfl, ho, hb⟩
  have hl : (frm [97]).length = 9 := frm_len [97]
  rw [hl] at ho ⊢
  obtain ⟨g, rfl, _, _⟩ := own_some ho (by omega)
  refine ⟨g, cap, rfl, ?_, ((Below.refl _ w).alloc (Nat.le_refl _) _).trans (hb.mono (by simp))⟩
  have := ho.cellAt 0 (by omega)
  rw [this]
  rfl

theorem aw_Sum (w wx : World) (hb : Below w.heap.size w wx) : Calls Try.prog 13 #[.slice (some ⟨wx.heap.size, 0, none⟩) 9 9] (wx.alloc (.cells #[.int .u8 49, .int .u8 50, .int .u8 51, .int .u8 52, .int .u8 53, .int .u8 54, .int .u8 55, .int .u8 56, .int .u8 57] 5 (9, 10))) fun e w' => e = .returned (.int .u32 3421780262) ∧ Below w.heap.size w w' := by
  have h := Sum_any (some ⟨wx.heap.size, 0, none⟩) 9 9 [49, 50, 51, 52, 53, 54, 55, 56, 57] _ rfl (by omega) (lit_bts wx #[.int .u8 49, .int .u8 50, .int .u8 51, .int .u8 52, .int .u8 53, .int .u8 54, .int .u8 55, .int .u8 56, .int .u8 57] (9, 10) [49, 50, 51, 52, 53, 54, 55, 56, 57] rfl)
  have e : crc [49, 50, 51, 52, 53, 54, 55, 56, 57] = 3421780262 := by decide +kernel
  rw [e] at h
  exact h.mono fun e w' ⟨he, hb'⟩ => ⟨he, (hb.alloc hb.size _).trans (hb'.mono (by have := hb.size; simp; omega))⟩

set_option maxHeartbeats 1000000 in
set_option maxRecDepth 100000 in
theorem awake_any (w : World) :
    Calls Try.prog 9 #[] w fun e w' => e = .returned (.bool true) ∧ Below w.heap.size w w' := by
  have kc := fun (w : World) (C : Array Value) (n c : Nat) => Lib.run_convert_bytes_const (P := Try.prog) w 22 5 C n c Try.underlying22 Try.underlying5
  go_enter Try.func9, Try.ntmps9
  go_wp2_with (go_at_call 10; (with_reducible refine (aw_Put _).mono ?_))
  rintro e W1 ⟨g, cap, rfl, h0, hb⟩
  go_wp2_with (first | (go_at_call 13; (with_reducible refine (aw_Sum w _ hb).mono ?_); rintro e W2 ⟨rfl, b2⟩))
  go_ret
  exact ⟨rfl, by assumption⟩
theorem awake_b (w wx : World) (hb : Below w.heap.size w wx) :
    Calls Try.prog 9 #[] wx fun e w' => e = .returned (.bool true) ∧ Below w.heap.size w w' := base hb (awake_any wx)

set_option maxHeartbeats 2000000 in
set_option maxRecDepth 100000 in
theorem FramePuts_walk (a0 : Option Addr) (len0 cap0 : Nat) (z0 : List Int) (w : World) (w0 : RowIn .u8 w a0 len0 cap0 z0) :
    Calls Try.prog 3 #[.slice a0 len0 cap0] w fun e w' => e = .returned (.bool true) ∧ Below w.heap.size w w' := by
  obtain ⟨l, hl, hB, hcap, hmax, hnil⟩ := w0.bts
  have B0 := Below.refl w.heap.size w
  clear w0
  by_cases hbig : 3000 < len0
  · go_enter Try.func3, Try.ntmps3
    go_wp2_with (first | (go_at_call 9; refine (awake_b w _ (by assumption)).mono ?_; rintro e W1 ⟨rfl, b1⟩))
    all_goals (go_ret; exact ⟨rfl, by assumption⟩)
  have c1 := fun wx (hx : Bts wx a0 l) => Put_yes a0 len0 cap0 l wx hl (by omega) hcap hx hnil
  have c2 := fun wx (hx : Bts wx a0 l) => rPut_yes a0 len0 cap0 l wx hl (by omega) hx hnil
  have c3 := fun wx (hx : Bts wx a0 l) => Sum_any a0 len0 cap0 l wx hl (by omega) hx
  have c4 := fun wx (hx : Bts wx a0 l) => rSum_any a0 len0 cap0 l wx hl (by omega) hx
  have hF := frm_len l
  obtain ⟨x, hx⟩ : ∃ x, x = crc l := ⟨_, rfl⟩
  rw [← hx] at c3 c4
  have hFl : (frm l).length ≤ 1000000 := by omega
  clear hx hF hmax hl
  go_enter Try.func3, Try.ntmps3
  go_wp2_with (go_at_call 10; (with_reducible refine (c1 _ hB).mono ?_))
  rintro e W1 ⟨p1, k1, rfl, o1, b1⟩
  have hB1 := hB.later b1
  go_wp2_with (go_at_call 11; (with_reducible refine (c2 _ hB1).mono ?_))
  rintro e W2 ⟨p2, k2, rfl, o2, b2⟩
  have hb2 : Below w.heap.size w W2 := b1.trans (b2.mono b1.size)
  have hB2 := hB1.later b2
  have q1 := (Bts.own o1).later b2
  have q2 := Bts.own o2
  clear o1 o2 c1 c2
  go_wp2_with (go_at_call 12; refine (Bytes_same p1 p2 _ _ k1 k2 _ _ rfl rfl hFl q1 q2).mono ?_)
  first | rintro e W3 rfl b3 | rintro e W3 ⟨rfl, b3⟩
  have hb3 : Below w.heap.size w W3 := hb2.trans (b3.mono hb2.size)
  have hB3 := hB2.later b3
  clear q1 q2
  go_wp2_with (go_at_call 13; (with_reducible refine (c3 _ hB3).mono ?_))
  first | rintro e W4 rfl b4 | rintro e W4 ⟨rfl, b4⟩
  have hb4 : Below w.heap.size w W4 := hb3.trans (b4.mono hb3.size)
  have hB4 := hB3.later b4
  go_wp2_with (first | (go_at_call 14; (with_reducible refine (c4 _ hB4).mono ?_); rintro e W2 ⟨rfl, rfl⟩) | (go_at_call 9; refine (awake_b w _ (by assumption)).mono ?_; rintro e W4 ⟨rfl, b4⟩))
  all_goals (go_ret; exact ⟨rfl, by assumption⟩)

theorem Rows_same (a b : Option Addr) (n m ca cb : Nat) (L : List (List UInt8)) (w : World) (hl : L.length = n) (hr : L.length = m) (hn : n ≤ 1000000) (hL : ∀ x ∈ L, x.length ≤ 1000000) (ha : Brs w a L) (hb : Brs w b L) :
    Calls Try.prog 19 #[.slice a n ca, .slice b m cb] w fun e w' => e = .returned (.bool true) ∧ Below w.heap.size w w' := by
  have := Rows_any a b n m ca cb L L w hl hr hn (by omega) hL hL ha hb
  rw [sameR_self] at this
  exact this

/-- What Scan tells is not more than what it was given. -/
theorem scanF_few : ∀ (f at_ : Nat) (acc : List (List UInt8)) (b : List UInt8) (N : Nat), acc.length + b.length ≤ N → (∀ x ∈ acc, x.length ≤ N) → (scanF f at_ acc b).1.length ≤ N ∧ ∀ x ∈ (scanF f at_ acc b).1, x.length ≤ N
  | 0, _, acc, b, N, h, hx => ⟨by simp [scanF]; omega, hx⟩
  | f + 1, at_, acc, b, N, h, hx => by
    rw [scanF]
    split
    · exact ⟨by simp only; omega, hx⟩
    · split
      · rename_i h1 h2
        obtain ⟨m, hm1, hm2, hn⟩ := nextF_one h2
        rw [hn]
        simp only
        refine scanF_few f _ _ _ N (by simp; omega) fun x hxm => ?_
        rcases List.mem_append.1 hxm with h3 | h3
        · exact hx x h3
        · simp at h3; subst h3; simp; omega
      · exact ⟨by simp only; omega, hx⟩
theorem scan_few (b : List UInt8) : (scan b).1.length ≤ b.length ∧ ∀ x ∈ (scan b).1, x.length ≤ b.length :=
  scanF_few _ _ [] b b.length (by simp) (fun x hx => by cases hx)
theorem nextF_few (b : List UInt8) : (nextF b).1.length ≤ b.length := by
  unfold nextF
  split
  · simp
  · split
    · simp
    · split
      · simp
      · split
        · simp
        · simp; omega

set_option maxHeartbeats 2000000 in
set_option maxRecDepth 100000 in
theorem FrameReads_walk (a0 : Option Addr) (len0 cap0 : Nat) (z0 : List Int) (w : World) (w0 : RowIn .u8 w a0 len0 cap0 z0) :
    Calls Try.prog 4 #[.slice a0 len0 cap0] w fun e w' => e = .returned (.bool true) ∧ Below w.heap.size w w' := by
  obtain ⟨l, hl, hB, hcap, hmax, hnil⟩ := w0.bts
  have B0 := Below.refl w.heap.size w
  clear w0
  by_cases hbig : 3000 < len0
  · go_enter Try.func4, Try.ntmps4
    go_wp2_with (first | (go_at_call 9; refine (awake_b w _ (by assumption)).mono ?_; rintro e W1 ⟨rfl, b1⟩))
    all_goals (go_ret; exact ⟨rfl, by assumption⟩)
  have c1 := fun wx (hx : Bts wx a0 l) => Next_any a0 len0 cap0 l wx hl (by omega) hcap hx hnil
  have c2 := fun wx (hx : Bts wx a0 l) => rNext_any a0 len0 cap0 l wx hl (by omega) hcap hx
  have c3 := fun wx (hx : Bts wx a0 l) => Scan_any a0 len0 cap0 l wx hl (by omega) hcap hx hnil
  have c4 := fun wx (hx : Bts wx a0 l) => rScan_any a0 len0 cap0 l wx hl (by omega) hcap hx
  have hs := scan_few l
  have hn := nextF_few l
  obtain ⟨⟨x1, x2, x3⟩, hx⟩ : ∃ x, x = nextF l := ⟨_, rfl⟩
  obtain ⟨⟨y1, y2, y3⟩, hy⟩ : ∃ y, y = scan l := ⟨_, rfl⟩
  rw [← hx] at c1 c2 hn
  rw [← hy] at c3 c4 hs
  rw [hl] at hs hn
  simp only at hs hn
  have h1 : x1.length ≤ 1000000 := by omega
  have h2 : y1.length ≤ 1000000 := by omega
  have h3 : ∀ x ∈ y1, x.length ≤ 1000000 := fun x hx => by have := hs.2 x hx; omega
  have H3 := Lib.hid h3
  clear hx hy hmax hl hs hn h3
  go_enter Try.func4, Try.ntmps4
  go_wp2_with (go_at_call 15; (with_reducible refine (c1 _ hB).mono ?_))
  rintro e W1 ⟨p1, k1, rfl, o1, b1⟩
  have hB1 := hB.later b1
  simp only at o1
  go_wp2_with (go_at_call 16; (with_reducible refine (c2 _ hB1).mono ?_))
  rintro e W2 ⟨p2, k2, rfl, o2, b2⟩
  have hb2 : Below w.heap.size w W2 := b1.trans (b2.mono b1.size)
  have hB2 := hB1.later b2
  simp only at o2
  have q1 := (Bts.own o1).later b2
  have q2 := Bts.own o2
  clear o1 o2 c1 c2 b1 b2 hB1
  go_wp2_with (go_at_call 17; (with_reducible refine (c3 _ hB2).mono ?_))
  rintro e W3 ⟨b3, p3, k3, rfl, o3⟩
  have hb3 : Below w.heap.size w W3 := hb2.trans (b3.mono hb2.size)
  have hB3 := hB2.later b3
  have q1b := q1.later b3
  have q2b := q2.later b3
  simp only at o3
  go_wp2_with (go_at_call 18; (with_reducible refine (c4 _ hB3).mono ?_))
  rintro e W4 ⟨b4, p4, k4, rfl, o4⟩
  have hb4 : Below w.heap.size w W4 := hb3.trans (b4.mono hb3.size)
  simp only at o4
  have r3 := o3.brs.later b4
  have r4 := o4.brs
  have q1c := q1b.later b4
  have q2c := q2b.later b4
  clear o3 o4 c3 c4 b3 b4 q1 q2 q1b q2b hB2 hB3 hb2 hb3
  go_wp2_with (go_at_call 12; refine (Bytes_same p1 p2 _ _ k1 k2 _ _ rfl rfl h1 q1c q2c).mono ?_)
  first | rintro e W5 rfl b5 | rintro e W5 ⟨rfl, b5⟩
  have hb5 : Below w.heap.size w W5 := hb4.trans (b5.mono hb4.size)
  have r3b := r3.later b5
  have r4b := r4.later b5
  clear q1c q2c r3 r4 b5
  go_wp2_with (go_at_call 19; refine (Rows_same p3 p4 _ _ k3 k4 _ _ rfl rfl h2 H3.out r3b r4b).mono ?_)
  first | rintro e W6 rfl b6 | rintro e W6 ⟨rfl, b6⟩
  have hb6 : Below w.heap.size w W6 := hb5.trans (b6.mono hb5.size)
  clear r3b r4b
  go_wp2_with (first | (go_at_call 9; refine (awake_b w _ (by assumption)).mono ?_; rintro e W4 ⟨rfl, b4⟩))
  all_goals (go_ret; exact ⟨rfl, by assumption⟩)

end Go.Proofs.Ytkoboogbdpagpaa
