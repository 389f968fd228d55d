/-
  The reference's Next.
-/
import Derived.Test.YtkoboogbdpagpaaFrC
set_option linter.unusedVariables false
namespace Go.Proofs.Ytkoboogbdpagpaa
open Go.RowKit

theorem nx_a {b : List UInt8} (h : b.length < 4) : nextF b = ([], 0, 2) := if_pos h
theorem nx_b {b : List UInt8} (h : ¬ b.length < 4) (h1 : 131072 < wdL b) : nextF b = ([], 0, 3) := by unfold nextF; rw [if_neg h, if_pos h1]
theorem nx_c {b : List UInt8} (h : ¬ b.length < 4) (h1 : ¬ 131072 < wdL b) (h2 : b.length < wdL b + 8) : nextF b = ([], 0, 2) := by unfold nextF; rw [if_neg h, if_neg h1, if_pos h2]
theorem nx_d {b : List UInt8} (h : ¬ b.length < 4) (h1 : ¬ 131072 < wdL b) (h2 : ¬ b.length < wdL b + 8) (h3 : crc (b.take (wdL b + 4)) ≠ wdL (b.drop (wdL b + 4))) : nextF b = ([], 0, 3) := by unfold nextF; rw [if_neg h, if_neg h1, if_neg h2, if_pos h3]
theorem nx_e {b : List UInt8} (h : ¬ b.length < 4) (h1 : ¬ 131072 < wdL b) (h2 : ¬ b.length < wdL b + 8) (h3 : ¬ crc (b.take (wdL b + 4)) ≠ wdL (b.drop (wdL b + 4))) : nextF b = ((b.drop 4).take (wdL b), wdL b + 8, 1) := by unfold nextF; rw [if_neg h, if_neg h1, if_neg h2, if_neg h3]

theorem own3_nil (B n k : Nat) (w : World) {w' : World} (h : Below B w w') : Own3Post B ([], n, k) w (.returned (.tuple #[.slice none 0 0, .int .i64 n, .int .i64 k])) w' := ⟨none, 0, rfl, own_nil _ _, h⟩

set_option maxHeartbeats 4000000 in
set_option maxRecDepth 100000 in
theorem rNext_any (a : Option Addr) (n cap : Nat) (l : List UInt8) (w : World) (hl : l.length = n) (hn : n ≤ 1000000) (hcap : n ≤ cap) (hb : Bts w a l) :
    Calls Try.prog 16 #[.slice a n cap] w (Own3Post w.heap.size (nextF l) w) := by
  obtain ⟨i0, hi, hz0, hz1, hz2⟩ := info_parts infoByte8
  by_cases h4 : n < 4
  · rw [nx_a (by omega)]
    have h4i : (n : Int) < 4 := by omega
    go_enter Try.func16, Try.ntmps16
    go_wp2
    go_ret3
    exact own3_nil _ 0 2 w (Below.refl _ _)
  have h4l : ¬ l.length < 4 := by omega
  obtain ⟨x, rfl⟩ : ∃ x, a = some x := by
    obtain ⟨x, hx, _⟩ := hb.at 0 (by omega)
    exact ⟨x, hx⟩
  have cw := word_l x n cap l w hl (by omega) hb
  have hlt := wdL_lt l
  have h4i : ¬ (n : Int) < 4 := by omega
  have HD1 := Lib.hid (nx_b h4l)
  have HD2 := Lib.hid (nx_c h4l)
  have HD3 := Lib.hid (nx_d h4l)
  have HD4 := Lib.hid (nx_e h4l)
  obtain ⟨m, hm⟩ : ∃ m, m = wdL l := ⟨_, rfl⟩
  rw [← hm] at cw hlt HD1 HD2 HD3 HD4
  rw [hl] at HD2 HD3 HD4
  clear hm h4l
  by_cases hbig : 131072 < m
  · rw [HD1.out hbig]
    have hi2 : (131072 : Int) < (m : Int) := by omega
    go_enter Try.func16, Try.ntmps16
    go_wp2_with (go_at_call 27; refine cw.mono ?_; rintro e W1 ⟨rfl, q, rfl⟩)
    go_ret3
    exact own3_nil _ 0 3 w (below_drewN (Below.refl _ w) _)
  have hi2 : ¬ (131072 : Int) < (m : Int) := by omega
  by_cases hsh : n < m + 8
  · rw [HD2.out hbig hsh]
    have hi3 : (n : Int) < (m : Int) + 8 := by omega
    go_enter Try.func16, Try.ntmps16
    go_wp2_with (go_at_call 27; refine cw.mono ?_; rintro e W1 ⟨rfl, q, rfl⟩)
    go_ret3
    exact own3_nil _ 0 2 w (below_drewN (Below.refl _ w) _)
  have hi3 : ¬ (n : Int) < (m : Int) + 8 := by omega
  have cs := fun (wx : World) (hx : Bts wx (some x) (l.take (m + 4))) => rSum_any (some x) (m + 4) cap (l.take (m + 4)) wx (by rw [List.length_take]; omega) (by omega) hx
  have cw2 := fun (wx : World) (hx : Bts wx (some (x.add (m + 4))) (l.drop (m + 4))) => word_l (x.add (m + 4)) (n - (m + 4)) (cap - (m + 4)) (l.drop (m + 4)) wx (by rw [List.length_drop]; omega) (by omega) hx
  have t1 := hb.take (m + 4)
  have t2 := hb.drop (m + 4)
  have hc1 := crc_lt (l.take (m + 4))
  have hc2 := wdL_lt (l.drop (m + 4))
  obtain ⟨s1, hs1⟩ : ∃ s, s = crc (l.take (m + 4)) := ⟨_, rfl⟩
  obtain ⟨s2, hs2⟩ : ∃ s, s = wdL (l.drop (m + 4)) := ⟨_, rfl⟩
  rw [← hs1] at cs hc1 HD3 HD4
  rw [← hs2] at cw2 hc2 HD3 HD4
  have hcm : ¬ cap = m + 4 := by omega
  have hsum : IntKind.i64.wrap ((m : Int) + 4) = (m : Int) + 4 := IntWalk.i64_in _ (by omega)
  have hsum0 : (0 : Int) ≤ (m : Int) + 4 := by omega
  have hsum1 : ((m : Int) + 4).toNat = m + 4 := by omega
  have hsum2 : (m : Int) + 4 ≤ (n : Int) := by omega
  have hsum3 : (m : Int) + 4 ≤ (cap : Int) := by omega
  have q1 : ∀ (W : World) (k : Nat), Below w.heap.size w W → Calls Try.prog 14 #[.slice (some x) (m + 4) cap] (W.drewN k) fun e w'' => e = .returned (.int .u32 s1) ∧ ∃ j, w'' = W.drewN j := fun W k hW => quiet_left (cs _ (t1.later (below_drewN hW k)))
  have q2 : ∀ (W : World) (k : Nat), Below w.heap.size w W → Calls Try.prog 27 #[.slice (some (x.add (m + 4))) (n - (m + 4)) (cap - (m + 4))] (W.drewN k) fun e w'' => e = .returned (.int .u32 s2) ∧ ∃ j, w'' = W.drewN j := fun W k hW => Calls.quiet_of (cw2 _ (t2.later (below_drewN hW k)))
  have cwb : Calls Try.prog 27 #[.slice (some x) n cap] w fun e w' => e = .returned (.int .u32 m) ∧ Below w.heap.size w w' := cw.mono fun e w' ⟨he, q, hq⟩ => ⟨he, by rw [hq]; exact below_drewN (Below.refl _ w) _⟩
  clear cw
  have tD := (hb.drop 4).take m
  clear hs1 hs2 HD1 HD2 cs cw2 t1 t2
  by_cases hne : s1 ≠ s2
  · rw [HD3.out hbig hsh hne]
    have hni : ((s1 : Int) != (s2 : Int)) = true := bne_iff_ne.2 (by omega)
    clear hne HD3 HD4
    go_enter Try.func16, Try.ntmps16
    go_wp2_with (go_at_call 27; refine cwb.mono ?_)
    first | rintro e W1 rfl hW1 | rintro e W1 ⟨rfl, hW1⟩
    clear cwb
    go_wp2_with fail
    go_quiet (first | (go_at_call 14; exact q1 _ _ hW1) | (go_at_call 27; exact q2 _ _ hW1))
    go_wp2
    go_ret3
    exact own3_nil _ 0 3 w (below_drewN hW1 _)
  · rw [HD4.out hbig hsh hne]
    have hni : ((s1 : Int) != (s2 : Int)) = false := by simpa using (by omega : (s1 : Int) = (s2 : Int))
    clear hne HD3 HD4
    go_enter Try.func16, Try.ntmps16
    go_wp2_with (go_at_call 27; refine cwb.mono ?_)
    first | rintro e W1 rfl hW1 | rintro e W1 ⟨rfl, hW1⟩
    clear cwb
    go_wp2_with fail
    go_quiet (first | (go_at_call 14; exact q1 _ _ hW1) | (go_at_call 27; exact q2 _ _ hW1))
    have e4 : x.add 4 = ⟨x.block, x.off + 4, none⟩ := by unfold Addr.add; simp
    rw [e4] at tD
    have hDl : ((l.drop 4).take m).length = m := by rw [List.length_take, List.length_drop]; omega
    have tE : ∀ q, Bts ((W1.drewN q).alloc (.cells #[] 5)) (some ⟨x.block, x.off + 4, none⟩) ((l.drop 4).take m) := fun q => (tD.later (below_drewN hW1 q)).later ((Below.refl _ _).alloc (Nat.le_refl _) _)
    have oE : ∀ q, ((W1.drewN q).alloc (.cells #[] 5)).ownsRow w.heap.size 5 1 (.slice (some ⟨W1.heap.size, 0, none⟩) 0 0) 0 [] := fun q => World.ownsRow_lit (W1.drewN q) #[] 0 hW1.size (Nat.zero_le _) rfl
    have bE : ∀ q, Below w.heap.size w ((W1.drewN q).alloc (.cells #[] 5)) := fun q => (below_drewN hW1 q).alloc hW1.size _
    have hc4 : ¬ cap = 4 := by omega
    have hw1 := hW1.size
    clear e4 q1 q2 hb tD hsum
    go_wp2_with (at_builtin; go_loud (refine wpList_append_bts _ rfl _ _ 22 rfl w.heap.size 5 i0 Try.underlying22 hi hz0 hz1 hz2 _ _ _ rfl (oE _) _ _ _ ((l.drop 4).take m) rfl hDl (tE _) (fun h => by cases h) ?c1 ?c2 ?_))
    case c1 => omega
    case c2 => simp; omega
    intro v2 W2 o2 hg2
    obtain ⟨a2, k2, rfl⟩ := own_slice o2
    have b2 := below_grown (bE _) (Nat.le_refl _) (oE _) hg2
    have O2 := Lib.hid o2
    have HL := Lib.hid hDl
    clear o2 hg2 tE oE bE hDl
    go_wp2
    go_ret3
    have o3 := O2.out
    unfold Own3Post
    simp only
    rw [HL.out]
    exact ⟨a2, k2, rfl, o3, b2⟩

end Go.Proofs.Ytkoboogbdpagpaa
