/-
  Package frame: shift, take, lay, bytes.Clone, Sum.
-/
import Derived.Test.YtkoboogbdpagpaaFrM
import Derived.Test.YtkoboogbdpagpaaByS
import Derived.Test.YtkoboogbdpagpaaRwIn
import Derived.Lib.LazyBuf
set_option linter.unusedVariables false
namespace Go.Proofs.Ytkoboogbdpagpaa
open Go.RowKit

theorem and_all : bits .and .u32 3988292384 4294967295 = 3988292384 := by decide
theorem and_none : bits .and .u32 3988292384 0 = 0 := by decide
theorem xor_none (r : Nat) (h : r < 4294967296) : bits .xor .u32 ((r : Int) / 2) 0 = ((r / 2 : Nat) : Int) := by
  have := u32_xor_nat (r / 2) 0 (by omega) (by decide)
  rw [Nat.xor_zero] at this
  rw [← this]; rfl

set_option maxHeartbeats 4000000 in
set_option maxRecDepth 100000 in
theorem shift_any (r : Nat) (hr : r < 4294967296) (w : World) :
    Calls Try.prog 24 #[.int .u32 r] w fun e w' => e = .returned (.int .u32 (bIter 8 r)) ∧ w = w' := by
  have HA := Lib.hid and_all
  have HN := Lib.hid and_none
  go_enter Try.func24, Try.ntmps24
  go_wp2
  go_loop [0, 4] (fun v i => ∃ j : Nat, i = .int .i64 j ∧ v = .int .u32 (bIter j r : Nat) ∧ j ≤ 8) (fun _ i => 8 - (intOf i).toNat)
  case atStart => exact ⟨0, rfl, rfl, by omega⟩
  case round =>
    obtain ⟨j, rfl, rfl, hj⟩ := hrel
    by_cases hj8 : j < 8
    · have hq := bIter_lt j _ hr
      have HS : Hid (bIter (j + 1) r = if (bIter j r) % 2 = 1 then (bIter j r) / 2 ^^^ 3988292384 else (bIter j r) / 2) := rfl
      obtain ⟨q, hqd⟩ : ∃ q, q = bIter j r := ⟨_, rfl⟩
      rw [← hqd] at hq HS ⊢
      have HB := bit1_u32 q hq
      have HP := Lib.hid (xor_poly q hq)
      have HZ := Lib.hid (xor_none q hq)
      clear hqd
      have hj' : (j : Int) < 8 := by omega
      by_cases h1 : q % 2 = 1
      · rw [show (q : Int) % 2 = 1 by omega] at HB
        go_wp2
        go_round
        case rel => exact ⟨j + 1, by go_num, by rw [HS.out, if_pos h1, HA.out, HP.out], by omega⟩
        case measure => simp [intOf]; omega
      · rw [show (q : Int) % 2 = 0 by omega] at HB
        go_wp2
        go_round
        case rel => exact ⟨j + 1, by go_num, by rw [HS.out, if_neg h1, HN.out, HZ.out], by omega⟩
        case measure => simp [intOf]; omega
    · obtain rfl : j = 8 := by omega
      go_wp2
      go_ret
      exact ⟨rfl, rfl⟩

set_option maxHeartbeats 4000000 in
set_option maxRecDepth 100000 in
theorem Sum_same (a : Option Addr) (n cap : Nat) (l : List UInt8) (w : World) (hl : l.length = n) (hn : n ≤ 1000000) (h : Bts w a l) :
    Calls Try.prog 13 #[.slice a n cap] w fun e w' => e = .returned (.int .u32 (crc l)) ∧ w = w' := by
  go_enter Try.func13, Try.ntmps13
  go_wp2
  go_loop [3, 8] (fun v i => ∃ k r : Nat, i = .int .i64 k ∧ v = .int .u32 r ∧ k ≤ n ∧ r < 4294967296 ∧ Hid (r = crcR (l.take k))) (fun _ i => n - (intOf i).toNat)
  case atStart => exact ⟨0, 4294967295, rfl, rfl, Nat.zero_le _, by decide, rfl⟩
  case round =>
    obtain ⟨k, r, rfl, rfl, hk, hr, HR⟩ := hrel
    by_cases hlt : k < n
    · obtain ⟨x, rfl, hc⟩ := h.at k (by omega)
      have htk : l.take (k + 1) = l.take k ++ [l[k]'(by omega)] := List.take_succ_eq_append_getElem (by omega)
      obtain ⟨b, hb⟩ : ∃ b, b = l[k]'(by omega) := ⟨_, rfl⟩
      rw [← hb] at hc htk
      have hX := xor_byte r b hr
      have hx := xor_byte_lt r b hr
      have HT : Hid (bIter 8 (r ^^^ b.toNat) = crcR (l.take (k + 1))) := by
        show _ = _
        rw [htk, crcR_snoc, ← HR.out]; rfl
      have hlt2 := bIter_lt 8 _ hx
      clear hb htk
      have cS := fun wx => shift_any (r ^^^ b.toNat) hx wx
      obtain ⟨s, hs⟩ : ∃ s, s = r ^^^ b.toNat := ⟨_, rfl⟩
      rw [← hs] at hX hx cS HT hlt2
      obtain ⟨p, hp⟩ : ∃ p, p = bIter 8 s := ⟨_, rfl⟩
      rw [← hp] at cS HT hlt2
      clear hs hp
      go_wp2_with (go_at_call 24; (with_reducible refine (cS _).mono ?_); rintro e w' ⟨rfl, rfl⟩)
      go_round
      case rel => exact ⟨k + 1, p, by go_num, rfl, by omega, hlt2, HT⟩
      case measure => simp [intOf]; omega
    · have HN := Lib.hid (not_u32 r hr)
      have HC : Hid (crc l = 4294967295 - r) := by
        show _ = _
        rw [HR.out, List.take_of_length_le (by omega)]; rfl
      go_wp2
      go_ret
      exact ⟨retI (by rw [HN.out, HC.out]), rfl⟩

theorem Sum_any (a : Option Addr) (n cap : Nat) (l : List UInt8) (w : World) (hl : l.length = n) (hn : n ≤ 1000000) (h : Bts w a l) :
    Calls Try.prog 13 #[.slice a n cap] w fun e w' => e = .returned (.int .u32 (crc l)) ∧ Below w.heap.size w w' :=
  (Sum_same a n cap l w hl hn h).mono fun e w' ⟨he, hw⟩ => ⟨he, by rw [← hw]; exact Below.refl _ w⟩

set_option maxHeartbeats 2000000 in
set_option maxRecDepth 100000 in
theorem take_any (x : Addr) (n cap : Nat) (a b c d : UInt8) (w : World) (hn : 4 ≤ n) (h0 : w.cell? (x.add 0) = some (.int .u8 a.toNat)) (h1 : w.cell? (x.add 1) = some (.int .u8 b.toNat)) (h2 : w.cell? (x.add 2) = some (.int .u8 c.toNat)) (h3 : w.cell? (x.add 3) = some (.int .u8 d.toNat)) :
    Calls Try.prog 25 #[.slice (some x) n cap] w fun e w' => e = .returned (.int .u32 (wd a b c d)) ∧ ∃ q, w' = w.drewN q := by
  have j0 : 0 < n := by omega
  have e0 : x.add 0 = x := by unfold Addr.add; simp
  have e1 : x.add 1 = ⟨x.block, x.off + 1, none⟩ := by unfold Addr.add; simp
  have e2 : x.add 2 = ⟨x.block, x.off + 2, none⟩ := by unfold Addr.add; simp
  have e3 : x.add 3 = ⟨x.block, x.off + 3, none⟩ := by unfold Addr.add; simp
  rw [e0] at h0
  rw [e1] at h1
  rw [e2] at h2
  rw [e3] at h3
  clear e0 e1 e2 e3
  have i1 : (1 : Int) < (n : Int) := by omega
  have i2 : (2 : Int) < (n : Int) := by omega
  have i3 : (3 : Int) < (n : Int) := by omega
  go_enter Try.func25, Try.ntmps25
  go_wp2_with fail
  go_quiet (fail)
  go_wp2
  go_ret
  exact ⟨retI (word_val a b c d), _, rfl⟩

theorem take_l (x : Addr) (n cap : Nat) (l : List UInt8) (w : World) (hl : l.length = n) (hn : 4 ≤ n) (h : Bts w (some x) l) :
    Calls Try.prog 25 #[.slice (some x) n cap] w fun e w' => e = .returned (.int .u32 (wdL l)) ∧ ∃ q, w' = w.drewN q := by
  have hc : ∀ j (hj : j < l.length), w.cell? (x.add j) = some (.int .u8 (l.getD j 0).toNat) := fun j hj => by
    obtain ⟨y, hy, hc⟩ := h.at j hj
    injection hy with hy
    subst hy
    rw [hc]
    simp [List.getD, List.getElem?_eq_getElem hj]
  exact take_any x n cap _ _ _ _ w hn (hc 0 (by omega)) (hc 1 (by omega)) (hc 2 (by omega)) (hc 3 (by omega))

theorem le4_cells (v : Nat) (hv : v < 4294967296) : (#[Value.int .u8 ((v : Int) % 256), .int .u8 ((v : Int) / 256 % 256), .int .u8 ((v : Int) / 65536 % 256), .int .u8 ((v : Int) / 16777216)]).toList = Lib.byteCells (le4 v) := by
  simp only [Lib.byteCells, le4, List.map_cons, List.map_nil, UInt8.toNat_ofNat']
  have a1 : ((v % 2 ^ 8 : Nat) : Int) = (v : Int) % 256 := by omega
  have a2 : ((v / 256 % 2 ^ 8 : Nat) : Int) = (v : Int) / 256 % 256 := by omega
  have a3 : ((v / 65536 % 2 ^ 8 : Nat) : Int) = (v : Int) / 65536 % 256 := by omega
  have a4 : ((v / 16777216 % 2 ^ 8 : Nat) : Int) = (v : Int) / 16777216 := by omega
  rw [a1, a2, a3, a4]

/-- What a call leaves that appends to an owned row. -/
def LayPost (B n : Nat) (l : List UInt8) (w : World) (e : Ending) (w' : World) : Prop :=
  (∃ a cap, e = .returned (.slice a n cap) ∧ w'.ownsRow B 5 1 (.slice a n cap) n (Lib.byteCells l)) ∧ ∀ x : World, Below B x w → Below B x w'

set_option maxHeartbeats 2000000 in
set_option maxRecDepth 100000 in
theorem lay_own (B n cap : Nat) (a : Option Addr) (l : List UInt8) (v : Nat) (hv : v < 4294967296) (w : World) (ho : w.ownsRow B 5 1 (.slice a n cap) n (Lib.byteCells l)) (hB : B ≤ w.heap.size) (hn : n ≤ 1000000) :
    Calls Try.prog 22 #[.slice a n cap, .int .u32 v] w (LayPost B (n + 4) (l ++ le4 v) w) := by
  obtain ⟨i0, hi, hz0, hz1, hz2⟩ := info_parts infoByte8
  have HC := Lib.hid (le4_cells v hv)
  go_enter Try.func22, Try.ntmps22
  go_wp2_with (at_builtin; go_loud (refine wpList_append_own _ rfl _ _ 22 rfl B 5 i0 (.int .u8 0) 1 1 Try.underlying22 hi hz0 hz1 hz2 rfl (by decide) _ _ _ rfl (ho.alloc _) ⟨w.heap.size, 0, none⟩ 4 4 (Lib.byteCells (le4 v)) rfl rfl ?c1 ?c2 ?c3 ?c4 ?c5 ?_))
  case c1 =>
    intro j u hj
    rw [HC.out]; exact hj
  case c2 => exact byteCells_one _
  case c3 => unfold maxLen; omega
  case c4 => omega
  case c5 => first | omega | (simp; omega)
  intro v2 w3 o3 hg3 _
  obtain ⟨a2, k2, rfl⟩ := own_slice o3
  rw [byteCells_app] at o3
  have H3 := Lib.hid o3
  have H4 : Hid (∀ x : World, Below B x w → Below B x w3) := fun x hx => (hx.alloc hB _).grown hg3 (by first | omega | (simp; omega)) (fun k hk => (ho.lt k hk).1)
  clear o3 hg3 ho
  go_wp2
  go_ret
  exact ⟨⟨a2, k2, rfl, H3.out⟩, H4.out⟩

set_option maxHeartbeats 2000000 in
set_option maxRecDepth 100000 in
theorem Clone_any (x : Addr) (n cap : Nat) (l : List UInt8) (w : World) (hl : l.length = n) (hn : n ≤ 1000000) (hb : Bts w (some x) l) :
    Calls Try.prog 26 #[.slice (some x) n cap] w (OwnPost w.heap.size n l w) := by
  obtain ⟨i0, hi, hz0, hz1, hz2⟩ := info_parts infoByte8
  have ho1 : (w.alloc (.cells #[] 5)).ownsRow w.heap.size 5 1 (.slice (some ⟨w.heap.size, 0, none⟩) 0 0) 0 [] := World.ownsRow_lit w #[] 0 (Nat.le_refl _) (Nat.zero_le _) rfl
  have hb1 : Below w.heap.size w (w.alloc (.cells #[] 5)) := (Below.refl _ w).alloc (Nat.le_refl _) _
  have hB1 := hb.later hb1
  have hE := fun (W : World) => run_eql_slice_nil (P := Try.prog) W 22 5 (some x) n cap Try.underlying22
  go_enter Try.func26, Try.ntmps26
  go_wp2_with (at_builtin; go_loud (refine wpList_append_bts _ rfl _ _ 22 rfl w.heap.size 5 i0 Try.underlying22 hi hz0 hz1 hz2 _ _ _ rfl ho1 _ _ _ l rfl hl hB1 (fun h => by cases h) (by omega) hb1.size ?_))
  intro v2 W2 ho2 hg2
  obtain ⟨a2, k2, rfl⟩ := own_slice ho2
  have hb2 := below_grown hb1 (Nat.le_refl _) ho1 hg2
  have H2 := Lib.hid ho2
  clear ho1 hg2 ho2 hB1
  go_wp2
  go_ret
  exact ⟨a2, k2, rfl, H2.out, hb2⟩

end Go.Proofs.Ytkoboogbdpagpaa
