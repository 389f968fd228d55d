/-
  Numbers in decimal digits: strconv.Itoa over any world that holds its table; the reference's Decimal.
-/
import Derived.Test.YtijnmhiiojkcgaaDoorStC
import Derived.Lib.ItoaLen
import Derived.Lib.ItoaMem
import Derived.Lib.VarintMem
set_option linter.unusedVariables false
namespace Go.Proofs.YtijnmhiiojkcgaaDoor
open Go.RowKit

/-- The library's table of powers of ten lies in the world. -/
def Tab (w : World) : Prop := Lib.TabIs Tryd.prog w "internal/strconv.uint64pow10" .u64 Lib.pow10Tab
theorem Tab.later {w w' : World} (h : Tab w) (hb : Below w.heap.size w w') : Tab w' := by
  unfold Tab Lib.TabIs World.var? at *
  cases hg : Tryd.prog.globalNamed "internal/strconv.uint64pow10" with
  | none => simp [hg] at h
  | some g =>
    simp only [hg, Option.bind_some] at h ⊢
    have hlt : g < w.heap.size := by
      rcases Nat.lt_or_ge g w.heap.size with h' | h'
      · exact h'
      · rw [Array.getElem?_eq_none h'] at h; simp at h
    rw [hb.block g hlt]
    exact h

theorem itoa_any (n : Int) (h0 : -9223372036854775808 ≤ n) (h1 : n ≤ 9223372036854775807) (w : World) (ht : Tab w) :
    Calls Tryd.prog 35 #[.int .i64 n] w (TelPost (.string ⟨(Lib.itoa n).toArray⟩) w) :=
  (Tryd.strconv_Itoa n h0 h1 w ht).mono fun e w' ⟨he, k, os, hw⟩ => by
    refine ⟨he, ?_⟩
    subst hw
    refine (below_drewN (Below.refl _ w) k).trans ⟨rfl, rfl, rfl, by simp, fun i hi => Sort.heap_grow_old _ _ hi⟩

/-- The digits, the last one first. -/
def revD (u : Nat) : List UInt8 := if h : u = 0 then [] else UInt8.ofNat (48 + u % 10) :: revD (u / 10)
termination_by u
decreasing_by omega
theorem revD_zero : revD 0 = [] := by rw [revD]; rfl
theorem revD_pos {u : Nat} (h : u ≠ 0) : revD u = UInt8.ofNat (48 + u % 10) :: revD (u / 10) := by rw [revD, dif_neg h]
theorem revD_dec : ∀ (k u : Nat), u ≤ k → u ≠ 0 → (revD u).reverse = Lib.decDigits u := by
  intro k
  induction k with
  | zero => intro u hu h0; omega
  | succ k ih =>
    intro u hu h0
    rw [revD_pos h0, Lib.decDigits]
    by_cases h10 : u < 10
    · rw [dif_pos h10, show u / 10 = 0 by omega, revD_zero, show u % 10 = u by omega]; rfl
    · rw [dif_neg h10, List.reverse_cons, ih (u / 10) (by omega) (by omega)]
theorem revD_len : ∀ (k u : Nat), u < 10 ^ k → (revD u).length ≤ k := by
  intro k
  induction k with
  | zero => intro u hu; rw [show u = 0 by simpa using hu, revD_zero]; exact Nat.le_refl _
  | succ k ih =>
    intro u hu
    by_cases h0 : u = 0
    · rw [h0, revD_zero]; simp
    · rw [revD_pos h0, List.length_cons]
      have := ih (u / 10) (by rw [Nat.pow_succ] at hu; omega)
      omega

theorem itoa_split (n : Int) (h : n ≠ 0) : Lib.itoa n = (revD n.natAbs ++ (if n < 0 then [45] else [])).reverse := by
  unfold Lib.itoa
  have h1 : n.natAbs ≠ 0 := by omega
  by_cases hn : n < 0
  · rw [if_pos hn, if_pos hn, List.reverse_append, revD_dec _ _ (Nat.le_refl _) h1]; rfl
  · rw [if_neg hn, if_neg hn, List.append_nil, revD_dec _ _ (Nat.le_refl _) h1, show n.toNat = n.natAbs by omega]

theorem dig_u8 (y : Nat) : IntKind.u8.wrap (IntKind.u64.wrap (48 + ((y : Int) % 10))) = ((48 + y % 10 : Nat) : Int) := by
  rw [IntWalk.u64_in _ (by omega), IntWalk.u8_in _ (by omega)]
  omega

set_option maxHeartbeats 8000000 in
set_option maxRecDepth 100000 in
theorem decimal_any (n : Int) (h0 : -9223372036854775808 ≤ n) (h1 : n ≤ 9223372036854775807) (w : World) :
    Calls Tryd.prog 36 #[.int .i64 n] w (TelPost (.string ⟨(Lib.itoa n).toArray⟩) w) := by
  obtain ⟨i0, hi, hz0, hz1, hz2⟩ := info_parts infoByte8
  by_cases hn0 : n = 0
  · subst hn0
    have e : Lib.itoa 0 = [48] := by rw [show (0 : Int) = ((0 : Nat) : Int) from rfl, Lib.itoa_nonneg, Lib.decDigits_one (by decide)]; rfl
    rw [e]
    go_enter Tryd.func36, Tryd.ntmps36
    go_wp2
    go_ret
    exact ⟨rfl, Below.refl _ _⟩
  · have e0 : (n == 0) = false := by simpa using hn0
    have HI := Lib.hid (itoa_split n hn0)
    obtain ⟨u, hu⟩ : ∃ u : Nat, u = n.natAbs := ⟨_, rfl⟩
    have hu64 : u < 18446744073709551616 := by omega
    have hlen := revD_len 20 u (by omega)
    rw [← hu] at HI
    by_cases hneg : n < 0
    · have ew : IntKind.u64.wrap n = n + 18446744073709551616 := by simp [IntKind.wrap, IntKind.bits, IntKind.signed]; omega
      have en : IntKind.u64.wrap (-(n + 18446744073709551616)) = (u : Int) := by simp [IntKind.wrap, IntKind.bits, IntKind.signed]; omega
      rw [if_pos hneg] at HI
      clear hu hn0
      go_enter Tryd.func36, Tryd.ntmps36
      go_wp2
      go_loopw [3, 4] (fun vx vb wr => ∃ (y : Nat) (pre : List UInt8) (a : Option Addr) (cap : Nat), vx = .int .u64 y ∧ vb = .slice a (pre.length) cap ∧ y < 18446744073709551616 ∧ Hid (revD u = pre ++ revD y) ∧ wr.ownsRow w.heap.size 5 1 (.slice a (pre.length) cap) (pre.length) (Lib.byteCells pre) ∧ Below w.heap.size w wr)
        (fun vx _ _ => (intOf vx).toNat)
      case atStart => exact ⟨u, [], none, 0, rfl, rfl, hu64, rfl, World.ownsRow_nil _ _ _ _, Below.refl _ _⟩
      case round =>
        obtain ⟨y, pre, a, cap, rfl, rfl, hy64, HS, ho, hb⟩ := hrel
        have hpl : pre.length + (revD y).length ≤ 20 := by
          have h2 := congrArg List.length HS.out
          rw [List.length_append] at h2
          omega
        have hbz := hb.size
        by_cases hy0 : y = 0
        · subst hy0
          have HSP : Hid (revD u = pre) := by show _ = _; rw [HS.out, revD_zero, List.append_nil]
          have hpl2 : pre.length ≤ 20 := by omega
          rw [show ((0 : Nat) : Int) = 0 from rfl]
          rename World => wq
          clear hpl HS
          go_wp2_with (at_builtin; refine wpList_append_own _ rfl _ _ 35 rfl w.heap.size 5 i0 (.int .u8 0) 1 1 Tryd.underlying35 hi hz0 hz1 hz2 rfl (by decide) _ _ _ rfl (ho.alloc _) ⟨wq.heap.size, 0, none⟩ 1 1 [Value.int .u8 45] rfl rfl ?d1 ?d2 ?d3 ?d4 ?d5 ?_)
          case d1 => intro j u hj; exact new_cells8 _ _ _ _ rfl j u hj
          case d2 => intro u hu; simp at hu; subst hu; rfl
          case d3 => unfold maxLen; omega
          case d4 => omega
          case d5 => simp; omega
          intro v' W1 ho1 hg _
          obtain ⟨a1, cap1, rfl⟩ := own_slice ho1
          have hb1 := below_app hb (Nat.le_refl _) ho hg
          clear hg ho hb
          obtain ⟨l, hl⟩ : ∃ l, l = pre ++ [(45 : UInt8)] := ⟨_, rfl⟩
          obtain ⟨m, hm⟩ : ∃ m, m = l.length := ⟨_, rfl⟩
          have hml : pre.length + 1 = m := by rw [hm, hl]; simp
          have hrow : Lib.byteCells pre ++ [Value.int .u8 45] = Lib.byteCells l := by rw [hl]; simp [Lib.byteCells]
          rw [hml, hrow] at ho1
          rw [hml]
          have HE : Hid (Lib.itoa n = l.reverse) := by show _ = _; rw [HI.out, HSP.out, hl]
          have HM := Lib.hid hm
          have hm21 : m ≤ 21 := by omega
          clear hrow hl hml hm HSP
          have HB1 := Lib.hid hb1
          have HBT := Lib.hid (Bts.own ho1)
          have hz1' := hb1.size
          clear ho1 hb1
          go_wp2
          go_loopw [5, 6] (fun vo vi wr => ∃ (j k : Nat) (a2 : Option Addr) (cap2 : Nat), vo = .slice a2 k cap2 ∧ vi = .int .i64 ((j : Int) - 1) ∧ j + k = m ∧ wr.ownsRow W1.heap.size 5 1 (.slice a2 k cap2) k (Lib.byteCells (l.reverse.take k)) ∧ Below W1.heap.size W1 wr)
            (fun _ vi _ => (intOf vi + 1).toNat)
          case atStart => exact ⟨m, 0, none, 0, rfl, rfl, by omega, World.ownsRow_nil _ _ _ _, Below.refl _ _⟩
          case round =>
            obtain ⟨j, k, a2, cap2, rfl, rfl, hjk, ho2, hb2⟩ := hrel
            rcases j with _ | j
            · have hkm : k = m := by omega
              subst hkm
              have htk : l.reverse.take k = l.reverse := List.take_of_length_le (by rw [List.length_reverse]; have := HM.out; omega)
              rw [htk] at ho2
              have kc := conv_bts wr a2 k cap2 l.reverse (by rw [List.length_reverse]; exact HM.out.symm) (Bts.own ho2)
              clear htk
              go_wp2
              go_ret
              exact ⟨by rw [HE.out]; rfl, HB1.out.trans (hb2.mono hz1')⟩
            · have hj : (((j + 1 : Nat) : Int) - 1) = (j : Int) := by omega
              rw [hj]
              have hjl : j < l.length := by have := HM.out; omega
              obtain ⟨x, rfl, hx⟩ := (HBT.out.later hb2).at j hjl
              obtain ⟨c, hc⟩ : ∃ c, c = l[j]'hjl := ⟨_, rfl⟩
              rw [← hc] at hx
              have hrev : l.reverse.take (k + 1) = l.reverse.take k ++ [c] := by
                have hkl : k < l.reverse.length := by rw [List.length_reverse]; have := HM.out; omega
                rw [List.take_add_one, List.getElem?_eq_getElem hkl, List.getElem_reverse]
                have e : l.length - 1 - k = j := by have := HM.out; omega
                simp only [e, hc, Option.toList_some]
              have HV := Lib.hid hrev
              have hz2' := hb2.size
              clear hrev hc hj
              go_wp2_with (at_builtin; refine wpList_append_own _ rfl _ _ 35 rfl W1.heap.size 5 i0 (.int .u8 0) 1 1 Tryd.underlying35 hi hz0 hz1 hz2 rfl (by decide) _ _ _ rfl (ho2.alloc _) ⟨wr.heap.size, 0, none⟩ 1 1 [Value.int .u8 c.toNat] rfl rfl ?e1 ?e2 ?e3 ?e4 ?e5 ?_)
              case e1 => intro j u hj; exact new_cells8 _ _ _ _ rfl j u hj
              case e2 => intro u hu; simp at hu; subst hu; rfl
              case e3 => unfold maxLen; omega
              case e4 => omega
              case e5 => simp; omega
              intro v' w3 ho3 hg3 _
              obtain ⟨a3, cap3, rfl⟩ := own_slice ho3
              have hb3 := below_app hb2 (Nat.le_refl _) ho2 hg3
              clear hg3 ho2 hb2 hx
              go_wp2
              go_roundw
              case rel =>
                refine ⟨j, k + 1, a3, cap3, by go_num, by go_num, by omega, ?_, hb3⟩
                rw [HV.out]
                have e : Lib.byteCells (l.reverse.take k ++ [c]) = Lib.byteCells (l.reverse.take k) ++ [.int .u8 c.toNat] := by simp [Lib.byteCells]
                rw [e]
                exact ho3
              case measure => simp [intOf] <;> omega
        · have hyp : (0 : Int) < (y : Int) := by omega
          have hr := revD_pos hy0
          have hdig := dig_u8 y
          have HS2 : Hid (revD u = (pre ++ [(48 + y % 10).toUInt8]) ++ revD (y / 10)) := by show _ = _; rw [HS.out, hr]; simp [Nat.toUInt8]
          have hpl3 : pre.length < 20 := by rw [hr, List.length_cons] at hpl; omega
          clear hr hpl
          go_wp2_with (at_builtin; refine wpList_append_own _ rfl _ _ 35 rfl w.heap.size 5 i0 (.int .u8 0) 1 1 Tryd.underlying35 hi hz0 hz1 hz2 rfl (by decide) _ _ _ rfl (ho.alloc _) ⟨wr.heap.size, 0, none⟩ 1 1 [Value.int .u8 ((48 + y % 10 : Nat) : Int)] rfl rfl ?c1 ?c2 ?c3 ?c4 ?c5 ?_)
          case c1 => intro j u hj; exact new_cells8 _ _ _ _ rfl j u hj
          case c2 => intro u hu; simp at hu; subst hu; rfl
          case c3 => unfold maxLen; omega
          case c4 => omega
          case c5 => simp; omega
          intro v' w1 ho1 hg _
          obtain ⟨a1, cap1, rfl⟩ := own_slice ho1
          have hb1 := below_app hb (Nat.le_refl _) ho hg
          clear hg ho hb hdig
          go_wp2
          go_roundw
          case rel =>
            refine ⟨y / 10, pre ++ [(48 + y % 10).toUInt8], a1, cap1, by go_num, by simp, by omega, HS2, ?_, hb1⟩
            rw [Lib.byteCells_snoc _ (by omega), List.length_append, List.length_singleton]
            exact ho1
          case measure => simp [intOf]; omega
    · have ew : IntKind.u64.wrap n = (u : Int) := by simp [IntKind.wrap, IntKind.bits, IntKind.signed]; omega
      rw [if_neg hneg] at HI
      clear hu hn0
      go_enter Tryd.func36, Tryd.ntmps36
      go_wp2
      go_loopw [3, 4] (fun vx vb wr => ∃ (y : Nat) (pre : List UInt8) (a : Option Addr) (cap : Nat), vx = .int .u64 y ∧ vb = .slice a (pre.length) cap ∧ y < 18446744073709551616 ∧ Hid (revD u = pre ++ revD y) ∧ wr.ownsRow w.heap.size 5 1 (.slice a (pre.length) cap) (pre.length) (Lib.byteCells pre) ∧ Below w.heap.size w wr)
        (fun vx _ _ => (intOf vx).toNat)
      case atStart => exact ⟨u, [], none, 0, rfl, rfl, hu64, rfl, World.ownsRow_nil _ _ _ _, Below.refl _ _⟩
      case round =>
        obtain ⟨y, pre, a, cap, rfl, rfl, hy64, HS, ho, hb⟩ := hrel
        have hpl : pre.length + (revD y).length ≤ 20 := by
          have h2 := congrArg List.length HS.out
          rw [List.length_append] at h2
          omega
        have hbz := hb.size
        by_cases hy0 : y = 0
        · subst hy0
          have HSP : Hid (revD u = pre) := by show _ = _; rw [HS.out, revD_zero, List.append_nil]
          have hpl2 : pre.length ≤ 20 := by omega
          rw [show ((0 : Nat) : Int) = 0 from rfl]
          rename World => wq
          clear hpl HS
          obtain ⟨m, hm⟩ : ∃ m, m = pre.length := ⟨_, rfl⟩
          obtain ⟨l, hl⟩ : ∃ l, l = pre := ⟨_, rfl⟩
          rw [← hm, ← hl] at ho
          rw [← hm]
          have HE : Hid (Lib.itoa n = l.reverse) := by show _ = _; rw [HI.out, HSP.out, hl, List.append_nil]
          have HM : Hid (m = l.length) := by show _ = _; rw [hl, hm]
          have hm21 : m ≤ 21 := by omega
          rename World => W1
          have ho1 := ho
          have hb1 := hb
          clear hl hm HSP ho hb
          have HB1 := Lib.hid hb1
          have HBT := Lib.hid (Bts.own ho1)
          have hz1' := hb1.size
          clear ho1 hb1
          go_wp2
          go_loopw [5, 6] (fun vo vi wr => ∃ (j k : Nat) (a2 : Option Addr) (cap2 : Nat), vo = .slice a2 k cap2 ∧ vi = .int .i64 ((j : Int) - 1) ∧ j + k = m ∧ wr.ownsRow W1.heap.size 5 1 (.slice a2 k cap2) k (Lib.byteCells (l.reverse.take k)) ∧ Below W1.heap.size W1 wr)
            (fun _ vi _ => (intOf vi + 1).toNat)
          case atStart => exact ⟨m, 0, none, 0, rfl, rfl, by omega, World.ownsRow_nil _ _ _ _, Below.refl _ _⟩
          case round =>
            obtain ⟨j, k, a2, cap2, rfl, rfl, hjk, ho2, hb2⟩ := hrel
            rcases j with _ | j
            · have hkm : k = m := by omega
              subst hkm
              have htk : l.reverse.take k = l.reverse := List.take_of_length_le (by rw [List.length_reverse]; have := HM.out; omega)
              rw [htk] at ho2
              have kc := conv_bts wr a2 k cap2 l.reverse (by rw [List.length_reverse]; exact HM.out.symm) (Bts.own ho2)
              clear htk
              go_wp2
              go_ret
              exact ⟨by rw [HE.out]; rfl, HB1.out.trans (hb2.mono hz1')⟩
            · have hj : (((j + 1 : Nat) : Int) - 1) = (j : Int) := by omega
              rw [hj]
              have hjl : j < l.length := by have := HM.out; omega
              obtain ⟨x, rfl, hx⟩ := (HBT.out.later hb2).at j hjl
              obtain ⟨c, hc⟩ : ∃ c, c = l[j]'hjl := ⟨_, rfl⟩
              rw [← hc] at hx
              have hrev : l.reverse.take (k + 1) = l.reverse.take k ++ [c] := by
                have hkl : k < l.reverse.length := by rw [List.length_reverse]; have := HM.out; omega
                rw [List.take_add_one, List.getElem?_eq_getElem hkl, List.getElem_reverse]
                have e : l.length - 1 - k = j := by have := HM.out; omega
                simp only [e, hc, Option.toList_some]
              have HV := Lib.hid hrev
              have hz2' := hb2.size
              clear hrev hc hj
              go_wp2_with (at_builtin; refine wpList_append_own _ rfl _ _ 35 rfl W1.heap.size 5 i0 (.int .u8 0) 1 1 Tryd.underlying35 hi hz0 hz1 hz2 rfl (by decide) _ _ _ rfl (ho2.alloc _) ⟨wr.heap.size, 0, none⟩ 1 1 [Value.int .u8 c.toNat] rfl rfl ?e1 ?e2 ?e3 ?e4 ?e5 ?_)
              case e1 => intro j u hj; exact new_cells8 _ _ _ _ rfl j u hj
              case e2 => intro u hu; simp at hu; subst hu; rfl
              case e3 => unfold maxLen; omega
              case e4 => omega
              case e5 => simp; omega
              intro v' w3 ho3 hg3 _
              obtain ⟨a3, cap3, rfl⟩ := own_slice ho3
              have hb3 := below_app hb2 (Nat.le_refl _) ho2 hg3
              clear hg3 ho2 hb2 hx
              go_wp2
              go_roundw
              case rel =>
                refine ⟨j, k + 1, a3, cap3, by go_num, by go_num, by omega, ?_, hb3⟩
                rw [HV.out]
                have e : Lib.byteCells (l.reverse.take k ++ [c]) = Lib.byteCells (l.reverse.take k) ++ [.int .u8 c.toNat] := by simp [Lib.byteCells]
                rw [e]
                exact ho3
              case measure => simp [intOf] <;> omega
        · have hyp : (0 : Int) < (y : Int) := by omega
          have hr := revD_pos hy0
          have hdig := dig_u8 y
          have HS2 : Hid (revD u = (pre ++ [(48 + y % 10).toUInt8]) ++ revD (y / 10)) := by show _ = _; rw [HS.out, hr]; simp [Nat.toUInt8]
          have hpl3 : pre.length < 20 := by rw [hr, List.length_cons] at hpl; omega
          clear hr hpl
          go_wp2_with (at_builtin; refine wpList_append_own _ rfl _ _ 35 rfl w.heap.size 5 i0 (.int .u8 0) 1 1 Tryd.underlying35 hi hz0 hz1 hz2 rfl (by decide) _ _ _ rfl (ho.alloc _) ⟨wr.heap.size, 0, none⟩ 1 1 [Value.int .u8 ((48 + y % 10 : Nat) : Int)] rfl rfl ?c1 ?c2 ?c3 ?c4 ?c5 ?_)
          case c1 => intro j u hj; exact new_cells8 _ _ _ _ rfl j u hj
          case c2 => intro u hu; simp at hu; subst hu; rfl
          case c3 => unfold maxLen; omega
          case c4 => omega
          case c5 => simp; omega
          intro v' w1 ho1 hg _
          obtain ⟨a1, cap1, rfl⟩ := own_slice ho1
          have hb1 := below_app hb (Nat.le_refl _) ho hg
          clear hg ho hb hdig
          go_wp2
          go_roundw
          case rel =>
            refine ⟨y / 10, pre ++ [(48 + y % 10).toUInt8], a1, cap1, by go_num, by simp, by omega, HS2, ?_, hb1⟩
            rw [Lib.byteCells_snoc _ (by omega), List.length_append, List.length_singleton]
            exact ho1
          case measure => simp [intOf]; omega

end Go.Proofs.YtijnmhiiojkcgaaDoor
