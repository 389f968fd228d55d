/-
  What the reference answers: Unquote.
-/
import Derived.Test.YtkjkejkodilbgaaRefW
import Derived.Test.YtkjkejkodilbgaaRunesV
import Derived.Laws.BytesArg
set_option linter.unusedVariables false
namespace Go.Proofs.Ytkjkejkodilbgaa
open Go.RowKit

theorem drop_byte (X : ByteArray) (j : Nat) (h : j < X.size) : X.data.toList.drop j = X[j] :: X.data.toList.drop (j + 1) := by
  have h' : j < X.data.toList.length := by rw [← size_len]; exact h
  rw [List.drop_eq_getElem_cons h']
  congr 1

/-- How far the reference has read. -/
def rdRel (X : ByteArray) (j : Nat) (u : List UInt8) : Prop :=
  ∃ f, X.size ≤ j + f ∧ rparF X.size X.data.toList = (rparF f (X.data.toList.drop j)).map (u ++ ·)

theorem rd_start (X : ByteArray) : rdRel X 0 [] := ⟨X.size, by omega, by simp⟩

theorem rd_end {X : ByteArray} {u : List UInt8} (h : rdRel X X.size u) : rparF X.size X.data.toList = some u := by
  obtain ⟨f, _, h⟩ := h
  rw [h, List.drop_of_length_le (by rw [← size_len]; omega), rparF_nil]
  simp

theorem map_app (u v : List UInt8) (o : Option (List UInt8)) : (o.map (v ++ ·)).map (u ++ ·) = o.map ((u ++ v) ++ ·) := by cases o <;> simp

theorem rd_step {X : ByteArray} {j k : Nat} {u v : List UInt8} (h : rdRel X j u) (hj : j < X.size) (hk : 0 < k) (hs : ∀ f, rparF (f + 1) (X.data.toList.drop j) = (rparF f (X.data.toList.drop (j + k))).map (v ++ ·)) : rdRel X (j + k) (u ++ v) := by
  obtain ⟨f, h1, h2⟩ := h
  obtain ⟨g, rfl⟩ : ∃ g, f = g + 1 := ⟨f - 1, by omega⟩
  exact ⟨g, by omega, by rw [h2, hs, map_app]⟩

theorem rd_none {X : ByteArray} {j : Nat} {u : List UInt8} (h : rdRel X j u) (hj : j < X.size) (hs : ∀ f, rparF (f + 1) (X.data.toList.drop j) = none) : rparF X.size X.data.toList = none := by
  obtain ⟨f, h1, h2⟩ := h
  obtain ⟨g, rfl⟩ : ∃ g, f = g + 1 := ⟨f - 1, by omega⟩
  rw [h2, hs]; rfl

theorem rd_lit {X : ByteArray} {j : Nat} {u : List UInt8} (h : rdRel X j u) (hj : j < X.size) (hc : X[j] ≠ 92) : rdRel X (j + 1) (u ++ [X[j]]) :=
  rd_step h hj (by omega) fun f => by rw [drop_byte X j hj, rparF_lit f _ _ hc]; rfl

theorem rd_last {X : ByteArray} {j : Nat} {u : List UInt8} (h : rdRel X j u) (hj : j < X.size) (hc : X[j] = 92) (he : j + 1 = X.size) : rparF X.size X.data.toList = none :=
  rd_none h hj fun f => by rw [drop_byte X j hj, hc, List.drop_of_length_le (by rw [← size_len]; omega)]; exact rparF_end f

theorem rd_n {X : ByteArray} {j : Nat} {u : List UInt8} (h : rdRel X j u) (hj : j < X.size) (hc : X[j] = 92) (h1 : j + 1 < X.size) (hd : X[j + 1] = 110) : rdRel X (j + 2) (u ++ [10]) :=
  rd_step h hj (by omega) fun f => by rw [drop_byte X j hj, drop_byte X (j + 1) h1, hc, hd]; exact rparF_n f _

theorem rd_o {X : ByteArray} {j : Nat} {u : List UInt8} (h : rdRel X j u) (hj : j < X.size) (hc : X[j] = 92) (h1 : j + 1 < X.size) (hd : X[j + 1] ≠ 110) (hd2 : X[j + 1] ≠ 120) : rdRel X (j + 2) (u ++ [X[j + 1]]) :=
  rd_step h hj (by omega) fun f => by rw [drop_byte X j hj, drop_byte X (j + 1) h1, hc]; exact rparF_other f _ _ hd hd2

theorem rd_xs {X : ByteArray} {j : Nat} {u : List UInt8} (h : rdRel X j u) (hj : j < X.size) (hc : X[j] = 92) (h1 : j + 1 < X.size) (hd : X[j + 1] = 120) (hs : X.size < j + 4) : rparF X.size X.data.toList = none :=
  rd_none h hj fun f => by rw [drop_byte X j hj, drop_byte X (j + 1) h1, hc, hd]; exact rparF_xs f _ (by rw [List.length_drop, ← size_len]; omega)

theorem rd_x0 {X : ByteArray} {j : Nat} {u : List UInt8} (h : rdRel X j u) (hj : j < X.size) (hc : X[j] = 92) (h1 : j + 1 < X.size) (hd : X[j + 1] = 120) (h2 : j + 2 < X.size) (h3 : j + 3 < X.size) (hn : hexV X[j + 2] = none ∨ hexV X[j + 3] = none) : rparF X.size X.data.toList = none :=
  rd_none h hj fun f => by rw [drop_byte X j hj, drop_byte X (j + 1) h1, drop_byte X (j + 2) h2, drop_byte X (j + 3) h3, hc, hd]; exact rparF_x0 f _ _ _ hn

theorem rd_x {X : ByteArray} {j m n : Nat} {u : List UInt8} (h : rdRel X j u) (hj : j < X.size) (hc : X[j] = 92) (h1 : j + 1 < X.size) (hd : X[j + 1] = 120) (h2 : j + 2 < X.size) (h3 : j + 3 < X.size) (hx : hexV X[j + 2] = some m) (hy : hexV X[j + 3] = some n) : rdRel X (j + 4) (u ++ [(m * 16 + n).toUInt8]) :=
  rd_step h hj (by omega) fun f => by rw [drop_byte X j hj, drop_byte X (j + 1) h1, drop_byte X (j + 2) h2, drop_byte X (j + 3) h3, hc, hd]; exact rparF_x f _ _ _ m n hx hy

/-- Where the reference stands in its loop. -/
def UqRel (X : ByteArray) (w : World) (b i : Value) (wr : World) : Prop :=
  ∃ (j : Nat) (u : List UInt8), i = .int .i64 j ∧ j ≤ X.size ∧ wr.ownsRow w.heap.size 5 1 b u.length (Lib.byteCells u) ∧ u.length ≤ j ∧ Below w.heap.size w wr ∧ rdRel X j u

/-- What an append to the bytes leaves of the row. -/
theorem uq_step {w wr w3 : World} {l0 : Nat} {b : Value} {xs : List Value} (hbw : Below w.heap.size w wr) (hb : wr.ownsRow w.heap.size 5 1 b l0 xs) (hgrow : wr.grownBy w3 b.ownBlock) : Below w.heap.size w w3 :=
  hbw.grown hgrow hbw.size (fun k hk => (hb.lt k hk).1)

set_option maxHeartbeats 40000000 in
set_option maxRecDepth 100000 in
theorem rUnquote_any (s : ByteArray) (w : World) (hs : s.size ≤ 1000000) :
    Calls Try.prog 14 #[.string s] w fun e w' => e = plEnd (unq s.data.toList) ∧ Below w.heap.size w w' := by
  have B0 := Below.refl w.heap.size w
  obtain ⟨i0, hi, hz0, hz1, hz2⟩ := info_parts infoByte
  by_cases h2 : s.size < 2
  · have HN : Hid (unq s.data.toList = none) := by
      show unq s.data.toList = none
      apply unq_none
      intro t ht
      have := congrArg List.length ht
      rw [← size_len, quote_ends] at this
      simp at this; omega
    go_enter Try.func14, Try.ntmps14
    go_wp2
    go_ret2
    exact ⟨by rw [HN.out]; rfl, B0⟩
  have h2' : 2 ≤ s.size := by omega
  have hends := ends_of s h2'
  have g0 : 0 < s.size := by omega
  have g1 : s.size - 1 < s.size := by omega
  have k1 : IntKind.i64.wrap ((s.size : Int) - 1) = (s.size : Int) - 1 := IntWalk.i64_in _ (by omega)
  have k2 : 0 ≤ (s.size : Int) - 1 := by omega
  have ne : ∀ b n : UInt8, b ≠ n → ((b.toNat : Int) != (n.toNat : Int)) = true := fun b n h => bne_iff_ne.2 (fun e => h (UInt8.toNat_inj.1 (by omega)))
  have eq : ∀ b n : UInt8, b = n → ((b.toNat : Int) != (n.toNat : Int)) = false := fun b n h => by rw [h]; simp
  by_cases a34 : s[0] = 34
  · have ea : ((s[0].toNat : Int) != 34) = false := eq _ 34 a34
    by_cases b34 : s[s.size - 1] = 34
    · have eb : ((s[s.size - 1].toNat : Int) != 34) = false := eq _ 34 b34
      rw [a34, b34] at hends
      have hx1 : (s.extract 1 (s.size - 1)).size = s.size - 2 := by simp; omega
      clear a34 b34 ne eq
      go_enter Try.func14, Try.ntmps14
      go_wp2
      obtain ⟨X, hX⟩ : ∃ X, X = s.extract 1 (s.size - 1) := ⟨_, rfl⟩
      rw [← hX] at hends hx1
      rw [← hX]
      have HE : Hid (s.data.toList = 34 :: (X.data.toList ++ [34])) := hends
      have hX6 : X.size ≤ 1000000 := by omega
      have HXS : Hid (X.size = s.size - 2) := hx1
      have hXl := size_len X
      have HXl : Hid (X.size = X.data.toList.length) := hXl
      clear hX hends ea eb k1 k2 hx1 hXl
      have ne : ∀ b n : UInt8, b ≠ n → ((b.toNat : Int) == (n.toNat : Int)) = false := fun b n h => beq_false_of_ne (fun e => h (UInt8.toNat_inj.1 (by omega)))
      have nb : ∀ b n : UInt8, b ≠ n → ((b.toNat : Int) != (n.toNat : Int)) = true := fun b n h => bne_iff_ne.2 (fun e => h (UInt8.toNat_inj.1 (by omega)))
      have HNO : Hid (rparF X.size X.data.toList = none → unq s.data.toList = none) := by
        intro h
        rw [HXl.out] at h
        exact unq_unread HE.out h
      go_loopw [5, 6] (fun b i wr => UqRel X w b i wr) (fun _ i _ => X.size - (intOf i).toNat)
      case atStart => exact ⟨0, [], rfl, Nat.zero_le _, ⟨rfl, .inl ⟨rfl, rfl⟩⟩, Nat.le_refl _, B0, rd_start X⟩
      case round =>
        obtain ⟨j, u, rfl, hj, hb, hul, hbw, hrd⟩ := hrel
        have HRD : Hid (rdRel X j u) := hrd
        clear hrd
        by_cases hlt : j < X.size
        · by_cases hc : X[j] = 92
          · have HC : Hid (X[j] = 92) := hc
            have ec : ((X[j].toNat : Int) != 92) = false := by rw [hc]; rfl
            clear hc
            by_cases he : j + 1 = X.size
            · have HN : Hid (unq s.data.toList = none) := HNO.out (rd_last HRD.out hlt HC.out he)
              have eq1 : ((j : Int) + 1 == (X.size : Int)) = true := by simp; omega
              clear he
              go_wp2
              go_ret2
              exact ⟨by rw [HN.out]; rfl, hbw⟩
            · have h1 : j + 1 < X.size := by omega
              have eq1 : ((j : Int) + 1 == (X.size : Int)) = false := by simp; omega
              clear he
              by_cases hd1 : X[j + 1] = 110
              · have HR : Hid (rdRel X (j + 2) (u ++ [10])) := rd_n HRD.out hlt HC.out h1 hd1
                have ed : ((X[j + 1].toNat : Int) == 110) = true := by rw [hd1]; rfl
                clear hd1
                go_wp2_with (at_builtin; go_loud (refine wpList_append_own_at _ rfl _ _ 37 rfl w.heap.size 5 i0 (.int .u8 0) 1 1 Try.underlying37 hi hz0 hz1 hz2 rfl (by decide) _ _ _ rfl (hb.alloc _) ⟨wr.heap.size, 0, none⟩ 1 1 [.int .u8 10] rfl rfl ?c1 ?c2 ?c3 ?c4 ?c5 ?_))
                try case c1 => intro j u hj; exact new_cells _ _ _ _ rfl j u hj
                case c2 => first | exact ⟨rfl, rfl⟩ | rfl | (intro u hu; simp at hu; subst hu; rfl)
                case c3 => unfold maxLen; omega
                case c4 => omega
                case c5 => have := hbw.size; simp; omega
                intro v' w3 hown3 hgrow _ _
                have HS := uq_step (hbw.alloc hbw.size _) (hb.alloc _) hgrow
                clear hgrow hb
                go_wp2
                go_roundw
                case rel =>
                  refine ⟨j + 2, u ++ [10], by go_num, by omega, ?_, by simp; omega, HS, HR.out⟩
                  rw [Lib.byteCells_append, List.length_append]
                  exact hown3
                case measure => simp [intOf]; omega
              · by_cases hd2 : X[j + 1] = 120
                · have n1 : ((X[j + 1].toNat : Int) == 110) = false := ne _ 110 hd1
                  have n2 : ((X[j + 1].toNat : Int) == 120) = true := by rw [hd2]; rfl
                  have HD : Hid (X[j + 1] = 120) := hd2
                  clear hd1 hd2
                  by_cases hs4 : X.size < j + 4
                  · have HN : Hid (unq s.data.toList = none) := HNO.out (rd_xs HRD.out hlt HC.out h1 HD.out hs4)
                    have l3 : (X.size : Int) - ((j : Int) + 1) < 3 := by omega
                    go_wp2
                    go_ret2
                    exact ⟨by rw [HN.out]; rfl, hbw⟩
                  · have l3 : ¬ (X.size : Int) - ((j : Int) + 1) < 3 := by omega
                    have h2 : j + 2 < X.size := by omega
                    have h3 : j + 3 < X.size := by omega
                    have hdg := fun (c : UInt8) wx => digit_any c wx
                    cases hx : hexV X[j + 2] with
                    | none =>
                      have dx : digV X[j + 2] = -1 := by unfold digV; rw [hx]
                      have HN : Hid (unq s.data.toList = none) := HNO.out (rd_x0 HRD.out hlt HC.out h1 HD.out h2 h3 (Or.inl hx))
                      clear hx
                      go_wp2_with (go_at_call 28; refine (hdg _ _).mono ?_; rintro e w' ⟨rfl, rfl⟩)
                      go_ret2
                      exact ⟨by rw [HN.out]; rfl, hbw⟩
                    | some m =>
                      have dx : digV X[j + 2] = (m : Int) := by unfold digV; rw [hx]
                      have hm := hexV_lt hx
                      cases hy : hexV X[j + 3] with
                      | none =>
                        have dy : digV X[j + 3] = -1 := by unfold digV; rw [hy]
                        have HN : Hid (unq s.data.toList = none) := HNO.out (rd_x0 HRD.out hlt HC.out h1 HD.out h2 h3 (Or.inr hy))
                        clear hx hy
                        go_wp2_with (go_at_call 28; refine (hdg _ _).mono ?_; rintro e w' ⟨rfl, rfl⟩)
                        go_ret2
                        exact ⟨by rw [HN.out]; rfl, hbw⟩
                      | some n =>
                        have dy : digV X[j + 3] = (n : Int) := by unfold digV; rw [hy]
                        have hn := hexV_lt hy
                        have HR : Hid (rdRel X (j + 4) (u ++ [(m * 16 + n).toUInt8])) := rd_x HRD.out hlt HC.out h1 HD.out h2 h3 hx hy
                        clear hx hy
                        go_wp2_with (go_at_call 28; refine (hdg _ _).mono ?_; rintro e w' ⟨rfl, rfl⟩)
                        have hbr : (0 : Int) ≤ (m : Int) * 16 + (n : Int) := by omega
                        have hbr2 : (m : Int) * 16 + (n : Int) < 256 := by omega
                        have HV : Hid (∀ g1 g2, IntKind.u8.wrap (IntKind.i64.wrap (IntKind.i64.wrap (digV (X[((j : Int) + 1 + 1).toNat]'g1) * 16) + digV (X[((j : Int) + 1 + 2).toNat]'g2))) = ((m * 16 + n).toUInt8.toNat : Int)) := by
                          show ∀ g1 g2, _ = _
                          have e1 : ((j : Int) + 1 + 1).toNat = j + 2 := by omega
                          have e2 : ((j : Int) + 1 + 2).toNat = j + 3 := by omega
                          have e3 : (m * 16 + n).toUInt8.toNat = m * 16 + n := by simp [Nat.toUInt8]; omega
                          simp only [e1, e2, e3]
                          intro g1 g2
                          rw [dx, dy, show IntKind.i64.wrap ((m : Int) * 16) = (m : Int) * 16 from IntWalk.i64_in _ (by omega), show IntKind.i64.wrap ((m : Int) * 16 + (n : Int)) = (m : Int) * 16 + (n : Int) from IntWalk.i64_in _ (by omega)]
                          simp only [IntKind.wrap, IntKind.signed, IntKind.bits]
                          simp
                          try omega
                        have b1 : (0 : Int) ≤ (j : Int) + 1 + 1 := by omega
                        have b2 : (j : Int) + 1 + 1 < (X.size : Int) := by omega
                        have b3 : (0 : Int) ≤ (j : Int) + 1 + 2 := by omega
                        have b4 : (j : Int) + 1 + 2 < (X.size : Int) := by omega
                        have b5 : IntKind.i64.wrap ((j : Int) + 1 + 1) = (j : Int) + 1 + 1 := IntWalk.i64_in _ (by omega)
                        have b6 : IntKind.i64.wrap ((j : Int) + 1 + 2) = (j : Int) + 1 + 2 := IntWalk.i64_in _ (by omega)
                        go_region_held3 (fun w' => True) (trivial)
                          (first
                            | (go_at_call 28; refine (hdg _ _).mono ?_; rintro e w' ⟨rfl, rfl⟩)
                            | ((refine step_append_lies _ (by rfl) _ _ _ (by rfl) w.heap.size 5 i0 (.int .u8 0) 1 1 Try.underlying37 hi hz0 hz1 hz2 (by rfl) (by omega) _ _ (Lib.byteCells u) (by rfl) (by first | exact (hb.alloc _).drew | exact hb.drew.alloc _ | exact hb.alloc _) ⟨wr.heap.size, 0, none⟩ 1 1 _ (by rfl) (by rfl) (World.news_of_block (t := 5) (fr := (0, 0)) (heap_alloc_new wr _)) (by simp [Value.oneCell']) (by omega) (by unfold maxLen; omega) (by omega) (by have := hbw.size; simp; omega) (wr.heap.size + 1) (by simp) ?_; intro gg cap3 w3 hown3 hgrow hat hlt)))
                        all_goals (
                          have HV2 := HV.out
                          simp only [HV2] at hown3
                          clear HV2
                          have HS := uq_step (hbw.alloc hbw.size _).drew ((hb.alloc _).drew) hgrow
                          clear hgrow hb hat
                          go_wp2
                          go_roundw
                          case rel =>
                            refine ⟨j + 4, u ++ [(m * 16 + n).toUInt8], by go_num, by omega, ?_, by simp; omega, HS, HR.out⟩
                            rw [Lib.byteCells_append, List.length_append]
                            exact hown3
                          case measure => simp [intOf]; omega)
                · have HR : Hid (rdRel X (j + 2) (u ++ [X[j + 1]])) := rd_o HRD.out hlt HC.out h1 hd1 hd2
                  have n1 : ((X[j + 1].toNat : Int) == 110) = false := ne _ 110 hd1
                  have n2 : ((X[j + 1].toNat : Int) == 120) = false := ne _ 120 hd2
                  clear hd1 hd2
                  go_wp2_with (at_builtin; go_loud (refine wpList_append_own_at _ rfl _ _ 37 rfl w.heap.size 5 i0 (.int .u8 0) 1 1 Try.underlying37 hi hz0 hz1 hz2 rfl (by decide) _ _ _ rfl (hb.alloc _) ⟨wr.heap.size, 0, none⟩ 1 1 [.int .u8 X[j + 1].toNat] rfl rfl ?d1 ?d2 ?d3 ?d4 ?d5 ?_))
                  try case d1 => intro j u hj; exact new_cells _ _ _ _ rfl j u hj
                  case d2 => first | exact ⟨rfl, rfl⟩ | rfl | (intro u hu; simp at hu; subst hu; rfl)
                  case d3 => unfold maxLen; omega
                  case d4 => omega
                  case d5 => have := hbw.size; simp; omega
                  intro v' w3 hown3 hgrow _ _
                  have HS := uq_step (hbw.alloc hbw.size _) (hb.alloc _) hgrow
                  clear hgrow hb
                  go_wp2
                  go_roundw
                  case rel =>
                    refine ⟨j + 2, u ++ [X[j + 1]], by go_num, by omega, ?_, by simp; omega, HS, HR.out⟩
                    rw [Lib.byteCells_append, List.length_append]
                    exact hown3
                  case measure => simp [intOf]; omega
          · have HR : Hid (rdRel X (j + 1) (u ++ [X[j]])) := rd_lit HRD.out hlt hc
            have ec : ((X[j].toNat : Int) != 92) = true := nb _ 92 hc
            clear hc
            go_wp2_with (at_builtin; go_loud (refine wpList_append_own_at _ rfl _ _ 37 rfl w.heap.size 5 i0 (.int .u8 0) 1 1 Try.underlying37 hi hz0 hz1 hz2 rfl (by decide) _ _ _ rfl (hb.alloc _) ⟨wr.heap.size, 0, none⟩ 1 1 [.int .u8 X[j].toNat] rfl rfl ?e1 ?e2 ?e3 ?e4 ?e5 ?_))
            try case e1 => intro j u hj; exact new_cells _ _ _ _ rfl j u hj
            case e2 => first | exact ⟨rfl, rfl⟩ | rfl | (intro u hu; simp at hu; subst hu; rfl)
            case e3 => unfold maxLen; omega
            case e4 => omega
            case e5 => have := hbw.size; simp; omega
            intro v' w3 hown3 hgrow _ _
            have HS := uq_step (hbw.alloc hbw.size _) (hb.alloc _) hgrow
            clear hgrow hb
            go_wp2
            go_roundw
            case rel =>
              refine ⟨j + 1, u ++ [X[j]], by go_num, by omega, ?_, by simp; omega, HS, HR.out⟩
              rw [Lib.byteCells_append, List.length_append]
              exact hown3
            case measure => simp [intOf]; omega
        · have hjX : j = X.size := by omega
          subst hjX
          have hun := rd_end HRD.out
          have hul2 := hul
          rw [HXl.out] at hun
          have HUN : Hid (unq s.data.toList = if quote u = s.data.toList then some u else none) := unq_read HE.out hun
          obtain ⟨U, hU⟩ : ∃ U : ByteArray, U = ⟨u.toArray⟩ := ⟨_, rfl⟩
          have hUs : U.size ≤ 1000000 := by rw [hU]; show u.toArray.size ≤ _; rw [List.size_toArray]; omega
          have hq := fun wx => rQuote_any U wx hUs
          obtain ⟨q, hqd⟩ : ∃ q, q = quoB U := ⟨_, rfl⟩
          rw [← hqd] at hq
          have HQE : Hid (q = s ↔ quote u = s.data.toList) := by
            show q = s ↔ _
            rw [hqd, hU]
            unfold quoB
            constructor
            · intro e
              have := congrArg (fun z : ByteArray => z.data.toList) e
              simpa using this
            · intro e
              apply Go.WideShapes.bytes_inj
              simpa using e
          have HU : Hid (U = ⟨u.toArray⟩) := hU
          clear hqd hun hul hul2 hUs hlt hj
          have hkeep := hb
          rcases hb.2 with ⟨hbv, hu0⟩ | ⟨g, cap, cur, hbv, _⟩
          · have hu : u = [] := List.length_eq_zero_iff.1 hu0
            subst hu
            have hq0 : ∀ wx, Calls Try.prog 16 #[.string ⟨#[]⟩] wx fun e w' => e = .returned (.string q) ∧ Below wx.heap.size wx w' := by
              intro wx
              have := hq wx
              rw [hU] at this
              exact this
            subst hbv
            have hcv : ∀ W, (convert 37 9 (.slice none 0 0)).run Try.prog W = .ok (.string ⟨#[]⟩) W := fun W => run_convert_bytes_nil W 37 5 Try.underlying37 Try.underlying5 0 0 9 Try.underlying9
            clear hq hU hb hkeep hu0
            by_cases hqs : q = s
            · have HN : Hid (unq s.data.toList = some []) := by
                show _ = _
                rw [HUN.out, if_pos (HQE.out.1 hqs)]
              subst hqs
              go_wp2_with (go_at_call 16; refine (base hbw (hq0 _)).mono ?_)
              first | rintro e W2 rfl b2 | rintro e W2 ⟨rfl, b2⟩
              go_wp2
              go_ret2
              exact ⟨by rw [HN.out]; rfl, b2⟩
            · have HN : Hid (unq s.data.toList = none) := by
                show _ = _
                rw [HUN.out, if_neg (fun h => hqs (HQE.out.2 h))]
              have c1 : (q.toList == s.toList) = false := beq_false_of_ne (by
                rw [Lib.toList_data, Lib.toList_data]
                intro e; exact hqs (Go.WideShapes.bytes_inj e))
              clear hqs
              go_wp2_with (go_at_call 16; refine (base hbw (hq0 _)).mono ?_)
              first | rintro e W2 rfl b2 | rintro e W2 ⟨rfl, b2⟩
              go_wp2
              go_ret2
              exact ⟨by rw [HN.out]; rfl, b2⟩
          · subst hbv
            have hbk : ∀ W : World, W.ownsRow w.heap.size 5 1 (.slice (some ⟨g, 0, none⟩) u.length cap) u.length (Lib.byteCells u) → _ := fun W hW => run_convert_bytes_back (P := Try.prog) W 37 9 5 ⟨g, 0, none⟩ cap u Try.underlying37 Try.underlying5 Try.underlying9 (by
              intro i hi
              have hadd : (⟨g, 0, none⟩ : Addr).add i = ⟨g, i, none⟩ := by unfold Addr.add; split <;> simp_all
              have hcs : Lib.byteCells u = u.map (fun b : UInt8 => Value.int .u8 b.toNat) := rfl
              rw [hadd, hW.cellAt i (by omega), hcs, List.getElem?_map, List.getElem?_eq_getElem hi]
              rfl)
            have hback := hbk wr hkeep
            rw [← hU] at hback
            have HBK : Hid _ := hbk
            have HU2 : Hid (U = ⟨u.toArray⟩) := hU
            have HKP : Hid _ := hkeep
            clear hbk hU hb hkeep
            by_cases hqs : q = s
            · have HN : Hid (unq s.data.toList = some u) := by
                show _ = _
                rw [HUN.out, if_pos (HQE.out.1 hqs)]
              subst hqs
              go_wp2_with (go_at_call 16; refine (hq _).mono ?_)
              first | rintro e W2 rfl b2 | rintro e W2 ⟨rfl, b2⟩
              have hback2 := HBK.out W2 (own_below' HKP.out b2)
              rw [← HU2.out] at hback2
              have b3 := hbw.trans (b2.mono hbw.size)
              clear hback
              go_wp2
              go_ret2
              exact ⟨by rw [HN.out]; show _ = Ending.returned (.tuple #[.string ⟨u.toArray⟩, .bool true]); rw [← HU.out]; rfl, b3⟩
            · have HN : Hid (unq s.data.toList = none) := by
                show _ = _
                rw [HUN.out, if_neg (fun h => hqs (HQE.out.2 h))]
              have c1 : (q.toList == s.toList) = false := beq_false_of_ne (by
                rw [Lib.toList_data, Lib.toList_data]
                intro e; exact hqs (Go.WideShapes.bytes_inj e))
              clear hqs
              go_wp2_with (go_at_call 16; refine (base hbw (hq _)).mono ?_)
              first | rintro e W2 rfl b2 | rintro e W2 ⟨rfl, b2⟩
              go_wp2
              go_ret2
              exact ⟨by rw [HN.out]; rfl, b2⟩
    · have eb : ((s[s.size - 1].toNat : Int) != 34) = true := ne _ 34 b34
      have HN : Hid (unq s.data.toList = none) := by
        show unq s.data.toList = none
        rw [hends]; exact unq_ends (Or.inr b34)
      clear hends ne eq b34 a34
      go_enter Try.func14, Try.ntmps14
      go_wp2
      go_ret2
      exact ⟨by rw [HN.out]; rfl, B0⟩
  · have ea : ((s[0].toNat : Int) != 34) = true := ne _ 34 a34
    have HN : Hid (unq s.data.toList = none) := by
      show unq s.data.toList = none
      rw [hends]; exact unq_ends (Or.inl a34)
    clear hends ne eq a34
    go_enter Try.func14, Try.ntmps14
    go_wp2
    go_ret2
    exact ⟨by rw [HN.out]; rfl, B0⟩

end Go.Proofs.Ytkjkejkodilbgaa
