/-
  EventLimits: the walk.
-/
import Derived.Test.YtggognmbjgkdfaaLwC
set_option linter.unusedVariables false
namespace Go.Proofs.Ytggognmbjgkdfaa
open Go.RowKit

theorem lit_bts (W : World) (l : List UInt8) (cs : Array Value) (fr : Nat × Nat) (h : cs.toList = Lib.byteCells l) : Bts (W.alloc (.cells cs 5 fr)) (some ⟨W.heap.size, 0, none⟩) l := by
  refine .inr ⟨_, rfl, fun j hj => ?_⟩
  have e : (⟨W.heap.size, 0, none⟩ : Addr).add j = ⟨W.heap.size, j, none⟩ := by
    unfold Addr.add
    by_cases h0 : j = 0 <;> simp [h0]
  rw [e, cell_of_row _ _ _ _ _ _ (heap_alloc_new W _), ← Array.getElem?_toList, h]
  exact byteCells_at l j hj
theorem letters_t (n k : Nat) (w : World) (hn : n ≤ 1000000) (hk : k ≤ 1000000) : Calls Try.prog 35 #[.int .i64 n, .int .i64 k] w (TelPost (.string (limT n k)) w) := Letters_any n k w hn (by omega) (by omega)

structure LiRel (w wr : World) (Q : List (Value × Pt)) (data size i : Nat) (va : Option Addr) (vc : Nat) : Prop where
  box : wr.heap[w.heap.size]? = some (.cells #[.string ⟨#[]⟩, .slice va i vc] 24 (0, 0))
  own : PtsOwn wr (w.heap.size + 1) (.slice va i vc) i Q
  is : Q.map Prod.snd = limPs data size i
  below : Below w.heap.size w wr
structure LiIn (wo wr : World) (g : Nat) (nm : ByteArray) (size t : Nat) (da : Option Addr) (dc : Nat) : Prop where
  box : wr.heap[g]? = some (.cells #[.string nm, .int .i64 (-1), .slice da t dc] 71 (0, 0))
  own : wr.ownsRow (wo.heap.size + 1) 9 1 (.slice da t dc) t (strC (limD size t))
  below : Below wo.heap.size wo wr

theorem LiIn.step {wo wr W1 W3 : World} {nm lt : ByteArray} {size t dc gg cap : Nat} {da : Option Addr} (h : LiIn wo wr (wo.heap.size + 1) nm size t da dc) (hl : lt = limT size t) (b : Below wr.heap.size wr W1)
    (ho : W3.ownsRow (wo.heap.size + 1) 9 1 (.slice (some ⟨gg, 0, none⟩) (t + 1) cap) (t + 1) (strC (limD size t) ++ #[Value.string lt].toList)) (hg : (W1.alloc (.cells #[.string lt] 9)).grownBy W3 (Value.slice da t dc).ownBlock) :
    LiIn wo (W3.setCell ⟨wo.heap.size + 1, 2, none⟩ (.slice (some ⟨gg, 0, none⟩) (t + 1) cap)) (wo.heap.size + 1) nm size (t + 1) (some ⟨gg, 0, none⟩) cap := by
  have hN := nb b h.box
  have hO := ownsLater h.own b
  have hN3 := stay_app (e := 9) hN hO (by decide) hg
  refine ⟨heap_setCell_same _ (wo.heap.size + 1) 2 _ 71 _ hN3, ?_, ?_⟩
  · refine Kept.own (S := fun k => k = wo.heap.size + 1) (by rw [limD_succ, ← hl]; have := ho; rwa [show #[Value.string lt].toList = strC [lt] from rfl, strC_app] at this) ((Kept.refl (fun k => k = wo.heap.size + 1) W3).setCell (p := ⟨wo.heap.size + 1, 2, none⟩) (fun _ => rfl) _) (fun g hg2 e => ?_)
    exact own_ne hN3 ho (by decide) (by rw [hg2, e])
  · have hz := h.below.size
    have hb := b.size
    exact (below_app (h.below.trans (b.mono hz)) (Nat.le_refl _) (own_low hO (by omega)) hg).setCell (by show _ ≤ _; exact Nat.le_succ _) _

theorem PtsOwn.kept {S : Nat → Prop} {w w' : World} {B n : Nat} {v : Value} {Q : List (Value × Pt)} (h : PtsOwn w B v n Q) (k : Kept S w w') (hS : ∀ g, B ≤ g → ¬ S g) : PtsOwn w' B v n Q :=
  ⟨h.len, Kept.own h.row k fun g hg => hS g (own_lt h.row g hg).1, fun q hq => Kept.own (h.each q hq) k fun g hg => hS g (own_lt (h.each q hq) g hg).1⟩
theorem LiRel.step {w wo wr W3 : World} {Q : List (Value × Pt)} {data size j vc dc c' : Nat} {va da a' : Option Addr} {o : Obj} {nm : ByteArray} (h : LiRel w wo Q data size j va vc) (hi : LiIn wo wr (wo.heap.size + 1) nm size data da dc) (hnm : nm = limN j)
    (ho : W3.ownsRow (w.heap.size + 1) 71 3 (.slice a' (j + 1) c') (j + 1) (rowOf ptC Q ++ ptC (.slice da data dc, limP data size j))) (hg : (wr.alloc o).grownBy W3 (Value.slice va j vc).ownBlock) :
    LiRel w (W3.setCell ⟨w.heap.size, 1, none⟩ (.slice a' (j + 1) c')) (Q ++ [(.slice da data dc, limP data size j)]) data size (j + 1) a' c' := by
  have hO := h.own.later hi.below
  have hlt := lt_of_block h.box
  have hN : wr.heap[w.heap.size]? = _ := box_below h.box hi.below hlt
  have hN3 := stay_app (e := 71) hN hO.row (by decide) hg
  have hq : PtOwn wr (w.heap.size + 1) (.slice da data dc, limP data size j) := by
    show wr.ownsRow _ _ _ (.slice da data dc) (limD size data).length (strC (limD size data))
    rw [limD_len]
    exact own_low hi.own (by omega)
  refine ⟨heap_setCell_same _ w.heap.size 1 _ 24 _ hN3, ?_, ?_, ?_⟩
  · exact (hO.app hq ho hg).kept ((Kept.refl (fun k => k = w.heap.size) W3).setCell (p := ⟨w.heap.size, 1, none⟩) (fun _ => rfl) _) (fun g hb e => by omega)
  · rw [List.map_append, h.is, limPs_succ]; rfl
  · have hz := h.below.size
    exact (below_app (h.below.trans (hi.below.mono hz)) (Nat.le_refl _) (own_low hO.row (by omega)) hg).setCell (by show _ ≤ _; exact Nat.le_refl _) _

theorem check_q (puts data size : Nat) (va : Option Addr) (vc : Nat) (w : World) (r : Nat) (h1 : puts ≤ 10) (h2 : data ≤ 25) (h3 : size ≤ 1100) (hr : limW puts data size = r) (h : PtsIn w va (limPs data size puts)) :
    Calls Try.prog 14 #[.agg #[.string ⟨#[]⟩, .slice va puts vc]] w (TelPost (.int .i64 r) w) := by
  subst hr
  rw [← lim_check h1]
  exact check_any (limB puts data size) va puts vc w (baSum_lim puts data size h1 h2 h3) (limPs_len _ _ _) h

set_option maxHeartbeats 8000000 in
set_option maxRecDepth 100000 in
theorem EventLimits_body (x y z : Int) (w : World) (hx : InI x) (hy : InI y) (hz : InI z) :
    Calls Try.prog 8 #[.int .i64 x, .int .i64 y, .int .i64 z] w (TelPost (.bool true) w) := by
  obtain ⟨j0, hj0, hs0, hs1, hs2⟩ := info_parts infoStr
  obtain ⟨k0, hk0, hp0, hp1, hp2⟩ := info_parts infoPut
  have cW := fun wx hb => aw_t w wx hb
  by_cases hbad : x < 0 ∨ 10 < x ∨ y < 0 ∨ 25 < y ∨ z < 0 ∨ 1100 < z
  · by_cases c1 : x < 0
    · go_enter Try.func8, Try.ntmps8
      go_wp2_with (go_at_call 11; (with_reducible refine (cW _ (Below.refl _ _)).mono ?_))
      rintro e W2 ⟨rfl, b2⟩
      go_wp2
      go_ret
      exact ⟨rfl, b2⟩
    by_cases c2 : 10 < x
    · go_enter Try.func8, Try.ntmps8
      go_wp2_with (go_at_call 11; (with_reducible refine (cW _ (Below.refl _ _)).mono ?_))
      rintro e W2 ⟨rfl, b2⟩
      go_wp2
      go_ret
      exact ⟨rfl, b2⟩
    by_cases c3 : y < 0
    · go_enter Try.func8, Try.ntmps8
      go_wp2_with (go_at_call 11; (with_reducible refine (cW _ (Below.refl _ _)).mono ?_))
      rintro e W2 ⟨rfl, b2⟩
      go_wp2
      go_ret
      exact ⟨rfl, b2⟩
    by_cases c4 : 25 < y
    · go_enter Try.func8, Try.ntmps8
      go_wp2_with (go_at_call 11; (with_reducible refine (cW _ (Below.refl _ _)).mono ?_))
      rintro e W2 ⟨rfl, b2⟩
      go_wp2
      go_ret
      exact ⟨rfl, b2⟩
    by_cases c5 : z < 0
    · go_enter Try.func8, Try.ntmps8
      go_wp2_with (go_at_call 11; (with_reducible refine (cW _ (Below.refl _ _)).mono ?_))
      rintro e W2 ⟨rfl, b2⟩
      go_wp2
      go_ret
      exact ⟨rfl, b2⟩
    have c6 : 1100 < z := by omega
    go_enter Try.func8, Try.ntmps8
    go_wp2_with (go_at_call 11; (with_reducible refine (cW _ (Below.refl _ _)).mono ?_))
    rintro e W2 ⟨rfl, b2⟩
    go_wp2
    go_ret
    exact ⟨rfl, b2⟩
  · obtain ⟨puts, rfl⟩ : ∃ n : Nat, x = (n : Int) := ⟨x.toNat, by omega⟩
    obtain ⟨data, rfl⟩ : ∃ n : Nat, y = (n : Int) := ⟨y.toNat, by omega⟩
    obtain ⟨size, rfl⟩ : ∃ n : Nat, z = (n : Int) := ⟨z.toNat, by omega⟩
    have hpu : puts ≤ 10 := by omega
    have hda : data ≤ 25 := by omega
    have hsi : size ≤ 1100 := by omega
    clear hbad hx hy hz
    go_enter Try.func8, Try.ntmps8
    go_wp2
    go_loopw [8] (fun i wr => ∃ (j : Nat) (Q : List (Value × Pt)) (va : Option Addr) (vc : Nat), i = .int .i64 j ∧ j ≤ puts ∧ Hid (LiRel w wr Q data size j va vc)) (fun i _ => puts - (intOf i).toNat)
    case atStart => exact ⟨0, [], none, 0, rfl, Nat.zero_le _, heap_alloc_new w _, PtsOwn.nil _ _, rfl, (Below.refl _ _).alloc (Nat.le_refl _) _⟩
    case round =>
      obtain ⟨j, Q, va, vc, rfl, hj, HR⟩ := hrel
      obtain ⟨wo, hwo⟩ : ∃ wo : World, wo = wr := ⟨_, rfl⟩
      subst hwo
      by_cases hlt : j < puts
      · have hbt := lit_bts wo [(97 + j).toUInt8] #[.int .u8 (97 + (j : Int))] (0, 0) (by simp [Lib.byteCells]; omega)
        have kc := conv_bts (wo.alloc (.cells #[.int .u8 (97 + (j : Int))] 5)) (some ⟨wo.heap.size, 0, none⟩) 1 1 [(97 + j).toUInt8] rfl hbt
        obtain ⟨nm, hnm⟩ : ∃ nm : ByteArray, nm = limN j := ⟨_, rfl⟩
        have hcat : (⟨#[115]⟩ ++ ⟨[(97 + j).toUInt8].toArray⟩ : ByteArray) = nm := by rw [hnm]; rfl
        obtain ⟨sn, hsn⟩ : ∃ sn : ByteArray, sn = ⟨[(97 + j).toUInt8].toArray⟩ := ⟨_, rfl⟩
        have hsl : sn.size = 1 := by rw [hsn]; rfl
        rw [← hsn] at kc hcat
        have HNM := Lib.hid hnm
        clear hbt hnm hsn
        go_wp2
        go_loopw [10] (fun i wr => ∃ (t : Nat) (da : Option Addr) (dc : Nat), i = .int .i64 t ∧ t ≤ data ∧ Hid (LiIn wo wr (wo.heap.size + 1) nm size t da dc)) (fun i _ => data - (intOf i).toNat)
        case atStart =>
          refine ⟨0, none, 0, rfl, Nat.zero_le _, ?_, World.ownsRow_nil _ _ _ _, ?_⟩
          · have := heap_alloc_new (wo.alloc (.cells #[.int .u8 (97 + (j : Int))] 5)) (.cells #[.string nm, .int .i64 (-1), .slice none 0 0] 71)
            simpa using this
          · exact ((Below.refl _ wo).alloc (Nat.le_refl _) _).alloc (by simp) _
        case round =>
          obtain ⟨t, da, dc, rfl, ht, HI⟩ := hrel
          by_cases hlt2 : t < data
          · obtain ⟨_, _, d2, _, _, f2⟩ := box_cells HI.out.box
            have hO := HI.out.own
            have cL := fun V => letters_t size t V (by omega) (by omega)
            obtain ⟨lt, hlt3⟩ : ∃ lt, lt = limT size t := ⟨_, rfl⟩
            rw [← hlt3] at cL
            have HLT := Lib.hid hlt3
            have HG := Lib.hid (lt_of_block HI.out.box)
            have hgz := HG.out
            have hsz := HI.out.below.size
            clear hlt3
            go_wp2_with fail
            go_region_law (first
              | ((rw [if_pos (by rfl)]; go_simp; go_at_call 35; (refine (cL _).mono ?_); rintro e W1 ⟨rfl, b3⟩; have hN : W1.heap[wo.heap.size + 1]? = _ := nb b3 (by exact HI.out.box); obtain ⟨_, _, d3, _, _, f3⟩ := box_cells hN; have hO1 := ownsLater (by exact hO) b3; have hS1 : wr.heap.size ≤ W1.heap.size := b3.size; have d4 := alloc_cell d3 (.cells #[.string lt] 9); go_simp))
              | ((refine step_append_lies _ (by rfl) _ _ _ (by rfl) (wo.heap.size + 1) 9 j0 (.string ⟨#[]⟩) 1 16 Try.underlying69 hj0 hs0 hs1 hs2 (by rfl) (by omega) _ _ (strC (limD size t)) (by rfl) (by first | exact (hO1.alloc _).drew | exact hO1.drew.alloc _ | exact hO1.alloc _) ⟨W1.heap.size, 0, none⟩ 1 1 _ (by rfl) (by rfl) (World.news_of_block (t := 9) (fr := (0, 0)) (heap_alloc_new W1 _)) (by simp [Value.oneCell']) (by omega) (by unfold maxLen; omega) (by omega) (by simp; omega) (W1.heap.size + 1) (by simp) ?_; intro gg cap3 w3 hown3 hgrow hat3 hlt3; have hN3 := stay_app (e := 9) hN hO1 (by decide) hgrow; obtain ⟨_, _, d5, _, _, f5⟩ := box_cells hN3)))
            all_goals (
              have HI3 := Lib.hid (HI.out.step HLT.out (by first | exact b3 | exact (Below.refl _ wr).drew.trans b3) hown3 hgrow)
              clear hown3 hgrow hat3 hlt3 hN3 hN d3 d4 d5 f3 f5 hO1 hS1 d2 f2 hO
              go_wp2
              go_roundw
              case rel => exact ⟨t + 1, _, _, by go_num, by omega, HI3.out⟩
              case measure => simp [intOf]; omega)
          · obtain rfl : t = data := by omega
            have hO := (HR.out.own.later HI.out.below).row
            have hN : wr.heap[w.heap.size]? = _ := box_below HR.out.box HI.out.below (lt_of_block HR.out.box)
            obtain ⟨_, b1, _, f1⟩ := box2_cells hN
            obtain ⟨d0, d1, d2, _, _, _⟩ := box_cells HI.out.box
            have hwz : w.heap.size + 1 ≤ wr.heap.size := lt_of_block hN
            have HN := Lib.hid hN
            clear hN
            go_wp2_with (at_builtin; refine wpList_append_own_at _ rfl _ _ 22 rfl (w.heap.size + 1) 71 k0 (.agg #[.string ⟨#[]⟩, .int .i64 0, .slice none 0 0]) 3 48 Try.underlying22 hk0 hp0 hp1 hp2 rfl (by decide) _ _ _ rfl (hO.alloc _) ⟨wr.heap.size, 0, none⟩ 1 1 (ptC (.slice da t dc, limP t size j)) rfl rfl ?c1 ?c2 ?c3 ?c4 ?c5 ?_)
            case c1 => intro i u hu; rw [HNM.out]; exact new_cells8 _ #[.string (limN j), .int .i64 (-1), .slice da t dc] _ _ rfl i u hu
            case c2 => intro u hu; simp [ptC] at hu; rcases hu with rfl | rfl | rfl <;> rfl
            case c3 => unfold maxLen; omega
            case c4 => omega
            case c5 => first | omega | (simp; omega)
            intro v' W3 o3 g3 _ _
            obtain ⟨a3, c3, rfl⟩ := own_slice o3
            have HR3 := Lib.hid (HR.out.step HI.out HNM.out o3 g3)
            have hN3 := stay_app (e := 71) HN.out hO (by decide) g3
            obtain ⟨_, x1, _, x1f⟩ := box2_cells hN3
            clear o3 g3 hN3 hO b1 d0 d1 d2
            go_wp2
            go_roundw
            case rel => exact ⟨j + 1, _, _, _, by go_num, by omega, HR3.out⟩
            case measure => simp [intOf]; omega
      · obtain rfl : j = puts := by omega
        have HQ := Lib.hid HR.out.own.ptsIn
        rw [HR.out.is] at HQ
        obtain ⟨b0, b1, _, _⟩ := box2_cells HR.out.box
        have hwz : w.heap.size + 1 ≤ wo.heap.size := lt_of_block HR.out.box
        have hm1 : j * data ≤ 10 * 25 := Nat.mul_le_mul hpu hda
        have hm2 : j * data * size ≤ 250 * 1100 := Nat.mul_le_mul hm1 hsi
        obtain ⟨P, hP⟩ : ∃ P, P = j * data := ⟨_, rfl⟩
        rw [← hP] at hm1 hm2
        obtain ⟨R, hR2⟩ : ∃ R, R = P * size := ⟨_, rfl⟩
        rw [← hR2] at hm2
        have hw1 : IntKind.i64.wrap ((j : Int) * (data : Int)) = (P : Int) := by rw [hP, Int.natCast_mul]; rw [hP, ] at hm1; exact IntWalk.i64_in _ (by rw [← Int.natCast_mul]; omega)
        have hw2 : IntKind.i64.wrap ((P : Int) * (size : Int)) = (R : Int) := by rw [hR2, Int.natCast_mul]; rw [hR2] at hm2; exact IntWalk.i64_in _ (by rw [← Int.natCast_mul]; omega)
        have hW : limW j data size = if j = 0 ∨ data = 0 then 1 else if 8 < j ∨ 20 < data ∨ 1000 < size ∨ 30000 < R then 2 else 0 := by rw [hR2, hP]; rfl
        have HW := Lib.hid hW
        clear hW hP hR2
        by_cases h0 : j = 0
        · subst h0
          have cC := fun V (hv : PtsIn V va (limPs data size 0)) => check_q 0 data size va vc V 1 hpu hda hsi (by rw [HW.out, if_pos (by omega)]) hv
          go_wp2_with (first | (go_at_call 14; (with_reducible refine (cC _ HQ.out).mono ?_); rintro e W2 ⟨rfl, b2⟩; have HB2 := Lib.hid (HR.out.below.trans (b2.mono HR.out.below.size))) | (go_at_call 11; (with_reducible refine (cW _ HB2.out).mono ?_)))
          rintro e W3 ⟨rfl, b3⟩
          go_wp2
          go_ret
          exact ⟨rfl, b3⟩
        by_cases h00 : data = 0
        · subst h00
          have h0i : ¬ (j : Int) = 0 := by omega
          have cC := fun V (hv : PtsIn V va (limPs 0 size j)) => check_q j 0 size va vc V 1 hpu hda hsi (by rw [HW.out, if_pos (by omega)]) hv
          go_wp2_with (first | (go_at_call 14; (with_reducible refine (cC _ HQ.out).mono ?_); rintro e W2 ⟨rfl, b2⟩; have HB2 := Lib.hid (HR.out.below.trans (b2.mono HR.out.below.size))) | (go_at_call 11; (with_reducible refine (cW _ HB2.out).mono ?_)))
          rintro e W3 ⟨rfl, b3⟩
          go_wp2
          go_ret
          exact ⟨rfl, b3⟩
        have h0i : ((j : Int) == 0) = false := by rw [beq_eq_false_iff_ne]; omega
        have h00i : ((data : Int) == 0) = false := by rw [beq_eq_false_iff_ne]; omega
        by_cases c1 : 8 < j
        · have c1i : (8 : Int) < (j : Int) := by omega
          have cC := fun V (hv : PtsIn V va (limPs data size j)) => check_q j data size va vc V 2 hpu hda hsi (by rw [HW.out, if_neg (by omega), if_pos (by omega)]) hv
          go_wp2_with (first | (go_at_call 14; (with_reducible refine (cC _ HQ.out).mono ?_); rintro e W2 ⟨rfl, b2⟩; have HB2 := Lib.hid (HR.out.below.trans (b2.mono HR.out.below.size))) | (go_at_call 11; (with_reducible refine (cW _ HB2.out).mono ?_)))
          rintro e W3 ⟨rfl, b3⟩
          go_wp2
          go_ret
          exact ⟨rfl, b3⟩
        have c1i : ¬ (8 : Int) < (j : Int) := by omega
        by_cases c2 : 20 < data
        · have c2i : (20 : Int) < (data : Int) := by omega
          have cC := fun V (hv : PtsIn V va (limPs data size j)) => check_q j data size va vc V 2 hpu hda hsi (by rw [HW.out, if_neg (by omega), if_pos (by omega)]) hv
          go_wp2_with (first | (go_at_call 14; (with_reducible refine (cC _ HQ.out).mono ?_); rintro e W2 ⟨rfl, b2⟩; have HB2 := Lib.hid (HR.out.below.trans (b2.mono HR.out.below.size))) | (go_at_call 11; (with_reducible refine (cW _ HB2.out).mono ?_)))
          rintro e W3 ⟨rfl, b3⟩
          go_wp2
          go_ret
          exact ⟨rfl, b3⟩
        have c2i : ¬ (20 : Int) < (data : Int) := by omega
        by_cases c3 : 1000 < size
        · have c3i : (1000 : Int) < (size : Int) := by omega
          have cC := fun V (hv : PtsIn V va (limPs data size j)) => check_q j data size va vc V 2 hpu hda hsi (by rw [HW.out, if_neg (by omega), if_pos (by omega)]) hv
          go_wp2_with (first | (go_at_call 14; (with_reducible refine (cC _ HQ.out).mono ?_); rintro e W2 ⟨rfl, b2⟩; have HB2 := Lib.hid (HR.out.below.trans (b2.mono HR.out.below.size))) | (go_at_call 11; (with_reducible refine (cW _ HB2.out).mono ?_)))
          rintro e W3 ⟨rfl, b3⟩
          go_wp2
          go_ret
          exact ⟨rfl, b3⟩
        have c3i : ¬ (1000 : Int) < (size : Int) := by omega
        by_cases c4 : 30000 < R
        · have c4i : (30000 : Int) < (R : Int) := by omega
          have cC := fun V (hv : PtsIn V va (limPs data size j)) => check_q j data size va vc V 2 hpu hda hsi (by rw [HW.out, if_neg (by omega), if_pos (by omega)]) hv
          go_wp2_with (first | (go_at_call 14; (with_reducible refine (cC _ HQ.out).mono ?_); rintro e W2 ⟨rfl, b2⟩; have HB2 := Lib.hid (HR.out.below.trans (b2.mono HR.out.below.size))) | (go_at_call 11; (with_reducible refine (cW _ HB2.out).mono ?_)))
          rintro e W3 ⟨rfl, b3⟩
          go_wp2
          go_ret
          exact ⟨rfl, b3⟩
        have c4i : ¬ (30000 : Int) < (R : Int) := by omega
        have cC := fun V (hv : PtsIn V va (limPs data size j)) => check_q j data size va vc V 0 hpu hda hsi (by rw [HW.out, if_neg (by omega), if_neg (by omega)]) hv
        go_wp2_with (first | (go_at_call 14; (with_reducible refine (cC _ HQ.out).mono ?_); rintro e W2 ⟨rfl, b2⟩; have HB2 := Lib.hid (HR.out.below.trans (b2.mono HR.out.below.size))) | (go_at_call 11; (with_reducible refine (cW _ HB2.out).mono ?_)))
        rintro e W3 ⟨rfl, b3⟩
        go_wp2
        go_ret
        exact ⟨rfl, b3⟩

theorem EventLimits_walk (a0 a1 a2 : Int) (w : World) (w0 : (Lit.int .i64 a0).wf = true) (w1 : (Lit.int .i64 a1).wf = true) (w2 : (Lit.int .i64 a2).wf = true) :
    Calls Try.prog 8 #[.int .i64 a0, .int .i64 a1, .int .i64 a2] w fun e w' => e = .returned (.bool true) ∧ Below w.heap.size w w' :=
  EventLimits_body a0 a1 a2 w (ini_of w0) (ini_of w1) (ini_of w2)

end Go.Proofs.Ytggognmbjgkdfaa
