/-
  EventRuns.
-/
import Derived.Test.YtggognmbjgkdfaaLwA
set_option linter.unusedVariables false
namespace Go.Proofs.Ytggognmbjgkdfaa
open Go.RowKit

theorem infoInt : (Try.prog.info? 3).map (fun i => (i.zero, i.size, i.bytes)) = some (some (.int .i64 0), 1, 8) := by kernel_rfl
def intCells (l : List Int) : List Value := l.map (Value.int .i64)
def fsL (first : Int) (i : Nat) : List Int := (List.range i).map fun t : Nat => first + 10 * (t : Int)
theorem fsL_len (first : Int) (i : Nat) : (fsL first i).length = i := by simp [fsL]
theorem fsL_succ (first : Int) (i : Nat) : fsL first (i + 1) = fsL first i ++ [first + 10 * (i : Int)] := by simp [fsL, List.range_succ]
theorem fsL_get (first : Int) (n i : Nat) (h : i < n) : (fsL first n)[i]? = some (first + 10 * (i : Int)) := by
  simp [fsL, h]
theorem intCells_app (a b : List Int) : intCells a ++ intCells b = intCells (a ++ b) := by simp [intCells]
theorem ints_of_own {w : World} {B n c : Nat} {a : Option Addr} {l : List Int} (h : w.ownsRow B 3 1 (.slice a n c) n (intCells l)) (hl : l.length = n) : IntsIn w a l := by
  intro i hi
  rcases h.2 with ⟨hv, hn⟩ | ⟨g, cap, cur, hv, hb, _⟩
  · omega
  · injection hv with e1 e2 e3
    subst e1
    refine ⟨_, rfl, ?_⟩
    rw [add0, h.cellAt i (by omega)]
    simp [intCells, List.getElem?_eq_getElem hi]

/-- Where a batch's events stand. -/
theorem mk_le (ps : List Pt) (fs : List Int) (s : Sm) (ix : Int) (i : Nat) : ∀ n, i ≤ n → n ≤ ps.length → ∀ k, k < (mkUpto ps fs s ix i).length → (mkUpto ps fs s ix n)[k]? = (mkUpto ps fs s ix i)[k]? := by
  intro n hn
  induction n with
  | zero => intro _ k hk; obtain rfl : i = 0 := by omega
            rfl
  | succ n ih =>
    intro hl k hk
    by_cases e : i = n + 1
    · subst e; rfl
    · have h1 := ih (by omega) (by omega) k hk
      have hk2 : k < (mkUpto ps fs s ix n).length := by
        rw [mkUpto_len _ _ _ _ _ (by omega)] at hk ⊢
        unfold dLens at hk ⊢
        have : ((ps.take i).map fun p => p.d.length).sum ≤ ((ps.take n).map fun p => p.d.length).sum := by
          rw [show ps.take i = (ps.take n).take i from by rw [List.take_take]; congr 1; omega]
          exact sum_take_le _ _ _
        omega
      rw [mkUpto_succ _ _ _ _ _ (by omega), List.getElem?_append_left hk2]
      exact h1
theorem mk_at (ps : List Pt) (fs : List Int) (s : Sm) (ix : Int) (i j : Nat) (hi : i < ps.length) (hj : j < (ps[i]'hi).d.length) :
    (makeL ps fs s ix)[(mkUpto ps fs s ix i).length + j]? = some ⟨(ps[i]'hi).s, verOf fs[i]? j, (ps[i]'hi).d[j]'hj, s, ix + (((mkUpto ps fs s ix i).length + j : Nat) : Int)⟩ := by
  have hs := mkUpto_succ ps fs s ix i hi
  unfold makeL
  rw [mk_le ps fs s ix (i + 1) ps.length (by omega) (Nat.le_refl _) _ (by rw [hs, List.length_append, putEvs_len]; omega), hs, List.getElem?_append_right (by omega), Nat.add_sub_cancel_left]
  simp only [putEvs, List.getElem?_map, List.getElem?_range hj, Option.map_some, List.getD_eq_getElem?_getD, List.getElem?_eq_getElem hj, Option.getD_some]
  congr 2
  omega

theorem check_p (b : Ba) (a : Option Addr) (n c : Nat) (w : World) (r : Nat) (hr : checkB b = r) (hs : baSum b ≤ 1000000) (hl : b.p.length = n) (h : PtsIn w a b.p) :
    Calls Try.prog 14 #[.agg #[.string b.k, .slice a n c]] w (TelPost (.int .i64 r) w) := by
  subst hr
  exact check_any b a n c w hs hl h

set_option maxHeartbeats 8000000 in
set_option maxRecDepth 100000 in
theorem EventRuns_body (b : Ba) (a : Option Addr) (n c : Nat) (fi : Int) (s : Sm) (w : World) (h0 : BaIn w b a n c) (hi : InI fi) :
    Calls Try.prog 9 #[.agg #[.string b.k, .slice a n c], .int .i64 fi, .agg #[.int .i64 s.w, .int .i64 s.l, .int .i64 s.n]] w (TelPost (.bool true) w) := by
  obtain ⟨j0, hji, hz0, hz1, hz2⟩ := info_parts infoInt
  have bA := ((Below.refl w.heap.size w).alloc (Nat.le_refl _) (.cells #[.string b.k, .slice a n c] 24)).alloc (by simp) (.cells #[.int .i64 s.w, .int .i64 s.l, .int .i64 s.n] 40)
  have gA := box_alloc (heap_alloc_new w (.cells #[.string b.k, .slice a n c] 24)) (.cells #[.int .i64 s.w, .int .i64 s.l, .int .i64 s.n] 40)
  have gB := heap_alloc_new (w.alloc (.cells #[.string b.k, .slice a n c] 24)) (.cells #[.int .i64 s.w, .int .i64 s.l, .int .i64 s.n] 40)
  rw [World.size_alloc] at gB
  have hn := h0.fit.n
  rw [h0.len] at hn
  unfold maxLen at hn
  obtain ⟨i0, i1⟩ := hi
  have cA := aBatch_6 b a n c _ h0.fit h0.len (h0.at_.later bA)
  have HI := Lib.hid h0
  have HBA := Lib.hid bA
  have HGA := Lib.hid gA
  have HGB := Lib.hid gB
  clear bA gA gB h0
  go_enter Try.func9, Try.ntmps9
  go_wp2_with (go_at_call 10; (with_reducible refine cA.mono ?_))
  rintro e W1 ⟨t, rfl, ht, hS, b1⟩
  have HB1 := Lib.hid (HBA.out.trans (b1.mono (by simp; omega)))
  have HG1 := Lib.hid (box_below HGA.out b1 (by simp; omega))
  have HG2 := Lib.hid (box_below HGB.out b1 (by simp))
  have HSS := Lib.hid hS
  clear b1 hS cA HBA HGA HGB
  have cW := fun wx hb => aw_t w wx hb
  by_cases ct : (6000 : Int) < (t : Int)
  · go_wp2_with (go_at_call 11; (with_reducible refine (cW _ HB1.out).mono ?_))
    rintro e W2 ⟨rfl, b2⟩
    go_wp2
    go_ret
    exact ⟨rfl, b2⟩
  have hba : baSum b ≤ 6000 := (HSS.out (by omega)).1
  obtain ⟨x0, x1, _⟩ := box2_cells HG1.out
  obtain ⟨r, hr⟩ : ∃ r, checkB b = r := ⟨_, rfl⟩
  have cC := check_p b a n c W1 r hr (by omega) HI.out.len (HI.out.at_.later HB1.out)
  go_wp2_with (go_at_call 14; (with_reducible refine cC.mono ?_))
  rintro e W2 ⟨rfl, b2⟩
  have HB2 := Lib.hid (HB1.out.trans (b2.mono HB1.out.size))
  have HG3 := Lib.hid (box_below HG1.out b2 (lt_of_block HG1.out))
  have HG4 := Lib.hid (box_below HG2.out b2 (lt_of_block HG2.out))
  have HBS := Lib.hid hba
  clear b2 cC x0 x1 hba
  by_cases cr : r = 0
  · subst cr
    have HCK := Lib.hid hr
    clear hr
    by_cases cf1 : fi < 1
    · go_wp2_with (go_at_call 11; (with_reducible refine (cW _ HB2.out).mono ?_))
      rintro e W3 ⟨rfl, b3⟩
      go_wp2
      go_ret
      exact ⟨rfl, b3⟩
    by_cases cf2 : 1073741824 < fi
    · go_wp2_with (go_at_call 11; (with_reducible refine (cW _ HB2.out).mono ?_))
      rintro e W3 ⟨rfl, b3⟩
      go_wp2
      go_ret
      exact ⟨rfl, b3⟩
    have hn6 : n ≤ 8 := by
      have := (bigB_iff.1 (checkB_zero.1 HCK.out).2).1
      rw [HI.out.len] at this
      exact this
    clear i0 i1
    go_wp2
    go_loopw [7, 8] (fun v i wr => ∃ (j : Nat) (va : Option Addr) (vc : Nat), i = .int .i64 j ∧ j ≤ n ∧ v = .slice va j vc ∧ Hid (wr.ownsRow W2.heap.size 3 1 (.slice va j vc) j (intCells (fsL fi j))) ∧ Hid (Below W2.heap.size W2 wr)) (fun _ i _ => n - (intOf i).toNat)
    case atStart => exact ⟨0, none, 0, rfl, Nat.zero_le _, rfl, World.ownsRow_nil _ _ _ _, Below.refl _ _⟩
    case round =>
      obtain ⟨j, va, vc, rfl, hj, rfl, HO, HBR⟩ := hrel
      obtain ⟨_, x1, _⟩ := box2_cells (box_below HG3.out HBR.out (lt_of_block HG3.out))
      have hzr := HBR.out.size
      by_cases hlt : j < n
      · have hji0 : (0 : Int) ≤ (j : Int) := by omega
        have hji1 : (j : Int) < (n : Int) := by omega
        have hO := HO.out
        go_wp2_with (at_builtin; refine wpList_append_own_at _ rfl _ _ 63 rfl W2.heap.size 3 j0 (.int .i64 0) 1 8 Try.underlying63 hji hz0 hz1 hz2 rfl (by decide) _ _ _ rfl (hO.alloc _) ⟨wr.heap.size, 0, none⟩ 1 1 (intCells [fi + 10 * (j : Int)]) rfl rfl ?c1 ?c2 ?c3 ?c4 ?c5 ?_)
        case c1 => intro i u hu; first | exact hu | exact new_cells8 _ _ _ _ rfl i u hu
        case c2 => intro u hu; simp [intCells] at hu; subst hu; rfl
        case c3 => unfold maxLen; omega
        case c4 => omega
        case c5 => first | omega | (simp; omega)
        intro v' W3 o3 g3 _ _
        obtain ⟨a3, c3, rfl⟩ := own_slice o3
        have HB3 := Lib.hid (below_app HBR.out (Nat.le_refl _) hO g3)
        rw [intCells_app, ← fsL_succ] at o3
        have HO3 := Lib.hid o3
        clear o3 g3 hO x1
        go_wp2
        go_roundw
        case rel => exact ⟨j + 1, a3, c3, by go_num, by omega, by go_num, HO3.out, HB3.out⟩
        case measure => simp [intOf]; omega
      · obtain rfl : j = n := by omega
        obtain ⟨x0, _⟩ := box2_cells (box_below HG3.out HBR.out (lt_of_block HG3.out))
        obtain ⟨y0, y1, y2, _⟩ := box_cells (box_below HG4.out HBR.out (lt_of_block HG4.out))
        obtain ⟨L, hL⟩ : ∃ L, makeL b.p (fsL fi j) s 0 = L := ⟨_, rfl⟩
        have hLl : L.length ≤ 1000000 := by rw [← hL]; exact makeL_len (by have := HBS.out; omega) _ _ _
        have HBW := Lib.hid (HB2.out.trans (HBR.out.mono HB2.out.size))
        have cM := make_p b a j c (fsL fi j) va j vc s 0 L hL wr (by have := HBS.out; omega) HI.out.len (HI.out.at_.later HBW.out) (fsL_len _ _) (by omega) (ints_of_own HO.out (fsL_len _ _)) (fun f hf => by
          simp only [fsL, List.mem_map, List.mem_range] at hf
          obtain ⟨t, ht, rfl⟩ := hf
          omega) (by omega) (by omega)
        have HL := Lib.hid hL
        clear hL
        go_wp2_with (go_at_call 32; (with_reducible refine cM.mono ?_))
        rintro e W3 ⟨la, m3, lc, rfl, hm3, o3, b3⟩
        have HM3 := Lib.hid hm3
        rw [← hm3] at hLl
        have HEV := Lib.hid (evs_of_own o3 hm3)
        have HB3 := Lib.hid (HBW.out.trans (b3.mono HBW.out.size))
        have HG5 := Lib.hid (box_below (box_below HG3.out HBR.out (lt_of_block HG3.out)) b3 (lt_of_block (box_below HG3.out HBR.out (lt_of_block HG3.out))))
        have HG6 := Lib.hid (box_below (box_below HG4.out HBR.out (lt_of_block HG4.out)) b3 (lt_of_block (box_below HG4.out HBR.out (lt_of_block HG4.out))))
        obtain ⟨off, hoff⟩ : ∃ off : Nat → Nat, off = fun i => (mkUpto b.p (fsL fi j) s 0 i).length := ⟨_, rfl⟩
        have HOFF := Lib.hid hoff
        have HEND : Hid (off j = m3) := by
          show _ = _
          rw [hoff, hm3, ← HL.out]
          show (mkUpto b.p (fsL fi j) s 0 j).length = (mkUpto b.p (fsL fi j) s 0 b.p.length).length
          rw [HI.out.len]
        clear o3 b3 cM hm3 x0 x1 y0 y1 y2 hoff
        go_wp2
        go_loopw [10, 11] (fun u i wr => ∃ (p k : Nat), i = .int .i64 p ∧ p ≤ j ∧ u = .int .i64 k ∧ k ≤ m3 ∧ Hid (k = off p) ∧ ∃ q, wr = W3.drewN q) (fun _ i _ => j - (intOf i).toNat)
        case atStart => exact ⟨0, 0, rfl, Nat.zero_le _, rfl, Nat.zero_le _, by show _ = _; rw [HOFF.out]; rfl, 0, rfl⟩
        case round =>
          obtain ⟨p, k, rfl, hp, rfl, hkm, HK, q, rfl⟩ := hrel
          obtain ⟨W, hW⟩ : ∃ W, W = W3.drewN q := ⟨_, rfl⟩
          rw [← hW]
          have HW := Lib.hid hW
          obtain ⟨_, z1, _⟩ := box2_cells HG5.out
          have x1 : W.cell? ⟨w.heap.size, 1, none⟩ = some (.slice a j c) := by rw [hW]; exact z1
          clear z1 hW
          by_cases hpj : p < j
          · have hpl : p < b.p.length := by rw [HI.out.len]; exact hpj
            obtain ⟨x, d, cd, rfl, hat0⟩ := HI.out.at_ p hpl
            have HAT := Lib.hid (hat0.later HB3.out)
            have hd20 := ((bigB_iff.1 (checkB_zero.1 HCK.out).2).2.1 _ (List.getElem_mem hpl)).1
            have HAV : Hid (∀ t (ht : t < (b.p[p]'hpl).d.length), L[off p + t]? = some ⟨(b.p[p]'hpl).s, verOf (fsL fi j)[p]? t, (b.p[p]'hpl).d[t]'ht, s, 0 + ((off p + t : Nat) : Int)⟩) := fun t ht => by
              rw [← HL.out, HOFF.out]
              exact mk_at b.p (fsL fi j) s 0 p t hpl ht
            have HNX : Hid (off (p + 1) = off p + (b.p[p]'hpl).d.length) := by
              show _ = _
              rw [HOFF.out]
              show (mkUpto b.p (fsL fi j) s 0 (p + 1)).length = (mkUpto b.p (fsL fi j) s 0 p).length + (b.p[p]'hpl).d.length
              rw [mkUpto_succ _ _ _ _ _ hpl, List.length_append, putEvs_len]
            have HVE : Hid (∀ t, verOf (fsL fi j)[p]? t = fi + 10 * (p : Int) + (t : Int)) := fun t => by rw [fsL_get _ _ _ hpj]; rfl
            obtain ⟨pt, hpt⟩ : ∃ pt, pt = b.p[p]'hpl := ⟨_, rfl⟩
            rw [← hpt] at HAT hd20 HAV HNX
            obtain ⟨ps0, pe, dl⟩ := pt
            simp only at HAT hd20 HAV HNX
            obtain ⟨md, hmd⟩ : ∃ md, md = dl.length := ⟨_, rfl⟩
            rw [← hmd] at hd20 HNX
            have HMD := Lib.hid hmd
            have hpi0 : (0 : Int) ≤ (p : Int) := by omega
            have hpi1 : (p : Int) < (j : Int) := by omega
            clear hpt hmd hat0
            go_wp2
            go_loopw [10, 12] (fun u i wr => ∃ (t k : Nat), i = .int .i64 t ∧ t ≤ md ∧ u = .int .i64 k ∧ k ≤ m3 ∧ Hid (k = off p + t) ∧ ∃ q, wr = W3.drewN q) (fun _ i _ => md - (intOf i).toNat)
            case atStart => exact ⟨0, k, rfl, Nat.zero_le _, rfl, hkm, HK.out, q, HW.out⟩
            case round =>
              clear x1
              obtain ⟨t, k2, rfl, ht, rfl, hk2m, HK2, q2, rfl⟩ := hrel
              obtain ⟨V, hV⟩ : ∃ V, V = W3.drewN q2 := ⟨_, rfl⟩
              rw [← hV]
              have HV := Lib.hid hV
              obtain ⟨_, z1, _⟩ := box2_cells HG5.out
              obtain ⟨s0, s1, s2, _⟩ := box_cells HG6.out
              have x1 : V.cell? ⟨w.heap.size, 1, none⟩ = some (.slice (some x) j c) := by rw [hV]; exact z1
              have y0 : V.cell? ⟨w.heap.size + 1, 0, none⟩ = some (.int .i64 s.w) := by rw [hV]; exact s0
              have y1 : V.cell? ⟨w.heap.size + 1, 1, none⟩ = some (.int .i64 s.l) := by rw [hV]; exact s1
              have y2 : V.cell? ⟨w.heap.size + 1, 2, none⟩ = some (.int .i64 s.n) := by rw [hV]; exact s2
              have q0 : V.cell? (x.add (p * 3)) = some (.string ps0) := by rw [hV]; exact HAT.out.c0
              have q2' : V.cell? (x.add (p * 3 + 2)) = some (.slice d md cd) := by rw [hV, HMD.out]; exact HAT.out.c2
              rw [fld x (p * 3) 2 (by decide)] at q2'
              clear z1 s0 s1 s2
              by_cases htm : t < md
              · have htm2 : t < dl.length := by have := HMD.out; omega
                obtain ⟨y, rfl, hy0⟩ := HAT.out.ds t htm2
                have hy : V.cell? (y.add t) = some (.string (dl[t]'htm2)) := by rw [hV]; exact hy0
                have hav := HAV.out t htm2
                rw [← HK2.out, HVE.out t] at hav
                obtain ⟨hkl, hke⟩ := List.getElem?_eq_some_iff.1 hav
                obtain ⟨u, rfl, hu⟩ := HEV.out k2 hkl
                rw [hke] at hu
                have hu' := hu.later (below_drewN (Below.refl _ W3) q2)
                rw [← hV] at hu'
                obtain ⟨u0, u1, u2, u3, u4, u5, u6⟩ := hu'
                simp only [Int.zero_add] at u0 u1 u2 u3 u4 u5 u6
                obtain ⟨z, hz⟩ : ∃ z, z = dl[t]'htm2 := ⟨_, rfl⟩
                rw [← hz] at hy u2
                have HZ := Lib.hid hz
                rw [fld u (k2 * 7) 1 (by decide)] at u1
                rw [fld u (k2 * 7) 2 (by decide)] at u2
                rw [fld u (k2 * 7) 3 (by decide)] at u3
                rw [fld u (k2 * 7) 4 (by decide)] at u4
                rw [fld u (k2 * 7) 5 (by decide)] at u5
                rw [fld u (k2 * 7) 6 (by decide)] at u6
                have hkm3 : k2 < m3 := by have := HM3.out; omega
                have hti0 : (0 : Int) ≤ (t : Int) := by omega
                have hti1 : (t : Int) < (md : Int) := by omega
                have hki0 : (0 : Int) ≤ (k2 : Int) := by omega
                have hki1 : (k2 : Int) < (m3 : Int) := by omega
                have hki2 : decide ((m3 : Int) ≤ (k2 : Int)) = false := decide_eq_false (by omega)
                have wr1 : IntKind.i64.wrap (10 * (p : Int)) = 10 * (p : Int) := IntWalk.i64_in _ (by omega)
                have wr2 : IntKind.i64.wrap (fi + 10 * (p : Int)) = fi + 10 * (p : Int) := IntWalk.i64_in _ (by omega)
                have wr3 : IntKind.i64.wrap (fi + 10 * (p : Int) + (t : Int)) = fi + 10 * (p : Int) + (t : Int) := IntWalk.i64_in _ (by omega)
                have hq := fun W => ev_eq ps0 z (fi + 10 * (p : Int) + (t : Int)) s.w s.l s.n (k2 : Int) W
                have HNK : Hid (k2 + 1 = off p + (t + 1)) := by show _ = _; have := HK2.out; omega
                clear hz hV hu hke hav hkl hy0
                go_wp2_with fail
                go_quiet (fail)
                go_wp2
                go_roundw
                case rel => exact ⟨t + 1, k2 + 1, by go_num, by omega, by go_num, by omega, HNK.out, _, by rw [HV.out]; first | rfl | (rw [World.drewN_drewN])⟩
                case measure => simp [intOf]; omega
              · obtain rfl : t = md := by omega
                have HNK : Hid (k2 = off (p + 1)) := by show _ = _; rw [HNX.out]; exact HK2.out
                clear hV
                go_wp2
                go_roundw
                case rel => exact ⟨p + 1, k2, by go_num, by omega, rfl, hk2m, HNK.out, q2, HV.out⟩
                case measure => simp [intOf]; omega
          · obtain rfl : p = j := by omega
            obtain rfl : k = m3 := by rw [HK.out]; exact HEND.out
            have HBF := Lib.hid (show Below w.heap.size w W from by rw [HW.out]; exact HB3.out.trans (below_drewN (Below.refl _ W3) q |>.mono HB3.out.size))
            go_wp2_with (go_at_call 11; (with_reducible refine (cW _ HBF.out).mono ?_))
            rintro e W5 ⟨rfl, b5⟩
            go_wp2
            go_ret
            exact ⟨rfl, b5⟩
  · have er : ((r : Int) != 0) = true := by simp; omega
    clear hr
    go_wp2_with (go_at_call 11; (with_reducible refine (cW _ HB2.out).mono ?_))
    rintro e W3 ⟨rfl, b3⟩
    go_wp2
    go_ret
    exact ⟨rfl, b3⟩

theorem EventRuns_walk (b0 : Ba) (a0 : Option Addr) (n0 c0 : Nat) (a1 : Int) (a2 : Sm) (w : World) (w0 : BaIn w b0 a0 n0 c0) (w1 : (Lit.int .i64 a1).wf = true) (w2 : SmI a2) :
    Calls Try.prog 9 #[.agg #[.string b0.k, .slice a0 n0 c0], .int .i64 a1, .agg #[.int .i64 a2.w, .int .i64 a2.l, .int .i64 a2.n]] w fun e w' => e = .returned (.bool true) ∧ Below w.heap.size w w' :=
  EventRuns_body b0 a0 n0 c0 a1 a2 w w0 (ini_of w1)

end Go.Proofs.Ytggognmbjgkdfaa
