/-
  The walk of NetOnce.
-/
import Derived.Test.YtenpoolminfofaaNtJ
set_option linter.unusedVariables false
namespace Go.Proofs.Ytenpoolminfofaa
open Go.RowKit

theorem infoBool : (Try.prog.info? 4).map (fun i => (i.zero, i.size, i.bytes)) = some (some (.bool false), 1, 1) := by kernel_rfl
def pks (S : List Nat) : List Pk := S.map (pkT 1 2)
theorem pks_len (S : List Nat) : (pks S).length = S.length := by simp [pks]
theorem pks_b (S : List Nat) : ∀ p ∈ pks S, p.b.length ≤ 131072 := by
  intro p hp
  unfold pks at hp
  obtain ⟨x, _, rfl⟩ := List.mem_map.1 hp
  show (1 : Nat) ≤ 131072
  omega
theorem pks_at (S : List Nat) (k : Nat) (hk : k < S.length) : atL (pks S) (k : Int) = (⟨1, 2, [UInt8.ofNat (S[k]'hk)]⟩, true) := by
  rw [atL_yes (by rw [pks_len]; exact hk)]
  simp [pks, pkT]
theorem pks_drop (S : List Nat) (k : Nat) (hk : k < S.length) : dropL (pks S) (k : Int) = pks (S.eraseIdx k) := by
  rw [dropL_yes (by rw [pks_len]; exact hk)]
  unfold pks
  rw [List.eraseIdx_eq_take_drop_succ, List.eraseIdx_eq_take_drop_succ, List.map_append, List.map_take, List.map_drop]

/-- Which were met: none of those that are still there. -/
structure Met (S : List Nat) (M : List Bool) : Prop where
  len : M.length = 100
  nd : S.Nodup
  un : ∀ m ∈ S, m < 100 ∧ M[m]? = some false
theorem Met.start (n : Nat) (hn : n ≤ 100) : Met (List.range n) (List.replicate 100 false) :=
  ⟨by simp, List.nodup_range, fun m hm => by
    have := List.mem_range.1 hm
    refine ⟨by omega, ?_⟩
    rw [List.getElem?_replicate, if_pos (by omega)]⟩
theorem Met.step {S : List Nat} {M : List Bool} (h : Met S M) (k : Nat) (hk : k < S.length) : Met (S.eraseIdx k) (M.set (S[k]'hk) true) := by
  refine ⟨by rw [List.length_set]; exact h.len, h.nd.eraseIdx k, fun m hm => ?_⟩
  have h1 := h.un m (List.mem_of_mem_eraseIdx hm)
  refine ⟨h1.1, ?_⟩
  have hne : m ≠ S[k]'hk := by
    intro e
    subst e
    rw [List.mem_eraseIdx_iff_getElem] at hm
    obtain ⟨i, hi, hik, he⟩ := hm
    have := List.pairwise_iff_getElem.1 h.nd
    rcases Nat.lt_trichotomy i k with hl | hl | hl
    · exact this i k hi hk hl he
    · exact hik hl
    · exact this k i hk hi hl he.symm
  rw [List.getElem?_set_ne (by omega)]
  exact h1.2

theorem boolCells_set (M : List Bool) (i : Nat) (c : Bool) : (M.map Value.bool).set i (.bool c) = (M.set i c).map Value.bool := by rw [List.map_set]

theorem NetOnce_far (a0 : Int) (a1 : Option Addr) (len1 cap1 : Nat) (w : World) (h : a0 < 0 ∨ 100 < a0 ∨ 200 < len1) :
    Calls Try.prog 4 #[.int .i64 a0, .slice a1 len1 cap1] w fun e w' => e = .returned (.bool true) ∧ Below w.heap.size w w' := by
  have cW := awake6 w
  by_cases h1 : a0 < 0
  · go_enter Try.func4, Try.ntmps4
    go_wp2_with (go_at_call 8; (with_reducible refine cW.mono ?_))
    rintro e W1 ⟨rfl, hb⟩
    go_wp2
    go_ret
    exact ⟨rfl, hb⟩
  · by_cases h2 : 100 < a0
    · go_enter Try.func4, Try.ntmps4
      go_wp2_with (go_at_call 8; (with_reducible refine cW.mono ?_))
      rintro e W1 ⟨rfl, hb⟩
      go_wp2
      go_ret
      exact ⟨rfl, hb⟩
    · have h3 : (200 : Int) < (len1 : Int) := by omega
      go_enter Try.func4, Try.ntmps4
      go_wp2_with (go_at_call 8; (with_reducible refine cW.mono ?_))
      rintro e W1 ⟨rfl, hb⟩
      go_wp2
      go_ret
      exact ⟨rfl, hb⟩

/-- Where NetOnce stands in its second loop. -/
structure OnceAt (w wr : World) (g gm cm : Nat) (S : List Nat) : Prop where
  ex : ∃ (M : List Bool) (v : Value) (Q : List (Value × Pk)), NtAt 46 wr w.heap.size g v Q (pks S) ∧ Met S M ∧ wr.ownsRow w.heap.size 4 1 (.slice (some ⟨gm, 0, none⟩) 100 cm) 100 (M.map Value.bool) ∧ ¬ NtS g v gm
  low : Below w.heap.size w wr

/-- The bits of numbers behind a delivery. -/
theorem OnceAt.next {w wr W4 : World} {g gm cm k : Nat} {S : List Nat} {M : List Bool} {v v4 : Value} {Q Q4 : List (Value × Pk)} {o : Obj} (hnt : NtAt 46 wr w.heap.size g v Q (pks S)) (hM : Met S M) (ho : wr.ownsRow w.heap.size 4 1 (.slice (some ⟨gm, 0, none⟩) 100 cm) 100 (M.map Value.bool)) (hn : ¬ NtS g v gm) (hlow : Below w.heap.size w wr)
    (R4 : NtRel 46 wr W4 w.heap.size g v Q v4 Q4 (pks (S.eraseIdx k))) (hk : k < S.length) :
    (W4.alloc o).cell? ⟨gm, S[k]'hk, none⟩ = some (.bool false) ∧ (W4.alloc o).frozen? ⟨gm, S[k]'hk, none⟩ = false ∧ OnceAt w ((W4.alloc o).setCell ⟨gm, S[k]'hk, none⟩ (.bool true)) g gm cm (S.eraseIdx k) := by
  have om := Kept.own ho R4.kept (fun i e e2 => hn (by injection e with e; rw [show gm = i from e]; exact e2))
  have bA := (Below.refl W4.heap.size W4).alloc (Nat.le_refl _) o
  have oA := Kept.own om (Kept.of_below (S := fun _ => False) bA) (fun _ _ h => h)
  obtain ⟨hx, hx2⟩ := hM.un _ (List.getElem_mem hk)
  have hlt := own_lt ho gm rfl
  have hz := hlow.size
  refine ⟨?_, oA.frozenAt _, ⟨⟨M.set (S[k]'hk) true, v4, Q4, ?_, hM.step k hk, ?_, ?_⟩, ?_⟩⟩
  · rw [oA.cellAt _ (by omega), List.getElem?_map, hx2]; rfl
  · refine (R4.at_.below bA).kept (S := fun i => i = gm) (Kept.setCell (S := fun i => i = gm) (p := ⟨gm, S[k]'hk, none⟩) (Kept.refl _ _) (fun _ => rfl) _) (fun i e e2 => ?_)
    have e2' : i = gm := e2
    subst e2'
    rcases e with e | ⟨q, hq, e⟩
    · rcases R4.newS i e with e | e
      · exact hn e
      · omega
    · exact own_two (R4.at_.byt q hq) om (by decide) i e rfl
  · have := (oA.stored (S[k]'hk) (.bool true)).1
    rwa [boolCells_set] at this
  · intro e
    rcases R4.newS gm e with e | e
    · exact hn e
    · omega
  · exact ((hlow.trans (R4.low hnt hz)).alloc (Nat.le_trans hz R4.kept.size) _).setCell (p := ⟨gm, S[k]'hk, none⟩) hlt.1 _

set_option maxHeartbeats 8000000 in
set_option maxRecDepth 100000 in
theorem NetOnce_walk (a0 : Int) (a1 : Option Addr) (len1 cap1 : Nat) (z1 : List Int) (w : World) (w0 : (Lit.int .i64 a0).wf = true) (w1 : RowIn .i64 w a1 len1 cap1 z1) :
    Calls Try.prog 4 #[.int .i64 a0, .slice a1 len1 cap1] w fun e w' => e = .returned (.bool true) ∧ Below w.heap.size w w' := by
  by_cases hfar : a0 < 0 ∨ 100 < a0 ∨ 200 < len1
  · exact NetOnce_far a0 a1 len1 cap1 w hfar
  · obtain ⟨n, rfl⟩ : ∃ n : Nat, a0 = (n : Int) := ⟨a0.toNat, by omega⟩
    have h1 : ¬ (n : Int) < 0 := by omega
    have h2 : ¬ (100 : Int) < (n : Int) := by omega
    have h3 : ¬ (200 : Int) < (len1 : Int) := by omega
    have hn2 : n ≤ 100 := by omega
    have hl2 : len1 ≤ 200 := by omega
    have hin : ∀ i, i < len1 → ∃ x c, a1 = some x ∧ w.cell? (x.add i) = some (.int .i64 c) ∧ -9223372036854775808 ≤ c ∧ c ≤ 9223372036854775807 := by
      intro i hi
      rcases w1 with ⟨_, h, _, _⟩ | ⟨x, hx, hlc, _, hz, hc, hwf⟩
      · omega
      · have hiz : i < z1.length := by omega
        have hcc := hc i hiz
        rw [show z1.getD i 0 = z1[i]'hiz by simp [List.getD, List.getElem?_eq_getElem hiz]] at hcc
        refine ⟨x, z1[i]'hiz, hx, hcc, ?_⟩
        have := hwf (z1[i]'hiz) (List.getElem_mem hiz)
        simp [Lit.wf, IntKind.min, IntKind.max, IntKind.signed, IntKind.bits] at this
        omega
    have hmin : min (n : Int) 200 = (n : Int) := by omega
    have HIN := Lib.hid hin
    clear hfar w0 w1 hin
    have b1 := (Below.refl w.heap.size w).alloc (Nat.le_refl _) (.cells #[.slice none 0 0] 46)
    have HB1 := Lib.hid b1
    have H1 : Hid (NtAt 46 (w.alloc (.cells #[.slice none 0 0] 46)) w.heap.size w.heap.size (.slice none 0 0) [] (pks (List.range 0))) := nt_zero w 46 (by decide)
    clear b1
    go_enter Try.func4, Try.ntmps4
    go_wp2
    go_loopw [6] (fun i wr => ∃ (j : Nat) (v : Value) (Q : List (Value × Pk)), i = .int .i64 j ∧ j ≤ n ∧ Hid (NtAt 46 wr w.heap.size w.heap.size v Q (pks (List.range j))) ∧ Hid (Below w.heap.size w wr)) (fun i _ => n - (intOf i).toNat)
    case atStart => exact ⟨0, _, _, rfl, Nat.zero_le _, H1, HB1⟩
    case round =>
      obtain ⟨j, v, Q, rfl, hj, HR, HB⟩ := hrel
      clear H1 HB1
      by_cases hlt : j < n
      · have cS := nSendLit wr w.heap.size _ v Q _ HR.out HB.out.size (by rw [pks_len]; simp; omega) 1 2 rfl j (by omega)
        have hw := u8_in j (by omega)
        have hlz : (j : Int) < (n : Int) := by omega
        have h200 : (j : Int) < 200 := by omega
        have HS : Hid (pks (List.range (j + 1)) = pks (List.range j) ++ [⟨1, 2, [UInt8.ofNat j]⟩]) := by
          show _ = _
          unfold pks
          rw [List.range_succ, List.map_append]; rfl
        go_wp2_with (go_at_call 10; (with_reducible refine cS.mono ?_))
        rintro e W2 ⟨v2, Q2, rfl, h2', b2⟩
        have HR2 := Lib.hid h2'
        have HB2 := Lib.hid (HB.out.trans b2)
        clear h2' b2 cS
        go_wp2
        go_roundw
        case rel => exact ⟨j + 1, v2, Q2, by go_num, by omega, by rw [HS.out]; exact HR2, HB2⟩
        case measure => simp [intOf]; omega
      · have hjn : j = n := by omega
        subst hjn
        have hlz : ¬ (j : Int) < (j : Int) := by omega
        obtain ⟨i0, hi, hz0, hz1, hz2⟩ := info_parts infoBool
        go_wp2_with (at_make; refine wpList_make_full _ rfl _ _ 47 rfl w.heap.size 4 i0 (.bool false) 1 Try.underlying47 hi hz0 hz1 .i64 .i64 _ _ 100 rfl rfl ?c1 ?c2 ?c3 ?c4 ?c5 ?_)
        case c4 => unfold maxLen; omega
        case c5 => exact HB.out.size
        intro w1 hown hgrow
        have hm : (madeCells #[Value.bool false] 100).toList = (List.replicate 100 false).map Value.bool := by rw [toList_madeCells_one, List.map_replicate]
        rw [hm] at hown
        have bm : Below wr.heap.size wr w1 := (Below.refl _ wr).grown hgrow (Nat.le_refl _) (fun k hk => by cases hk)
        obtain ⟨gm, hgm⟩ : ∃ gm, gm = wr.heap.size := ⟨_, rfl⟩
        have HO : Hid (OnceAt w w1 w.heap.size gm 100 (List.range j)) := ⟨⟨_, v, Q, HR.out.below bm, Met.start j hn2, by rw [hgm]; exact hown, fun e => by have := (HR.out.ltS gm e).2; omega⟩, HB.out.trans (bm.mono HB.out.size)⟩
        rw [← hgm]
        have HGM := Lib.hid hgm
        clear hown hgrow hm bm hgm hi hz0 hz1 hz2 HR HB
        go_wp2
        go_loopw [8, 9] (fun l u wr => ∃ (i : Nat) (S : List Nat), l = .int .i64 S.length ∧ u = .int .i64 i ∧ i + S.length = j ∧ Hid (OnceAt w wr w.heap.size gm 100 S)) (fun l _ _ => (intOf l).toNat)
        case atStart => exact ⟨0, List.range j, by simp, rfl, by simp, HO⟩
        case round =>
          obtain ⟨i, S, rfl, rfl, hiS, HS⟩ := hrel
          clear HO
          by_cases hS0 : 0 < S.length
          · have hS1 : (0 : Int) < (S.length : Int) := by omega
            by_cases hio : i < len1
            · obtain ⟨x, c, rfl, hc, hc1, hc2⟩ := HIN.out i hio
              have hci : wr.cell? (x.add i) = some (.int .i64 c) := (HS.out.low.cell (World.block_lt_of_cell? w _ hc)).trans hc
              have cRd := Round_any c S.length wr hS0 (by omega) hc1 hc2
              have ii : (i : Int) < (len1 : Int) := by omega
              go_wp2_with (go_at_call 23; (with_reducible refine cRd.mono ?_))
              rintro e W2 ⟨k, rfl, hkS, rfl⟩
              have x0' := HS.out
              obtain ⟨⟨M, v, Q, hnt, hM, ho, hn⟩, hlow⟩ := x0'
              have cD := nDeliver' wr w.heap.size _ v Q (pks S) (k : Int) hnt hlow.size (by rw [pks_len]; omega) (pks_b S) 1 2 [UInt8.ofNat (S[k]'hkS)] 1 true (pks (S.eraseIdx k)) (pks_at S k hkS) rfl (pks_drop S k hkS)
              have hx := (hM.un _ (List.getElem_mem hkS)).1
              have hle : Hid ((S.eraseIdx k).length + 1 = S.length) := by show _ = _; rw [List.length_eraseIdx, if_pos hkS]; omega
              have HNX := Lib.hid (fun W4 v4 Q4 o R4 => OnceAt.next (W4 := W4) (v4 := v4) (Q4 := Q4) (o := o) hnt hM ho hn hlow R4 hkS)
              obtain ⟨x, hxx⟩ : ∃ x, x = S[k]'hkS := ⟨_, rfl⟩
              rw [← hxx] at cD hx HNX
              have i1 : (0 : Int) ≤ (x : Int) := by omega
              have i2 : (x : Int) < 100 := by omega
              have i3 : ¬ (100 : Int) ≤ (x : Int) := by omega
              clear hnt hM ho hn hxx
              have HLOW := Lib.hid hlow
              clear hlow
              go_wp2_with (go_at_call 12; (with_reducible refine cD.mono ?_))
              rintro e W4 ⟨a4, c4, v4, Q4, rfl, o4, n4, R4⟩
              obtain ⟨p4, rfl, y0⟩ := byte_at o4 (by omega)
              obtain ⟨m0, f0, hO2⟩ := HNX.out W4 v4 Q4 (.cells #[.int .i64 1, .int .i64 2, .slice (some ⟨p4, 0, none⟩) 1 c4] 36) R4
              have yA := alloc_cell y0 (.cells #[.int .i64 1, .int .i64 2, .slice (some ⟨p4, 0, none⟩) 1 c4] 36)
              have HO2 := Lib.hid hO2
              clear hO2 R4 o4 n4 y0 cD HNX
              go_wp2
              go_roundw
              case rel => exact ⟨i + 1, S.eraseIdx k, by have := hle.out; congr 1; omega, by go_num, by have := hle.out; omega, HO2⟩
              case measure => have := hle.out; simp [intOf]; omega
            · have ii : ¬ (i : Int) < (len1 : Int) := by omega
              obtain ⟨k, hkz, hkS⟩ : ∃ k : Nat, (0 : Int) = (k : Int) ∧ k < S.length := ⟨0, rfl, hS0⟩
              have HKZ := Lib.hid hkz
              clear hkz
              have x0' := HS.out
              obtain ⟨⟨M, v, Q, hnt, hM, ho, hn⟩, hlow⟩ := x0'
              have cD := nDeliver' wr w.heap.size _ v Q (pks S) 0 hnt hlow.size (by rw [pks_len]; omega) (pks_b S) 1 2 [UInt8.ofNat (S[k]'hkS)] 1 true (pks (S.eraseIdx k)) (by rw [HKZ.out]; exact pks_at S k hkS) rfl (by rw [HKZ.out]; exact pks_drop S k hkS)
              have hx := (hM.un _ (List.getElem_mem hkS)).1
              have hle : Hid ((S.eraseIdx k).length + 1 = S.length) := by show _ = _; rw [List.length_eraseIdx, if_pos hkS]; omega
              have HNX := Lib.hid (fun W4 v4 Q4 o R4 => OnceAt.next (W4 := W4) (v4 := v4) (Q4 := Q4) (o := o) hnt hM ho hn hlow R4 hkS)
              obtain ⟨x, hxx⟩ : ∃ x, x = S[k]'hkS := ⟨_, rfl⟩
              rw [← hxx] at cD hx HNX
              have i1 : (0 : Int) ≤ (x : Int) := by omega
              have i2 : (x : Int) < 100 := by omega
              have i3 : ¬ (100 : Int) ≤ (x : Int) := by omega
              clear hnt hM ho hn hxx
              have HLOW := Lib.hid hlow
              clear hlow
              go_wp2_with (go_at_call 12; (with_reducible refine cD.mono ?_))
              rintro e W4 ⟨a4, c4, v4, Q4, rfl, o4, n4, R4⟩
              obtain ⟨p4, rfl, y0⟩ := byte_at o4 (by omega)
              obtain ⟨m0, f0, hO2⟩ := HNX.out W4 v4 Q4 (.cells #[.int .i64 1, .int .i64 2, .slice (some ⟨p4, 0, none⟩) 1 c4] 36) R4
              have yA := alloc_cell y0 (.cells #[.int .i64 1, .int .i64 2, .slice (some ⟨p4, 0, none⟩) 1 c4] 36)
              have HO2 := Lib.hid hO2
              clear hO2 R4 o4 n4 y0 cD HNX
              go_wp2
              go_roundw
              case rel => exact ⟨i + 1, S.eraseIdx k, by have := hle.out; congr 1; omega, by go_num, by have := hle.out; omega, HO2⟩
              case measure => have := hle.out; simp [intOf]; omega
          · have hS1 : ¬ (0 : Int) < (S.length : Int) := by omega
            have hSn : S = [] := List.length_eq_zero_iff.1 (by omega)
            subst hSn
            obtain ⟨⟨M, v, Q, hnt, _⟩, hlow⟩ := HS.out
            have cL := nLen wr _ _ _ _ _ hnt
            have cW := awake6_b w wr hlow
            clear hnt hlow
            go_wp2_with (first | (go_at_call 22; (with_reducible refine cL.mono ?_); rintro e w' ⟨rfl, hw'⟩; rw [hw']) | (go_at_call 8; (with_reducible refine cW.mono ?_)))
            rintro e W5 ⟨rfl, hb5⟩
            go_wp2
            go_ret
            exact ⟨rfl, hb5⟩

end Go.Proofs.Ytenpoolminfofaa
