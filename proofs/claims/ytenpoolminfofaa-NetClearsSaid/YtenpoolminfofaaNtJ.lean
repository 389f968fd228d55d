/-
  The walk of NetRows.
-/
import Derived.Test.YtenpoolminfofaaNtI
set_option linter.unusedVariables false
namespace Go.Proofs.Ytenpoolminfofaa
open Go.RowKit

theorem awake6_b (w wx : World) (hb : Below w.heap.size w wx) : Calls Try.prog 8 #[] wx (AwPost w) :=
  (awake6 wx).mono fun e w' h => ⟨h.1, hb.trans (h.2.mono hb.size)⟩

theorem u8_nat (x : Nat) (hx : x < 256) : ((UInt8.ofNat x).toNat : Int) = (x : Int) := by rw [UInt8.toNat_ofNat']; omega

/-- What a call leaves that sends one packet that may stand. -/
def OnePost (W : World) (B g : Nat) (L' : List Pk) (e : Ending) (w' : World) : Prop :=
  ∃ v' Q', e = .returned (.int .i64 1) ∧ NtAt 46 w' B g v' Q' L' ∧ Below B W w'
theorem nSendLit (W : World) (B g : Nat) (v : Value) (Q : List (Value × Pk)) (L : List Pk) (h : NtAt 46 W B g v Q L) (hB : B ≤ W.heap.size) (hL : L.length < 200) (f t : Int) (hm : mayB f t 1 = true) (x : Nat) (hx : x < 256) :
    Calls Try.prog 10 #[.pointer (some ⟨g, 0, none⟩), .slice (some ⟨W.heap.size + 1, 0, none⟩) 1 1] ((W.alloc (.cells #[.int .u8 x] 5)).alloc (.cells #[.int .i64 f, .int .i64 t, .slice (some ⟨W.heap.size, 0, none⟩) 1 1] 36)) (OnePost W B g (L ++ [⟨f, t, [UInt8.ofNat x]⟩])) := by
  have bA := (Below.refl W.heap.size W).alloc (Nat.le_refl _) (.cells #[.int .u8 x] 5)
  have bA2 := bA.alloc bA.size (.cells #[.int .i64 f, .int .i64 t, .slice (some ⟨W.heap.size, 0, none⟩) 1 1] 36)
  have gP := heap_alloc_new (W.alloc (.cells #[.int .u8 x] 5)) (.cells #[.int .i64 f, .int .i64 t, .slice (some ⟨W.heap.size, 0, none⟩) 1 1] 36)
  rw [World.size_alloc] at gP
  have l1 := (lit_bts W [UInt8.ofNat x] #[.int .u8 x] (0, 0) (by simp only [Lib.byteCells, List.map_cons, List.map_nil, u8_nat x hx])).later (((Below.refl _ _).alloc (Nat.le_refl _) (.cells #[.int .i64 f, .int .i64 t, .slice (some ⟨W.heap.size, 0, none⟩) 1 1] 36)))
  have hS := h.fresh
  have h2 := h.below bA2
  refine (nSend' _ B g v Q L (some ⟨W.heap.size + 1, 0, none⟩) 1 1 _ h2 (Nat.le_trans hB bA2.size) (by omega) (by omega)
    (pks_one gP (b := [UInt8.ofNat x]) rfl l1 (hS _ (by omega)) (fun y e => by injection e with e; subst e; exact hS _ (Nat.le_refl _))) (L ++ [⟨f, t, [UInt8.ofNat x]⟩]) 1 ?_ ?_).mono ?_
  · show sendOne L ⟨f, t, [UInt8.ofNat x]⟩ = _
    unfold sendOne
    rw [if_pos ⟨hL, hm⟩]
  · rw [List.length_append]; simp; omega
  · rintro e w' ⟨v', Q', rfl, R⟩
    exact ⟨v', Q', rfl, R.at_, (bA2.mono hB).trans (R.low h2 (Nat.le_trans hB bA2.size))⟩

theorem u8_in (x : Nat) (hx : x < 256) : IntKind.u8.wrap (x : Int) = (x : Int) := by unfold IntKind.wrap; simp [IntKind.bits, IntKind.signed]; omega
/-- A byte that a call has told. -/
theorem byte_at {w : World} {B : Nat} {a : Option Addr} {c x : Nat} (h : w.ownsRow B 5 1 (.slice a 1 c) 1 (Lib.byteCells [UInt8.ofNat x])) (hx : x < 256) : ∃ p, a = some ⟨p, 0, none⟩ ∧ w.cell? ⟨p, 0, none⟩ = some (.int .u8 x) := by
  obtain ⟨p, rfl, _⟩ := own_some h (by omega)
  refine ⟨p, rfl, ?_⟩
  rw [h.cellAt 0 (by omega)]
  simp only [Lib.byteCells, List.map_cons, List.map_nil, u8_nat x hx]; rfl

/-- Packets with a byte each. -/
def pkT (f t : Int) (x : Nat) : Pk := ⟨f, t, [UInt8.ofNat x]⟩
def rowT (f t : Int) (n : Nat) : List Pk := (List.range n).map (pkT f t)
theorem rowT_succ (f t : Int) (n : Nat) : rowT f t (n + 1) = rowT f t n ++ [⟨f, t, [UInt8.ofNat n]⟩] := by
  unfold rowT
  rw [List.range_succ, List.map_append]; rfl
theorem rowT_len (f t : Int) (n : Nat) : (rowT f t n).length = n := by simp [rowT]
theorem rowT_b (f t : Int) (n : Nat) : ∀ p ∈ rowT f t n, p.b.length ≤ 131072 := by
  intro p hp
  unfold rowT at hp
  obtain ⟨x, _, rfl⟩ := List.mem_map.1 hp
  show (1 : Nat) ≤ 131072
  omega
theorem atL_cons (p : Pk) (L : List Pk) : atL (p :: L) 0 = (p, true) := atL_yes (k := 0) (by simp)
theorem dropL_cons (p : Pk) (L : List Pk) : dropL (p :: L) 0 = L := dropL_yes (k := 0) (by simp)

def delT (n k : Nat) : List Pk := rowT 2 1 n ++ [pkT 2 1 k]
theorem delT_at (n k i : Nat) (hi : i ≤ n) : (delT n k).drop i = pkT 2 1 (if i = n then k else i) :: (delT n k).drop (i + 1) := by
  have hl : i < (delT n k).length := by unfold delT; rw [List.length_append, rowT_len]; simp; omega
  have hg : (delT n k)[i]? = some (pkT 2 1 (if i = n then k else i)) := by
    unfold delT
    by_cases h : i = n
    · subst h
      rw [if_pos rfl, List.getElem?_append_right (by rw [rowT_len]; exact Nat.le_refl _), rowT_len]
      simp
    · rw [if_neg h, List.getElem?_append_left (by rw [rowT_len]; omega)]
      unfold rowT
      rw [List.getElem?_map, List.getElem?_range (by omega)]; rfl
  rw [List.drop_eq_getElem_cons hl]
  congr 1
  rw [List.getElem?_eq_getElem hl] at hg
  injection hg

set_option maxHeartbeats 8000000 in
set_option maxRecDepth 100000 in
theorem NetRows_walk (a0 a1 : Int) (w0 : (Lit.int .i64 a0).wf = true) (w1 : (Lit.int .i64 a1).wf = true) (w : World) :
    Calls Try.prog 6 #[.int .i64 a0, .int .i64 a1] w fun e w' => e = .returned (.bool true) ∧ Below w.heap.size w w' := by
  by_cases hr : a0 < 1 ∨ 60 < a0
  · have cW := awake6 w
    rcases hr with h0 | h0
    · have h0' : decide (a0 < 1) = true := decide_eq_true h0
      go_enter Try.func6, Try.ntmps6
      go_wp2_with (go_at_call 8; (with_reducible refine cW.mono ?_))
      rintro e W1 ⟨rfl, hb⟩
      go_wp2
      go_ret
      exact ⟨rfl, hb⟩
    · have h1 : ¬ a0 < 1 := by omega
      go_enter Try.func6, Try.ntmps6
      go_wp2_with (go_at_call 8; (with_reducible refine cW.mono ?_))
      rintro e W1 ⟨rfl, hb⟩
      go_wp2
      go_ret
      exact ⟨rfl, hb⟩
  · obtain ⟨n, rfl⟩ : ∃ n : Nat, a0 = (n : Int) := ⟨a0.toNat, by omega⟩
    have h1 : ¬ (n : Int) < 1 := by omega
    have h2 : ¬ (60 : Int) < (n : Int) := by omega
    have hn1 : 1 ≤ n := by omega
    have hn2 : n ≤ 60 := by omega
    have cN := nNew w
    have cRd := Round_any a1 n
    have hk : -9223372036854775808 ≤ a1 ∧ a1 ≤ 9223372036854775807 := by
      simp [Lit.wf, IntKind.min, IntKind.max, IntKind.signed, IntKind.bits] at w1
      omega
    clear hr w0 w1
    go_enter Try.func6, Try.ntmps6
    go_wp2_with (go_at_call 9; (with_reducible refine cN.mono ?_))
    rintro e W1 ⟨g, rfl, h1, b1⟩
    have HB1 := Lib.hid b1
    have H1 := Lib.hid h1
    clear b1 h1 cN
    go_wp2
    go_loopw [6] (fun i wr => ∃ (j : Nat) (v : Value) (Q : List (Value × Pk)), i = .int .i64 j ∧ j ≤ n ∧ Hid (NtAt 46 wr w.heap.size g v Q (rowT 2 1 j)) ∧ Hid (Below w.heap.size w wr)) (fun i _ => n - (intOf i).toNat)
    case atStart => exact ⟨0, _, _, rfl, Nat.zero_le _, H1, HB1⟩
    case round =>
      obtain ⟨j, v, Q, rfl, hj, HR, HB⟩ := hrel
      by_cases hlt : j < n
      · have cS := nSendLit wr w.heap.size g v Q (rowT 2 1 j) HR.out HB.out.size (by rw [rowT_len]; omega) 2 1 rfl j (by omega)
        rw [← rowT_succ] at cS
        have hw : IntKind.u8.wrap (j : Int) = (j : Int) := by unfold IntKind.wrap; simp [IntKind.bits, IntKind.signed]; omega
        have hlz : (j : Int) < (n : Int) := by omega
        go_wp2_with (go_at_call 10; (with_reducible refine cS.mono ?_))
        rintro e W2 ⟨v2, Q2, rfl, h2, b2⟩
        have HR2 := Lib.hid h2
        have HB2 := Lib.hid (HB.out.trans b2)
        clear h2 b2 cS
        go_wp2
        go_roundw
        case rel => exact ⟨j + 1, v2, Q2, by go_num, by omega, HR2, HB2⟩
        case measure => simp [intOf]; omega
      · have hjn : j = n := by omega
        subst hjn
        have hlz : ¬ (j : Int) < (j : Int) := by omega
        go_wp2_with (go_at_call 23; (with_reducible refine (cRd wr (by omega) (by omega) hk.1 hk.2).mono ?_); rintro e W2 ⟨k, rfl, hk2, rfl⟩)
        have hkL : k < (rowT 2 1 j).length := by rw [rowT_len]; exact hk2
        have hat : atL (rowT 2 1 j) (k : Int) = (pkT 2 1 k, true) := by
          rw [atL_yes hkL]
          simp [rowT]
        have hL : twiceB (rowT 2 1 j) (k : Int) = true := by
          unfold twiceB
          rw [show hasL (k : Int) (rowT 2 1 j).length = true from decide_eq_true ⟨by omega, by omega⟩, decide_eq_true (by rw [rowT_len]; omega)]; rfl
        have hL2 : twiceL (rowT 2 1 j) (k : Int) = delT j k := by unfold twiceL; rw [hL, if_pos rfl, hat]; rfl
        have cT := nTwice wr w.heap.size g v Q (rowT 2 1 j) (k : Int) HR.out HB.out.size
        rw [hL, hL2] at cT
        clear hkL hat hL hL2
        (with_reducible refine cT.mono ?_)
        rintro e W3 ⟨v3, Q3, rfl, R3⟩
        have b3 : Below w.heap.size w W3 := HB.out.trans (R3.low HR.out HB.out.size)
        have cL := nLen W3 _ _ _ _ _ R3.at_
        rw [show (delT j k).length = j + 1 by unfold delT; rw [List.length_append, rowT_len]; rfl] at cL
        have hadd : IntKind.i64.wrap ((j : Int) + 1) = (j : Int) + 1 := IntWalk.i64_in _ (by omega)
        have hne : ((((j + 1 : Nat)) : Int) != (j : Int) + 1) = false := by simp
        have HR3 : Hid (NtAt 46 W3 w.heap.size g v3 Q3 ((delT j k).drop 0)) := R3.at_
        have HB3 := Lib.hid b3
        clear R3 b3 cT HR HB H1 HB1 cRd
        go_wp2_with (go_at_call 22; (with_reducible refine cL.mono ?_); rintro e w' ⟨rfl, hw'⟩; rw [hw'])
        clear hne cL
        go_loopw [7] (fun i wr => ∃ (i0 : Nat) (v : Value) (Q : List (Value × Pk)), i = .int .i64 i0 ∧ i0 ≤ j + 1 ∧ Hid (NtAt 46 wr w.heap.size g v Q ((delT j k).drop i0)) ∧ Hid (Below w.heap.size w wr)) (fun i _ => j + 1 - (intOf i).toNat)
        case atStart => exact ⟨0, _, _, rfl, Nat.zero_le _, HR3, HB3⟩
        case round =>
          obtain ⟨i0, v, Q, rfl, hi0, HR, HB⟩ := hrel
          clear HR3 HB3
          by_cases hle : i0 ≤ j
          · have hdr := delT_at j k i0 hle
            have HR2 := HR.out
            rw [hdr] at HR2
            have hbl : ∀ p ∈ pkT 2 1 (if i0 = j then k else i0) :: (delT j k).drop (i0 + 1), p.b.length ≤ 131072 := by
              intro p hp
              rw [← hdr] at hp
              have := List.mem_of_mem_drop hp
              unfold delT at this
              rcases List.mem_append.1 this with h | h
              · exact rowT_b 2 1 j p h
              · simp at h; subst h; show (1 : Nat) ≤ 131072; omega
            obtain ⟨x, hx⟩ : ∃ x, x = if i0 = j then k else i0 := ⟨_, rfl⟩
            have hx2 : x < 256 := by rw [hx]; split <;> omega
            have hln : (pkT 2 1 (if i0 = j then k else i0) :: (delT j k).drop (i0 + 1)).length ≤ 100000 := by
              rw [← hdr, List.length_drop]; unfold delT; rw [List.length_append, rowT_len]; simp; omega
            rw [← hx] at HR2 hbl hln
            have cD := nDeliver' wr w.heap.size g v Q _ 0 HR2 HB.out.size hln hbl 2 1 [UInt8.ofNat x] 1 true _ (atL_cons _ _) rfl (dropL_cons _ _)
            have HRx := Lib.hid HR2
            clear hbl hln hdr HR2
            go_wp2_with (go_at_call 12; (with_reducible refine cD.mono ?_))
            rintro e W4 ⟨a4, c4, v4, Q4, rfl, o4, n4, R4⟩
            obtain ⟨p4, rfl, y0⟩ := byte_at o4 hx2
            have b4 : Below w.heap.size w W4 := HB.out.trans (R4.low HRx.out HB.out.size)
            have bA := (Below.refl W4.heap.size W4).alloc (Nat.le_refl _) (.cells #[.int .i64 2, .int .i64 1, .slice (some ⟨p4, 0, none⟩) 1 c4] 36)
            have yA := alloc_cell y0 (.cells #[.int .i64 2, .int .i64 1, .slice (some ⟨p4, 0, none⟩) 1 c4] 36)
            have HR4 := Lib.hid (R4.at_.below bA)
            have HB4 := Lib.hid (b4.trans (bA.mono b4.size))
            have hlz : (i0 : Int) ≤ (j : Int) := by omega
            have wk := u8_in k (by omega)
            have wi := u8_in i0 (by omega)
            clear R4 b4 bA o4 n4 cD y0
            by_cases hij : i0 = j
            · have hxk : x = k := by rw [hx, if_pos hij]
              have he : ((i0 : Int) == (j : Int)) = true := by simp [hij]
              have hxx : ((x : Int) != (k : Int)) = false := by simp [hxk]
              have HIJ := Lib.hid hij
              clear hij hx hxk
              go_wp2
              go_roundw
              case rel => exact ⟨i0 + 1, _, _, by go_num, by omega, HR4, HB4⟩
              case measure => simp [intOf]; omega
            · have hxk : x = i0 := by rw [hx, if_neg hij]
              have he : ((i0 : Int) == (j : Int)) = false := beq_false_of_ne (by omega)
              have hxx : ((x : Int) != (i0 : Int)) = false := by simp [hxk]
              have HX := Lib.hid hxk
              clear hij hx hxk
              go_wp2
              go_roundw
              case rel => exact ⟨i0 + 1, _, _, by go_num, by omega, HR4, HB4⟩
              case measure => simp [intOf]; omega
          · have hlz : ¬ (i0 : Int) ≤ (j : Int) := by omega
            have h0 : (delT j k).drop i0 = [] := List.drop_eq_nil_of_le (by unfold delT; rw [List.length_append, rowT_len]; simp; omega)
            have HR2 := HR.out
            rw [h0] at HR2
            have cL := nLen wr _ _ _ _ _ HR2
            have cW := awake6_b w wr HB.out
            clear HR2 h0
            go_wp2_with (first | (go_at_call 22; (with_reducible refine cL.mono ?_); rintro e w' ⟨rfl, hw'⟩; rw [hw']) | (go_at_call 8; (with_reducible refine cW.mono ?_)))
            rintro e W5 ⟨rfl, hb5⟩
            go_wp2
            go_ret
            exact ⟨rfl, hb5⟩

end Go.Proofs.Ytenpoolminfofaa
