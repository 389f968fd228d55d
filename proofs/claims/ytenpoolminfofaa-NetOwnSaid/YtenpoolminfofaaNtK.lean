/-
  The walk of NetOwn.
-/
import Derived.Test.YtenpoolminfofaaNtJ
set_option linter.unusedVariables false
namespace Go.Proofs.Ytenpoolminfofaa
open Go.RowKit

theorem u8_succ (c : UInt8) : IntKind.u8.wrap ((c.toNat : Int) + 1) = ((c + 1).toNat : Int) := by
  unfold IntKind.wrap
  have := c.toNat_lt
  simp [IntKind.bits, IntKind.signed, UInt8.toNat_add]
theorem byteCells_set (l : List UInt8) (i : Nat) (c : UInt8) : (Lib.byteCells l).set i (.int .u8 c.toNat) = Lib.byteCells (l.set i c) := by
  simp only [Lib.byteCells, List.map_set]
/-- A block that is none of the net's. -/
theorem NtAt.setOther {t : TypeId} {w : World} {B g : Nat} {v : Value} {Q : List (Value × Pk)} {L : List Pk} (h : NtAt t w B g v Q L) {p : Addr} (hp : ¬ NtAll g v Q p.block) (u : Value) : NtAt t (w.setCell p u) B g v Q L :=
  h.kept (S := fun k => k = p.block) (Kept.setCell (S := fun k => k = p.block) (p := p) (Kept.refl _ w) (fun _ => rfl) u) (fun k e e2 => hp (by rw [← e2]; exact e))

/-- Bytes of one's own beside a net. -/
structure OwnB (w0 wr : World) (g : Nat) (v : Value) (Q : List (Value × Pk)) (L : List Pk) (B : Nat) (a : Option Addr) (n c : Nat) : Prop where
  nt : NtAt 46 wr w0.heap.size g v Q L
  low : Below w0.heap.size w0 wr
  own : ∃ l : List UInt8, l.length = n ∧ wr.ownsRow B 5 1 (.slice a n c) n (Lib.byteCells l)
  apart : ∀ k, (Value.slice a n c).ownBlock = some k → ¬ NtAll g v Q k ∧ w0.heap.size ≤ k
theorem OwnB.at {w0 wr : World} {g : Nat} {v : Value} {Q : List (Value × Pk)} {L : List Pk} {B : Nat} {a : Option Addr} {n c : Nat} (h : OwnB w0 wr g v Q L B a n c) (i : Nat) (hi : i < n) :
    ∃ (p : Nat) (x : UInt8), a = some ⟨p, 0, none⟩ ∧ wr.cell? ⟨p, i, none⟩ = some (.int .u8 x.toNat) ∧ wr.frozen? ⟨p, i, none⟩ = false ∧ OwnB w0 (wr.setCell ⟨p, i, none⟩ (.int .u8 (x + 1).toNat)) g v Q L B a n c ∧ p ≠ g := by
  obtain ⟨l, hl, ho⟩ := h.own
  obtain ⟨p, rfl, _⟩ := own_some ho (by omega)
  have hap := h.apart p rfl
  refine ⟨p, l[i]'(by omega), rfl, ?_, ho.frozenAt i, ⟨h.nt.setOther (p := ⟨p, i, none⟩) hap.1 _, h.low.setCell (p := ⟨p, i, none⟩) hap.2 _, ⟨l.set i (l[i]'(by omega) + 1), by rw [List.length_set]; exact hl, ?_⟩, h.apart⟩, fun e => hap.1 (.inl (.inl e))⟩
  · rw [ho.cellAt i (by omega)]
    exact byteCells_at l i (by omega)
  · have := (ho.stored i (.int .u8 (l[i]'(by omega) + 1).toNat)).1
    rwa [byteCells_set] at this

theorem OwnB.drew {w0 wr : World} {g : Nat} {v : Value} {Q : List (Value × Pk)} {L : List Pk} {B : Nat} {a : Option Addr} {n c : Nat} (h : OwnB w0 wr g v Q L B a n c) : OwnB w0 wr.drew g v Q L B a n c :=
  ⟨h.nt.drew, h.low.drew, h.own.imp fun x h => ⟨h.1, h.2.drew⟩, h.apart⟩

theorem NetOwn_walk_long (a0 : Option Addr) (len0 cap0 : Nat) (hlen : 500 < len0) (w : World) :
    Calls Try.prog 5 #[.slice a0 len0 cap0] w fun e w' => e = .returned (.bool true) ∧ Below w.heap.size w w' := by
  have cW := awake6 w
  have h0 : (500 : Int) < (len0 : Int) := by omega
  go_enter Try.func5, Try.ntmps5
  go_wp2_with (go_at_call 8; (with_reducible refine cW.mono ?_))
  rintro e W1 ⟨rfl, hb⟩
  go_wp2
  go_ret
  exact ⟨rfl, hb⟩

set_option maxHeartbeats 8000000 in
set_option maxRecDepth 100000 in
theorem NetOwn_walk (a0 : Option Addr) (len0 cap0 : Nat) (z0 : List Int) (w : World) (w0 : RowIn .u8 w a0 len0 cap0 z0) :
    Calls Try.prog 5 #[.slice a0 len0 cap0] w fun e w' => e = .returned (.bool true) ∧ Below w.heap.size w w' := by
  by_cases hlen : 500 < len0
  · exact NetOwn_walk_long a0 len0 cap0 hlen w
  · have h0 : ¬ (500 : Int) < (len0 : Int) := by omega
    obtain ⟨l, hl, hbt, _, _, hcap⟩ := w0.bts
    have hlo : ∀ x, a0 = some x → l ≠ [] → x.block < w.heap.size := by
      intro x hx hne
      obtain ⟨y, hy, hc⟩ := hbt.at 0 (List.length_pos_iff.2 hne)
      rw [hx] at hy
      injection hy with hy
      subst hy
      have := World.block_lt_of_cell? w _ hc
      rwa [add_blk] at this
    have hbl : ∀ wx, Below w.heap.size w wx → Bts wx a0 l := fun wx hb => hbt.later hb
    obtain ⟨i0, hi, hz0, hz1, hz2⟩ := info_parts infoByte8
    have cN := nNew w
    clear w0 hlen
    go_enter Try.func5, Try.ntmps5
    go_wp2_with (go_at_call 9; (with_reducible refine cN.mono ?_))
    rintro e W1 ⟨g, rfl, h1, b1⟩
    have ho1 : (W1.alloc (.cells #[] 5)).ownsRow W1.heap.size 5 1 (.slice (some ⟨W1.heap.size, 0, none⟩) 0 0) 0 [] := World.ownsRow_lit W1 #[] 0 (Nat.le_refl _) (Nat.zero_le _) rfl
    have hb1 : Below W1.heap.size W1 (W1.alloc (.cells #[] 5)) := (Below.refl _ W1).alloc (Nat.le_refl _) _
    have hB1 := hbl _ (b1.trans (hb1.mono b1.size))
    go_wp2_with (at_builtin; go_loud (refine wpList_append_bts _ rfl _ _ 34 rfl W1.heap.size 5 i0 Try.underlying34 hi hz0 hz1 hz2 _ _ _ rfl ho1 _ _ _ l rfl hl hB1 hcap (by omega) hb1.size ?_))
    intro v2 W2 o2 g2
    obtain ⟨ca, cc, rfl⟩ := own_slice o2
    have b2 := below_grown hb1 (Nat.le_refl _) ho1 g2
    have bA := (Below.refl W2.heap.size W2).alloc (Nat.le_refl _) (.cells #[.int .i64 3, .int .i64 4, .slice ca len0 cc] 36)
    have gA := heap_alloc_new W2 (.cells #[.int .i64 3, .int .i64 4, .slice ca len0 cc] 36)
    have h2 := (h1.below b2).below bA
    have hS2 : ∀ k, NtS g (.slice none 0 0) k → k = g := fun k e => by
      rcases e with e | e
      · exact e
      · cases e
    have hca : ∀ k, (Value.slice ca len0 cc).ownBlock = some k → W1.heap.size ≤ k ∧ k < W2.heap.size := fun k e => own_lt o2 k e
    have hgl := h1.lt
    have cS := nSend' _ w.heap.size g _ _ _ (some ⟨W2.heap.size, 0, none⟩) 1 1 _ h2 (Nat.le_trans b1.size (Nat.le_trans b2.size bA.size)) (by decide) (by omega)
      (pks_one gA hl ((Bts.own o2).later bA) (fun e => by have := hS2 _ e; have := b2.size; omega) (fun x e e2 => by subst e; have := hS2 _ e2; have := hca _ rfl; omega)) [⟨3, 4, l⟩] 1 (by
        show sendOne [] ⟨3, 4, l⟩ = _
        unfold sendOne
        rw [if_pos ⟨by decide, by show mayB 3 4 l.length = true; unfold mayB; rw [decide_eq_true (by omega : l.length ≤ 131072)]; rfl⟩]; rfl) rfl
    go_wp2_with (go_at_call 10; (with_reducible refine cS.mono ?_))
    rintro e W3 ⟨v3, Q3, rfl, R3⟩
    have hb3 : Below w.heap.size w W3 := (b1.trans ((b2.mono b1.size).trans (bA.mono (Nat.le_trans b1.size b2.size)))).trans (R3.low h2 (Nat.le_trans b1.size (Nat.le_trans b2.size bA.size)))
    have hzA := World.size_alloc W2 (.cells #[.int .i64 3, .int .i64 4, .slice ca len0 cc] 36)
    have oc3 := Kept.own ((Kept.own o2 (Kept.of_below (S := fun _ => False) bA) (fun _ _ h => h))) R3.kept (fun k e e2 => by have := hS2 _ e2; have := hca k e; omega)
    have hW1 := b1.size
    have HX : Hid (OwnB w W3 g v3 Q3 [⟨3, 4, l⟩] W1.heap.size ca len0 cc) := ⟨R3.at_, hb3, ⟨l, hl, oc3⟩, fun k e => ⟨fun e2 => by
        have h5 := hca k e
        rcases R3.new k e2 with h6 | h6
        · rcases h6 with h6 | ⟨q, hq, _⟩
          · have := hS2 k h6; omega
          · cases hq
        · omega, by have := hca k e; omega⟩⟩
    have cB := Bytes_same ca a0 len0 len0 cc cap0 l W3 hl hl (by omega) (Bts.own oc3) (hbl W3 hb3)
    have HB3 := Lib.hid hb3
    clear cN b1 ho1 hb1 hB1 o2 g2 b2 bA gA h1 h2 hS2 hca cS R3 hb3 hzA oc3 hW1 hgl
    go_wp2_with (go_at_call 24; (with_reducible refine cB.mono ?_))
    rintro e W4 ⟨rfl, b4⟩
    have HX4 : Hid (OwnB w W4 g v3 Q3 [⟨3, 4, l⟩] W1.heap.size ca len0 cc) := ⟨HX.out.nt.below b4, HX.out.low.trans (b4.mono HX.out.low.size), HX.out.own.imp fun x h => ⟨h.1, Kept.own h.2 (Kept.of_below (S := fun _ => False) b4) (fun _ _ h => h)⟩, HX.out.apart⟩
    clear cB b4 HX HB3
    go_wp2
    go_loopw [5] (fun i wr => ∃ j : Nat, i = .int .i64 j ∧ j ≤ len0 ∧ Hid (OwnB w wr g v3 Q3 [⟨3, 4, l⟩] W1.heap.size ca len0 cc)) (fun i _ => len0 - (intOf i).toNat)
    case atStart => exact ⟨0, rfl, Nat.zero_le _, HX4⟩
    case round =>
      obtain ⟨j, rfl, hj, HO⟩ := hrel
      clear HX4
      by_cases hlt : j < len0
      · obtain ⟨p, x, rfl, hc, hf, hO2, hpg⟩ := HO.out.at j hlt
        have HO2 := Lib.hid hO2
        have hsu := u8_succ x
        have i0 : (0 : Int) ≤ (j : Int) := by omega
        have i1 : (j : Int) < (len0 : Int) := by omega
        clear hO2 HO
        go_wp2
        go_roundw
        case rel => exact ⟨j + 1, by go_num, by omega, HO2⟩
        case measure => simp [intOf]; omega
      · have hjn : j = len0 := by omega
        subst hjn
        have i1 : ¬ (j : Int) < (j : Int) := by omega
        have hpb : ∀ p ∈ [(⟨3, 4, l⟩ : Pk)], p.b.length ≤ 131072 := by
          intro p hp
          simp at hp
          subst hp
          show l.length ≤ 131072
          omega
        have cP := nPeek' wr w.heap.size g v3 Q3 _ 0 HO.out.nt hpb 3 4 l j true (atL_cons _ _) hl
        go_wp2_with (go_at_call 20; (with_reducible refine cP.mono ?_))
        rintro e W5 ⟨pa, pc, rfl, o5, b5⟩
        have bw := HO.out.low
        have bA := (Below.refl W5.heap.size W5).alloc (Nat.le_refl _) (.cells #[.int .i64 3, .int .i64 4, .slice pa j pc] 36)
        have gA := heap_alloc_new W5 (.cells #[.int .i64 3, .int .i64 4, .slice pa j pc] 36)
        have bw5 := bw.trans (b5.mono bw.size)
        have bw6 := bw5.trans (bA.mono bw5.size)
        have o6 := Kept.own o5 (Kept.of_below (S := fun _ => False) bA) (fun _ _ h => h)
        have hpa : ∀ k, (Value.slice pa j pc).ownBlock = some k → wr.heap.size ≤ k ∧ k < W5.heap.size := fun k e => own_lt o5 k e
        have hP6 : OwnB w (W5.alloc (.cells #[.int .i64 3, .int .i64 4, .slice pa j pc] 36)) g v3 Q3 [⟨3, 4, l⟩] wr.heap.size pa j pc :=
          ⟨(HO.out.nt.below b5).below bA, bw6, ⟨l, hl, o6⟩, fun k e => ⟨fun e2 => by have := (HO.out.nt.ltAll k e2).2; have := hpa k e; omega, by have := hpa k e; have := bw.size; omega⟩⟩
        have cB := Bytes_same pa a0 j j pc cap0 l _ hl hl (by omega) (Bts.own o6) (hbl _ bw6)
        have HP6 := Lib.hid hP6
        have HPA := Lib.hid (fun k e => (hpa k e).2)
        have HGA := Lib.hid gA
        obtain ⟨_, _, y2, _⟩ := box_cells gA
        clear bw bA gA bw5 bw6 o6 hpa hP6 o5 b5 cP HO
        go_wp2_with (go_at_call 24; (with_reducible refine cB.mono ?_))
        rintro e W6 ⟨rfl, b6⟩
        have G6 := box_below HGA.out b6 (by simp)
        have HX6 : Hid (OwnB w W6 g v3 Q3 [⟨3, 4, l⟩] wr.heap.size pa j pc) := ⟨HP6.out.nt.below b6, HP6.out.low.trans (b6.mono HP6.out.low.size), HP6.out.own.imp fun x h => ⟨h.1, Kept.own h.2 (Kept.of_below (S := fun _ => False) b6) (fun _ _ h => h)⟩, HP6.out.apart⟩
        have HG6 := Lib.hid G6
        clear cB b6 HP6 HGA G6 y2
        go_wp2
        obtain ⟨wx, hwx⟩ : ∃ wx, wx = wr := ⟨_, rfl⟩
        subst hwx
        go_loopw [8] (fun i wr => ∃ k : Nat, i = .int .i64 k ∧ k ≤ j ∧ Hid (OwnB w wr g v3 Q3 [⟨3, 4, l⟩] wx.heap.size pa j pc) ∧ Hid (wr.heap[W5.heap.size]? = some (.cells #[.int .i64 3, .int .i64 4, .slice pa j pc] 36))) (fun i _ => j - (intOf i).toNat)
        case atStart => exact ⟨0, rfl, Nat.zero_le _, HX6, HG6⟩
        case round =>
          obtain ⟨k, rfl, hk, HO, HG⟩ := hrel
          clear HX6 HG6
          have G := HG.out
          obtain ⟨_, _, y2, _⟩ := box_cells G
          by_cases hlt : k < j
          · obtain ⟨p, x, rfl, hc, hf, hO2, hpg⟩ := HO.out.drew.at k hlt
            have hc : wr.cell? ⟨p, k, none⟩ = some (.int .u8 x.toNat) := hc
            have hf : wr.frozen? ⟨p, k, none⟩ = false := hf
            have hpG : p < W5.heap.size := HPA.out p rfl
            have HO2 := Lib.hid hO2
            have HG2 : Hid ((wr.drew.setCell ⟨p, k, none⟩ (.int .u8 (x + 1).toNat)).heap[W5.heap.size]? = some (.cells #[.int .i64 3, .int .i64 4, .slice (some ⟨p, 0, none⟩) j pc] 36)) := (Below.heap_setCell _ _ _ _ (by show W5.heap.size ≠ p; omega)).trans G
            have hsu := u8_succ x
            have i0 : (0 : Int) ≤ (k : Int) := by omega
            have i1 : (k : Int) < (j : Int) := by omega
            clear hO2 HO G HG hpG hpg
            go_wp2
            go_still_tail 10, (by kernel_rfl)
            change wpList _ _ _ _ _ wr.drew
            go_wp2
            go_roundw
            case rel => exact ⟨k + 1, by go_num, by omega, HO2, HG2⟩
            case measure => simp [intOf]; omega
          · have i1 : ¬ (k : Int) < (j : Int) := by omega
            have hpb : ∀ p ∈ [(⟨3, 4, l⟩ : Pk)], p.b.length ≤ 131072 := by
              intro p hp
              simp at hp
              subst hp
              show l.length ≤ 131072
              omega
            have cD := nDeliver' wr w.heap.size g v3 Q3 _ 0 HO.out.nt HO.out.low.size (by show 1 ≤ 100000; omega) hpb 3 4 l j true [] (atL_cons _ _) hl (dropL_cons _ _)
            go_wp2_with (go_at_call 12; (with_reducible refine cD.mono ?_))
            rintro e W7 ⟨qa, qc, v7, Q7, rfl, o7, _, R7⟩
            have b7 : Below w.heap.size w W7 := HO.out.low.trans (R7.low HO.out.nt HO.out.low.size)
            have bA := (Below.refl W7.heap.size W7).alloc (Nat.le_refl _) (.cells #[.int .i64 3, .int .i64 4, .slice qa j qc] 36)
            have gA := heap_alloc_new W7 (.cells #[.int .i64 3, .int .i64 4, .slice qa j qc] 36)
            have bw := b7.trans (bA.mono b7.size)
            have cB := Bytes_same qa a0 j j qc cap0 l _ hl hl (by omega) ((Bts.own o7).later bA) (hbl _ bw)
            have HBW := Lib.hid bw
            obtain ⟨_, _, z2, _⟩ := box_cells gA
            have HGA := Lib.hid gA
            clear b7 bA gA bw R7 o7 cD HO HG G y2
            go_wp2_with (go_at_call 24; (with_reducible refine cB.mono ?_))
            rintro e W8 ⟨rfl, b8⟩
            have G8 := box_below HGA.out b8 (by simp)
            obtain ⟨x0, x1, x2, _⟩ := box_cells G8
            have b8w := HBW.out.trans (b8.mono HBW.out.size)
            have b8A := b8w.alloc b8w.size (.cells #[.int .i64 3, .int .i64 4, .slice qa j qc] 36)
            have HB8 := Lib.hid b8A
            clear cB b8 z2 HGA G8 b8w b8A
            go_wp2_with (first
              | (go_at_call 10; (with_reducible refine (nSend_nil _ _ _ _).mono ?_); rintro e w' ⟨rfl, hw'⟩; rw [hw'])
              | (go_at_call 22; (with_reducible refine (nLen_nil _).mono ?_); rintro e w' ⟨rfl, hw'⟩; rw [hw'])
              | (go_at_call 15; (with_reducible refine (nDrop_nil _ _).mono ?_); rintro e w' ⟨rfl, hw'⟩; rw [hw'])
              | (go_at_call 16; (with_reducible refine (nTwice_nil _ _).mono ?_); rintro e w' ⟨rfl, hw'⟩; rw [hw'])
              | (go_at_call 18; (with_reducible refine (nClear_nil _ _).mono ?_)))
            rintro e W9 ⟨rfl, b9⟩
            have b9w := HB8.out.trans (b9.mono HB8.out.size)
            have cW := awake6_b w W9 b9w
            clear b9 b9w
            go_wp2_with (go_at_call 8; (with_reducible refine cW.mono ?_))
            rintro e W10 ⟨rfl, b10⟩
            go_wp2
            go_ret
            exact ⟨rfl, b10⟩

end Go.Proofs.Ytenpoolminfofaa
