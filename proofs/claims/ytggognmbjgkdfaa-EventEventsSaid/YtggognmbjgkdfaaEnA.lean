/-
  Bytes that are laid behind one another: package event's layText, layNumber; isVersion, isEvent.
-/
import Derived.Test.YtggognmbjgkdfaaEvC
import Derived.Test.YtggognmbjgkdfaaRuN
import Derived.Test.YtggognmbjgkdfaaStD
import Derived.Test.YtggognmbjgkdfaaEvF
import Derived.Test.YtggognmbjgkdfaaMkA
set_option linter.unusedVariables false
namespace Go.Proofs.Ytggognmbjgkdfaa
open Go.RowKit

/-- All blocks but those of bytes stay as they are. -/
def Stay (w w' : World) : Prop := ∀ (k : Nat) (o : Obj), w.heap[k]? = some o → (∀ cs m, o ≠ Obj.cells cs 5 m) → w'.heap[k]? = some o
theorem Stay.refl (w : World) : Stay w w := fun _ _ h _ => h
theorem Stay.trans {a b c : World} (h : Stay a b) (k : Stay b c) : Stay a c := fun i o e n => k i o (h i o e n) n
theorem Stay.of_below {w w' : World} (h : Below w.heap.size w w') : Stay w w' := fun k o e _ => nb h e
theorem Stay.grown {w w' : World} {B k n : Nat} {v : Value} {xs : List Value} (ho : w.ownsRow B 5 k v n xs) (hg : w.grownBy w' v.ownBlock) : Stay w w' := fun i o e hn => by
  rw [hg.block i (lt_of_block e) (fun e2 => ?_)]
  · exact e
  · rcases ho.2 with ⟨hv, _⟩ | ⟨g, cap, cur, hv, _, hg2, _⟩
    · rw [hv] at e2; cases e2
    · rw [hv] at e2
      injection e2 with e2
      have e3 : i = g := e2
      subst e3
      rw [e] at hg2
      injection hg2 with hg2
      exact hn _ _ hg2
theorem Stay.cells {w w' : World} (h : Stay w w') {k : Nat} {cs : Array Value} {t : TypeId} {m : Nat × Nat} (e : w.heap[k]? = some (.cells cs t m)) (ht : t ≠ 5) : w'.heap[k]? = some (.cells cs t m) :=
  h k _ e (fun cs2 m2 e2 => by injection e2 with _ e3 _; exact ht e3)
theorem Stay.drewN (w : World) (n : Nat) : Stay w (w.drewN n) := Stay.of_below (below_drewN (Below.refl _ _) n)

/-- A row of bytes is answered that stands from B on; all blocks of other things stay. -/
def OutPost (B : Nat) (l : List UInt8) (w : World) (e : Ending) (w' : World) : Prop :=
  ∃ a n cap, e = .returned (.slice a n cap) ∧ l.length = n ∧ w'.ownsRow B 5 1 (.slice a n cap) n (Lib.byteCells l) ∧ Below B w w' ∧ Stay w w'

set_option maxHeartbeats 4000000 in
set_option maxRecDepth 100000 in
theorem layText_any (B m cap : Nat) (a : Option Addr) (l : List UInt8) (s : ByteArray) (w : World) (hown : w.ownsRow B 5 1 (.slice a m cap) m (Lib.byteCells l)) (hl : l.length = m) (hB : B ≤ w.heap.size) (hlim : m ≤ 900000) (hs : s.size ≤ 90000) :
    Calls Try.prog 46 #[.slice a m cap, .string s] w (OutPost B (l ++ tx s) w) := by
  obtain ⟨i0, hi, hz0, hz1, hz2'⟩ := info_parts infoByte8
  have cV := fun wx => Text_any none 0 0 [] s wx rfl (by omega) (by omega) (Bts.nil _ _) (fun _ => rfl)
  have hlx := Lib.uvarint_length64 (x := s.size) (by omega)
  have htl := tx_len s
  unfold uv at htl
  have HO := Lib.hid hown
  have HL := Lib.hid hl
  clear hown hl
  go_enter Try.func46, Try.ntmps46
  go_wp2_with (go_at_call 77; (with_reducible refine (cV _).mono ?_))
  rintro e W2 ⟨a2, cap2, rfl, o2, b2⟩
  obtain ⟨m2, hm2⟩ : ∃ m2, m2 = (txt [] s).length := ⟨_, rfl⟩
  rw [← hm2] at o2 ⊢
  have HM2 := Lib.hid hm2
  have hm3 : m2 ≤ 90100 := by rw [hm2]; show (tx s).length ≤ _; omega
  clear hm2
  have hS2 := Bts.own o2
  have hnone := Lib.hid (show a2 = none → cap2 = 0 from fun h => own_none o2 h)
  have ho2 := Lib.hid (ownsLater HO.out b2)
  have hb2 := b2.mono hB
  have hz2 : B ≤ W2.heap.size := Nat.le_trans hB b2.size
  clear cV htl hlx
  go_wp2_with (at_builtin; refine wpList_append_bts _ rfl _ _ 25 rfl B 5 i0 Try.underlying25 hi hz0 hz1 hz2' _ _ _ rfl ho2.out _ _ _ (txt [] s) rfl HM2.out.symm hS2 hnone.out (by omega) hz2 ?_)
  intro v' W3 o3 g3
  obtain ⟨a3, cap3, rfl⟩ := own_slice o3
  have HB3 := Lib.hid (below_grown hb2 hB ho2.out g3)
  have HY3 := Lib.hid ((Stay.of_below b2).trans (Stay.grown ho2.out g3))
  rw [byteCells_app] at o3
  clear g3 ho2 o2 b2 hb2 hS2 hnone
  go_wp2
  go_ret
  exact ⟨a3, _, cap3, rfl, by rw [List.length_append, HL.out, HM2.out]; rfl, o3, HB3.out, HY3.out⟩

set_option maxHeartbeats 4000000 in
set_option maxRecDepth 100000 in
theorem layNumber_any (B m cap : Nat) (a : Option Addr) (l : List UInt8) (x : Nat) (w : World) (hown : w.ownsRow B 5 1 (.slice a m cap) m (Lib.byteCells l)) (hl : l.length = m) (hB : B ≤ w.heap.size) (hlim : m ≤ 1000000) (hx : x < 9223372036854775808) :
    Calls Try.prog 47 #[.slice a m cap, .int .i64 x] w (OutPost B (l ++ uv x) w) := by
  obtain ⟨i0, hi, hz0, hz1, hz2'⟩ := info_parts infoByte8
  have ew : IntKind.u64.wrap (x : Int) = (x : Int) := IntWalk.u64_in _ (by omega)
  have cV := fun wx => Varint_any x (by omega) wx
  have hlx := Lib.uvarint_length64 (x := x) (by omega)
  have HO := Lib.hid hown
  have HL := Lib.hid hl
  clear hown hl
  go_enter Try.func47, Try.ntmps47
  go_wp2_with (go_at_call 48; (with_reducible refine (cV _).mono ?_))
  rintro e W2 ⟨a2, cap2, rfl, o2, b2⟩
  obtain ⟨m2, hm2⟩ : ∃ m2, m2 = (Lib.uvarint x).length := ⟨_, rfl⟩
  rw [← hm2] at o2 hlx ⊢
  have HM2 := Lib.hid hm2
  clear hm2
  have hS2 := Bts.own o2
  have hnone := Lib.hid (show a2 = none → cap2 = 0 from fun h => own_none o2 h)
  have ho2 := Lib.hid (ownsLater HO.out b2)
  have hb2 := b2.mono hB
  have hz2 : B ≤ W2.heap.size := Nat.le_trans hB b2.size
  clear cV ew
  go_wp2_with (at_builtin; refine wpList_append_bts _ rfl _ _ 25 rfl B 5 i0 Try.underlying25 hi hz0 hz1 hz2' _ _ _ rfl ho2.out _ _ _ (Lib.uvarint x) rfl HM2.out.symm hS2 hnone.out (by omega) hz2 ?_)
  intro v' W3 o3 g3
  obtain ⟨a3, cap3, rfl⟩ := own_slice o3
  have HB3 := Lib.hid (below_grown hb2 hB ho2.out g3)
  have HY3 := Lib.hid ((Stay.of_below b2).trans (Stay.grown ho2.out g3))
  rw [byteCells_app] at o3
  clear g3 ho2 o2 b2 hb2 hS2 hnone
  go_wp2
  go_ret
  exact ⟨a3, _, cap3, rfl, by rw [List.length_append, HL.out, HM2.out]; rfl, o3, HB3.out, HY3.out⟩

set_option maxHeartbeats 2000000 in
theorem isVersion_any (n : Int) (w : World) : Calls Try.prog 82 #[.int .i64 n] w (TelPost (.bool (verOk n)) w) := by
  by_cases h1 : 1 ≤ n
  · have c1 : decide (1 ≤ n) = true := decide_eq_true h1
    by_cases h2 : n ≤ 1099511627776
    · have c2 : decide (n ≤ 1099511627776) = true := decide_eq_true h2
      have hv : verOk n = true := verOk_iff.2 ⟨h1, h2⟩
      go_enter Try.func82, Try.ntmps82
      go_wp2
      go_ret
      first | exact ⟨rfl, Below.refl _ _⟩ | (rw [hv]; exact ⟨rfl, Below.refl _ _⟩)
    · have c2 : decide (n ≤ 1099511627776) = false := decide_eq_false h2
      have hv : verOk n = false := by unfold verOk; exact decide_eq_false (fun h => h2 h.2)
      go_enter Try.func82, Try.ntmps82
      go_wp2
      go_ret
      first | exact ⟨rfl, Below.refl _ _⟩ | (rw [hv]; exact ⟨rfl, Below.refl _ _⟩)
  · have c1 : decide (1 ≤ n) = false := decide_eq_false h1
    have hv : verOk n = false := by unfold verOk; exact decide_eq_false (fun h => h1 h.1)
    go_enter Try.func82, Try.ntmps82
    go_wp2
    go_ret
    exact ⟨rfl, Below.refl _ _⟩
-- isEvent
set_option maxHeartbeats 8000000 in
set_option maxRecDepth 100000 in
theorem isEvent_any (e : Ev) (w : World) (hs : e.s.size ≤ maxLen) (hd : e.d.size ≤ maxLen) :
    Calls Try.prog 56 #[.agg #[.string e.s, .int .i64 e.v, .string e.d, .int .i64 e.t.w, .int .i64 e.t.l, .int .i64 e.t.n, .int .i64 e.i]] w (TelPost (.bool (evOk e)) w) := by
  have bA := (Below.refl w.heap.size w).alloc (Nat.le_refl _) (.cells #[.string e.s, .int .i64 e.v, .string e.d, .int .i64 e.t.w, .int .i64 e.t.l, .int .i64 e.t.n, .int .i64 e.i] 42)
  have gA := heap_alloc_new w (.cells #[.string e.s, .int .i64 e.v, .string e.d, .int .i64 e.t.w, .int .i64 e.t.l, .int .i64 e.t.n, .int .i64 e.i] 42)
  have cN := fun V => name_t e.s V hs
  have cV := fun V => isVersion_any e.v V
  have cD := fun V => valid_t e.d V hd
  have cS := fun V => sound_any e.t V
  have hK : evOk e = (nmS e.s && verOk e.v && decide (e.d.size ≤ 1000) && vldS e.d && soundB e.t && ixOk e.i) := rfl
  obtain ⟨s, v, d, ⟨tw, tl, tn⟩, i⟩ := e
  simp only at *
  have HGA := Lib.hid gA
  have HBA := Lib.hid bA
  have HK := Lib.hid hK
  clear bA gA hK hs
  cases h1 : nmS s with
  | false =>
    have HR := Lib.hid (show evOk ⟨s, v, d, ⟨tw, tl, tn⟩, i⟩ = false by rw [HK.out, h1]; rfl)
    rw [h1] at cN
    clear h1 HK
    go_enter Try.func56, Try.ntmps56
    go_wp2_with (go_at_call 81; (with_reducible refine (cN _).mono ?_))
    rintro e0 W0 ⟨rfl, b0⟩
    have HB0 := Lib.hid (HBA.out.trans (b0.mono HBA.out.size))
    have HG0 := Lib.hid (nb b0 HGA.out)
    obtain ⟨x00, x01, x02, x03, x04, x05, x06, _⟩ := box7_cells HG0.out
    clear b0
    go_wp2
    go_ret
    rw [HR.out]
    exact ⟨rfl, HB0.out⟩
  | true =>
  rw [h1] at cN
  have HK1 := Lib.hid (show evOk ⟨s, v, d, ⟨tw, tl, tn⟩, i⟩ = (verOk v && decide (d.size ≤ 1000) && vldS d && soundB ⟨tw, tl, tn⟩ && ixOk i) by rw [HK.out, h1]; rfl)
  clear h1 HK
  cases h2 : verOk v with
  | false =>
    have HR := Lib.hid (show evOk ⟨s, v, d, ⟨tw, tl, tn⟩, i⟩ = false by rw [HK1.out, h2]; rfl)
    rw [h2] at cV
    clear h2 HK1
    go_enter Try.func56, Try.ntmps56
    go_wp2_with (go_at_call 81; (with_reducible refine (cN _).mono ?_))
    rintro e0 W0 ⟨rfl, b0⟩
    have HB0 := Lib.hid (HBA.out.trans (b0.mono HBA.out.size))
    have HG0 := Lib.hid (nb b0 HGA.out)
    obtain ⟨x00, x01, x02, x03, x04, x05, x06, _⟩ := box7_cells HG0.out
    clear b0
    go_wp2_with (go_at_call 82; (with_reducible refine (cV _).mono ?_))
    rintro e1 W1 ⟨rfl, b1⟩
    have HB1 := Lib.hid (HB0.out.trans (b1.mono HB0.out.size))
    have HG1 := Lib.hid (nb b1 HG0.out)
    obtain ⟨x10, x11, x12, x13, x14, x15, x16, _⟩ := box7_cells HG1.out
    clear b1
    go_wp2
    go_ret
    rw [HR.out]
    exact ⟨rfl, HB1.out⟩
  | true =>
  rw [h2] at cV
  have HK2 := Lib.hid (show evOk ⟨s, v, d, ⟨tw, tl, tn⟩, i⟩ = (decide (d.size ≤ 1000) && vldS d && soundB ⟨tw, tl, tn⟩ && ixOk i) by rw [HK1.out, h2]; rfl)
  clear h2 HK1
  by_cases h3 : d.size ≤ 1000
  case neg =>
    have HR := Lib.hid (show evOk ⟨s, v, d, ⟨tw, tl, tn⟩, i⟩ = false by rw [HK2.out, decide_eq_false h3]; rfl)
    have h3i : decide ((d.size : Int) ≤ 1000) = false := decide_eq_false (by omega)
    clear h3 HK2
    go_enter Try.func56, Try.ntmps56
    go_wp2_with (go_at_call 81; (with_reducible refine (cN _).mono ?_))
    rintro e0 W0 ⟨rfl, b0⟩
    have HB0 := Lib.hid (HBA.out.trans (b0.mono HBA.out.size))
    have HG0 := Lib.hid (nb b0 HGA.out)
    obtain ⟨x00, x01, x02, x03, x04, x05, x06, _⟩ := box7_cells HG0.out
    clear b0
    go_wp2_with (go_at_call 82; (with_reducible refine (cV _).mono ?_))
    rintro e1 W1 ⟨rfl, b1⟩
    have HB1 := Lib.hid (HB0.out.trans (b1.mono HB0.out.size))
    have HG1 := Lib.hid (nb b1 HG0.out)
    obtain ⟨x10, x11, x12, x13, x14, x15, x16, _⟩ := box7_cells HG1.out
    clear b1
    go_wp2
    go_ret
    rw [HR.out]
    exact ⟨rfl, HB1.out⟩
  have HK3 := Lib.hid (show evOk ⟨s, v, d, ⟨tw, tl, tn⟩, i⟩ = (vldS d && soundB ⟨tw, tl, tn⟩ && ixOk i) by rw [HK2.out, decide_eq_true h3]; rfl)
  have h3i : decide ((d.size : Int) ≤ 1000) = true := decide_eq_true (by omega)
  clear h3 HK2
  cases h4 : vldS d with
  | false =>
    have HR := Lib.hid (show evOk ⟨s, v, d, ⟨tw, tl, tn⟩, i⟩ = false by rw [HK3.out, h4]; rfl)
    rw [h4] at cD
    clear h4 HK3
    go_enter Try.func56, Try.ntmps56
    go_wp2_with (go_at_call 81; (with_reducible refine (cN _).mono ?_))
    rintro e0 W0 ⟨rfl, b0⟩
    have HB0 := Lib.hid (HBA.out.trans (b0.mono HBA.out.size))
    have HG0 := Lib.hid (nb b0 HGA.out)
    obtain ⟨x00, x01, x02, x03, x04, x05, x06, _⟩ := box7_cells HG0.out
    clear b0
    go_wp2_with (go_at_call 82; (with_reducible refine (cV _).mono ?_))
    rintro e1 W1 ⟨rfl, b1⟩
    have HB1 := Lib.hid (HB0.out.trans (b1.mono HB0.out.size))
    have HG1 := Lib.hid (nb b1 HG0.out)
    obtain ⟨x10, x11, x12, x13, x14, x15, x16, _⟩ := box7_cells HG1.out
    clear b1
    go_wp2_with (go_at_call 83; (with_reducible refine (cD _).mono ?_))
    rintro e2 W2 ⟨rfl, b2⟩
    have HB2 := Lib.hid (HB1.out.trans (b2.mono HB1.out.size))
    have HG2 := Lib.hid (nb b2 HG1.out)
    obtain ⟨x20, x21, x22, x23, x24, x25, x26, _⟩ := box7_cells HG2.out
    clear b2
    go_wp2
    go_ret
    rw [HR.out]
    exact ⟨rfl, HB2.out⟩
  | true =>
  rw [h4] at cD
  have HK4 := Lib.hid (show evOk ⟨s, v, d, ⟨tw, tl, tn⟩, i⟩ = (soundB ⟨tw, tl, tn⟩ && ixOk i) by rw [HK3.out, h4]; rfl)
  clear h4 HK3
  cases h5 : soundB ⟨tw, tl, tn⟩ with
  | false =>
    have HR := Lib.hid (show evOk ⟨s, v, d, ⟨tw, tl, tn⟩, i⟩ = false by rw [HK4.out, h5]; rfl)
    rw [h5] at cS
    clear h5 HK4
    go_enter Try.func56, Try.ntmps56
    go_wp2_with (go_at_call 81; (with_reducible refine (cN _).mono ?_))
    rintro e0 W0 ⟨rfl, b0⟩
    have HB0 := Lib.hid (HBA.out.trans (b0.mono HBA.out.size))
    have HG0 := Lib.hid (nb b0 HGA.out)
    obtain ⟨x00, x01, x02, x03, x04, x05, x06, _⟩ := box7_cells HG0.out
    clear b0
    go_wp2_with (go_at_call 82; (with_reducible refine (cV _).mono ?_))
    rintro e1 W1 ⟨rfl, b1⟩
    have HB1 := Lib.hid (HB0.out.trans (b1.mono HB0.out.size))
    have HG1 := Lib.hid (nb b1 HG0.out)
    obtain ⟨x10, x11, x12, x13, x14, x15, x16, _⟩ := box7_cells HG1.out
    clear b1
    go_wp2_with (go_at_call 83; (with_reducible refine (cD _).mono ?_))
    rintro e2 W2 ⟨rfl, b2⟩
    have HB2 := Lib.hid (HB1.out.trans (b2.mono HB1.out.size))
    have HG2 := Lib.hid (nb b2 HG1.out)
    obtain ⟨x20, x21, x22, x23, x24, x25, x26, _⟩ := box7_cells HG2.out
    clear b2
    go_wp2_with (go_at_call 84; (with_reducible refine (cS _).mono ?_))
    rintro e3 W3 ⟨rfl, b3⟩
    have HB3 := Lib.hid (HB2.out.trans (b3.mono HB2.out.size))
    have HG3 := Lib.hid (nb b3 HG2.out)
    obtain ⟨x30, x31, x32, x33, x34, x35, x36, _⟩ := box7_cells HG3.out
    clear b3
    go_wp2
    go_ret
    rw [HR.out]
    exact ⟨rfl, HB3.out⟩
  | true =>
  rw [h5] at cS
  have HK5 := Lib.hid (show evOk ⟨s, v, d, ⟨tw, tl, tn⟩, i⟩ = decide (0 ≤ i ∧ i ≤ 160) by rw [HK4.out, h5]; rfl)
  clear h5 HK4
  by_cases h6 : 0 ≤ i
  case neg =>
    have HR := Lib.hid (show evOk ⟨s, v, d, ⟨tw, tl, tn⟩, i⟩ = false by rw [HK5.out]; exact decide_eq_false (fun h => h6 h.1))
    have h6i : decide (0 ≤ i) = false := decide_eq_false h6
    clear h6 HK5
    go_enter Try.func56, Try.ntmps56
    go_wp2_with (go_at_call 81; (with_reducible refine (cN _).mono ?_))
    rintro e0 W0 ⟨rfl, b0⟩
    have HB0 := Lib.hid (HBA.out.trans (b0.mono HBA.out.size))
    have HG0 := Lib.hid (nb b0 HGA.out)
    obtain ⟨x00, x01, x02, x03, x04, x05, x06, _⟩ := box7_cells HG0.out
    clear b0
    go_wp2_with (go_at_call 82; (with_reducible refine (cV _).mono ?_))
    rintro e1 W1 ⟨rfl, b1⟩
    have HB1 := Lib.hid (HB0.out.trans (b1.mono HB0.out.size))
    have HG1 := Lib.hid (nb b1 HG0.out)
    obtain ⟨x10, x11, x12, x13, x14, x15, x16, _⟩ := box7_cells HG1.out
    clear b1
    go_wp2_with (go_at_call 83; (with_reducible refine (cD _).mono ?_))
    rintro e2 W2 ⟨rfl, b2⟩
    have HB2 := Lib.hid (HB1.out.trans (b2.mono HB1.out.size))
    have HG2 := Lib.hid (nb b2 HG1.out)
    obtain ⟨x20, x21, x22, x23, x24, x25, x26, _⟩ := box7_cells HG2.out
    clear b2
    go_wp2_with (go_at_call 84; (with_reducible refine (cS _).mono ?_))
    rintro e3 W3 ⟨rfl, b3⟩
    have HB3 := Lib.hid (HB2.out.trans (b3.mono HB2.out.size))
    have HG3 := Lib.hid (nb b3 HG2.out)
    obtain ⟨x30, x31, x32, x33, x34, x35, x36, _⟩ := box7_cells HG3.out
    clear b3
    go_wp2
    go_ret
    rw [HR.out]
    exact ⟨rfl, HB3.out⟩
  have h6i : decide (0 ≤ i) = true := decide_eq_true h6
  by_cases h7 : i ≤ 160
  case neg =>
    have HR := Lib.hid (show evOk ⟨s, v, d, ⟨tw, tl, tn⟩, i⟩ = false by rw [HK5.out]; exact decide_eq_false (fun h => h7 h.2))
    have h7i : decide (i ≤ 160) = false := decide_eq_false h7
    clear h6 h7 HK5
    go_enter Try.func56, Try.ntmps56
    go_wp2_with (go_at_call 81; (with_reducible refine (cN _).mono ?_))
    rintro e0 W0 ⟨rfl, b0⟩
    have HB0 := Lib.hid (HBA.out.trans (b0.mono HBA.out.size))
    have HG0 := Lib.hid (nb b0 HGA.out)
    obtain ⟨x00, x01, x02, x03, x04, x05, x06, _⟩ := box7_cells HG0.out
    clear b0
    go_wp2_with (go_at_call 82; (with_reducible refine (cV _).mono ?_))
    rintro e1 W1 ⟨rfl, b1⟩
    have HB1 := Lib.hid (HB0.out.trans (b1.mono HB0.out.size))
    have HG1 := Lib.hid (nb b1 HG0.out)
    obtain ⟨x10, x11, x12, x13, x14, x15, x16, _⟩ := box7_cells HG1.out
    clear b1
    go_wp2_with (go_at_call 83; (with_reducible refine (cD _).mono ?_))
    rintro e2 W2 ⟨rfl, b2⟩
    have HB2 := Lib.hid (HB1.out.trans (b2.mono HB1.out.size))
    have HG2 := Lib.hid (nb b2 HG1.out)
    obtain ⟨x20, x21, x22, x23, x24, x25, x26, _⟩ := box7_cells HG2.out
    clear b2
    go_wp2_with (go_at_call 84; (with_reducible refine (cS _).mono ?_))
    rintro e3 W3 ⟨rfl, b3⟩
    have HB3 := Lib.hid (HB2.out.trans (b3.mono HB2.out.size))
    have HG3 := Lib.hid (nb b3 HG2.out)
    obtain ⟨x30, x31, x32, x33, x34, x35, x36, _⟩ := box7_cells HG3.out
    clear b3
    go_wp2
    go_ret
    rw [HR.out]
    exact ⟨rfl, HB3.out⟩
  have HR := Lib.hid (show evOk ⟨s, v, d, ⟨tw, tl, tn⟩, i⟩ = true by rw [HK5.out]; exact decide_eq_true ⟨h6, h7⟩)
  have h7i : decide (i ≤ 160) = true := decide_eq_true h7
  clear h6 h7 HK5
  go_enter Try.func56, Try.ntmps56
  go_wp2_with (go_at_call 81; (with_reducible refine (cN _).mono ?_))
  rintro e0 W0 ⟨rfl, b0⟩
  have HB0 := Lib.hid (HBA.out.trans (b0.mono HBA.out.size))
  have HG0 := Lib.hid (nb b0 HGA.out)
  obtain ⟨x00, x01, x02, x03, x04, x05, x06, _⟩ := box7_cells HG0.out
  clear b0
  go_wp2_with (go_at_call 82; (with_reducible refine (cV _).mono ?_))
  rintro e1 W1 ⟨rfl, b1⟩
  have HB1 := Lib.hid (HB0.out.trans (b1.mono HB0.out.size))
  have HG1 := Lib.hid (nb b1 HG0.out)
  obtain ⟨x10, x11, x12, x13, x14, x15, x16, _⟩ := box7_cells HG1.out
  clear b1
  go_wp2_with (go_at_call 83; (with_reducible refine (cD _).mono ?_))
  rintro e2 W2 ⟨rfl, b2⟩
  have HB2 := Lib.hid (HB1.out.trans (b2.mono HB1.out.size))
  have HG2 := Lib.hid (nb b2 HG1.out)
  obtain ⟨x20, x21, x22, x23, x24, x25, x26, _⟩ := box7_cells HG2.out
  clear b2
  go_wp2_with (go_at_call 84; (with_reducible refine (cS _).mono ?_))
  rintro e3 W3 ⟨rfl, b3⟩
  have HB3 := Lib.hid (HB2.out.trans (b3.mono HB2.out.size))
  have HG3 := Lib.hid (nb b3 HG2.out)
  obtain ⟨x30, x31, x32, x33, x34, x35, x36, _⟩ := box7_cells HG3.out
  clear b3
  go_wp2
  go_ret
  rw [HR.out]
  exact ⟨rfl, HB3.out⟩

end Go.Proofs.Ytggognmbjgkdfaa
