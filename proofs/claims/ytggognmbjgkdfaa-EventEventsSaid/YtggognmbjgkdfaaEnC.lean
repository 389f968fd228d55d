/-
  The reference's bytes of an event.
-/
import Derived.Test.YtggognmbjgkdfaaEnB
import Derived.Test.YtggognmbjgkdfaaStQ
import Derived.Test.YtggognmbjgkdfaaRfN
set_option linter.unusedVariables false
namespace Go.Proofs.Ytggognmbjgkdfaa
open Go.RowKit

theorem rname_t (s : ByteArray) (w : World) (hs : s.size ≤ 1000000) : Calls Try.prog 44 #[.string s] w (TelPost (.bool (nmS s)) w) := rName_any s w hs
theorem rkey_t (s : ByteArray) (w : World) (hs : s.size ≤ 1000000) : Calls Try.prog 43 #[.string s] w (TelPost (.bool (kyS s)) w) := rKey_any s w hs
theorem rvalid_t (s : ByteArray) (w : World) (hs : s.size ≤ 1000000) : Calls Try.prog 45 #[.string s] w (TelPost (.bool (vldS s)) w) := rValid_any s w hs

set_option maxHeartbeats 4000000 in
set_option maxRecDepth 100000 in
theorem num_s (B m cap : Nat) (a : Option Addr) (l : List UInt8) (x : Nat) (w : World) (hown : w.ownsRow B 5 1 (.slice a m cap) m (Lib.byteCells l)) (hl : l.length = m) (hB : B ≤ w.heap.size) (hlim : m ≤ 1000000) (hx : x < 9223372036854775808) :
    Calls Try.prog 50 #[.slice a m cap, .int .i64 x] w (OutPost B (l ++ uv x) w) := by
  obtain ⟨i0, hi, hz0, hz1, hz2'⟩ := info_parts infoByte8
  have ew : IntKind.u64.wrap (x : Int) = (x : Int) := IntWalk.u64_in _ (by omega)
  have cV := fun wx => rVarint_any x (by omega) wx
  have hlx := Lib.uvarint_length64 (x := x) (by omega)
  have HO := Lib.hid hown
  have HL := Lib.hid hl
  clear hown hl
  go_enter Try.func50, Try.ntmps50
  go_wp2_with (go_at_call 52; (with_reducible refine (cV _).mono ?_))
  rintro e W2 ⟨a2, cap2, rfl, o2, b2⟩
  obtain ⟨m2, hm2⟩ : ∃ m2, m2 = (Lib.uvarint x).length := ⟨_, rfl⟩
  rw [← hm2] at o2 hlx ⊢
  have HM2 := Lib.hid hm2
  clear hm2
  have hS2 := Bts.own o2
  have hnone := Lib.hid (show a2 = none → cap2 = 0 from fun h => own_none o2 h)
  have ho2 := Lib.hid (ownsLater HO.out b2)
  have hb2 := b2.mono hB
  have hz2 : B ≤ W2.heap.size := Nat.le_trans hB b2.size
  clear cV ew
  go_wp2_with (at_builtin; refine wpList_append_bts _ rfl _ _ 25 rfl B 5 i0 Try.underlying25 hi hz0 hz1 hz2' _ _ _ rfl ho2.out _ _ _ (Lib.uvarint x) rfl HM2.out.symm hS2 hnone.out (by omega) hz2 ?_)
  intro v' W3 o3 g3
  obtain ⟨a3, cap3, rfl⟩ := own_slice o3
  have HB3 := Lib.hid (below_grown hb2 hB ho2.out g3)
  have HY3 := Lib.hid ((Stay.of_below b2).trans (Stay.grown ho2.out g3))
  rw [byteCells_app] at o3
  clear g3 ho2 o2 b2 hb2 hS2 hnone
  go_wp2
  go_ret
  exact ⟨a3, _, cap3, rfl, by rw [List.length_append, HL.out, HM2.out]; rfl, o3, HB3.out, HY3.out⟩
theorem OwnPost.out {B n : Nat} {l : List UInt8} {w w' : World} {e : Ending} (h : OwnPost B n l w e w') (hB : B = w.heap.size) (hn : l.length = n) : OutPost B l w e w' := by
  obtain ⟨a, c, h1, h2, h3⟩ := h
  subst hB
  exact ⟨a, n, c, h1, hn, h2, h3, Stay.of_below h3⟩
theorem rText_s (a : Option Addr) (n cap : Nat) (l : List UInt8) (s : ByteArray) (w : World) (hl : l.length = n) (hn : n ≤ 1000000) (hs : s.size ≤ 1000000) (hb : Bts w a l) (hA : a = none → cap = 0) :
    Calls Try.prog 51 #[.slice a n cap, .string s] w (OutPost w.heap.size (l ++ tx s) w) := by
  refine (rText_any a n cap l s w hl hn hs hb hA).mono fun e w' h => ?_
  have e1 : txt l s = l ++ tx s := by simp [txt, tx]
  rw [e1] at h
  exact h.out rfl rfl

/-- Between the two statements. -/
structure EnMid (w wx : World) (B : Nat) (cs : Array Value) (l : List UInt8) (v : Value) : Prop where
  ex : ∃ (a : Option Addr) (n c : Nat), v = .slice a n c ∧ l.length = n ∧ wx.ownsRow B 5 1 (.slice a n c) n (Lib.byteCells l)
  below : Below w.heap.size w wx
  box : wx.heap[w.heap.size]? = some (.cells cs 42 (0, 0))

set_option maxHeartbeats 8000000 in
set_option maxRecDepth 100000 in
theorem rEncodeEvent_any (e : Ev) (w : World) (hs : e.s.size ≤ 80000) (hd : e.d.size ≤ 80000) :
    Calls Try.prog 24 #[.agg #[.string e.s, .int .i64 e.v, .string e.d, .int .i64 e.t.w, .int .i64 e.t.l, .int .i64 e.t.n, .int .i64 e.i]] w (OutPost w.heap.size (encE e) w) := by
  obtain ⟨i0, hi, hz0, hz1, hz2'⟩ := info_parts infoByte8
  have bA := (Below.refl w.heap.size w).alloc (Nat.le_refl _) (.cells #[.string e.s, .int .i64 e.v, .string e.d, .int .i64 e.t.w, .int .i64 e.t.l, .int .i64 e.t.n, .int .i64 e.i] 42)
  have gA := heap_alloc_new w (.cells #[.string e.s, .int .i64 e.v, .string e.d, .int .i64 e.t.w, .int .i64 e.t.l, .int .i64 e.t.n, .int .i64 e.i] 42)
  have cN := fun V => rname_t e.s V (by omega)
  have cD := fun V => rvalid_t e.d V (by omega)
  have cS := fun V => rSound_any e.t V
  have hK : evOk e = (nmS e.s && verOk e.v && decide (e.d.size ≤ 1000) && vldS e.d && soundB e.t && ixOk e.i) := rfl
  have HE0 := Lib.hid (show evOk e = false → encE e = [] from fun h => by unfold encE; rw [h]; rfl)
  have HE1 := Lib.hid (show evOk e = true → encE e = evC e from fun h => by unfold encE; rw [h]; rfl)
  obtain ⟨s, v, d, ⟨tw, tl, tn⟩, i⟩ := e
  simp only at *
  have HGA := Lib.hid gA
  have HBA := Lib.hid bA
  have HK := Lib.hid hK
  clear bA gA hK
  cases h1 : nmS s with
  | false =>
    have hR : evOk ⟨s, v, d, ⟨tw, tl, tn⟩, i⟩ = false := by rw [HK.out, h1]; rfl
    rw [h1] at cN
    clear h1 HK
    have HR := Lib.hid (HE0.out hR)
    clear HE0 HE1
    go_enter Try.func24, Try.ntmps24
    go_wp2_with (go_at_call 44; (with_reducible refine (cN _).mono ?_))
    rintro e0 W0 ⟨rfl, b0⟩
    have HB0 := Lib.hid (HBA.out.trans (b0.mono HBA.out.size))
    have HG0 := Lib.hid (nb b0 HGA.out)
    obtain ⟨x00, x01, x02, x03, x04, x05, x06, _⟩ := box7_cells HG0.out
    clear b0
    go_wp2
    go_ret
    rw [HR.out]
    exact OutPost.no (Nat.le_refl _) HB0.out
  | true =>
  rw [h1] at cN
  have HK1 := Lib.hid (show evOk ⟨s, v, d, ⟨tw, tl, tn⟩, i⟩ = (verOk v && decide (d.size ≤ 1000) && vldS d && soundB ⟨tw, tl, tn⟩ && ixOk i) by rw [HK.out, h1]; rfl)
  clear h1 HK
  by_cases h2 : v < 1
  case pos =>
    have hR : evOk ⟨s, v, d, ⟨tw, tl, tn⟩, i⟩ = false := by rw [HK1.out, show verOk v = false from decide_eq_false (fun h => by omega)]; rfl
    have h2i : decide (v < 1) = true := decide_eq_true h2
    clear h2 HK1
    have HR := Lib.hid (HE0.out hR)
    clear HE0 HE1
    go_enter Try.func24, Try.ntmps24
    go_wp2_with (go_at_call 44; (with_reducible refine (cN _).mono ?_))
    rintro e0 W0 ⟨rfl, b0⟩
    have HB0 := Lib.hid (HBA.out.trans (b0.mono HBA.out.size))
    have HG0 := Lib.hid (nb b0 HGA.out)
    obtain ⟨x00, x01, x02, x03, x04, x05, x06, _⟩ := box7_cells HG0.out
    clear b0
    go_wp2
    go_ret
    rw [HR.out]
    exact OutPost.no (Nat.le_refl _) HB0.out
  have h2i : decide (v < 1) = false := decide_eq_false h2
  by_cases h2b : 1099511627776 < v
  case pos =>
    have hR : evOk ⟨s, v, d, ⟨tw, tl, tn⟩, i⟩ = false := by rw [HK1.out, show verOk v = false from decide_eq_false (fun h => by omega)]; rfl
    have h2j : decide (1099511627776 < v) = true := decide_eq_true h2b
    clear h2 h2b HK1
    have HR := Lib.hid (HE0.out hR)
    clear HE0 HE1
    go_enter Try.func24, Try.ntmps24
    go_wp2_with (go_at_call 44; (with_reducible refine (cN _).mono ?_))
    rintro e0 W0 ⟨rfl, b0⟩
    have HB0 := Lib.hid (HBA.out.trans (b0.mono HBA.out.size))
    have HG0 := Lib.hid (nb b0 HGA.out)
    obtain ⟨x00, x01, x02, x03, x04, x05, x06, _⟩ := box7_cells HG0.out
    clear b0
    go_wp2
    go_ret
    rw [HR.out]
    exact OutPost.no (Nat.le_refl _) HB0.out
  have h2j : decide (1099511627776 < v) = false := decide_eq_false h2b
  have HK2 := Lib.hid (show evOk ⟨s, v, d, ⟨tw, tl, tn⟩, i⟩ = (decide (d.size ≤ 1000) && vldS d && soundB ⟨tw, tl, tn⟩ && ixOk i) by rw [HK1.out, show verOk v = true from decide_eq_true ⟨by omega, by omega⟩]; rfl)
  clear HK1
  by_cases h3 : 1000 < d.size
  case pos =>
    have hR : evOk ⟨s, v, d, ⟨tw, tl, tn⟩, i⟩ = false := by rw [HK2.out, decide_eq_false (by omega)]; rfl
    have h3i : decide (1000 < (d.size : Int)) = true := decide_eq_true (by omega)
    clear h3 HK2
    have HR := Lib.hid (HE0.out hR)
    clear HE0 HE1
    go_enter Try.func24, Try.ntmps24
    go_wp2_with (go_at_call 44; (with_reducible refine (cN _).mono ?_))
    rintro e0 W0 ⟨rfl, b0⟩
    have HB0 := Lib.hid (HBA.out.trans (b0.mono HBA.out.size))
    have HG0 := Lib.hid (nb b0 HGA.out)
    obtain ⟨x00, x01, x02, x03, x04, x05, x06, _⟩ := box7_cells HG0.out
    clear b0
    go_wp2
    go_ret
    rw [HR.out]
    exact OutPost.no (Nat.le_refl _) HB0.out
  have HK3 := Lib.hid (show evOk ⟨s, v, d, ⟨tw, tl, tn⟩, i⟩ = (vldS d && soundB ⟨tw, tl, tn⟩ && ixOk i) by rw [HK2.out, decide_eq_true (by omega)]; rfl)
  have h3i : decide (1000 < (d.size : Int)) = false := decide_eq_false (by omega)
  clear HK2
  cases h4 : vldS d with
  | false =>
    have hR : evOk ⟨s, v, d, ⟨tw, tl, tn⟩, i⟩ = false := by rw [HK3.out, h4]; rfl
    rw [h4] at cD
    clear h4 HK3
    have HR := Lib.hid (HE0.out hR)
    clear HE0 HE1
    go_enter Try.func24, Try.ntmps24
    go_wp2_with (go_at_call 44; (with_reducible refine (cN _).mono ?_))
    rintro e0 W0 ⟨rfl, b0⟩
    have HB0 := Lib.hid (HBA.out.trans (b0.mono HBA.out.size))
    have HG0 := Lib.hid (nb b0 HGA.out)
    obtain ⟨x00, x01, x02, x03, x04, x05, x06, _⟩ := box7_cells HG0.out
    clear b0
    go_wp2_with (go_at_call 45; (with_reducible refine (cD _).mono ?_))
    rintro e1 W1 ⟨rfl, b1⟩
    have HB1 := Lib.hid (HB0.out.trans (b1.mono HB0.out.size))
    have HG1 := Lib.hid (nb b1 HG0.out)
    obtain ⟨x10, x11, x12, x13, x14, x15, x16, _⟩ := box7_cells HG1.out
    clear b1
    go_wp2
    go_ret
    rw [HR.out]
    exact OutPost.no (Nat.le_refl _) HB1.out
  | true =>
  rw [h4] at cD
  have HK4 := Lib.hid (show evOk ⟨s, v, d, ⟨tw, tl, tn⟩, i⟩ = (soundB ⟨tw, tl, tn⟩ && ixOk i) by rw [HK3.out, h4]; rfl)
  clear h4 HK3
  cases h5 : soundB ⟨tw, tl, tn⟩ with
  | false =>
    have hR : evOk ⟨s, v, d, ⟨tw, tl, tn⟩, i⟩ = false := by rw [HK4.out, h5]; rfl
    rw [h5] at cS
    clear h5 HK4
    have HR := Lib.hid (HE0.out hR)
    clear HE0 HE1
    go_enter Try.func24, Try.ntmps24
    go_wp2_with (go_at_call 44; (with_reducible refine (cN _).mono ?_))
    rintro e0 W0 ⟨rfl, b0⟩
    have HB0 := Lib.hid (HBA.out.trans (b0.mono HBA.out.size))
    have HG0 := Lib.hid (nb b0 HGA.out)
    obtain ⟨x00, x01, x02, x03, x04, x05, x06, _⟩ := box7_cells HG0.out
    clear b0
    go_wp2_with (go_at_call 45; (with_reducible refine (cD _).mono ?_))
    rintro e1 W1 ⟨rfl, b1⟩
    have HB1 := Lib.hid (HB0.out.trans (b1.mono HB0.out.size))
    have HG1 := Lib.hid (nb b1 HG0.out)
    obtain ⟨x10, x11, x12, x13, x14, x15, x16, _⟩ := box7_cells HG1.out
    clear b1
    go_wp2_with (go_at_call 59; (with_reducible refine (cS _).mono ?_))
    rintro e2 W2 ⟨rfl, b2⟩
    have HB2 := Lib.hid (HB1.out.trans (b2.mono HB1.out.size))
    have HG2 := Lib.hid (nb b2 HG1.out)
    obtain ⟨x20, x21, x22, x23, x24, x25, x26, _⟩ := box7_cells HG2.out
    clear b2
    go_wp2
    go_ret
    rw [HR.out]
    exact OutPost.no (Nat.le_refl _) HB2.out
  | true =>
  rw [h5] at cS
  have HK5 := Lib.hid (show evOk ⟨s, v, d, ⟨tw, tl, tn⟩, i⟩ = decide (0 ≤ i ∧ i ≤ 160) by rw [HK4.out, h5]; rfl)
  clear h5 HK4
  by_cases h6 : i < 0
  case pos =>
    have hR : evOk ⟨s, v, d, ⟨tw, tl, tn⟩, i⟩ = false := by rw [HK5.out]; exact decide_eq_false (fun h => by omega)
    have h6i : decide (i < 0) = true := decide_eq_true h6
    clear h6 HK5
    have HR := Lib.hid (HE0.out hR)
    clear HE0 HE1
    go_enter Try.func24, Try.ntmps24
    go_wp2_with (go_at_call 44; (with_reducible refine (cN _).mono ?_))
    rintro e0 W0 ⟨rfl, b0⟩
    have HB0 := Lib.hid (HBA.out.trans (b0.mono HBA.out.size))
    have HG0 := Lib.hid (nb b0 HGA.out)
    obtain ⟨x00, x01, x02, x03, x04, x05, x06, _⟩ := box7_cells HG0.out
    clear b0
    go_wp2_with (go_at_call 45; (with_reducible refine (cD _).mono ?_))
    rintro e1 W1 ⟨rfl, b1⟩
    have HB1 := Lib.hid (HB0.out.trans (b1.mono HB0.out.size))
    have HG1 := Lib.hid (nb b1 HG0.out)
    obtain ⟨x10, x11, x12, x13, x14, x15, x16, _⟩ := box7_cells HG1.out
    clear b1
    go_wp2_with (go_at_call 59; (with_reducible refine (cS _).mono ?_))
    rintro e2 W2 ⟨rfl, b2⟩
    have HB2 := Lib.hid (HB1.out.trans (b2.mono HB1.out.size))
    have HG2 := Lib.hid (nb b2 HG1.out)
    obtain ⟨x20, x21, x22, x23, x24, x25, x26, _⟩ := box7_cells HG2.out
    clear b2
    go_wp2
    go_ret
    rw [HR.out]
    exact OutPost.no (Nat.le_refl _) HB2.out
  have h6i : decide (i < 0) = false := decide_eq_false h6
  by_cases h7 : 160 < i
  case pos =>
    have hR : evOk ⟨s, v, d, ⟨tw, tl, tn⟩, i⟩ = false := by rw [HK5.out]; exact decide_eq_false (fun h => by omega)
    have h7i : decide (160 < i) = true := decide_eq_true h7
    clear h6 h7 HK5
    have HR := Lib.hid (HE0.out hR)
    clear HE0 HE1
    go_enter Try.func24, Try.ntmps24
    go_wp2_with (go_at_call 44; (with_reducible refine (cN _).mono ?_))
    rintro e0 W0 ⟨rfl, b0⟩
    have HB0 := Lib.hid (HBA.out.trans (b0.mono HBA.out.size))
    have HG0 := Lib.hid (nb b0 HGA.out)
    obtain ⟨x00, x01, x02, x03, x04, x05, x06, _⟩ := box7_cells HG0.out
    clear b0
    go_wp2_with (go_at_call 45; (with_reducible refine (cD _).mono ?_))
    rintro e1 W1 ⟨rfl, b1⟩
    have HB1 := Lib.hid (HB0.out.trans (b1.mono HB0.out.size))
    have HG1 := Lib.hid (nb b1 HG0.out)
    obtain ⟨x10, x11, x12, x13, x14, x15, x16, _⟩ := box7_cells HG1.out
    clear b1
    go_wp2_with (go_at_call 59; (with_reducible refine (cS _).mono ?_))
    rintro e2 W2 ⟨rfl, b2⟩
    have HB2 := Lib.hid (HB1.out.trans (b2.mono HB1.out.size))
    have HG2 := Lib.hid (nb b2 HG1.out)
    obtain ⟨x20, x21, x22, x23, x24, x25, x26, _⟩ := box7_cells HG2.out
    clear b2
    go_wp2
    go_ret
    rw [HR.out]
    exact OutPost.no (Nat.le_refl _) HB2.out
  have h7i : decide (160 < i) = false := decide_eq_false h7
  have hR : evOk ⟨s, v, d, ⟨tw, tl, tn⟩, i⟩ = true := by rw [HK5.out]; exact decide_eq_true ⟨by omega, by omega⟩
  have HR := Lib.hid (HE1.out hR)
  obtain ⟨v, rfl⟩ : ∃ n : Nat, v = (n : Int) := ⟨v.toNat, by omega⟩
  obtain ⟨i, rfl⟩ : ∃ n : Nat, i = (n : Int) := ⟨i.toNat, by omega⟩
  clear HE0 HE1 HK5 hR
  go_enter Try.func24, Try.ntmps24
  go_wp2_with (go_at_call 44; (with_reducible refine (cN _).mono ?_))
  rintro e0 W0 ⟨rfl, b0⟩
  have HB0 := Lib.hid (HBA.out.trans (b0.mono HBA.out.size))
  have HG0 := Lib.hid (nb b0 HGA.out)
  obtain ⟨x00, x01, x02, x03, x04, x05, x06, _⟩ := box7_cells HG0.out
  clear b0
  go_wp2_with (go_at_call 45; (with_reducible refine (cD _).mono ?_))
  rintro e1 W1 ⟨rfl, b1⟩
  have HB1 := Lib.hid (HB0.out.trans (b1.mono HB0.out.size))
  have HG1 := Lib.hid (nb b1 HG0.out)
  obtain ⟨x10, x11, x12, x13, x14, x15, x16, _⟩ := box7_cells HG1.out
  clear b1
  go_wp2_with (go_at_call 59; (with_reducible refine (cS _).mono ?_))
  rintro e2 W2 ⟨rfl, b2⟩
  have HB2 := Lib.hid (HB1.out.trans (b2.mono HB1.out.size))
  have HG2 := Lib.hid (nb b2 HG1.out)
  obtain ⟨x20, x21, x22, x23, x24, x25, x26, _⟩ := box7_cells HG2.out
  clear b2
  have t1 := tx_le hs (by omega)
  have t2 := tx_le (show d.size ≤ 1000 by omega) (by omega)
  have t3 := uv_len v (by omega)
  have t4 := uv_len i (by omega)
  have cE := fun wx => rEncode_any ⟨tw, tl, tn⟩ wx
  have hc := code_len ⟨tw, tl, tn⟩
  simp only at cE
  have cT := fun (a : Option Addr) (n cap : Nat) (l : List UInt8) (s : ByteArray) (V : World) (hl : l.length = n) (hn : n ≤ 900000) (hs : s.size ≤ 80000) (hb : Bts V a l) (hA : a = none → cap = 0) => rText_s a n cap l s V hl (by omega) (by omega) hb hA
  have hg2 := HG2.out
  go_wp2_with fail
  go_cut [3] (fun s3 wx => EnMid w wx w.heap.size #[.string s, .int .i64 v, .string d, .int .i64 tw, .int .i64 tl, .int .i64 tn, .int .i64 i] (tx s ++ (uv v ++ tx d)) s3)
  case first =>
    go_region_law (first
      | ((rw [if_pos (by rfl)]; go_simp; go_at_call 51; (with_reducible refine (cT none 0 0 [] s _ rfl (by omega) hs (Bts.nil _ _) (fun _ => rfl)).mono ?_); rintro e3 V1 ⟨a1, n1, p1, rfl, l1, o1, b1, y1⟩; have hg3 := y1.cells (by exact hg2) (by decide); obtain ⟨z0, z1, z2, z3, z4, z5, z6, _⟩ := box7_cells hg3; have hn1 : n1 ≤ 80010 := (by rw [← l1]; simp only [List.nil_append]; omega); go_simp))
      | ((rw [if_pos (by rfl)]; go_simp; go_at_call 50; (with_reducible refine (num_s _ n1 p1 a1 _ v _ (by first | exact o1 | exact o1.drew) l1 (by exact b1.size) (by omega) (by omega)).mono ?_); rintro e4 V2 ⟨a2, n2, p2, rfl, l2, o2, b2, y2⟩; have hg4 := y2.cells (by exact hg3) (by decide); obtain ⟨z10, z11, z12, z13, z14, z15, z16, _⟩ := box7_cells hg4; have hn2 : n2 ≤ 80020 := (by rw [← l2]; simp only [List.nil_append, List.length_append]; omega); go_simp))
      | ((rw [if_pos (by rfl)]; go_simp; go_at_call 51; (with_reducible refine (cT a2 n2 p2 _ d _ l2 (by omega) hd (Bts.own (by first | exact o2 | exact o2.drew)) (own_none o2)).mono ?_); rintro e5 V3 ⟨a3, n3, p3, rfl, l3, o3, b3, y3⟩; have hg5 := y3.cells (by exact hg4) (by decide); go_simp)))
    all_goals (
      have HM := Lib.hid (show EnMid w V3 w.heap.size #[.string s, .int .i64 v, .string d, .int .i64 tw, .int .i64 tl, .int .i64 tn, .int .i64 i] (tx s ++ (uv v ++ tx d)) (.slice a3 n3 p3) from by
        simp only [List.nil_append, List.append_assoc] at l3 o3
        have q1 : w.heap.size ≤ W2.heap.size := HB2.out.size
        have q2 : W2.heap.size ≤ V1.heap.size := b1.size
        have q3 : V1.heap.size ≤ V2.heap.size := b2.size
        refine ⟨⟨a3, n3, p3, rfl, l3, own_low o3 (by first | exact Nat.le_trans q1 (Nat.le_trans q2 q3) | (show w.heap.size ≤ V2.heap.size; omega))⟩, ?_, hg5⟩
        have k1 : Below W2.heap.size W2 V1 := by first | exact b1 | exact (Below.refl _ W2).drew.trans b1
        have k2 : Below w.heap.size V1 V2 := by first | exact b2.mono (by first | exact q1 | exact Nat.le_trans q1 q2) | exact (Below.refl _ V1).drew.trans (b2.mono (by first | exact q1 | exact Nat.le_trans q1 q2))
        have k3 : Below w.heap.size V2 V3 := by first | exact b3.mono (Nat.le_trans q1 (Nat.le_trans q2 q3)) | exact (Below.refl _ V2).drew.trans (b3.mono (Nat.le_trans q1 (Nat.le_trans q2 q3)))
        exact ((HB2.out.trans (k1.mono q1)).trans k2).trans k3)
      clear l1 l2 l3 o1 o2 o3 b1 b2 b3 y1 y2 y3 hg3 hg4 hg5
      go_wp2_with fail
      go_meet
      exact HM.out)
  case rest =>
    obtain ⟨⟨a3, n3, p3, rfl, l3, o3⟩, b3, g3⟩ := hcut
    obtain ⟨y0, y1, y2, y3, y4, y5, y6, _⟩ := box7_cells g3
    have hn3 : n3 ≤ 100000 := by rw [← l3]; simp only [List.length_append]; omega
    obtain ⟨L, hL⟩ : ∃ L, L = tx s ++ (uv v ++ tx d) := ⟨_, rfl⟩
    rw [← hL] at l3 o3
    obtain ⟨C, hC⟩ : ∃ C, C = codeL ⟨tw, tl, tn⟩ := ⟨_, rfl⟩
    rw [← hC] at cE hc
    obtain ⟨m, hm⟩ : ∃ m, m = C.length := ⟨_, rfl⟩
    rw [← hm] at cE hc
    have HL := Lib.hid hL
    have HC := Lib.hid hC
    have HM := Lib.hid hm
    clear hL hC hm HG0 HG1 HG2 HB0 HB1 HGA HBA hs hd
    have hwz : w.heap.size ≤ wc.heap.size := b3.size
    go_wp2_with fail
    go_region_law (first
      | ((rw [if_pos (by rfl)]; go_simp; go_at_call 60; (with_reducible refine (cE _).mono ?_); rintro e4 V1 ⟨a4, p4, rfl, o4, b4⟩; have o5 := ownsLater (by exact o3) b4; have hg4 := nb b4 (by exact g3); obtain ⟨z0, z1, z2, z3, z4, z5, z6, _⟩ := box7_cells hg4; have hz4 : wc.heap.size ≤ V1.heap.size := b4.size; go_simp))
      | ((refine step_append_row _ (by rfl) _ _ 25 (by rfl) w.heap.size 5 i0 (.int .u8 0) 1 1 Try.underlying25 hi hz0 hz1 hz2' rfl (by decide) (.slice a3 n3 p3) n3 (Lib.byteCells L) (by rfl) (by first | exact o5 | exact o5.drew) _ a4 m p4 (Lib.byteCells C) (by rfl) (by first | exact o4 | exact o4.drew) (byteCells_one _) (by unfold maxLen; omega) (by omega) (by first | exact Nat.le_trans hwz hz4 | (show w.heap.size ≤ V1.heap.size; omega)) (n3 + m) rfl ?_); intro a6 p6 V2 o6 gr6 at6; have hg6 := (Stay.grown o5 (by exact gr6)).cells (by exact hg4) (by decide); obtain ⟨z10, z11, z12, z13, z14, z15, z16, _⟩ := box7_cells hg6; rw [byteCells_app] at o6; have hz6 : V1.heap.size ≤ V2.heap.size := gr6.size)
      | ((rw [if_pos (by rfl)]; go_simp; go_at_call 50; (with_reducible refine (num_s w.heap.size (n3 + m) p6 a6 (L ++ C) i _ (by first | exact o6 | exact o6.drew) (by rw [List.length_append, l3, HM.out]) (by first | exact Nat.le_trans hwz (Nat.le_trans hz4 hz6) | (show w.heap.size ≤ V2.heap.size; omega)) (by omega) (by omega)).mono ?_); rintro e7 V3 ⟨a7, n7, p7, rfl, l7, o7, b7, y7⟩; go_simp)))
    all_goals (
      have k1 : Below w.heap.size wc V1 := by first | exact b4.mono hwz | exact (Below.refl _ wc).drew.trans (b4.mono hwz)
      have k2 : Below w.heap.size w V2 := by first | exact below_grown (b3.trans k1) (Nat.le_refl _) o5 gr6 | exact below_grown (b3.trans k1).drew (Nat.le_refl _) o5.drew gr6
      have k3 : Below w.heap.size w V3 := by first | exact k2.trans b7 | exact k2.drew.trans b7
      have HF := Lib.hid (show OutPost w.heap.size (encE ⟨s, v, d, ⟨tw, tl, tn⟩, i⟩) w (.returned (.slice a7 n7 p7)) V3 from by
        rw [HR.out]
        have e : evC ⟨s, v, d, ⟨tw, tl, tn⟩, i⟩ = L ++ C ++ uv i := by
          rw [HL.out, HC.out]
          simp [evC]
        rw [e]
        exact ⟨a7, n7, p7, rfl, l7, o7, k3, Stay.of_below k3⟩)
      clear o7 l7 b7 y7 k1 k2 k3 o6 gr6 at6 hg6 o5 o4 b4 hg4
      go_wp2
      go_ret
      exact HF.out)

end Go.Proofs.Ytggognmbjgkdfaa
