/-
  Package event's DecodeEvent.
-/
import Derived.Test.YtggognmbjgkdfaaRdB
import Derived.Test.YtggognmbjgkdfaaEnA
set_option linter.unusedVariables false
namespace Go.Proofs.Ytggognmbjgkdfaa
open Go.RowKit

theorem rd_start {w w' : World} {g : Nat} {a : Option Addr} {n c : Nat} {l : List UInt8} (hb : Bts w a l) (hl : l.length = n) (hc : n ≤ c) (hn : n ≤ 1000000) (hg : w.heap.size ≤ g) (hB : Below w.heap.size w w') (hx : w'.heap[g]? = some (.cells #[.slice a n c, .bool false] 106 (0, 0))) : RdAt w' g a n c l false :=
  ⟨hx, hb.later hB, hl, hc, fun h x e => Nat.lt_of_lt_of_le (hb.lt h x e) hg, hn, fun e => by cases e⟩

theorem drew_box {W : World} {g : Nat} {o : Obj} (h : W.heap[g]? = some o) : W.drew.heap[g]? = some o := h
theorem set7_other {W : World} {g k : Nat} {o : Obj} (h : W.heap[k]? = some o) (hk : k ≠ g) (b0 b1 b2 b3 b4 b5 b6 : Value) : (((((((W.setCell ⟨g, 0, none⟩ b0).setCell ⟨g, 1, none⟩ b1).setCell ⟨g, 2, none⟩ b2).setCell ⟨g, 3, none⟩ b3).setCell ⟨g, 4, none⟩ b4).setCell ⟨g, 5, none⟩ b5).setCell ⟨g, 6, none⟩ b6).heap[k]? = some o := by
  have e0 := box_other' h ⟨g, 0, none⟩ hk b0
  have e1 := box_other' e0 ⟨g, 1, none⟩ hk b1
  have e2 := box_other' e1 ⟨g, 2, none⟩ hk b2
  have e3 := box_other' e2 ⟨g, 3, none⟩ hk b3
  have e4 := box_other' e3 ⟨g, 4, none⟩ hk b4
  have e5 := box_other' e4 ⟨g, 5, none⟩ hk b5
  exact box_other' e5 ⟨g, 6, none⟩ hk b6
theorem below7 {B g : Nat} {w W : World} (h : Below B w W) (hg : B ≤ g) (b0 b1 b2 b3 b4 b5 b6 : Value) : Below B w (((((((W.setCell ⟨g, 0, none⟩ b0).setCell ⟨g, 1, none⟩ b1).setCell ⟨g, 2, none⟩ b2).setCell ⟨g, 3, none⟩ b3).setCell ⟨g, 4, none⟩ b4).setCell ⟨g, 5, none⟩ b5).setCell ⟨g, 6, none⟩ b6) :=
  ((((((h.setCell (by exact hg) b0).setCell (by exact hg) b1).setCell (by exact hg) b2).setCell (by exact hg) b3).setCell (by exact hg) b4).setCell (by exact hg) b5).setCell (by exact hg) b6

def ev0 : Ev := ⟨⟨#[]⟩, 0, ⟨#[]⟩, ⟨0, 0, 0⟩, 0⟩
def DecEPost (o : Option (Ev × Nat)) (w : World) (e : Ending) (w' : World) : Prop :=
  e = .returned (.tuple #[evV (o.getD (ev0, 0)).1, .int .i64 (o.getD (ev0, 0)).2, .int .i64 (if o.isSome then 0 else 10)]) ∧ Below w.heap.size w w'

/-- Behind the reading. -/
structure DeMid (w W : World) (l : List UInt8) (x : Ev) (l1 : List UInt8) (bad : Bool) (a1 : Option Addr) (n1 c1 : Nat) : Prop where
  ok : Ok (gEvent U64 U64) l x l1 false bad
  box : W.heap[w.heap.size]? = some (.cells #[.string x.s, .int .i64 x.v, .string x.d, .int .i64 x.t.w, .int .i64 x.t.l, .int .i64 x.t.n, .int .i64 x.i] 42 (0, 0))
  rd : W.heap[w.heap.size + 1]? = some (.cells #[.slice a1 n1 c1, .bool bad] 106 (0, 0))
  len : l1.length = n1
  below : Below w.heap.size w W

set_option maxHeartbeats 8000000 in
set_option maxRecDepth 100000 in
theorem decodeE_any (a : Option Addr) (n c : Nat) (l : List UInt8) (w : World) (hl : l.length = n) (hn : n ≤ 80000) (hnc : n ≤ c) (h : Bts w a l) :
    Calls Try.prog 54 #[.slice a n c, .func (.func 55) #[] #[], .func (.func 56) #[] #[]] w (DecEPost (decE l) w) := by
  have b1 := (Below.refl w.heap.size w).alloc (Nat.le_refl _) (.cells #[.string ⟨#[]⟩, .int .i64 0, .string ⟨#[]⟩, .int .i64 0, .int .i64 0, .int .i64 0, .int .i64 0] 42)
  have b2 := b1.alloc b1.size (.cells #[.slice a n c, .bool false] 106)
  have g1 := box_alloc (heap_alloc_new w (.cells #[.string ⟨#[]⟩, .int .i64 0, .string ⟨#[]⟩, .int .i64 0, .int .i64 0, .int .i64 0, .int .i64 0] 42)) (.cells #[.slice a n c, .bool false] 106)
  have g2 := heap_alloc_new (w.alloc (.cells #[.string ⟨#[]⟩, .int .i64 0, .string ⟨#[]⟩, .int .i64 0, .int .i64 0, .int .i64 0, .int .i64 0] 42)) (.cells #[.slice a n c, .bool false] 106)
  rw [World.size_alloc] at g2
  have hR := rd_start h hl hnc (by omega) (by omega) b2 g2
  have cE := event_any _ a n c l false _ hR
  have HB2 := Lib.hid b2
  have HG1 := Lib.hid g1
  have HL := Lib.hid hl
  clear b1 b2 g1 g2 hR h hl
  go_enter Try.func54, Try.ntmps54
  go_upto_region 2 with fail
  go_cut [16] (fun s16 wx => ∃ x l1 bad a1 n1 c1, DeMid w wx l x l1 bad a1 n1 c1)
  case first =>
    go_wp2_with (go_at_call 55; (with_reducible refine cE.mono ?_))
    rintro e W1 ⟨x1, l1, bad, rfl, k1, t1⟩
    unfold evV
    obtain ⟨a1, n1, c1, r1, kp1⟩ := t1
    have z1 : w.heap.size + 2 ≤ W1.heap.size := by have := kp1.size; simpa using this
    have G1 : W1.heap[w.heap.size]? = _ := (kp1.block w.heap.size (lt_of_block HG1.out) (fun e => by omega)).trans HG1.out
    have B1 : Below w.heap.size w W1 := (HB2.out.trans (kp1.below (by have := HB2.out.size; exact this) (fun k e => by omega)))
    obtain ⟨_, _, _, _, _, _, _, f0, f1, f2, f3, f4, f5, f6⟩ := box7_cells G1
    have HM := Lib.hid (show DeMid w _ l x1 l1 bad a1 n1 c1 from ⟨k1, set7 G1 (.string x1.s) (.int .i64 x1.v) (.string x1.d) (.int .i64 x1.t.w) (.int .i64 x1.t.l) (.int .i64 x1.t.n) (.int .i64 x1.i), set7_other r1.box (show w.heap.size + 1 ≠ w.heap.size by omega) (.string x1.s) (.int .i64 x1.v) (.string x1.d) (.int .i64 x1.t.w) (.int .i64 x1.t.l) (.int .i64 x1.t.n) (.int .i64 x1.i), r1.len, below7 B1 (Nat.le_refl w.heap.size) (.string x1.s) (.int .i64 x1.v) (.string x1.d) (.int .i64 x1.t.w) (.int .i64 x1.t.l) (.int .i64 x1.t.n) (.int .i64 x1.i)⟩)
    clear kp1 G1 B1 r1 k1 cE
    go_wp2_with fail
    go_meet
    exact ⟨x1, l1, bad, a1, n1, c1, HM.out⟩
  case rest =>
    obtain ⟨x, l1, bad, a1, n1, c1, hm⟩ := hcut
    have HM := Lib.hid hm
    obtain ⟨x0, x1, x2, x3, x4, x5, x6, y0, y1, y2, y3, y4, y5, y6⟩ := box7_cells hm.box
    obtain ⟨u0, u1, _, _⟩ := box2_cells hm.rd
    have hk := hm.ok
    clear hm cE HG1 HB2
    rcases hk with ⟨p1, rfl⟩ | ⟨p1, rfl, rfl⟩
    case inr =>
      have HD : Hid (decE l = none) := by show told _ _ _ = _; rw [p1]; rfl
      clear p1 x0 x1 x2 x3 x4 x5 x6 y0 y1 y2 y3 y4 y5 y6 u0
      have hN := heap_alloc_new wc (.cells #[.string ⟨#[]⟩, .int .i64 0, .string ⟨#[]⟩, .int .i64 0, .int .i64 0, .int .i64 0, .int .i64 0] 42)
      have hO := box_alloc HM.out.box (.cells #[.string ⟨#[]⟩, .int .i64 0, .string ⟨#[]⟩, .int .i64 0, .int .i64 0, .int .i64 0, .int .i64 0] 42)
      obtain ⟨n0, n1, n2, n3, n4, n5, n6, _⟩ := box7_cells hN
      obtain ⟨_, _, _, _, _, _, _, y0, y1, y2, y3, y4, y5, y6⟩ := box7_cells hO
      have hF := set7 hO (.string ⟨#[]⟩) (.int .i64 0) (.string ⟨#[]⟩) (.int .i64 0) (.int .i64 0) (.int .i64 0) (.int .i64 0)
      obtain ⟨r0, r1, r2, r3, r4, r5, r6, _⟩ := box7_cells hF
      have HB := Lib.hid (below7 (HM.out.below.alloc HM.out.below.size (.cells #[.string ⟨#[]⟩, .int .i64 0, .string ⟨#[]⟩, .int .i64 0, .int .i64 0, .int .i64 0, .int .i64 0] 42)) (Nat.le_refl w.heap.size) (.string ⟨#[]⟩) (.int .i64 0) (.string ⟨#[]⟩) (.int .i64 0) (.int .i64 0) (.int .i64 0) (.int .i64 0))
      clear hN hO hF
      go_wp2
      refine bodyPost_ret (v := .tuple #[evV ev0, .int .i64 0, .int .i64 10]) (by simp [results, evV, ev0, Try.results54, go_sem, r0, r1, r2, r3, r4, r5, r6]) rfl ?_
      exact ⟨by rw [HD.out]; rfl, HB.out⟩
    case inl =>
      have hsz := gEvent_size _ _ _ _ _ p1
      rw [HL.out] at hsz
      have hss : x.s.size ≤ maxLen ∧ x.d.size ≤ maxLen := by unfold evSum at hsz; unfold maxLen; omega
      have cI := isEvent_any x wc hss.1 hss.2
      have hln := HM.out.len
      have hD : decE l = if evOk x = true then some (x, l.length - l1.length) else none := by show told _ _ _ = _; rw [p1]; rfl
      have HD := Lib.hid hD
      have hn1 : n1 ≤ n := by omega
      clear hD p1 hsz hss
      cases hok : evOk x with
      | false =>
        rw [hok] at cI
        have HD2 : Hid (decE l = none) := by show _ = _; rw [HD.out, if_neg (by rw [hok]; simp)]
        clear HD hok
        go_wp2_with (go_at_call 56; (with_reducible refine cI.mono ?_))
        rintro e W2 ⟨rfl, b2⟩
        have hG2 := nb b2 HM.out.box
        have HB2 := HM.out.below.trans (b2.mono HM.out.below.size)
        have hN := heap_alloc_new W2 (.cells #[.string ⟨#[]⟩, .int .i64 0, .string ⟨#[]⟩, .int .i64 0, .int .i64 0, .int .i64 0, .int .i64 0] 42)
        have hO := box_alloc hG2 (.cells #[.string ⟨#[]⟩, .int .i64 0, .string ⟨#[]⟩, .int .i64 0, .int .i64 0, .int .i64 0, .int .i64 0] 42)
        obtain ⟨n0, n1, n2, n3, n4, n5, n6, _⟩ := box7_cells hN
        obtain ⟨_, _, _, _, _, _, _, y0, y1, y2, y3, y4, y5, y6⟩ := box7_cells hO
        have hF := set7 hO (.string ⟨#[]⟩) (.int .i64 0) (.string ⟨#[]⟩) (.int .i64 0) (.int .i64 0) (.int .i64 0) (.int .i64 0)
        obtain ⟨r0, r1, r2, r3, r4, r5, r6, _⟩ := box7_cells hF
        have HB := Lib.hid (below7 (HB2.alloc HB2.size (.cells #[.string ⟨#[]⟩, .int .i64 0, .string ⟨#[]⟩, .int .i64 0, .int .i64 0, .int .i64 0, .int .i64 0] 42)) (Nat.le_refl w.heap.size) (.string ⟨#[]⟩) (.int .i64 0) (.string ⟨#[]⟩) (.int .i64 0) (.int .i64 0) (.int .i64 0) (.int .i64 0))
        clear hN hO hF HB2 hG2 b2 cI
        go_wp2
        refine bodyPost_ret (v := .tuple #[evV ev0, .int .i64 0, .int .i64 10]) (by simp [results, evV, ev0, Try.results54, go_sem, r0, r1, r2, r3, r4, r5, r6]) rfl ?_
        exact ⟨by rw [HD2.out]; rfl, HB.out⟩
      | true =>
        rw [hok] at cI
        have HD2 : Hid (decE l = some (x, n - n1)) := by show _ = _; rw [HD.out, if_pos hok, HL.out, hln]
        clear HD hok
        go_wp2_with (go_at_call 56; (with_reducible refine cI.mono ?_))
        rintro e W2 ⟨rfl, b2⟩
        have hG2 := nb b2 HM.out.box
        have hR2 := nb b2 HM.out.rd
        have HB2 := Lib.hid (HM.out.below.trans (b2.mono HM.out.below.size))
        obtain ⟨x0, x1, x2, x3, x4, x5, x6, y0, y1, y2, y3, y4, y5, y6⟩ := box7_cells hG2
        obtain ⟨u0, u1, _, _⟩ := box2_cells hR2
        clear b2 cI
        have hw : IntKind.i64.wrap ((n : Int) - (n1 : Int)) = ((n - n1 : Nat) : Int) := by rw [show (n : Int) - (n1 : Int) = ((n - n1 : Nat) : Int) by omega]; exact IntWalk.i64_in _ (by omega)
        have hw2 : wrap64 ((n : Int) - (n1 : Int)) = ((n - n1 : Nat) : Int) := by rw [show (n : Int) - (n1 : Int) = ((n - n1 : Nat) : Int) by omega]; exact IntWalk.wrap64_in _ (by omega)
        go_wp2_with fail
        go_region
        have hF := set7 hG2 (.string x.s) (.int .i64 x.v) (.string x.d) (.int .i64 x.t.w) (.int .i64 x.t.l) (.int .i64 x.t.n) (.int .i64 x.i)
        have hFd := drew_box hF
        obtain ⟨r0, r1, r2, r3, r4, r5, r6, _⟩ := box7_cells hFd
        have HB := Lib.hid (below7 HB2.out (Nat.le_refl w.heap.size) (.string x.s) (.int .i64 x.v) (.string x.d) (.int .i64 x.t.w) (.int .i64 x.t.l) (.int .i64 x.t.n) (.int .i64 x.i)).drew
        clear hF hFd
        go_wp2
        refine bodyPost_ret (v := .tuple #[evV x, .int .i64 ((n - n1 : Nat) : Int), .int .i64 0]) (by simp [results, evV, Try.results54, go_sem, r0, r1, r2, r3, r4, r5, r6]) rfl ?_
        exact ⟨by rw [HD2.out]; rfl, HB.out⟩

set_option maxHeartbeats 4000000 in
set_option maxRecDepth 100000 in
theorem DecodeEvent_any (a : Option Addr) (n c : Nat) (l : List UInt8) (w : World) (hl : l.length = n) (hn : n ≤ 80000) (hnc : n ≤ c) (h : Bts w a l) :
    Calls Try.prog 21 #[.slice a n c] w (DecEPost (decE l) w) := by
  have b1 := (Below.refl w.heap.size w).alloc (Nat.le_refl _) (.cells #[.string ⟨#[]⟩, .int .i64 0, .string ⟨#[]⟩, .int .i64 0, .int .i64 0, .int .i64 0, .int .i64 0] 42)
  have g1 := heap_alloc_new w (.cells #[.string ⟨#[]⟩, .int .i64 0, .string ⟨#[]⟩, .int .i64 0, .int .i64 0, .int .i64 0, .int .i64 0] 42)
  have cD := decodeE_any a n c l _ hl hn hnc (h.later b1)
  have HE := Lib.hid (show ∀ W e, e = .returned (.tuple #[evV ((decE l).getD (ev0, 0)).1, .int .i64 ((decE l).getD (ev0, 0)).2, .int .i64 (if (decE l).isSome then 0 else 10)]) → Below w.heap.size w W → DecEPost (decE l) w e W from fun W e h1 h2 => ⟨h1, h2⟩)
  unfold DecEPost at cD
  obtain ⟨er, her⟩ : ∃ er : Int, er = (if (decE l).isSome then 0 else 10) := ⟨_, rfl⟩
  obtain ⟨k, hk⟩ : ∃ k : Nat, k = ((decE l).getD (ev0, 0)).2 := ⟨_, rfl⟩
  obtain ⟨x, hx⟩ : ∃ x, x = ((decE l).getD (ev0, 0)).1 := ⟨_, rfl⟩
  rw [← her, ← hk, ← hx] at cD HE
  have cD2 : Calls Try.prog 54 #[.slice a n c, .func (.func 55) #[] #[], .func (.func 56) #[] #[]] (w.alloc (.cells #[.string ⟨#[]⟩, .int .i64 0, .string ⟨#[]⟩, .int .i64 0, .int .i64 0, .int .i64 0, .int .i64 0] 42)) (TelPost (.tuple #[evV x, .int .i64 k, .int .i64 er]) (w.alloc (.cells #[.string ⟨#[]⟩, .int .i64 0, .string ⟨#[]⟩, .int .i64 0, .int .i64 0, .int .i64 0, .int .i64 0] 42))) := cD
  have HB1 := Lib.hid b1
  have HG1 := Lib.hid g1
  clear b1 g1 her hk hx hl hn hnc h cD
  go_enter Try.func21, Try.ntmps21
  go_wp2_with (go_at_call 54; (with_reducible refine cD2.mono ?_))
  rintro e W2 ⟨rfl, b2⟩
  unfold evV
  have hG2 := nb b2 HG1.out
  obtain ⟨_, _, _, _, _, _, _, y0, y1, y2, y3, y4, y5, y6⟩ := box7_cells hG2
  have hF := set7 hG2 (.string x.s) (.int .i64 x.v) (.string x.d) (.int .i64 x.t.w) (.int .i64 x.t.l) (.int .i64 x.t.n) (.int .i64 x.i)
  obtain ⟨r0, r1, r2, r3, r4, r5, r6, _⟩ := box7_cells hF
  have HB := Lib.hid (below7 (HB1.out.trans (b2.mono HB1.out.size)) (Nat.le_refl w.heap.size) (.string x.s) (.int .i64 x.v) (.string x.d) (.int .i64 x.t.w) (.int .i64 x.t.l) (.int .i64 x.t.n) (.int .i64 x.i))
  clear hF hG2 b2 cD2
  go_wp2
  refine bodyPost_ret (v := .tuple #[evV x, .int .i64 (k : Int), .int .i64 er]) (by simp [results, evV, Try.results21, go_sem, r0, r1, r2, r3, r4, r5, r6]) rfl ?_
  exact HE.out _ _ rfl HB.out

end Go.Proofs.Ytggognmbjgkdfaa
