/-
  The reference's DecodeEvent.
-/
import Derived.Test.YtggognmbjgkdfaaEyC
set_option linter.unusedVariables false
namespace Go.Proofs.Ytggognmbjgkdfaa
open Go.RowKit

theorem decE_rev (l : List UInt8) : decE l = (rEv l).map fun a => (a.1, l.length - a.2.length) := by
  rw [← decE_ref]
  unfold told rEv
  cases h : gEvent 1099511627776 160 l with
  | none => rfl
  | some p =>
    show (if evOk p.1 = true then _ else _) = Option.map _ (if evOk p.1 = true then _ else _)
    split <;> rfl

theorem ey_start {w w' : World} {g : Nat} {a : Option Addr} {n c : Nat} {l : List UInt8} (hb : Bts w a l) (hl : l.length = n) (hc : n ≤ c) (hn : n ≤ 1000000) (hg : w.heap.size ≤ g) (hB : Below w.heap.size w w') (hx : w'.heap[g]? = some (.cells #[.slice a n c, .int .i64 0, .bool false] 83 (0, 0))) : EyAt w' g a n c l 0 false :=
  ⟨hx, hb.later hB, hl, hc, fun h x e => Nat.lt_of_lt_of_le (hb.lt h x e) hg, hn, Nat.zero_le _⟩

set_option maxHeartbeats 8000000 in
set_option maxRecDepth 100000 in
theorem rDecodeEvent_any (a : Option Addr) (n c : Nat) (l : List UInt8) (w : World) (hl : l.length = n) (hn : n ≤ 80000) (hnc : n ≤ c) (h : Bts w a l) :
    Calls Try.prog 22 #[.slice a n c] w (DecEPost (decE l) w) := by
  have b1 := (Below.refl w.heap.size w).alloc (Nat.le_refl _) (.cells #[.string ⟨#[]⟩, .int .i64 0, .string ⟨#[]⟩, .int .i64 0, .int .i64 0, .int .i64 0, .int .i64 0] 42)
  have b2 := b1.alloc b1.size (.cells #[.slice a n c, .int .i64 0, .bool false] 83)
  have g1 := box_alloc (heap_alloc_new w (.cells #[.string ⟨#[]⟩, .int .i64 0, .string ⟨#[]⟩, .int .i64 0, .int .i64 0, .int .i64 0, .int .i64 0] 42)) (.cells #[.slice a n c, .int .i64 0, .bool false] 83)
  have g2 := heap_alloc_new (w.alloc (.cells #[.string ⟨#[]⟩, .int .i64 0, .string ⟨#[]⟩, .int .i64 0, .int .i64 0, .int .i64 0, .int .i64 0] 42)) (.cells #[.slice a n c, .int .i64 0, .bool false] 83)
  rw [World.size_alloc] at g2
  have cE := event_e _ a n c l 0 false _ (ey_start h hl hnc (by omega) (by omega) b2 g2) hn
  have HB2 := Lib.hid b2
  have HG1 := Lib.hid g1
  have HL := Lib.hid hl
  clear b1 b2 g1 g2 h hl
  go_enter Try.func22, Try.ntmps22
  go_wp2_with (go_at_call 57; (with_reducible refine cE.mono ?_))
  rintro e W1 ⟨x, I1, b1, rfl, k1, y1, z1⟩
  unfold evV
  have hzz : w.heap.size + 2 ≤ W1.heap.size := by have := z1.size; simpa using this
  have G1 : W1.heap[w.heap.size]? = _ := (z1.block w.heap.size (lt_of_block HG1.out) (fun e => by omega)).trans HG1.out
  have B1 : Below w.heap.size w W1 := (HB2.out.trans (z1.below (by have := HB2.out.size; exact this) (fun k e => by omega)))
  have G1a := box_alloc G1 (.cells #[.string x.s, .int .i64 x.v, .string x.d, .int .i64 x.t.w, .int .i64 x.t.l, .int .i64 x.t.n, .int .i64 x.i] 42)
  have E1a := box_alloc y1.box (.cells #[.string x.s, .int .i64 x.v, .string x.d, .int .i64 x.t.w, .int .i64 x.t.l, .int .i64 x.t.n, .int .i64 x.i] 42)
  have X1a := heap_alloc_new W1 (.cells #[.string x.s, .int .i64 x.v, .string x.d, .int .i64 x.t.w, .int .i64 x.t.l, .int .i64 x.t.n, .int .i64 x.i] 42)
  have HBA := Lib.hid (B1.alloc B1.size (.cells #[.string x.s, .int .i64 x.v, .string x.d, .int .i64 x.t.w, .int .i64 x.t.l, .int .i64 x.t.n, .int .i64 x.i] 42))
  have hI := y1.le
  obtain ⟨p0, p1, p2, p3, p4, p5, p6, f0, f1, f2, f3, f4, f5, f6⟩ := box7_cells G1a
  obtain ⟨e0, e1, e2, _⟩ := box_cells E1a
  obtain ⟨x0, x1, x2, x3, x4, x5, x6, _⟩ := box7_cells X1a
  cases b1 with
  | true =>
    have HD : Hid (decE l = none) := by
      show _ = _
      rw [decE_rev]
      rcases k1 with ⟨_, k, _⟩ | ⟨_, k | k⟩
      · cases k
      · cases k
      · rw [show rEv l = none from k]; rfl
    have hF := set7 G1a (.string ⟨#[]⟩) (.int .i64 0) (.string ⟨#[]⟩) (.int .i64 0) (.int .i64 0) (.int .i64 0) (.int .i64 0)
    obtain ⟨r0, r1, r2, r3, r4, r5, r6, _⟩ := box7_cells hF
    have HB := Lib.hid (below7 HBA.out (Nat.le_refl w.heap.size) (.string ⟨#[]⟩) (.int .i64 0) (.string ⟨#[]⟩) (.int .i64 0) (.int .i64 0) (.int .i64 0) (.int .i64 0))
    clear hF G1 B1 G1a E1a X1a k1 y1 z1 cE
    go_wp2
    refine bodyPost_ret (v := .tuple #[evV ev0, .int .i64 0, .int .i64 10]) (by simp [results, evV, ev0, Try.results22, go_sem, r0, r1, r2, r3, r4, r5, r6]) rfl ?_
    exact ⟨by rw [HD.out]; rfl, HB.out⟩
  | false =>
    have HD : Hid (decE l = some (x, I1)) := by
      show _ = _
      rw [decE_rev]
      rcases k1 with ⟨_, _, k⟩ | ⟨k, _⟩
      · rw [show rEv l = some (x, l.drop I1) from k]
        show some (x, l.length - (l.drop I1).length) = _
        rw [List.length_drop, HL.out, show n - (n - I1) = I1 by omega]
      · cases k
    have HG1a := Lib.hid G1a
    clear G1 B1 G1a E1a X1a k1 y1 z1 cE
    go_wp2_with fail
    go_region
    have hF := set7 HG1a.out (.string x.s) (.int .i64 x.v) (.string x.d) (.int .i64 x.t.w) (.int .i64 x.t.l) (.int .i64 x.t.n) (.int .i64 x.i)
    have hFd := drew_box hF
    obtain ⟨r0, r1, r2, r3, r4, r5, r6, _⟩ := box7_cells hFd
    have HB := Lib.hid (below7 HBA.out (Nat.le_refl w.heap.size) (.string x.s) (.int .i64 x.v) (.string x.d) (.int .i64 x.t.w) (.int .i64 x.t.l) (.int .i64 x.t.n) (.int .i64 x.i)).drew
    clear hF hFd
    go_wp2
    refine bodyPost_ret (v := .tuple #[evV x, .int .i64 (I1 : Int), .int .i64 0]) (by simp [results, evV, Try.results22, go_sem, r0, r1, r2, r3, r4, r5, r6]) rfl ?_
    exact ⟨by rw [HD.out]; rfl, HB.out⟩

end Go.Proofs.Ytggognmbjgkdfaa
