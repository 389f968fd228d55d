/-
  The walks of DiskNothing, DiskCuts.
-/
import Derived.Test.YtbolminblofhgaaDsN
set_option linter.unusedVariables false
namespace Go.Proofs.Ytbolminblofhgaa
open Go.RowKit

theorem awake5_b (w wx : World) (hb : Below w.heap.size w wx) : Calls Try.prog 10 #[] wx (AwPost w) :=
  (awake5 wx).mono fun e w' h => ⟨h.1, hb.trans (h.2.mono hb.size)⟩

def NilPost (w : World) (v : Value) (e : Ending) (w' : World) : Prop := e = .returned v ∧ Below w.heap.size w w'
theorem nilP {f : Nat} {args : Array Value} {w : World} {v : Value} (h : Calls Try.prog f args w fun e w' => e = .returned v ∧ Below w.heap.size w w') : Calls Try.prog f args w (NilPost w v) := h

set_option maxHeartbeats 4000000 in
set_option maxRecDepth 100000 in
theorem DiskNothing_walk (a0 : ByteArray) (a1 : Int) (w0 : a0.size ≤ maxLen) (w1 : (Lit.int .i64 a1).wf = true) (w : World) :
    Calls Try.prog 7 #[.string a0, .int .i64 a1] w fun e w' => e = .returned (.bool true) ∧ Below w.heap.size w w' := by
  unfold maxLen at w0
  by_cases h0 : 300 < a0.size
  · have h0' : (300 : Int) < (a0.size : Int) := by omega
    have cW := awake5 w
    go_enter Try.func7, Try.ntmps7
    go_wp2_with (go_at_call 10; (with_reducible refine cW.mono ?_))
    rintro e W1 ⟨rfl, hb⟩
    go_wp2
    go_ret
    exact ⟨rfl, hb⟩
  · have h0' : ¬ (300 : Int) < (a0.size : Int) := by omega
    have kc := fun (w : World) (C : Array Value) (n c : Nat) => Lib.run_convert_bytes_const (P := Try.prog) w 39 5 C n c Try.underlying39 Try.underlying5
    have c1 := dCut_nil w a1
    have c2 := nilP (dRead_nil w a0)
    go_enter Try.func7, Try.ntmps7
    go_wp2_with (first | (go_at_call 25; (with_reducible refine c1.mono ?_); rintro e W0 ⟨rfl, rfl⟩) | (go_at_call 19; (with_reducible refine c2.mono ?_)))
    rintro e W1 ⟨rfl, b1⟩
    go_wp2_with (go_at_call 16; (with_reducible refine (nilP (dAppend_nil _ _ _)).mono ?_))
    rintro e W2 ⟨rfl, b2⟩
    have bb2 : Below w.heap.size w W2 := (b1.alloc b1.size _).trans (b2.mono (by have := b1.size; simp; omega))
    clear b2
    go_wp2_with (go_at_call 26; (with_reducible refine (nilP (dRename_nil _ _ _)).mono ?_))
    rintro e W3 ⟨rfl, b3⟩
    have bb3 := bb2.trans (b3.mono bb2.size)
    clear b3
    go_wp2_with (go_at_call 27; (with_reducible refine (nilP (dRemove_nil _ _)).mono ?_))
    rintro e W4 ⟨rfl, b4⟩
    have bb4 := bb3.trans (b4.mono bb3.size)
    clear b4
    go_wp2_with (go_at_call 23; (with_reducible refine (nilP (dNames_nil _)).mono ?_))
    rintro e W5 ⟨rfl, b5⟩
    have bb5 := bb4.trans (b5.mono bb4.size)
    clear b5
    have cW := awake5_b w W5 bb5
    go_wp2_with (first | (go_at_call 24; (with_reducible refine (dOps_nil _).mono ?_); rintro e W6 ⟨rfl, rfl⟩) | (go_at_call 10; (with_reducible refine cW.mono ?_)))
    rintro e W7 ⟨rfl, b7⟩
    go_wp2
    go_ret
    exact ⟨rfl, b7⟩

end Go.Proofs.Ytbolminblofhgaa
