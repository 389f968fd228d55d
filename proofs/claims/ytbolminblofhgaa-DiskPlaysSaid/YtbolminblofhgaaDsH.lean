/-
  Package disk: Sync, Remove.
-/
import Derived.Test.YtbolminblofhgaaDsG
import Derived.StillTailTactics
set_option linter.unusedVariables false
namespace Go.Proofs.Ytbolminblofhgaa
open Go.RowKit

def syncL (nm : ByteArray) (L : List RF) : Int × List RF := match getL nm L with | none => (4, L) | some f => (0, putL ⟨nm, f.b, f.b.length⟩ L)
theorem ImR.deleted {w w' : World} {B g : Nat} {mv : Value} {Q : List (Value × RF)} {u : Int} {C : CD} (h : ImR w B g mv Q u C) (nm : ByteArray) (hm : MapAt w' B mv (delQ nm Q)) (hk : Kept (fun k => mv = .map (some k)) w w') : ImR w' B g mv (delQ nm Q) u (C.setL (delL nm C.L)) :=
  ⟨h.1, by rw [delQ_snd, h.2.1]; rfl, (hk.block g h.lt h.mapNe).trans h.2.2.1, hm, fun q hq => Kept.own (h.2.2.2.2.1 q (mem_delQ hq).1) hk (fun k e => (h.ownNe q (mem_delQ hq).1).2 k e), h.2.2.2.2.2.filter _⟩
def remL (nm : ByteArray) (L : List RF) : Int × List RF := match getL nm L with | none => (4, L) | some _ => (0, delL nm L)

set_option maxHeartbeats 2000000 in
set_option maxRecDepth 100000 in
theorem dSync_9 (w : World) (B g : Nat) (mv : Value) (Q : List (Value × RF)) (C : CD) (nm : ByteArray) (cA : Calls Try.prog 43 #[.pointer (some ⟨g, 0, none⟩), .string nm] w (AtPost w B g mv Q (tot C.L) C file0 9)) :
    Calls Try.prog 17 #[.pointer (some ⟨g, 0, none⟩), .string nm] w (ImRes w B g mv Q (9, C.op)) := by
  go_enter Try.func17, Try.ntmps17
  go_wp2_with (go_at_call 43; (with_reducible refine cA.mono ?_))
  rintro e W1 ⟨rfl, h1, k1⟩
  have H1 := Lib.hid h1
  clear h1 cA
  unfold file0
  go_wp2
  go_ret
  exact ⟨mv, Q, rfl, H1.out.alloc _, (k1.mono (T := ImS g mv Q) (fun k _ e => .inl e)).alloc _, fun k e => .inl e⟩

set_option maxHeartbeats 2000000 in
set_option maxRecDepth 100000 in
theorem dSync_4 (w : World) (B g : Nat) (mv : Value) (Q : List (Value × RF)) (C : CD) (nm : ByteArray) (cA : Calls Try.prog 43 #[.pointer (some ⟨g, 0, none⟩), .string nm] w (AtPost w B g mv Q (tot C.L) C file0 4)) :
    Calls Try.prog 17 #[.pointer (some ⟨g, 0, none⟩), .string nm] w (ImRes w B g mv Q (4, C.op)) := by
  go_enter Try.func17, Try.ntmps17
  go_wp2_with (go_at_call 43; (with_reducible refine cA.mono ?_))
  rintro e W1 ⟨rfl, h1, k1⟩
  have H1 := Lib.hid h1
  clear h1 cA
  unfold file0
  go_wp2
  go_ret
  exact ⟨mv, Q, rfl, H1.out.alloc _, (k1.mono (T := ImS g mv Q) (fun k _ e => .inl e)).alloc _, fun k e => .inl e⟩

set_option maxHeartbeats 2000000 in
set_option maxRecDepth 100000 in
theorem dRemove_9 (w : World) (B g : Nat) (mv : Value) (Q : List (Value × RF)) (C : CD) (nm : ByteArray) (cA : Calls Try.prog 43 #[.pointer (some ⟨g, 0, none⟩), .string nm] w (AtPost w B g mv Q (tot C.L) C file0 9)) :
    Calls Try.prog 27 #[.pointer (some ⟨g, 0, none⟩), .string nm] w (ImRes w B g mv Q (9, C.op)) := by
  go_enter Try.func27, Try.ntmps27
  go_wp2_with (go_at_call 43; (with_reducible refine cA.mono ?_))
  rintro e W1 ⟨rfl, h1, k1⟩
  have H1 := Lib.hid h1
  clear h1 cA
  unfold file0
  go_wp2
  go_ret
  exact ⟨mv, Q, rfl, H1.out.alloc _, (k1.mono (T := ImS g mv Q) (fun k _ e => .inl e)).alloc _, fun k e => .inl e⟩

set_option maxHeartbeats 2000000 in
set_option maxRecDepth 100000 in
theorem dRemove_4 (w : World) (B g : Nat) (mv : Value) (Q : List (Value × RF)) (C : CD) (nm : ByteArray) (cA : Calls Try.prog 43 #[.pointer (some ⟨g, 0, none⟩), .string nm] w (AtPost w B g mv Q (tot C.L) C file0 4)) :
    Calls Try.prog 27 #[.pointer (some ⟨g, 0, none⟩), .string nm] w (ImRes w B g mv Q (4, C.op)) := by
  go_enter Try.func27, Try.ntmps27
  go_wp2_with (go_at_call 43; (with_reducible refine cA.mono ?_))
  rintro e W1 ⟨rfl, h1, k1⟩
  have H1 := Lib.hid h1
  clear h1 cA
  unfold file0
  go_wp2
  go_ret
  exact ⟨mv, Q, rfl, H1.out.alloc _, (k1.mono (T := ImS g mv Q) (fun k _ e => .inl e)).alloc _, fun k e => .inl e⟩

set_option maxHeartbeats 4000000 in
set_option maxRecDepth 100000 in
theorem dSync_ok (w : World) (B g : Nat) (mv : Value) (Q : List (Value × RF)) (C : CD) (nm : ByteArray) (h : ImAt w B g mv Q C) (hi : Inv C) (hn : C.n ≤ 1000000) (hnm : nm.size ≤ 1000000) (hB : B ≤ w.heap.size) (ho : offC C = false) (a0 : Option Addr) (n0 k0 s0 : Nat) (f : RF) (hfs : f.s = s0) (hg : getQ nm Q = some (.slice a0 n0 k0, f)) (hl0 : f.b.length = n0) :
    Calls Try.prog 17 #[.pointer (some ⟨g, 0, none⟩), .string nm] w (ImRes w B g mv Q (0, C.op.setL (putL ⟨nm, f.b, n0⟩ C.L))) := by
  have cA := dAt_some w B g mv Q _ C nm h hi hn hnm ho a0 n0 k0 s0 f hfs hg
  have hQL : Q.length ≤ 3000 := by have e := congrArg List.length h.2.1; rw [List.length_map] at e; rw [e]; exact hi.len
  have hroom := hi.room
  have htot := hi.tot
  have hr := h.rise
  have hgl : getL nm C.L = some f := by
    have := getQ_snd nm Q
    rw [h.2.1, hg] at this; exact this.symm
  have hfl : f.b.length ≤ tot C.L := by have := (tot_del nm hr.ne).1; rw [hgl] at this; simp only at this; omega
  obtain ⟨hqm, hqn⟩ := getQ_mem hg
  have HH := Lib.hid h
  have HG := Lib.hid hgl
  have HM := Lib.hid hqm
  have HN := Lib.hid hqn
  have H0 := Lib.hid hl0
  clear h hi hg hgl hqm hqn hfs hl0
  obtain ⟨u, hu⟩ : ∃ x : Int, x = tot C.L := ⟨_, rfl⟩
  have bu0 : (n0 : Int) ≤ u := by rw [← H0.out]; omega
  have bu1 : u ≤ 8388608 := by omega
  have HU := Lib.hid hu
  clear hu
  go_enter Try.func17, Try.ntmps17
  go_wp2_with (go_at_call 43; (with_reducible refine cA.mono ?_))
  rintro e W1 ⟨rfl, h1, k1⟩
  have h2 := h1.alloc (.cells #[.slice a0 n0 k0, .int .i64 n0] 77)
  have k2 := k1.alloc (.cells #[.slice a0 n0 k0, .int .i64 n0] 77)
  have hP : PutPre (W1.alloc (.cells #[.slice a0 n0 k0, .int .i64 n0] 77)) B g mv Q (tot C.L) C.op (.slice a0 n0 k0, ⟨nm, f.b, n0⟩) := by
    refine ⟨h2.1, h2.2.1, h2.2.2.1, h2.2.2.2.1, fun p hp => h2.2.2.2.2.1 p (mem_delQ hp).1, h2.2.2.2.2.2.filter _, (by have := h2.2.2.2.2.1 _ HM.out; exact this), fun p hp k hk => ?_⟩
    refine h2.2.2.2.2.2.of (mem_delQ hp).1 HM.out (fun e => (mem_delQ hp).2 ?_) k hk
    rw [e]; exact HN.out
  have cP := dPut _ B g mv Q (tot C.L) C.op a0 n0 k0 n0 nm f.b hP hnm (by omega) (Nat.le_trans hB k2.size)
  clear h2 hP h1 cA
  go_wp2_with (go_at_call 42; (with_reducible refine cP.mono ?_))
  rintro e W7 ⟨mv7, rfl, h7, k7, n7⟩
  have H7 := Lib.hid h7
  clear h7 cP
  go_wp2
  go_ret
  have ht : tot (putL ⟨nm, f.b, n0⟩ C.L) = tot C.L := by
    have := (put_tot hr ⟨nm, f.b, n0⟩).1
    simp only [HG.out] at this
    omega
  have hf := H7.out
  rw [← ht] at hf
  have z2 := k2.size
  refine ⟨mv7, _, rfl, hf, (k2.mono (T := ImS g mv Q) (fun k _ e => .inl e)).trans k7 (fun k _ e => ?_), ?_⟩
  · rcases e with e | e
    · exact .inl e
    · exact .inr (.inl e)
  · rintro k (e | e | ⟨p, hp, e⟩)
    · exact .inl (.inl e)
    · rcases n7 k e with e | e
      · exact .inl (.inr (.inl e))
      · exact .inr (Nat.le_trans z2 e)
    · rcases mem_putQ hp with rfl | ⟨hp, _⟩
      · exact .inl (.inr (.inr ⟨_, HM.out, e⟩))
      · exact .inl (.inr (.inr ⟨p, hp, e⟩))

set_option maxHeartbeats 4000000 in
set_option maxRecDepth 100000 in
theorem dRemove_ok (w : World) (B g : Nat) (mv : Value) (Q : List (Value × RF)) (C : CD) (nm : ByteArray) (h : ImAt w B g mv Q C) (hi : Inv C) (hn : C.n ≤ 1000000) (hnm : nm.size ≤ 1000000) (hB : B ≤ w.heap.size) (ho : offC C = false) (a0 : Option Addr) (n0 k0 s0 : Nat) (f : RF) (hfs : f.s = s0) (hg : getQ nm Q = some (.slice a0 n0 k0, f)) (hl0 : f.b.length = n0) :
    Calls Try.prog 27 #[.pointer (some ⟨g, 0, none⟩), .string nm] w (ImRes w B g mv Q (0, C.op.setL (delL nm C.L))) := by
  have cA := dAt_some w B g mv Q _ C nm h hi hn hnm ho a0 n0 k0 s0 f hfs hg
  have hQL : Q.length ≤ 3000 := by have e := congrArg List.length h.2.1; rw [List.length_map] at e; rw [e]; exact hi.len
  have hroom := hi.room
  have htot := hi.tot
  have hr := h.rise
  have hgl : getL nm C.L = some f := by
    have := getQ_snd nm Q
    rw [h.2.1, hg] at this; exact this.symm
  have hfl : f.b.length ≤ tot C.L := by have := (tot_del nm hr.ne).1; rw [hgl] at this; simp only at this; omega
  obtain ⟨hqm, hqn⟩ := getQ_mem hg
  have HH := Lib.hid h
  have HG := Lib.hid hgl
  have HM := Lib.hid hqm
  have HN := Lib.hid hqn
  have H0 := Lib.hid hl0
  clear h hi hg hgl hqm hqn hfs hl0
  obtain ⟨u, hu⟩ : ∃ x : Int, x = tot C.L := ⟨_, rfl⟩
  have bu0 : (n0 : Int) ≤ u := by rw [← H0.out]; omega
  have bu1 : u ≤ 8388608 := by omega
  have HU := Lib.hid hu
  clear hu
  go_enter Try.func27, Try.ntmps27
  go_wp2_with (go_at_call 43; (with_reducible refine cA.mono ?_))
  rintro e W1 ⟨rfl, h1, k1⟩
  obtain ⟨W2, hW2⟩ : ∃ W, W = W1.alloc (.cells #[.slice a0 n0 k0, .int .i64 s0] 77) := ⟨_, rfl⟩
  have h2 : ImR W2 B g mv Q (tot C.L) C.op := by rw [hW2]; exact h1.alloc _
  have k2 : Kept (fun k => k = g) w W2 := by rw [hW2]; exact k1.alloc _
  have r2 : W2.heap[W1.heap.size]? = some (.cells #[.slice a0 n0 k0, .int .i64 s0] 77 (0, 0)) := by rw [hW2]; exact heap_alloc_new W1 _
  obtain ⟨x0, x1, _, _⟩ := pair_cells r2
  clear h1 k1
  go_wp2
  rw [← hW2]
  clear hW2 r2
  obtain ⟨t0, t1, t2, _, _, _⟩ := h2.cell
  have f1 := h2.frozen 1
  rw [← HU.out] at t1
  have hw : IntKind.i64.wrap (u - n0) = u - n0 := IntWalk.i64_in _ (by omega)
  have hw2 : wrap64 (u - n0) = u - n0 := IntWalk.wrap64_in _ (by omega)
  have H2 := Lib.hid h2
  clear h2 cA
  go_still_tail 10, (by kernel_rfl)
  change wpList _ _ _ _ _ W2.drew
  have h3 := ((H2.out.set 1 (.int .i64 (u - n0)) (u' := u - n0) (C' := C.op) rfl rfl).drew)
  obtain ⟨W4, hdel, m4, k4, z4⟩ := h3.2.2.2.1.drop nm (by unfold maxLen; omega) 0
  have H4 := Lib.hid (h3.deleted nm m4 k4)
  have k3 : Kept (fun k => k = g) w (W2.setCell ⟨g, 1, none⟩ (.int .i64 (u - n0))).drew := (k2.setCell (p := ⟨g, 1, none⟩) (fun _ => rfl) _).drew
  clear h3 m4
  go_wp2
  go_ret
  have ht : u - n0 = (tot (delL nm C.L) : Nat) := by
    have := (tot_del nm hr.ne).1
    simp only [HG.out, H0.out] at this
    rw [HU.out]; omega
  have hf := H4.out
  rw [ht] at hf
  refine ⟨mv, delQ nm Q, rfl, hf, (k3.mono (T := ImS g mv Q) (fun k _ e => .inl e)).trans k4 (fun k _ e => .inr (.inl e)), ?_⟩
  rintro k (e | e | ⟨p, hp, e⟩)
  · exact .inl (.inl e)
  · exact .inl (.inr (.inl e))
  · exact .inl (.inr (.inr ⟨p, (mem_delQ hp).1, e⟩))

end Go.Proofs.Ytbolminblofhgaa
