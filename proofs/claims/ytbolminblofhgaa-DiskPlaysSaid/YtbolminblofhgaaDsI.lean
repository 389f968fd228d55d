/-
  Package disk: Rename.
-/
import Derived.Test.YtbolminblofhgaaDsH
set_option linter.unusedVariables false
namespace Go.Proofs.Ytbolminblofhgaa
open Go.RowKit

def renL (nm to : ByteArray) (L : List RF) : Int × List RF := match getL nm L with
  | none => (4, L)
  | some f => if badN to then (1, L) else if nm = to then (0, L) else (0, putL ⟨to, f.b, f.s⟩ (delL nm L))
theorem getL_del {nm to : ByteArray} (h : nm ≠ to) (L : List RF) : getL to (delL nm L) = getL to L := by
  induction L with
  | nil => rfl
  | cons f r ih =>
    unfold getL delL at ih ⊢
    rw [List.filter_cons]
    by_cases e : f.nm = nm
    · rw [if_neg (by simp [e]), ih, List.find?_cons, show decide (f.nm = to) = false by simp; intro e2; exact h (e.symm.trans e2)]
    · rw [if_pos (by simp [e]), List.find?_cons, List.find?_cons]
      cases decide (f.nm = to)
      · exact ih
      · rfl
def oldN (nm : ByteArray) (L : List RF) : Nat := match getL nm L with | some o => o.b.length | none => 0
theorem tot_del2 {L : List RF} (nm : ByteArray) (h : L.Pairwise fun a b => a.nm ≠ b.nm) : tot (delL nm L) + oldN nm L = tot L := (tot_del nm h).1
theorem put_tot2 {L : List RF} (hr : Rise L) (f : RF) : tot (putL f L) + oldN f.nm L = tot L + f.b.length := (put_tot hr f).1
theorem Rise.del {L : List RF} (h : Rise L) (nm : ByteArray) : Rise (delL nm L) := h.filter _

set_option maxHeartbeats 2000000 in
set_option maxRecDepth 100000 in
theorem dRename_9 (w : World) (B g : Nat) (mv : Value) (Q : List (Value × RF)) (C : CD) (nm : ByteArray) (to : ByteArray) (cA : Calls Try.prog 43 #[.pointer (some ⟨g, 0, none⟩), .string nm] w (AtPost w B g mv Q (tot C.L) C file0 9)) :
    Calls Try.prog 26 #[.pointer (some ⟨g, 0, none⟩), .string nm, .string to] w (ImRes w B g mv Q (9, C.op)) := by
  go_enter Try.func26, Try.ntmps26
  go_wp2_with (go_at_call 43; (with_reducible refine cA.mono ?_))
  rintro e W1 ⟨rfl, h1, k1⟩
  have H1 := Lib.hid h1
  clear h1 cA
  unfold file0
  go_wp2
  go_ret
  exact ⟨mv, Q, rfl, H1.out.alloc _, (k1.mono (T := ImS g mv Q) (fun k _ e => .inl e)).alloc _, fun k e => .inl e⟩

set_option maxHeartbeats 2000000 in
set_option maxRecDepth 100000 in
theorem dRename_4 (w : World) (B g : Nat) (mv : Value) (Q : List (Value × RF)) (C : CD) (nm : ByteArray) (to : ByteArray) (cA : Calls Try.prog 43 #[.pointer (some ⟨g, 0, none⟩), .string nm] w (AtPost w B g mv Q (tot C.L) C file0 4)) :
    Calls Try.prog 26 #[.pointer (some ⟨g, 0, none⟩), .string nm, .string to] w (ImRes w B g mv Q (4, C.op)) := by
  go_enter Try.func26, Try.ntmps26
  go_wp2_with (go_at_call 43; (with_reducible refine cA.mono ?_))
  rintro e W1 ⟨rfl, h1, k1⟩
  have H1 := Lib.hid h1
  clear h1 cA
  unfold file0
  go_wp2
  go_ret
  exact ⟨mv, Q, rfl, H1.out.alloc _, (k1.mono (T := ImS g mv Q) (fun k _ e => .inl e)).alloc _, fun k e => .inl e⟩

set_option maxHeartbeats 4000000 in
set_option maxRecDepth 100000 in
theorem dRename_bad (w : World) (B g : Nat) (mv : Value) (Q : List (Value × RF)) (C : CD) (nm : ByteArray) (h : ImAt w B g mv Q C) (hi : Inv C) (hn : C.n ≤ 1000000) (hnm : nm.size ≤ 1000000) (hB : B ≤ w.heap.size) (ho : offC C = false) (a0 : Option Addr) (n0 k0 s0 : Nat) (f : RF) (hfs : f.s = s0) (hg : getQ nm Q = some (.slice a0 n0 k0, f)) (hl0 : f.b.length = n0) (to : ByteArray) (hbd : badN to = true) (cN : ∀ W, Calls Try.prog 41 #[.string to] W fun e w' => e = .returned (.bool false) ∧ ∃ q, w' = W.drewN q) :
    Calls Try.prog 26 #[.pointer (some ⟨g, 0, none⟩), .string nm, .string to] w (ImRes w B g mv Q (1, C.op)) := by
  have cA := dAt_some w B g mv Q _ C nm h hi hn hnm ho a0 n0 k0 s0 f hfs hg
  have hQL : Q.length ≤ 3000 := by have e := congrArg List.length h.2.1; rw [List.length_map] at e; rw [e]; exact hi.len
  have hroom := hi.room
  have htot := hi.tot
  have hr := h.rise
  have hgl : getL nm C.L = some f := by
    have := getQ_snd nm Q
    rw [h.2.1, hg] at this; exact this.symm
  have hfl : f.b.length ≤ tot C.L := by have := (tot_del nm hr.ne).1; rw [hgl] at this; simp only at this; omega
  obtain ⟨hqm, hqn⟩ := getQ_mem hg
  have HH := Lib.hid h
  have HG := Lib.hid hgl
  have HM := Lib.hid hqm
  have HN := Lib.hid hqn
  have H0 := Lib.hid hl0
  clear h hi hg hgl hqm hqn hfs hl0
  obtain ⟨u, hu⟩ : ∃ x : Int, x = tot C.L := ⟨_, rfl⟩
  have bu0 : (n0 : Int) ≤ u := by rw [← H0.out]; omega
  have bu1 : u ≤ 8388608 := by omega
  have HU := Lib.hid hu
  clear hu
  go_enter Try.func26, Try.ntmps26
  go_wp2_with (go_at_call 43; (with_reducible refine cA.mono ?_))
  rintro e W1 ⟨rfl, h1, k1⟩
  obtain ⟨W2, hW2⟩ : ∃ W, W = W1.alloc (.cells #[.slice a0 n0 k0, .int .i64 s0] 77) := ⟨_, rfl⟩
  have h2 : ImR W2 B g mv Q (tot C.L) C.op := by rw [hW2]; exact h1.alloc _
  have k2 : Kept (fun k => k = g) w W2 := by rw [hW2]; exact k1.alloc _
  have r2 : W2.heap[W1.heap.size]? = some (.cells #[.slice a0 n0 k0, .int .i64 s0] 77 (0, 0)) := by rw [hW2]; exact heap_alloc_new W1 _
  have z2 : w.heap.size ≤ W1.heap.size := k1.size
  clear h1 k1 cA
  have H2 := Lib.hid h2
  clear h2
  go_wp2_with (go_at_call 41; (with_reducible refine (cN _).mono ?_))
  rintro e W3' ⟨rfl, q, rfl⟩
  rw [← hW2]
  clear hW2
  go_wp2
  go_ret
  exact ⟨mv, Q, rfl, H2.out.drewN q, (k2.mono (T := ImS g mv Q) (fun k _ e => .inl e)).drewN q, fun k e => .inl e⟩

set_option maxHeartbeats 4000000 in
set_option maxRecDepth 100000 in
theorem dRename_same (w : World) (B g : Nat) (mv : Value) (Q : List (Value × RF)) (C : CD) (nm : ByteArray) (h : ImAt w B g mv Q C) (hi : Inv C) (hn : C.n ≤ 1000000) (hnm : nm.size ≤ 1000000) (hB : B ≤ w.heap.size) (ho : offC C = false) (a0 : Option Addr) (n0 k0 s0 : Nat) (f : RF) (hfs : f.s = s0) (hg : getQ nm Q = some (.slice a0 n0 k0, f)) (hl0 : f.b.length = n0) (to : ByteArray) (hbd : badN to = false) (cN : ∀ W, Calls Try.prog 41 #[.string to] W fun e w' => e = .returned (.bool true) ∧ ∃ q, w' = W.drewN q) (hto : (nm.toList == to.toList) = true) :
    Calls Try.prog 26 #[.pointer (some ⟨g, 0, none⟩), .string nm, .string to] w (ImRes w B g mv Q (0, C.op)) := by
  have cA := dAt_some w B g mv Q _ C nm h hi hn hnm ho a0 n0 k0 s0 f hfs hg
  have hQL : Q.length ≤ 3000 := by have e := congrArg List.length h.2.1; rw [List.length_map] at e; rw [e]; exact hi.len
  have hroom := hi.room
  have htot := hi.tot
  have hr := h.rise
  have hgl : getL nm C.L = some f := by
    have := getQ_snd nm Q
    rw [h.2.1, hg] at this; exact this.symm
  have hfl : f.b.length ≤ tot C.L := by have := (tot_del nm hr.ne).1; rw [hgl] at this; simp only at this; omega
  obtain ⟨hqm, hqn⟩ := getQ_mem hg
  have HH := Lib.hid h
  have HG := Lib.hid hgl
  have HM := Lib.hid hqm
  have HN := Lib.hid hqn
  have H0 := Lib.hid hl0
  clear h hi hg hgl hqm hqn hfs hl0
  obtain ⟨u, hu⟩ : ∃ x : Int, x = tot C.L := ⟨_, rfl⟩
  have bu0 : (n0 : Int) ≤ u := by rw [← H0.out]; omega
  have bu1 : u ≤ 8388608 := by omega
  have HU := Lib.hid hu
  clear hu
  go_enter Try.func26, Try.ntmps26
  go_wp2_with (go_at_call 43; (with_reducible refine cA.mono ?_))
  rintro e W1 ⟨rfl, h1, k1⟩
  obtain ⟨W2, hW2⟩ : ∃ W, W = W1.alloc (.cells #[.slice a0 n0 k0, .int .i64 s0] 77) := ⟨_, rfl⟩
  have h2 : ImR W2 B g mv Q (tot C.L) C.op := by rw [hW2]; exact h1.alloc _
  have k2 : Kept (fun k => k = g) w W2 := by rw [hW2]; exact k1.alloc _
  have r2 : W2.heap[W1.heap.size]? = some (.cells #[.slice a0 n0 k0, .int .i64 s0] 77 (0, 0)) := by rw [hW2]; exact heap_alloc_new W1 _
  have z2 : w.heap.size ≤ W1.heap.size := k1.size
  clear h1 k1 cA
  have H2 := Lib.hid h2
  clear h2
  go_wp2_with (go_at_call 41; (with_reducible refine (cN _).mono ?_))
  rintro e W3' ⟨rfl, q, rfl⟩
  rw [← hW2]
  clear hW2
  go_wp2
  go_ret
  exact ⟨mv, Q, rfl, H2.out.drewN q, (k2.mono (T := ImS g mv Q) (fun k _ e => .inl e)).drewN q, fun k e => .inl e⟩

set_option maxHeartbeats 4000000 in
set_option maxRecDepth 100000 in
theorem dRename_ok (w : World) (B g : Nat) (mv : Value) (Q : List (Value × RF)) (C : CD) (nm : ByteArray) (h : ImAt w B g mv Q C) (hi : Inv C) (hn : C.n ≤ 1000000) (hnm : nm.size ≤ 1000000) (hB : B ≤ w.heap.size) (ho : offC C = false) (a0 : Option Addr) (n0 k0 s0 : Nat) (f : RF) (hfs : f.s = s0) (hg : getQ nm Q = some (.slice a0 n0 k0, f)) (hl0 : f.b.length = n0) (to : ByteArray) (hbd : badN to = false) (cN : ∀ W, Calls Try.prog 41 #[.string to] W fun e w' => e = .returned (.bool true) ∧ ∃ q, w' = W.drewN q) (hto : (nm.toList == to.toList) = false) (hne : nm ≠ to) (htn : to.size ≤ 1000000) (a1 : Option Addr) (n1 k1 s1 : Nat) (hk1 : lkV to Q = .agg #[.slice a1 n1 k1, .int .i64 s1]) (hn1 : n1 = oldN to C.L) :
    Calls Try.prog 26 #[.pointer (some ⟨g, 0, none⟩), .string nm, .string to] w (ImRes w B g mv Q (0, C.op.setL (putL ⟨to, f.b, s0⟩ (delL nm C.L)))) := by
  have cA := dAt_some w B g mv Q _ C nm h hi hn hnm ho a0 n0 k0 s0 f hfs hg
  have hQL : Q.length ≤ 3000 := by have e := congrArg List.length h.2.1; rw [List.length_map] at e; rw [e]; exact hi.len
  have hroom := hi.room
  have htot := hi.tot
  have hr := h.rise
  have hgl : getL nm C.L = some f := by
    have := getQ_snd nm Q
    rw [h.2.1, hg] at this; exact this.symm
  have hfl : f.b.length ≤ tot C.L := by have := (tot_del nm hr.ne).1; rw [hgl] at this; simp only at this; omega
  obtain ⟨hqm, hqn⟩ := getQ_mem hg
  have HH := Lib.hid h
  have HG := Lib.hid hgl
  have HM := Lib.hid hqm
  have HN := Lib.hid hqn
  have H0 := Lib.hid hl0
  have HF := Lib.hid hfs
  have HN1 := Lib.hid hn1
  have HNE := Lib.hid hne
  have hn1b : n1 ≤ tot C.L := by
    rw [hn1]
    have := tot_del2 to hr.ne
    omega
  clear h hi hg hgl hqm hqn hfs hl0 hn1 hne
  obtain ⟨u, hu⟩ : ∃ x : Int, x = tot C.L := ⟨_, rfl⟩
  have bu0 : (n0 : Int) ≤ u := by rw [← H0.out]; omega
  have bu2 : (n1 : Int) ≤ u := by omega
  have bu1 : u ≤ 8388608 := by omega
  have HU := Lib.hid hu
  clear hu
  go_enter Try.func26, Try.ntmps26
  go_wp2_with (go_at_call 43; (with_reducible refine cA.mono ?_))
  rintro e W1 ⟨rfl, h1, k1⟩
  obtain ⟨W2, hW2⟩ : ∃ W, W = W1.alloc (.cells #[.slice a0 n0 k0, .int .i64 s0] 77) := ⟨_, rfl⟩
  have h2 : ImR W2 B g mv Q (tot C.L) C.op := by rw [hW2]; exact h1.alloc _
  have k2 : Kept (fun k => k = g) w W2 := by rw [hW2]; exact k1.alloc _
  have r2 : W2.heap[W1.heap.size]? = some (.cells #[.slice a0 n0 k0, .int .i64 s0] 77 (0, 0)) := by rw [hW2]; exact heap_alloc_new W1 _
  have z2 : w.heap.size ≤ W1.heap.size := k1.size
  clear h1 k1 cA
  have H2 := Lib.hid h2
  clear h2
  go_wp2_with (go_at_call 41; (with_reducible refine (cN _).mono ?_))
  rintro e W3' ⟨rfl, q, rfl⟩
  rw [← hW2]
  clear hW2
  obtain ⟨W3, hW3⟩ : ∃ W, W = W2.drewN q := ⟨_, rfl⟩
  have h3 : ImR W3 B g mv Q (tot C.L) C.op := by rw [hW3]; exact H2.out.drewN q
  have k3 : Kept (fun k => k = g) w W3 := by rw [hW3]; exact k2.drewN q
  have r3 : W3.heap[W1.heap.size]? = some (.cells #[.slice a0 n0 k0, .int .i64 s0] 77 (0, 0)) := by rw [hW3]; exact r2
  go_wp2
  rw [← hW3]
  clear hW3 r2 k2 H2
  obtain ⟨t0, t1, t2, _, _, _⟩ := h3.cell
  have f1 := h3.frozen 1
  rw [← HU.out] at t1
  have hw : IntKind.i64.wrap (u - n1) = u - n1 := IntWalk.i64_in _ (by omega)
  have hw2 : wrap64 (u - n1) = u - n1 := IntWalk.wrap64_in _ (by omega)
  have lk := (h3.2.2.2.1.look to (by unfold maxLen; omega)).2
  have lkd := (h3.drew.2.2.2.1.look to (by unfold maxLen; omega)).2
  rw [hk1] at lk lkd
  have HK1 := Lib.hid hk1
  have hfld : ∀ W : World, (Instr.field 77 (.agg #[.slice a1 n1 k1, .int .i64 s1]) 0).run Try.prog W = .ok (.slice a1 n1 k1) W := fun _ => by kernel_rfl
  have H3 := Lib.hid h3
  clear h3 hk1
  go_still_tail 15, (by kernel_rfl)
  change wpList _ _ _ _ _ W3.drew
  have h4 := ((H3.out.set 1 (.int .i64 (u - n1)) (u' := u - n1) (C' := C.op) rfl rfl).drew)
  obtain ⟨W4, hdel, m4, k4, z4⟩ := h4.2.2.2.1.drop nm (by unfold maxLen; omega) 0
  have h5 := h4.deleted nm m4 k4
  have k3' : Kept (fun k => k = g) w (W3.setCell ⟨g, 1, none⟩ (.int .i64 (u - n1))).drew := (k3.setCell (p := ⟨g, 1, none⟩) (fun _ => rfl) _).drew
  have K4 : Kept (ImS g mv Q) w W4 := (k3'.mono (T := ImS g mv Q) (fun k _ e => .inl e)).trans k4 (fun k _ e => .inr (.inl e))
  have hVg : W1.heap.size ≠ g := fun e => by have := (HH.out.ltS g (.inl rfl)).2; omega
  have r3' : (W3.setCell ⟨g, 1, none⟩ (.int .i64 (u - n1))).drew.heap[W1.heap.size]? = some (.cells #[.slice a0 n0 k0, .int .i64 s0] 77 (0, 0)) := by
    show (W3.setCell ⟨g, 1, none⟩ (.int .i64 (u - n1))).heap[W1.heap.size]? = _
    rw [heap_setCell_other _ _ _ _ hVg]; exact r3
  have r4 := (k4.block W1.heap.size (lt_of_block r3') (h4.2.2.2.1.ne r3')).trans r3'
  obtain ⟨x0, x1, _, _⟩ := pair_cells r4
  have hP : PutPre W4 B g mv (delQ nm Q) (u - n1) (C.op.setL (delL nm C.L)) (.slice a0 n0 k0, ⟨to, f.b, s0⟩) := by
    refine ⟨h5.1, h5.2.1, h5.2.2.1, h5.2.2.2.1, fun p hp => h5.2.2.2.2.1 p (mem_delQ hp).1, h5.2.2.2.2.2.filter _, ?_, fun p hp k hk => ?_⟩
    · have := Kept.own (h4.2.2.2.2.1 _ HM.out) k4 (fun k e => (h4.ownNe _ HM.out).2 k e)
      exact this
    · refine h4.2.2.2.2.2.of (mem_delQ (mem_delQ hp).1).1 HM.out (fun e => (mem_delQ (mem_delQ hp).1).2 ?_) k hk
      rw [e]; exact HN.out
  have hdl : (delQ nm Q).length ≤ Q.length := List.length_filter_le _ _
  have cP := dPut _ B g mv (delQ nm Q) (u - n1) (C.op.setL (delL nm C.L)) a0 n0 k0 s0 to f.b hP htn (by omega) (Nat.le_trans hB K4.size)
  clear h4 h5 m4 r3' r4 hP lk lkd r3 k3'
  go_wp2_with (go_at_call 42; (with_reducible refine cP.mono ?_))
  rintro e W7 ⟨mv7, rfl, h7, k7, n7⟩
  have H7 := Lib.hid h7
  clear h7 cP
  go_wp2
  go_ret
  have ht : u - n1 = (tot (putL ⟨to, f.b, s0⟩ (delL nm C.L)) : Nat) := by
    have e1 := put_tot2 (hr.del nm) ⟨to, f.b, s0⟩
    have e2 := (tot_del nm hr.ne).1
    have e3 : oldN to (delL nm C.L) = oldN to C.L := by unfold oldN; rw [getL_del HNE.out]
    simp only [HG.out] at e2
    simp only [e3] at e1
    have e4 := HN1.out
    rw [HU.out]; omega
  have hf := H7.out
  rw [ht] at hf
  refine ⟨mv7, _, rfl, hf, K4.trans k7 (fun k _ e => ?_), ?_⟩
  · rcases e with e | e
    · exact .inl e
    · exact .inr (.inl e)
  · rintro k (e | e | ⟨p, hp, e⟩)
    · exact .inl (.inl e)
    · rcases n7 k e with e | e
      · exact .inl (.inr (.inl e))
      · exact .inr (Nat.le_trans K4.size e)
    · rcases mem_putQ hp with rfl | ⟨hp, _⟩
      · exact .inl (.inr (.inr ⟨_, HM.out, e⟩))
      · exact .inl (.inr (.inr ⟨p, (mem_delQ hp).1, e⟩))

end Go.Proofs.Ytbolminblofhgaa
