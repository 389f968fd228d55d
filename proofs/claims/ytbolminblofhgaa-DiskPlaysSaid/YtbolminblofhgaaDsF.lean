/-
  Package disk: Append, refused for want of room, and done.
-/
import Derived.Test.YtbolminblofhgaaDsE
set_option linter.unusedVariables false
namespace Go.Proofs.Ytbolminblofhgaa
open Go.RowKit

theorem dPut (w : World) (B g : Nat) (mv : Value) (Q : List (Value × RF)) (u : Int) (C : CD) (a : Option Addr) (m c s : Nat) (nm : ByteArray) (f : List UInt8) (h : PutPre w B g mv Q u C (.slice a m c, ⟨nm, f, s⟩)) (hn : nm.size ≤ 1000000) (hl : Q.length ≤ 1000000) (hB : B ≤ w.heap.size) :
    Calls Try.prog 42 #[.pointer (some ⟨g, 0, none⟩), .string nm, .agg #[.slice a m c, .int .i64 s]] w (PutPost w B g mv Q u C (.slice a m c, ⟨nm, f, s⟩)) := by
  rcases h.map with ⟨e, _⟩ | ⟨b, e, _⟩
  · subst e; exact dPut_none w B g Q u C a m c s nm f h hn hl hB
  · subst e; exact dPut_some w B g b Q u C a m c s nm f h hn hl

theorem Bts.kept {w w' : World} {A : Option Addr} {l : List UInt8} {S : Nat → Prop} (h : Bts w A l) (hk : Kept S w w') (hs : ∀ x, A = some x → ¬ S x.block) : Bts w' A l := by
  rcases h with h | ⟨x, rfl, hc⟩
  · exact .inl h
  · exact .inr ⟨x, rfl, fun j hj => (hk.cell (World.block_lt_of_cell? w _ (hc j hj)) (by rw [add_blk]; exact hs x rfl)).trans (hc j hj)⟩

set_option maxHeartbeats 4000000 in
set_option maxRecDepth 100000 in
theorem dAppend_fullT (w : World) (B g : Nat) (mv : Value) (Q : List (Value × RF)) (C : CD) (nm : ByteArray) (A : Option Addr) (m c : Nat) (l : List UInt8) (h : ImAt w B g mv Q C) (hi : Inv C) (hn : C.n ≤ 1000000) (hnm : nm.size ≤ 1000000) (hl : l.length = m) (hm : m ≤ 1000000) (hb : Bts w A l) (hA : A = none → c = 0) (hB : B ≤ w.heap.size) (ho : offC C = false) (hbd : badN nm = false) (a0 : Option Addr) (n0 k0 s0 : Nat) (b0 : List UInt8) (hsv : hsQ nm Q = true) (hlk : lkV nm Q = .agg #[.slice a0 n0 k0, .int .i64 s0]) (d2 : (C.room : Int) - (tot C.L : Int) < m) :
    Calls Try.prog 16 #[.pointer (some ⟨g, 0, none⟩), .string nm, .slice A m c] w (ImRes w B g mv Q (3, C.op)) := by
  have cO := dOp w B g mv Q _ C h hi hn
  have cN := fun W => dNamed nm W
  rw [ho] at cO
  rw [hbd] at cN
  have hQL : Q.length ≤ 3000 := by have e := congrArg List.length h.2.1; rw [List.length_map] at e; rw [e]; exact hi.len
  have hroom := hi.room
  have htot := hi.tot
  clear hi hbd
  obtain ⟨rm, hrm⟩ : ∃ x : Int, x = C.room := ⟨_, rfl⟩
  obtain ⟨u, hu⟩ : ∃ x : Int, x = tot C.L := ⟨_, rfl⟩
  have bu0 : 0 ≤ u := by omega
  have bu1 : u ≤ rm := by omega
  have bu2 : rm ≤ 8388608 := by omega
  rw [← hrm, ← hu] at d2
  have HR := Lib.hid hrm
  have HU := Lib.hid hu
  clear hrm hu
  have HH := Lib.hid h
  clear h
  go_enter Try.func16, Try.ntmps16
  go_wp2_with (go_at_call 40; (with_reducible refine cO.mono ?_))
  rintro e W1 ⟨rfl, h1, k1, s1⟩
  have H1 := Lib.hid h1
  clear h1 cO
  go_wp2_with (go_at_call 41; (with_reducible refine (cN _).mono ?_))
  rintro e W2' ⟨rfl, q, rfl⟩
  obtain ⟨W2, hW2⟩ : ∃ W, W = W1.drewN q := ⟨_, rfl⟩
  have h2 : ImR W2 B g mv Q (tot C.L) C.op := by rw [hW2]; exact H1.out.drewN q
  have k2 : Kept (fun k => k = g) w W2 := by rw [hW2]; exact k1.drewN q
  rw [← hW2]
  clear hW2 H1 k1 s1
  obtain ⟨t0, t1, t2, _, _, _⟩ := h2.cell
  have lk := (h2.2.2.2.1.look nm (by unfold maxLen; omega)).1
  rw [hsv, hlk] at lk
  have HL := Lib.hid hlk
  clear hlk hsv
  go_wp2
  obtain ⟨W3, hW3⟩ : ∃ W, W = W2.alloc (.cells #[.slice a0 n0 k0, .int .i64 s0] 77) := ⟨_, rfl⟩
  have h3 : ImR W3 B g mv Q (tot C.L) C.op := by rw [hW3]; exact h2.alloc _
  have k3 : Kept (fun k => k = g) w W3 := by rw [hW3]; exact k2.alloc _
  have r3 := heap_alloc_new W2 (.cells #[.slice a0 n0 k0, .int .i64 s0] 77)
  rw [← hW3] at r3 ⊢
  have s3 : W2.heap.size < W3.heap.size := by rw [hW3]; simp
  have z2 := k2.size
  clear hW3 t0 t1 t2 lk h2 k2
  obtain ⟨t0', t1, t2, _, _, _⟩ := h3.cell
  have t0 : W3.cell? ⟨g, 0, none⟩ = some (.int .i64 C.room) := t0'
  clear t0'
  have hw : IntKind.i64.wrap (rm - u) = rm - u := IntWalk.i64_in _ (by omega)
  have hw2 : wrap64 (rm - u) = rm - u := IntWalk.wrap64_in _ (by omega)
  rw [← HR.out] at t0
  rw [← HU.out] at t1
  have hlen : ∀ k, (Builtin.len_ #[60] 3 #[mv]).run Try.prog (W3.drewN k) = .ok (.int .i64 Q.length) (W3.drewN k) := fun k => (h3.drewN k).2.2.2.1.len _
  have H3 := Lib.hid h3
  clear h3
  go_quiet (fail)
  go_wp2
  go_ret
  exact ⟨mv, Q, rfl, H3.out.drewN nq, (k3.mono (T := ImS g mv Q) (fun k _ e => .inl e)).drewN nq, fun k e => .inl e⟩

set_option maxHeartbeats 4000000 in
set_option maxRecDepth 100000 in
theorem dAppend_fullM (w : World) (B g : Nat) (mv : Value) (Q : List (Value × RF)) (C : CD) (nm : ByteArray) (A : Option Addr) (m c : Nat) (l : List UInt8) (h : ImAt w B g mv Q C) (hi : Inv C) (hn : C.n ≤ 1000000) (hnm : nm.size ≤ 1000000) (hl : l.length = m) (hm : m ≤ 1000000) (hb : Bts w A l) (hA : A = none → c = 0) (hB : B ≤ w.heap.size) (ho : offC C = false) (hbd : badN nm = false) (a0 : Option Addr) (n0 k0 s0 : Nat) (b0 : List UInt8) (hsv : hsQ nm Q = false) (hlk : lkV nm Q = .agg #[.slice a0 n0 k0, .int .i64 s0]) (d1 : decide ((3000 : Int) ≤ (Q.length : Int)) = true) :
    Calls Try.prog 16 #[.pointer (some ⟨g, 0, none⟩), .string nm, .slice A m c] w (ImRes w B g mv Q (3, C.op)) := by
  have cO := dOp w B g mv Q _ C h hi hn
  have cN := fun W => dNamed nm W
  rw [ho] at cO
  rw [hbd] at cN
  have hQL : Q.length ≤ 3000 := by have e := congrArg List.length h.2.1; rw [List.length_map] at e; rw [e]; exact hi.len
  have hroom := hi.room
  have htot := hi.tot
  clear hi hbd
  obtain ⟨rm, hrm⟩ : ∃ x : Int, x = C.room := ⟨_, rfl⟩
  obtain ⟨u, hu⟩ : ∃ x : Int, x = tot C.L := ⟨_, rfl⟩
  have bu0 : 0 ≤ u := by omega
  have bu1 : u ≤ rm := by omega
  have bu2 : rm ≤ 8388608 := by omega
  skip
  have HR := Lib.hid hrm
  have HU := Lib.hid hu
  clear hrm hu
  have HH := Lib.hid h
  clear h
  go_enter Try.func16, Try.ntmps16
  go_wp2_with (go_at_call 40; (with_reducible refine cO.mono ?_))
  rintro e W1 ⟨rfl, h1, k1, s1⟩
  have H1 := Lib.hid h1
  clear h1 cO
  go_wp2_with (go_at_call 41; (with_reducible refine (cN _).mono ?_))
  rintro e W2' ⟨rfl, q, rfl⟩
  obtain ⟨W2, hW2⟩ : ∃ W, W = W1.drewN q := ⟨_, rfl⟩
  have h2 : ImR W2 B g mv Q (tot C.L) C.op := by rw [hW2]; exact H1.out.drewN q
  have k2 : Kept (fun k => k = g) w W2 := by rw [hW2]; exact k1.drewN q
  rw [← hW2]
  clear hW2 H1 k1 s1
  obtain ⟨t0, t1, t2, _, _, _⟩ := h2.cell
  have lk := (h2.2.2.2.1.look nm (by unfold maxLen; omega)).1
  rw [hsv, hlk] at lk
  have HL := Lib.hid hlk
  clear hlk hsv
  go_wp2
  obtain ⟨W3, hW3⟩ : ∃ W, W = W2.alloc (.cells #[.slice a0 n0 k0, .int .i64 s0] 77) := ⟨_, rfl⟩
  have h3 : ImR W3 B g mv Q (tot C.L) C.op := by rw [hW3]; exact h2.alloc _
  have k3 : Kept (fun k => k = g) w W3 := by rw [hW3]; exact k2.alloc _
  have r3 := heap_alloc_new W2 (.cells #[.slice a0 n0 k0, .int .i64 s0] 77)
  rw [← hW3] at r3 ⊢
  have s3 : W2.heap.size < W3.heap.size := by rw [hW3]; simp
  have z2 := k2.size
  clear hW3 t0 t1 t2 lk h2 k2
  obtain ⟨t0', t1, t2, _, _, _⟩ := h3.cell
  have t0 : W3.cell? ⟨g, 0, none⟩ = some (.int .i64 C.room) := t0'
  clear t0'
  have hw : IntKind.i64.wrap (rm - u) = rm - u := IntWalk.i64_in _ (by omega)
  have hw2 : wrap64 (rm - u) = rm - u := IntWalk.wrap64_in _ (by omega)
  rw [← HR.out] at t0
  rw [← HU.out] at t1
  have hlen : ∀ k, (Builtin.len_ #[60] 3 #[mv]).run Try.prog (W3.drewN k) = .ok (.int .i64 Q.length) (W3.drewN k) := fun k => (h3.drewN k).2.2.2.1.len _
  have H3 := Lib.hid h3
  clear h3
  go_quiet (fail)
  go_wp2
  go_ret
  exact ⟨mv, Q, rfl, H3.out.drewN nq, (k3.mono (T := ImS g mv Q) (fun k _ e => .inl e)).drewN nq, fun k e => .inl e⟩

set_option maxHeartbeats 4000000 in
set_option maxRecDepth 100000 in
theorem dAppend_fullF (w : World) (B g : Nat) (mv : Value) (Q : List (Value × RF)) (C : CD) (nm : ByteArray) (A : Option Addr) (m c : Nat) (l : List UInt8) (h : ImAt w B g mv Q C) (hi : Inv C) (hn : C.n ≤ 1000000) (hnm : nm.size ≤ 1000000) (hl : l.length = m) (hm : m ≤ 1000000) (hb : Bts w A l) (hA : A = none → c = 0) (hB : B ≤ w.heap.size) (ho : offC C = false) (hbd : badN nm = false) (a0 : Option Addr) (n0 k0 s0 : Nat) (b0 : List UInt8) (hsv : hsQ nm Q = false) (hlk : lkV nm Q = .agg #[.slice a0 n0 k0, .int .i64 s0]) (d1 : decide ((3000 : Int) ≤ (Q.length : Int)) = false) (d2 : (C.room : Int) - (tot C.L : Int) < m) :
    Calls Try.prog 16 #[.pointer (some ⟨g, 0, none⟩), .string nm, .slice A m c] w (ImRes w B g mv Q (3, C.op)) := by
  have cO := dOp w B g mv Q _ C h hi hn
  have cN := fun W => dNamed nm W
  rw [ho] at cO
  rw [hbd] at cN
  have hQL : Q.length ≤ 3000 := by have e := congrArg List.length h.2.1; rw [List.length_map] at e; rw [e]; exact hi.len
  have hroom := hi.room
  have htot := hi.tot
  clear hi hbd
  obtain ⟨rm, hrm⟩ : ∃ x : Int, x = C.room := ⟨_, rfl⟩
  obtain ⟨u, hu⟩ : ∃ x : Int, x = tot C.L := ⟨_, rfl⟩
  have bu0 : 0 ≤ u := by omega
  have bu1 : u ≤ rm := by omega
  have bu2 : rm ≤ 8388608 := by omega
  rw [← hrm, ← hu] at d2
  have HR := Lib.hid hrm
  have HU := Lib.hid hu
  clear hrm hu
  have HH := Lib.hid h
  clear h
  go_enter Try.func16, Try.ntmps16
  go_wp2_with (go_at_call 40; (with_reducible refine cO.mono ?_))
  rintro e W1 ⟨rfl, h1, k1, s1⟩
  have H1 := Lib.hid h1
  clear h1 cO
  go_wp2_with (go_at_call 41; (with_reducible refine (cN _).mono ?_))
  rintro e W2' ⟨rfl, q, rfl⟩
  obtain ⟨W2, hW2⟩ : ∃ W, W = W1.drewN q := ⟨_, rfl⟩
  have h2 : ImR W2 B g mv Q (tot C.L) C.op := by rw [hW2]; exact H1.out.drewN q
  have k2 : Kept (fun k => k = g) w W2 := by rw [hW2]; exact k1.drewN q
  rw [← hW2]
  clear hW2 H1 k1 s1
  obtain ⟨t0, t1, t2, _, _, _⟩ := h2.cell
  have lk := (h2.2.2.2.1.look nm (by unfold maxLen; omega)).1
  rw [hsv, hlk] at lk
  have HL := Lib.hid hlk
  clear hlk hsv
  go_wp2
  obtain ⟨W3, hW3⟩ : ∃ W, W = W2.alloc (.cells #[.slice a0 n0 k0, .int .i64 s0] 77) := ⟨_, rfl⟩
  have h3 : ImR W3 B g mv Q (tot C.L) C.op := by rw [hW3]; exact h2.alloc _
  have k3 : Kept (fun k => k = g) w W3 := by rw [hW3]; exact k2.alloc _
  have r3 := heap_alloc_new W2 (.cells #[.slice a0 n0 k0, .int .i64 s0] 77)
  rw [← hW3] at r3 ⊢
  have s3 : W2.heap.size < W3.heap.size := by rw [hW3]; simp
  have z2 := k2.size
  clear hW3 t0 t1 t2 lk h2 k2
  obtain ⟨t0', t1, t2, _, _, _⟩ := h3.cell
  have t0 : W3.cell? ⟨g, 0, none⟩ = some (.int .i64 C.room) := t0'
  clear t0'
  have hw : IntKind.i64.wrap (rm - u) = rm - u := IntWalk.i64_in _ (by omega)
  have hw2 : wrap64 (rm - u) = rm - u := IntWalk.wrap64_in _ (by omega)
  rw [← HR.out] at t0
  rw [← HU.out] at t1
  have hlen : ∀ k, (Builtin.len_ #[60] 3 #[mv]).run Try.prog (W3.drewN k) = .ok (.int .i64 Q.length) (W3.drewN k) := fun k => (h3.drewN k).2.2.2.1.len _
  have H3 := Lib.hid h3
  clear h3
  go_quiet (fail)
  go_wp2
  go_ret
  exact ⟨mv, Q, rfl, H3.out.drewN nq, (k3.mono (T := ImS g mv Q) (fun k _ e => .inl e)).drewN nq, fun k e => .inl e⟩

set_option maxHeartbeats 4000000 in
set_option maxRecDepth 100000 in
theorem dAppend_okT (w : World) (B g : Nat) (mv : Value) (Q : List (Value × RF)) (C : CD) (nm : ByteArray) (A : Option Addr) (m c : Nat) (l : List UInt8) (h : ImAt w B g mv Q C) (hi : Inv C) (hn : C.n ≤ 1000000) (hnm : nm.size ≤ 1000000) (hl : l.length = m) (hm : m ≤ 1000000) (hb : Bts w A l) (hA : A = none → c = 0) (hB : B ≤ w.heap.size) (ho : offC C = false) (hbd : badN nm = false) (a0 : Option Addr) (n0 k0 s0 : Nat) (b0 : List UInt8) (hsv : hsQ nm Q = true) (hlk : lkV nm Q = .agg #[.slice a0 n0 k0, .int .i64 s0]) (d2 : ¬ (C.room : Int) - (tot C.L : Int) < m) (hl0 : b0.length = n0) (hn0 : n0 ≤ 10000000) (own0 : w.ownsRow B 5 1 (.slice a0 n0 k0) n0 (Lib.byteCells b0)) (ownS : ∀ k, (Value.slice a0 n0 k0).ownBlock = some k → ImS g mv Q k) (ownG : ∀ k, (Value.slice a0 n0 k0).ownBlock = some k → k ≠ g) (far0 : ∀ p ∈ delQ nm Q, ∀ k, p.1.ownBlock = some k → (Value.slice a0 n0 k0).ownBlock ≠ some k) (hAS : ∀ x, A = some x → ¬ ImS g mv Q x.block) (htl : tot (putL ⟨nm, b0 ++ l, s0⟩ C.L) = tot C.L + m) :
    Calls Try.prog 16 #[.pointer (some ⟨g, 0, none⟩), .string nm, .slice A m c] w (ImRes w B g mv Q (0, C.op.setL (putL ⟨nm, b0 ++ l, s0⟩ C.L))) := by
  have cO := dOp w B g mv Q _ C h hi hn
  have cN := fun W => dNamed nm W
  rw [ho] at cO
  rw [hbd] at cN
  have hQL : Q.length ≤ 3000 := by have e := congrArg List.length h.2.1; rw [List.length_map] at e; rw [e]; exact hi.len
  have hroom := hi.room
  have htot := hi.tot
  clear hi hbd
  obtain ⟨rm, hrm⟩ : ∃ x : Int, x = C.room := ⟨_, rfl⟩
  obtain ⟨u, hu⟩ : ∃ x : Int, x = tot C.L := ⟨_, rfl⟩
  have bu0 : 0 ≤ u := by omega
  have bu1 : u ≤ rm := by omega
  have bu2 : rm ≤ 8388608 := by omega
  rw [← hrm, ← hu] at d2
  have HR := Lib.hid hrm
  have HU := Lib.hid hu
  clear hrm hu
  have HH := Lib.hid h
  clear h
  go_enter Try.func16, Try.ntmps16
  go_wp2_with (go_at_call 40; (with_reducible refine cO.mono ?_))
  rintro e W1 ⟨rfl, h1, k1, s1⟩
  have H1 := Lib.hid h1
  clear h1 cO
  go_wp2_with (go_at_call 41; (with_reducible refine (cN _).mono ?_))
  rintro e W2' ⟨rfl, q, rfl⟩
  obtain ⟨W2, hW2⟩ : ∃ W, W = W1.drewN q := ⟨_, rfl⟩
  have h2 : ImR W2 B g mv Q (tot C.L) C.op := by rw [hW2]; exact H1.out.drewN q
  have k2 : Kept (fun k => k = g) w W2 := by rw [hW2]; exact k1.drewN q
  rw [← hW2]
  clear hW2 H1 k1 s1
  obtain ⟨t0, t1, t2, _, _, _⟩ := h2.cell
  have lk := (h2.2.2.2.1.look nm (by unfold maxLen; omega)).1
  rw [hsv, hlk] at lk
  have HL := Lib.hid hlk
  clear hlk hsv
  go_wp2
  obtain ⟨W3, hW3⟩ : ∃ W, W = W2.alloc (.cells #[.slice a0 n0 k0, .int .i64 s0] 77) := ⟨_, rfl⟩
  have h3 : ImR W3 B g mv Q (tot C.L) C.op := by rw [hW3]; exact h2.alloc _
  have k3 : Kept (fun k => k = g) w W3 := by rw [hW3]; exact k2.alloc _
  have r3 := heap_alloc_new W2 (.cells #[.slice a0 n0 k0, .int .i64 s0] 77)
  rw [← hW3] at r3 ⊢
  have s3 : W2.heap.size < W3.heap.size := by rw [hW3]; simp
  have z2 := k2.size
  clear hW3 t0 t1 t2 lk h2 k2
  obtain ⟨t0', t1, t2, _, _, _⟩ := h3.cell
  have t0 : W3.cell? ⟨g, 0, none⟩ = some (.int .i64 C.room) := t0'
  clear t0'
  have hw : IntKind.i64.wrap (rm - u) = rm - u := IntWalk.i64_in _ (by omega)
  have hw2 : wrap64 (rm - u) = rm - u := IntWalk.wrap64_in _ (by omega)
  rw [← HR.out] at t0
  rw [← HU.out] at t1
  have hlen : ∀ k, (Builtin.len_ #[60] 3 #[mv]).run Try.prog (W3.drewN k) = .ok (.int .i64 Q.length) (W3.drewN k) := fun k => (h3.drewN k).2.2.2.1.len _
  have H3 := Lib.hid h3
  clear h3
  go_quiet (fail)
  obtain ⟨W4, hW4⟩ : ∃ W, W = W3.drewN nq := ⟨_, rfl⟩
  rw [← hW4]
  have h4 : ImR W4 B g mv Q (tot C.L) C.op := by rw [hW4]; exact H3.out.drewN nq
  have k4 : Kept (fun k => k = g) w W4 := by rw [hW4]; exact k3.drewN nq
  have r4 : W4.heap[W2.heap.size]? = some (.cells #[.slice a0 n0 k0, .int .i64 s0] 77 (0, 0)) := by rw [hW4]; exact r3
  have s4 : W2.heap.size < W4.heap.size := by rw [hW4]; exact s3
  clear hW4 r3 k3 H3 hlen t0 t1 t2 hw hw2 s3
  obtain ⟨V, hV⟩ : ∃ V, V = W2.heap.size := ⟨_, rfl⟩
  rw [← hV] at r4 s4 z2 ⊢
  clear hV
  obtain ⟨x0, x1, y0, y1⟩ := pair_cells r4
  obtain ⟨i0, hi, hz0, hz1, hz2⟩ := info_parts infoByte8
  have o4 := Kept.own own0 k4 (fun k e e2 => ownG k e e2)
  have b4 := Bts.kept hb k4 (fun x hx e => hAS x hx (.inl e))
  have hB4 : B ≤ W4.heap.size := Nat.le_trans hB k4.size
  go_wp2_with (at_builtin; go_loud (refine wpList_append_btsAt _ rfl _ _ 39 rfl B 5 i0 Try.underlying39 hi hz0 hz1 hz2 _ _ _ rfl o4 _ _ _ l rfl hl b4 hA (by omega) hB4 ?_))
  intro v5 W5 o5 g5 l5
  obtain ⟨a5, c5, rfl⟩ := own_slice o5
  rw [byteCells_app] at o5
  have hVo := own_ne r4 o4 (by decide)
  have k5 : Kept (fun k => (Value.slice a0 n0 k0).ownBlock = some k) W4 W5 := (Kept.refl _ W4).grown g5 (fun k hk _ => hk)
  have r5 : W5.heap[V]? = some (.cells #[.slice a0 n0 k0, .int .i64 s0] 77 (0, 0)) := (k5.block V s4 hVo).trans r4
  have r6 : (W5.setCell ⟨V, 0, none⟩ (.slice a5 (n0 + m) c5)).heap[V]? = some (.cells #[.slice a5 (n0 + m) c5, .int .i64 s0] 77 (0, 0)) := by rw [heap_setCell_same _ V 0 _ _ _ r5]; rfl
  obtain ⟨u0, u1, v0, v1⟩ := pair_cells r5
  obtain ⟨w0, w1, _, _⟩ := pair_cells r6
  have k6 : Kept (fun k => k = g ∨ (Value.slice a0 n0 k0).ownBlock = some k ∨ k = V) w (W5.setCell ⟨V, 0, none⟩ (.slice a5 (n0 + m) c5)) :=
    ((k4.mono (T := fun k => k = g ∨ (Value.slice a0 n0 k0).ownBlock = some k ∨ k = V) (fun k _ e => .inl e)).trans k5 (fun k _ e => .inr (.inl e))).setCell (p := ⟨V, 0, none⟩) (fun _ => .inr (.inr rfl)) _
  have kk : Kept (fun k => (Value.slice a0 n0 k0).ownBlock = some k ∨ k = V) W4 (W5.setCell ⟨V, 0, none⟩ (.slice a5 (n0 + m) c5)) :=
    (k5.mono (T := fun k => (Value.slice a0 n0 k0).ownBlock = some k ∨ k = V) (fun k _ e => .inl e)).setCell (p := ⟨V, 0, none⟩) (fun _ => .inr rfl) _
  have kv : Kept (fun k => k = V) W5 (W5.setCell ⟨V, 0, none⟩ (.slice a5 (n0 + m) c5)) := Kept.cellG 0 _
  have o6 := Kept.own o5 kv (fun k e e2 => own_ne r5 o5 (by decide) (e2 ▸ e))
  have hVg : ∀ k, ImS g mv Q k → k ≠ V := fun k hk e => by have := (HH.out.ltS k hk).2; omega
  have hP : PutPre (W5.setCell ⟨V, 0, none⟩ (.slice a5 (n0 + m) c5)) B g mv Q (tot C.L) C.op (.slice a5 (n0 + m) c5, ⟨nm, b0 ++ l, s0⟩) := by
    refine ⟨h4.1, h4.2.1, (kk.block g h4.lt ?_).trans h4.2.2.1, h4.2.2.2.1.kept kk ?_, fun p hp => Kept.own (h4.2.2.2.2.1 p (mem_delQ hp).1) kk ?_, h4.2.2.2.2.2.filter _, by rw [List.length_append, hl0, hl]; exact o6, fun p hp k hk e => ?_⟩
    · rintro (e | e)
      · exact ownG g e rfl
      · exact hVg g (.inl rfl) e
    · rintro k e (e2 | e2)
      · exact h4.2.2.2.1.ne_own o4 k e2 e
      · exact hVg k (.inr (.inl e)) e2
    · rintro k e (e2 | e2)
      · exact far0 p hp k e e2
      · exact hVg k (.inr (.inr ⟨p, (mem_delQ hp).1, e⟩)) e2
    · rcases l5 with l5 | l5
      · exact far0 p hp k hk (l5 ▸ e)
      · rw [l5] at e
        injection e with e
        have := (h4.ltS k (.inr (.inr ⟨p, (mem_delQ hp).1, hk⟩))).2
        omega
  have cP := dPut _ B g mv Q (tot C.L) C.op a5 (n0 + m) c5 s0 nm (b0 ++ l) hP hnm (by omega) (by have := k6.size; omega)
  have hsz : W4.heap.size ≤ W5.heap.size := k5.size
  have HL5 := Lib.hid l5
  have H4 := Lib.hid h4
  clear h4 hP o6 kv kk k5 r5 r6 o5 g5 l5 x0 x1 y0 y1 r4 o4 b4 hVo k4
  go_wp2_with (go_at_call 42; (with_reducible refine cP.mono ?_))
  rintro e W7 ⟨mv7, rfl, h7, k7, n7⟩
  obtain ⟨t0', t1', t2', _, _, _⟩ := h7.cell
  have f7 := h7.frozen 1
  have H7 := Lib.hid h7
  rw [← HU.out] at t1'
  have hw : wrap64 (u + m) = u + m := IntWalk.wrap64_in _ (by omega)
  have hw2 : IntKind.i64.wrap (u + m) = u + m := IntWalk.i64_in _ (by omega)
  clear h7 cP t0' t2' u0 u1 v0 v1 w0 w1
  go_wp2
  go_ret
  have hf := H7.out.set 1 (.int .i64 (u + m)) (u' := u + m) (C' := C.op.setL (putL ⟨nm, b0 ++ l, s0⟩ C.L)) rfl rfl
  rw [HU.out, show ((tot C.L : Nat) : Int) + (m : Nat) = ((tot C.L + m : Nat) : Int) by omega, ← htl] at hf
  rw [HU.out, show ((tot C.L : Nat) : Int) + (m : Nat) = ((tot C.L + m : Nat) : Int) by omega, ← htl]
  have z6 := k6.size
  refine ⟨mv7, _, rfl, hf, ((k6.mono (T := ImS g mv Q) (fun k hk e => ?_)).trans k7 (fun k hk e => ?_)).setCell (p := ⟨g, 1, none⟩) (fun _ => .inl rfl) _, ?_⟩
  · rcases e with e | e | e
    · exact .inl e
    · exact ownS k e
    · omega
  · rcases e with e | e
    · exact .inl e
    · exact .inr (.inl e)
  · rintro k (e | e | ⟨p, hp, e⟩)
    · exact .inl (.inl e)
    · rcases n7 k e with e | e
      · exact .inl (.inr (.inl e))
      · exact .inr (Nat.le_trans z6 e)
    · rcases mem_putQ hp with rfl | ⟨hp, _⟩
      · rcases HL5.out with e5 | e5
        · exact .inl (ownS k (e5 ▸ e))
        · rw [e5] at e
          injection e with e
          right; omega
      · exact .inl (.inr (.inr ⟨p, hp, e⟩))

set_option maxHeartbeats 4000000 in
set_option maxRecDepth 100000 in
theorem dAppend_okF (w : World) (B g : Nat) (mv : Value) (Q : List (Value × RF)) (C : CD) (nm : ByteArray) (A : Option Addr) (m c : Nat) (l : List UInt8) (h : ImAt w B g mv Q C) (hi : Inv C) (hn : C.n ≤ 1000000) (hnm : nm.size ≤ 1000000) (hl : l.length = m) (hm : m ≤ 1000000) (hb : Bts w A l) (hA : A = none → c = 0) (hB : B ≤ w.heap.size) (ho : offC C = false) (hbd : badN nm = false) (a0 : Option Addr) (n0 k0 s0 : Nat) (b0 : List UInt8) (hsv : hsQ nm Q = false) (hlk : lkV nm Q = .agg #[.slice a0 n0 k0, .int .i64 s0]) (d1 : decide ((3000 : Int) ≤ (Q.length : Int)) = false) (d2 : ¬ (C.room : Int) - (tot C.L : Int) < m) (hl0 : b0.length = n0) (hn0 : n0 ≤ 10000000) (own0 : w.ownsRow B 5 1 (.slice a0 n0 k0) n0 (Lib.byteCells b0)) (ownS : ∀ k, (Value.slice a0 n0 k0).ownBlock = some k → ImS g mv Q k) (ownG : ∀ k, (Value.slice a0 n0 k0).ownBlock = some k → k ≠ g) (far0 : ∀ p ∈ delQ nm Q, ∀ k, p.1.ownBlock = some k → (Value.slice a0 n0 k0).ownBlock ≠ some k) (hAS : ∀ x, A = some x → ¬ ImS g mv Q x.block) (htl : tot (putL ⟨nm, b0 ++ l, s0⟩ C.L) = tot C.L + m) :
    Calls Try.prog 16 #[.pointer (some ⟨g, 0, none⟩), .string nm, .slice A m c] w (ImRes w B g mv Q (0, C.op.setL (putL ⟨nm, b0 ++ l, s0⟩ C.L))) := by
  have cO := dOp w B g mv Q _ C h hi hn
  have cN := fun W => dNamed nm W
  rw [ho] at cO
  rw [hbd] at cN
  have hQL : Q.length ≤ 3000 := by have e := congrArg List.length h.2.1; rw [List.length_map] at e; rw [e]; exact hi.len
  have hroom := hi.room
  have htot := hi.tot
  clear hi hbd
  obtain ⟨rm, hrm⟩ : ∃ x : Int, x = C.room := ⟨_, rfl⟩
  obtain ⟨u, hu⟩ : ∃ x : Int, x = tot C.L := ⟨_, rfl⟩
  have bu0 : 0 ≤ u := by omega
  have bu1 : u ≤ rm := by omega
  have bu2 : rm ≤ 8388608 := by omega
  rw [← hrm, ← hu] at d2
  have HR := Lib.hid hrm
  have HU := Lib.hid hu
  clear hrm hu
  have HH := Lib.hid h
  clear h
  go_enter Try.func16, Try.ntmps16
  go_wp2_with (go_at_call 40; (with_reducible refine cO.mono ?_))
  rintro e W1 ⟨rfl, h1, k1, s1⟩
  have H1 := Lib.hid h1
  clear h1 cO
  go_wp2_with (go_at_call 41; (with_reducible refine (cN _).mono ?_))
  rintro e W2' ⟨rfl, q, rfl⟩
  obtain ⟨W2, hW2⟩ : ∃ W, W = W1.drewN q := ⟨_, rfl⟩
  have h2 : ImR W2 B g mv Q (tot C.L) C.op := by rw [hW2]; exact H1.out.drewN q
  have k2 : Kept (fun k => k = g) w W2 := by rw [hW2]; exact k1.drewN q
  rw [← hW2]
  clear hW2 H1 k1 s1
  obtain ⟨t0, t1, t2, _, _, _⟩ := h2.cell
  have lk := (h2.2.2.2.1.look nm (by unfold maxLen; omega)).1
  rw [hsv, hlk] at lk
  have HL := Lib.hid hlk
  clear hlk hsv
  go_wp2
  obtain ⟨W3, hW3⟩ : ∃ W, W = W2.alloc (.cells #[.slice a0 n0 k0, .int .i64 s0] 77) := ⟨_, rfl⟩
  have h3 : ImR W3 B g mv Q (tot C.L) C.op := by rw [hW3]; exact h2.alloc _
  have k3 : Kept (fun k => k = g) w W3 := by rw [hW3]; exact k2.alloc _
  have r3 := heap_alloc_new W2 (.cells #[.slice a0 n0 k0, .int .i64 s0] 77)
  rw [← hW3] at r3 ⊢
  have s3 : W2.heap.size < W3.heap.size := by rw [hW3]; simp
  have z2 := k2.size
  clear hW3 t0 t1 t2 lk h2 k2
  obtain ⟨t0', t1, t2, _, _, _⟩ := h3.cell
  have t0 : W3.cell? ⟨g, 0, none⟩ = some (.int .i64 C.room) := t0'
  clear t0'
  have hw : IntKind.i64.wrap (rm - u) = rm - u := IntWalk.i64_in _ (by omega)
  have hw2 : wrap64 (rm - u) = rm - u := IntWalk.wrap64_in _ (by omega)
  rw [← HR.out] at t0
  rw [← HU.out] at t1
  have hlen : ∀ k, (Builtin.len_ #[60] 3 #[mv]).run Try.prog (W3.drewN k) = .ok (.int .i64 Q.length) (W3.drewN k) := fun k => (h3.drewN k).2.2.2.1.len _
  have H3 := Lib.hid h3
  clear h3
  go_quiet (fail)
  obtain ⟨W4, hW4⟩ : ∃ W, W = W3.drewN nq := ⟨_, rfl⟩
  rw [← hW4]
  have h4 : ImR W4 B g mv Q (tot C.L) C.op := by rw [hW4]; exact H3.out.drewN nq
  have k4 : Kept (fun k => k = g) w W4 := by rw [hW4]; exact k3.drewN nq
  have r4 : W4.heap[W2.heap.size]? = some (.cells #[.slice a0 n0 k0, .int .i64 s0] 77 (0, 0)) := by rw [hW4]; exact r3
  have s4 : W2.heap.size < W4.heap.size := by rw [hW4]; exact s3
  clear hW4 r3 k3 H3 hlen t0 t1 t2 hw hw2 s3
  obtain ⟨V, hV⟩ : ∃ V, V = W2.heap.size := ⟨_, rfl⟩
  rw [← hV] at r4 s4 z2 ⊢
  clear hV
  obtain ⟨x0, x1, y0, y1⟩ := pair_cells r4
  obtain ⟨i0, hi, hz0, hz1, hz2⟩ := info_parts infoByte8
  have o4 := Kept.own own0 k4 (fun k e e2 => ownG k e e2)
  have b4 := Bts.kept hb k4 (fun x hx e => hAS x hx (.inl e))
  have hB4 : B ≤ W4.heap.size := Nat.le_trans hB k4.size
  go_wp2_with (at_builtin; go_loud (refine wpList_append_btsAt _ rfl _ _ 39 rfl B 5 i0 Try.underlying39 hi hz0 hz1 hz2 _ _ _ rfl o4 _ _ _ l rfl hl b4 hA (by omega) hB4 ?_))
  intro v5 W5 o5 g5 l5
  obtain ⟨a5, c5, rfl⟩ := own_slice o5
  rw [byteCells_app] at o5
  have hVo := own_ne r4 o4 (by decide)
  have k5 : Kept (fun k => (Value.slice a0 n0 k0).ownBlock = some k) W4 W5 := (Kept.refl _ W4).grown g5 (fun k hk _ => hk)
  have r5 : W5.heap[V]? = some (.cells #[.slice a0 n0 k0, .int .i64 s0] 77 (0, 0)) := (k5.block V s4 hVo).trans r4
  have r6 : (W5.setCell ⟨V, 0, none⟩ (.slice a5 (n0 + m) c5)).heap[V]? = some (.cells #[.slice a5 (n0 + m) c5, .int .i64 s0] 77 (0, 0)) := by rw [heap_setCell_same _ V 0 _ _ _ r5]; rfl
  obtain ⟨u0, u1, v0, v1⟩ := pair_cells r5
  obtain ⟨w0, w1, _, _⟩ := pair_cells r6
  have k6 : Kept (fun k => k = g ∨ (Value.slice a0 n0 k0).ownBlock = some k ∨ k = V) w (W5.setCell ⟨V, 0, none⟩ (.slice a5 (n0 + m) c5)) :=
    ((k4.mono (T := fun k => k = g ∨ (Value.slice a0 n0 k0).ownBlock = some k ∨ k = V) (fun k _ e => .inl e)).trans k5 (fun k _ e => .inr (.inl e))).setCell (p := ⟨V, 0, none⟩) (fun _ => .inr (.inr rfl)) _
  have kk : Kept (fun k => (Value.slice a0 n0 k0).ownBlock = some k ∨ k = V) W4 (W5.setCell ⟨V, 0, none⟩ (.slice a5 (n0 + m) c5)) :=
    (k5.mono (T := fun k => (Value.slice a0 n0 k0).ownBlock = some k ∨ k = V) (fun k _ e => .inl e)).setCell (p := ⟨V, 0, none⟩) (fun _ => .inr rfl) _
  have kv : Kept (fun k => k = V) W5 (W5.setCell ⟨V, 0, none⟩ (.slice a5 (n0 + m) c5)) := Kept.cellG 0 _
  have o6 := Kept.own o5 kv (fun k e e2 => own_ne r5 o5 (by decide) (e2 ▸ e))
  have hVg : ∀ k, ImS g mv Q k → k ≠ V := fun k hk e => by have := (HH.out.ltS k hk).2; omega
  have hP : PutPre (W5.setCell ⟨V, 0, none⟩ (.slice a5 (n0 + m) c5)) B g mv Q (tot C.L) C.op (.slice a5 (n0 + m) c5, ⟨nm, b0 ++ l, s0⟩) := by
    refine ⟨h4.1, h4.2.1, (kk.block g h4.lt ?_).trans h4.2.2.1, h4.2.2.2.1.kept kk ?_, fun p hp => Kept.own (h4.2.2.2.2.1 p (mem_delQ hp).1) kk ?_, h4.2.2.2.2.2.filter _, by rw [List.length_append, hl0, hl]; exact o6, fun p hp k hk e => ?_⟩
    · rintro (e | e)
      · exact ownG g e rfl
      · exact hVg g (.inl rfl) e
    · rintro k e (e2 | e2)
      · exact h4.2.2.2.1.ne_own o4 k e2 e
      · exact hVg k (.inr (.inl e)) e2
    · rintro k e (e2 | e2)
      · exact far0 p hp k e e2
      · exact hVg k (.inr (.inr ⟨p, (mem_delQ hp).1, e⟩)) e2
    · rcases l5 with l5 | l5
      · exact far0 p hp k hk (l5 ▸ e)
      · rw [l5] at e
        injection e with e
        have := (h4.ltS k (.inr (.inr ⟨p, (mem_delQ hp).1, hk⟩))).2
        omega
  have cP := dPut _ B g mv Q (tot C.L) C.op a5 (n0 + m) c5 s0 nm (b0 ++ l) hP hnm (by omega) (by have := k6.size; omega)
  have hsz : W4.heap.size ≤ W5.heap.size := k5.size
  have HL5 := Lib.hid l5
  have H4 := Lib.hid h4
  clear h4 hP o6 kv kk k5 r5 r6 o5 g5 l5 x0 x1 y0 y1 r4 o4 b4 hVo k4
  go_wp2_with (go_at_call 42; (with_reducible refine cP.mono ?_))
  rintro e W7 ⟨mv7, rfl, h7, k7, n7⟩
  obtain ⟨t0', t1', t2', _, _, _⟩ := h7.cell
  have f7 := h7.frozen 1
  have H7 := Lib.hid h7
  rw [← HU.out] at t1'
  have hw : wrap64 (u + m) = u + m := IntWalk.wrap64_in _ (by omega)
  have hw2 : IntKind.i64.wrap (u + m) = u + m := IntWalk.i64_in _ (by omega)
  clear h7 cP t0' t2' u0 u1 v0 v1 w0 w1
  go_wp2
  go_ret
  have hf := H7.out.set 1 (.int .i64 (u + m)) (u' := u + m) (C' := C.op.setL (putL ⟨nm, b0 ++ l, s0⟩ C.L)) rfl rfl
  rw [HU.out, show ((tot C.L : Nat) : Int) + (m : Nat) = ((tot C.L + m : Nat) : Int) by omega, ← htl] at hf
  rw [HU.out, show ((tot C.L : Nat) : Int) + (m : Nat) = ((tot C.L + m : Nat) : Int) by omega, ← htl]
  have z6 := k6.size
  refine ⟨mv7, _, rfl, hf, ((k6.mono (T := ImS g mv Q) (fun k hk e => ?_)).trans k7 (fun k hk e => ?_)).setCell (p := ⟨g, 1, none⟩) (fun _ => .inl rfl) _, ?_⟩
  · rcases e with e | e | e
    · exact .inl e
    · exact ownS k e
    · omega
  · rcases e with e | e
    · exact .inl e
    · exact .inr (.inl e)
  · rintro k (e | e | ⟨p, hp, e⟩)
    · exact .inl (.inl e)
    · rcases n7 k e with e | e
      · exact .inl (.inr (.inl e))
      · exact .inr (Nat.le_trans z6 e)
    · rcases mem_putQ hp with rfl | ⟨hp, _⟩
      · rcases HL5.out with e5 | e5
        · exact .inl (ownS k (e5 ▸ e))
        · rw [e5] at e
          injection e with e
          right; omega
      · exact .inl (.inr (.inr ⟨p, hp, e⟩))

end Go.Proofs.Ytbolminblofhgaa
