/-
  Package disk: Sync, Remove, Rename, whatever comes; of nothing; Read.
-/
import Derived.Test.YtbolminblofhgaaDsI
set_option linter.unusedVariables false
namespace Go.Proofs.Ytbolminblofhgaa
open Go.RowKit

theorem ImR.getL {w : World} {B g : Nat} {mv : Value} {Q : List (Value × RF)} {u : Int} {C : CD} (h : ImR w B g mv Q u C) (nm : ByteArray) : (getQ nm Q).map Prod.snd = getL nm C.L := by
  rw [getQ_snd, h.2.1]
theorem resC_off {C : CD} {x : Int × List RF} (ho : offC C = true) : resC C x = (9, C.op) := by unfold resC; rw [if_pos ho]
theorem resC_on {C : CD} {x : Int × List RF} (ho : offC C = false) : resC C x = (x.1, C.op.setL x.2) := by unfold resC; rw [if_neg (by rw [ho]; decide)]

theorem sync_inv {C : CD} (hi : Inv C) (hr : Rise C.L) (nm : ByteArray) : Inv (resC C (syncL nm C.L)).2 := by
  have ho := hi.op
  cases hoff : offC C with
  | true => rw [resC_off hoff]; exact ho
  | false =>
    rw [resC_on hoff]
    unfold syncL
    cases hg : getL nm C.L with
    | none => exact ho
    | some f =>
      obtain ⟨h1, h2⟩ := put_tot hr ⟨nm, f.b, f.b.length⟩
      simp only [hg] at h1 h2
      have := hi.tot
      have := hi.len
      obtain ⟨hm, hn⟩ := getL_mem hg
      exact putL_inv ho _ (by show nm.size ≤ 100; rw [← hn]; exact hi.nm f hm) (Nat.le_refl _) (by show tot (putL ⟨nm, f.b, f.b.length⟩ C.L) ≤ C.room; omega) (by show (putL ⟨nm, f.b, f.b.length⟩ C.L).length ≤ 3000; omega)
theorem rem_inv {C : CD} (hi : Inv C) (hr : Rise C.L) (nm : ByteArray) : Inv (resC C (remL nm C.L)).2 := by
  have ho := hi.op
  cases hoff : offC C with
  | true => rw [resC_off hoff]; exact ho
  | false =>
    rw [resC_on hoff]
    unfold remL
    cases hg : getL nm C.L with
    | none => exact ho
    | some f => exact delL_inv ho hr nm
theorem ren_inv {C : CD} (hi : Inv C) (hr : Rise C.L) (nm to : ByteArray) : Inv (resC C (renL nm to C.L)).2 := by
  have ho := hi.op
  cases hoff : offC C with
  | true => rw [resC_off hoff]; exact ho
  | false =>
    rw [resC_on hoff]
    unfold renL
    cases hg : getL nm C.L with
    | none => exact ho
    | some f =>
      show Inv (C.op.setL (if badN to then (1, C.L) else if nm = to then (0, C.L) else (0, putL ⟨to, f.b, f.s⟩ (delL nm C.L))).2)
      split
      · exact ho
      · rename_i hbd
        have hnm : to.size ≤ 100 := by
          unfold badN at hbd
          simp only [decide_eq_true_eq] at hbd
          omega
        split
        · exact ho
        · obtain ⟨hm, hn⟩ := getL_mem hg
          have hs := hi.syn f hm
          have e0 := tot_del nm hr.ne
          simp only [hg] at e0
          have e1 := put_tot (hr.del nm) ⟨to, f.b, f.s⟩
          have h1 : tot (putL ⟨to, f.b, f.s⟩ (delL nm C.L)) ≤ tot (delL nm C.L) + f.b.length := by have := e1.1; simp only at this; omega
          have h2 : (putL ⟨to, f.b, f.s⟩ (delL nm C.L)).length ≤ (delL nm C.L).length + 1 := by have := e1.2; rw [this]; split <;> omega
          have := hi.tot
          have := hi.len
          have hd := delL_inv ho hr nm
          exact putL_inv (C := C.op.setL (delL nm C.L)) hd ⟨to, f.b, f.s⟩ hnm hs (by show tot (putL ⟨to, f.b, f.s⟩ (delL nm C.L)) ≤ C.room; omega) (by show (putL ⟨to, f.b, f.s⟩ (delL nm C.L)).length ≤ 3000; omega)

section
variable (w : World) (B g : Nat) (mv : Value) (Q : List (Value × RF)) (C : CD) (nm : ByteArray) (h : ImAt w B g mv Q C) (hi : Inv C) (hn : C.n ≤ 1000000) (hnm : nm.size ≤ 1000000) (hB : B ≤ w.heap.size)
include h hi hn hnm hB
theorem dSync : Calls Try.prog 17 #[.pointer (some ⟨g, 0, none⟩), .string nm] w (ImRes w B g mv Q (resC C (syncL nm C.L))) := by
  have hgq := h.getL nm
  cases ho : offC C with
  | true => rw [resC_off ho]; exact dSync_9 w B g mv Q C nm (dAt_off w B g mv Q _ C nm h hi hn ho)
  | false =>
    rw [resC_on ho]
    cases hg : getQ nm Q with
    | none =>
      rw [hg] at hgq
      unfold syncL
      rw [← hgq]
      exact dSync_4 w B g mv Q C nm (dAt_none w B g mv Q _ C nm h hi hn hnm ho hg)
    | some q =>
      obtain ⟨v0, f⟩ := q
      rw [hg] at hgq
      unfold syncL
      rw [← hgq]
      obtain ⟨hqm, hqn⟩ := getQ_mem hg
      obtain ⟨a0, k0, hv0⟩ := own_slice (h.2.2.2.2.1 _ hqm)
      simp only at hv0
      subst hv0
      exact dSync_ok w B g mv Q C nm h hi hn hnm hB ho a0 _ k0 f.s f rfl hg rfl
theorem dRemove : Calls Try.prog 27 #[.pointer (some ⟨g, 0, none⟩), .string nm] w (ImRes w B g mv Q (resC C (remL nm C.L))) := by
  have hgq := h.getL nm
  cases ho : offC C with
  | true => rw [resC_off ho]; exact dRemove_9 w B g mv Q C nm (dAt_off w B g mv Q _ C nm h hi hn ho)
  | false =>
    rw [resC_on ho]
    cases hg : getQ nm Q with
    | none =>
      rw [hg] at hgq
      unfold remL
      rw [← hgq]
      exact dRemove_4 w B g mv Q C nm (dAt_none w B g mv Q _ C nm h hi hn hnm ho hg)
    | some q =>
      obtain ⟨v0, f⟩ := q
      rw [hg] at hgq
      unfold remL
      rw [← hgq]
      obtain ⟨hqm, hqn⟩ := getQ_mem hg
      obtain ⟨a0, k0, hv0⟩ := own_slice (h.2.2.2.2.1 _ hqm)
      simp only at hv0
      subst hv0
      exact dRemove_ok w B g mv Q C nm h hi hn hnm hB ho a0 _ k0 f.s f rfl hg rfl
theorem dRename (to : ByteArray) (hto : to.size ≤ 1000000) : Calls Try.prog 26 #[.pointer (some ⟨g, 0, none⟩), .string nm, .string to] w (ImRes w B g mv Q (resC C (renL nm to C.L))) := by
  have hgq := h.getL nm
  have hgt := h.getL to
  have cN := fun W => dNamed to W
  cases ho : offC C with
  | true => rw [resC_off ho]; exact dRename_9 w B g mv Q C nm to (dAt_off w B g mv Q _ C nm h hi hn ho)
  | false =>
    rw [resC_on ho]
    cases hg : getQ nm Q with
    | none =>
      rw [hg] at hgq
      unfold renL
      rw [← hgq]
      exact dRename_4 w B g mv Q C nm to (dAt_none w B g mv Q _ C nm h hi hn hnm ho hg)
    | some q =>
      obtain ⟨v0, f⟩ := q
      rw [hg] at hgq
      unfold renL
      rw [← hgq]
      obtain ⟨hqm, hqn⟩ := getQ_mem hg
      obtain ⟨a0, k0, hv0⟩ := own_slice (h.2.2.2.2.1 _ hqm)
      simp only at hv0
      subst hv0
      cases hbd : badN to with
      | true =>
        rw [hbd] at cN
        exact dRename_bad w B g mv Q C nm h hi hn hnm hB ho a0 _ k0 f.s f rfl hg rfl to hbd cN
      | false =>
        rw [hbd] at cN
        by_cases e : nm = to
        · simp only [Option.map_some, if_pos e]
          exact dRename_same w B g mv Q C nm h hi hn hnm hB ho a0 _ k0 f.s f rfl hg rfl to hbd cN (txt_eq e)
        · simp only [Option.map_some, if_neg e]
          cases hgT : getQ to Q with
          | none =>
            rw [hgT] at hgt
            exact dRename_ok w B g mv Q C nm h hi hn hnm hB ho a0 _ k0 f.s f rfl hg rfl to hbd cN (txt_ne e) e hto none 0 0 0 (by unfold lkV; rw [hgT]; rfl) (by unfold oldN; rw [← hgt]; rfl)
          | some p =>
            obtain ⟨v1, f1⟩ := p
            rw [hgT] at hgt
            obtain ⟨hpm, hpn⟩ := getQ_mem hgT
            obtain ⟨a1, k1, hv1⟩ := own_slice (h.2.2.2.2.1 _ hpm)
            simp only at hv1
            subst hv1
            exact dRename_ok w B g mv Q C nm h hi hn hnm hB ho a0 _ k0 f.s f rfl hg rfl to hbd cN (txt_ne e) e hto a1 _ k1 f1.s (by unfold lkV; rw [hgT]; rfl) (by unfold oldN; rw [← hgt]; rfl)
end

/-! ### of nothing -/
set_option maxHeartbeats 2000000 in
set_option maxRecDepth 100000 in
theorem dRemove_nil (w : World) (nm : ByteArray) :
    Calls Try.prog 27 #[.pointer none, .string nm] w fun e w' => e = .returned (.int .i64 4) ∧ Below w.heap.size w w' := by
  have cA := dAt_nil w nm
  unfold file0 at cA
  go_enter Try.func27, Try.ntmps27
  go_wp2_with (go_at_call 43; (with_reducible refine cA.mono ?_))
  rintro e W1 ⟨rfl, hb⟩
  go_wp2
  go_ret
  exact ⟨rfl, hb.alloc hb.size _⟩
set_option maxHeartbeats 2000000 in
set_option maxRecDepth 100000 in
theorem dRename_nil (w : World) (nm to : ByteArray) :
    Calls Try.prog 26 #[.pointer none, .string nm, .string to] w fun e w' => e = .returned (.int .i64 4) ∧ Below w.heap.size w w' := by
  have cA := dAt_nil w nm
  unfold file0 at cA
  go_enter Try.func26, Try.ntmps26
  go_wp2_with (go_at_call 43; (with_reducible refine cA.mono ?_))
  rintro e W1 ⟨rfl, hb⟩
  go_wp2
  go_ret
  exact ⟨rfl, hb.alloc hb.size _⟩
set_option maxHeartbeats 2000000 in
set_option maxRecDepth 100000 in
theorem dRead_nil (w : World) (nm : ByteArray) :
    Calls Try.prog 19 #[.pointer none, .string nm] w fun e w' => e = .returned (.tuple #[.slice none 0 0, .int .i64 4]) ∧ Below w.heap.size w w' := by
  go_enter Try.func19, Try.ntmps19
  go_wp2
  go_ret2
  exact ⟨rfl, by first | exact Below.refl _ _ | simpa using (Below.refl _ w).alloc (Nat.le_refl _) _⟩
set_option maxHeartbeats 2000000 in
set_option maxRecDepth 100000 in
theorem dNames_nil (w : World) :
    Calls Try.prog 23 #[.pointer none] w fun e w' => e = .returned (.slice none 0 0) ∧ Below w.heap.size w w' := by
  go_enter Try.func23, Try.ntmps23
  go_wp2
  go_ret
  exact ⟨rfl, by first | exact Below.refl _ _ | simpa using (Below.refl _ w).alloc (Nat.le_refl _) _⟩

/-! ### bytes.Clone, Read -/
set_option maxHeartbeats 2000000 in
set_option maxRecDepth 100000 in
theorem dClone_some (x : Addr) (n cap : Nat) (l : List UInt8) (w : World) (hl : l.length = n) (hn : n ≤ 10000000) (hb : Bts w (some x) l) :
    Calls Try.prog 45 #[.slice (some x) n cap] w (OwnPost w.heap.size n l w) := by
  obtain ⟨i0, hi, hz0, hz1, hz2⟩ := info_parts infoByte8
  have ho1 : (w.alloc (.cells #[] 5)).ownsRow w.heap.size 5 1 (.slice (some ⟨w.heap.size, 0, none⟩) 0 0) 0 [] := World.ownsRow_lit w #[] 0 (Nat.le_refl _) (Nat.zero_le _) rfl
  have hb1 : Below w.heap.size w (w.alloc (.cells #[] 5)) := (Below.refl _ w).alloc (Nat.le_refl _) _
  have hB1 := hb.later hb1
  have hE := fun (W : World) => run_eql_slice_nil (P := Try.prog) W 39 5 (some x) n cap Try.underlying39
  go_enter Try.func45, Try.ntmps45
  go_wp2_with (at_builtin; go_loud (refine wpList_append_bts _ rfl _ _ 39 rfl w.heap.size 5 i0 Try.underlying39 hi hz0 hz1 hz2 _ _ _ rfl ho1 _ _ _ l rfl hl hB1 (fun h => by cases h) (by omega) hb1.size ?_))
  intro v2 W2 ho2 hg2
  obtain ⟨a2, k2, rfl⟩ := own_slice ho2
  have hb2 := below_grown hb1 (Nat.le_refl _) ho1 hg2
  have H2 := Lib.hid ho2
  clear ho1 hg2 ho2 hB1
  go_wp2
  go_ret
  exact ⟨a2, k2, rfl, H2.out, hb2⟩
set_option maxHeartbeats 2000000 in
set_option maxRecDepth 100000 in
theorem dClone_none (w : World) :
    Calls Try.prog 45 #[.slice none 0 0] w (OwnPost w.heap.size 0 [] w) := by
  have hE := fun (W : World) => run_eql_slice_nil (P := Try.prog) W 39 5 none 0 0 Try.underlying39
  go_enter Try.func45, Try.ntmps45
  go_wp2
  go_ret
  exact ⟨none, 0, rfl, ⟨rfl, .inl ⟨rfl, rfl⟩⟩, Below.refl _ _⟩
/-- Of a row's first n bytes. -/
theorem dClone (A : Option Addr) (n cap : Nat) (l : List UInt8) (w : World) (hl : l.length = n) (hn : n ≤ 10000000) (hb : Bts w A l) (hA : A = none → cap = 0) :
    Calls Try.prog 45 #[.slice A n cap] w (OwnPost w.heap.size n l w) := by
  rcases A with _ | x
  · obtain rfl := hb.none_nil
    obtain rfl : n = 0 := hl.symm
    obtain rfl := hA rfl
    exact dClone_none w
  · exact dClone_some x n cap l w hl hn hb

end Go.Proofs.Ytbolminblofhgaa
