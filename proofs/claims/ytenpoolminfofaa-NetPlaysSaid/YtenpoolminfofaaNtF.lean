/-
  Package net: Clear (slices.IndexFunc, slices.DeleteFunc).
-/
import Derived.Test.YtenpoolminfofaaNtE
set_option linter.unusedVariables false
namespace Go.Proofs.Ytenpoolminfofaa
open Go.RowKit

/-- Is a packet a node's. -/
def hitB (node f t : Int) : Bool := decide (f = node) || decide (t = node)
def hitP (node : Int) (p : Pk) : Bool := hitB node p.f p.t

set_option maxHeartbeats 4000000 in
set_option maxRecDepth 100000 in
theorem nHit (wx : World) (G : Nat) (node f t : Int) (a : Option Addr) (n c : Nat) (hc : wx.cell? ⟨G, 0, none⟩ = some (.int .i64 node)) :
    Calls Try.prog 31 #[.agg #[.int .i64 f, .int .i64 t, .slice a n c], .pointer (some ⟨G, 0, none⟩)] wx fun e w' => e = .returned (.bool (hitB node f t)) ∧ Below wx.heap.size wx w' := by
  have HB := Lib.hid ((Below.refl _ wx).alloc (Nat.le_refl wx.heap.size) (.cells #[.int .i64 f, .int .i64 t, .slice a n c] 36))
  have hA := alloc_cell hc (.cells #[.int .i64 f, .int .i64 t, .slice a n c] 36)
  by_cases h1 : f = node
  · have e1 : hitB node f t = true := by simp [hitB, h1]
    have e2 : (f == node) = true := by simp [h1]
    rw [e1]
    have H1 := Lib.hid h1
    clear h1
    go_enter Try.func31, Try.ntmps31
    go_wp2
    go_ret
    exact ⟨rfl, HB.out⟩
  · have e1 : hitB node f t = (t == node) := by simp [hitB, h1]; rfl
    have e2 : (f == node) = false := beq_false_of_ne h1
    rw [e1]
    go_enter Try.func31, Try.ntmps31
    go_wp2
    go_ret
    exact ⟨rfl, HB.out⟩

/-- Where the first packet of a node stands; -1: there is none. -/
def idxL (node : Int) (L : List Pk) : Int := match L.findIdx? (hitP node) with | some k => k | none => -1

set_option maxHeartbeats 4000000 in
set_option maxRecDepth 100000 in
theorem nIndex (w : World) (B G gr cp n : Nat) (node : Int) (Q : List (Value × Pk)) (hn : n = Q.length) (hq : Q.length ≤ 100000) (hc : w.cell? ⟨G, 0, none⟩ = some (.int .i64 node))
    (ho : w.ownsRow B 36 3 (.slice (some ⟨gr, 0, none⟩) Q.length cp) Q.length (rowOf pC Q)) (hb : ∀ q ∈ Q, ∃ a c, q.1 = .slice a q.2.b.length c) :
    Calls Try.prog 34 #[.slice (some ⟨gr, 0, none⟩) n cp, .func (.func 31) #[] #[.pointer (some ⟨G, 0, none⟩)]] w fun e w' => e = .returned (.int .i64 (idxL node (Q.map Prod.snd))) ∧ Below w.heap.size w w' := by
  subst hn
  obtain ⟨n, hn⟩ : ∃ n, n = Q.length := ⟨_, rfl⟩
  have HO := Lib.hid ho
  have HN := Lib.hid hn
  have HC := Lib.hid hc
  have HBV := Lib.hid hb
  rw [← hn] at hq ⊢
  clear ho hn hc hb
  go_enter Try.func34, Try.ntmps34
  go_wp2
  go_loopw [8] (fun i wr => ∃ j : Nat, i = .int .i64 j ∧ j ≤ n ∧ Hid (∀ t, t < j → ∀ ht : t < Q.length, hitP node (Q[t]'ht).2 = false) ∧ Below w.heap.size w wr) (fun i _ => n - (intOf i).toNat)
  case atStart => exact ⟨0, rfl, Nat.zero_le _, fun t ht => by omega, Below.refl _ _⟩
  case round =>
    obtain ⟨j, rfl, hj, HNE, hb⟩ := hrel
    by_cases hlt : j < n
    · have hlt2 : j < Q.length := by have := HN.out; omega
      have o1 := Kept.own HO.out (Kept.of_below (S := fun _ => False) hb) (fun _ _ h => h)
      obtain ⟨_, _, hv, _, hcl⟩ := own_cells o1 pC_len rfl (by intro e; rw [e] at hlt2; simp at hlt2)
      injection hv with e1 e2 e3
      injection e1 with e1
      injection e1 with e1
      subst e1
      clear e2 e3
      have x0 := hcl j hlt2 0 (by omega)
      have x1 := hcl j hlt2 1 (by omega)
      have x2 := hcl j hlt2 2 (by omega)
      simp only [Nat.add_zero] at x0
      have hct : wr.cell? ⟨G, 0, none⟩ = some (.int .i64 node) := (hb.cell (p := ⟨G, 0, none⟩) (World.block_lt_of_cell? w _ HC.out)).trans HC.out
      have HNE2 : Hid (∀ h : hitP node (Q[j]'hlt2).2 = false, ∀ t, t < j + 1 → ∀ ht : t < Q.length, hitP node (Q[t]'ht).2 = false) := fun h t ht hl => by
        by_cases e : t = j
        · subst e; exact h
        · exact HNE.out t (by omega) hl
      have HF : Hid (hitP node (Q[j]'hlt2).2 = true → idxL node (Q.map Prod.snd) = (j : Int)) := fun h => by
        unfold idxL
        rw [show (Q.map Prod.snd).findIdx? (hitP node) = some j from by
          rw [List.findIdx?_eq_some_iff_getElem]
          exact ⟨by simpa using hlt2, by simpa using h, fun t ht => by simpa using HNE.out t ht (by omega)⟩]
      obtain ⟨a, c, hab⟩ := HBV.out _ (List.getElem_mem hlt2)
      obtain ⟨q, hq2⟩ : ∃ q, q = Q[j]'hlt2 := ⟨_, rfl⟩
      rw [← hq2] at x0 x1 x2 HNE2 HF hab
      obtain ⟨qv, pf, pt, pb⟩ := q
      simp only at hab
      subst hab
      have x0' : wr.cell? ⟨gr, j * 3, none⟩ = some (.int .i64 pf) := x0
      have x1' : wr.cell? ⟨gr, j * 3 + 1, none⟩ = some (.int .i64 pt) := x1
      have x2' : wr.cell? ⟨gr, j * 3 + 2, none⟩ = some (.slice a pb.length c) := x2
      have cH := nHit wr G node pf pt a pb.length c hct
      obtain ⟨m, hm⟩ : ∃ m, m = pb.length := ⟨_, rfl⟩
      rw [← hm] at x2' cH
      have HB := Lib.hid hb
      clear x0 x1 x2 hcl o1 hb hm hq2 hct
      unfold hitP at HNE2 HF
      simp only at HNE2 HF
      cases hh : hitB node pf pt with
      | true =>
        rw [hh] at cH
        have HV := Lib.hid (HF.out hh)
        clear HF HNE2
        go_wp2_with (go_at_call 31; (with_reducible refine cH.mono ?_); rintro e w' ⟨rfl, hb'⟩)
        go_ret
        rw [HV.out]
        exact ⟨rfl, HB.out.trans (hb'.mono HB.out.size)⟩
      | false =>
        rw [hh] at cH
        have HV : Hid (∀ t, t < j + 1 → ∀ ht : t < Q.length, hitP node (Q[t]'ht).2 = false) := HNE2.out hh
        clear HF HNE2
        go_wp2_with (go_at_call 31; (with_reducible refine cH.mono ?_); rintro e w' ⟨rfl, hb'⟩)
        have HB2 := Lib.hid (HB.out.trans (hb'.mono HB.out.size))
        clear hb'
        go_roundw
        case rel => exact ⟨j + 1, by go_num, by omega, HV, HB2.out⟩
        case measure => simp [intOf]; omega
    · have HV : Hid (idxL node (Q.map Prod.snd) = -1) := by
        show _ = _
        unfold idxL
        rw [show (Q.map Prod.snd).findIdx? (hitP node) = none from by
          rw [List.findIdx?_eq_none_iff]
          intro p hp
          obtain ⟨q', hq', rfl⟩ := List.mem_map.1 hp
          obtain ⟨t, ht, rfl⟩ := List.getElem_of_mem hq'
          exact HNE.out t (by have := HN.out; omega) ht]
      have HB := Lib.hid hb
      clear hb
      go_wp2
      go_ret
      rw [HV.out]
      exact ⟨rfl, HB.out⟩

/-! ### slices.DeleteFunc -/
def keepQ (node : Int) (q : Value × Pk) : Bool := !hitP node q.2
/-- Where DeleteFunc stands: i packets stay of the first j; behind j all are as they were. -/
structure DelInv (node : Int) (Q R : List (Value × Pk)) (i j : Nat) : Prop where
  len : R.length = Q.length
  lt : i < j
  le : j ≤ Q.length
  cnt : ((Q.take j).filter (keepQ node)).length = i
  low : R.take i = (Q.take j).filter (keepQ node)
  high : R.drop j = Q.drop j
theorem DelInv.skip {node : Int} {Q R : List (Value × Pk)} {i j : Nat} (h : DelInv node Q R i j) (hj : j < Q.length) (hk : keepQ node (Q[j]'hj) = false) : DelInv node Q R i (j + 1) := by
  have e : (Q.take (j + 1)).filter (keepQ node) = (Q.take j).filter (keepQ node) := by
    rw [List.take_succ_eq_append_getElem hj, List.filter_append]
    simp [hk]
  refine ⟨h.len, by have := h.lt; omega, hj, by rw [e]; exact h.cnt, by rw [e]; exact h.low, ?_⟩
  have := congrArg (List.drop 1) h.high
  simpa [List.drop_drop] using this
theorem DelInv.at {node : Int} {Q R : List (Value × Pk)} {i j : Nat} (h : DelInv node Q R i j) (hj : j < Q.length) : R[j]'(by rw [h.len]; exact hj) = Q[j]'hj := by
  have h1 := List.drop_eq_getElem_cons (l := R) (i := j) (by rw [h.len]; exact hj)
  have h2 := List.drop_eq_getElem_cons (l := Q) (i := j) hj
  rw [h.high, h2] at h1
  injection h1 with h1 _
  exact h1.symm
theorem DelInv.keep {node : Int} {Q R : List (Value × Pk)} {i j : Nat} (h : DelInv node Q R i j) (hj : j < Q.length) (hk : keepQ node (Q[j]'hj) = true) : DelInv node Q (R.set i (Q[j]'hj)) (i + 1) (j + 1) := by
  have hlt := h.lt
  have hle := h.le
  have hlen := h.len
  have e : (Q.take (j + 1)).filter (keepQ node) = (Q.take j).filter (keepQ node) ++ [Q[j]'hj] := by
    rw [List.take_succ_eq_append_getElem hj, List.filter_append]
    simp [hk]
  refine ⟨by rw [List.length_set, hlen], by omega, hj, by rw [e, List.length_append, h.cnt]; rfl, ?_, ?_⟩
  · rw [e, List.take_set, List.take_succ_eq_append_getElem (by omega), List.set_append_right _ _ (by rw [List.length_take]; omega), List.length_take, show i - min i R.length = 0 by omega, h.low]
    simp
  · rw [List.drop_set_of_lt (by omega)]
    have := congrArg (List.drop 1) h.high
    simpa [List.drop_drop] using this
theorem DelInv.start {node : Int} {Q : List (Value × Pk)} {k : Nat} (hk : k < Q.length) (h1 : hitP node (Q[k]'hk).2 = true) (h0 : ∀ t, t < k → ∀ ht : t < Q.length, hitP node (Q[t]'ht).2 = false) : DelInv node Q Q k (k + 1) := by
  have e : (Q.take k).filter (keepQ node) = Q.take k := List.filter_eq_self.2 (fun q hq => by
    obtain ⟨t, ht, rfl⟩ := List.getElem_of_mem hq
    rw [List.length_take] at ht
    rw [List.getElem_take]
    unfold keepQ
    rw [h0 t (by omega) (by omega)]; rfl)
  have e2 : (Q.take (k + 1)).filter (keepQ node) = Q.take k := by
    rw [List.take_succ_eq_append_getElem hk, List.filter_append, e]
    simp [keepQ, h1]
  exact ⟨rfl, by omega, hk, by rw [e2, List.length_take]; omega, by rw [e2], rfl⟩
theorem DelInv.done {node : Int} {Q R : List (Value × Pk)} {i : Nat} (h : DelInv node Q R i Q.length) : R.take i = Q.filter (keepQ node) ∧ (Q.filter (keepQ node)).length = i := by
  have h1 := h.low
  have h2 := h.cnt
  rw [List.take_length] at h1 h2
  exact ⟨h1, h2⟩
theorem rowOf_setP (Q : List (Value × Pk)) (k : Nat) (hk : k < Q.length) (e : Value × Pk) :
    (((rowOf pC Q).set (k * 3) (.int .i64 e.2.f)).set (k * 3 + 1) (.int .i64 e.2.t)).set (k * 3 + 2) e.1 = rowOf pC (Q.set k e) := by
  induction Q generalizing k with
  | nil => simp at hk
  | cons a r ih =>
    have hc : ∀ (a : Value × Pk) (r : List (Value × Pk)), rowOf pC (a :: r) = .int .i64 a.2.f :: .int .i64 a.2.t :: a.1 :: rowOf pC r := fun a r => by simp [rowOf, pC]
    cases k with
    | zero =>
      rw [hc, List.set_cons_zero, List.set_cons_zero, hc]
      simp
    | succ k =>
      have e1 : (k + 1) * 3 = k * 3 + 1 + 1 + 1 := by omega
      rw [hc, List.set_cons_succ, hc, ← ih k (by simpa using hk), e1]
      simp only [List.set_cons_succ]
theorem rowOf_take (Q : List (Value × Pk)) (i : Nat) (hi : i ≤ Q.length) : (rowOf pC Q).take (i * 3) = rowOf pC (Q.take i) := by
  conv => lhs; rw [← List.take_append_drop i Q, rowOf_append]
  rw [List.take_append_of_le_length (by rw [rowOf_len pC 3 pC_len, List.length_take]; omega), List.take_of_length_le (by rw [rowOf_len pC 3 pC_len, List.length_take]; omega)]

end Go.Proofs.Ytenpoolminfofaa
