/-
  The reference's Copy.
-/
import Derived.Test.YtbolminblofhgaaDkK
set_option linter.unusedVariables false
namespace Go.Proofs.Ytbolminblofhgaa
open Go.RowKit

section
variable {P : Program} (w : World)
/-- A row that is owned appended to another, as one step of a region that draws. -/
theorem step_append_row {ops : Array Oper} {o : Oper} {a : Act} {K : Act → World → Prop} {Q : Exit → Act → World → Prop} {E : Prop} (hgd : o.guard = none) (s x : Operand) (t : TypeId)
    (ho : o.op = .call { callee := .builtin .append, args := #[s, x], argTypes := #[t, t] })
    (base : Nat) (e : TypeId) (i : TypeInfo) (z : Value) (size bytes : Nat) (ht : P.underlying t = some (.slice e)) (hi : P.info? e = some i) (hz : i.zero = some z)
    (hsize : i.size = size) (hby : i.bytes = bytes) (hzs : z.cells.size = size) (hsz : 0 < size)
    (v : Value) (n : Nat) (xs : List Value) (hs : a.eval s = v) (hown : w.ownsRow base e size v n xs)
    (B2 : Nat) (A : Option Addr) (m c : Nat) (news : List Value) (hx : a.eval x = .slice A m c) (hsrc : w.ownsRow B2 e size (.slice A m c) m news) (h1 : ∀ u ∈ news, u.oneCell' = true) (h63 : n + m ≤ maxLen) (hbytes : (n + m) * bytes ≤ 140737488355328) (hbase : base ≤ w.heap.size) (N : Nat) (hN : n + m = N)
    (h : ∀ (A' : Option Addr) (c' : Nat) w', w'.ownsRow base e size (.slice A' N c') N (xs ++ news) → w.grownBy w' v.ownBlock → ((Value.slice A' N c').ownBlock = v.ownBlock ∨ (Value.slice A' N c').ownBlock = some w.heap.size) → K (a.put o.dst (.slice A' N c')) w') :
    if Region.wanted o (yielded ops a.tmps) = true then Oper.wp P o a w K Q else E := by
  have hw : Region.wanted o (yielded ops a.tmps) = true := by simp [Region.wanted, hgd]
  rw [if_pos hw]
  subst hN
  have hR : ∃ v' w', (Builtin.append_ #[t, t] o.type #[v, .slice A m c]).run P w = .ok v' w' ∧ w'.ownsRow base e size v' (n + m) (xs ++ news) ∧ w.grownBy w' v.ownBlock ∧ (v'.ownBlock = v.ownBlock ∨ v'.ownBlock = some w.heap.size) := by
    rcases hsrc.2 with ⟨h0, hm⟩ | ⟨g', cap', cur, h0, _⟩
    · injection h0 with e1 e2 e3
      subst e1 e2 e3
      have hn : news = [] := by
        have := hsrc.1
        simpa using this
      subst hn
      exact ⟨v, w, run_append_owned_none w base t o.type e i size ht hi v n xs hown, by simpa using hown, World.grownBy.refl w _, .inl rfl⟩
    · injection h0 with e1 e2 e3
      subst e1 e3
      obtain ⟨v', w', k1, k2, k3, _, k4⟩ := run_append_own_at (P := P) w base t o.type e i z size bytes ht hi hz hsize hby hzs hsz v n xs hown ⟨g', 0, none⟩ m c news hsrc.1 (fun j u hj => hsrc.cells (g := g') rfl j u hj) h1 h63 hbytes hbase
      exact ⟨v', w', k1, k2, k3, k4⟩
  obtain ⟨v', w', hr, h2, h3, h4⟩ := hR
  obtain ⟨A', c', rfl⟩ := own_slice h2
  unfold Oper.wp execOp
  simp only [ho, resolve, invoke, builtin, Sem.run_bind, Sem.run_pure, Result.andThen_ok, List.map_toArray, List.map_cons, List.map_nil, hs, hx, hr]
  exact h _ _ w' h2 h3 h4
end

def RCopyPost (w : World) (B : Nat) (Q : List (Value × RF)) (M : RD) (e : Ending) (w' : World) : Prop :=
  ∃ G v', e = .returned (.pointer (some ⟨G, 0, none⟩)) ∧ DkAt w' B G v' Q M ∧ Below w.heap.size w w' ∧ ∀ k, DkS G v' k → w.heap.size ≤ k

set_option maxHeartbeats 8000000 in
set_option maxRecDepth 100000 in
theorem rCopy (w : World) (B g : Nat) (v : Value) (Q : List (Value × RF)) (M : RD) (h : DkAt w B g v Q M) (hq : Q.length ≤ 100000) (hB : B ≤ w.heap.size) :
    Calls Try.prog 36 #[.pointer (some ⟨g, 0, none⟩)] w (RCopyPost w B Q M) := by
  obtain ⟨i0, hi, hz0, hz1, hz2⟩ := info_parts infoFile
  obtain ⟨a, cp, rfl⟩ := own_slice h.2.2.2.1
  obtain ⟨d0, d1, d2, d3⟩ := h.cell
  obtain ⟨rm, hrm⟩ : ∃ x : Int, x = (M.room : Int) := ⟨_, rfl⟩
  obtain ⟨nn, hnn⟩ : ∃ x : Int, x = (M.n : Int) := ⟨_, rfl⟩
  obtain ⟨la, hla⟩ : ∃ x : Int, x = M.last := ⟨_, rfl⟩
  rw [← hrm] at d0
  rw [← hnn] at d2
  rw [← hla] at d3
  have H := Lib.hid h
  have HRM := Lib.hid hrm
  have HNN := Lib.hid hnn
  have HLA := Lib.hid hla
  have hbz : Below w.heap.size w (w.alloc (.cells #[] 88)).drew := ((Below.refl _ w).alloc (Nat.le_refl _) _).drew
  have hO0 : (w.alloc (.cells #[] 88)).ownsRow w.heap.size 88 3 (.slice (some ⟨w.heap.size, 0, none⟩) 0 0) 0 [] := World.ownsRow_lit w #[] 0 (Nat.le_refl _) (Nat.zero_le _) rfl
  have hO := hO0.drew
  have hS : (w.alloc (.cells #[] 88)).drew.ownsRow B 88 3 (.slice a Q.length cp) Q.length (rowOf fC Q) := Kept.own h.2.2.2.1 (Kept.of_below (S := fun _ => False) hbz) (fun _ _ h => h)
  have hone := h.one Q (fun _ h => h)
  have hltg : g < w.heap.size := h.lt
  have hsA : (w.alloc (.cells #[] 88)).drew.heap.size = w.heap.size + 1 := by simp
  have nO : ∀ i, i < w.heap.size → some i ≠ (Value.slice (some ⟨w.heap.size, 0, none⟩) 0 0).ownBlock := fun i hi e => by injection e with e; exact absurd e (by show i ≠ w.heap.size; omega)
  have dA0 : (w.alloc (.cells #[] 88)).drew.cell? ⟨g, 0, none⟩ = some (.int .i64 rm) := alloc_cell d0 _
  have dA1 : (w.alloc (.cells #[] 88)).drew.cell? ⟨g, 1, none⟩ = some (.slice a Q.length cp) := alloc_cell d1 _
  have dA2 : (w.alloc (.cells #[] 88)).drew.cell? ⟨g, 2, none⟩ = some (.int .i64 nn) := alloc_cell d2 _
  have dA3 : (w.alloc (.cells #[] 88)).drew.cell? ⟨g, 3, none⟩ = some (.int .i64 la) := alloc_cell d3 _
  clear h hrm hnn hla hO0
  go_enter Try.func36, Try.ntmps36
  go_wp2
  go_region_held3 (fun w' => w'.cell? ⟨g, 0, none⟩ = some (.int .i64 rm) ∧ w'.cell? ⟨g, 1, none⟩ = some (.slice a Q.length cp) ∧ w'.cell? ⟨g, 2, none⟩ = some (.int .i64 nn) ∧ w'.cell? ⟨g, 3, none⟩ = some (.int .i64 la))
    (first
      | go_keep
      | exact ⟨gA0, gA1, gA2, gA3⟩
      | exact ⟨alloc_cell gA0 _, alloc_cell gA1 _, alloc_cell gA2 _, alloc_cell gA3 _⟩)
    (first
      | ((refine step_append_row (w.alloc (.cells #[] 88)).drew (by rfl) (.tmp 7) (.tmp 11) 63 (by rfl) w.heap.size 88 i0 (.agg #[.string ByteArray.empty, .slice none 0 0, .int .i64 0]) 3 48 Try.underlying63 hi hz0 hz1 hz2 rfl (by decide) (.slice (some ⟨w.heap.size, 0, none⟩) 0 0) 0 [] (by rfl) hO B a Q.length cp (rowOf fC Q) (by rfl) hS hone (by unfold maxLen; omega) (by omega) (by simp) Q.length (by omega) ?_; intro aA cA wA hownA hgA hatA; have zA : w.heap.size < wA.heap.size := (by have := hgA.size; rw [hsA] at this; omega); have gA0 := (hgA.cell_far ⟨g, 0, none⟩ (by rw [hsA]; show g < _; omega) (nO g hltg)).trans dA0; have gA1 := (hgA.cell_far ⟨g, 1, none⟩ (by rw [hsA]; show g < _; omega) (nO g hltg)).trans dA1; have gA2 := (hgA.cell_far ⟨g, 2, none⟩ (by rw [hsA]; show g < _; omega) (nO g hltg)).trans dA2; have gA3 := (hgA.cell_far ⟨g, 3, none⟩ (by rw [hsA]; show g < _; omega) (nO g hltg)).trans dA3)))
  all_goals (
    have hbA : Below w.heap.size w wA := below_grown hbz (Nat.le_refl _) hO hgA
    have hA := H.out.kept (S := fun _ => False) (Kept.of_below hbA) (fun _ _ h => h) (fun _ _ _ _ h => h)
    have hfr := own_lt hownA
    have hownB := own_low hownA hB
    have HBA := Lib.hid hbA
    have HA := Lib.hid hA
    have HFR := Lib.hid hfr
    have HOB := Lib.hid hownB
    clear hbA hA hfr hownB hownA hgA hatA gA0 gA1 gA2 gA3 dA0 dA1 dA2 dA3 hO hS hbz hsA nO
    go_wp2
    go_ret
    rw [HRM.out, HNN.out, HLA.out]
    refine ⟨_, _, rfl, ⟨?_, HA.out.2.1, heap_alloc_new wA _, Kept.own HOB.out ((Kept.refl (fun _ => False) wA).alloc _) (fun _ _ h => h), fun q hq => Kept.own (HA.out.2.2.2.2 q hq) ((Kept.refl (fun _ => False) wA).alloc _) (fun _ _ h => h)⟩, HBA.out.alloc HBA.out.size _, ?_⟩
    · omega
    · rintro k (e | e)
      · rw [e]; exact Nat.le_of_lt zA
      · exact (HFR.out k e).1)

end Go.Proofs.Ytbolminblofhgaa
