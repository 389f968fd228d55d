/-
  Package net: Clear.
-/
import Derived.Test.YtenpoolminfofaaNtG
set_option linter.unusedVariables false
namespace Go.Proofs.Ytenpoolminfofaa
open Go.RowKit

set_option maxHeartbeats 4000000 in
set_option maxRecDepth 100000 in
theorem nIndex_nil (w : World) (f : Value) :
    Calls Try.prog 34 #[.slice none 0 0, f] w fun e w' => e = .returned (.int .i64 (-1)) ∧ w' = w := by
  go_enter Try.func34, Try.ntmps34
  go_wp2
  go_loopw [8] (fun i wr => i = .int .i64 0 ∧ wr = w) (fun i _ => 0)
  case atStart => exact ⟨rfl, rfl⟩
  case round =>
    obtain ⟨rfl, rfl⟩ := hrel
    go_wp2
    go_ret
    exact ⟨rfl, rfl⟩

set_option maxHeartbeats 4000000 in
set_option maxRecDepth 100000 in
theorem nDelFunc_nil (w : World) (f : Value) :
    Calls Try.prog 30 #[.slice none 0 0, f] w fun e w' => e = .returned (.slice none 0 0) ∧ w' = w := by
  have cI := nIndex_nil w f
  go_enter Try.func30, Try.ntmps30
  go_wp2_with (go_at_call 34; (with_reducible refine cI.mono ?_); rintro e w' ⟨rfl, hw'⟩; rw [hw'])
  go_ret
  exact ⟨rfl, rfl⟩

set_option maxHeartbeats 4000000 in
set_option maxRecDepth 100000 in
theorem nClear_nil (w : World) (node : Int) :
    Calls Try.prog 18 #[.pointer none, .int .i64 node] w fun e w' => e = .returned (.int .i64 0) ∧ Below w.heap.size w w' := by
  have HB := Lib.hid ((Below.refl _ w).alloc (Nat.le_refl w.heap.size) (.cells #[.int .i64 node] 3))
  go_enter Try.func18, Try.ntmps18
  go_wp2
  go_ret
  exact ⟨rfl, HB.out⟩

set_option maxHeartbeats 8000000 in
set_option maxRecDepth 100000 in
theorem nClear (w : World) (B g : Nat) (v : Value) (Q : List (Value × Pk)) (L : List Pk) (node : Int) (h : NtAt 46 w B g v Q L) (hB : B ≤ w.heap.size) (hL : L.length ≤ 100000) :
    Calls Try.prog 18 #[.pointer (some ⟨g, 0, none⟩), .int .i64 node] w (ClearPost 46 w B g v Q L node) := by
  have bA : Below w.heap.size w (w.alloc (.cells #[.int .i64 node] 3)) := (Below.refl _ w).alloc (Nat.le_refl _) _
  have gA := heap_alloc_new w (.cells #[.int .i64 node] 3)
  have hc : (w.alloc (.cells #[.int .i64 node] 3)).cell? ⟨w.heap.size, 0, none⟩ = some (.int .i64 node) := by rw [cell_of_row _ _ _ _ _ _ gA]; rfl
  have hA := h.below bA
  have d0 := hA.cell
  have e0 := hA.frozen
  have hlen := h.len
  have hlt := hA.lt
  by_cases hnil : v = .slice none 0 0
  · subst hnil
    have hQ0 : Q.length = 0 := by
      rcases h.row.2 with ⟨_, h0⟩ | ⟨g', cap, cur, hv, _⟩
      · exact h0
      · cases hv
    have hL0 : L = [] := List.length_eq_zero_iff.1 (by omega)
    subst hL0
    have cD := nDelFunc_nil (w.alloc (.cells #[.int .i64 node] 3)) (.func (.func 31) #[] #[.pointer (some ⟨w.heap.size, 0, none⟩)])
    have hQ : Q = [] := List.length_eq_zero_iff.1 hQ0
    subst hQ
    have HR : Hid (NtRel 46 w ((w.alloc (.cells #[.int .i64 node] 3)).setCell ⟨g, 0, none⟩ (.slice none 0 0)) B g (.slice none 0 0) [] (.slice none 0 0) [] []) :=
      ⟨NtAt.mk' hA.low hA.blk hA.typ hA.row hA.byt rfl, (Kept.of_below bA).setCell (p := ⟨g, 0, none⟩) (fun _ => .inl rfl) _, fun k e => .inl e, fun q hq => by cases hq⟩
    clear h hA bA hc gA
    go_enter Try.func18, Try.ntmps18
    go_wp2_with (go_at_call 30; (with_reducible refine cD.mono ?_); rintro e w' ⟨rfl, hw'⟩; rw [hw'])
    go_ret
    exact ⟨_, [], rfl, HR.out⟩
  · obtain ⟨a, cp, rfl⟩ := own_slice h.row
    obtain ⟨gr, rfl⟩ : ∃ gr, a = some ⟨gr, 0, none⟩ := by
      rcases h.row.2 with ⟨hv, _⟩ | ⟨g', cap, cur, hv, _⟩
      · exact absurd hv hnil
      · injection hv with e1 _ _; exact ⟨g', e1⟩
    obtain ⟨hc1, hc2⟩ : Q.length ≤ cp ∧ cp ≤ maxLen := by
      rcases h.row.2 with ⟨hv, _⟩ | ⟨g', cap, cur, hv, _, _, h1, h2, _⟩
      · cases hv
      · injection hv with _ _ e3; subst e3; exact ⟨h1, h2⟩
    have hgrl : gr < w.heap.size := (h.ltS gr (.inr rfl)).2
    have hgr : g ≠ gr := fun e => h.apart (by rw [e]; rfl)
    have cD := nDelFunc _ B w.heap.size gr cp Q.length node Q rfl (by omega) hc1 hc2 hc (by omega) (Nat.le_trans hB bA.size) hA.row (fun q hq => by obtain ⟨a, c, hv⟩ := own_slice (h.byt q hq); exact ⟨a, c, hv⟩)
    have hcm := clear_map node Q
    rw [h.eq] at hcm
    have hcl : (clearL node L).length = (Q.filter (keepQ node)).length := by rw [← hcm, List.length_map]
    have HA := Lib.hid hA
    have HB := Lib.hid bA
    have hql := List.length_filter_le (keepQ node) Q
    have HCM := Lib.hid hcm
    unfold ClearPost
    rw [hcl, ← hlen]
    obtain ⟨nq, hnq⟩ : ∃ n, n = Q.length := ⟨_, rfl⟩
    obtain ⟨nk, hnk⟩ : ∃ n, n = (Q.filter (keepQ node)).length := ⟨_, rfl⟩
    have hq1 : nq ≤ 100000 := by omega
    have HNQ := Lib.hid hnq
    unfold DelPost at cD
    rw [← hnk] at hql cD ⊢
    rw [← hnq] at hql d0 cD ⊢
    have HNK := Lib.hid hnk
    clear h hA bA hc hcl hcm hnq hnk hnil hc1 hc2 gA hlen hL
    go_enter Try.func18, Try.ntmps18
    go_wp2_with (go_at_call 30; (with_reducible refine cD.mono ?_))
    rintro e W1 ⟨rfl, o1, k1⟩
    have d1 : W1.cell? ⟨g, 0, none⟩ = some (.slice (some ⟨gr, 0, none⟩) nq cp) := (k1.cell (p := ⟨g, 0, none⟩) hlt hgr).trans d0
    have e1 : W1.frozen? ⟨g, 0, none⟩ = false := (World.frozen?_of_block (a := ⟨g, 0, none⟩) (k1.block g hlt hgr)).trans e0
    have HA2 := HA.out
    rw [HNK.out] at o1
    have HR0 := HA2.stay (Q' := Q.filter (keepQ node)) (fun q hq => (List.mem_filter.1 hq).1) (L' := clearL node L) HCM.out o1 k1
    rw [← HNK.out, ← HNQ.out] at HR0
    have HR := Lib.hid (HR0.back HB.out)
    clear o1 k1 d0 e0 cD HA2 HR0
    go_wp2
    go_ret
    exact ⟨_, _, rfl, HR.out⟩

end Go.Proofs.Ytenpoolminfofaa
