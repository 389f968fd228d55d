/-
  Package net: rows that are written in place; slices.Delete; Peek, Drop, Deliver.
-/
import Derived.Test.YtenpoolminfofaaNtC
import Derived.Lib.SliceRun
import Derived.Shelf.RegionOpenPlain
set_option linter.unusedVariables false
namespace Go.Proofs.Ytenpoolminfofaa
open Go.RowKit

section
variable {P : Program}
/-- 'clear' of a slice of elements of whatever size. -/
theorem run_clear_any (w : World) (t e : TypeId) (z : Value) (ht : P.underlying t = some (.slice e)) (hv : ∀ w, (zeroValue e).run P w = .ok z w) (h1 : ∀ u ∈ z.cells, u.oneCell' = true) (b o n c : Nat) (hn : 0 < n)
    (hc : ∀ j, j < n * z.cells.size → (w.cell? ⟨b, o + j, none⟩).isSome = true) (hf : ∀ j, j < n * z.cells.size → w.frozen? ⟨b, o + j, none⟩ = false) :
    ∃ Z : List Value, ∀ ty, (Builtin.clear_ #[t] ty #[.slice (some ⟨b, o, none⟩) n c]).run P w = .ok (.tuple #[]) (w.setCells b o Z) := by
  refine ⟨(Builtin.zeroCells z.cells n).toList, fun ty => ?_⟩
  have hl : (Builtin.zeroCells z.cells n).toList.length = n * z.cells.size := by simp [Builtin.zeroCells]
  have hst := run_storeCells_cells (P := P) b o (Builtin.zeroCells z.cells n).toList 0 w (by rw [hl]; simpa using hc) (by rw [hl]; simpa using hf) (by
    intro v hv'
    have hv2 : v ∈ Builtin.zeroCells z.cells n := by simpa using hv'
    simp only [Builtin.zeroCells, Array.mem_map, Array.mem_range] at hv2
    obtain ⟨i, hi, rfl⟩ := hv2
    have hs : 0 < z.cells.size := by
      rcases Nat.eq_zero_or_pos z.cells.size with h | h
      · rw [h] at hi; omega
      · exact h
    have hm := Nat.mod_lt i hs
    rw [getElem!_pos z.cells _ hm]
    exact h1 _ (Array.getElem_mem hm))
  simp only [Nat.add_zero] at hst
  obtain ⟨m, rfl⟩ : ∃ m, n = m + 1 := ⟨n - 1, by omega⟩
  simp [Builtin.clear_, run_underlying ht, hv, hst]
end

theorem Kept.setCells {S : Nat → Prop} {a : World} {g : Nat} (hS : g < a.heap.size → S g) : ∀ (vs : List Value) (o : Nat) {w : World}, Kept S a w → Kept S a (w.setCells g o vs)
  | [], _, _, h => h
  | v :: r, o, w, h => Kept.setCells hS r (o + 1) (h.setCell (p := ⟨g, o, none⟩) hS v)

/-- A row of which some cells are written anew. -/
theorem own_setCells {B k g cap n : Nat} {e : TypeId} : ∀ (vs : List Value) (o : Nat) {w : World} {xs : List Value}, w.ownsRow B e k (.slice (some ⟨g, 0, none⟩) n cap) n xs → o + vs.length ≤ xs.length →
    (w.setCells g o vs).ownsRow B e k (.slice (some ⟨g, 0, none⟩) n cap) n (xs.take o ++ vs ++ xs.drop (o + vs.length))
  | [], o, w, xs, h, _ => by simpa [World.setCells] using h
  | v :: r, o, w, xs, h, hl => by
    have h1 := (h.stored o v).1
    simp only [List.length_cons] at hl
    have h2 := own_setCells r (o + 1) h1 (by rw [List.length_set]; omega)
    have e1 : (xs.set o v).take (o + 1) = xs.take o ++ [v] := by
      rw [List.take_set, List.take_succ_eq_append_getElem (by omega), List.set_append_right _ _ (by rw [List.length_take]; omega), List.length_take, show o - min o xs.length = 0 by omega]
      simp
    have e2 : (xs.set o v).drop (o + 1 + r.length) = xs.drop (o + (r.length + 1)) := by
      rw [List.drop_set_of_lt (by omega), show o + 1 + r.length = o + (r.length + 1) by omega]
    rw [e1, e2] at h2
    simpa [World.setCells] using h2
theorem own_setTail {B k g cap n : Nat} {e : TypeId} : ∀ (vs : List Value) (o : Nat) {w : World} {xs : List Value}, w.ownsRow B e k (.slice (some ⟨g, 0, none⟩) n cap) n xs → n * k ≤ o →
    (w.setCells g o vs).ownsRow B e k (.slice (some ⟨g, 0, none⟩) n cap) n xs
  | [], o, w, xs, h, _ => h
  | v :: r, o, w, xs, h, hl => by
    have h1 := (h.stored o v).1
    rw [List.set_eq_of_length_le (by rw [h.1]; exact hl)] at h1
    exact own_setTail r (o + 1) h1 (by omega)
theorem own_shrink {B k g cap n m : Nat} {e : TypeId} {w : World} {xs : List Value} (h : w.ownsRow B e k (.slice (some ⟨g, 0, none⟩) n cap) n xs) (hm : m ≤ n) :
    w.ownsRow B e k (.slice (some ⟨g, 0, none⟩) m cap) m (xs.take (m * k)) := by
  have hmk : m * k ≤ n * k := Nat.mul_le_mul_right _ hm
  refine ⟨by rw [List.length_take, h.1]; omega, .inr ?_⟩
  rcases h.2 with ⟨hv, _⟩ | ⟨g', cap', cur, hv, hb, hg, h1, h2, h3, h4⟩
  · cases hv
  · injection hv with e1 e2 e3
    injection e1 with e1
    injection e1 with e1
    subst e1 e3
    exact ⟨_, _, cur, rfl, hb, hg, by omega, h2, h3, by rw [← h4, List.take_take, Nat.min_eq_left hmk]⟩

theorem rowOf_erase (Q : List (Value × Pk)) (k : Nat) (hk : k < Q.length) :
    ((rowOf pC Q).take (k * 3) ++ rowOf pC (Q.drop (k + 1)) ++ (rowOf pC Q).drop (k * 3 + (rowOf pC (Q.drop (k + 1))).length)).take ((Q.length - 1) * 3) = rowOf pC (Q.eraseIdx k) := by
  have h1 : (rowOf pC Q).take (k * 3) = rowOf pC (Q.take k) := by
    conv => lhs; rw [← List.take_append_drop k Q, rowOf_append]
    rw [List.take_append_of_le_length (by rw [rowOf_len pC 3 pC_len, List.length_take]; omega), List.take_of_length_le (by rw [rowOf_len pC 3 pC_len, List.length_take]; omega)]
  rw [h1, ← rowOf_append, ← List.eraseIdx_eq_take_drop_succ, List.take_append_of_le_length (by rw [rowOf_len pC 3 pC_len, List.length_eraseIdx, if_pos hk]; omega), List.take_of_length_le (by rw [rowOf_len pC 3 pC_len, List.length_eraseIdx, if_pos hk]; omega)]

theorem zeroP (w : World) : (zeroValue 36).run Try.prog w = .ok (.agg #[.int .i64 0, .int .i64 0, .slice none 0 0]) w := Try.zeroValue36 w

def DelPost (w : World) (B gr cp : Nat) (Q : List (Value × Pk)) (e : Ending) (w' : World) : Prop :=
  e = .returned (.slice (some ⟨gr, 0, none⟩) Q.length cp) ∧ w'.ownsRow B 36 3 (.slice (some ⟨gr, 0, none⟩) Q.length cp) Q.length (rowOf pC Q) ∧ Kept (fun i => i = gr) w w'

set_option maxHeartbeats 4000000 in
set_option maxRecDepth 100000 in
theorem nDelete (w : World) (B gr cp k n : Nat) (Q : List (Value × Pk)) (hk : k < Q.length) (hn : n = Q.length) (hq : Q.length ≤ 100000) (hcap : Q.length ≤ cp) (hcm : cp ≤ maxLen) (ho : w.ownsRow B 36 3 (.slice (some ⟨gr, 0, none⟩) Q.length cp) Q.length (rowOf pC Q)) (h1 : ∀ u ∈ rowOf pC Q, u.oneCell' = true) :
    Calls Try.prog 29 #[.slice (some ⟨gr, 0, none⟩) n cp, .int .i64 k, .int .i64 ((k : Int) + 1)] w (DelPost w B gr cp (Q.eraseIdx k)) := by
  obtain ⟨i0, hi, hz0, hz1, hz2⟩ := info_parts infoPacket
  have hrl : (rowOf pC Q).length = Q.length * 3 := rowOf_len pC 3 pC_len Q
  obtain ⟨news, hnews⟩ : ∃ news, news = rowOf pC (Q.drop (k + 1)) := ⟨_, rfl⟩
  have hnl : news.length = (Q.length - (k + 1)) * 3 := by rw [hnews, rowOf_len pC 3 pC_len, List.length_drop]
  have hsp : rowOf pC Q = rowOf pC (Q.take (k + 1)) ++ news := by rw [hnews, ← rowOf_append, List.take_append_drop]
  have hl2 : (rowOf pC (Q.take (k + 1))).length = (k + 1) * 3 := by rw [rowOf_len pC 3 pC_len, List.length_take]; congr 1; omega
  have hcell : ∀ j, j < Q.length * 3 → ∃ u, (rowOf pC Q)[j]? = some u ∧ w.cell? ⟨gr, j, none⟩ = some u := fun j hj => by
    have := ho.cellAt j hj
    obtain ⟨u, hu⟩ : ∃ u, (rowOf pC Q)[j]? = some u := ⟨(rowOf pC Q)[j]'(by rw [hrl]; exact hj), List.getElem?_eq_getElem _⟩
    exact ⟨u, hu, by rw [this, hu]⟩
  obtain ⟨A, hA, hsrc⟩ : ∃ A : Addr, (if cp = k + 1 then some (⟨gr, 0, none⟩ : Addr) else some ⟨gr, (k + 1) * 3, none⟩) = some A ∧ Hid (∀ t u, news[t]? = some u → w.drew.cell? (A.add t) = some u) := by
    by_cases h : cp = k + 1
    · refine ⟨⟨gr, 0, none⟩, by simp [h], fun t u hu => ?_⟩
      have h0 : news.length = 0 := by rw [hnl]; omega
      rw [List.length_eq_zero_iff.1 h0] at hu
      simp at hu
    · refine ⟨⟨gr, (k + 1) * 3, none⟩, by simp [h], fun t u hu => ?_⟩
      have ht := (List.getElem?_eq_some_iff.1 hu).1
      rw [hnl] at ht
      obtain ⟨u', hu1, hu2⟩ := hcell ((k + 1) * 3 + t) (by omega)
      rw [hsp, List.getElem?_append_right (by omega), hl2, Nat.add_sub_cancel_left, hu] at hu1
      injection hu1 with hu1
      subst hu1
      have e : (⟨gr, (k + 1) * 3, none⟩ : Addr).add t = ⟨gr, (k + 1) * 3 + t, none⟩ := by unfold Addr.add; split <;> simp_all
      rw [e]; exact hu2
  have s1 : Hid (news.length = (Q.length - (k + 1)) * 3) := hnl
  have s2 : Hid (∀ u ∈ news, u.oneCell' = true) := fun u hu => h1 u (by rw [hsp]; exact List.mem_append_right _ hu)
  have s3 : Hid (∀ t, t < news.length → (w.drew.cell? ⟨gr, 0 + k * 3 + t, none⟩).isSome = true ∧ w.drew.frozen? ⟨gr, 0 + k * 3 + t, none⟩ = false) := by
    intro t ht
    rw [hnl] at ht
    obtain ⟨u, _, hu⟩ := hcell (0 + k * 3 + t) (by omega)
    exact ⟨by show (w.cell? _).isSome = true; rw [hu]; rfl, ho.frozenAt _⟩
  obtain ⟨W1, hW1⟩ : ∃ W1, W1 = w.drew.setCells gr (0 + k * 3) news := ⟨_, rfl⟩
  have ho1 : W1.ownsRow B 36 3 (.slice (some ⟨gr, 0, none⟩) Q.length cp) Q.length ((rowOf pC Q).take (k * 3) ++ news ++ (rowOf pC Q).drop (k * 3 + news.length)) := by
    rw [hW1, Nat.zero_add]
    exact own_setCells news (k * 3) (ho.drew) (by rw [hnl, hrl]; omega)
  have K1 : Kept (fun i => i = gr) w W1 := by rw [hW1]; exact Kept.setCells (S := fun i => i = gr) (fun _ => rfl) news _ ((Kept.refl _ w).drew)
  have o2 := own_shrink ho1 (m := Q.length - 1) (by omega)
  rw [hnews, rowOf_erase Q k hk] at o2
  obtain ⟨Z, hcl⟩ : ∃ Z : List Value, ∀ ty, (Builtin.clear_ #[27] ty #[.slice (some ⟨gr, (k + (Q.length - (k + 1))) * 3, none⟩) (Q.length - (k + (Q.length - (k + 1)))) (cp - (k + (Q.length - (k + 1))))]).run Try.prog W1 = .ok (.tuple #[]) (W1.setCells gr ((k + (Q.length - (k + 1))) * 3) Z) :=
    run_clear_any (P := Try.prog) W1 27 36 (.agg #[.int .i64 0, .int .i64 0, .slice none 0 0]) Try.underlying27 zeroP (by simp [Value.cells]; decide) gr _ _ _ (by omega)
      (fun j hj => by
        have hj2 : j < (Q.length - (k + (Q.length - (k + 1)))) * 3 := hj
        rw [ho1.cellAt _ (by omega)]
        rw [List.getElem?_eq_getElem (by simp [hnl, hrl]; omega)]; rfl)
      (fun j hj => ho1.frozenAt _)
  have HO2 := Lib.hid o2
  have HK1 := Lib.hid K1
  have hW : Hid (W1 = w.drew.setCells gr (0 + k * 3) news) := hW1
  have hic : k ≤ cp := by omega
  have hjc : k + 1 ≤ cp := by omega
  have hx0 : (0 : Int) ≤ (k : Int) + 1 := by omega
  have hx1 : (k : Int) + 1 ≤ (Q.length : Int) := by omega
  obtain ⟨q, hq2⟩ : ∃ q, q = Q.length := ⟨_, rfl⟩
  have HE := Lib.hid (show (Q.eraseIdx k).length = Q.length - 1 by rw [List.length_eraseIdx, if_pos hk])
  rw [← hq2] at hk hq hcap s1 hcl HE hn HO2 hx1
  subst hn
  have HQ2 := Lib.hid hq2
  clear hW1 hnews hnl hsp hl2 hcell ho1 K1 o2 ho h1 hrl hq2
  go_enter Try.func29, Try.ntmps29
  go_wp2_with fail
  go_region_law (refine step_append_room (by rfl) (.tmp 22) (.tmp 25) 27 (by rfl) 36 i0 3 Try.underlying27 hi hz1 gr 0 k cp (by simp [Act.eval, Act.put]) A (n - (k + 1)) (cp - (k + 1)) news (by simp [Act.eval, Act.put]) s1.out hsrc.out s2.out (by omega) s3.out ?_; rw [← hW.out])
  go_wp2
  go_ret
  have e1 : k + (n - (k + 1)) = n - 1 := by omega
  unfold DelPost
  rw [e1, HE.out]
  exact ⟨rfl, own_setTail Z _ HO2.out (Nat.le_refl _), Kept.setCells (S := fun i => i = gr) (fun _ => rfl) Z _ HK1.out⟩

def noPk : Pk := ⟨0, 0, []⟩
/-- The packet of a number, and whether there is one. -/
def atL (L : List Pk) (k : Int) : Pk × Bool := if hasL k L.length = true then (L.getD k.toNat noPk, true) else (noPk, false)
theorem atL_no {L : List Pk} {k : Int} (h : hasL k L.length = false) : atL L k = (noPk, false) := by unfold atL; rw [h]; rfl
theorem atL_yes {L : List Pk} {k : Nat} (h : k < L.length) : atL L (k : Int) = (L[k]'h, true) := by
  have : hasL (k : Int) L.length = true := decide_eq_true ⟨by omega, by omega⟩
  unfold atL
  rw [this, if_pos rfl, Int.toNat_natCast]
  simp [List.getD, List.getElem?_eq_getElem h]

def PeekPost (p : Pk × Bool) (w : World) (e : Ending) (w' : World) : Prop :=
  ∃ a c, e = .returned (.tuple #[.agg #[.int .i64 p.1.f, .int .i64 p.1.t, .slice a p.1.b.length c], .bool p.2]) ∧ w'.ownsRow w.heap.size 5 1 (.slice a p.1.b.length c) p.1.b.length (Lib.byteCells p.1.b) ∧ Below w.heap.size w w'

theorem NtAt.mem {t : TypeId} {w : World} {B g : Nat} {v : Value} {Q : List (Value × Pk)} {L : List Pk} (h : NtAt t w B g v Q L) (k : Nat) (hk : k < Q.length) (hk2 : k < L.length) : (Q[k]'hk).2 = L[k]'hk2 := by
  have e := h.eq
  subst e
  simp

set_option maxHeartbeats 4000000 in
set_option maxRecDepth 100000 in
theorem nPeek (w : World) (B g : Nat) (v : Value) (Q : List (Value × Pk)) (L : List Pk) (k : Int) (h : NtAt 46 w B g v Q L) (hb : ∀ p ∈ L, p.b.length ≤ 131072) :
    Calls Try.prog 20 #[.pointer (some ⟨g, 0, none⟩), .int .i64 k] w (PeekPost (atL L k) w) := by
  have bA : Below w.heap.size w (w.alloc (.cells #[.int .i64 0, .int .i64 0, .slice none 0 0] 36)) := (Below.refl _ w).alloc (Nat.le_refl _) _
  have gA := heap_alloc_new w (.cells #[.int .i64 0, .int .i64 0, .slice none 0 0] 36)
  have cH := nHas _ B g v Q L k (h.below bA)
  cases hh : hasL k L.length with
  | false =>
    rw [hh] at cH
    rw [atL_no hh]
    have HB := Lib.hid bA
    clear h
    obtain ⟨y0, y1, y2, _⟩ := box_cells gA
    go_enter Try.func20, Try.ntmps20
    go_wp2_with (go_at_call 28; (with_reducible refine cH.mono ?_); rintro e w' ⟨rfl, rfl⟩)
    refine bodyPost_ret (v := .tuple #[.agg #[.int .i64 0, .int .i64 0, .slice none 0 0], .bool false]) (by simp [results, Try.results20, go_sem, y0, y1, y2]) rfl ?_
    exact ⟨none, 0, rfl, ⟨rfl, .inl ⟨rfl, rfl⟩⟩, HB.out⟩
  | true =>
    rw [hh] at cH
    have hk0 := of_decide_eq_true hh
    obtain ⟨m, rfl⟩ : ∃ m : Nat, k = (m : Int) := ⟨k.toNat, by omega⟩
    have hmL : m < L.length := by omega
    have hmQ : m < Q.length := by rw [h.len]; exact hmL
    rw [atL_yes hmL]
    have hA := h.below bA
    obtain ⟨gr, cp, hv, _, _, x0, x1, x2⟩ := hA.cells m hmQ
    subst hv
    have d0 := hA.cell
    have hbo := hA.byt _ (List.getElem_mem hmQ)
    have e1 := h.mem m hmQ hmL
    have hpl := hb _ (List.getElem_mem hmL)
    obtain ⟨p, hp⟩ : ∃ p, p = L[m]'hmL := ⟨_, rfl⟩
    rw [e1, ← hp] at x0 x1 hbo
    rw [← hp] at hpl ⊢
    obtain ⟨pa, pc, hpv⟩ := own_slice hbo
    rw [hpv] at x2 hbo
    have cT := nTwin p.f p.t pa p.b.length pc p.b _ rfl (by omega) (Bts.own hbo)
    obtain ⟨n, hn⟩ : ∃ n, n = p.b.length := ⟨_, rfl⟩
    have HN := Lib.hid hn
    unfold TwinPost at cT
    unfold PeekPost
    rw [← hn] at x2 cT ⊢
    have i0 : (0 : Int) ≤ (m : Int) := by omega
    have i1 : (m : Int) < (Q.length : Int) := by omega
    have HB := Lib.hid bA
    obtain ⟨y0, y1, y2, k0, k1, k2⟩ := box_cells gA
    clear h hA hbo e1 hp hpv hn hb hk0 hh hpl
    go_enter Try.func20, Try.ntmps20
    go_wp2_with (first | (go_at_call 28; (with_reducible refine cH.mono ?_); rintro e w' ⟨rfl, rfl⟩) | (go_at_call 27; (with_reducible refine cT.mono ?_)))
    rintro e W2 ⟨a2, c2, rfl, o2, b2⟩
    have G2 := box_below gA b2 (by simp)
    have HB2 := Lib.hid (HB.out.trans (b2.mono HB.out.size))
    have HO := Lib.hid o2
    obtain ⟨z0, z1, z2, l0, l1, l2⟩ := box_cells G2
    clear x0 x1 x2 d0 y0 y1 y2 k0 k1 k2 b2 o2 cT cH bA gA
    go_wp2
    refine bodyPost_ret (v := .tuple #[.agg #[.int .i64 p.f, .int .i64 p.t, .slice a2 n c2], .bool true]) (by simp [results, Try.results20, go_sem, z0, z1, z2]) rfl ?_
    refine ⟨a2, c2, rfl, ?_, ((HB2.out.setCell (Nat.le_refl _) _).setCell (Nat.le_refl _) _).setCell (Nat.le_refl _) _⟩
    exact own_low (ownsRow_setCell_below (ownsRow_setCell_below (ownsRow_setCell_below HO.out (by simp) _) (by simp) _) (by simp) _) (by simp)

end Go.Proofs.Ytenpoolminfofaa
