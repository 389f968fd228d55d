/-
  Rows of rows of bytes; the reference's Scan; penstockalike.Rows.
-/
import Derived.Test.YtkoboogbdpagpaaFrD
set_option linter.unusedVariables false
namespace Go.Proofs.Ytkoboogbdpagpaa
open Go.RowKit

theorem infoRow8 : (Try.prog.info? 22).map (fun i => (i.zero, i.size, i.bytes)) = some (some (.slice none 0 0), 1, 24) := by kernel_rfl

/-- A row that a call owns, of rows of bytes that it owns. -/
def RwOwn (w : World) (B : Nat) (v : Value) (L : List (List UInt8)) : Prop :=
  ∃ Q : List (Value × List UInt8), Q.map Prod.snd = L ∧ w.ownsRow B 22 1 v Q.length (Q.map Prod.fst) ∧ ∀ q ∈ Q, w.ownsRow B 5 1 q.1 q.2.length (Lib.byteCells q.2)

theorem ownL {B : Nat} {e : TypeId} {k n : Nat} {v : Value} {xs : List Value} {w w' : World} (h : w.ownsRow B e k v n xs) (hb : Below w.heap.size w w') : w'.ownsRow B e k v n xs :=
  h.kept (row := none) ⟨hb.os, hb.tape, hb.output, hb.size, fun j hj _ => hb.block j hj⟩ (by cases hv : v.ownBlock <;> simp)
theorem ownB {B B' : Nat} {e : TypeId} {k : Nat} {v : Value} {n : Nat} {xs : List Value} {w : World} (h : w.ownsRow B e k v n xs) (hb : B' ≤ B) : w.ownsRow B' e k v n xs := by
  refine ⟨h.1, ?_⟩
  rcases h.2 with hn | ⟨g, cap, cur, hv, hg, rest⟩
  · exact .inl hn
  · exact .inr ⟨g, cap, cur, hv, Nat.le_trans hb hg, rest⟩
theorem ownApart {W : World} {B B' k k' n n' : Nat} {t t' : TypeId} {v v' : Value} {xs xs' : List Value} (h : W.ownsRow B t k v n xs) (h' : W.ownsRow B' t' k' v' n' xs') (hne : t ≠ t') : v.ownBlock = none ∨ v.ownBlock ≠ v'.ownBlock := by
  rcases h.2 with ⟨hv, _⟩ | ⟨g, cap, cur, hv, _, hg, _⟩
  · left; rw [hv]; rfl
  · right
    rcases h'.2 with ⟨hv', _⟩ | ⟨g', cap', cur', hv', _, hg', _⟩
    · rw [hv, hv']; intro e; simp [Value.ownBlock] at e
    · rw [hv, hv']
      intro e
      simp [Value.ownBlock] at e
      rw [e, hg'] at hg
      simp at hg
      exact hne hg.2.symm

theorem RwOwn.later {w w' : World} {B : Nat} {v : Value} {L : List (List UInt8)} (h : RwOwn w B v L) (hb : Below w.heap.size w w') : RwOwn w' B v L := by
  obtain ⟨Q, hq, ho, hs⟩ := h
  exact ⟨Q, hq, ownL ho hb, fun q hm => ownL (hs q hm) hb⟩
theorem RwOwn.base {w : World} {B B' : Nat} {v : Value} {L : List (List UInt8)} (h : RwOwn w B v L) (hb : B' ≤ B) : RwOwn w B' v L := by
  obtain ⟨Q, hq, ho, hs⟩ := h
  exact ⟨Q, hq, ownB ho hb, fun q hm => ownB (hs q hm) hb⟩
theorem RwOwn.nil (w : World) (B : Nat) : RwOwn w B (.slice none 0 0) [] := ⟨[], rfl, ⟨rfl, .inl ⟨rfl, rfl⟩⟩, fun q hq => by cases hq⟩
theorem RwOwn.form {w : World} {B : Nat} {v : Value} {L : List (List UInt8)} (h : RwOwn w B v L) : ∃ a cap, v = .slice a L.length cap := by
  obtain ⟨Q, rfl, ho, hs⟩ := h
  obtain ⟨a, c, hv⟩ := own_slice ho
  exact ⟨a, c, by simpa using hv⟩

/-- One more row. -/
theorem RwOwn.put {W w3 : World} {B : Nat} {o v' r : Value} {Q : List (Value × List UInt8)} {l : List UInt8} (hQ : W.ownsRow B 22 1 o Q.length (Q.map Prod.fst)) (hs : ∀ q ∈ Q, W.ownsRow B 5 1 q.1 q.2.length (Lib.byteCells q.2)) (hb : W.ownsRow B 5 1 r l.length (Lib.byteCells l))
    (hg : W.grownBy w3 o.ownBlock) (ho : w3.ownsRow B 22 1 v' (Q.length + 1) (Q.map Prod.fst ++ [r])) : RwOwn w3 B v' (Q.map Prod.snd ++ [l]) := by
  have keep : ∀ {v : Value} {k : Nat} {xs : List Value}, W.ownsRow B 5 1 v k xs → w3.ownsRow B 5 1 v k xs := fun h => h.kept hg (ownApart h hQ (by decide))
  refine ⟨Q ++ [(r, l)], by simp, ?_, ?_⟩
  · rw [List.length_append, List.map_append]; exact ho
  · intro q hq
    rcases List.mem_append.1 hq with h | h
    · exact keep (hs q h)
    · simp at h; subst h; exact keep hb

/-- A slice at a holds the rows L. -/
def Brs (w : World) (a : Option Addr) (L : List (List UInt8)) : Prop :=
  L = [] ∨ ∃ x, a = some x ∧ ∀ j (hj : j < L.length), ∃ b c, w.cell? (x.add j) = some (.slice b (L[j]'hj).length c) ∧ Bts w b (L[j]'hj) ∧ (L[j]'hj).length ≤ c ∧ (b = none → c = 0)

theorem Brs.at {w : World} {a : Option Addr} {L : List (List UInt8)} (h : Brs w a L) (j : Nat) (hj : j < L.length) : ∃ x b c, a = some x ∧ w.cell? (x.add j) = some (.slice b (L[j]'hj).length c) ∧ Bts w b (L[j]'hj) ∧ (L[j]'hj).length ≤ c ∧ (b = none → c = 0) := by
  rcases h with rfl | ⟨x, rfl, hc⟩
  · simp at hj
  · obtain ⟨b, c, h⟩ := hc j hj
    exact ⟨x, b, c, rfl, h⟩
theorem Brs.later {w w' : World} {a : Option Addr} {L : List (List UInt8)} (h : Brs w a L) (hb : Below w.heap.size w w') : Brs w' a L := by
  rcases h with h | ⟨x, rfl, hc⟩
  · exact .inl h
  · refine .inr ⟨x, rfl, fun j hj => ?_⟩
    obtain ⟨b, c, h1, h2, h3, h4⟩ := hc j hj
    exact ⟨b, c, (hb.cell (World.block_lt_of_cell? w _ h1)).trans h1, h2.later hb, h3, h4⟩
theorem RwOwn.brs {w : World} {B n c : Nat} {a : Option Addr} {L : List (List UInt8)} (h : RwOwn w B (.slice a n c) L) : Brs w a L := by
  obtain ⟨Q, rfl, ho, hs⟩ := h
  by_cases h0 : Q = []
  · left; subst h0; rfl
  · right
    have hn : 0 < Q.length := List.length_pos_iff.2 h0
    obtain ⟨a', c', hv⟩ := own_slice ho
    injection hv with e1 e2 e3
    subst e1 e2 e3
    obtain ⟨g, rfl, _, _⟩ := own_some ho hn
    refine ⟨_, rfl, fun j hj => ?_⟩
    have hj' : j < Q.length := by simpa using hj
    have hq := hs _ (List.getElem_mem hj')
    obtain ⟨b, cb, hbv⟩ := own_slice hq
    have hq2 := hq
    rw [hbv] at hq2
    refine ⟨b, cb, ?_, ?_, ?_, ?_⟩
    · have := ho.cells (g := g) rfl j (Q[j].1) (by rw [List.getElem?_map, List.getElem?_eq_getElem hj']; rfl)
      rw [this, hbv]; simp
    · simpa using Bts.own hq2
    · simpa using own_room hq2
    · exact own_none hq2
theorem Brs.take {w : World} {a : Option Addr} {L : List (List UInt8)} (h : Brs w a L) (k : Nat) : Brs w a (L.take k) := by
  rcases h with rfl | ⟨y, hy, hc⟩
  · exact .inl (by simp)
  · refine .inr ⟨y, hy, fun j hj => ?_⟩
    have hj2 : j < L.length := by simp at hj; omega
    have e : (L.take k)[j] = L[j] := by simp
    rw [e]
    exact hc j hj2
theorem Brs.drop {w : World} {x : Addr} {L : List (List UInt8)} (h : Brs w (some x) L) (k : Nat) : Brs w (some (x.add k)) (L.drop k) := by
  rcases h with rfl | ⟨y, hy, hc⟩
  · exact .inl (by simp)
  · injection hy with hy
    subst hy
    refine .inr ⟨_, rfl, fun j hj => ?_⟩
    have hj2 : k + j < L.length := by simp at hj; omega
    have e : (L.drop k)[j] = L[k + j] := by simp
    rw [e, add_two]
    exact hc (k + j) hj2

/-- Two rows of rows are the same. -/
def sameR (L M : List (List UInt8)) : Bool := decide (L = M)
theorem sameR_self (L : List (List UInt8)) : sameR L L = true := by simp [sameR]
theorem takeR_more (l m : List (List UInt8)) (j : Nat) (h1 : j < l.length) (h2 : j < m.length) (h : l.take j = m.take j) (he : l[j]'h1 = m[j]'h2) : l.take (j + 1) = m.take (j + 1) := by
  rw [List.take_succ_eq_append_getElem h1, List.take_succ_eq_append_getElem h2, h, he]

set_option maxHeartbeats 2000000 in
set_option maxRecDepth 100000 in
theorem Rows_any (a b : Option Addr) (n m ca cb : Nat) (L M : List (List UInt8)) (w : World) (hl : L.length = n) (hr : M.length = m) (hn : n ≤ 1000000) (hm : m ≤ 1000000) (hL : ∀ x ∈ L, x.length ≤ 1000000) (hM : ∀ x ∈ M, x.length ≤ 1000000) (ha : Brs w a L) (hb : Brs w b M) :
    Calls Try.prog 19 #[.slice a n ca, .slice b m cb] w fun e w' => e = .returned (.bool (sameR L M)) ∧ Below w.heap.size w w' := by
  by_cases hnm : n = m
  · subst hnm
    go_enter Try.func19, Try.ntmps19
    go_wp2
    go_loopw [5] (fun i wr => ∃ j : Nat, i = .int .i64 j ∧ j ≤ n ∧ Hid (L.take j = M.take j) ∧ Below w.heap.size w wr) (fun i _ => n - (intOf i).toNat)
    case atStart => exact ⟨0, rfl, Nat.zero_le _, rfl, Below.refl _ _⟩
    case round =>
      obtain ⟨j, rfl, hj, HT, hbw⟩ := hrel
      by_cases hlt : j < n
      · obtain ⟨x, bx, cx, rfl, hx, hxb, hx1, _⟩ := (ha.later hbw).at j (by omega)
        obtain ⟨y, yb, cy, rfl, hy, hyb, hy1, _⟩ := (hb.later hbw).at j (by omega)
        have cB := fun k => Calls.quiet_of (Bytes_q bx yb _ _ cx cy _ _ (wr.drewN k) rfl rfl (hL _ (List.getElem_mem (show j < L.length by omega))) (hM _ (List.getElem_mem (show j < M.length by omega))) hxb hyb)
        have HE : Hid (sameB (L[j]'(by omega)) (M[j]'(by omega)) = true → L.take (j + 1) = M.take (j + 1)) := fun h => takeR_more L M j (by omega) (by omega) HT.out (by simpa [sameB] using h)
        have HF : Hid (sameB (L[j]'(by omega)) (M[j]'(by omega)) = false → sameR L M = false) := fun h => by
          simp only [sameR, decide_eq_false_iff_not]
          rintro rfl
          rw [sameB_self] at h; cases h
        obtain ⟨p, hp⟩ : ∃ p, p = (L[j]'(by omega)).length := ⟨_, rfl⟩
        obtain ⟨q, hq⟩ : ∃ q, q = (M[j]'(by omega)).length := ⟨_, rfl⟩
        obtain ⟨s, hs⟩ : ∃ s, s = sameB (L[j]'(by omega)) (M[j]'(by omega)) := ⟨_, rfl⟩
        rw [← hp] at hx
        rw [← hq] at hy
        simp only [← hp, ← hq, ← hs] at cB
        rw [← hs] at HE HF
        clear hp hq hs HT hxb hyb hx1 hy1
        cases s with
        | true =>
          have HE2 := Lib.hid (HE.out rfl)
          clear HE HF
          go_wp2_with fail
          go_quiet ((go_at_call 12; exact cB _))
          go_wp2
          go_roundw
          case rel => exact ⟨j + 1, by go_num, by omega, HE2, below_drewN hbw _⟩
          case measure => simp [intOf]; omega
        | false =>
          have HF2 := Lib.hid (HF.out rfl)
          clear HE HF
          go_wp2_with fail
          go_quiet ((go_at_call 12; exact cB _))
          go_wp2
          go_ret
          exact ⟨by rw [HF2.out]; rfl, below_drewN hbw _⟩
      · have HS : Hid (sameR L M = true) := by
          show sameR L M = true
          have h := HT.out
          rw [List.take_of_length_le (by omega), List.take_of_length_le (by omega)] at h
          rw [h]; exact sameR_self _
        go_wp2
        go_ret
        exact ⟨by rw [HS.out]; rfl, hbw⟩
  · have HN : Hid (sameR L M = false) := by
      show sameR L M = false
      simp only [sameR, decide_eq_false_iff_not]
      rintro rfl
      exact hnm (hl.symm.trans hr)
    have hne : ((n : Int) != (m : Int)) = true := bne_iff_ne.2 (by omega)
    go_enter Try.func19, Try.ntmps19
    go_wp2
    go_ret
    exact ⟨by rw [HN.out]; rfl, Below.refl _ _⟩

end Go.Proofs.Ytkoboogbdpagpaa
