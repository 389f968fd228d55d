/-
  alike's Sum of many, Total, Batch.
-/
import Derived.Test.YtggognmbjgkdfaaEvA
set_option linter.unusedVariables false
namespace Go.Proofs.Ytggognmbjgkdfaa
open Go.RowKit

def sumL : Int → List Int → Int
  | n, [] => n
  | n, x :: r => if 1099511627776 < n ∨ 1099511627776 - n < x then 1099511627776 else sumL (n + x) r
theorem sumL_le : ∀ (l : List Int) (n : Int), 0 ≤ n → n ≤ 1099511627776 → (∀ x ∈ l, 0 ≤ x) → n ≤ sumL n l ∧ sumL n l ≤ 1099511627776 ∧ (sumL n l < 1099511627776 → sumL n l = n + l.sum)
  | [], n, h0, h1, _ => ⟨Int.le_refl _, h1, fun _ => by simp [sumL]⟩
  | x :: r, n, h0, h1, hx => by
    have hx0 := hx x (by simp)
    unfold sumL
    split
    · exact ⟨h1, Int.le_refl _, fun h => by omega⟩
    · rename_i hc
      have hb : n + x ≤ 1099511627776 := by omega
      obtain ⟨a, b, c⟩ := sumL_le r (n + x) (by omega) hb (fun y hy => hx y (by simp [hy]))
      refine ⟨by omega, b, fun h => ?_⟩
      rw [c h, List.sum_cons]; omega

set_option maxHeartbeats 4000000 in
set_option maxRecDepth 100000 in
theorem Sum_any (g k cap : Nat) (l : List Int) (n : Int) (w : World) (hl : l.length = k) (hk : k ≤ 1000) (hc : ∀ j (hj : j < l.length), w.cell? ⟨g, j, none⟩ = some (.int .i64 (l[j]'hj))) (hn0 : 0 ≤ n) (hn1 : n ≤ 1099511627776) (hx : ∀ x ∈ l, 0 ≤ x ∧ x ≤ 9223372036854775807) :
    Calls Try.prog 20 #[.int .i64 n, .slice (some ⟨g, 0, none⟩) k cap] w fun e w' => e = .returned (.int .i64 (sumL n l)) ∧ Below w.heap.size w w' := by
  obtain ⟨r, hr⟩ : ∃ r, r = sumL n l := ⟨_, rfl⟩
  rw [← hr]
  have HR0 : Hid (r = sumL n (l.drop 0)) := hr
  have HL := Lib.hid hl
  have HC := Lib.hid hc
  have HX := Lib.hid hx
  clear hr hl hc hx
  go_enter Try.func20, Try.ntmps20
  go_wp2
  go_loopw [0, 5] (fun u i wr => ∃ (j : Nat) (m : Int), i = .int .i64 j ∧ j ≤ k ∧ u = .int .i64 m ∧ 0 ≤ m ∧ m ≤ 1099511627776 ∧ Hid (r = sumL m (l.drop j)) ∧ Below w.heap.size w wr) (fun _ i _ => k - (intOf i).toNat)
  case atStart => exact ⟨0, n, rfl, Nat.zero_le _, rfl, hn0, hn1, HR0, Below.refl _ _⟩
  case round =>
    obtain ⟨j, m, rfl, hj, rfl, hm0, hm1, HR, hb⟩ := hrel
    by_cases hlt : j < k
    · have hlt2 : j < l.length := by have := HL.out; omega
      obtain ⟨x, hxx⟩ : ∃ x, x = l[j]'hlt2 := ⟨_, rfl⟩
      have hxb := HX.out x (by rw [hxx]; exact List.getElem_mem hlt2)
      obtain ⟨hx0, hx1⟩ := hxb
      have hcell := HC.out j hlt2
      rw [← hxx] at hcell
      have hcw : wr.cell? ⟨g, j, none⟩ = some (.int .i64 x) := (hb.cell (p := ⟨g, j, none⟩) (World.block_lt_of_cell? w _ hcell)).trans hcell
      have HD : Hid (l.drop j = x :: l.drop (j + 1)) := by show _ = _; rw [hxx]; exact List.drop_eq_getElem_cons hlt2
      have HB := Lib.hid hb
      have hmf : ¬ 1099511627776 < m := by omega
      have w1 : IntKind.i64.wrap (1099511627776 - m) = 1099511627776 - m := IntWalk.i64_in _ (by omega)
      clear hxx hcell hb
      by_cases hbig : 1099511627776 - m < x
      · have HV : Hid (r = 1099511627776) := by show _ = _; rw [HR.out, HD.out]; unfold sumL; rw [if_pos (.inr hbig)]
        go_wp2
        go_ret
        exact ⟨retI HV.out.symm, HB.out⟩
      · have HV : Hid (r = sumL (m + x) (l.drop (j + 1))) := by show _ = _; rw [HR.out, HD.out]; conv => lhs; unfold sumL; rw [if_neg (by omega)]
        have w2 : IntKind.i64.wrap (m + x) = m + x := IntWalk.i64_in _ (by omega)
        go_wp2
        go_roundw
        case rel => exact ⟨j + 1, m + x, by go_num, by omega, rfl, by omega, by omega, HV, HB.out⟩
        case measure => simp [intOf]; omega
    · have HV : Hid (r = m) := by show _ = _; rw [HR.out, List.drop_eq_nil_of_le (by have := HL.out; omega)]; rfl
      have HB := Lib.hid hb
      clear hb
      go_wp2
      go_ret
      exact ⟨retI HV.out.symm, HB.out⟩


/-- What Sum leaves. -/
def SumPost (n : Nat) (l : List Nat) (w : World) (e : Ending) (w' : World) : Prop :=
  ∃ t : Nat, e = .returned (.int .i64 t) ∧ t ≤ 1099511627776 ∧ (t < 1099511627776 → t = n + l.sum) ∧ Below w.heap.size w w'
theorem natSum (l : List Nat) : ((l.map fun x : Nat => (x : Int)).sum) = ((l.sum : Nat) : Int) := by
  induction l with
  | nil => rfl
  | cons a r ih => simp only [List.map_cons, List.sum_cons, ih]; omega
theorem Sum_p (g k cap n : Nat) (l : List Nat) (w : World) (hl : l.length = k) (hk : k ≤ 1000) (hc : ∀ j (hj : j < l.length), w.cell? ⟨g, j, none⟩ = some (.int .i64 (l[j]'hj))) (hn : n ≤ 1099511627776) (hx : ∀ x ∈ l, x ≤ maxLen ∨ x ≤ 1099511627776) :
    Calls Try.prog 20 #[.int .i64 n, .slice (some ⟨g, 0, none⟩) k cap] w (SumPost n l w) := by
  unfold maxLen at hx
  have hxI : ∀ x ∈ l.map (fun x : Nat => (x : Int)), 0 ≤ x ∧ x ≤ 9223372036854775807 := by
    intro x hx2
    obtain ⟨y, hy, rfl⟩ := List.mem_map.1 hx2
    have := hx y hy
    omega
  refine (Sum_any g k cap (l.map fun x : Nat => (x : Int)) n w (by simpa using hl) hk (fun j hj => by rw [List.getElem_map]; exact hc j (by simpa using hj)) (by omega) (by omega) hxI).mono ?_
  rintro e w' ⟨rfl, hb⟩
  obtain ⟨h1, h2, h3⟩ := sumL_le (l.map fun x : Nat => (x : Int)) n (by omega) (by omega) (fun x hx => (hxI x hx).1)
  rw [natSum] at h3
  refine ⟨(sumL n (l.map fun x : Nat => (x : Int))).toNat, retI (by omega), by omega, fun h => ?_, hb⟩
  have := h3 (by omega)
  omega

theorem Sum_0 (g k cap : Nat) (l : List Nat) (w : World) (hl : l.length = k) (hk : k ≤ 1000) (hc : ∀ j (hj : j < l.length), w.cell? ⟨g, j, none⟩ = some (.int .i64 (l[j]'hj))) (hx : ∀ x ∈ l, x ≤ maxLen ∨ x ≤ 1099511627776) :
    Calls Try.prog 20 #[.int .i64 0, .slice (some ⟨g, 0, none⟩) k cap] w (SumPost 0 l w) := Sum_p g k cap 0 l w hl hk hc (by omega) hx

/-- What Total and its like leave. -/
def TotP (top S : Nat) (w : World) (e : Ending) (w' : World) : Prop :=
  ∃ t : Nat, e = .returned (.int .i64 t) ∧ t ≤ 1099511627776 ∧ (t ≤ top → S ≤ top ∧ t = S) ∧ Below w.heap.size w w'

def strSum (l : List ByteArray) : Nat := (l.map ByteArray.size).sum
theorem strSum_take (l : List ByteArray) (j : Nat) (h : j < l.length) : strSum (l.take (j + 1)) = strSum (l.take j) + (l[j]'h).size := by
  unfold strSum; rw [List.take_succ_eq_append_getElem h, List.map_append, List.sum_append]; simp

theorem one_cell (w : World) (v : Value) (t : TypeId) : (w.alloc (.cells #[v] t)).cell? ⟨w.heap.size, 0, none⟩ = some v := by
  rw [cell_of_row _ _ _ _ _ _ (heap_alloc_new w (.cells #[v] t))]; rfl

theorem one_at {w : World} {m : Nat} {t : TypeId} (j : Nat) (hj : j < [m].length) : (w.alloc (.cells #[.int .i64 m] t)).cell? ⟨w.heap.size, j, none⟩ = some (.int .i64 ([m][j]'hj)) := by
  obtain rfl : j = 0 := by simpa using hj
  exact one_cell _ _ _
theorem two_at {w : World} {m k : Nat} {t : TypeId} (j : Nat) (hj : j < [m, k].length) : (w.alloc (.cells #[.int .i64 m, .int .i64 k] t)).cell? ⟨w.heap.size, j, none⟩ = some (.int .i64 ([m, k][j]'hj)) := by
  rw [cell_of_row _ _ _ _ _ _ (heap_alloc_new w _)]
  rcases j with _ | _ | j
  · rfl
  · rfl
  · simp at hj; omega

set_option maxHeartbeats 2000000 in
set_option maxRecDepth 100000 in
theorem Total_any (a : Option Addr) (n cap top : Nat) (l : List ByteArray) (w : World) (hl : l.length = n) (hn : n ≤ maxLen) (htop : top < 1099511627776) (hL : ∀ x ∈ l, x.size ≤ maxLen) (hb : StrsIn w a l) :
    Calls Try.prog 36 #[.slice a n cap, .int .i64 top] w (TotP top (l.length + strSum l) w) := by
  have hn' := hn
  unfold maxLen at hn
  have c0 := Sum_0 w.heap.size 1 1 [n] (w.alloc (.cells #[.int .i64 n] 3)) rfl (by omega) (fun j hj => one_at j hj) (fun x hx => by simp at hx; subst hx; exact .inl hn')
  have HS := Lib.hid hb
  have HL := Lib.hid hl
  have B1 : Below w.heap.size w (w.alloc (.cells #[.int .i64 n] 3)) := (Below.refl _ w).alloc (Nat.le_refl _) _
  have HB1 := Lib.hid B1
  have HLL := Lib.hid hL
  clear hb hl B1 hL
  go_enter Try.func36, Try.ntmps36
  go_wp2_with (go_at_call 20; (with_reducible refine c0.mono ?_))
  rintro e W2 ⟨t0, rfl, h0, h1, b2⟩
  have HB2 := Lib.hid (HB1.out.trans (b2.mono HB1.out.size))
  have H1 := Lib.hid h1
  clear h1 b2 c0
  go_wp2
  go_loopw [5, 6] (fun v i wr => ∃ (j t : Nat), i = .int .i64 j ∧ v = .int .i64 t ∧ j ≤ n ∧ t ≤ 1099511627776 ∧ Hid (t < 1099511627776 → t = n + strSum (l.take j)) ∧ Below w.heap.size w wr) (fun _ i _ => n - (intOf i).toNat)
  case atStart => exact ⟨0, t0, rfl, rfl, Nat.zero_le _, h0, fun h => by have := H1.out h; simpa [strSum] using this, HB2.out⟩
  case round =>
    obtain ⟨j, t, rfl, rfl, hj, ht, HT, hbw⟩ := hrel
    clear H1
    by_cases hlt : j < n
    · by_cases hto : t ≤ top
      · have hlt2 : j < l.length := by have := HL.out; omega
        obtain ⟨x, rfl, hx⟩ := HS.out j hlt2
        have hxw := (hbw.cell (World.block_lt_of_cell? w _ hx)).trans hx
        have HTK := Lib.hid (strSum_take l j hlt2)
        have hsz := HLL.out _ (List.getElem_mem hlt2)
        obtain ⟨s, hs⟩ : ∃ s, s = l[j]'hlt2 := ⟨_, rfl⟩
        rw [← hs] at hxw HTK hsz
        have hsz' := hsz
        unfold maxLen at hsz
        have c1 := Sum_p wr.heap.size 1 1 t [s.size] (wr.alloc (.cells #[.int .i64 s.size] 3)) rfl (by omega) (fun j hj => one_at j hj) ht (fun x hx => by simp at hx; subst hx; exact .inl hsz')
        have hti : (t : Int) ≤ (top : Int) := by omega
        have HBW := Lib.hid hbw
        clear hx hs hbw
        go_wp2_with (go_at_call 20; (with_reducible refine c1.mono ?_))
        rintro e W3 ⟨t1, rfl, h2, h3, b3⟩
        have HB3 := Lib.hid ((HBW.out.alloc HBW.out.size _).trans (b3.mono (by have := HBW.out.size; simp; omega)))
        have H3 := Lib.hid h3
        clear h3 b3 c1
        go_wp2
        go_roundw
        case rel => exact ⟨j + 1, t1, by go_num, rfl, by omega, h2, fun h => by
          have e1 := H3.out h
          have e2 := HT.out (by omega)
          rw [HTK.out]
          simp at e1
          omega, HB3.out⟩
        case measure => simp [intOf]; omega
      · have hti : ¬ (t : Int) ≤ (top : Int) := by omega
        have HBW := Lib.hid hbw
        clear hbw
        go_wp2
        go_ret
        exact ⟨t, rfl, ht, fun h => absurd h hto, HBW.out⟩
    · have HBW := Lib.hid hbw
      clear hbw
      go_wp2
      go_ret
      refine ⟨t, rfl, ht, fun h => ?_, HBW.out⟩
      have e := HT.out (by omega)
      have el := HL.out
      rw [List.take_of_length_le (by omega)] at e
      rw [el]
      omega

end Go.Proofs.Ytggognmbjgkdfaa
