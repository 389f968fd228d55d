/-
  Steps that came in; the law's small.
-/
import Derived.Test.YtbolminblofhgaaDkV
set_option linter.unusedVariables false
namespace Go.Proofs.Ytbolminblofhgaa
open Go.RowKit

/-- A step, plainly. -/
structure St where
  kind : Int
  nA : ByteArray
  nB : ByteArray
  N : Int
  pa : Option Addr
  pn : Nat
  pc : Nat
  picks : List Int
structure StAt (w : World) (x : Addr) (i : Nat) (s : St) : Prop where
  c0 : w.cell? (x.add (i * 5)) = some (.int .i64 s.kind)
  c1 : w.cell? (x.add (i * 5 + 1)) = some (.string s.nA)
  c2 : w.cell? (x.add (i * 5 + 2)) = some (.string s.nB)
  c3 : w.cell? (x.add (i * 5 + 3)) = some (.int .i64 s.N)
  c4 : w.cell? (x.add (i * 5 + 4)) = some (.slice s.pa s.pn s.pc)
  its : Its w s.pa s.picks
  pl : s.picks.length = s.pn
  pc : s.pn ≤ s.pc
  cap : s.pc ≤ maxLen
  lo : -9223372036854775808 ≤ s.N
  hi : s.N ≤ 9223372036854775807
  sA : s.nA.size ≤ maxLen
  sB : s.nB.size ≤ maxLen
  wf : ∀ p ∈ s.picks, -9223372036854775808 ≤ p ∧ p ≤ 9223372036854775807
def StepsIn (w : World) (a : Option Addr) (len cap : Nat) (ss : List St) : Prop :=
  (a = none ∧ len = 0 ∧ cap = 0 ∧ ss = []) ∨ ∃ x, a = some x ∧ len ≤ cap ∧ cap ≤ maxLen ∧ ss.length = len ∧ ∀ i (hi : i < ss.length), StAt w x i (ss[i]'hi)
theorem StAt.below {w w' : World} {x : Addr} {i : Nat} {s : St} (h : StAt w x i s) (hb : Below w.heap.size w w') : StAt w' x i s := by
  have f : ∀ {a : Addr} {u : Value}, w.cell? a = some u → w'.cell? a = some u := fun hc => (hb.cell (World.block_lt_of_cell? w _ hc)).trans hc
  exact ⟨f h.c0, f h.c1, f h.c2, f h.c3, f h.c4, h.its.later hb, h.pl, h.pc, h.cap, h.lo, h.hi, h.sA, h.sB, h.wf⟩
theorem StepsIn.len_eq {w : World} {a : Option Addr} {len cap : Nat} {ss : List St} (h : StepsIn w a len cap ss) : ss.length = len := by
  rcases h with ⟨_, h, _, rfl⟩ | ⟨x, _, _, _, h, _⟩
  · rw [h]; rfl
  · exact h
theorem StepsIn.at {w : World} {a : Option Addr} {len cap : Nat} {ss : List St} (h : StepsIn w a len cap ss) (i : Nat) (hi : i < ss.length) : ∃ x, a = some x ∧ StAt w x i (ss[i]'hi) := by
  rcases h with ⟨_, _, _, rfl⟩ | ⟨x, h1, _, _, _, h⟩
  · simp at hi
  · exact ⟨x, h1, h i hi⟩

theorem fld (x : Addr) (n k : Nat) (hk : k ≠ 0) : x.add (n + k) = ⟨(x.add n).block, (x.add n).off + k, none⟩ := by
  unfold Addr.add
  by_cases h : n = 0
  · subst h; simp [hk]
  · simp [h]; omega

def four_ (s : St) : List Int := [max s.N 0, (s.nA.size : Int), (s.nB.size : Int), (s.pn : Int)]
def smallF : Int → List St → Nat → Bool
  | n, [], len => decide (len ≤ 100 ∧ n ≤ 60000)
  | n, s :: r, len => if 3000 < s.N then false else smallF (sumL n (four_ s)) r len
theorem four_ok (w : World) (x : Addr) (i : Nat) (s : St) (h : StAt w x i s) : ∀ y ∈ four_ s, 0 ≤ y ∧ y ≤ 9223372036854775807 := by
  have h1 := h.lo; have h2 := h.hi; have h3 := h.sA; have h4 := h.sB; have h5 := h.pc; have h6 := h.cap
  unfold maxLen at h3 h4 h6
  intro y hy
  simp only [four_, List.mem_cons, List.mem_nil_iff, or_false] at hy
  rcases hy with rfl | rfl | rfl | rfl <;> omega

set_option maxHeartbeats 8000000 in
set_option maxRecDepth 100000 in
theorem small_any (a : Option Addr) (len cap : Nat) (ss : List St) (w : World) (h : StepsIn w a len cap ss) (hlen : len ≤ maxLen) :
    Calls Try.prog 9 #[.slice a len cap] w fun e w' => e = .returned (.bool (smallF 0 ss len)) ∧ Below w.heap.size w w' := by
  obtain ⟨r, hr⟩ : ∃ r, r = smallF 0 ss len := ⟨_, rfl⟩
  rw [← hr]
  have HR0 : Hid (r = smallF 0 (ss.drop 0) len) := hr
  have HL := Lib.hid h.len_eq
  have HS := Lib.hid h
  unfold maxLen at hlen
  clear hr h
  go_enter Try.func9, Try.ntmps9
  go_wp2
  go_loopw [3, 4] (fun u i wr => ∃ (j : Nat) (m : Int), i = .int .i64 j ∧ j ≤ len ∧ u = .int .i64 m ∧ 0 ≤ m ∧ m ≤ 1099511627776 ∧ Hid (r = smallF m (ss.drop j) len) ∧ Below w.heap.size w wr) (fun _ i _ => len - (intOf i).toNat)
  case atStart => exact ⟨0, 0, rfl, Nat.zero_le _, rfl, Int.le_refl _, by omega, HR0, Below.refl _ _⟩
  case round =>
    obtain ⟨j, m, rfl, hj, rfl, hm0, hm1, HR, hb⟩ := hrel
    by_cases hlt : j < len
    · have hlt2 : j < ss.length := by have := HL.out; omega
      obtain ⟨x, hax, hst0⟩ := HS.out.at j hlt2
      subst hax
      have hst := hst0.below hb
      obtain ⟨s, hs⟩ : ∃ s, s = ss[j]'hlt2 := ⟨_, rfl⟩
      rw [← hs] at hst
      have HD : Hid (ss.drop j = s :: ss.drop (j + 1)) := by show _ = _; rw [hs]; exact List.drop_eq_getElem_cons hlt2
      have HB := Lib.hid hb
      have c1 := hst.c1
      have c2 := hst.c2
      have c3 := hst.c3
      have c4 := hst.c4
      rw [fld x (j * 5) 1 (by decide)] at c1
      rw [fld x (j * 5) 2 (by decide)] at c2
      rw [fld x (j * 5) 3 (by decide)] at c3
      rw [fld x (j * 5) 4 (by decide)] at c4
      have h1 := hst.lo; have h2 := hst.hi; have h3 := hst.sA; have h4 := hst.sB; have h5 := hst.pc; have h6 := hst.cap
      unfold maxLen at h3 h4 h6
      have HF := Lib.hid (four_ok wr x j s hst)
      clear hs hb hst0 hst
      by_cases hbig : 3000 < s.N
      · have HV : Hid (r = false) := by show _ = _; rw [HR.out, HD.out]; unfold smallF; rw [if_pos hbig]
        go_wp2
        go_ret
        exact ⟨by rw [HV.out]; rfl, HB.out⟩
      · have HV : Hid (r = smallF (sumL m (four_ s)) (ss.drop (j + 1)) len) := by show _ = _; rw [HR.out, HD.out]; conv => lhs; unfold smallF; rw [if_neg hbig]
        obtain ⟨q1, q2, _⟩ := sumL_le (four_ s) m hm0 hm1 (fun y hy => (HF.out y hy).1)
        have cS := Sum_any wr.heap.size 4 4 (four_ s) m (wr.alloc (.cells #[.int .i64 (max s.N 0), .int .i64 (s.nA.size : Int), .int .i64 (s.nB.size : Int), .int .i64 (s.pn : Int)] 3)).drew rfl (by omega) (fun i hi => by
          have hg := heap_alloc_new wr (.cells #[.int .i64 (max s.N 0), .int .i64 (s.nA.size : Int), .int .i64 (s.nB.size : Int), .int .i64 (s.pn : Int)] 3)
          show (wr.alloc _).cell? _ = _
          rw [cell_of_row _ _ _ _ _ _ hg]
          have hi4 : i < 4 := hi
          rcases i with _ | _ | _ | _ | i
          · rfl
          · rfl
          · rfl
          · rfl
          · omega) hm0 hm1 HF.out
        have hbA : Below wr.heap.size wr (wr.alloc (.cells #[.int .i64 (max s.N 0), .int .i64 (s.nA.size : Int), .int .i64 (s.nB.size : Int), .int .i64 (s.pn : Int)] 3)).drew := ((Below.refl _ wr).alloc (Nat.le_refl _) _).drew
        have cS2 : Calls Try.prog 28 #[.int .i64 m, .slice (some ⟨wr.heap.size, 0, none⟩) 4 4] (wr.alloc (.cells #[.int .i64 (max s.N 0), .int .i64 (s.nA.size : Int), .int .i64 (s.nB.size : Int), .int .i64 (s.pn : Int)] 3)).drew fun e w' => e = .returned (.int .i64 (sumL m (four_ s))) ∧ Below wr.heap.size wr w' ∧ (w'.cell? ⟨(x.add (j * 5)).block, (x.add (j * 5)).off + 3, none⟩ = some (.int .i64 s.N) ∧ w'.cell? ⟨(x.add (j * 5)).block, (x.add (j * 5)).off + 1, none⟩ = some (.string s.nA) ∧ w'.cell? ⟨(x.add (j * 5)).block, (x.add (j * 5)).off + 2, none⟩ = some (.string s.nB) ∧ w'.cell? ⟨(x.add (j * 5)).block, (x.add (j * 5)).off + 4, none⟩ = some (.slice s.pa s.pn s.pc)) := cS.mono fun e w' ⟨he, hb⟩ => by
          have hb2 := hbA.trans (hb.mono hbA.size)
          have f : ∀ {a : Addr} {u : Value}, wr.cell? a = some u → w'.cell? a = some u := fun hc => (hb2.cell (World.block_lt_of_cell? wr _ hc)).trans hc
          exact ⟨he, hb2, f c3, f c1, f c2, f c4⟩
        have hji0 : (0 : Int) ≤ (j : Int) := by omega
        have hji1 : (j : Int) < (len : Int) := by omega
        obtain ⟨y, hy⟩ : ∃ y, y = sumL m (four_ s) := ⟨_, rfl⟩
        rw [← hy] at cS2 q1 q2 HV
        clear cS hy
        go_wp2
        go_region_held3 (fun w' => w'.cell? ⟨(x.add (j * 5)).block, (x.add (j * 5)).off + 3, none⟩ = some (.int .i64 s.N) ∧ w'.cell? ⟨(x.add (j * 5)).block, (x.add (j * 5)).off + 1, none⟩ = some (.string s.nA) ∧ w'.cell? ⟨(x.add (j * 5)).block, (x.add (j * 5)).off + 2, none⟩ = some (.string s.nB) ∧ w'.cell? ⟨(x.add (j * 5)).block, (x.add (j * 5)).off + 4, none⟩ = some (.slice s.pa s.pn s.pc))
          (first
            | exact d5
            | exact ⟨c3, c1, c2, c4⟩
            | go_keep
            | exact ⟨alloc_cell c3 _, alloc_cell c1 _, alloc_cell c2 _, alloc_cell c4 _⟩)
          (first
            | (go_at_call 28; refine cS2.mono ?_; rintro e W5 ⟨rfl, b5, d5⟩))
        all_goals (
          have HB5 := Lib.hid (HB.out.trans (b5.mono HB.out.size))
          clear b5 d5
          go_wp2
          go_roundw
          case rel => exact ⟨j + 1, y, by go_num, by omega, rfl, by omega, by omega, HV, HB5.out⟩
          case measure => simp [intOf]; omega)
    · have HV : Hid (r = decide (len ≤ 100 ∧ m ≤ 60000)) := by show _ = _; rw [HR.out, List.drop_eq_nil_of_le (by have := HL.out; omega)]; rfl
      have HB := Lib.hid hb
      clear hb
      by_cases h1 : (len : Int) ≤ 100
      · go_wp2
        go_ret
        refine ⟨?_, HB.out⟩
        rw [HV.out]
        show Ending.returned (Value.bool (decide (m ≤ 60000))) = Ending.returned (Value.bool (decide (len ≤ 100 ∧ m ≤ 60000)))
        rw [show decide (m ≤ 60000) = decide (len ≤ 100 ∧ m ≤ 60000) from by rw [decide_eq_decide]; omega]
      · go_wp2
        go_ret
        refine ⟨?_, HB.out⟩
        rw [HV.out, show decide (len ≤ 100 ∧ m ≤ 60000) = false from decide_eq_false (by omega)]
        rfl

end Go.Proofs.Ytbolminblofhgaa
