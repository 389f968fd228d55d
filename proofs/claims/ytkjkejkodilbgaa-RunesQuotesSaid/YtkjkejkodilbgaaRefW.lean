/-
  What the reference answers: Quote.
-/
import Derived.Test.YtkjkejkodilbgaaRefQ
import Derived.Maps.AppendAt
import Derived.Deep.AppendLies
import Derived.Deep.RegionHeld3
import Derived.Lib.AppendStr
set_option linter.unusedVariables false
namespace Go.Proofs.Ytkjkejkodilbgaa
open Go.RowKit

theorem own_below' {B : Nat} {e : TypeId} {k : Nat} {v : Value} {n : Nat} {xs : List Value} {w w' : World} (h : w.ownsRow B e k v n xs) (hb : Below w.heap.size w w') : w'.ownsRow B e k v n xs :=
  h.kept (row := none) ⟨hb.os, hb.tape, hb.output, hb.size, fun j hj _ => hb.block j hj⟩ (by cases hv : v.ownBlock <;> simp)

/-- What an append to the bytes leaves of the two rows. -/
theorem step_row {w wr w3 : World} {B2 n cap g cb m l0 : Nat} {a : Option Addr} {es xs news : List Value} {v' : Value} {o : Obj}
    (hbw : Below w.heap.size w wr) (hb : wr.ownsRow w.heap.size 5 1 (.slice (some ⟨g, 0, none⟩) l0 cb) l0 xs)
    (hr : wr.ownsRow B2 54 4 (.slice a n cap) n es) (hne : a ≠ some ⟨g, 0, none⟩) (h2 : 0 < m)
    (hown3 : w3.ownsRow w.heap.size 5 1 v' (l0 + m) (xs ++ news)) (hgrow : (wr.alloc o).grownBy w3 (Value.slice (some ⟨g, 0, none⟩) l0 cb).ownBlock)
    (hob : v'.ownBlock = (Value.slice (some ⟨g, 0, none⟩) l0 cb).ownBlock ∨ v'.ownBlock = some (wr.alloc o).heap.size) :
    ∃ g' cb', v' = .slice (some ⟨g', 0, none⟩) (l0 + m) cb' ∧ w3.ownsRow w.heap.size 5 1 (.slice (some ⟨g', 0, none⟩) (l0 + m) cb') (l0 + m) (xs ++ news) ∧
      w3.ownsRow B2 54 4 (.slice a n cap) n es ∧ a ≠ some ⟨g', 0, none⟩ ∧ Below w.heap.size w w3 := by
  obtain ⟨g', cb', rfl⟩ : ∃ g' cap', v' = .slice (some ⟨g', 0, none⟩) (l0 + m) cap' := by
    rcases hown3.2 with ⟨_, h0⟩ | ⟨g', cap', cur, hv, _⟩
    · omega
    · exact ⟨g', cap', hv⟩
  have hs := hbw.size
  refine ⟨g', cb', rfl, hown3, (hr.alloc o).kept hgrow ?_, ?_, ?_⟩
  · rcases hr.2 with ⟨hv, _⟩ | ⟨ga, cap', cur, hv, _⟩
    · left; rw [hv]; rfl
    · right
      simp at hv
      intro e
      rw [hv.1] at e
      simp [Value.ownBlock] at e
      apply hne; rw [hv.1, e]
  · intro e
    rcases hob with h | h
    · simp [Value.ownBlock] at h
      exact hne (by rw [e, h])
    · simp [Value.ownBlock] at h
      have := (hr.lt g' (by rw [e]; rfl)).2
      omega
  · refine (hbw.alloc (by omega) o).grown hgrow (by simp; omega) ?_
    intro k hk
    exact (hb.lt k hk).1

theorem step_str {w wr w3 : World} {B2 n cap g cb m l0 : Nat} {a : Option Addr} {es xs news : List Value} {v' : Value}
    (hbw : Below w.heap.size w wr) (hb : wr.ownsRow w.heap.size 5 1 (.slice (some ⟨g, 0, none⟩) l0 cb) l0 xs)
    (hr : wr.ownsRow B2 54 4 (.slice a n cap) n es) (hne : a ≠ some ⟨g, 0, none⟩) (h2 : 0 < m)
    (hown3 : w3.ownsRow w.heap.size 5 1 v' (l0 + m) (xs ++ news)) (hgrow : wr.grownBy w3 (Value.slice (some ⟨g, 0, none⟩) l0 cb).ownBlock) :
    ∃ g' cb', v' = .slice (some ⟨g', 0, none⟩) (l0 + m) cb' ∧ w3.ownsRow w.heap.size 5 1 (.slice (some ⟨g', 0, none⟩) (l0 + m) cb') (l0 + m) (xs ++ news) ∧
      w3.ownsRow B2 54 4 (.slice a n cap) n es ∧ a ≠ some ⟨g', 0, none⟩ ∧ Below w.heap.size w w3 := by
  obtain ⟨g', cb', cur', rfl, hg'⟩ : ∃ g' cap' cur', v' = .slice (some ⟨g', 0, none⟩) (l0 + m) cap' ∧ w3.heap[g']? = some (.cells cur' 5) := by
    rcases hown3.2 with ⟨_, h0⟩ | ⟨g', cap', cur, hv, _, hg, _⟩
    · omega
    · exact ⟨g', cap', cur, hv, hg⟩
  have hs := hbw.size
  have hr3 : w3.ownsRow B2 54 4 (.slice a n cap) n es := by
    refine hr.kept hgrow ?_
    rcases hr.2 with ⟨hv, _⟩ | ⟨ga, cap', cur, hv, _⟩
    · left; rw [hv]; rfl
    · right
      simp at hv
      intro e
      rw [hv.1] at e
      simp [Value.ownBlock] at e
      apply hne; rw [hv.1, e]
  refine ⟨g', cb', rfl, hown3, hr3, ?_, hbw.grown hgrow (by omega) (fun k hk => (hb.lt k hk).1)⟩
  intro e
  rcases hr3.2 with ⟨hv, _⟩ | ⟨ga, cap', cur, hv, _, hg, _⟩
  · rw [e] at hv; simp at hv
  · rw [e] at hv
    simp at hv
    rw [← hv.1, hg'] at hg
    simp at hg

theorem piece_text (s : ByteArray) (j : Nat) (hj : j < (pieces s.data.toList).length) :
    (s.data.toList.drop ((pieces s.data.toList).take j).flatten.length).take ((pieces s.data.toList)[j]'hj).length = (pieces s.data.toList)[j]'hj := by
  have e : s.data.toList = ((pieces s.data.toList).take j).flatten ++ ((pieces s.data.toList)[j]'hj ++ ((pieces s.data.toList).drop (j + 1)).flatten) := by
    have h1 := List.drop_eq_getElem_cons hj
    rw [← List.flatten_cons, ← h1, ← List.flatten_append, List.take_append_drop, pieces_flatten]
  have key : ∀ (l A C B : List UInt8), l = A ++ (C ++ B) → (l.drop A.length).take C.length = C := by rintro _ A C B rfl; simp
  exact key _ _ _ _ e

theorem and_15 (b : UInt8) : bits .and .u8 (b.toNat : Int) 15 = ((b.toNat % 16 : Nat) : Int) := by
  have key : ∀ n : Fin 256, bits .and .u8 ((UInt8.ofNat n.val).toNat : Int) 15 = (((UInt8.ofNat n.val).toNat % 16 : Nat) : Int) := by decide +kernel
  have := key ⟨b.toNat, UInt8.toNat_lt b⟩
  simpa using this

set_option maxHeartbeats 40000000 in
set_option maxRecDepth 100000 in
theorem rQuote_any (s : ByteArray) (w : World) (hs : s.size ≤ 1000000) :
    Calls Try.prog 16 #[.string s] w fun e w' => e = .returned (.string (quoB s)) ∧ Below w.heap.size w w' := by
  obtain ⟨i0, hi, hz0, hz1, hz2⟩ := info_parts infoByte
  have hb0 : Below w.heap.size w (w.alloc (.cells #[.int .u8 34] 5)) := (Below.refl _ w).alloc (Nat.le_refl _) _
  have hn0 : w.ownsRow w.heap.size 5 1 (.slice none 0 0) 0 [] := ⟨rfl, .inl ⟨rfl, rfl⟩⟩
  go_enter Try.func16, Try.ntmps16
  go_wp2_with (at_builtin; refine wpList_append_own_at _ rfl _ _ 37 rfl w.heap.size 5 i0 (.int .u8 0) 1 1 Try.underlying37 hi hz0 hz1 hz2 rfl (by decide) _ _ _ rfl (hn0.alloc _) ⟨w.heap.size, 0, none⟩ 1 1 [.int .u8 34] rfl rfl ?c1 ?c2 ?c3 ?c4 ?c5 ?_)
  case c1 => intro j u hj; exact new_cells _ _ _ _ rfl j u hj
  case c2 => intro u hu; simp at hu; subst hu; rfl
  case c3 => unfold maxLen; omega
  case c4 => omega
  case c5 => simp
  intro v1 w1 hown1 hgrow1 _ hob1
  obtain ⟨g1, cap1, rfl⟩ : ∃ g' cap', v1 = .slice (some ⟨g', 0, none⟩) (0 + 1) cap' := by
    rcases hown1.2 with ⟨_, h0⟩ | ⟨g', cap', cur, hv, _⟩
    · omega
    · exact ⟨g', cap', hv⟩
  have hb1 : Below w.heap.size w w1 := hb0.grown hgrow1 (by simp) (fun k hk => by simp [Value.ownBlock] at hk)
  have hA := All_p s w1 hs
  have hlen := pieces_length_le s.data.toList
  rw [← size_len] at hlen
  clear hgrow1 hn0 hob1 hb0
  go_wp2_with (go_at_call 34; refine hA.mono ?_)
  rintro e W2 ⟨a, n, cap, rfl, hn, hown2, hb2⟩
  have hg1 : g1 < w1.heap.size := (hown1.lt _ rfl).2
  have hown1 := own_below' hown1 hb2
  have hb2 : Below w.heap.size w W2 := hb1.trans (hb2.mono hb1.size)
  rw [← hn] at hlen
  have HN : Hid (n = (pieces s.data.toList).length) := hn
  clear hn hA
  go_wp2
  go_loopw [3, 5] (fun b i wr => ∃ (j g cb : Nat), i = .int .i64 j ∧ j ≤ n ∧ b = .slice (some ⟨g, 0, none⟩) (quoted ((pieces s.data.toList).take j)).length cb ∧
      wr.ownsRow w.heap.size 5 1 (.slice (some ⟨g, 0, none⟩) (quoted ((pieces s.data.toList).take j)).length cb) (quoted ((pieces s.data.toList).take j)).length (Lib.byteCells (quoted ((pieces s.data.toList).take j))) ∧
      wr.ownsRow w1.heap.size 54 4 (.slice a n cap) n (cellsOf (elems 0 (pieces s.data.toList))) ∧ a ≠ some ⟨g, 0, none⟩ ∧ Below w.heap.size w wr) (fun _ i _ => n - (intOf i).toNat)
  case atStart =>
    refine ⟨0, g1, cap1, rfl, Nat.zero_le _, rfl, hown1, hown2, ?_, hb2⟩
    intro e
    have := (hown2.lt g1 (by rw [e]; rfl)).1
    omega
  case round =>
    obtain ⟨j, g, cb, rfl, hj, rfl, hb, hr, hne, hbw⟩ := hrel
    clear hown1 hown2 hb2
    by_cases hlt : j < n
    · have hlt' : j < (pieces s.data.toList).length := by rw [← HN.out]; exact hlt
      obtain ⟨ga, rfl, hga, hrow⟩ := row_at hr (by rw [elems_len]; exact HN.out.symm) (by omega)
      obtain ⟨hc0, hc1, hc2, hc3⟩ := hrow j (by rw [elems_len]; exact hlt')
      rw [elems_get _ j hlt' 0] at hc1 hc2 hc3
      simp only [Nat.zero_add] at hc1 hc2 hc3
      obtain ⟨p, hp, r, hpp, hcr, hpe⟩ : ∃ (p : Nat) (hp : p < s.size) (r : List UInt8), p = ((pieces s.data.toList).take j).flatten.length ∧ (pieces s.data.toList)[j]'hlt' = s[p]'hp :: r ∧ p + (r.length + 1) ≤ s.size := by
        obtain ⟨hp, hpe, hpr⟩ := piece_byte s j hlt'
        obtain ⟨r, hcr⟩ := hpr hp
        exact ⟨_, hp, r, rfl, hcr, by rw [hcr] at hpe; simpa using hpe⟩
      have hm := pieces_mem _ _ (List.getElem_mem hlt')
      have hq := quoted_take _ j hlt'
      have hql : (quoted ((pieces s.data.toList).take j)).length ≤ 1 + 4 * n := by
        have h1 := flatMap_len ((pieces s.data.toList).take j) (fun c hc => pieces_mem _ c (List.mem_of_mem_take hc))
        simp only [quoted, List.length_cons, List.length_take] at h1 ⊢
        omega
      rw [hcr] at hm hc2 hc3 hq
      rw [← hpp] at hc1 hc2
      have hf := qpiece_first hm
      obtain ⟨Q0, hQ0⟩ : ∃ Q0, Q0 = quoted ((pieces s.data.toList).take j) := ⟨_, rfl⟩
      rw [← hQ0] at hq hql hb
      rw [← hQ0]
      have h8 := UInt8.toNat_lt (s[p]'hp)
      obtain ⟨no, hno⟩ : ∃ no, no = bad (s[p]'hp :: r) := ⟨_, rfl⟩
      obtain ⟨en, hen⟩ : ∃ en, en = p + (s[p]'hp :: r).length := ⟨_, rfl⟩
      rw [← hno] at hc3 hf
      rw [← hen] at hc2
      rw [List.length_cons] at hen
      have HC : Hid (en = p + (r.length + 1) ∧ (s.data.toList.drop p).take (r.length + 1) = s[p]'hp :: r) := ⟨hen, by have ht := piece_text s j hlt'; rw [hcr, ← hpp, List.length_cons] at ht; exact ht⟩
      have hen2 : en ≤ s.size := by omega
      have hen1 : p < en := by omega
      clear hcr hrow hpp hQ0 hc0 hm hno hen hpe
      by_cases b34 : (s[p]'hp).toNat = 34
      · have e1 : (((s[p]'hp).toNat : Int) == 34) = true := by rw [b34]; rfl
        have HQ : Hid (quoted ((pieces s.data.toList).take (j + 1)) = Q0 ++ [92, 34]) := by show _ = _; rw [hq, hf.1 b34]
        clear hf b34 hq
        go_wp2_with (at_builtin; go_loud (refine wpList_append_own_at _ rfl _ _ 37 rfl w.heap.size 5 i0 (.int .u8 0) 1 1 Try.underlying37 hi hz0 hz1 hz2 rfl (by decide) _ _ _ rfl (hb.alloc _) ⟨wr.heap.size, 0, none⟩ 2 2 [.int .u8 92, .int .u8 34] rfl rfl ?c1 ?c2 ?c3 ?c4 ?c5 ?_))
        try case c1 => intro j u hj; exact new_cells _ _ _ _ rfl j u hj
        case c2 => first | exact ⟨rfl, rfl⟩ | rfl | (intro u hu; simp at hu; rcases hu with rfl | rfl <;> rfl)
        case c3 => unfold maxLen; omega
        case c4 => omega
        case c5 => have := hbw.size; simp; omega
        intro v' w3 hown3 hgrow _ hob
        have HS := step_row hbw hb hr hne (by decide) hown3 hgrow (by simpa using hob)
        clear hown3 hgrow hob hb hr hc1 hc2 hc3
        obtain ⟨g', cb', rfl, hb', hr', hne', hbw'⟩ := HS
        go_wp2
        go_roundw
        case rel =>
          refine ⟨j + 1, g', cb', by go_num, by omega, ?_⟩
          rw [HQ.out]
          exact ⟨by simp, by simpa [Lib.byteCells] using hb', hr', hne', hbw'⟩
        case measure => simp [intOf]; omega
      by_cases b92 : (s[p]'hp).toNat = 92
      · have e1 : (((s[p]'hp).toNat : Int) == 92) = true := by rw [b92]; rfl
        have HQ : Hid (quoted ((pieces s.data.toList).take (j + 1)) = Q0 ++ [92, 92]) := by show _ = _; rw [hq, hf.2.1 b92]
        have n34 : (((s[p]'hp).toNat : Int) == 34) = false := by simp; omega
        clear hf b92 hq
        go_wp2_with (at_builtin; go_loud (refine wpList_append_own_at _ rfl _ _ 37 rfl w.heap.size 5 i0 (.int .u8 0) 1 1 Try.underlying37 hi hz0 hz1 hz2 rfl (by decide) _ _ _ rfl (hb.alloc _) ⟨wr.heap.size, 0, none⟩ 2 2 [.int .u8 92, .int .u8 92] rfl rfl ?d1 ?d2 ?d3 ?d4 ?d5 ?_))
        try case d1 => intro j u hj; exact new_cells _ _ _ _ rfl j u hj
        case d2 => first | exact ⟨rfl, rfl⟩ | rfl | (intro u hu; simp at hu; rcases hu with rfl | rfl <;> rfl)
        case d3 => unfold maxLen; omega
        case d4 => omega
        case d5 => have := hbw.size; simp; omega
        intro v' w3 hown3 hgrow _ hob
        have HS := step_row hbw hb hr hne (by decide) hown3 hgrow (by simpa using hob)
        clear hown3 hgrow hob hb hr hc1 hc2 hc3
        obtain ⟨g', cb', rfl, hb', hr', hne', hbw'⟩ := HS
        go_wp2
        go_roundw
        case rel =>
          refine ⟨j + 1, g', cb', by go_num, by omega, ?_⟩
          rw [HQ.out]
          exact ⟨by simp, by simpa [Lib.byteCells] using hb', hr', hne', hbw'⟩
        case measure => simp [intOf]; omega
      by_cases b10 : (s[p]'hp).toNat = 10
      · have e1 : (((s[p]'hp).toNat : Int) == 10) = true := by rw [b10]; rfl
        have HQ : Hid (quoted ((pieces s.data.toList).take (j + 1)) = Q0 ++ [92, 110]) := by show _ = _; rw [hq, hf.2.2.1 b10]
        have n34 : (((s[p]'hp).toNat : Int) == 34) = false := by simp; omega
        have n92 : (((s[p]'hp).toNat : Int) == 92) = false := by simp; omega
        clear hf b10 hq
        go_wp2_with (at_builtin; go_loud (refine wpList_append_own_at _ rfl _ _ 37 rfl w.heap.size 5 i0 (.int .u8 0) 1 1 Try.underlying37 hi hz0 hz1 hz2 rfl (by decide) _ _ _ rfl (hb.alloc _) ⟨wr.heap.size, 0, none⟩ 2 2 [.int .u8 92, .int .u8 110] rfl rfl ?f1 ?f2 ?f3 ?f4 ?f5 ?_))
        try case f1 => intro j u hj; exact new_cells _ _ _ _ rfl j u hj
        case f2 => first | exact ⟨rfl, rfl⟩ | rfl | (intro u hu; simp at hu; rcases hu with rfl | rfl <;> rfl)
        case f3 => unfold maxLen; omega
        case f4 => omega
        case f5 => have := hbw.size; simp; omega
        intro v' w3 hown3 hgrow _ hob
        have HS := step_row hbw hb hr hne (by decide) hown3 hgrow (by simpa using hob)
        clear hown3 hgrow hob hb hr hc1 hc2 hc3
        obtain ⟨g', cb', rfl, hb', hr', hne', hbw'⟩ := HS
        go_wp2
        go_roundw
        case rel =>
          refine ⟨j + 1, g', cb', by go_num, by omega, ?_⟩
          rw [HQ.out]
          exact ⟨by simp, by simpa [Lib.byteCells] using hb', hr', hne', hbw'⟩
        case measure => simp [intOf]; omega
      have n34 : (((s[p]'hp).toNat : Int) == 34) = false := by simp; omega
      have n92 : (((s[p]'hp).toNat : Int) == 92) = false := by simp; omega
      have n10 : (((s[p]'hp).toNat : Int) == 10) = false := by simp; omega
      by_cases hx : no = true ∨ (s[p]'hp).toNat < 32 ∨ (s[p]'hp).toNat = 127
      · have HQ : Hid (quoted ((pieces s.data.toList).take (j + 1)) = Q0 ++ [92, 120, hexB ((s[p]'hp).toNat / 16), hexB ((s[p]'hp).toNat % 16)]) := by
          show _ = _
          rw [hq, hf.2.2.2.1 b10 hx]
        clear hf hq b34 b92 b10
        have hx8 := UInt8.toNat_lt (s[p]'hp)
        have f1 : (0 : Int) ≤ ((s[p]'hp).toNat : Int) / 16 := by omega
        have f2 : ((s[p]'hp).toNat : Int) / 16 < 16 := by omega
        have f3 : (0 : Int) ≤ ((s[p]'hp).toNat : Int) % 16 := by omega
        have f4 : ((s[p]'hp).toNat : Int) % 16 < 16 := by omega
        have f5 : (((s[p]'hp).toNat / 16 : Nat) : Int) < 16 := by omega
        have f6 : (((s[p]'hp).toNat % 16 : Nat) : Int) < 16 := by omega
        have HH1 : Hid (∀ h, (⟨#[48, 49, 50, 51, 52, 53, 54, 55, 56, 57, 97, 98, 99, 100, 101, 102]⟩ : ByteArray)[(((s[p]'hp).toNat : Int) / 16).toNat]'h = hexB ((s[p]'hp).toNat / 16)) := by
          show ∀ h, _ = _
          have e : (((s[p]'hp).toNat : Int) / 16).toNat = (s[p]'hp).toNat / 16 := by omega
          simp only [e]
          exact fun h => hex_get _ _
        have HH2 : Hid (∀ h, (⟨#[48, 49, 50, 51, 52, 53, 54, 55, 56, 57, 97, 98, 99, 100, 101, 102]⟩ : ByteArray)[(((s[p]'hp).toNat : Int) % 16).toNat]'h = hexB ((s[p]'hp).toNat % 16)) := by
          show ∀ h, _ = _
          have e : (((s[p]'hp).toNat : Int) % 16).toNat = (s[p]'hp).toNat % 16 := by omega
          simp only [e]
          exact fun h => hex_get _ _
        have hand := and_15 (s[p]'hp)
        by_cases hno1 : no = true
        · subst hno1
          go_wp2
          go_region_held3 (fun w' => True) (trivial)
            ((refine step_append_lies _ (by rfl) _ _ _ (by rfl) w.heap.size 5 i0 (.int .u8 0) 1 1 Try.underlying37 hi hz0 hz1 hz2 (by rfl) (by omega) _ _ (Lib.byteCells Q0) (by rfl) (by first | exact (hb.alloc _).drew | exact hb.drew.alloc _ | exact hb.alloc _) ⟨wr.heap.size, 0, none⟩ 4 4 _ (by rfl) (by rfl) (World.news_of_block (t := 5) (fr := (0, 0)) (heap_alloc_new wr _)) (by simp [Value.oneCell']) (by omega) (by unfold maxLen; omega) (by omega) (by have := hbw.size; simp; omega) (wr.heap.size + 1) (by simp) ?_; intro gg cap3 w3 hown3 hgrow hat hlt))
          all_goals (
            have HX1 := HH1.out
            have HX2 := HH2.out
            simp only [HX1, HX2] at hown3
            clear HX1 HX2
            have hbz := hbw.size
            have HS := step_str (hbw.alloc (by omega) _).drew ((hb.alloc _).drew) ((hr.alloc _).drew) hne (by decide) hown3 hgrow
            clear hown3 hgrow hat hb hr hc1 hc2 hc3
            obtain ⟨g', cb', hv, hb', hr', hne', hbw'⟩ := HS
            injection hv with hv1 hv2 hv3
            injection hv1 with hv1
            injection hv1 with hv1 hv4 hv5
            subst hv1 hv3
            go_wp2
            go_roundw
            case rel =>
              refine ⟨j + 1, gg, cap3, by go_num, by omega, ?_⟩
              rw [HQ.out]
              exact ⟨by simp, by simpa [Lib.byteCells] using hb', hr', hne', hbw'⟩
            case measure => simp [intOf]; omega)
        obtain rfl : no = false := by cases no <;> simp_all
        by_cases h32 : (s[p]'hp).toNat < 32
        · have l32 : ((s[p]'hp).toNat : Int) < 32 := by omega
          go_wp2
          go_region_held3 (fun w' => True) (trivial)
            ((refine step_append_lies _ (by rfl) _ _ _ (by rfl) w.heap.size 5 i0 (.int .u8 0) 1 1 Try.underlying37 hi hz0 hz1 hz2 (by rfl) (by omega) _ _ (Lib.byteCells Q0) (by rfl) (by first | exact (hb.alloc _).drew | exact hb.drew.alloc _ | exact hb.alloc _) ⟨wr.heap.size, 0, none⟩ 4 4 _ (by rfl) (by rfl) (World.news_of_block (t := 5) (fr := (0, 0)) (heap_alloc_new wr _)) (by simp [Value.oneCell']) (by omega) (by unfold maxLen; omega) (by omega) (by have := hbw.size; simp; omega) (wr.heap.size + 1) (by simp) ?_; intro gg cap3 w3 hown3 hgrow hat hlt))
          all_goals (
            have HX1 := HH1.out
            have HX2 := HH2.out
            simp only [HX1, HX2] at hown3
            clear HX1 HX2
            have hbz := hbw.size
            have HS := step_str (hbw.alloc (by omega) _).drew ((hb.alloc _).drew) ((hr.alloc _).drew) hne (by decide) hown3 hgrow
            clear hown3 hgrow hat hb hr hc1 hc2 hc3
            obtain ⟨g', cb', hv, hb', hr', hne', hbw'⟩ := HS
            injection hv with hv1 hv2 hv3
            injection hv1 with hv1
            injection hv1 with hv1 hv4 hv5
            subst hv1 hv3
            go_wp2
            go_roundw
            case rel =>
              refine ⟨j + 1, gg, cap3, by go_num, by omega, ?_⟩
              rw [HQ.out]
              exact ⟨by simp, by simpa [Lib.byteCells] using hb', hr', hne', hbw'⟩
            case measure => simp [intOf]; omega)
        have h127 : (s[p]'hp).toNat = 127 := by rcases hx with h | h | h <;> simp_all
        have l32 : ¬ ((s[p]'hp).toNat : Int) < 32 := by omega
        have e127 : (((s[p]'hp).toNat : Int) == 127) = true := by rw [h127]; rfl
        clear hx h127
        go_wp2
        go_region_held3 (fun w' => True) (trivial)
          ((refine step_append_lies _ (by rfl) _ _ _ (by rfl) w.heap.size 5 i0 (.int .u8 0) 1 1 Try.underlying37 hi hz0 hz1 hz2 (by rfl) (by omega) _ _ (Lib.byteCells Q0) (by rfl) (by first | exact (hb.alloc _).drew | exact hb.drew.alloc _ | exact hb.alloc _) ⟨wr.heap.size, 0, none⟩ 4 4 _ (by rfl) (by rfl) (World.news_of_block (t := 5) (fr := (0, 0)) (heap_alloc_new wr _)) (by simp [Value.oneCell']) (by omega) (by unfold maxLen; omega) (by omega) (by have := hbw.size; simp; omega) (wr.heap.size + 1) (by simp) ?_; intro gg cap3 w3 hown3 hgrow hat hlt))
        all_goals (
          have HX1 := HH1.out
          have HX2 := HH2.out
          simp only [HX1, HX2] at hown3
          clear HX1 HX2
          have hbz := hbw.size
          have HS := step_str (hbw.alloc (by omega) _).drew ((hb.alloc _).drew) ((hr.alloc _).drew) hne (by decide) hown3 hgrow
          clear hown3 hgrow hat hb hr hc1 hc2 hc3
          obtain ⟨g', cb', hv, hb', hr', hne', hbw'⟩ := HS
          injection hv with hv1 hv2 hv3
          injection hv1 with hv1
          injection hv1 with hv1 hv4 hv5
          subst hv1 hv3
          go_wp2
          go_roundw
          case rel =>
            refine ⟨j + 1, gg, cap3, by go_num, by omega, ?_⟩
            rw [HQ.out]
            exact ⟨by simp, by simpa [Lib.byteCells] using hb', hr', hne', hbw'⟩
          case measure => simp [intOf]; omega)
      · have HQ : Hid (quoted ((pieces s.data.toList).take (j + 1)) = Q0 ++ (s[p]'hp :: r)) := by
          show _ = _
          rw [hq, hf.2.2.2.2 b34 b92 (by omega) (by omega) (by cases no <;> simp_all)]
        obtain rfl : no = false := by cases no <;> simp_all
        have l32 : ¬ ((s[p]'hp).toNat : Int) < 32 := by omega
        have l127 : (((s[p]'hp).toNat : Int) == 127) = false := by simp; omega
        clear hf hq hx b34 b92 b10
        have i0j : (0 : Int) ≤ (j : Int) := by omega
        have ijn : (j : Int) < (n : Int) := by omega
        have i0p : (0 : Int) ≤ (p : Int) := by omega
        have ipe : (p : Int) ≤ (en : Int) := by omega
        have ies : (en : Int) ≤ (s.size : Int) := by omega
        have hxt : s.extract p en = ⟨(s[p]'hp :: r).toArray⟩ := by
          apply Go.WideShapes.bytes_inj
          rw [Lib.extract_data, HC.out.1, show p + (r.length + 1) - p = r.length + 1 by omega, HC.out.2]
        have hxs : (s.extract p en).size = r.length + 1 := by rw [hxt]; show (s[p]'hp :: r).toArray.size = _; rw [List.size_toArray, List.length_cons]
        have hxc : Lib.strCells (s.extract p en) = Lib.byteCells (s[p]'hp :: r) := by rw [hxt]; rfl
        obtain ⟨X, hX⟩ : ∃ X, X = s.extract p en := ⟨_, rfl⟩
        have HX : Hid (X.size = r.length + 1 ∧ Lib.strCells X = Lib.byteCells (s[p]'hp :: r) ∧ X.size ≤ 1000000) := by
          show _ ∧ _ ∧ _
          rw [hX]; exact ⟨hxs, hxc, by rw [hxs]; have := HC.out.1; omega⟩
        clear hxt hxs hxc
        go_wp2
        go_still_tail 13, (by kernel_rfl)
        change wpList _ _ _ _ _ wr.drew
        have hbd := own_below' hb ((Below.refl _ wr).drew)
        have hrd := own_below' hr ((Below.refl _ wr).drew)
        rw [← hX]
        have hX6 := HX.out.2.2
        refine Lib.wpList_append_own_string _ rfl _ _ 37 9 rfl w.heap.size 5 i0 Try.underlying37 Try.underlying9 hi hz0 hz1 hz2 _ _ _ (by rfl) hbd X (by rfl) ?k3 ?k4 ?k5 ?_
        case k3 => unfold maxLen; omega
        case k4 => omega
        case k5 => have := hbw.size; simp; omega
        intro v' w3 hown3 hgrow _
        have HS := step_str hbw.drew hbd hrd hne (by rw [HX.out.1]; omega) hown3 hgrow
        clear hown3 hgrow hb hr hbd hrd hc1 hc2 hc3
        obtain ⟨g', cb', rfl, hb', hr', hne', hbw'⟩ := HS
        go_wp2
        go_roundw
        case rel =>
          refine ⟨j + 1, g', cb', by go_num, by omega, ?_⟩
          rw [HQ.out]
          have h1 := HX.out.1
          rw [HX.out.2.1, h1] at hb'
          refine ⟨?_, ?_, hr', hne', hbw'⟩
          · have h9 := HC.out.1
            rw [List.length_append, List.length_cons, show en - p = r.length + 1 by omega]
          · simpa [Lib.byteCells] using hb'
        case measure => simp [intOf]; omega
    · have hjn : j = n := by omega
      have hqe : quote s.data.toList = quoted ((pieces s.data.toList).take j) ++ [34] := by
        rw [List.take_of_length_le (by rw [← HN.out]; omega)]
        simp [quote, quoted, qbody]
      have hql : (quoted ((pieces s.data.toList).take j)).length ≤ 1 + 4 * n := by
        have h1 := flatMap_len ((pieces s.data.toList).take j) (fun c hc => pieces_mem _ c (List.mem_of_mem_take hc))
        simp only [quoted, List.length_cons, List.length_take] at h1 ⊢
        omega
      obtain ⟨Q0, hQ0⟩ : ∃ Q0, Q0 = quoted ((pieces s.data.toList).take j) := ⟨_, rfl⟩
      rw [← hQ0] at hqe hql hb
      rw [← hQ0]
      have HQ : Hid (quote s.data.toList = Q0 ++ [34]) := hqe
      clear hqe hQ0
      go_wp2_with (at_builtin; go_loud (refine wpList_append_own_at _ rfl _ _ 37 rfl w.heap.size 5 i0 (.int .u8 0) 1 1 Try.underlying37 hi hz0 hz1 hz2 rfl (by decide) _ _ _ rfl (hb.alloc _) ⟨wr.heap.size, 0, none⟩ 1 1 [.int .u8 34] rfl rfl ?m1 ?m2 ?m3 ?m4 ?m5 ?_))
      try case m1 => intro j u hj; exact new_cells _ _ _ _ rfl j u hj
      case m2 => first | exact ⟨rfl, rfl⟩ | rfl | (intro u hu; simp at hu; subst hu; rfl)
      case m3 => unfold maxLen; omega
      case m4 => omega
      case m5 => have := hbw.size; simp; omega
      intro v' w3 hown3 hgrow _ hob
      have HS := step_row hbw hb hr hne (by decide) hown3 hgrow (by simpa using hob)
      clear hown3 hgrow hob hb hr
      obtain ⟨g', cb', rfl, hb', _, _, hbw'⟩ := HS
      have hback := run_convert_bytes_back (P := Try.prog) w3 37 9 5 ⟨g', 0, none⟩ cb' (Q0 ++ [34]) Try.underlying37 Try.underlying5 Try.underlying9 (by
        intro i hi
        have hadd : (⟨g', 0, none⟩ : Addr).add i = ⟨g', i, none⟩ := by unfold Addr.add; split <;> simp_all
        have hcs : Lib.byteCells Q0 ++ [Value.int .u8 34] = (Q0 ++ [34]).map (fun b : UInt8 => Value.int .u8 b.toNat) := by rw [List.map_append]; rfl
        rw [hadd, hb'.cellAt i (by simp at hi; omega), hcs, List.getElem?_map, List.getElem?_eq_getElem hi]
        rfl)
      rw [List.length_append, List.length_singleton] at hback
      have HB : Hid (quoB s = ⟨(Q0 ++ [34]).toArray⟩) := by show quoB s = _; unfold quoB; rw [HQ.out]
      clear hb'
      go_wp2
      go_ret
      exact ⟨by rw [HB.out]; rfl, hbw'⟩

end Go.Proofs.Ytkjkejkodilbgaa
