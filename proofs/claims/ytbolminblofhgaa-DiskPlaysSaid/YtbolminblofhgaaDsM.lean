/-
  Package disk: Crash.
-/
import Derived.Test.YtbolminblofhgaaDsL
set_option linter.unusedVariables false
namespace Go.Proofs.Ytbolminblofhgaa
open Go.RowKit

def CrashPost (w : World) (C : CD) (picks : List Int) (e : Ending) (w' : World) : Prop :=
  ∃ G mv' Q', e = .returned (.pointer (some ⟨G, 0, none⟩)) ∧ ImAt w' w.heap.size G mv' Q' ⟨C.room, crashL picks C.L, 0, false, 0⟩ ∧ Below w.heap.size w w'

set_option maxHeartbeats 2000000 in
set_option maxRecDepth 100000 in
theorem dCrash_nil (w : World) (v : Value) :
    Calls Try.prog 18 #[.pointer none, v] w (CrashPost w ⟨0, [], 0, false, 0⟩ []) := by
  go_enter Try.func18, Try.ntmps18
  go_wp2
  go_ret
  exact ⟨w.heap.size, .map none, [], rfl, newAt w w.heap.size 0 (Nat.le_refl _), (Below.refl _ _).alloc (Nat.le_refl _) _⟩

theorem eq_of_nm {L : List RF} (hr : Rise L) {f g : RF} (hf : f ∈ L) (hg : g ∈ L) (e : f.nm = g.nm) : f = g := by
  have h := hr.ne
  clear hr
  induction L with
  | nil => cases hf
  | cons a r ih =>
    obtain ⟨h1, h2⟩ := List.pairwise_cons.1 h
    rcases List.mem_cons.1 hf with rfl | hf'
    · rcases List.mem_cons.1 hg with rfl | hg'
      · rfl
      · exact absurd e (h1 g hg')
    · rcases List.mem_cons.1 hg with rfl | hg'
      · exact absurd e.symm (h1 f hf')
      · exact ih hf' hg' h2
theorem get_at {L : List RF} (hr : Rise L) (j : Nat) (hj : j < L.length) : getL (L[j]'hj).nm L = some (L[j]'hj) := by
  have hm : L[j]'hj ∈ L := List.getElem_mem hj
  have hs : (getL (L[j]'hj).nm L).isSome = true := by
    unfold getL
    rw [List.find?_isSome]
    exact ⟨_, hm, by simp⟩
  obtain ⟨f, hf⟩ := Option.isSome_iff_exists.1 hs
  obtain ⟨h1, h2⟩ := getL_mem hf
  rw [hf, eq_of_nm hr h1 hm h2]

structure CrRel (w wr : World) (C : CD) (picks : List Int) (na : Option Addr) (nc j : Nat) (mvO : Value) (QO : List (Value × RF)) (pa' : Option Addr) (pn' pc' : Nat) : Prop where
  out : ImR wr w.heap.size w.heap.size mvO QO (tot (crSt picks (C.L.take j)).1) ⟨C.room, (crSt picks (C.L.take j)).1, 0, false, 0⟩
  bel : Below w.heap.size w wr
  nam : wr.ownsRow w.heap.size 9 1 (.slice na C.L.length nc) C.L.length (C.L.map fun f => .string f.nm)
  its : Its w pa' (crSt picks (C.L.take j)).2
  pl : (crSt picks (C.L.take j)).2.length = pn'
  pc : pn' ≤ pc'
  sub : ∀ p ∈ (crSt picks (C.L.take j)).2, p ∈ picks

set_option maxHeartbeats 8000000 in
set_option maxRecDepth 100000 in
theorem dCrash (w : World) (B g : Nat) (mv : Value) (Q : List (Value × RF)) (C : CD) (pa : Option Addr) (pn pc : Nat) (picks : List Int) (h : ImAt w B g mv Q C) (hi : Inv C) (hp : Its w pa picks) (hpl : picks.length = pn) (hpn : pn ≤ 1000000) (hpc : pn ≤ pc) (hwf : ∀ p ∈ picks, -9223372036854775808 ≤ p ∧ p ≤ 9223372036854775807) :
    Calls Try.prog 18 #[.pointer (some ⟨g, 0, none⟩), .slice pa pn pc] w (CrashPost w C picks) := by
  obtain ⟨t0, t1, t2, _, _, _⟩ := h.cell
  obtain ⟨W1, hW1⟩ : ∃ W, W = w.alloc (.cells (stC (newC C.room) 0 (.map none)) 62) := ⟨_, rfl⟩
  have hO : ImAt W1 w.heap.size w.heap.size (.map none) [] (newC C.room) := by rw [hW1]; exact newAt w w.heap.size C.room (Nat.le_refl _)
  have hb1 : Below w.heap.size w W1 := by rw [hW1]; exact (Below.refl _ _).alloc (Nat.le_refl _) _
  have cN := dNames W1 B g mv Q _ C (h.below hb1) (by have := hi.len; omega)
  have t0a : (w.alloc (.cells #[.int .i64 0, .int .i64 0, .map none, .int .i64 0, .bool false, .int .i64 0] 62)).cell? ⟨g, 0, none⟩ = some (.int .i64 C.room) := by
    rw [World.cell?_of_block (w := w) (Below.heap_alloc _ _ _ h.lt)]; exact t0
  have hW1' : W1 = w.alloc (.cells #[.int .i64 C.room, .int .i64 0, .map none, .int .i64 0, .bool false, .int .i64 0] 62) := hW1
  have hr := h.rise
  have htot := hi.tot
  have hroom := hi.room
  have HH := Lib.hid h
  have H1 := Lib.hid hW1'
  have HP := Lib.hid hpl
  clear h hW1 hW1' t1 t2 hpl
  go_enter Try.func18, Try.ntmps18
  have cN' := cN
  rw [H1.out] at cN'
  go_wp2_with (go_at_call 23; (with_reducible refine cN'.mono ?_))
  rw [← H1.out]
  rintro e W2 ⟨na, nc, rfl, on, bn⟩
  have z1 : w.heap.size ≤ W1.heap.size := hb1.size
  have HR0 : CrRel w W2 C picks na nc 0 (.map none) [] pa pn pc := ⟨hO.below bn, hb1.trans (bn.mono z1), own_low on z1, hp, HP.out, hpc, fun p h => h⟩
  clear cN cN' t0 t0a hO on bn hb1 H1 hp
  go_wp2
  go_loopw [1, 26] (fun p i wr => ∃ j mvO QO pa' pn' pc', i = .int .i64 ((j : Nat) : Int) ∧ j ≤ C.L.length ∧ p = .slice pa' pn' pc' ∧ CrRel w wr C picks na nc j mvO QO pa' pn' pc') (fun _ i _ => C.L.length - (intOf i).toNat)
  case atStart => exact ⟨0, _, _, _, _, _, rfl, Nat.zero_le _, rfl, HR0⟩
  case round =>
    obtain ⟨j, mvO, QO, pa', pn', pc', rfl, hj, rfl, hR⟩ := hrel
    clear HR0
    by_cases hlt : j < C.L.length
    · have hst := crash_step hr picks j hlt
      have hga := get_at hr j hlt
      have hmem : C.L[j]'hlt ∈ C.L := List.getElem_mem hlt
      obtain ⟨gn, hna, _, _⟩ := own_some hR.nam (by omega)
      subst hna
      have hnc0 := hR.nam.cellAt j (show j < C.L.length * 1 by omega)
      have hnc : wr.cell? ⟨gn, j, none⟩ = some (.string (C.L[j]'hlt).nm) := by
        rw [hnc0]; simp [hlt]
      clear hnc0
      obtain ⟨f, hf⟩ : ∃ f, f = C.L[j]'hlt := ⟨_, rfl⟩
      rw [← hf] at hst hga hmem hnc
      have hsyn := hi.syn f hmem
      have hfl : f.b.length ≤ tot C.L := by have := (tot_del f.nm hr.ne).1; rw [hga] at this; simp only at this; omega
      have hgq := HH.out.getL f.nm
      rw [hga] at hgq
      obtain ⟨q, hq, hq2⟩ := Option.map_eq_some_iff.1 hgq
      obtain ⟨v0, f'⟩ := q
      simp only at hq2
      subst hq2
      obtain ⟨hqm, _⟩ := getQ_mem hq
      obtain ⟨a0, k0, hv0⟩ := own_slice (HH.out.2.2.2.2.1 _ hqm)
      simp only at hv0
      subst hv0
      have hD := HH.out.below hR.bel
      have lk := (hD.2.2.2.1.look f'.nm (by have := hi.nm f' hmem; unfold maxLen; omega)).2
      rw [show lkV f'.nm Q = .agg #[.slice a0 f'.b.length k0, .int .i64 f'.s] by unfold lkV; rw [hq]; rfl] at lk
      have o0 := hD.2.2.2.2.1 _ hqm
      simp only at o0
      obtain ⟨_, _, t2, _, _, _⟩ := hD.cell
      have o0' : Bts wr a0 f'.b := Bts.own o0
      have hA0 : a0 = none → k0 = 0 := own_cap o0
      obtain ⟨n0, hn0⟩ : ∃ n, n = f'.b.length := ⟨_, rfl⟩
      obtain ⟨s0, hs0⟩ : ∃ n, n = f'.s := ⟨_, rfl⟩
      have hk0 : n0 ≤ k0 := by rw [hn0]; exact own_room o0
      rw [← hn0] at lk hsyn hfl
      rw [← hs0] at lk hsyn
      have HF := Lib.hid hf
      have HN0 := Lib.hid hn0
      have HS0 := Lib.hid hs0
      have HST := Lib.hid hst
      have HRR := Lib.hid hR
      have HDD := Lib.hid hD
      have HQ := Lib.hid hq
      have HGA := Lib.hid hga
      have HO0 := Lib.hid o0'
      have HA0 := Lib.hid hA0
      clear hf hn0 hs0 hst hR hD hq hgq hga o0 o0' hA0 hqm
      obtain ⟨uo, huo⟩ : ∃ x : Int, x = tot (crSt picks (C.L.take j)).1 := ⟨_, rfl⟩
      have hub : 0 ≤ uo ∧ uo ≤ 8388608 := by
        have e1 := crSt_tot picks (C.L.take j) (fun f hf => hi.syn f (List.mem_of_mem_take hf))
        have e2 : tot (C.L.take j) ≤ tot C.L := by
          conv => rhs; rw [← List.take_append_drop j C.L]
          unfold tot; rw [List.map_append, List.sum_append]; omega
        omega
      have HUO := Lib.hid huo
      have hz : w.heap.size ≤ wr.heap.size := HRR.out.bel.size
      obtain ⟨hub0, hub1⟩ := hub
      obtain ⟨ps, hps⟩ : ∃ x, x = (crSt picks (C.L.take j)).2 := ⟨_, rfl⟩
      have hits := HRR.out.its
      have hpl := HRR.out.pl
      have hpcj := HRR.out.pc
      have hsub := HRR.out.sub
      rw [← hps] at hits hpl hsub
      have HPS := Lib.hid hps
      have HITS := Lib.hid hits
      have HPL := Lib.hid hpl
      have HSUB := Lib.hid hsub
      clear huo hps hits hpl hsub
      by_cases hloose : s0 < n0
      · cases ps with
        | nil =>
          have h0 : pn' = 0 := by have := HPL.out; simpa using this.symm
          subst h0
          have HK : Hid (keepN f' [] = s0) := by show _ = _; unfold keepN; rw [HS0.out]; simp
          have HRE : Hid (restP f' [] = []) := by show _ = _; unfold restP; simp
          have hb4 : Below wr.heap.size wr (wr.alloc (.cells #[.slice a0 n0 k0, .int .i64 s0] 77)) := (Below.refl _ _).alloc (Nat.le_refl _) _
          have hlk : (f'.b.take s0).length = s0 := by rw [List.length_take, ← HN0.out]; omega
          have cC := dClone a0 s0 k0 (f'.b.take s0) (wr.alloc (.cells #[.slice a0 n0 k0, .int .i64 s0] 77)) hlk (by omega) ((HO0.out.take s0).later hb4) HA0.out
          have HLK := Lib.hid hlk
          clear hb4 hlk
          go_wp2_with (go_at_call 45; (with_reducible refine cC.mono ?_))
          rintro e W5 ⟨a2, c2, rfl, o5, b5⟩
          have kb : Kept (fun _ => False) wr W5 := Kept.of_below (((Below.refl wr.heap.size wr).alloc (Nat.le_refl _) _).trans (b5.mono (by first | omega | simp)))
          have b4 : Below w.heap.size wr W5 := ((Below.refl _ _).alloc hz _).trans (b5.mono (by first | omega | (simp; omega)))
          have hI := HRR.out.out.kept kb (fun _ _ h => h)
          have nam5 := Kept.own HRR.out.nam kb (fun _ _ h => h)
          have hQOl : QO.length ≤ C.L.length := by
            have e1 := congrArg List.length hI.2.1
            rw [List.length_map] at e1
            rw [e1, crSt_len, List.length_take]; omega
          have hlen := hi.len
          have hnm1 := hi.nm f' hmem
          have hP : PutPre W5 w.heap.size w.heap.size mvO QO (tot (crSt picks (C.L.take j)).1) ⟨C.room, (crSt picks (C.L.take j)).1, 0, false, 0⟩ (.slice a2 s0 c2, ⟨f'.nm, f'.b.take s0, s0⟩) := by
            refine ⟨hI.1, hI.2.1, hI.2.2.1, hI.2.2.2.1, fun p hp => hI.2.2.2.2.1 p (mem_delQ hp).1, hI.2.2.2.2.2.filter _, ?_, fun p hp k hk e => ?_⟩
            · show W5.ownsRow w.heap.size 5 1 (.slice a2 s0 c2) (f'.b.take s0).length _
              rw [HLK.out]
              exact own_low o5 (by first | omega | (simp; omega))
            · have e1 := (HRR.out.out.ltS k (.inr (.inr ⟨p, (mem_delQ hp).1, hk⟩))).2
              have e2 := (own_lt o5 k e).1
              first | omega | (simp at e2; omega)
          have cP := dPut W5 w.heap.size w.heap.size mvO QO _ _ a2 s0 c2 s0 f'.nm (f'.b.take s0) hP (by omega) (by omega) (Nat.le_trans hz b4.size)
          try simp only [Int.natCast_add] at cP
          have HI := Lib.hid hI
          have HNAM := Lib.hid nam5
          have HB4 := Lib.hid b4
          clear hI nam5 hP o5 b5 kb b4 cC lk hnc
          go_wp2_with (go_at_call 42; (with_reducible refine cP.mono ?_))
          rintro e W7 ⟨mv7, rfl, h7, k7, n7⟩
          obtain ⟨_, c1, _, _, _, _⟩ := h7.cell
          have f7 := h7.frozen 1
          rw [← HUO.out] at c1
          have H7 := Lib.hid h7
          have HK7 := Lib.hid k7
          have hw : wrap64 (uo + (s0 : Int)) = uo + (s0 : Int) := IntWalk.wrap64_in _ (by omega)
          have hw2 : IntKind.i64.wrap (uo + (s0 : Int)) = uo + (s0 : Int) := IntWalk.i64_in _ (by omega)
          clear h7 cP k7
          go_wp2
          go_roundw
          case rel =>
            refine ⟨j + 1, mv7, putQ (.slice a2 s0 c2, ⟨f'.nm, f'.b.take s0, s0⟩) QO, pa', 0, pc', by go_num, by omega, rfl, ?_⟩
            have hL : (crSt picks (C.L.take (j + 1))).1 = putL ⟨f'.nm, f'.b.take s0, s0⟩ (crSt picks (C.L.take j)).1 := by
              rw [HST.out.2, HST.out.1]; unfold crOne; rw [← HPS.out, HK.out]
            have hT : ((tot (crSt picks (C.L.take (j + 1))).1 : Nat) : Int) = uo + (s0 : Int) := by
              rw [hL, HST.out.2, HUO.out]; simp only [tot, List.map_append, List.map_cons, List.map_nil, List.sum_append, List.sum_cons, List.sum_nil, HLK.out]; omega
            have hR2 : (crSt picks (C.L.take (j + 1))).2 = [] := by
              rw [HST.out.1]; unfold crOne; rw [← HPS.out, HRE.out]
            have hG : w.heap.size ≤ w.heap.size := Nat.le_refl _
            have hKS : ∀ k, (k = w.heap.size ∨ mvO = .map (some k)) → w.heap.size ≤ k := fun k e => by
              rcases e with e | e
              · omega
              · exact (HI.out.ltS k (.inr (.inl e))).1
            have hB7 : Below w.heap.size w W7 := (HRR.out.bel.trans HB4.out).trans (HK7.out.below (Nat.le_trans hz HB4.out.size) hKS)
            have hN7 := Kept.own HNAM.out HK7.out (fun k hk e => by
              rcases e with e | e
              · subst e; exact own_ne HI.out.2.2.1 HNAM.out (by decide) hk
              · exact HI.out.2.2.2.1.ne_own HNAM.out k hk e)
            refine ⟨?_, hB7.setCell (by exact Nat.le_refl _) _, Kept.own hN7 (Kept.cellG 1 _) (fun k hk e => own_ne H7.out.2.2.1 hN7 (by decide) (e ▸ hk)), by rw [hR2]; exact Or.inl rfl, by rw [hR2]; exact rfl, hpcj, by rw [hR2]; exact (fun _ h => by cases h)⟩
            rw [hT]
            exact H7.out.set 1 (.int .i64 (uo + (s0 : Int))) (u' := uo + (s0 : Int)) (C' := ⟨C.room, (crSt picks (C.L.take (j + 1))).1, 0, false, 0⟩) rfl hL
          case measure => simp [intOf]; omega
        | cons p r =>
          obtain ⟨x, rfl, hx, hx1⟩ := (HITS.out.later HRR.out.bel).head
          obtain ⟨x2, hx2, _, HIT1⟩ := HITS.out.head
          injection hx2 with hx2
          rw [← hx2] at HIT1
          clear hx2
          have hpw := hwf p (HSUB.out p (by simp))
          obtain ⟨hpl, hph⟩ := hpw
          have hpn0 : 0 < pn' := by have := HPL.out; simp at this; omega
          have hxa : (wr.alloc (.cells #[.slice a0 n0 k0, .int .i64 s0] 77)).cell? x = some (.int .i64 p) := by
            rw [World.cell?_of_block (w := wr) (Below.heap_alloc _ _ _ (World.block_lt_of_cell? wr _ hx))]; exact hx
          obtain ⟨rr, hrr⟩ : ∃ rr : Nat, rr = (p % ((n0 : Int) - s0 + 1)).toNat := ⟨_, rfl⟩
          have em1 := Int.emod_nonneg p (show ((n0 : Int) - s0 + 1) ≠ 0 by omega)
          have em2 := Int.emod_lt_of_pos p (show (0 : Int) < ((n0 : Int) - s0 + 1) by omega)
          have hrb : s0 + rr ≤ n0 := by omega
          have cR := fun W => dRest p ((n0 : Int) - s0 + 1) W (by omega) (by omega) hpl hph
          rw [show p % ((n0 : Int) - s0 + 1) = ((rr : Nat) : Int) by omega] at cR
          have HK : Hid (keepN f' (p :: r) = s0 + rr) := by show _ = _; unfold keepN; rw [← HN0.out, ← HS0.out, if_pos hloose, hrr]
          have HRE : Hid (restP f' (p :: r) = r) := by show _ = _; unfold restP; rw [← HN0.out, ← HS0.out, if_pos hloose]; rfl
          have HX1 := Lib.hid hx1
          clear hx1 hrr em1 em2 hx
          have hpl1 : r.length + 1 = pn' := by have := HPL.out; simpa using this
          by_cases hpc1 : pc' = 1
          · subst hpc1
            have hb4 : Below wr.heap.size wr (wr.alloc (.cells #[.slice a0 n0 k0, .int .i64 s0] 77)) := (Below.refl _ _).alloc (Nat.le_refl _) _
            have hlk : (f'.b.take (s0 + rr)).length = (s0 + rr) := by rw [List.length_take, ← HN0.out]; omega
            have cC := dClone a0 (s0 + rr) k0 (f'.b.take (s0 + rr)) (wr.alloc (.cells #[.slice a0 n0 k0, .int .i64 s0] 77)) hlk (by omega) ((HO0.out.take (s0 + rr)).later hb4) HA0.out
            have HLK := Lib.hid hlk
            clear hb4 hlk
            go_wp2_with (first | (go_at_call 44; (with_reducible refine (cR _).mono ?_); rintro e W' ⟨rfl, rfl⟩) | (go_at_call 45; (with_reducible refine cC.mono ?_)))
            rintro e W5 ⟨a2, c2, rfl, o5, b5⟩
            have kb : Kept (fun _ => False) wr W5 := Kept.of_below (((Below.refl wr.heap.size wr).alloc (Nat.le_refl _) _).trans (b5.mono (by first | omega | simp)))
            have b4 : Below w.heap.size wr W5 := ((Below.refl _ _).alloc hz _).trans (b5.mono (by first | omega | (simp; omega)))
            have hI := HRR.out.out.kept kb (fun _ _ h => h)
            have nam5 := Kept.own HRR.out.nam kb (fun _ _ h => h)
            have hQOl : QO.length ≤ C.L.length := by
              have e1 := congrArg List.length hI.2.1
              rw [List.length_map] at e1
              rw [e1, crSt_len, List.length_take]; omega
            have hlen := hi.len
            have hnm1 := hi.nm f' hmem
            have hP : PutPre W5 w.heap.size w.heap.size mvO QO (tot (crSt picks (C.L.take j)).1) ⟨C.room, (crSt picks (C.L.take j)).1, 0, false, 0⟩ (.slice a2 (s0 + rr) c2, ⟨f'.nm, f'.b.take (s0 + rr), (s0 + rr)⟩) := by
              refine ⟨hI.1, hI.2.1, hI.2.2.1, hI.2.2.2.1, fun p hp => hI.2.2.2.2.1 p (mem_delQ hp).1, hI.2.2.2.2.2.filter _, ?_, fun p hp k hk e => ?_⟩
              · show W5.ownsRow w.heap.size 5 1 (.slice a2 (s0 + rr) c2) (f'.b.take (s0 + rr)).length _
                rw [HLK.out]
                exact own_low o5 (by first | omega | (simp; omega))
              · have e1 := (HRR.out.out.ltS k (.inr (.inr ⟨p, (mem_delQ hp).1, hk⟩))).2
                have e2 := (own_lt o5 k e).1
                first | omega | (simp at e2; omega)
            have cP := dPut W5 w.heap.size w.heap.size mvO QO _ _ a2 (s0 + rr) c2 (s0 + rr) f'.nm (f'.b.take (s0 + rr)) hP (by omega) (by omega) (Nat.le_trans hz b4.size)
            try simp only [Int.natCast_add] at cP
            have HI := Lib.hid hI
            have HNAM := Lib.hid nam5
            have HB4 := Lib.hid b4
            clear hI nam5 hP o5 b5 kb b4 cC lk hnc
            go_wp2_with (go_at_call 42; (with_reducible refine cP.mono ?_))
            rintro e W7 ⟨mv7, rfl, h7, k7, n7⟩
            obtain ⟨_, c1, _, _, _, _⟩ := h7.cell
            have f7 := h7.frozen 1
            rw [← HUO.out] at c1
            have H7 := Lib.hid h7
            have HK7 := Lib.hid k7
            have hw : wrap64 (uo + ((s0 : Int) + (rr : Int))) = uo + ((s0 : Int) + (rr : Int)) := IntWalk.wrap64_in _ (by omega)
            have hw2 : IntKind.i64.wrap (uo + ((s0 : Int) + (rr : Int))) = uo + ((s0 : Int) + (rr : Int)) := IntWalk.i64_in _ (by omega)
            clear h7 cP k7
            go_wp2
            go_roundw
            case rel =>
              refine ⟨j + 1, mv7, putQ (.slice a2 (s0 + rr) c2, ⟨f'.nm, f'.b.take (s0 + rr), (s0 + rr)⟩) QO, (some x), 0, 0, by go_num, by omega, rfl, ?_⟩
              have hL : (crSt picks (C.L.take (j + 1))).1 = putL ⟨f'.nm, f'.b.take (s0 + rr), (s0 + rr)⟩ (crSt picks (C.L.take j)).1 := by
                rw [HST.out.2, HST.out.1]; unfold crOne; rw [← HPS.out, HK.out]
              have hT : ((tot (crSt picks (C.L.take (j + 1))).1 : Nat) : Int) = uo + ((s0 : Int) + (rr : Int)) := by
                rw [hL, HST.out.2, HUO.out]; simp only [tot, List.map_append, List.map_cons, List.map_nil, List.sum_append, List.sum_cons, List.sum_nil, HLK.out]; omega
              have hR2 : (crSt picks (C.L.take (j + 1))).2 = r := by
                rw [HST.out.1]; unfold crOne; rw [← HPS.out, HRE.out]
              have hG : w.heap.size ≤ w.heap.size := Nat.le_refl _
              have hKS : ∀ k, (k = w.heap.size ∨ mvO = .map (some k)) → w.heap.size ≤ k := fun k e => by
                rcases e with e | e
                · omega
                · exact (HI.out.ltS k (.inr (.inl e))).1
              have hB7 : Below w.heap.size w W7 := (HRR.out.bel.trans HB4.out).trans (HK7.out.below (Nat.le_trans hz HB4.out.size) hKS)
              have hN7 := Kept.own HNAM.out HK7.out (fun k hk e => by
                rcases e with e | e
                · subst e; exact own_ne HI.out.2.2.1 HNAM.out (by decide) hk
                · exact HI.out.2.2.2.1.ne_own HNAM.out k hk e)
              refine ⟨?_, hB7.setCell (by exact Nat.le_refl _) _, Kept.own hN7 (Kept.cellG 1 _) (fun k hk e => own_ne H7.out.2.2.1 hN7 (by decide) (e ▸ hk)), by rw [hR2]; exact (by rw [show r = [] from List.eq_nil_of_length_eq_zero (by omega)]; exact Or.inl rfl), by rw [hR2]; exact (by omega), (by omega), by rw [hR2]; exact (fun q hq => HSUB.out q (by simp [hq]))⟩
              rw [hT]
              exact H7.out.set 1 (.int .i64 (uo + ((s0 : Int) + (rr : Int)))) (u' := uo + ((s0 : Int) + (rr : Int))) (C' := ⟨C.room, (crSt picks (C.L.take (j + 1))).1, 0, false, 0⟩) rfl hL
            case measure => simp [intOf]; omega
          · have hpc2 : 1 < pc' := by omega
            have hb4 : Below wr.heap.size wr (wr.alloc (.cells #[.slice a0 n0 k0, .int .i64 s0] 77)) := (Below.refl _ _).alloc (Nat.le_refl _) _
            have hlk : (f'.b.take (s0 + rr)).length = (s0 + rr) := by rw [List.length_take, ← HN0.out]; omega
            have cC := dClone a0 (s0 + rr) k0 (f'.b.take (s0 + rr)) (wr.alloc (.cells #[.slice a0 n0 k0, .int .i64 s0] 77)) hlk (by omega) ((HO0.out.take (s0 + rr)).later hb4) HA0.out
            have HLK := Lib.hid hlk
            clear hb4 hlk
            go_wp2_with (first | (go_at_call 44; (with_reducible refine (cR _).mono ?_); rintro e W' ⟨rfl, rfl⟩) | (go_at_call 45; (with_reducible refine cC.mono ?_)))
            rintro e W5 ⟨a2, c2, rfl, o5, b5⟩
            have kb : Kept (fun _ => False) wr W5 := Kept.of_below (((Below.refl wr.heap.size wr).alloc (Nat.le_refl _) _).trans (b5.mono (by first | omega | simp)))
            have b4 : Below w.heap.size wr W5 := ((Below.refl _ _).alloc hz _).trans (b5.mono (by first | omega | (simp; omega)))
            have hI := HRR.out.out.kept kb (fun _ _ h => h)
            have nam5 := Kept.own HRR.out.nam kb (fun _ _ h => h)
            have hQOl : QO.length ≤ C.L.length := by
              have e1 := congrArg List.length hI.2.1
              rw [List.length_map] at e1
              rw [e1, crSt_len, List.length_take]; omega
            have hlen := hi.len
            have hnm1 := hi.nm f' hmem
            have hP : PutPre W5 w.heap.size w.heap.size mvO QO (tot (crSt picks (C.L.take j)).1) ⟨C.room, (crSt picks (C.L.take j)).1, 0, false, 0⟩ (.slice a2 (s0 + rr) c2, ⟨f'.nm, f'.b.take (s0 + rr), (s0 + rr)⟩) := by
              refine ⟨hI.1, hI.2.1, hI.2.2.1, hI.2.2.2.1, fun p hp => hI.2.2.2.2.1 p (mem_delQ hp).1, hI.2.2.2.2.2.filter _, ?_, fun p hp k hk e => ?_⟩
              · show W5.ownsRow w.heap.size 5 1 (.slice a2 (s0 + rr) c2) (f'.b.take (s0 + rr)).length _
                rw [HLK.out]
                exact own_low o5 (by first | omega | (simp; omega))
              · have e1 := (HRR.out.out.ltS k (.inr (.inr ⟨p, (mem_delQ hp).1, hk⟩))).2
                have e2 := (own_lt o5 k e).1
                first | omega | (simp at e2; omega)
            have cP := dPut W5 w.heap.size w.heap.size mvO QO _ _ a2 (s0 + rr) c2 (s0 + rr) f'.nm (f'.b.take (s0 + rr)) hP (by omega) (by omega) (Nat.le_trans hz b4.size)
            try simp only [Int.natCast_add] at cP
            have HI := Lib.hid hI
            have HNAM := Lib.hid nam5
            have HB4 := Lib.hid b4
            clear hI nam5 hP o5 b5 kb b4 cC lk hnc
            go_wp2_with (go_at_call 42; (with_reducible refine cP.mono ?_))
            rintro e W7 ⟨mv7, rfl, h7, k7, n7⟩
            obtain ⟨_, c1, _, _, _, _⟩ := h7.cell
            have f7 := h7.frozen 1
            rw [← HUO.out] at c1
            have H7 := Lib.hid h7
            have HK7 := Lib.hid k7
            have hw : wrap64 (uo + ((s0 : Int) + (rr : Int))) = uo + ((s0 : Int) + (rr : Int)) := IntWalk.wrap64_in _ (by omega)
            have hw2 : IntKind.i64.wrap (uo + ((s0 : Int) + (rr : Int))) = uo + ((s0 : Int) + (rr : Int)) := IntWalk.i64_in _ (by omega)
            clear h7 cP k7
            go_wp2
            go_roundw
            case rel =>
              refine ⟨j + 1, mv7, putQ (.slice a2 (s0 + rr) c2, ⟨f'.nm, f'.b.take (s0 + rr), (s0 + rr)⟩) QO, (some (x.add 1)), (pn' - 1), (pc' - 1), by go_num, by omega, rfl, ?_⟩
              have hL : (crSt picks (C.L.take (j + 1))).1 = putL ⟨f'.nm, f'.b.take (s0 + rr), (s0 + rr)⟩ (crSt picks (C.L.take j)).1 := by
                rw [HST.out.2, HST.out.1]; unfold crOne; rw [← HPS.out, HK.out]
              have hT : ((tot (crSt picks (C.L.take (j + 1))).1 : Nat) : Int) = uo + ((s0 : Int) + (rr : Int)) := by
                rw [hL, HST.out.2, HUO.out]; simp only [tot, List.map_append, List.map_cons, List.map_nil, List.sum_append, List.sum_cons, List.sum_nil, HLK.out]; omega
              have hR2 : (crSt picks (C.L.take (j + 1))).2 = r := by
                rw [HST.out.1]; unfold crOne; rw [← HPS.out, HRE.out]
              have hG : w.heap.size ≤ w.heap.size := Nat.le_refl _
              have hKS : ∀ k, (k = w.heap.size ∨ mvO = .map (some k)) → w.heap.size ≤ k := fun k e => by
                rcases e with e | e
                · omega
                · exact (HI.out.ltS k (.inr (.inl e))).1
              have hB7 : Below w.heap.size w W7 := (HRR.out.bel.trans HB4.out).trans (HK7.out.below (Nat.le_trans hz HB4.out.size) hKS)
              have hN7 := Kept.own HNAM.out HK7.out (fun k hk e => by
                rcases e with e | e
                · subst e; exact own_ne HI.out.2.2.1 HNAM.out (by decide) hk
                · exact HI.out.2.2.2.1.ne_own HNAM.out k hk e)
              refine ⟨?_, hB7.setCell (by exact Nat.le_refl _) _, Kept.own hN7 (Kept.cellG 1 _) (fun k hk e => own_ne H7.out.2.2.1 hN7 (by decide) (e ▸ hk)), by rw [hR2]; exact HIT1, by rw [hR2]; exact (by omega), (by omega), by rw [hR2]; exact (fun q hq => HSUB.out q (by simp [hq]))⟩
              rw [hT]
              exact H7.out.set 1 (.int .i64 (uo + ((s0 : Int) + (rr : Int)))) (u' := uo + ((s0 : Int) + (rr : Int))) (C' := ⟨C.room, (crSt picks (C.L.take (j + 1))).1, 0, false, 0⟩) rfl hL
            case measure => simp [intOf]; omega
      · obtain rfl : s0 = n0 := by omega
        have HK : Hid (keepN f' ps = s0) := by show _ = _; unfold keepN; rw [← HN0.out, ← HS0.out, if_neg (by omega)]
        have HRE : Hid (restP f' ps = ps) := by show _ = _; unfold restP; rw [← HN0.out, ← HS0.out, if_neg (by omega)]
        have hb4 : Below wr.heap.size wr (wr.alloc (.cells #[.slice a0 s0 k0, .int .i64 s0] 77)) := (Below.refl _ _).alloc (Nat.le_refl _) _
        have hlk : (f'.b.take s0).length = s0 := by rw [List.length_take, ← HN0.out]; omega
        have cC := dClone a0 s0 k0 (f'.b.take s0) (wr.alloc (.cells #[.slice a0 s0 k0, .int .i64 s0] 77)) hlk (by omega) ((HO0.out.take s0).later hb4) HA0.out
        have HLK := Lib.hid hlk
        clear hb4 hlk
        go_wp2_with (go_at_call 45; (with_reducible refine cC.mono ?_))
        rintro e W5 ⟨a2, c2, rfl, o5, b5⟩
        have kb : Kept (fun _ => False) wr W5 := Kept.of_below (((Below.refl wr.heap.size wr).alloc (Nat.le_refl _) _).trans (b5.mono (by first | omega | simp)))
        have b4 : Below w.heap.size wr W5 := ((Below.refl _ _).alloc hz _).trans (b5.mono (by first | omega | (simp; omega)))
        have hI := HRR.out.out.kept kb (fun _ _ h => h)
        have nam5 := Kept.own HRR.out.nam kb (fun _ _ h => h)
        have hQOl : QO.length ≤ C.L.length := by
          have e1 := congrArg List.length hI.2.1
          rw [List.length_map] at e1
          rw [e1, crSt_len, List.length_take]; omega
        have hlen := hi.len
        have hnm1 := hi.nm f' hmem
        have hP : PutPre W5 w.heap.size w.heap.size mvO QO (tot (crSt picks (C.L.take j)).1) ⟨C.room, (crSt picks (C.L.take j)).1, 0, false, 0⟩ (.slice a2 s0 c2, ⟨f'.nm, f'.b.take s0, s0⟩) := by
          refine ⟨hI.1, hI.2.1, hI.2.2.1, hI.2.2.2.1, fun p hp => hI.2.2.2.2.1 p (mem_delQ hp).1, hI.2.2.2.2.2.filter _, ?_, fun p hp k hk e => ?_⟩
          · show W5.ownsRow w.heap.size 5 1 (.slice a2 s0 c2) (f'.b.take s0).length _
            rw [HLK.out]
            exact own_low o5 (by first | omega | (simp; omega))
          · have e1 := (HRR.out.out.ltS k (.inr (.inr ⟨p, (mem_delQ hp).1, hk⟩))).2
            have e2 := (own_lt o5 k e).1
            first | omega | (simp at e2; omega)
        have cP := dPut W5 w.heap.size w.heap.size mvO QO _ _ a2 s0 c2 s0 f'.nm (f'.b.take s0) hP (by omega) (by omega) (Nat.le_trans hz b4.size)
        try simp only [Int.natCast_add] at cP
        have HI := Lib.hid hI
        have HNAM := Lib.hid nam5
        have HB4 := Lib.hid b4
        clear hI nam5 hP o5 b5 kb b4 cC lk hnc
        go_wp2_with (go_at_call 42; (with_reducible refine cP.mono ?_))
        rintro e W7 ⟨mv7, rfl, h7, k7, n7⟩
        obtain ⟨_, c1, _, _, _, _⟩ := h7.cell
        have f7 := h7.frozen 1
        rw [← HUO.out] at c1
        have H7 := Lib.hid h7
        have HK7 := Lib.hid k7
        have hw : wrap64 (uo + (s0 : Int)) = uo + (s0 : Int) := IntWalk.wrap64_in _ (by omega)
        have hw2 : IntKind.i64.wrap (uo + (s0 : Int)) = uo + (s0 : Int) := IntWalk.i64_in _ (by omega)
        clear h7 cP k7
        go_wp2
        go_roundw
        case rel =>
          refine ⟨j + 1, mv7, putQ (.slice a2 s0 c2, ⟨f'.nm, f'.b.take s0, s0⟩) QO, pa', pn', pc', by go_num, by omega, rfl, ?_⟩
          have hL : (crSt picks (C.L.take (j + 1))).1 = putL ⟨f'.nm, f'.b.take s0, s0⟩ (crSt picks (C.L.take j)).1 := by
            rw [HST.out.2, HST.out.1]; unfold crOne; rw [← HPS.out, HK.out]
          have hT : ((tot (crSt picks (C.L.take (j + 1))).1 : Nat) : Int) = uo + (s0 : Int) := by
            rw [hL, HST.out.2, HUO.out]; simp only [tot, List.map_append, List.map_cons, List.map_nil, List.sum_append, List.sum_cons, List.sum_nil, HLK.out]; omega
          have hR2 : (crSt picks (C.L.take (j + 1))).2 = ps := by
            rw [HST.out.1]; unfold crOne; rw [← HPS.out, HRE.out]
          have hG : w.heap.size ≤ w.heap.size := Nat.le_refl _
          have hKS : ∀ k, (k = w.heap.size ∨ mvO = .map (some k)) → w.heap.size ≤ k := fun k e => by
            rcases e with e | e
            · omega
            · exact (HI.out.ltS k (.inr (.inl e))).1
          have hB7 : Below w.heap.size w W7 := (HRR.out.bel.trans HB4.out).trans (HK7.out.below (Nat.le_trans hz HB4.out.size) hKS)
          have hN7 := Kept.own HNAM.out HK7.out (fun k hk e => by
            rcases e with e | e
            · subst e; exact own_ne HI.out.2.2.1 HNAM.out (by decide) hk
            · exact HI.out.2.2.2.1.ne_own HNAM.out k hk e)
          refine ⟨?_, hB7.setCell (by exact Nat.le_refl _) _, Kept.own hN7 (Kept.cellG 1 _) (fun k hk e => own_ne H7.out.2.2.1 hN7 (by decide) (e ▸ hk)), by rw [hR2]; exact HITS.out, by rw [hR2]; exact HPL.out, hpcj, by rw [hR2]; exact HSUB.out⟩
          rw [hT]
          exact H7.out.set 1 (.int .i64 (uo + (s0 : Int))) (u' := uo + (s0 : Int)) (C' := ⟨C.room, (crSt picks (C.L.take (j + 1))).1, 0, false, 0⟩) rfl hL
        case measure => simp [intOf]; omega
    · have hjl : j = C.L.length := by omega
      subst hjl
      go_wp2
      go_ret
      have h1 := hR.out
      rw [List.take_length] at h1
      exact ⟨w.heap.size, mvO, QO, rfl, h1, hR.bel⟩

end Go.Proofs.Ytbolminblofhgaa
