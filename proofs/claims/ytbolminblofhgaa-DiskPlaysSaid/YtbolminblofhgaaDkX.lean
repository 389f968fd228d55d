/-
  DiskPlays: the walk.
-/
import Derived.Test.YtbolminblofhgaaDkW
import Derived.Test.YtbolminblofhgaaDsO
set_option linter.unusedVariables false
namespace Go.Proofs.Ytbolminblofhgaa
open Go.RowKit

def sumN (ss : List St) : Int := (ss.map fun s => max s.N 0).sum
theorem small_true : ∀ (ss : List St) (n : Int) (len : Nat), 0 ≤ n → n ≤ 1099511627776 → smallF n ss len = true → len ≤ 100 ∧ (∀ s ∈ ss, s.N ≤ 3000 ∧ s.nA.size ≤ 60000 ∧ s.nB.size ≤ 60000 ∧ s.pn ≤ 60000) ∧ n + sumN ss ≤ 60000
  | [], n, len, h0, h1, h => by
    unfold smallF at h
    rw [decide_eq_true_eq] at h
    exact ⟨h.1, (fun s hs => by cases hs), by simp [sumN]; omega⟩
  | s :: r, n, len, h0, h1, h => by
    unfold smallF at h
    split at h
    · cases h
    · rename_i hN
      have hf : ∀ y ∈ four_ s, 0 ≤ y := by
        intro y hy
        simp only [four_, List.mem_cons, List.mem_nil_iff, or_false] at hy
        rcases hy with rfl | rfl | rfl | rfl <;> omega
      obtain ⟨a, b, c⟩ := sumL_le (four_ s) n h0 h1 hf
      obtain ⟨y, hy⟩ : ∃ y, y = sumL n (four_ s) := ⟨_, rfl⟩
      rw [← hy] at a b c h
      clear hy
      obtain ⟨i1, i2, i3⟩ := small_true r y len (by omega) b h
      have hsn : 0 ≤ sumN r := by
        unfold sumN
        clear i1 i2 i3 h
        induction r with
        | nil => simp
        | cons a r ih => simp only [List.map_cons, List.sum_cons]; have : 0 ≤ max a.N 0 := by omega
                         omega
      have e := c (by omega)
      simp only [four_, List.sum_cons, List.sum_nil] at e
      have hc : sumN (s :: r) = max s.N 0 + sumN r := by simp [sumN]
      refine ⟨i1, fun t ht => ?_, by rw [hc]; omega⟩
      rcases List.mem_cons.1 ht with rfl | ht
      · omega
      · exact i2 t ht
theorem sumN_nonneg (ss : List St) : 0 ≤ sumN ss := by
  unfold sumN
  induction ss with
  | nil => simp
  | cons a r ih => simp only [List.map_cons, List.sum_cons]; have : 0 ≤ max a.N 0 := by omega
                   omega
theorem sumN_take (ss : List St) (j : Nat) (hj : j < ss.length) : sumN (ss.take (j + 1)) = sumN (ss.take j) + max (ss[j]'hj).N 0 := by
  unfold sumN
  rw [List.take_succ_eq_append_getElem hj, List.map_append, List.sum_append]; simp
theorem sumN_le (ss : List St) (j : Nat) : sumN (ss.take j) ≤ sumN ss := by
  have h : sumN ss = sumN (ss.take j) + sumN (ss.drop j) := by
    conv => lhs; rw [← List.take_append_drop j ss]
    unfold sumN; rw [List.map_append, List.sum_append]
  have := sumN_nonneg (ss.drop j)
  omega

/-- A step on both, whatever it is. -/
theorem does_any (w : World) (B g g2 : Nat) (mv v : Value) (Q P : List (Value × RF)) (C : CD) (M : RD) (s : St) (x : Addr) (i : Nat) (ci : Int) (T : Two w B g mv Q C g2 v P M) (hB : B ≤ w.heap.size) (hn : C.n ≤ 1000000) (hs : StAt w x i s) (hN : s.N ≤ 3000) (hA : s.nA.size ≤ 60000) (hBn : s.nB.size ≤ 60000) (hpn : s.pn ≤ 60000) (hk0 : -1000000000000 ≤ ci) (hk1 : ci ≤ 1000000000000) :
    Calls Try.prog 13 #[.pointer (some ⟨g, 0, none⟩), .pointer (some ⟨g2, 0, none⟩), .agg #[.int .i64 s.kind, .string s.nA, .string s.nB, .int .i64 s.N, .slice s.pa s.pn s.pc], .int .i64 ci] w (DoesPost w B C s.N) := by
  by_cases hk : 1 ≤ s.kind ∧ s.kind ≤ 7
  · have : s.kind = 1 ∨ s.kind = 2 ∨ s.kind = 3 ∨ s.kind = 4 ∨ s.kind = 5 ∨ s.kind = 6 ∨ s.kind = 7 := by omega
    rcases this with e | e | e | e | e | e | e <;> rw [e]
    · exact does_Append w B g g2 mv v Q P C M s.nA s.nB s.N s.pa s.pn s.pc ci T hB hn (by omega) hs.lo (by omega) hk0 hk1
    · exact does_Sync w B g g2 mv v Q P C M s.nA s.nB s.N s.pa s.pn s.pc ci T hB hn (by omega) (by omega)
    · exact does_Rename w B g g2 mv v Q P C M s.nA s.nB s.N s.pa s.pn s.pc ci T hB hn (by omega) (by omega)
    · exact does_Remove w B g g2 mv v Q P C M s.nA s.nB s.N s.pa s.pn s.pc ci T hB hn (by omega) (by omega)
    · exact does_Cut w B g g2 mv v Q P C M s.nA s.nB s.N s.pa s.pn s.pc ci T hB hn hs.lo hs.hi
    · exact does_Crash w B g g2 mv v Q P C M s.nA s.nB s.N s.pa s.pn s.pc ci T hB hn s.picks hs.its hs.pl (by omega) hs.pc hs.wf
    · exact does_Copy w B g g2 mv v Q P C M s.nA s.nB s.N s.pa s.pn s.pc ci T hB hn
  · exact does_other w B g g2 mv v Q P C M s.nA s.nB s.N s.pa s.pn s.pc ci T hB hn s.kind hk

structure PlRel (w wr : World) (ss : List St) (j g g2 : Nat) (mv v : Value) (Q P : List (Value × RF)) (C : CD) (M : RD) : Prop where
  two : Two wr w.heap.size g mv Q C g2 v P M
  bel : Below w.heap.size w wr
  n : C.n ≤ j
  tot : (tot C.L : Int) ≤ sumN (ss.take j)

set_option maxHeartbeats 8000000 in
set_option maxRecDepth 100000 in
theorem DiskPlays_body (a0 : Int) (a1 : Option Addr) (len1 cap1 : Nat) (ss : List St) (w : World) (w0 : (Lit.int .i64 a0).wf = true) (w1 : StepsIn w a1 len1 cap1 ss) (hl1 : len1 ≤ maxLen) :
    Calls Try.prog 3 #[.int .i64 a0, .slice a1 len1 cap1] w (AwPost w) := by
  have cS := small_any a1 len1 cap1 ss w w1 hl1
  have HW1 := Lib.hid w1
  clear w1
  cases hsm : smallF 0 ss len1 with
  | false =>
    rw [hsm] at cS
    have cW := fun wx hb => awake5_b w wx hb
    go_enter Try.func3, Try.ntmps3
    go_wp2_with (go_at_call 9; (with_reducible refine cS.mono ?_))
    rintro e W1 ⟨rfl, b1⟩
    have cW1 := cW W1 b1
    clear cW cS b1
    go_wp2_with (go_at_call 10; (with_reducible refine cW1.mono ?_))
    rintro e W2 ⟨rfl, b2⟩
    go_wp2
    go_ret
    exact ⟨rfl, b2⟩
  | true =>
    rw [hsm] at cS
    obtain ⟨hlen, hall, hsum⟩ := small_true ss 0 len1 (Int.le_refl _) (by omega) hsm
    have HALL := Lib.hid hall
    have HSUM := Lib.hid hsum
    have cW := fun wx hb => awake5_b w wx hb
    clear hsm hall hsum
    by_cases hbad : a0 < 0 ∨ 8388608 < a0
    · go_enter Try.func3, Try.ntmps3
      go_wp2_with (go_at_call 9; (with_reducible refine cS.mono ?_))
      rintro e W1 ⟨rfl, b1⟩
      have cW1 := cW W1 b1
      have c1 := dNew_no W1 a0 hbad
      have c2 := rNew_bad W1 a0 hbad
      clear cW cS b1 hbad
      go_wp2_with (first | (go_at_call 11; (with_reducible refine c1.mono ?_); rintro e W0 ⟨rfl, rfl⟩) | (go_at_call 12; (with_reducible refine c2.mono ?_); rintro e W0 ⟨rfl, rfl⟩) | (go_at_call 10; (with_reducible refine cW1.mono ?_)))
      rintro e W2 ⟨rfl, b2⟩
      go_wp2
      go_ret
      exact ⟨rfl, b2⟩
    · obtain ⟨R, hR⟩ : ∃ R : Nat, a0 = (R : Int) := ⟨a0.toNat, by omega⟩
      subst hR
      have hR2 : R ≤ 8388608 := by omega
      go_enter Try.func3, Try.ntmps3
      go_wp2_with (go_at_call 9; (with_reducible refine cS.mono ?_))
      rintro e W1 ⟨rfl, b1⟩
      have c1 := dNew W1 R hR2
      have HB1 := Lib.hid b1
      clear cW cS b1 hbad
      go_wp2_with (go_at_call 11; (with_reducible refine c1.mono ?_))
      rintro e W2 ⟨rfl, hW2⟩
      have HW2 := Lib.hid hW2
      clear hW2
      have c2 := rNew_ok W2 (R : Int) (by omega) (by omega)
      clear c1
      go_wp2_with (go_at_call 12; (with_reducible refine c2.mono ?_))
      rintro e W3 ⟨rfl, hW3⟩
      have hW2 := HW2.out
      have him2 : ImAt W2 W1.heap.size W1.heap.size (.map none) [] (newC R) := by rw [hW2]; exact newAt W1 W1.heap.size R (Nat.le_refl _)
      have hz2 : W2.heap.size = W1.heap.size + 1 := by rw [hW2]; simp
      have hb2 : Below W1.heap.size W1 W2 := by rw [hW2]; exact (Below.refl _ _).alloc (Nat.le_refl _) _
      have hb3 : Below W2.heap.size W2 W3 := by rw [hW3]; exact (Below.refl _ _).alloc (Nat.le_refl _) _
      have hdk3 : DkAt W3 W2.heap.size W2.heap.size (.slice none 0 0) [] ⟨R, [], 0, -1⟩ := by rw [hW3]; exact rNewAt W2 R
      have hzw := HB1.out.size
      have HR0 : PlRel w W3 ss 0 W1.heap.size W2.heap.size (.map none) (.slice none 0 0) [] [] (newC R) ⟨R, [], 0, -1⟩ := by
        refine ⟨⟨(him2.below hb3).low hzw, hdk3.lower (by omega), newC_inv R hR2, Sim.new R, fun k e e2 => ?_⟩, HB1.out.trans ((hb2.mono hzw).trans (hb3.mono (by omega))), Nat.le_refl _, ?_⟩
        · have x1 := (him2.ltS k e).2
          have x2 := (hdk3.ltAll k e2).1
          omega
        · show ((0 : Nat) : Int) ≤ sumN []
          simp [sumN]
      clear c2 hW2 hW3 him2 hb2 hb3 hdk3
      obtain ⟨G, hG⟩ : ∃ G, G = W1.heap.size := ⟨_, rfl⟩
      obtain ⟨G2, hG2⟩ : ∃ G, G = W2.heap.size := ⟨_, rfl⟩
      rw [← hG, ← hG2] at HR0
      rw [← hG, ← hG2]
      clear hG hG2 hz2 hzw
      have HL := Lib.hid HW1.out.len_eq
      go_wp2
      go_loopw [5, 7, 9] (fun d m i wr => ∃ (j g g2 : Nat) (mv v : Value) (Q P : List (Value × RF)) (C : CD) (M : RD), i = .int .i64 j ∧ j ≤ len1 ∧ d = .pointer (some ⟨g, 0, none⟩) ∧ m = .pointer (some ⟨g2, 0, none⟩) ∧ PlRel w wr ss j g g2 mv v Q P C M) (fun _ _ i _ => len1 - (intOf i).toNat)
      case atStart => exact ⟨0, G, G2, _, _, _, _, _, _, rfl, Nat.zero_le _, rfl, rfl, HR0⟩
      case round =>
        obtain ⟨j, g, g2, mv, v, Q, P, C, M, rfl, hj, rfl, rfl, hR⟩ := hrel
        clear HR0
        by_cases hlt : j < len1
        · have hlt2 : j < ss.length := by have := HL.out; omega
          obtain ⟨x, hax, hst0⟩ := HW1.out.at j hlt2
          subst hax
          have hst := hst0.below hR.bel
          obtain ⟨s, hs⟩ : ∃ s, s = ss[j]'hlt2 := ⟨_, rfl⟩
          have htk := sumN_take ss j hlt2
          have hle := sumN_le ss (j + 1)
          obtain ⟨b1, b2, b3, b4⟩ := HALL.out (ss[j]'hlt2) (List.getElem_mem hlt2)
          rw [← hs] at hst htk b1 b2 b3 b4
          have cD := does_any wr w.heap.size g g2 mv v Q P C M s x j (j : Int) hR.two hR.bel.size (by have := hR.n; omega) hst b1 b2 b3 b4 (by omega) (by omega)
          have c0 := hst.c0
          have c1 := hst.c1
          have c2 := hst.c2
          have c3 := hst.c3
          have c4 := hst.c4
          rw [fld x (j * 5) 1 (by decide)] at c1
          rw [fld x (j * 5) 2 (by decide)] at c2
          rw [fld x (j * 5) 3 (by decide)] at c3
          rw [fld x (j * 5) 4 (by decide)] at c4
          have hs0 := sumN_nonneg (ss.take j)
          have HRR := Lib.hid hR
          have HTK := Lib.hid htk
          have HLE := Lib.hid hle
          have hji0 : (0 : Int) ≤ (j : Int) := by omega
          have hji1 : (j : Int) < (len1 : Int) := by omega
          unfold DoesPost at cD
          clear hs hst hst0 hR htk hle
          go_wp2_with (go_at_call 13; (with_reducible refine cD.mono ?_))
          rintro e W4 ⟨g', mv', Q', C', g2', v', P', M', rfl, T4, b4', t4, n4⟩
          have ht4 : tot C'.L ≤ 1000000 := by have := HRR.out.tot; have := HTK.out; have := HLE.out; have := HSUM.out; omega
          have cSm := same_two W4 w.heap.size g' g2' mv' v' Q' P' C' M' T4 ht4
          have HT4 := Lib.hid T4
          have HB4 := Lib.hid b4'
          clear T4 b4' cD c0 c1 c2 c3 c4
          go_wp2_with (go_at_call 14; (with_reducible refine cSm.mono ?_))
          rintro e W5 ⟨rfl, b5⟩
          have hz4 : w.heap.size ≤ W4.heap.size := Nat.le_trans HRR.out.bel.size HB4.out.size
          have HN : Hid (PlRel w W5 ss (j + 1) g' g2' mv' v' Q' P' C' M') := ⟨HT4.out.below b5, (HRR.out.bel.trans HB4.out).trans (b5.mono hz4), by have := HRR.out.n; omega, by have := HRR.out.tot; rw [HTK.out]; omega⟩
          clear b5 cSm
          go_wp2
          go_roundw
          case rel => exact ⟨j + 1, g', g2', mv', v', Q', P', C', M', by go_num, by omega, rfl, rfl, HN.out⟩
          case measure => simp [intOf]; omega
        · have cW1 := awake5_b w wr hR.bel
          clear hR
          go_wp2_with (go_at_call 10; (with_reducible refine cW1.mono ?_))
          rintro e W2 ⟨rfl, b2⟩
          go_wp2
          go_ret
          exact ⟨rfl, b2⟩

end Go.Proofs.Ytbolminblofhgaa
