/-
  What glob.takeAll, Check and Match answer.
-/
import Derived.Test.YtmijhgecdkdkmaaGlobG
set_option linter.unusedVariables false
namespace Go.Proofs.Ytmijhgecdkdkmaa
open Go.RowKit

theorem setL_few : ∀ (f : Nat) (S : List Sg) (first k : Nat) (acc sp : List (Nat × Nat)) (n : Nat), acc.length ≤ k → setL f S first k acc = some (sp, n) → sp.length ≤ n
  | 0, _, _, _, _, _, _, _, h => by simp [setL] at h
  | f + 1, S, first, k, acc, sp, n, ha, h => by
    rw [setL] at h
    split at h
    · split at h
      · split at h
        · simp at h
        · simp at h; rw [← h.1]; omega
      · split at h
        · simp at h
        · split at h
          · simp at h
          · refine setL_few f _ _ _ _ _ _ ?_ h
            have := spanF_w S k
            simp; omega
    · simp at h

theorem headR_few (S : List Sg) (h : S ≠ []) : (headR S).1.spans.length ≤ S.length := by
  have h0 : 0 < S.length := List.length_pos_iff.2 h
  unfold headR
  split
  · simp
  · split
    · simp
    · split
      · unfold setR
        cases hx : setL S.length S (setFirst S) (setFirst S) [] with
        | none => simp
        | some x => exact Nat.le_trans (setL_few _ _ _ _ _ x.1 x.2 (by simp) hx) (setL_bound _ _ _ _ _ x.1 x.2 hx).2
      · simp; omega

theorem pcF_few : ∀ (f : Nat) (S : List Sg) (P : List Pc), pcF f S = some P → P.length ≤ S.length ∧ ∀ p ∈ P, p.spans.length ≤ S.length
  | 0, S, P, h => by
    unfold pcF at h
    split at h
    · simp at h; subst h; simp
    · simp at h
  | f + 1, S, P, h => by
    unfold pcF at h
    split at h
    · simp at h; subst h; simp
    · rename_i hne
      split at h
      · simp at h
      · rename_i hn
        obtain ⟨P', hP, rfl⟩ := Option.map_eq_some_iff.1 h
        obtain ⟨h1, h2⟩ := pcF_few f _ P' hP
        have hb := headR_bound hne
        have hf := headR_few S hne
        rw [List.length_drop] at h1 h2
        refine ⟨by simp; omega, fun p hp => ?_⟩
        rcases List.mem_cons.1 hp with rfl | hp
        · exact hf
        · have := h2 p hp; omega

theorem patR_few {l : List UInt8} {P : List Pc} (h : patR l = some P) : P.length ≤ 40 ∧ ∀ p ∈ P, p.spans.length ≤ 40 := by
  unfold patR at h
  split at h
  · rename_i hc
    split at h
    · have hl := sgRun_len (runesOf (pieces l))
      have hr : (runesOf (pieces l)).length = (pieces l).length := by simp [runesOf]
      obtain ⟨h1, h2⟩ := pcF_few _ _ _ h
      exact ⟨by omega, fun p hp => by have := h2 p hp; omega⟩
    · simp at h
  · simp at h

/-- The ways behind the runes. -/
def takW (P : List Pc) (R : List Nat) : Nat := R.foldl (fun W r => skipF P 0 (stepF r W P 0 0)) (skipF P 0 1)
/-- Are the pieces all of the runes? -/
def takR (P : List Pc) (R : List Nat) : Bool := (takW P R).testBit P.length

theorem skipF_zero : ∀ (P : List Pc) (k : Nat), skipF P k 0 = 0
  | [], _ => rfl
  | x :: P, k => by rw [skipF, if_neg (by simp)]; exact skipF_zero P (k + 1)
theorem stepF_zero (r : Nat) : ∀ (P : List Pc) (k N : Nat), stepF r 0 P k N = N
  | [], _, _ => rfl
  | x :: P, k, N => by rw [stepF, if_pos (by simp)]; exact stepF_zero r P (k + 1) N
theorem takW_zero (P : List Pc) (R : List Nat) : R.foldl (fun W r => skipF P 0 (stepF r W P 0 0)) 0 = 0 := by
  induction R with
  | nil => rfl
  | cons r R ih => simp only [List.foldl_cons]; rw [stepF_zero, skipF_zero]; exact ih
theorem takW_snoc (P : List Pc) (R : List Nat) (r : Nat) : takW P (R ++ [r]) = skipF P 0 (stepF r (takW P R) P 0 0) := by simp [takW]
theorem takR_dead {P : List Pc} {R R' : List Nat} (h : takW P R = 0) : takR P (R ++ R') = false := by
  unfold takR
  rw [takW, List.foldl_append]
  have : R.foldl (fun W r => skipF P 0 (stepF r W P 0 0)) (skipF P 0 1) = 0 := h
  rw [this, takW_zero]; simp

set_option maxHeartbeats 4000000 in
set_option maxRecDepth 100000 in
theorem takeAll_any (v : Value) (P : List Pc) (s : ByteArray) (B : Nat) (w : World) (h : PcsOwn w B v P) (hl : P.length ≤ 40) (hsl : ∀ p ∈ P, p.spans.length ≤ 1000) (hs : s.size ≤ 1000000) :
    Calls Try.prog 38 #[v, .string s] w fun e w' => e = .returned (.bool (takR P (runesOf (pieces s.data.toList)))) ∧ Below w.heap.size w w' := by
  have hsk : ∀ (wx : World) (N : Nat), Below w.heap.size w wx → N < 2 ^ (P.length + 1) → Calls Try.prog 47 #[v, .int .u64 N] wx fun e w' => e = .returned (.int .u64 (skipF P 0 N)) ∧ skipF P 0 N < 2 ^ (P.length + 1) ∧ Below wx.heap.size wx w' :=
    fun wx N hb hN => skip_any v P N B wx (h.later hb) hl hN
  have hst : ∀ (wx : World) (N r : Nat), Below w.heap.size w wx → N < 2 ^ (P.length + 1) → Calls Try.prog 48 #[v, .int .u64 N, .int .i32 r] wx fun e w' => e = .returned (.int .u64 (stepF r N P 0 0)) ∧ stepF r N P 0 0 < 2 ^ (P.length + 1) ∧ Below wx.heap.size wx w' :=
    fun wx N r hb hN => step_any v P N r B wx (h.later hb) hl hsl hN
  obtain ⟨a, cap, hv⟩ : ∃ a cap, v = .slice a P.length cap := by
    obtain ⟨Q, rfl, ho, _⟩ := h
    obtain ⟨a, cap, hv⟩ := own_form ho
    exact ⟨a, cap, by simpa using hv⟩
  subst hv
  clear h hsl
  have B0 := Below.refl w.heap.size w
  have h11 : 1 < 2 ^ (P.length + 1) := Nat.lt_of_lt_of_le (by omega : 1 < 2 ^ 1) (Nat.pow_le_pow_right (by omega) (by omega))
  have hsk1 := hsk w 1 B0 h11
  obtain ⟨W0, hW0⟩ : ∃ W0, W0 = skipF P 0 1 := ⟨_, rfl⟩
  rw [← hW0] at hsk1
  have HW0 : Hid (takW P [] = W0) := by show _ = _; rw [hW0]; rfl
  clear hW0 h11
  go_enter Try.func38, Try.ntmps38
  go_wp2_with (go_at_call 47; refine hsk1.mono ?_; rintro e W1 ⟨rfl, hWl, b1⟩)
  obtain ⟨K, hK⟩ : ∃ K, K = W1.heap.size := ⟨_, rfl⟩
  have hKz : w.heap.size ≤ K := by rw [hK]; exact b1.size
  have hit0 := World.iter_heap W1 s 0
  rw [← hK] at hit0
  rw [← hK]
  have b1' := b1.alloc b1.size (.stringIter s 0)
  clear hK hsk1 B0
  go_loopw [5] (fun x wr => ∃ (pos : Nat) (pre : List (List UInt8)) (N : Nat), x = .int .u64 N ∧ N < 2 ^ (P.length + 1) ∧ wr.heap[K]? = some (.stringIter s pos) ∧ Below w.heap.size w wr ∧ upTo s.data.toList pre pos ∧ Hid (takW P (runesOf pre) = N)) (fun _ wr => s.size - wr.iterPos K)
  case atStart => exact ⟨0, [], W0, rfl, hWl, hit0, b1', upTo_start _, HW0⟩
  case round =>
    obtain ⟨pos, pre, N, rfl, hN, hit, hbw, hu, HS⟩ := hrel
    clear b1 b1' hit0 hWl HW0
    have hN41 : N < 2 ^ 41 := lt_pow_mono hN (by omega)
    have hKl : K < wr.heap.size := (Array.getElem?_eq_some_iff.1 hit).1
    by_cases hp : pos < s.size
    · have hpl : pos < s.data.toList.length := by rw [← size_len]; exact hp
      have hnx : ∀ ty, (Instr.next (.pointer (some ⟨K, 0, none⟩)) true ty).run Try.prog wr = _ := fun ty => Lib.run_next_any_at wr K s pos ty hit hp
      have hstep := upTo_step hu hpl
      have hmore := upTo_more hu hpl
      obtain ⟨hpc, hpl2, hpd⟩ := pieceAt_is s.data.toList pos hpl
      have hwd := (dec_width (s.data.toList.drop pos) (by intro h0; have := congrArg List.length h0; simp at this; omega)).1
      have hr4 := dec_rune (s.data.toList.drop pos)
      rw [← dec_at] at hstep hwd hpd hr4 hpl2 hmore
      obtain ⟨r, wd, hdec⟩ : ∃ r wd, Utf8.decode s pos = (r, wd) := ⟨_, _, rfl⟩
      rw [hdec] at hnx hstep hwd hpd hr4 hpl2 hmore
      simp only at hnx hstep hwd hr4 hpl2 hmore
      clear hdec
      have hrn : runesOf (pre ++ [pieceAt s.data.toList pos]) = runesOf pre ++ [r] := by simp [runesOf, hpd]
      have hit2 := Lib.iterAt_heap wr K s pos (pos + wd) hit
      have hbw2 := Lib.below_iterAt hbw (k := K) hKz s (pos + wd)
      have hst1 := hst (wr.iterAt K s (pos + wd)) N r hbw2 hN
      obtain ⟨M1, hM1⟩ : ∃ M, M = stepF r N P 0 0 := ⟨_, rfl⟩
      rw [← hM1] at hst1
      obtain ⟨M2, hM2⟩ : ∃ M, M = skipF P 0 M1 := ⟨_, rfl⟩
      have hsk2 : ∀ (wx : World), Below w.heap.size w wx → M1 < 2 ^ (P.length + 1) → Calls Try.prog 47 #[.slice a P.length cap, .int .u64 M1] wx fun e w' => e = .returned (.int .u64 M2) ∧ M2 < 2 ^ (P.length + 1) ∧ Below wx.heap.size wx w' := fun wx hb hM => by
        have := hsk wx M1 hb hM; rw [← hM2] at this; exact this
      have HS2 : Hid (takW P (runesOf (pre ++ [pieceAt s.data.toList pos])) = M2) := by
        show _ = _
        rw [hrn, takW_snoc, HS.out, ← hM1, ← hM2]
      have HST : Hid (upTo s.data.toList (pre ++ [pieceAt s.data.toList pos]) (pos + wd)) := hstep
      have HMO : Hid (pieces s.data.toList = pre ++ pieceAt s.data.toList pos :: pieces (s.data.toList.drop (pos + wd))) := hmore
      have hisz : (wr.iterAt K s (pos + wd)).heap.size = wr.heap.size := Lib.iterAt_size _ _ _ _
      clear hM1 hM2 hsk hst HS hu hpc hpd hpl2 hpl hstep hmore hrn hN41
      by_cases h0 : M2 = 0
      · subst h0
        have HN : Hid (takR P (runesOf (pieces s.data.toList)) = false) := by
          show _ = _
          rw [HMO.out, show pre ++ pieceAt s.data.toList pos :: pieces (s.data.toList.drop (pos + wd)) = (pre ++ [pieceAt s.data.toList pos]) ++ pieces (s.data.toList.drop (pos + wd)) by simp, runesOf, List.map_append]
          exact takR_dead HS2.out
        go_wp2_with (first | (go_at_call 48; refine hst1.mono ?_; rintro e W2 ⟨rfl, hM1l, b2⟩) | (go_at_call 47; (with_reducible refine (hsk2 _ (hbw2.trans (b2.mono (by rw [hisz]; omega))) hM1l).mono ?_); rintro e W3 ⟨rfl, hM2l, b3⟩))
        go_ret
        exact ⟨by rw [HN.out]; rfl, (hbw2.trans (b2.mono (by rw [hisz]; omega))).trans (b3.mono (by have := b2.size; omega))⟩
      · have h0i : ((M2 : Int) == 0) = false := beq_false_of_ne (by omega)
        go_wp2_with (first | (go_at_call 48; refine hst1.mono ?_; rintro e W2 ⟨rfl, hM1l, b2⟩) | (go_at_call 47; (with_reducible refine (hsk2 _ (hbw2.trans (b2.mono (by rw [hisz]; omega))) hM1l).mono ?_); rintro e W3 ⟨rfl, hM2l, b3⟩))
        have hit3 : W3.heap[K]? = some (.stringIter s (pos + wd)) := by
          rw [b3.block K (by have := b2.size; omega), b2.block K (by rw [hisz]; omega)]; exact hit2
        go_roundw
        case rel => exact ⟨pos + wd, _, M2, rfl, hM2l, hit3, (hbw2.trans (b2.mono (by rw [hisz]; omega))).trans (b3.mono (by have := b2.size; omega)), HST.out, HS2⟩
        case measure =>
          simp only [World.iterPos, hit3, hit]
          omega
    · have hpl : ¬ pos < s.data.toList.length := by rw [← size_len]; exact hp
      have hnx : ∀ ty, (Instr.next (.pointer (some ⟨K, 0, none⟩)) true ty).run Try.prog wr = _ := fun ty => Lib.run_next_end_at wr K s pos ty hit hp
      have hpe := upTo_end hu hpl
      have HN : Hid (takR P (runesOf (pieces s.data.toList)) = N.testBit P.length) := by show _ = _; rw [hpe, takR, HS.out]
      clear hpe HS hu hpl hsk hst
      cases hb : N.testBit P.length with
      | true =>
        have hbit := and_bit1 hN41 hb
        go_wp2
        go_ret
        exact ⟨by rw [HN.out, hb]; rfl, hbw⟩
      | false =>
        have hbit := and_bit0 hN41 hb
        go_wp2
        go_ret
        exact ⟨by rw [HN.out, hb]; rfl, hbw⟩

/-- Does a pattern take a text? -/
def matR (p s : List UInt8) : Bool := match patR p with
  | none => false
  | some P => valid s && takR P (runesOf (pieces s))

set_option maxHeartbeats 4000000 in
set_option maxRecDepth 100000 in
theorem Check_any (p : ByteArray) (w : World) (hp : p.size ≤ 1000000) :
    Calls Try.prog 18 #[.string p] w fun e w' => e = .returned (.int .i64 (if (patR p.data.toList).isSome = true then 0 else 1)) ∧ Below w.heap.size w w' := by
  have hpc := pieces_any p w hp
  cases hr : patR p.data.toList with
  | none =>
    rw [hr] at hpc
    have hpc2 : Calls Try.prog 35 #[.string p] w fun e w' => e = .returned (.tuple #[.slice none 0 0, .bool false]) ∧ Below w.heap.size w w' := hpc.mono fun e w' h => ⟨h.2, h.1⟩
    clear hpc hr
    go_enter Try.func18, Try.ntmps18
    go_wp2_with (go_at_call 35; refine hpc2.mono ?_; rintro e W1 ⟨rfl, b1⟩)
    go_ret
    exact ⟨rfl, b1⟩
  | some P =>
    rw [hr] at hpc
    have hpc2 : Calls Try.prog 35 #[.string p] w fun e w' => ∃ a n c, e = .returned (.tuple #[.slice a n c, .bool true]) ∧ Below w.heap.size w w' := hpc.mono fun e w' h => by
      obtain ⟨hb, v, he, Q, _, ho, _⟩ := h
      obtain ⟨a, c, hv⟩ := own_form ho
      exact ⟨a, _, c, by rw [he, hv], hb⟩
    clear hpc hr
    go_enter Try.func18, Try.ntmps18
    go_wp2_with (go_at_call 35; refine hpc2.mono ?_; rintro e W1 ⟨a, n, c, rfl, b1⟩)
    go_ret
    exact ⟨rfl, b1⟩

set_option maxHeartbeats 4000000 in
set_option maxRecDepth 100000 in
theorem Match_any (p s : ByteArray) (w : World) (hp : p.size ≤ 1000000) (hs : s.size ≤ 1000000) :
    Calls Try.prog 20 #[.string p, .string s] w fun e w' => e = .returned (.bool (matR p.data.toList s.data.toList)) ∧ Below w.heap.size w w' := by
  have hpc := pieces_any p w hp
  have hcV := fun (wx : World) (hb : Below w.heap.size w wx) => Valid_b s w wx hs hb
  cases hr : patR p.data.toList with
  | none =>
    rw [hr] at hpc
    have hpc2 : Calls Try.prog 35 #[.string p] w fun e w' => e = .returned (.tuple #[.slice none 0 0, .bool false]) ∧ Below w.heap.size w w' := hpc.mono fun e w' h => ⟨h.2, h.1⟩
    have HN : Hid (matR p.data.toList s.data.toList = false) := by show _ = _; unfold matR; rw [hr]
    clear hpc hr hcV
    go_enter Try.func20, Try.ntmps20
    go_wp2_with (go_at_call 35; refine hpc2.mono ?_; rintro e W1 ⟨rfl, b1⟩)
    go_ret
    exact ⟨by rw [HN.out]; rfl, b1⟩
  | some P =>
    rw [hr] at hpc
    obtain ⟨hP1, hP2⟩ := patR_few hr
    have hpc2 : Calls Try.prog 35 #[.string p] w fun e w' => ∃ a c, e = .returned (.tuple #[.slice a P.length c, .bool true]) ∧ PcsOwn w' w.heap.size (.slice a P.length c) P ∧ Below w.heap.size w w' := hpc.mono fun e w' h => by
      obtain ⟨hb, v, he, hpo⟩ := h
      obtain ⟨Q, hQ, ho, hs⟩ := hpo
      obtain ⟨a, c, hv⟩ := own_form ho
      have hl : Q.length = P.length := by rw [← hQ, List.length_map]
      rw [hl] at hv
      subst hv
      exact ⟨a, c, he, ⟨Q, hQ, ho, hs⟩, hb⟩
    clear hpc
    cases hv : vldB s with
    | false =>
      rw [hv] at hcV
      have HN : Hid (matR p.data.toList s.data.toList = false) := by show _ = _; unfold matR; rw [hr]; unfold vldB at hv; simp only [hv]; rfl
      clear hr hv
      go_enter Try.func20, Try.ntmps20
      go_wp2_with (first | (go_at_call 35; refine hpc2.mono ?_; rintro e W1 ⟨a, c, rfl, hpo, b1⟩) | (go_at_call 37; refine (hcV _ (by assumption)).mono ?_; rintro e W2 ⟨rfl, b2⟩))
      go_ret
      exact ⟨by rw [HN.out]; rfl, b2⟩
    | true =>
      rw [hv] at hcV
      have HN : Hid (matR p.data.toList s.data.toList = takR P (runesOf (pieces s.data.toList))) := by show _ = _; unfold matR; rw [hr]; unfold vldB at hv; simp only [hv]; rfl
      have htk := fun (a : Option Addr) (c : Nat) (wx : World) (h : PcsOwn wx w.heap.size (.slice a P.length c) P) => takeAll_any _ P s _ wx h hP1 (fun p hp => Nat.le_trans (hP2 p hp) (by omega)) hs
      obtain ⟨b, hb⟩ : ∃ b, b = takR P (runesOf (pieces s.data.toList)) := ⟨_, rfl⟩
      rw [← hb] at HN htk
      have HVV : Hid (valid s.data.toList = true) := hv
      clear hr hv hb hP2
      have hcV2 : ∀ (a : Option Addr) (c : Nat) (wx : World), Below w.heap.size w wx → PcsOwn wx w.heap.size (.slice a P.length c) P → Calls Try.prog 37 #[.string s] wx fun e w' => e = .returned (.bool true) ∧ Below w.heap.size w w' ∧ PcsOwn w' w.heap.size (.slice a P.length c) P := by
        intro a c wx hb hpo
        refine (Valid_any s wx (by unfold maxLen; omega)).mono ?_
        rintro e w' ⟨he, hb'⟩
        rw [HVV.out] at he
        exact ⟨he, hb.trans (hb'.mono hb.size), hpo.later hb'⟩
      go_enter Try.func20, Try.ntmps20
      go_wp2_with (first | (go_at_call 35; refine hpc2.mono ?_; rintro e W1 ⟨a, c, rfl, hpo, b1⟩) | (go_at_call 37; refine (hcV2 _ _ _ (by assumption) hpo).mono ?_; rintro e W2 ⟨rfl, b2, hpo2⟩) | (go_at_call 38; refine (htk _ _ _ hpo2).mono ?_; rintro e W3 ⟨rfl, b3⟩))
      go_ret
      exact ⟨by rw [HN.out]; rfl, b2.trans (b3.mono b2.size)⟩

end Go.Proofs.Ytmijhgecdkdkmaa
