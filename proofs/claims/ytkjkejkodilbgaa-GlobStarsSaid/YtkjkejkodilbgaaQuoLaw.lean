/-
  GlobQuotes: the walk of the law's text.
-/
import Derived.Test.YtkjkejkodilbgaaGlobL
import Derived.Lib.RuneBytes
set_option linter.unusedVariables false
namespace Go.Proofs.Ytkjkejkodilbgaa
open Go.RowKit
open Go.Lib (decodeN)

theorem enc_list (n : Nat) (hn : n ≤ 1114111) (hs : n < 55296 ∨ 57343 < n) : (Utf8.encode (n : Int)).data.toList = Lib.encodeRune (n : Int) := by
  have hv : Utf8.valid (n : Int) = true := by unfold Utf8.valid; simp; omega
  unfold Utf8.encode
  simp only [hv, if_true, Int.toNat_natCast]
  unfold Lib.encodeRune Lib.encodeRuneZ
  by_cases h1 : n < 128
  · rw [if_pos h1, if_pos (show (0 : Int) ≤ (n : Int) ∧ (n : Int) ≤ 127 by omega)]; simp
  · rw [if_neg h1, if_neg (show ¬ ((0 : Int) ≤ (n : Int) ∧ (n : Int) ≤ 127) by omega)]
    by_cases h2 : n < 2048
    · rw [if_pos h2, if_pos (show (128 : Int) ≤ (n : Int) ∧ (n : Int) ≤ 2047 by omega)]
      have e1 : ((192 : Int) + (n : Int) / 64).toNat = 192 + n / 64 := by omega
      have e2 : ((128 : Int) + (n : Int) % 64).toNat = 128 + n % 64 := by omega
      simp only [List.map_cons, List.map_nil, e1, e2]
    · rw [if_neg h2, if_neg (show ¬ ((128 : Int) ≤ (n : Int) ∧ (n : Int) ≤ 2047) by omega)]
      by_cases h3 : n < 65536
      · rw [if_pos h3, if_pos (show ((2048 : Int) ≤ (n : Int) ∧ (n : Int) < 55296) ∨ ((57343 : Int) < (n : Int) ∧ (n : Int) ≤ 65535) by omega)]
        have e1 : ((224 : Int) + (n : Int) / 4096).toNat = 224 + n / 4096 := by omega
        have e2 : ((128 : Int) + (n : Int) / 64 % 64).toNat = 128 + n / 64 % 64 := by omega
        have e3 : ((128 : Int) + (n : Int) % 64).toNat = 128 + n % 64 := by omega
        simp only [List.map_cons, List.map_nil, e1, e2, e3]
      · rw [if_neg h3, if_neg (show ¬ (((2048 : Int) ≤ (n : Int) ∧ (n : Int) < 55296) ∨ ((57343 : Int) < (n : Int) ∧ (n : Int) ≤ 65535)) by omega), if_pos (show (65536 : Int) ≤ (n : Int) ∧ (n : Int) ≤ 1114111 by omega)]
        have e1 : ((240 : Int) + (n : Int) / 262144).toNat = 240 + n / 262144 := by omega
        have e2 : ((128 : Int) + (n : Int) / 4096 % 64).toNat = 128 + n / 4096 % 64 := by omega
        have e3 : ((128 : Int) + (n : Int) / 64 % 64).toNat = 128 + n / 64 % 64 := by omega
        have e4 : ((128 : Int) + (n : Int) % 64).toNat = 128 + n % 64 := by omega
        simp only [List.map_cons, List.map_nil, e1, e2, e3, e4]

theorem decodeN_nosur (n b0 b1 b2 b3 : Nat) (hb : b0 < 256) : (decodeN n b0 b1 b2 b3).1 < 55296 ∨ 57343 < (decodeN n b0 b1 b2 b3).1 := by
  unfold decodeN
  repeat' split
  all_goals (simp; try omega)

/-- A rune that was read of a text is written as its bytes. -/
theorem enc_piece {c : List UInt8} (h : isPiece c) (hb : bad c = false) : (Utf8.encode ((dec c).1 : Int)).data.toList = c := by
  rw [enc_list _ (dec_rune c) (decodeN_nosur _ _ _ _ _ (UInt8.toNat_lt _)), piece_encode h hb]

/-- Each rune behind a backslash. -/
def bsl (cs : List (List UInt8)) : List UInt8 := cs.flatMap fun c => 92 :: c
def bslP (cs : List (List UInt8)) : List (List UInt8) := cs.flatMap fun c => [[92], c]

theorem bslP_flat (cs : List (List UInt8)) : (bslP cs).flatten = bsl cs := by
  induction cs with
  | nil => rfl
  | cons c r ih => simp only [bslP, bsl, List.flatMap_cons, List.flatten_append] at ih ⊢; rw [ih]; simp
theorem bslP_good {cs : List (List UInt8)} (h : ∀ c ∈ cs, isPiece c ∧ bad c = false) : ∀ c ∈ bslP cs, isPiece c ∧ bad c = false := by
  intro c hc
  obtain ⟨d, hd, hc⟩ := List.mem_flatMap.1 hc
  rcases List.mem_cons.1 hc with rfl | hc
  · exact ⟨⟨by decide, by decide, by decide⟩, by decide⟩
  · simp at hc; subst hc; exact h c hd
theorem bsl_pieces {cs : List (List UInt8)} (h : ∀ c ∈ cs, isPiece c ∧ bad c = false) : pieces (bsl cs) = bslP cs := by
  have := pieces_good_append (bslP cs) [] (bslP_good h)
  rw [List.append_nil, pieces_nil, List.append_nil, bslP_flat] at this
  exact this
theorem bsl_signs (cs : List (List UInt8)) : sgRun (runesOf (bslP cs)) = ((runesOf cs).map fun r => (r, false), true) := by
  have gen : ∀ (cs : List (List UInt8)) (S : List Sg), (runesOf (bslP cs)).foldl sgStep (S, true) = (S ++ (runesOf cs).map fun r => (r, false), true) := by
    intro cs
    induction cs with
    | nil => intro S; simp [runesOf, bslP]
    | cons c r ih =>
      intro S
      have e : runesOf (bslP (c :: r)) = 92 :: (dec c).1 :: runesOf (bslP r) := by simp only [runesOf, bslP, List.flatMap_cons, List.map_append, List.map_cons, List.map_nil]; rfl
      have s1 : sgStep (S, true) 92 = (S, false) := by unfold sgStep; simp
      have s2 : sgStep (S, false) (dec c).1 = (S ++ [((dec c).1, false)], true) := by unfold sgStep; simp
      rw [e, List.foldl_cons, List.foldl_cons, s1, s2, ih]
      simp [runesOf]
  have := gen cs []
  simpa [sgRun] using this

theorem bsl_pat {cs : List (List UInt8)} (h : ∀ c ∈ cs, isPiece c ∧ bad c = false) (hc : 2 * cs.length ≤ 40) : patR (bsl cs) = some ((runesOf cs).map litP) := by
  have hl : (bslP cs).length = 2 * cs.length := by
    clear h hc
    induction cs with
    | nil => rfl
    | cons c r ih => simp only [bslP, List.flatMap_cons, List.length_append] at ih ⊢; rw [ih]; simp; omega
  unfold patR
  rw [bsl_pieces h, if_pos ⟨by unfold valid; rw [bsl_pieces h, List.all_eq_true]; intro c hc; simp [(bslP_good h c hc).2], by rw [hl]; exact hc⟩, bsl_signs]
  simp only [if_true]
  rw [signs_pat _ (fun s hs => by obtain ⟨r, hr, rfl⟩ := List.mem_map.1 hs; exact Or.inl rfl)]
  simp [Function.comp_def]

theorem bsl_mat {s t p : ByteArray} (hv : vldB s = true) (hc : 2 * cntB s ≤ 40) (hp : p.data.toList = bsl (pieces s.data.toList)) : chkB p = true ∧ (matB p t = true ↔ s = t) := by
  have hpat := bsl_pat (good_all hv) hc
  constructor
  · unfold chkB; rw [hp, hpat]; rfl
  · unfold matB matR
    rw [hp, hpat]
    simp only [Bool.and_eq_true, takR_iff, lits_mt]
    constructor
    · rintro ⟨h1, h2⟩; exact Go.WideShapes.bytes_inj (texts_eq hv h1 h2.symm)
    · rintro rfl; exact ⟨hv, rfl⟩

theorem bsl_snoc (pre : List (List UInt8)) (c : List UInt8) : bsl (pre ++ [c]) = bsl pre ++ 92 :: c := by simp [bsl]

set_option maxHeartbeats 8000000 in
set_option maxRecDepth 100000 in
theorem GlobQuotes_walk (s t : ByteArray) (hs : s.size ≤ maxLen) (ht : t.size ≤ maxLen) (w : World) :
    Calls Try.prog 8 #[.string s, .string t] w fun e w' => e = .returned (.bool true) ∧ Below w.heap.size w w' := by
  have B0 := Below.refl w.heap.size w
  clear hs ht
  by_cases hs : 60 < s.size
  · go_enter Try.func8, Try.ntmps8
    go_wp2_with (go_at_call 17; refine (awake2_b w _ (by assumption)).mono ?_; rintro e W1 ⟨rfl, b1⟩)
    all_goals (go_ret; exact ⟨rfl, by assumption⟩)
  by_cases ht : 300 < t.size
  · go_enter Try.func8, Try.ntmps8
    go_wp2_with (go_at_call 17; refine (awake2_b w _ (by assumption)).mono ?_; rintro e W1 ⟨rfl, b1⟩)
    all_goals (go_ret; exact ⟨rfl, by assumption⟩)
  have cV := fun (wx : World) (hb : Below w.heap.size w wx) => rValid_b s w wx (by omega) hb
  cases hv : vldB s with
  | false =>
    rw [hv] at cV
    clear hv
    go_enter Try.func8, Try.ntmps8
    go_wp2_with (first | (go_at_call 23; refine (cV _ (by assumption)).mono ?_; rintro e W1 ⟨rfl, b1⟩) | (go_at_call 17; refine (awake2_b w _ (by assumption)).mono ?_; rintro e W1 ⟨rfl, b1⟩))
    all_goals (go_ret; exact ⟨rfl, by assumption⟩)
  | true =>
  rw [hv] at cV
  have cN := fun (wx : World) (hb : Below w.heap.size w wx) => rCount_b s w wx (by omega) hb
  have hns : cntB s ≤ s.size := by have := pieces_length_le s.data.toList; rw [← size_len] at this; exact this
  obtain ⟨N, hN⟩ : ∃ N, N = cntB s := ⟨_, rfl⟩
  rw [← hN] at cN hns
  by_cases h40 : 40 < 2 * N
  · have h40i : (40 : Int) < 2 * (N : Int) := by omega
    clear hv hN
    go_enter Try.func8, Try.ntmps8
    go_wp2_with (first | (go_at_call 23; refine (cV _ (by assumption)).mono ?_; rintro e W1 ⟨rfl, b1⟩) | (go_at_call 24; refine (cN _ (by assumption)).mono ?_; rintro e W1 ⟨rfl, b1⟩) | (go_at_call 17; refine (awake2_b w _ (by assumption)).mono ?_; rintro e W1 ⟨rfl, b1⟩))
    all_goals (go_ret; exact ⟨rfl, by assumption⟩)
  have h40i : ¬ (40 : Int) < 2 * (N : Int) := by omega
  have HV : Hid (vldB s = true) := hv
  have HG : Hid (∀ c ∈ pieces s.data.toList, isPiece c ∧ bad c = false) := good_all hv
  have HM : Hid (∀ p : ByteArray, p.data.toList = bsl (pieces s.data.toList) → chkB p = true ∧ (matB p s = true) ∧ (matB p t = true ↔ s = t)) := fun p hp =>
    ⟨(bsl_mat (t := s) hv (by omega) hp).1, (bsl_mat (t := s) hv (by omega) hp).2.2 rfl, (bsl_mat (t := t) hv (by omega) hp).2⟩
  clear hv hN h40
  go_enter Try.func8, Try.ntmps8
  go_wp2_with (first | (go_at_call 23; refine (cV _ (by assumption)).mono ?_; rintro e W1 ⟨rfl, b1⟩) | (go_at_call 24; refine (cN _ (by assumption)).mono ?_; rintro e W2 ⟨rfl, b2⟩))
  obtain ⟨K, hK⟩ : ∃ K, K = W2.heap.size := ⟨_, rfl⟩
  have hKz : w.heap.size ≤ K := by rw [hK]; exact b2.size
  have hit0 := World.iter_heap W2 s 0
  rw [← hK] at hit0
  rw [← hK]
  have b2' := b2.alloc b2.size (.stringIter s 0)
  clear hK cV cN b1 B0
  go_loopw [5] (fun x wr => ∃ (pos : Nat) (pre : List (List UInt8)) (p : ByteArray), x = .string p ∧ p.size ≤ 2 * pos ∧ wr.heap[K]? = some (.stringIter s pos) ∧ Below w.heap.size w wr ∧ upTo s.data.toList pre pos ∧ Hid (p.data.toList = bsl pre)) (fun _ wr => s.size - wr.iterPos K)
  case atStart => exact ⟨0, [], ⟨#[]⟩, rfl, Nat.le_refl _, hit0, b2', upTo_start _, rfl⟩
  case round =>
    obtain ⟨pos, pre, p, rfl, hps, hit, hbw, hu, HS⟩ := hrel
    clear b2 b2' hit0
    have hKl : K < wr.heap.size := (Array.getElem?_eq_some_iff.1 hit).1
    by_cases hp : pos < s.size
    · have hpl : pos < s.data.toList.length := by rw [← size_len]; exact hp
      have hnx : ∀ ty, (Instr.next (.pointer (some ⟨K, 0, none⟩)) true ty).run Try.prog wr = _ := fun ty => Lib.run_next_any_at wr K s pos ty hit hp
      have hstep := upTo_step hu hpl
      have hmore := upTo_more hu hpl
      obtain ⟨hpc, hpl2, hpd⟩ := pieceAt_is s.data.toList pos hpl
      have hgd := (HG.out (pieceAt s.data.toList pos) (by rw [hmore]; simp)).2
      have henc := enc_piece hpc hgd
      have hwd := (dec_width (s.data.toList.drop pos) (by intro h0; have := congrArg List.length h0; simp at this; omega)).1
      have hr4 := dec_rune (s.data.toList.drop pos)
      rw [hpd] at henc
      rw [← dec_at] at hstep hwd hr4 hpl2 henc
      obtain ⟨r, wd, hdec⟩ : ∃ r wd, Utf8.decode s pos = (r, wd) := ⟨_, _, rfl⟩
      rw [hdec] at hnx hstep hwd hr4 hpl2 henc
      simp only at hnx hstep hwd hr4 hpl2 henc
      clear hdec hmore hpd hgd
      obtain ⟨u, hu2⟩ : ∃ u, u = Utf8.encode (r : Int) := ⟨_, rfl⟩
      have HU : Hid (Utf8.encode (r : Int) = u) := hu2.symm
      rw [← hu2] at henc
      have husz : u.size = wd := by rw [size_len, henc, hpl2]
      have hwd4 : wd ≤ 4 := by rw [← hpl2]; exact hpc.2.2
      have HS2 : Hid ((p ++ ⟨#[92]⟩ ++ u).data.toList = bsl (pre ++ [pieceAt s.data.toList pos])) := by
        show _ = _
        rw [append_list, append_list, HS.out, henc, bsl_snoc]; simp
      have hsz1 : (p ++ ⟨#[92]⟩).size ≤ 2 * pos + 1 := by rw [ByteArray.size_append]; show _ + 1 ≤ _; omega
      have hsz2 : (p ++ ⟨#[92]⟩ ++ u).size ≤ 2 * (pos + wd) := by rw [ByteArray.size_append]; omega
      have husz2 : u.size ≤ 4 := by omega
      have HST : Hid (upTo s.data.toList (pre ++ [pieceAt s.data.toList pos]) (pos + wd)) := hstep
      have hit2 := Lib.iterAt_heap wr K s pos (pos + wd) hit
      have hbw2 := Lib.below_iterAt hbw (k := K) hKz s (pos + wd)
      have henc2 : Utf8.encode (r : Int) = u := hu2.symm
      clear hu hpc hpl hstep hu2 husz henc hpl2
      go_wp2
      go_roundw
      case rel => exact ⟨pos + wd, _, _, rfl, hsz2, hit2, hbw2, HST.out, HS2⟩
      case measure =>
        simp only [World.iterPos, hit2, hit]
        omega
    · have hpl : ¬ pos < s.data.toList.length := by rw [← size_len]; exact hp
      have hnx : ∀ ty, (Instr.next (.pointer (some ⟨K, 0, none⟩)) true ty).run Try.prog wr = _ := fun ty => Lib.run_next_end_at wr K s pos ty hit hp
      have hpe := upTo_end hu hpl
      have hpos : pos ≤ s.size := by rw [size_len]; exact hu.2.2
      obtain ⟨k1, k2, k3⟩ := HM.out p (by rw [hpe]; exact HS.out)
      have hps3 : p.size ≤ 200 := by omega
      have cK : ∀ wx, Below w.heap.size w wx → Calls Try.prog 18 #[.string p] wx fun e w' => e = .returned (.int .i64 0) ∧ Below w.heap.size w w' := fun wx hb => by
        have := Check_b p w wx (by omega) hb; rw [k1] at this; exact this
      have m1 : ∀ wx, Below w.heap.size w wx → Calls Try.prog 20 #[.string p, .string s] wx fun e w' => e = .returned (.bool true) ∧ Below w.heap.size w w' := fun wx hb => by
        have := Match_b p s w wx (by omega) (by omega) hb; rw [k2] at this; exact this
      by_cases he : s = t
      · subst he
        clear hpe hu hpl HS k1 k2 k3
        go_wp2_with (first | (go_at_call 18; (with_reducible refine (cK _ (by assumption)).mono ?_); rintro e W3 ⟨rfl, b3⟩) | (go_at_call 20; (with_reducible refine (m1 _ (by assumption)).mono ?_); rintro e W3 ⟨rfl, b3⟩) | (go_at_call 17; refine (awake2_b w _ (by assumption)).mono ?_; rintro e W3 ⟨rfl, b3⟩))
        all_goals (go_ret; exact ⟨rfl, by assumption⟩)
      · have k4 : matB p t = false := Bool.eq_false_iff.2 (fun h => he (k3.1 h))
        have m2 : ∀ wx, Below w.heap.size w wx → Calls Try.prog 20 #[.string p, .string t] wx fun e w' => e = .returned (.bool false) ∧ Below w.heap.size w w' := fun wx hb => by
          have := Match_b p t w wx (by omega) (by omega) hb; rw [k4] at this; exact this
        have c1 : (s.toList == t.toList) = false := beq_false_of_ne (by
          rw [Lib.toList_data, Lib.toList_data]
          intro e; exact he (Go.WideShapes.bytes_inj e))
        clear hpe hu hpl HS k1 k2 k3 k4 he
        go_wp2_with (first | (go_at_call 18; (with_reducible refine (cK _ (by assumption)).mono ?_); rintro e W3 ⟨rfl, b3⟩) | (go_at_call 20; (with_reducible refine (m1 _ (by assumption)).mono ?_); rintro e W3 ⟨rfl, b3⟩) | (go_at_call 20; (with_reducible refine (m2 _ (by assumption)).mono ?_); rintro e W3 ⟨rfl, b3⟩) | (go_at_call 17; refine (awake2_b w _ (by assumption)).mono ?_; rintro e W3 ⟨rfl, b3⟩))
        all_goals (go_ret; exact ⟨rfl, by assumption⟩)

end Go.Proofs.Ytkjkejkodilbgaa
