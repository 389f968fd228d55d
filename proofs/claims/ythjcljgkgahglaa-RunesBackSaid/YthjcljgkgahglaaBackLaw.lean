/-
  RunesBack: the walk of the law's text.
-/
import Derived.Test.YthjcljgkgahglaaPureB
import Derived.Test.YthjcljgkgahglaaRunesV
import Derived.WalkLawsBesides
import Derived.LoopTactic
set_option linter.unusedVariables false
namespace Go.Proofs.Ythjcljgkgahglaa
open Go.RowKit

theorem cuB_list (s : ByteArray) (n : Int) : (cuB s n).data.toList = ((pieces s.data.toList).take n.toNat).flatten := rfl

theorem cut_split (l : List UInt8) (k : Nat) : l = ((pieces l).take k).flatten ++ ((pieces l).drop k).flatten := by
  rw [← List.flatten_append, List.take_append_drop, pieces_flatten]

/-- What the law asks of a text that is cut. -/
structure CutFacts (s c d : ByteArray) (n : Int) (k m : Nat) : Prop where
  small : c.size ≤ s.size
  head : s.extract 0 c.size = c
  tail : s.extract c.size s.size = d
  count : cntB c = k
  rest : cntB d = m
  sum : m + k = cntB s
  len : k = n.toNat ∨ c = s
  dsize : d.size ≤ s.size
  val : vldB s = true → vldB c = true

theorem cutFacts (s : ByteArray) (n : Int) : ∃ d k m, CutFacts s (cuB s n) d n k m := by
  have hsp := cut_split s.data.toList n.toNat
  have hcl := cuB_list s n
  have hcs : (cuB s n).size = (((pieces s.data.toList).take n.toNat).flatten).length := by rw [size_len, hcl]
  have hl := size_len s
  have hle : (cuB s n).size ≤ s.size := by
    rw [hcs, hl]
    have h2 := congrArg List.length hsp
    rw [List.length_append] at h2
    omega
  refine ⟨s.extract (cuB s n).size s.size, cntB (cuB s n), cntB (s.extract (cuB s n).size s.size), hle, ?_, rfl, rfl, rfl, ?_, ?_, by simp, ?_⟩
  · apply Go.WideShapes.bytes_inj
    rw [Lib.extract_data, hcl, hcs]
    have e2 : ∀ (l A B : List UInt8), l = A ++ B → (l.drop 0).take (A.length - 0) = A := by
      rintro l A B rfl; simp
    exact e2 _ _ _ hsp
  · have hd : (s.extract (cuB s n).size s.size).data.toList = ((pieces s.data.toList).drop n.toNat).flatten := by
      rw [Lib.extract_to_end, hcs]
      have e2 : ∀ (l A B : List UInt8), l = A ++ B → l.drop A.length = B := by
        rintro l A B rfl; simp
      exact e2 _ _ _ hsp
    unfold cntB
    rw [hd, hcl, pieces_drop, pieces_take, List.length_drop, List.length_take]
    omega
  · by_cases h : n.toNat ≤ (pieces s.data.toList).length
    · left
      unfold cntB
      rw [hcl, pieces_take, List.length_take]
      omega
    · right
      apply Go.WideShapes.bytes_inj
      rw [hcl, List.take_of_length_le (by omega), pieces_flatten]
  · intro hv
    unfold vldB valid at hv ⊢
    rw [hcl, pieces_take, List.all_eq_true]
    rw [List.all_eq_true] at hv
    exact fun c hc => hv c (List.mem_of_mem_take hc)

set_option maxHeartbeats 8000000 in
set_option maxRecDepth 1000000 in
theorem RunesBack_walk (s : ByteArray) (n : Int) (hs : s.size ≤ maxLen) (_hk : (Lit.int .i64 n).wf = true) (w : World) :
    Calls Try.prog 6 #[.string s, .int .i64 n] w fun e w' => e = .returned (.bool true) ∧ Below w.heap.size w w' := by
  have B0 := Below.refl w.heap.size w
  by_cases h1 : 1000 < s.size
  · go_enter Try.func6, Try.ntmps6
    go_wp2_with (go_at_call 11; refine (awake_b w _ B0).mono ?_)
    first | rintro e W1 rfl b1 | rintro e W1 ⟨rfl, b1⟩
    go_wp2
    go_ret
    exact ⟨rfl, b1⟩
  have hsz : s.size ≤ 1000 := by omega
  have hq2 := (quoB_size s).1
  have hq3 := (quoB_size s).2
  have hql : (quoB s).data.toList = quote s.data.toList := rfl
  have cQ : ∀ wx, Below w.heap.size w wx → Calls Try.prog 28 #[.string s] wx fun e w' => e = .returned (.string (quoB s)) ∧ Below w.heap.size w w' := fun wx hb => Quote_b s w wx (by omega) hb
  have cU : ∀ wx, Below w.heap.size w wx → Calls Try.prog 26 #[.string (quoB s)] wx fun e w' => e = .returned (.tuple #[.string s, .bool true]) ∧ Below w.heap.size w w' := fun wx hb => by
    have := base hb (Unquote_any (quoB s) wx (by omega))
    rw [hql, unq_some rfl] at this
    have e : plEnd (some s.data.toList) = .returned (.tuple #[.string s, .bool true]) := by
      show Ending.returned (.tuple #[.string ⟨s.data.toList.toArray⟩, .bool true]) = _
      rw [list_mk]
    rw [e] at this
    exact this
  have cV : ∀ wx, Below w.heap.size w wx → Calls Try.prog 14 #[.string (quoB s)] wx fun e w' => e = .returned (.bool true) ∧ Below w.heap.size w w' := fun wx hb => by
    have := Valid_b (quoB s) w wx (by omega) hb
    rw [show vldB (quoB s) = true from valid_quote s.data.toList] at this
    exact this
  have hbytes : ∀ i (h : i < (quoB s).size), 32 ≤ (quoB s)[i].toNat ∧ (quoB s)[i].toNat ≠ 127 ∧ ((quoB s)[i] = 34 → i = 0 ∨ i = (quoB s).size - 1 ∨ (0 < i ∧ ∀ h' : i - 1 < (quoB s).size, (quoB s)[i - 1] = 92)) := by
    intro i h
    have hqs : (quoB s).size = (quote s.data.toList).length := by rw [size_len, hql]
    have := quote_bytes s.data.toList i (by rw [← hqs]; exact h)
    have e : (quote s.data.toList)[i]'(by rw [← hqs]; exact h) = (quoB s)[i] := rfl
    rw [e] at this
    refine ⟨this.1, this.2.1, fun h34 => ?_⟩
    rcases this.2.2 h34 with h0 | h0 | ⟨h0, h5⟩
    · exact Or.inl h0
    · exact Or.inr (Or.inl (by rw [hqs]; exact h0))
    · refine Or.inr (Or.inr ⟨h0, fun h' => ?_⟩)
      rw [List.getD_eq_getElem?_getD, List.getElem?_eq_getElem (by rw [← hqs]; exact h')] at h5
      exact h5
  obtain ⟨q, hqd⟩ : ∃ q, q = quoB s := ⟨_, rfl⟩
  rw [← hqd] at hq2 hq3 cQ cU cV
  simp only [← hqd] at hbytes
  have HB : Hid (∀ i (h : i < q.size), 32 ≤ q[i].toNat ∧ q[i].toNat ≠ 127 ∧ (q[i] = 34 → i = 0 ∨ i = q.size - 1 ∨ (0 < i ∧ ∀ h' : i - 1 < q.size, q[i - 1] = 92))) := hbytes
  clear hbytes hql hqd h1 _hk
  obtain ⟨d, k, m, HCF0⟩ := cutFacts s n
  have cC0 : ∀ wx, Below w.heap.size w wx → Calls Try.prog 24 #[.string s, .int .i64 n] wx fun e w' => e = .returned (.string (cuB s n)) ∧ Below w.heap.size w w' := fun wx hb => base hb (Cut_any s n wx (by omega))
  obtain ⟨c, hcd⟩ : ∃ c, c = cuB s n := ⟨_, rfl⟩
  rw [← hcd] at HCF0 cC0
  have HCF : Hid (CutFacts s c d n k m) := HCF0
  have cC : Hid (∀ wx, Below w.heap.size w wx → Calls Try.prog 24 #[.string s, .int .i64 n] wx fun e w' => e = .returned (.string c) ∧ Below w.heap.size w w') := cC0
  clear HCF0 cC0 hcd hs
  go_enter Try.func6, Try.ntmps6
  go_wp2_with (first | (go_at_call 28; refine (cQ _ (by assumption)).mono ?_; rintro e W1 ⟨rfl, b1⟩) | (go_at_call 26; refine (cU _ (by assumption)).mono ?_; rintro e W1 ⟨rfl, b1⟩) | (go_at_call 14; refine (cV _ (by assumption)).mono ?_; rintro e W1 ⟨rfl, b1⟩))
  clear cQ cU cV B0
  have hb1 : Below w.heap.size w W1 := b1
  clear b1
  go_loop [8] (fun i => ∃ j : Nat, i = .int .i64 j ∧ j ≤ q.size) (fun i => q.size - (intOf i).toNat)
  case atStart => exact ⟨0, rfl, Nat.zero_le _⟩
  case round =>
    obtain ⟨j, rfl, hj⟩ := hrel
    by_cases hlt : j < q.size
    · obtain ⟨f1, f2, f3⟩ := HB.out j hlt
      have lo : ¬ (q[j].toNat : Int) < 32 := by omega
      have e127 : ((q[j].toNat : Int) == 127) = false := beq_false_of_ne (by omega)
      have hI : (j : Int) < (q.size : Int) := by omega
      by_cases h34 : q[j] = 34
      · have e34 : ((q[j].toNat : Int) == 34) = true := by rw [h34]; rfl
        by_cases h0 : j = 0
        · have z : ¬ (0 : Int) < (j : Int) := by omega
          have z' : decide ((0 : Int) < (j : Int)) = false := decide_eq_false z
          clear f1 f2 f3 h34 h0
          go_wp2
          go_round
          case rel => exact ⟨j + 1, by go_num, by omega⟩
          case measure => simp [intOf]; omega
        by_cases hl : j = q.size - 1
        · have z : (0 : Int) < (j : Int) := by omega
          have z2 : ¬ (j : Int) < (q.size : Int) - 1 := by omega
          have z2' : decide ((j : Int) < (q.size : Int) - 1) = false := decide_eq_false z2
          clear f1 f2 f3 h34 h0 hl
          go_wp2
          go_round
          case rel => exact ⟨j + 1, by go_num, by omega⟩
          case measure => simp [intOf]; omega
        · have h92 : ∀ h' : j - 1 < q.size, q[j - 1] = 92 := by
            rcases f3 h34 with h | h | h
            · exact absurd h h0
            · exact absurd h hl
            · exact h.2
          have hj1 : j - 1 < q.size := by omega
          have z : (0 : Int) < (j : Int) := by omega
          have z2 : (j : Int) < (q.size : Int) - 1 := by omega
          have z3 : (0 : Int) ≤ (j : Int) - 1 := by omega
          have z4 : (j : Int) - 1 < (q.size : Int) := by omega
          have z5 : ((j : Int) - 1).toNat = j - 1 := by omega
          have e92 : ((q[j - 1].toNat : Int) != 92) = false := by rw [h92 hj1]; rfl
          clear f1 f2 f3 h34 h0 hl h92
          go_wp2
          go_round
          case rel => exact ⟨j + 1, by go_num, by omega⟩
          case measure => simp [intOf]; omega
      · have e34 : ((q[j].toNat : Int) == 34) = false := beq_false_of_ne (fun e => h34 (UInt8.toNat_inj.1 (by have : (34 : UInt8).toNat = 34 := rfl; omega)))
        clear f1 f2 f3 h34
        go_wp2
        go_round
        case rel => exact ⟨j + 1, by go_num, by omega⟩
        case measure => simp [intOf]; omega
    · have F := HCF.out
      have cC' := cC.out
      have hc1 := F.small
      have hd1 := F.dsize
      have hsl1 : ∀ wx, (Instr.slice 9 (.string s) none (some (.int .i64 (c.size : Int))) none).run Try.prog wx = .ok (.string c) wx := by
        intro wx
        rw [run_slice_string_to_if _ _ _ _ _ Try.underlying9, if_pos ⟨by omega, by omega⟩, Int.toNat_natCast, F.head]
      have hsl2 : ∀ wx, (Instr.slice 9 (.string s) (some (.int .i64 (c.size : Int))) none none).run Try.prog wx = .ok (.string d) wx := by
        intro wx
        rw [run_slice_string_from_if _ _ _ _ _ Try.underlying9, if_pos ⟨by omega, by omega⟩, Int.toNat_natCast, F.tail]
      have cK : ∀ wx, Below w.heap.size w wx → Calls Try.prog 16 #[.string c] wx fun e w' => e = .returned (.int .i64 k) ∧ Below w.heap.size w w' := fun wx hb => by
        have := Count_b c w wx (by omega) hb; rw [F.count] at this; exact this
      have cD : ∀ wx, Below w.heap.size w wx → Calls Try.prog 16 #[.string d] wx fun e w' => e = .returned (.int .i64 m) ∧ Below w.heap.size w w' := fun wx hb => by
        have := Count_b d w wx (by omega) hb; rw [F.rest] at this; exact this
      have cS : ∀ wx, Below w.heap.size w wx → Calls Try.prog 16 #[.string s] wx fun e w' => e = .returned (.int .i64 (cntB s)) ∧ Below w.heap.size w w' := fun wx hb => Count_b s w wx (by omega) hb
      obtain ⟨N, hN⟩ : ∃ N, N = cntB s := ⟨_, rfl⟩
      have hNs : N ≤ 1000 := by rw [hN]; have := pieces_length_le s.data.toList; rw [← size_len] at this; unfold cntB; omega
      have hsum := F.sum
      rw [← hN] at hsum cS
      have esum : ((m : Int) + (k : Int) == (N : Int)) = true := by rw [beq_iff_eq]; omega
      have hng : ¬ (s.size : Int) < (c.size : Int) := by omega
      have hk1 : k ≤ 1000 := by omega
      have hm1 : m ≤ 1000 := by omega
      have hlen := F.len
      have hval := F.val
      have hcount := F.count
      cases hv : vldB s with
      | true =>
        have cVs : ∀ wx, Below w.heap.size w wx → Calls Try.prog 14 #[.string s] wx fun e w' => e = .returned (.bool true) ∧ Below w.heap.size w w' := fun wx hb => by
          have := Valid_b s w wx (by omega) hb; rw [hv] at this; exact this
        have cVc : ∀ wx, Below w.heap.size w wx → Calls Try.prog 14 #[.string c] wx fun e w' => e = .returned (.bool true) ∧ Below w.heap.size w w' := fun wx hb => by
          have := Valid_b c w wx (by omega) hb; rw [hval hv] at this; exact this
        rcases hlen with hlen | hlen
        · clear F HCF cC hN hv hval hsum hcount
          have ek : ((k : Int) == max n 0) = true := by rw [beq_iff_eq]; omega
          clear hlen
          go_wp2_with (first | (go_at_call 24; refine (cC' _ (by assumption)).mono ?_; rintro e W2 ⟨rfl, b2⟩) | (go_at_call 16; ((with_reducible refine (cK _ (by assumption)).mono ?_); rintro e W2 ⟨rfl, b2⟩)) | (go_at_call 16; ((with_reducible refine (cD _ (by assumption)).mono ?_); rintro e W2 ⟨rfl, b2⟩)) | (go_at_call 16; ((with_reducible refine (cS _ (by assumption)).mono ?_); rintro e W2 ⟨rfl, b2⟩)) | (go_at_call 14; ((with_reducible refine (cVs _ (by assumption)).mono ?_); rintro e W2 ⟨rfl, b2⟩)) | (go_at_call 14; ((with_reducible refine (cVc _ (by assumption)).mono ?_); rintro e W2 ⟨rfl, b2⟩)) | (go_at_call 11; refine (awake_b w _ (by assumption)).mono ?_; rintro e W2 ⟨rfl, b2⟩))
          all_goals (go_ret; exact ⟨rfl, by assumption⟩)
        · have hkN : k = N := by rw [hN, ← hcount, hlen]
          clear F HCF cC hN hv hval hsum hcount
          subst hkN
          subst hlen
          cases ek : ((k : Int) == max n 0) with
          | true =>
            go_wp2_with (first | (go_at_call 24; refine (cC' _ (by assumption)).mono ?_; rintro e W2 ⟨rfl, b2⟩) | (go_at_call 16; ((with_reducible refine (cK _ (by assumption)).mono ?_); rintro e W2 ⟨rfl, b2⟩)) | (go_at_call 16; ((with_reducible refine (cD _ (by assumption)).mono ?_); rintro e W2 ⟨rfl, b2⟩)) | (go_at_call 16; ((with_reducible refine (cS _ (by assumption)).mono ?_); rintro e W2 ⟨rfl, b2⟩)) | (go_at_call 14; ((with_reducible refine (cVs _ (by assumption)).mono ?_); rintro e W2 ⟨rfl, b2⟩)) | (go_at_call 14; ((with_reducible refine (cVc _ (by assumption)).mono ?_); rintro e W2 ⟨rfl, b2⟩)) | (go_at_call 11; refine (awake_b w _ (by assumption)).mono ?_; rintro e W2 ⟨rfl, b2⟩))
            all_goals (go_ret; exact ⟨rfl, by assumption⟩)
          | false =>
            go_wp2_with (first | (go_at_call 24; refine (cC' _ (by assumption)).mono ?_; rintro e W2 ⟨rfl, b2⟩) | (go_at_call 16; ((with_reducible refine (cK _ (by assumption)).mono ?_); rintro e W2 ⟨rfl, b2⟩)) | (go_at_call 16; ((with_reducible refine (cD _ (by assumption)).mono ?_); rintro e W2 ⟨rfl, b2⟩)) | (go_at_call 16; ((with_reducible refine (cS _ (by assumption)).mono ?_); rintro e W2 ⟨rfl, b2⟩)) | (go_at_call 14; ((with_reducible refine (cVs _ (by assumption)).mono ?_); rintro e W2 ⟨rfl, b2⟩)) | (go_at_call 14; ((with_reducible refine (cVc _ (by assumption)).mono ?_); rintro e W2 ⟨rfl, b2⟩)) | (go_at_call 11; refine (awake_b w _ (by assumption)).mono ?_; rintro e W2 ⟨rfl, b2⟩))
            all_goals (go_ret; exact ⟨rfl, by assumption⟩)
      | false =>
        have cVs : ∀ wx, Below w.heap.size w wx → Calls Try.prog 14 #[.string s] wx fun e w' => e = .returned (.bool false) ∧ Below w.heap.size w w' := fun wx hb => by
          have := Valid_b s w wx (by omega) hb; rw [hv] at this; exact this
        have cVc := cVs
        rcases hlen with hlen | hlen
        · clear F HCF cC hN hv hval hsum hcount
          have ek : ((k : Int) == max n 0) = true := by rw [beq_iff_eq]; omega
          clear hlen
          go_wp2_with (first | (go_at_call 24; refine (cC' _ (by assumption)).mono ?_; rintro e W2 ⟨rfl, b2⟩) | (go_at_call 16; ((with_reducible refine (cK _ (by assumption)).mono ?_); rintro e W2 ⟨rfl, b2⟩)) | (go_at_call 16; ((with_reducible refine (cD _ (by assumption)).mono ?_); rintro e W2 ⟨rfl, b2⟩)) | (go_at_call 16; ((with_reducible refine (cS _ (by assumption)).mono ?_); rintro e W2 ⟨rfl, b2⟩)) | (go_at_call 14; ((with_reducible refine (cVs _ (by assumption)).mono ?_); rintro e W2 ⟨rfl, b2⟩)) | (go_at_call 14; ((with_reducible refine (cVc _ (by assumption)).mono ?_); rintro e W2 ⟨rfl, b2⟩)) | (go_at_call 11; refine (awake_b w _ (by assumption)).mono ?_; rintro e W2 ⟨rfl, b2⟩))
          all_goals (go_ret; exact ⟨rfl, by assumption⟩)
        · have hkN : k = N := by rw [hN, ← hcount, hlen]
          clear F HCF cC hN hv hval hsum hcount
          subst hkN
          subst hlen
          cases ek : ((k : Int) == max n 0) with
          | true =>
            go_wp2_with (first | (go_at_call 24; refine (cC' _ (by assumption)).mono ?_; rintro e W2 ⟨rfl, b2⟩) | (go_at_call 16; ((with_reducible refine (cK _ (by assumption)).mono ?_); rintro e W2 ⟨rfl, b2⟩)) | (go_at_call 16; ((with_reducible refine (cD _ (by assumption)).mono ?_); rintro e W2 ⟨rfl, b2⟩)) | (go_at_call 16; ((with_reducible refine (cS _ (by assumption)).mono ?_); rintro e W2 ⟨rfl, b2⟩)) | (go_at_call 14; ((with_reducible refine (cVs _ (by assumption)).mono ?_); rintro e W2 ⟨rfl, b2⟩)) | (go_at_call 14; ((with_reducible refine (cVc _ (by assumption)).mono ?_); rintro e W2 ⟨rfl, b2⟩)) | (go_at_call 11; refine (awake_b w _ (by assumption)).mono ?_; rintro e W2 ⟨rfl, b2⟩))
            all_goals (go_ret; exact ⟨rfl, by assumption⟩)
          | false =>
            go_wp2_with (first | (go_at_call 24; refine (cC' _ (by assumption)).mono ?_; rintro e W2 ⟨rfl, b2⟩) | (go_at_call 16; ((with_reducible refine (cK _ (by assumption)).mono ?_); rintro e W2 ⟨rfl, b2⟩)) | (go_at_call 16; ((with_reducible refine (cD _ (by assumption)).mono ?_); rintro e W2 ⟨rfl, b2⟩)) | (go_at_call 16; ((with_reducible refine (cS _ (by assumption)).mono ?_); rintro e W2 ⟨rfl, b2⟩)) | (go_at_call 14; ((with_reducible refine (cVs _ (by assumption)).mono ?_); rintro e W2 ⟨rfl, b2⟩)) | (go_at_call 14; ((with_reducible refine (cVc _ (by assumption)).mono ?_); rintro e W2 ⟨rfl, b2⟩)) | (go_at_call 11; refine (awake_b w _ (by assumption)).mono ?_; rintro e W2 ⟨rfl, b2⟩))
            all_goals (go_ret; exact ⟨rfl, by assumption⟩)

end Go.Proofs.Ythjcljgkgahglaa
