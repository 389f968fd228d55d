/-
  What the reference answers: Name, Key, Fold, Cut.
-/
import Derived.Test.YtggognmbjgkdfaaRfB
import Derived.Test.YtggognmbjgkdfaaRuN
set_option linter.unusedVariables false
namespace Go.Proofs.Ytggognmbjgkdfaa
open Go.RowKit

set_option maxHeartbeats 2000000 in
set_option maxRecDepth 100000 in
theorem rKey_any (s : ByteArray) (w : World) (hs : s.size ≤ 1000000) :
    Calls Try.prog 43 #[.string s] w fun e w' => e = .returned (.bool (isKey s.data.toList)) ∧ Below w.heap.size w w' := by
  have hA := All_p s w hs
  have hlen := pieces_length_le s.data.toList
  rw [← size_len] at hlen
  go_enter Try.func43, Try.ntmps43
  go_wp2_with (go_at_call 76; refine hA.mono ?_)
  rintro e W1 ⟨a, n, cap, rfl, hn, hown, hb⟩
  rw [← hn] at hlen
  have HN : Hid (n = (pieces s.data.toList).length) := hn
  clear hn hA
  go_wp2
  go_loopw [4] (fun i wr => ∃ j : Nat, i = .int .i64 j ∧ j ≤ n ∧ wr = W1 ∧ (((pieces s.data.toList).take j).all fun c => !bad c && keyOk (dec c).1) = true) (fun i _ => n - (intOf i).toNat)
  case atStart => exact ⟨0, rfl, Nat.zero_le _, rfl, rfl⟩
  case round =>
    obtain ⟨j, rfl, hj, rfl, hg⟩ := hrel
    have HG : Hid ((((pieces s.data.toList).take j).all fun c => !bad c && keyOk (dec c).1) = true) := hg
    clear hg
    by_cases hlt : j < n
    · have hlt' : j < (pieces s.data.toList).length := by rw [← HN.out]; exact hlt
      obtain ⟨g, rfl, _, hrow⟩ := row_at hown (by rw [elems_len]; exact HN.out.symm) (by omega)
      have hc3 := (hrow j (by rw [elems_len]; exact hlt')).2.2.2
      have hc0 := (hrow j (by rw [elems_len]; exact hlt')).1
      rw [elems_get _ j hlt' 0] at hc3 hc0
      simp only at hc3 hc0
      clear hrow
      have HV : Hid ((bad ((pieces s.data.toList)[j]'hlt') = true ∨ keyOk (dec ((pieces s.data.toList)[j]'hlt')).1 = false) → isKey s.data.toList = false) := by
        show _ → isKey s.data.toList = false
        intro h
        unfold isKey madeOf
        rw [Bool.and_eq_false_iff]
        right
        rw [List.all_eq_false]
        refine ⟨_, List.getElem_mem hlt', ?_⟩
        rcases h with h | h <;> simp [h]
      have HS : Hid (bad ((pieces s.data.toList)[j]'hlt') = false → keyOk (dec ((pieces s.data.toList)[j]'hlt')).1 = true → (((pieces s.data.toList).take (j + 1)).all fun c => !bad c && keyOk (dec c).1) = true) := by
        show _ → _ → (((pieces s.data.toList).take (j + 1)).all fun c => !bad c && keyOk (dec c).1) = true
        intro h1 h2
        rw [List.take_succ_eq_append_getElem hlt', List.all_append, HG.out]
        simp [h1, h2]
      obtain ⟨b, hbd⟩ : ∃ b, b = bad ((pieces s.data.toList)[j]'hlt') := ⟨_, rfl⟩
      obtain ⟨r, hrd⟩ : ∃ r, r = (dec ((pieces s.data.toList)[j]'hlt')).1 := ⟨_, rfl⟩
      rw [← hbd] at hc3
      rw [← hrd] at hc0
      have HV : Hid ((b = true ∨ keyOk r = false) → isKey s.data.toList = false) := by
        show _ → isKey s.data.toList = false
        rw [hbd, hrd]; exact HV.out
      have HS : Hid (b = false → keyOk r = true → (((pieces s.data.toList).take (j + 1)).all fun c => !bad c && keyOk (dec c).1) = true) := by
        show _ → _ → (((pieces s.data.toList).take (j + 1)).all fun c => !bad c && keyOk (dec c).1) = true
        rw [hbd, hrd]; exact HS.out
      clear hbd hrd
      have hI : (j : Int) < (n : Int) := by omega
      cases b with
      | true =>
        have HF : Hid (isKey s.data.toList = false) := HV.out (Or.inl rfl)
        go_wp2
        go_ret
        exact ⟨by rw [HF.out]; rfl, hb⟩
      | false =>
        by_cases h32 : (r : Int) < 32
        · have HF : Hid (isKey s.data.toList = false) := HV.out (Or.inr (by simp [keyOk]; omega))
          go_wp2
          go_ret
          exact ⟨by rw [HF.out]; rfl, hb⟩
        by_cases h127 : r = 127
        · have HF : Hid (isKey s.data.toList = false) := HV.out (Or.inr (by simp [keyOk, h127]))
          have e127 : ((r : Int) == 127) = true := by rw [h127]; rfl
          clear h127
          go_wp2
          go_ret
          exact ⟨by rw [HF.out]; rfl, hb⟩
        · have HF : Hid ((((pieces s.data.toList).take (j + 1)).all fun c => !bad c && keyOk (dec c).1) = true) := HS.out rfl (by simp [keyOk]; omega)
          have e127 : ((r : Int) == 127) = false := beq_false_of_ne (by omega)
          clear h127
          go_wp2
          go_roundw
          case rel => exact ⟨j + 1, by go_num, by omega, by trivial, HF.out⟩
          case measure => simp [intOf]; omega
    · have HV : Hid (decide ((n : Int) ≤ 40) = isKey s.data.toList) := by
        show decide ((n : Int) ≤ 40) = isKey s.data.toList
        have := HG.out
        rw [List.take_of_length_le (by rw [← HN.out]; omega)] at this
        unfold isKey madeOf
        rw [this, ← HN.out, Bool.and_true, Bool.eq_iff_iff]
        simp only [decide_eq_true_eq]
        omega
      go_wp2
      go_ret
      exact ⟨by rw [← HV.out]; rfl, hb⟩

set_option maxHeartbeats 40000000 in
set_option maxRecDepth 100000 in
theorem rName_any (s : ByteArray) (w : World) (hs : s.size ≤ 1000000) :
    Calls Try.prog 44 #[.string s] w fun e w' => e = .returned (.bool (isName s.data.toList)) ∧ Below w.heap.size w w' := by
  have hA := All_p s w hs
  have h0e : (pieces s.data.toList).length = 0 → isName s.data.toList = false := by
    intro h
    have h2 := pieces_flatten s.data.toList
    rw [List.length_eq_zero_iff.1 h] at h2
    unfold isName
    rw [← h2]; rfl
  have h1e : 0 < (pieces s.data.toList).length → isName s.data.toList = madeOf 40 nameOk s.data.toList := by
    intro h
    unfold isName
    have : s.data.toList.isEmpty = false := by
      rw [List.isEmpty_eq_false_iff]
      intro e; rw [e] at h; simp [pieces_nil] at h
    rw [this]; rfl
  by_cases hz : (pieces s.data.toList).length < 1 ∨ 40 < (pieces s.data.toList).length
  · have HF : Hid (isName s.data.toList = false) := by
      show isName s.data.toList = false
      rcases hz with h | h
      · exact h0e (by omega)
      · rw [h1e (by omega)]; unfold madeOf; rw [decide_eq_false (by omega)]; rfl
    clear h0e h1e
    rcases hz with hz | hz
    · go_enter Try.func44, Try.ntmps44
      go_wp2_with (go_at_call 76; refine hA.mono ?_)
      rintro e W1 ⟨a, n, cap, rfl, hn, hown, hb⟩
      rw [← hn] at hz
      clear hn
      go_wp2
      go_ret
      exact ⟨by rw [HF.out]; rfl, hb⟩
    · go_enter Try.func44, Try.ntmps44
      go_wp2_with (go_at_call 76; refine hA.mono ?_)
      rintro e W1 ⟨a, n, cap, rfl, hn, hown, hb⟩
      rw [← hn] at hz
      clear hn
      go_wp2
      go_ret
      exact ⟨by rw [HF.out]; rfl, hb⟩
  have hz1 : 1 ≤ (pieces s.data.toList).length := by omega
  have hz2 : (pieces s.data.toList).length ≤ 40 := by omega
  have h1e' : Hid (isName s.data.toList = madeOf 40 nameOk s.data.toList) := h1e hz1
  clear h0e h1e hz
  go_enter Try.func44, Try.ntmps44
  go_wp2_with (go_at_call 76; refine hA.mono ?_)
  rintro e W1 ⟨a, n, cap, rfl, hn, hown, hb⟩
  rw [← hn] at hz1 hz2
  have HN : Hid (n = (pieces s.data.toList).length) := hn
  clear hn hA
  go_wp2
  go_loopw [4] (fun i wr => ∃ j : Nat, i = .int .i64 j ∧ j ≤ n ∧ wr = W1 ∧ (((pieces s.data.toList).take j).all fun c => !bad c && nameOk (dec c).1) = true) (fun i _ => n - (intOf i).toNat)
  case atStart => exact ⟨0, rfl, Nat.zero_le _, rfl, rfl⟩
  case round =>
    obtain ⟨j, rfl, hj, rfl, hg⟩ := hrel
    have HG : Hid ((((pieces s.data.toList).take j).all fun c => !bad c && nameOk (dec c).1) = true) := hg
    clear hg
    by_cases hlt : j < n
    · have hlt' : j < (pieces s.data.toList).length := by rw [← HN.out]; exact hlt
      obtain ⟨g, rfl, _, hrow⟩ := row_at hown (by rw [elems_len]; exact HN.out.symm) (by omega)
      have hc3 := (hrow j (by rw [elems_len]; exact hlt')).2.2.2
      have hc0 := (hrow j (by rw [elems_len]; exact hlt')).1
      rw [elems_get _ j hlt' 0] at hc3 hc0
      simp only at hc3 hc0
      have hr4 := dec_rune ((pieces s.data.toList)[j]'hlt')
      obtain ⟨b, hbd⟩ : ∃ b, b = bad ((pieces s.data.toList)[j]'hlt') := ⟨_, rfl⟩
      obtain ⟨r, hrd⟩ : ∃ r, r = (dec ((pieces s.data.toList)[j]'hlt')).1 := ⟨_, rfl⟩
      rw [← hbd] at hc3
      rw [← hrd] at hc0 hr4
      have HV : Hid ((b = true ∨ nameOk r = false) → isName s.data.toList = false) := by
        show _ → isName s.data.toList = false
        intro h
        rw [hbd, hrd] at h
        rw [h1e'.out]
        unfold madeOf
        rw [Bool.and_eq_false_iff]
        right
        rw [List.all_eq_false]
        refine ⟨_, List.getElem_mem hlt', ?_⟩
        rcases h with h | h <;> simp [h]
      have HS : Hid (b = false → nameOk r = true → (((pieces s.data.toList).take (j + 1)).all fun c => !bad c && nameOk (dec c).1) = true) := by
        show _ → _ → (((pieces s.data.toList).take (j + 1)).all fun c => !bad c && nameOk (dec c).1) = true
        intro h1 h2
        rw [hbd] at h1
        rw [hrd] at h2
        rw [List.take_succ_eq_append_getElem hlt', List.all_append, HG.out]
        simp [h1, h2]
      clear hbd hrd hrow hown
      have hI : (j : Int) < (n : Int) := by omega
      have hcl : (r < 45) ∨ (r = 45) ∨ (r = 46) ∨ (r = 47) ∨ (48 ≤ r ∧ r ≤ 57) ∨ (58 ≤ r ∧ r ≤ 64) ∨ (65 ≤ r ∧ r ≤ 90) ∨ (91 ≤ r ∧ r ≤ 94) ∨ (r = 95) ∨ (r = 96) ∨ (97 ≤ r ∧ r ≤ 122) ∨ (123 ≤ r ∧ r ≤ 160) ∨ (161 ≤ r) := by omega
      rcases hcl with hc | hc | hc | hc | hc | hc | hc | hc | hc | hc | hc | hc | hc
      · have hok : nameOk r = false := by simp [nameOk]; omega
        have e45 : ((r : Int) == 45) = false := beq_false_of_ne (by omega)
        have e95 : ((r : Int) == 95) = false := beq_false_of_ne (by omega)
        have e46 : ((r : Int) == 46) = false := beq_false_of_ne (by omega)
        have e47 : ((r : Int) == 47) = false := beq_false_of_ne (by omega)
        have HF : Hid (isName s.data.toList = false) := HV.out (Or.inr hok)
        clear hok HV HS
        go_wp2
        go_ret
        exact ⟨by rw [HF.out]; rfl, hb⟩
      · have hok : nameOk r = true := by simp [nameOk]; omega
        have e45 : ((r : Int) == 45) = true := by rw [hc]; rfl
        have e95 : ((r : Int) == 95) = false := beq_false_of_ne (by omega)
        have e46 : ((r : Int) == 46) = false := beq_false_of_ne (by omega)
        have e47 : ((r : Int) == 47) = false := beq_false_of_ne (by omega)
        have b1 : 45 ≤ r := by omega
        have b2 : r ≤ 45 := by omega
        clear hc
        have HF1 : Hid (b = true → isName s.data.toList = false) := by
          show b = true → isName s.data.toList = false
          exact fun h => HV.out (Or.inl h)
        have HF2 : Hid (b = false → (((pieces s.data.toList).take (j + 1)).all fun c => !bad c && nameOk (dec c).1) = true) := by
          show b = false → (((pieces s.data.toList).take (j + 1)).all fun c => !bad c && nameOk (dec c).1) = true
          exact fun h => HS.out h hok
        clear hok HV HS
        cases b with
        | true =>
          have HF : Hid (isName s.data.toList = false) := HF1.out rfl
          clear HF1 HF2
          go_wp2
          go_ret
          exact ⟨by rw [HF.out]; rfl, hb⟩
        | false =>
          have HF : Hid ((((pieces s.data.toList).take (j + 1)).all fun c => !bad c && nameOk (dec c).1) = true) := HF2.out rfl
          clear HF1 HF2
          go_wp2
          go_roundw
          case rel => exact ⟨j + 1, by go_num, by omega, by trivial, HF.out⟩
          case measure => simp [intOf]; omega
      · have hok : nameOk r = true := by simp [nameOk]; omega
        have e45 : ((r : Int) == 45) = false := beq_false_of_ne (by omega)
        have e95 : ((r : Int) == 95) = false := beq_false_of_ne (by omega)
        have e46 : ((r : Int) == 46) = true := by rw [hc]; rfl
        have e47 : ((r : Int) == 47) = false := beq_false_of_ne (by omega)
        have b1 : 46 ≤ r := by omega
        have b2 : r ≤ 46 := by omega
        clear hc
        have HF1 : Hid (b = true → isName s.data.toList = false) := by
          show b = true → isName s.data.toList = false
          exact fun h => HV.out (Or.inl h)
        have HF2 : Hid (b = false → (((pieces s.data.toList).take (j + 1)).all fun c => !bad c && nameOk (dec c).1) = true) := by
          show b = false → (((pieces s.data.toList).take (j + 1)).all fun c => !bad c && nameOk (dec c).1) = true
          exact fun h => HS.out h hok
        clear hok HV HS
        cases b with
        | true =>
          have HF : Hid (isName s.data.toList = false) := HF1.out rfl
          clear HF1 HF2
          go_wp2
          go_ret
          exact ⟨by rw [HF.out]; rfl, hb⟩
        | false =>
          have HF : Hid ((((pieces s.data.toList).take (j + 1)).all fun c => !bad c && nameOk (dec c).1) = true) := HF2.out rfl
          clear HF1 HF2
          go_wp2
          go_roundw
          case rel => exact ⟨j + 1, by go_num, by omega, by trivial, HF.out⟩
          case measure => simp [intOf]; omega
      · have hok : nameOk r = true := by simp [nameOk]; omega
        have e45 : ((r : Int) == 45) = false := beq_false_of_ne (by omega)
        have e95 : ((r : Int) == 95) = false := beq_false_of_ne (by omega)
        have e46 : ((r : Int) == 46) = false := beq_false_of_ne (by omega)
        have e47 : ((r : Int) == 47) = true := by rw [hc]; rfl
        have b1 : 47 ≤ r := by omega
        have b2 : r ≤ 47 := by omega
        clear hc
        have HF1 : Hid (b = true → isName s.data.toList = false) := by
          show b = true → isName s.data.toList = false
          exact fun h => HV.out (Or.inl h)
        have HF2 : Hid (b = false → (((pieces s.data.toList).take (j + 1)).all fun c => !bad c && nameOk (dec c).1) = true) := by
          show b = false → (((pieces s.data.toList).take (j + 1)).all fun c => !bad c && nameOk (dec c).1) = true
          exact fun h => HS.out h hok
        clear hok HV HS
        cases b with
        | true =>
          have HF : Hid (isName s.data.toList = false) := HF1.out rfl
          clear HF1 HF2
          go_wp2
          go_ret
          exact ⟨by rw [HF.out]; rfl, hb⟩
        | false =>
          have HF : Hid ((((pieces s.data.toList).take (j + 1)).all fun c => !bad c && nameOk (dec c).1) = true) := HF2.out rfl
          clear HF1 HF2
          go_wp2
          go_roundw
          case rel => exact ⟨j + 1, by go_num, by omega, by trivial, HF.out⟩
          case measure => simp [intOf]; omega
      · have hok : nameOk r = true := by simp [nameOk]; omega
        have e45 : ((r : Int) == 45) = false := beq_false_of_ne (by omega)
        have e95 : ((r : Int) == 95) = false := beq_false_of_ne (by omega)
        have e46 : ((r : Int) == 46) = false := beq_false_of_ne (by omega)
        have e47 : ((r : Int) == 47) = false := beq_false_of_ne (by omega)
        obtain ⟨b1, b2⟩ := hc
        have HF1 : Hid (b = true → isName s.data.toList = false) := by
          show b = true → isName s.data.toList = false
          exact fun h => HV.out (Or.inl h)
        have HF2 : Hid (b = false → (((pieces s.data.toList).take (j + 1)).all fun c => !bad c && nameOk (dec c).1) = true) := by
          show b = false → (((pieces s.data.toList).take (j + 1)).all fun c => !bad c && nameOk (dec c).1) = true
          exact fun h => HS.out h hok
        clear hok HV HS
        cases b with
        | true =>
          have HF : Hid (isName s.data.toList = false) := HF1.out rfl
          clear HF1 HF2
          go_wp2
          go_ret
          exact ⟨by rw [HF.out]; rfl, hb⟩
        | false =>
          have HF : Hid ((((pieces s.data.toList).take (j + 1)).all fun c => !bad c && nameOk (dec c).1) = true) := HF2.out rfl
          clear HF1 HF2
          go_wp2
          go_roundw
          case rel => exact ⟨j + 1, by go_num, by omega, by trivial, HF.out⟩
          case measure => simp [intOf]; omega
      · have hok : nameOk r = false := by simp [nameOk]; omega
        have e45 : ((r : Int) == 45) = false := beq_false_of_ne (by omega)
        have e95 : ((r : Int) == 95) = false := beq_false_of_ne (by omega)
        have e46 : ((r : Int) == 46) = false := beq_false_of_ne (by omega)
        have e47 : ((r : Int) == 47) = false := beq_false_of_ne (by omega)
        obtain ⟨b1, b2⟩ := hc
        have HF : Hid (isName s.data.toList = false) := HV.out (Or.inr hok)
        clear hok HV HS
        go_wp2
        go_ret
        exact ⟨by rw [HF.out]; rfl, hb⟩
      · have hok : nameOk r = true := by simp [nameOk]; omega
        have e45 : ((r : Int) == 45) = false := beq_false_of_ne (by omega)
        have e95 : ((r : Int) == 95) = false := beq_false_of_ne (by omega)
        have e46 : ((r : Int) == 46) = false := beq_false_of_ne (by omega)
        have e47 : ((r : Int) == 47) = false := beq_false_of_ne (by omega)
        obtain ⟨b1, b2⟩ := hc
        have HF1 : Hid (b = true → isName s.data.toList = false) := by
          show b = true → isName s.data.toList = false
          exact fun h => HV.out (Or.inl h)
        have HF2 : Hid (b = false → (((pieces s.data.toList).take (j + 1)).all fun c => !bad c && nameOk (dec c).1) = true) := by
          show b = false → (((pieces s.data.toList).take (j + 1)).all fun c => !bad c && nameOk (dec c).1) = true
          exact fun h => HS.out h hok
        clear hok HV HS
        cases b with
        | true =>
          have HF : Hid (isName s.data.toList = false) := HF1.out rfl
          clear HF1 HF2
          go_wp2
          go_ret
          exact ⟨by rw [HF.out]; rfl, hb⟩
        | false =>
          have HF : Hid ((((pieces s.data.toList).take (j + 1)).all fun c => !bad c && nameOk (dec c).1) = true) := HF2.out rfl
          clear HF1 HF2
          go_wp2
          go_roundw
          case rel => exact ⟨j + 1, by go_num, by omega, by trivial, HF.out⟩
          case measure => simp [intOf]; omega
      · have hok : nameOk r = false := by simp [nameOk]; omega
        have e45 : ((r : Int) == 45) = false := beq_false_of_ne (by omega)
        have e95 : ((r : Int) == 95) = false := beq_false_of_ne (by omega)
        have e46 : ((r : Int) == 46) = false := beq_false_of_ne (by omega)
        have e47 : ((r : Int) == 47) = false := beq_false_of_ne (by omega)
        obtain ⟨b1, b2⟩ := hc
        have HF : Hid (isName s.data.toList = false) := HV.out (Or.inr hok)
        clear hok HV HS
        go_wp2
        go_ret
        exact ⟨by rw [HF.out]; rfl, hb⟩
      · have hok : nameOk r = true := by simp [nameOk]; omega
        have e45 : ((r : Int) == 45) = false := beq_false_of_ne (by omega)
        have e95 : ((r : Int) == 95) = true := by rw [hc]; rfl
        have e46 : ((r : Int) == 46) = false := beq_false_of_ne (by omega)
        have e47 : ((r : Int) == 47) = false := beq_false_of_ne (by omega)
        have b1 : 95 ≤ r := by omega
        have b2 : r ≤ 95 := by omega
        clear hc
        have HF1 : Hid (b = true → isName s.data.toList = false) := by
          show b = true → isName s.data.toList = false
          exact fun h => HV.out (Or.inl h)
        have HF2 : Hid (b = false → (((pieces s.data.toList).take (j + 1)).all fun c => !bad c && nameOk (dec c).1) = true) := by
          show b = false → (((pieces s.data.toList).take (j + 1)).all fun c => !bad c && nameOk (dec c).1) = true
          exact fun h => HS.out h hok
        clear hok HV HS
        cases b with
        | true =>
          have HF : Hid (isName s.data.toList = false) := HF1.out rfl
          clear HF1 HF2
          go_wp2
          go_ret
          exact ⟨by rw [HF.out]; rfl, hb⟩
        | false =>
          have HF : Hid ((((pieces s.data.toList).take (j + 1)).all fun c => !bad c && nameOk (dec c).1) = true) := HF2.out rfl
          clear HF1 HF2
          go_wp2
          go_roundw
          case rel => exact ⟨j + 1, by go_num, by omega, by trivial, HF.out⟩
          case measure => simp [intOf]; omega
      · have hok : nameOk r = false := by simp [nameOk]; omega
        have e45 : ((r : Int) == 45) = false := beq_false_of_ne (by omega)
        have e95 : ((r : Int) == 95) = false := beq_false_of_ne (by omega)
        have e46 : ((r : Int) == 46) = false := beq_false_of_ne (by omega)
        have e47 : ((r : Int) == 47) = false := beq_false_of_ne (by omega)
        have b1 : 96 ≤ r := by omega
        have b2 : r ≤ 96 := by omega
        clear hc
        have HF : Hid (isName s.data.toList = false) := HV.out (Or.inr hok)
        clear hok HV HS
        go_wp2
        go_ret
        exact ⟨by rw [HF.out]; rfl, hb⟩
      · have hok : nameOk r = true := by simp [nameOk]; omega
        have e45 : ((r : Int) == 45) = false := beq_false_of_ne (by omega)
        have e95 : ((r : Int) == 95) = false := beq_false_of_ne (by omega)
        have e46 : ((r : Int) == 46) = false := beq_false_of_ne (by omega)
        have e47 : ((r : Int) == 47) = false := beq_false_of_ne (by omega)
        obtain ⟨b1, b2⟩ := hc
        have HF1 : Hid (b = true → isName s.data.toList = false) := by
          show b = true → isName s.data.toList = false
          exact fun h => HV.out (Or.inl h)
        have HF2 : Hid (b = false → (((pieces s.data.toList).take (j + 1)).all fun c => !bad c && nameOk (dec c).1) = true) := by
          show b = false → (((pieces s.data.toList).take (j + 1)).all fun c => !bad c && nameOk (dec c).1) = true
          exact fun h => HS.out h hok
        clear hok HV HS
        cases b with
        | true =>
          have HF : Hid (isName s.data.toList = false) := HF1.out rfl
          clear HF1 HF2
          go_wp2
          go_ret
          exact ⟨by rw [HF.out]; rfl, hb⟩
        | false =>
          have HF : Hid ((((pieces s.data.toList).take (j + 1)).all fun c => !bad c && nameOk (dec c).1) = true) := HF2.out rfl
          clear HF1 HF2
          go_wp2
          go_roundw
          case rel => exact ⟨j + 1, by go_num, by omega, by trivial, HF.out⟩
          case measure => simp [intOf]; omega
      · have hok : nameOk r = false := by simp [nameOk]; omega
        have e45 : ((r : Int) == 45) = false := beq_false_of_ne (by omega)
        have e95 : ((r : Int) == 95) = false := beq_false_of_ne (by omega)
        have e46 : ((r : Int) == 46) = false := beq_false_of_ne (by omega)
        have e47 : ((r : Int) == 47) = false := beq_false_of_ne (by omega)
        obtain ⟨b1, b2⟩ := hc
        have HF : Hid (isName s.data.toList = false) := HV.out (Or.inr hok)
        clear hok HV HS
        go_wp2
        go_ret
        exact ⟨by rw [HF.out]; rfl, hb⟩
      · have hok : nameOk r = true := by simp [nameOk]; omega
        have e45 : ((r : Int) == 45) = false := beq_false_of_ne (by omega)
        have e95 : ((r : Int) == 95) = false := beq_false_of_ne (by omega)
        have e46 : ((r : Int) == 46) = false := beq_false_of_ne (by omega)
        have e47 : ((r : Int) == 47) = false := beq_false_of_ne (by omega)
        have d161 : decide ((161 : Int) ≤ (r : Int)) = true := decide_eq_true (by omega)
        have HF1 : Hid (b = true → isName s.data.toList = false) := by
          show b = true → isName s.data.toList = false
          exact fun h => HV.out (Or.inl h)
        have HF2 : Hid (b = false → (((pieces s.data.toList).take (j + 1)).all fun c => !bad c && nameOk (dec c).1) = true) := by
          show b = false → (((pieces s.data.toList).take (j + 1)).all fun c => !bad c && nameOk (dec c).1) = true
          exact fun h => HS.out h hok
        clear hok HV HS
        cases b with
        | true =>
          have HF : Hid (isName s.data.toList = false) := HF1.out rfl
          clear HF1 HF2
          go_wp2
          go_ret
          exact ⟨by rw [HF.out]; rfl, hb⟩
        | false =>
          have HF : Hid ((((pieces s.data.toList).take (j + 1)).all fun c => !bad c && nameOk (dec c).1) = true) := HF2.out rfl
          clear HF1 HF2
          go_wp2
          go_roundw
          case rel => exact ⟨j + 1, by go_num, by omega, by trivial, HF.out⟩
          case measure => simp [intOf]; omega
    · have HV : Hid (isName s.data.toList = true) := by
        show isName s.data.toList = true
        have := HG.out
        rw [List.take_of_length_le (by rw [← HN.out]; omega)] at this
        rw [h1e'.out]
        unfold madeOf
        rw [this, ← HN.out]
        simp [hz2]
      go_wp2
      go_ret
      exact ⟨by rw [HV.out]; rfl, hb⟩

end Go.Proofs.Ytggognmbjgkdfaa
