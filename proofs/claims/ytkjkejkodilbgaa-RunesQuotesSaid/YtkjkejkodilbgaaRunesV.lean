/-
  What runes.Unquote answers.
-/
import Derived.Test.YtkjkejkodilbgaaRunesU
import Derived.WalkLawsBesides
set_option linter.unusedVariables false
namespace Go.Proofs.Ytkjkejkodilbgaa
open Go.RowKit

theorem plainF_len : ∀ (f k : Nat) (l t : List UInt8), plainF f k l = some t → t.length ≤ l.length
  | 0, k, l, t, h => by simp [plainF] at h; subst h; simp
  | f + 1, k, l, t, h => by
    rw [plainF_succ] at h
    by_cases h0 : l = []
    · rw [if_pos h0] at h; simp at h; subst h; simp
    rw [if_neg h0] at h
    have hw := dec_width l h0
    by_cases hk : 0 < k
    · rw [if_pos hk] at h
      have := plainF_len f _ _ _ h
      simp at this; omega
    rw [if_neg hk] at h
    by_cases h92 : (dec l).1 = 92
    · rw [if_pos h92] at h
      cases he : escF l with
      | none => rw [he] at h; simp at h
      | some cn =>
        obtain ⟨c, n⟩ := cn
        rw [he] at h
        obtain ⟨u, hu, rfl⟩ := Option.map_eq_some_iff.1 h
        have := plainF_len f _ _ _ hu
        simp at this ⊢; omega
    rw [if_neg h92] at h
    by_cases hb : bad (l.take (dec l).2) = true
    · rw [if_pos hb] at h; simp at h
    · rw [if_neg hb] at h
      obtain ⟨u, hu, rfl⟩ := Option.map_eq_some_iff.1 h
      have := plainF_len f _ _ _ hu
      simp at this ⊢; omega

theorem plainL_len {l t : List UInt8} (h : plainL l = some t) : t.length ≤ l.length := plainF_len _ _ _ _ h

theorem ends_of (s : ByteArray) (h2 : 2 ≤ s.size) : s.data.toList = s[0] :: ((s.extract 1 (s.size - 1)).data.toList ++ [s[s.size - 1]]) := by
  have hl := size_len s
  have hd : (s.extract 1 (s.size - 1)).data.toList = (s.data.toList.drop 1).take (s.size - 2) := by
    rw [Lib.extract_data]
    rw [show s.size - 1 - 1 = s.size - 2 by omega]
  rw [hd]
  have g0 := get_cons s 0 (by omega)
  have g1 := get_cons s (s.size - 1) (by omega)
  rw [← g0, ← g1]
  apply List.ext_getElem
  · simp; omega
  · intro i h1 h3
    rw [List.getElem_cons]
    split
    · rename_i h0; subst h0; rfl
    · rename_i h0
      rw [List.getElem_append]
      split
      · simp [show i - 1 + 1 = i by omega]
      · rename_i h4
        simp only [List.length_take, List.length_drop] at h4
        have : i = s.size - 1 := by simp only [List.length_cons, List.length_append, List.length_take, List.length_drop] at h3; simp at h3; omega
        subst this
        simp

theorem quote_ends (t : List UInt8) : quote t = 34 :: (qbody t ++ [34]) := rfl

theorem unq_ends {a b : UInt8} {m : List UInt8} (h : a ≠ 34 ∨ b ≠ 34) : unq (a :: (m ++ [b])) = none := by
  apply unq_none
  intro t ht
  rw [quote_ends] at ht
  simp only [List.cons.injEq] at ht
  obtain ⟨rfl, ht⟩ := ht
  have := (List.append_inj' ht rfl).2
  simp at this
  rcases h with h | h
  · exact h rfl
  · exact h this.symm

theorem unq_plain {m : List UInt8} (h : plainL m = none) : unq (34 :: (m ++ [34])) = none := by
  apply unq_none
  intro t ht
  rw [quote_ends] at ht
  simp only [List.cons.injEq, true_and, List.append_cancel_right_eq] at ht
  have := plainL_quoted t
  rw [ht, h] at this
  simp at this

theorem unq_other {m t : List UInt8} (h : plainL m = some t) (hne : quote t ≠ 34 :: (m ++ [34])) : unq (34 :: (m ++ [34])) = none := by
  apply unq_none
  intro u hu
  have hu0 := hu
  rw [quote_ends] at hu
  simp only [List.cons.injEq, true_and, List.append_cancel_right_eq] at hu
  have := plainL_quoted u
  rw [hu, h] at this
  simp at this
  subst this
  exact hne hu0

set_option maxHeartbeats 4000000 in
set_option maxRecDepth 100000 in
theorem Unquote_any (s : ByteArray) (w : World) (hs : s.size ≤ 1000000) :
    Calls Try.prog 13 #[.string s] w fun e w' => e = plEnd (unq s.data.toList) ∧ Below w.heap.size w w' := by
  have B0 := Below.refl w.heap.size w
  by_cases h2 : s.size < 2
  · have HN : Hid (unq s.data.toList = none) := by
      show unq s.data.toList = none
      apply unq_none
      intro t ht
      have := congrArg List.length ht
      rw [← size_len, quote_ends] at this
      simp at this; omega
    go_enter Try.func13, Try.ntmps13
    go_wp2
    go_ret2
    exact ⟨by rw [HN.out]; rfl, B0⟩
  have h2' : 2 ≤ s.size := by omega
  have hends := ends_of s h2'
  have g0 : 0 < s.size := by omega
  have g1 : s.size - 1 < s.size := by omega
  have k1 : IntKind.i64.wrap ((s.size : Int) - 1) = (s.size : Int) - 1 := IntWalk.i64_in _ (by omega)
  have k2 : 0 ≤ (s.size : Int) - 1 := by omega
  have ne : ∀ b n : UInt8, b ≠ n → ((b.toNat : Int) != (n.toNat : Int)) = true := fun b n h => bne_iff_ne.2 (fun e => h (UInt8.toNat_inj.1 (by omega)))
  have eq : ∀ b n : UInt8, b = n → ((b.toNat : Int) != (n.toNat : Int)) = false := fun b n h => by rw [h]; simp
  by_cases a34 : s[0] = 34
  · have ea : ((s[0].toNat : Int) != 34) = false := eq _ 34 a34
    by_cases b34 : s[s.size - 1] = 34
    · have eb : ((s[s.size - 1].toNat : Int) != 34) = false := eq _ 34 b34
      rw [a34, b34] at hends
      have hin : (s.extract 1 (s.size - 1)).size ≤ 1000000 := by simp; omega
      have hpl := fun wx => plain_any (s.extract 1 (s.size - 1)) wx hin
      cases hp : plainL (s.extract 1 (s.size - 1)).data.toList with
      | none =>
        rw [hp] at hpl
        have HN : Hid (unq s.data.toList = none) := by
          show unq s.data.toList = none
          rw [hends]; exact unq_plain hp
        have hpl2 : ∀ wx, Calls Try.prog 27 #[.string (s.extract 1 (s.size - 1))] wx fun e w' => e = .returned (.tuple #[.string ⟨#[]⟩, .bool false]) ∧ Below wx.heap.size wx w' := hpl
        clear hpl hp hends a34 b34 ne eq hin
        go_enter Try.func13, Try.ntmps13
        go_wp2_with (go_at_call 27; refine (base B0 (hpl2 _)).mono ?_)
        first | rintro e W2 rfl b2 | rintro e W2 ⟨rfl, b2⟩
        go_wp2
        go_ret2
        exact ⟨by rw [HN.out]; rfl, b2⟩
      | some t =>
        rw [hp] at hpl
        have htl := plainL_len hp
        rw [← size_len] at htl
        have hq := fun wx => Quote_any ⟨t.toArray⟩ wx (by show t.toArray.size ≤ 17592186044416; rw [List.size_toArray]; omega)
        have hpl2 : ∀ wx, Calls Try.prog 27 #[.string (s.extract 1 (s.size - 1))] wx fun e w' => e = .returned (.tuple #[.string ⟨t.toArray⟩, .bool true]) ∧ Below wx.heap.size wx w' := hpl
        by_cases hqe : quote t = s.data.toList
        · have HN : Hid (unq s.data.toList = some t) := by
            show unq s.data.toList = some t
            exact unq_some hqe
          have hq2 : ∀ wx, Calls Try.prog 15 #[.string ⟨t.toArray⟩] wx fun e w' => e = .returned (.string s) ∧ Below wx.heap.size wx w' := fun wx => by
            have := hq wx
            rw [show (⟨(quote (⟨t.toArray⟩ : ByteArray).data.toList).toArray⟩ : ByteArray) = s by
              apply Go.WideShapes.bytes_inj
              simpa using hqe] at this
            exact this
          clear hpl hp hends a34 b34 ne eq hin hq htl hqe
          obtain ⟨u, hu⟩ : ∃ u : ByteArray, u = ⟨t.toArray⟩ := ⟨_, rfl⟩
          rw [← hu] at hq2 hpl2
          have HU : Hid (u = ⟨t.toArray⟩) := hu
          clear hu
          go_enter Try.func13, Try.ntmps13
          go_wp2_with (go_at_call 27; refine (base B0 (hpl2 _)).mono ?_)
          first | rintro e W2 rfl b2 | rintro e W2 ⟨rfl, b2⟩
          go_wp2_with (go_at_call 15; refine (base b2 (hq2 _)).mono ?_)
          first | rintro e W3 rfl b3 | rintro e W3 ⟨rfl, b3⟩
          go_wp2
          go_ret2
          exact ⟨by rw [HN.out]; show _ = Ending.returned (.tuple #[.string ⟨t.toArray⟩, .bool true]); rw [← HU.out]; rfl, b3⟩
        · have HN : Hid (unq s.data.toList = none) := by
            show unq s.data.toList = none
            rw [hends] at hqe ⊢
            exact unq_other hp hqe
          obtain ⟨q, hqd⟩ : ∃ q : ByteArray, q = ⟨(quote (⟨t.toArray⟩ : ByteArray).data.toList).toArray⟩ := ⟨_, rfl⟩
          rw [← hqd] at hq
          have hqs : q ≠ s := by
            rintro rfl
            apply hqe
            rw [hqd]
          have c1 : (q.toList == s.toList) = false := beq_false_of_ne (by
            rw [Lib.toList_data, Lib.toList_data]
            intro e; exact hqs (Go.WideShapes.bytes_inj e))
          clear hpl hp hends a34 b34 ne eq hin htl hqe hqd hqs
          obtain ⟨u, hu⟩ : ∃ u : ByteArray, u = ⟨t.toArray⟩ := ⟨_, rfl⟩
          rw [← hu] at hq hpl2
          clear hu
          go_enter Try.func13, Try.ntmps13
          go_wp2_with (go_at_call 27; refine (base B0 (hpl2 _)).mono ?_)
          first | rintro e W2 rfl b2 | rintro e W2 ⟨rfl, b2⟩
          go_wp2_with (go_at_call 15; refine (base b2 (hq _)).mono ?_)
          first | rintro e W3 rfl b3 | rintro e W3 ⟨rfl, b3⟩
          go_wp2
          go_ret2
          exact ⟨by rw [HN.out]; rfl, b3⟩
    · have eb : ((s[s.size - 1].toNat : Int) != 34) = true := ne _ 34 b34
      have HN : Hid (unq s.data.toList = none) := by
        show unq s.data.toList = none
        rw [hends]; exact unq_ends (Or.inr b34)
      clear hends a34 b34 ne eq
      go_enter Try.func13, Try.ntmps13
      go_wp2
      go_ret2
      exact ⟨by rw [HN.out]; rfl, B0⟩
  · have ea : ((s[0].toNat : Int) != 34) = true := ne _ 34 a34
    have HN : Hid (unq s.data.toList = none) := by
      show unq s.data.toList = none
      rw [hends]; exact unq_ends (Or.inl a34)
    clear hends a34 ne eq
    go_enter Try.func13, Try.ntmps13
    go_wp2
    go_ret2
    exact ⟨by rw [HN.out]; rfl, B0⟩

end Go.Proofs.Ytkjkejkodilbgaa
