/-
  RunesJoin: the walk of the law's text.
-/
import Derived.Test.YthjcljgkgahglaaAwake
import Derived.Test.YthjcljgkgahglaaPureJ
import Derived.Lib.Bytes
import Derived.Deep.RegionHeld3
import Derived.WalkLawsBesides
set_option linter.unusedVariables false
namespace Go.Proofs.Ythjcljgkgahglaa
open Go.RowKit

/-- A callee's contract, held against the world in which the call began. -/
theorem base {P : Program} {f : Nat} {args : Array Value} {e0 : Ending} {w wx : World} (hb : Below w.heap.size w wx)
    (h : Calls P f args wx fun e w' => e = e0 ∧ Below wx.heap.size wx w') : Calls P f args wx fun e w' => e = e0 ∧ Below w.heap.size w w' :=
  h.mono fun e w' ⟨he, hb'⟩ => ⟨he, hb.trans (hb'.mono hb.size)⟩

theorem append_list (a b : ByteArray) : (a ++ b).data.toList = a.data.toList ++ b.data.toList := by simp

/-- What the functions tell, by names of their own. -/
def cntB (s : ByteArray) : Nat := (pieces s.data.toList).length
def vldB (s : ByteArray) : Bool := valid s.data.toList
def quoB (s : ByteArray) : ByteArray := ⟨(quote s.data.toList).toArray⟩

theorem Count_b (s : ByteArray) (w wx : World) (hs : s.size ≤ 1000000) (hb : Below w.heap.size w wx) :
    Calls Try.prog 16 #[.string s] wx fun e w' => e = .returned (.int .i64 (cntB s)) ∧ Below w.heap.size w w' := base hb (Count_any s wx (by unfold maxLen; omega))
theorem Valid_b (s : ByteArray) (w wx : World) (hs : s.size ≤ 1000000) (hb : Below w.heap.size w wx) :
    Calls Try.prog 14 #[.string s] wx fun e w' => e = .returned (.bool (vldB s)) ∧ Below w.heap.size w w' := base hb (Valid_any s wx (by unfold maxLen; omega))
theorem Quote_b (s : ByteArray) (w wx : World) (hs : s.size ≤ 1000000) (hb : Below w.heap.size w wx) :
    Calls Try.prog 28 #[.string s] wx fun e w' => e = .returned (.string (quoB s)) ∧ Below w.heap.size w w' := base hb (Quote_any s wx (by omega))
theorem awake_b (w wx : World) (hb : Below w.heap.size w wx) :
    Calls Try.prog 11 #[] wx fun e w' => e = .returned (.bool true) ∧ Below w.heap.size w w' := base hb (awake_any wx)

theorem vldB_append (a b : ByteArray) (ha : vldB a = true) (hb : vldB b = true) : vldB (a ++ b) = true := by
  unfold vldB at *; rw [append_list]; exact valid_append _ _ ha hb
theorem cntB_append (a b : ByteArray) (ha : vldB a = true) : cntB (a ++ b) = cntB a + cntB b := by
  unfold cntB vldB at *; rw [append_list]; exact count_append _ _ ha
theorem quoB_size (s : ByteArray) : 2 ≤ (quoB s).size ∧ (quoB s).size ≤ 2 + 4 * s.size := by
  have h := quote_len s.data.toList
  have : (quoB s).size = (quote s.data.toList).length := by simp [quoB, ByteArray.size]
  rw [this, size_len s]; exact h

set_option maxHeartbeats 10000000 in
set_option maxRecDepth 1000000 in
theorem RunesJoin_walk (a b : ByteArray) (ha : a.size ≤ maxLen) (hb : b.size ≤ maxLen) (w : World) :
    Calls Try.prog 10 #[.string a, .string b] w fun e w' => e = .returned (.bool true) ∧ Below w.heap.size w w' := by
  have ha0 := ha
  have hb0 := hb
  unfold maxLen at ha hb
  have B0 := Below.refl w.heap.size w
  by_cases h1 : 1000 < a.size
  · go_enter Try.func10, Try.ntmps10
    go_wp2_with (go_at_call 11; refine (base B0 (awake_any _)).mono ?_)
    first | rintro e W1 rfl b1 | rintro e W1 ⟨rfl, b1⟩
    go_wp2
    go_ret
    exact ⟨rfl, b1⟩
  by_cases h2 : 1000 < b.size
  · go_enter Try.func10, Try.ntmps10
    go_wp2_with (go_at_call 11; refine (base B0 (awake_any _)).mono ?_)
    first | rintro e W1 rfl b1 | rintro e W1 ⟨rfl, b1⟩
    go_wp2
    go_ret
    exact ⟨rfl, b1⟩
  have hab : (a ++ b).size = a.size + b.size := by simp
  have habl := append_list a b
  have la := size_len a
  have lb := size_len b
  have hVa := fun wx => Valid_any a wx ha0
  have hVb := fun wx => Valid_any b wx hb0
  have hCa := fun wx => Count_any a wx ha0
  have hCb := fun wx => Count_any b wx hb0
  have hCab := fun wx => Count_any (a ++ b) wx (by rw [hab]; unfold maxLen; omega)
  have hjoin := count_join b.data.toList a.data.toList
  have hpa := pieces_length_le a.data.toList
  have hpb := pieces_length_le b.data.toList
  rw [habl] at hCab
  rw [← la] at hpa
  rw [← lb] at hpb
  by_cases hv : valid a.data.toList = true ∧ valid b.data.toList = true
  · have hva : vldB a = true := hv.1
    have hv0 := hv.1
    have hvb : vldB b = true := hv.2
    have hvab := vldB_append a b hva hvb
    have hcn := cntB_append a b hva
    have ga := quoB_size a
    have gb := quoB_size b
    have hsz : (a ++ b).size ≤ 2000 := by omega
    have hca : cntB a ≤ 1000 := by have := pieces_length_le a.data.toList; unfold cntB; omega
    have hcb : cntB b ≤ 1000 := by have := pieces_length_le b.data.toList; unfold cntB; omega
    have hce : ((cntB (a ++ b) : Int) == (cntB a : Int) + (cntB b : Int)) = true := by rw [hcn]; simp
    clear hVa hVb hCa hCb hCab hjoin hpa hpb hv la lb habl hcn ha hb hab
    obtain ⟨ga1, ga2⟩ := ga
    obtain ⟨gb1, gb2⟩ := gb
    go_enter Try.func10, Try.ntmps10
    go_wp2_with (first | (go_at_call 14; refine (Valid_b _ w _ (by omega) (by assumption)).mono ?_; rintro e W1 ⟨rfl, B1⟩) | (go_at_call 28; refine (Quote_b _ w _ (by omega) (by assumption)).mono ?_; rintro e W1 ⟨rfl, B1⟩))
    clear B0
    obtain ⟨pA, hpA⟩ : ∃ p, p = (quoB a).extract 0 ((quoB a).size - 1) := ⟨_, rfl⟩
    obtain ⟨qB, hqB⟩ : ∃ q, q = (quoB b).extract 1 (quoB b).size := ⟨_, rfl⟩
    have hsl1 : ∀ wx, (Instr.slice 9 (.string (quoB a)) none (some (.int .i64 (((quoB a).size : Int) - 1))) none).run Try.prog wx = .ok (.string pA) wx := by
      intro wx
      rw [run_slice_string_to_if _ _ _ _ _ Try.underlying9, if_pos ⟨by omega, by omega⟩, hpA]
      congr 4
      omega
    have hsl2 : ∀ wx, (Instr.slice 9 (.string (quoB b)) (some (.int .i64 1)) none none).run Try.prog wx = .ok (.string qB) wx := by
      intro wx
      rw [run_slice_string_from_if _ _ _ _ _ Try.underlying9, if_pos ⟨by omega, by omega⟩, hqB]
      rfl
    have hsz2 : ¬ 9223372036854775807 < pA.size + qB.size := by
      rw [hpA, hqB]; simp; omega
    have hq : quoB (a ++ b) = pA ++ qB := by
      rw [hpA, hqB]
      apply Go.WideShapes.bytes_inj
      rw [append_list, Lib.extract_data, Lib.extract_to_end]
      have := quote_append a.data.toList b.data.toList hv0
      simp only [quoB, append_list]
      simpa [ByteArray.size] using this
    have hQab : ∀ wx, Below w.heap.size w wx → Calls Try.prog 28 #[.string (a ++ b)] wx fun e w' => e = .returned (.string (pA ++ qB)) ∧ Below w.heap.size w w' := by
      intro wx hb
      have := Quote_b (a ++ b) w wx (by omega) hb
      rw [hq] at this
      exact this
    clear hpA hqB hq
    have hadd : ¬ 9223372036854775807 < a.size + b.size := by omega
    have k1 : IntKind.i64.wrap ((cntB a : Int) + (cntB b : Int)) = (cntB a : Int) + (cntB b : Int) := IntWalk.i64_in _ (by omega)
    have k2 : IntKind.i64.wrap (((quoB a).size : Int) - 1) = ((quoB a).size : Int) - 1 := IntWalk.i64_in _ (by omega)
    have k3 : 0 ≤ ((quoB a).size : Int) - 1 := by omega
    have k4 : (((quoB a).size : Int) - 1).toNat = (quoB a).size - 1 := by omega
    have k5 : (1 : Int) ≤ ((quoB b).size : Int) := by omega
    have k6 : (quoB a).size - 1 ≤ (quoB a).size := by omega
    have k7 : 1 ≤ (quoB b).size := by omega
    go_region_held3 (fun w' => Below w.heap.size w w') (first | assumption | exact Below.drew (by assumption)) (first | (go_at_call 14; refine (Valid_b _ w _ (by omega) (by assumption)).mono ?_; rintro e W5 ⟨rfl, b5⟩) | (go_at_call 16; refine (Count_b _ w _ (by omega) (by assumption)).mono ?_; rintro e W5 ⟨rfl, b5⟩) | (go_at_call 28; refine (hQab _ (by assumption)).mono ?_; rintro e W5 ⟨rfl, b5⟩) | (go_at_call 11; refine (awake_b w _ (by assumption)).mono ?_; rintro e W5 ⟨rfl, b5⟩))
    go_wp2
    go_ret
    exact ⟨rfl, by assumption⟩
  · obtain ⟨x, y, hx, hy, hxy⟩ : ∃ x y, valid a.data.toList = x ∧ valid b.data.toList = y ∧ (x = false ∨ (x = true ∧ y = false)) := by
      refine ⟨_, _, rfl, rfl, ?_⟩
      cases hc : valid a.data.toList with
      | false => exact Or.inl rfl
      | true => exact Or.inr ⟨rfl, by simpa using fun h => hv ⟨hc, h⟩⟩
    rw [hx] at hVa
    rw [hy] at hVb
    obtain ⟨na, hna⟩ : ∃ n, n = (pieces a.data.toList).length := ⟨_, rfl⟩
    obtain ⟨nb, hnb⟩ : ∃ n, n = (pieces b.data.toList).length := ⟨_, rfl⟩
    obtain ⟨nab, hnab⟩ : ∃ n, n = (pieces (a.data.toList ++ b.data.toList)).length := ⟨_, rfl⟩
    rw [← hna] at hCa hpa
    rw [← hnb] at hCb hpb
    rw [← hnab] at hCab
    rw [← hna, ← hnb, ← hnab] at hjoin
    clear hna hnb hnab hx hy hv la lb habl ha hb
    have HAB : Hid ((a ++ b).size = a.size + b.size) := hab
    clear hab
    have hle : (nab : Int) ≤ (na : Int) + (nb : Int) := by omega
    rcases hxy with rfl | ⟨rfl, rfl⟩
    · go_enter Try.func10, Try.ntmps10
      go_wp2_with (go_at_call 14; refine (base B0 (hVa _)).mono ?_)
      first | rintro e W1 rfl b1 | rintro e W1 ⟨rfl, b1⟩
      go_wp2_with (go_at_call 16; refine (base b1 (hCab _)).mono ?_)
      first | rintro e W2 rfl b2 | rintro e W2 ⟨rfl, b2⟩
      go_wp2_with (go_at_call 16; refine (base b2 (hCa _)).mono ?_)
      first | rintro e W3 rfl b3 | rintro e W3 ⟨rfl, b3⟩
      go_wp2_with (go_at_call 16; refine (base b3 (hCb _)).mono ?_)
      first | rintro e W4 rfl b4 | rintro e W4 ⟨rfl, b4⟩
      go_wp2_with (go_at_call 11; refine (base b4 (awake_any _)).mono ?_)
      first | rintro e W5 rfl b5 | rintro e W5 ⟨rfl, b5⟩
      go_wp2
      go_ret
      exact ⟨rfl, b5⟩
    · go_enter Try.func10, Try.ntmps10
      go_wp2_with (go_at_call 14; refine (base B0 (hVa _)).mono ?_)
      first | rintro e W1 rfl b1 | rintro e W1 ⟨rfl, b1⟩
      go_wp2_with (go_at_call 14; refine (base b1 (hVb _)).mono ?_)
      first | rintro e W2' rfl b1' | rintro e W2' ⟨rfl, b1'⟩
      go_wp2_with (go_at_call 16; refine (base b1' (hCab _)).mono ?_)
      first | rintro e W2 rfl b2 | rintro e W2 ⟨rfl, b2⟩
      go_wp2_with (go_at_call 16; refine (base b2 (hCa _)).mono ?_)
      first | rintro e W3 rfl b3 | rintro e W3 ⟨rfl, b3⟩
      go_wp2_with (go_at_call 16; refine (base b3 (hCb _)).mono ?_)
      first | rintro e W4 rfl b4 | rintro e W4 ⟨rfl, b4⟩
      go_wp2_with (go_at_call 11; refine (base b4 (awake_any _)).mono ?_)
      first | rintro e W5 rfl b5 | rintro e W5 ⟨rfl, b5⟩
      go_wp2
      go_ret
      exact ⟨rfl, b5⟩

end Go.Proofs.Ythjcljgkgahglaa
