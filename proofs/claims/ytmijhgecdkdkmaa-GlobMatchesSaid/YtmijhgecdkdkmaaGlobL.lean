/-
  Plain mathematics: patterns without signs, and those behind backslashes; the law's plain; the reference's Valid.
-/
import Derived.Test.YtmijhgecdkdkmaaManyLaw
import Derived.Test.YtmijhgecdkdkmaaGJoinLaw
set_option linter.unusedVariables false
namespace Go.Proofs.Ytmijhgecdkdkmaa
open Go.RowKit

theorem good_all {l : List UInt8} (hl : valid l = true) : ∀ c ∈ pieces l, isPiece c ∧ bad c = false := by
  intro c hc
  unfold valid at hl
  rw [List.all_eq_true] at hl
  exact ⟨pieces_mem l c hc, by simpa using hl c hc⟩

theorem coded {cs : List (List UInt8)} (h : ∀ c ∈ cs, isPiece c ∧ bad c = false) : cs = (runesOf cs).map fun r : Nat => Lib.encodeRune (r : Int) := by
  induction cs with
  | nil => rfl
  | cons c r ih =>
    have hc := h c (by simp)
    have := piece_encode hc.1 hc.2
    simp only [runesOf, List.map_cons] at ih ⊢
    rw [← ih (fun d hd => h d (by simp [hd])), this]

/-- Texts that are UTF-8, of the same runes, are the same. -/
theorem texts_eq {l m : List UInt8} (hl : valid l = true) (hm : valid m = true) (h : runesOf (pieces l) = runesOf (pieces m)) : l = m := by
  have h1 := coded (good_all hl)
  have h2 := coded (good_all hm)
  rw [h, ← h2] at h1
  rw [← pieces_flatten l, ← pieces_flatten m, h1]

theorem lits_mt (R : List Nat) : ∀ T, Mt (R.map litP) T ↔ T = R := by
  induction R with
  | nil => intro T; exact Mt.nil_iff
  | cons a R ih =>
    intro T
    constructor
    · intro h
      cases h with
      | one _ ht h =>
        rw [(ih _).1 h, (lit_takes _ _).1 ht]
      | skip hm => simp [litP] at hm
      | more hm => simp [litP] at hm
    · rintro rfl
      exact .one rfl ((lit_takes _ _).2 rfl) ((ih _).2 rfl)

theorem sgRun_plain (R : List Nat) (h : ∀ r ∈ R, r ≠ 92) : sgRun R = (R.map fun r => (r, true), true) := by
  have gen : ∀ (R : List Nat) (S : List Sg), (∀ r ∈ R, r ≠ 92) → R.foldl sgStep (S, true) = (S ++ R.map fun r => (r, true), true) := by
    intro R
    induction R with
    | nil => intro S _; simp
    | cons r R ih =>
      intro S h
      have h1 := h r (by simp)
      have : sgStep (S, true) r = (S ++ [(r, true)], true) := by unfold sgStep; rw [if_neg (by simp [h1])]
      rw [List.foldl_cons, this, ih _ (fun d hd => h d (by simp [hd]))]
      simp
  have := gen R [] h
  simpa [sgRun] using this

theorem bareAt_zero (s : Sg) (S : List Sg) (r : Nat) : bareAt (s :: S) 0 r = (s.1 == r && s.2) := by
  rw [bareAt_lt (by simp)]; rfl

theorem signs_pat (S : List Sg) (h : ∀ s ∈ S, s.2 = false ∨ (s.1 ≠ 42 ∧ s.1 ≠ 63 ∧ s.1 ≠ 91)) : pcF S.length S = some (S.map fun s => litP s.1) := by
  induction S with
  | nil => rfl
  | cons s S ih =>
    have hs := h s (by simp)
    have no : ∀ r, r = 42 ∨ r = 63 ∨ r = 91 → ¬ bareAt (s :: S) 0 r = true := by
      intro r hr
      rw [bareAt_zero]
      rcases hs with h | ⟨h1, h2, h3⟩
      · simp [h]
      · rcases hr with rfl | rfl | rfl <;> simp [h1, h2, h3]
    have hh : headR (s :: S) = (litP s.1, 1) := by
      unfold headR
      rw [if_neg (no 42 (by omega)), if_neg (no 63 (by omega)), if_neg (no 91 (by omega))]
      rfl
    rw [List.length_cons, pcF_more (by simp) hh (by omega), List.drop_one, List.tail_cons, ih (fun d hd => h d (by simp [hd]))]
    rfl

theorem plain_pat {l : List UInt8} (hv : valid l = true) (hc : (pieces l).length ≤ 40) (hp : ∀ r ∈ runesOf (pieces l), r ≠ 42 ∧ r ≠ 63 ∧ r ≠ 91 ∧ r ≠ 92) : patR l = some ((runesOf (pieces l)).map litP) := by
  unfold patR
  rw [if_pos ⟨hv, hc⟩, sgRun_plain _ (fun r hr => (hp r hr).2.2.2)]
  simp only [if_true]
  rw [signs_pat _ (fun s hs => by
    obtain ⟨r, hr, rfl⟩ := List.mem_map.1 hs
    have := hp r hr
    exact Or.inr ⟨this.1, this.2.1, this.2.2.1⟩)]
  simp [Function.comp_def]

def plainB (s : ByteArray) : Bool := s.data.toList.all fun b => !(b.toNat == 42 || b.toNat == 63 || b.toNat == 91 || b.toNat == 92)

theorem plain_runes {l : List UInt8} (hp : ∀ b ∈ l, b.toNat ≠ 42 ∧ b.toNat ≠ 63 ∧ b.toNat ≠ 91 ∧ b.toNat ≠ 92) : ∀ r ∈ runesOf (pieces l), r ≠ 42 ∧ r ≠ 63 ∧ r ≠ 91 ∧ r ≠ 92 := by
  intro r hr
  obtain ⟨c, hc, rfl⟩ := List.mem_map.1 hr
  by_cases h : (dec c).1 < 128
  · have hs := (piece_small (pieces_mem l c hc) h).1
    have hm : (dec c).1.toUInt8 ∈ l := by
      rw [← pieces_flatten l]
      obtain ⟨x, hx⟩ : ∃ x, x = (dec c).1.toUInt8 := ⟨_, rfl⟩
      rw [← hx] at hs ⊢
      exact List.mem_flatten.2 ⟨c, hc, by rw [hs]; simp⟩
    have := hp _ hm
    have e : (dec c).1.toUInt8.toNat = (dec c).1 := by simp [Nat.toUInt8]; omega
    rw [e] at this
    exact this
  · omega

theorem plainB_iff (s : ByteArray) : plainB s = true ↔ ∀ b ∈ s.data.toList, b.toNat ≠ 42 ∧ b.toNat ≠ 63 ∧ b.toNat ≠ 91 ∧ b.toNat ≠ 92 := by
  unfold plainB
  rw [List.all_eq_true]
  constructor
  · intro h b hb
    have := h b hb
    simp at this
    omega
  · intro h b hb
    have := h b hb
    simp
    omega

theorem chk_valid {s : ByteArray} (h : chkB s = true) : vldB s = true ∧ cntB s ≤ 40 := by
  unfold chkB at h
  obtain ⟨P, hP⟩ := Option.isSome_iff_exists.1 h
  obtain ⟨v, c, _⟩ := patR_parts hP
  exact ⟨v, c⟩

theorem plain_pat_b {s : ByteArray} (hp : plainB s = true) (hv : vldB s = true) (hc : cntB s ≤ 40) : patR s.data.toList = some ((runesOf (pieces s.data.toList)).map litP) :=
  plain_pat hv hc (plain_runes ((plainB_iff s).1 hp))

theorem plain_mat {s t : ByteArray} (hp : plainB s = true) (hv : vldB s = true) (hc : cntB s ≤ 40) : matB s t = true ↔ vldB t = true ∧ s = t := by
  unfold matB matR
  rw [plain_pat_b hp hv hc]
  simp only [Bool.and_eq_true, takR_iff, lits_mt]
  constructor
  · rintro ⟨h1, h2⟩
    exact ⟨h1, Go.WideShapes.bytes_inj (texts_eq hv h1 h2.symm)⟩
  · rintro ⟨h1, rfl⟩; exact ⟨h1, rfl⟩

theorem star_pat : patR [42] = some [starP] ∧ patR [42, 42] = some [starP, starP] := by
  have h1 : ((patR [42]).map (·.map pcEnc) == some [([], false, true)]) = true := by decide +kernel
  have h2 : ((patR [42, 42]).map (·.map pcEnc) == some [([], false, true), ([], false, true)]) = true := by decide +kernel
  exact ⟨pc_of_enc (eq_of_beq h1), pc_of_enc (eq_of_beq h2)⟩

theorem star_mat (t : ByteArray) : matB ⟨#[42]⟩ t = vldB t ∧ matB ⟨#[42, 42]⟩ t = vldB t := by
  constructor
  · unfold matB matR
    rw [show (⟨#[42]⟩ : ByteArray).data.toList = [42] from rfl, star_pat.1]
    simp only
    rw [(takR_iff _ _).2 (Mt.star starP rfl _), Bool.and_true]; rfl
  · unfold matB matR
    rw [show (⟨#[42, 42]⟩ : ByteArray).data.toList = [42, 42] from rfl, star_pat.2]
    simp only
    rw [(takR_iff _ _).2 (Mt.skip rfl (Mt.star starP rfl _)), Bool.and_true]; rfl

theorem rValid_b (s : ByteArray) (w wx : World) (hs : s.size ≤ 1000000) (hb : Below w.heap.size w wx) :
    Calls Try.prog 23 #[.string s] wx fun e w' => e = .returned (.bool (vldB s)) ∧ Below w.heap.size w w' := base hb (rValid_any s wx hs)

theorem all_take {α : Type} (f : α → Bool) (l : List α) (j : Nat) (h : j < l.length) : (l.take (j + 1)).all f = ((l.take j).all f && f l[j]) := by
  rw [List.take_succ_eq_append_getElem h, List.all_append]; simp

set_option maxHeartbeats 4000000 in
set_option maxRecDepth 100000 in
theorem plain_any2 (s : ByteArray) (w : World) (hs : s.size ≤ 1000000) :
    Calls Try.prog 22 #[.string s] w fun e w' => e = .returned (.bool (plainB s)) ∧ w = w' := by
  go_enter Try.func22, Try.ntmps22
  go_wp2
  go_loop [3] (fun i => ∃ j : Nat, i = .int .i64 j ∧ j ≤ s.size ∧ Hid ((s.data.toList.take j).all (fun b => !(b.toNat == 42 || b.toNat == 63 || b.toNat == 91 || b.toNat == 92)) = true)) (fun i => s.size - (intOf i).toNat)
  case atStart => exact ⟨0, rfl, Nat.zero_le _, rfl⟩
  case round =>
    obtain ⟨j, rfl, hj, HA⟩ := hrel
    by_cases hlt : j < s.size
    · have hlt' : j < s.data.toList.length := by rw [← size_len]; exact hlt
      have hlti : (j : Int) < (s.size : Int) := by omega
      have hj0 : (0 : Int) ≤ (j : Int) := by omega
      have HT : Hid ((s.data.toList.take (j + 1)).all (fun b => !(b.toNat == 42 || b.toNat == 63 || b.toNat == 91 || b.toNat == 92)) = !(s[j].toNat == 42 || s[j].toNat == 63 || s[j].toNat == 91 || s[j].toNat == 92)) := by
        show _ = _
        rw [all_take _ _ _ hlt', HA.out]; rfl
      have HF : Hid ((s[j].toNat = 42 ∨ s[j].toNat = 63 ∨ s[j].toNat = 91 ∨ s[j].toNat = 92) → plainB s = false) := by
        intro h
        apply Bool.eq_false_iff.2
        intro hp
        have := (plainB_iff s).1 hp s[j] (by have := List.getElem_mem hlt'; exact this)
        omega
      have hc : (s[j].toNat : Int) = (s[j].toNat : Int) := rfl
      obtain ⟨c, hcd⟩ : ∃ c, c = s[j].toNat := ⟨_, rfl⟩
      by_cases e1 : s[j].toNat = 42
      · have HN : Hid (plainB s = false) := HF.out (.inl e1)
        have d1 : ((s[j].toNat : Int) == 42) = true := by rw [e1]; rfl
        clear e1 hcd
        go_wp2
        go_ret
        exact ⟨by rw [HN.out]; rfl, rfl⟩
      have d1 : ((s[j].toNat : Int) == 42) = false := beq_false_of_ne (by omega)
      by_cases e2 : s[j].toNat = 63
      · have HN : Hid (plainB s = false) := HF.out (.inr (.inl e2))
        have d2 : ((s[j].toNat : Int) == 63) = true := by rw [e2]; rfl
        clear e1 e2 hcd
        go_wp2
        go_ret
        exact ⟨by rw [HN.out]; rfl, rfl⟩
      have d2 : ((s[j].toNat : Int) == 63) = false := beq_false_of_ne (by omega)
      by_cases e3 : s[j].toNat = 91
      · have HN : Hid (plainB s = false) := HF.out (.inr (.inr (.inl e3)))
        have d3 : ((s[j].toNat : Int) == 91) = true := by rw [e3]; rfl
        clear e1 e2 e3 hcd
        go_wp2
        go_ret
        exact ⟨by rw [HN.out]; rfl, rfl⟩
      have d3 : ((s[j].toNat : Int) == 91) = false := beq_false_of_ne (by omega)
      by_cases e4 : s[j].toNat = 92
      · have HN : Hid (plainB s = false) := HF.out (.inr (.inr (.inr e4)))
        have d4 : ((s[j].toNat : Int) == 92) = true := by rw [e4]; rfl
        clear e1 e2 e3 e4 hcd
        go_wp2
        go_ret
        exact ⟨by rw [HN.out]; rfl, rfl⟩
      have d4 : ((s[j].toNat : Int) == 92) = false := beq_false_of_ne (by omega)
      have HA2 : Hid ((s.data.toList.take (j + 1)).all (fun b => !(b.toNat == 42 || b.toNat == 63 || b.toNat == 91 || b.toNat == 92)) = true) := by
        show _ = _
        rw [HT.out]; simp [e1, e2, e3, e4]
      clear e1 e2 e3 e4 hcd
      go_wp2
      go_round
      case rel => exact ⟨j + 1, by go_num, by omega, HA2⟩
      case measure => simp [intOf]; omega
    · have hlti : ¬ (j : Int) < (s.size : Int) := by omega
      have HN : Hid (plainB s = true) := by
        have h := HA.out
        rw [List.take_of_length_le (by rw [← size_len]; omega)] at h
        exact h
      go_wp2
      go_ret
      exact ⟨by rw [HN.out]; rfl, rfl⟩

end Go.Proofs.Ytmijhgecdkdkmaa
