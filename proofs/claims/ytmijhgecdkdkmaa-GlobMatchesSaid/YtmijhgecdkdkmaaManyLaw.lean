/-
  GlobMany: the walk of the law's text.
-/
import Derived.Test.YtmijhgecdkdkmaaGlobW
import Derived.LoopTactic
set_option linter.unusedVariables false
namespace Go.Proofs.Ytmijhgecdkdkmaa
open Go.RowKit

def pcEnc (p : Pc) : List (Nat × Nat) × Bool × Bool := (p.spans, p.turned, p.many)
def pcDec (x : List (Nat × Nat) × Bool × Bool) : Pc := ⟨x.1, x.2.1, x.2.2⟩
theorem pc_of_enc {o : Option (List Pc)} {E : List (List (Nat × Nat) × Bool × Bool)} (h : o.map (·.map pcEnc) = some E) : o = some (E.map pcDec) := by
  obtain ⟨P, rfl, rfl⟩ := Option.map_eq_some_iff.1 h
  simp [pcEnc, pcDec, Function.comp_def]

def starP : Pc := ⟨[], false, true⟩
def litP (r : Nat) : Pc := ⟨[(r, r)], false, false⟩
theorem lit_takes (a r : Nat) : takesR (litP a) r = true ↔ r = a := by
  simp [takesR, litP, inSpan]; omega

def starA : Nat → List Pc
  | 0 => []
  | n + 1 => starP :: litP 97 :: starA n
def encA : Nat → List (List (Nat × Nat) × Bool × Bool)
  | 0 => []
  | n + 1 => ([], false, true) :: ([(97, 97)], false, false) :: encA n
theorem encA_dec (n : Nat) : (encA n).map pcDec = starA n := by
  induction n with
  | zero => rfl
  | succ n ih => simp only [encA, List.map_cons, ih]; rfl

theorem many_pat0 : ∀ n : Fin 20, ((patR (repB ⟨#[42, 97]⟩ n.val).data.toList).map (·.map pcEnc) == some (encA n.val)) = true ∧
    ((patR (repB ⟨#[42, 97]⟩ n.val ++ ⟨#[42, 98]⟩).data.toList).map (·.map pcEnc) == some (encA n.val ++ [([], false, true), ([(98, 98)], false, false)])) = true := by decide +kernel
theorem many_pat (n : Fin 20) : (patR (repB ⟨#[42, 97]⟩ n.val).data.toList).map (·.map pcEnc) = some (encA n.val) ∧
    (patR (repB ⟨#[42, 97]⟩ n.val ++ ⟨#[42, 98]⟩).data.toList).map (·.map pcEnc) = some (encA n.val ++ [([], false, true), ([(98, 98)], false, false)]) := ⟨eq_of_beq (many_pat0 n).1, eq_of_beq (many_pat0 n).2⟩

theorem starA_few {n : Nat} : ∀ {R : List Nat}, Mt (starA n) R → n ≤ R.length ∧ (n = 0 → R = []) := by
  induction n with
  | zero => intro R h; exact ⟨by omega, fun _ => Mt.nil_iff.1 h⟩
  | succ n ih =>
    intro R h
    have h' : Mt ([starP] ++ ([litP 97] ++ starA n)) R := h
    obtain ⟨A, B, rfl, _, h2⟩ := h'.part
    obtain ⟨C, D, rfl, h3, h4⟩ := h2.part
    obtain ⟨r, rfl, _⟩ := (Mt.one_iff rfl).1 h3
    have := (ih h4).1
    exact ⟨by simp; omega, by omega⟩

theorem starA_all : ∀ (n k : Nat), 0 < n → n ≤ k → Mt (starA n) (List.replicate k 97)
  | 1, k, _, hk => by
    have h1 : Mt ([starP] ++ [litP 97]) (List.replicate (k - 1) 97 ++ [97]) := (Mt.star starP rfl _).append ((Mt.one_iff rfl).2 ⟨97, rfl, (lit_takes 97 97).2 rfl⟩)
    rw [← List.replicate_succ', show k - 1 + 1 = k by omega] at h1
    exact h1
  | n + 2, k, _, hk => by
    have ih := starA_all (n + 1) (k - 1) (by omega) (by omega)
    rw [show k = k - 1 + 1 by omega, List.replicate_succ]
    exact .skip rfl (.one rfl ((lit_takes 97 97).2 rfl) ih)

theorem starA_b (n k : Nat) : ¬ Mt (starA n ++ [starP, litP 98]) (List.replicate k 97) := by
  intro h
  have h' : Mt ((starA n ++ [starP]) ++ [litP 98]) (List.replicate k 97) := by simpa using h
  cases k with
  | zero => exact absurd (Mt.snoc_none.1 h').1 (by simp [litP])
  | succ k =>
    rw [List.replicate_succ'] at h'
    have := ((Mt.snoc_one rfl).1 h').2
    rw [lit_takes] at this
    omega

theorem a_pieces (k : Nat) : pieces (repB ⟨#[97]⟩ k).data.toList = List.replicate k [97] := by
  rw [repB_list]
  have h := pieces_good_append (List.replicate k [97]) [] (fun c hc => by rw [(List.mem_replicate.1 hc).2]; exact ⟨⟨by decide, by decide, by decide⟩, by decide⟩)
  rw [List.append_nil, pieces_nil, List.append_nil] at h
  exact h
theorem a_valid (k : Nat) : valid (repB ⟨#[97]⟩ k).data.toList = true := by
  unfold valid; rw [a_pieces, List.all_eq_true]
  intro c hc
  rw [(List.mem_replicate.1 hc).2]; decide
theorem a_runes (k : Nat) : runesOf (pieces (repB ⟨#[97]⟩ k).data.toList) = List.replicate k 97 := by
  rw [a_pieces, runesOf, List.map_replicate]; congr 1

theorem many_mat (n k : Nat) (hn : n < 20) : (matB (repB ⟨#[42, 97]⟩ n) (repB ⟨#[97]⟩ k) = true ↔ (n = 0 ∧ k = 0 ∨ 0 < n ∧ n ≤ k)) ∧ matB (repB ⟨#[42, 97]⟩ n ++ ⟨#[42, 98]⟩) (repB ⟨#[97]⟩ k) = false := by
  obtain ⟨h1, h2⟩ := many_pat ⟨n, hn⟩
  have e1 := pc_of_enc h1
  have e2 := pc_of_enc h2
  rw [List.map_append, encA_dec] at e2
  rw [encA_dec] at e1
  constructor
  · unfold matB matR
    rw [e1, a_valid, a_runes]
    simp only [Bool.true_and, takR_iff]
    constructor
    · intro h
      obtain ⟨h3, h4⟩ := starA_few h
      rw [List.length_replicate] at h3
      rcases Nat.eq_zero_or_pos n with h0 | h0
      · left; exact ⟨h0, by have := congrArg List.length (h4 h0); simpa using this⟩
      · right; exact ⟨h0, h3⟩
    · rintro (⟨rfl, rfl⟩ | ⟨h0, h3⟩)
      · exact .nil
      · exact starA_all n k h0 h3
  · unfold matB matR
    rw [e2, a_valid, a_runes]
    simp only [Bool.true_and]
    apply Bool.eq_false_iff.2
    intro h
    exact starA_b n k ((takR_iff _ _).1 h)

set_option maxHeartbeats 4000000 in
set_option maxRecDepth 100000 in
theorem GlobMany_walk (n k : Int) (_hn : (Lit.int .i64 n).wf = true) (_hk : (Lit.int .i64 k).wf = true) (w : World) :
    Calls Try.prog 9 #[.int .i64 n, .int .i64 k] w fun e w' => e = .returned (.bool true) ∧ Below w.heap.size w w' := by
  have B0 := Below.refl w.heap.size w
  clear _hn _hk
  by_cases hout : n < 0 ∨ 19 < n ∨ k < 0 ∨ 300 < k
  · have hcase : n < 0 ∨ (0 ≤ n ∧ 19 < n) ∨ (0 ≤ n ∧ ¬ 19 < n ∧ k < 0) ∨ (0 ≤ n ∧ ¬ 19 < n ∧ 0 ≤ k ∧ 300 < k) := by omega
    clear hout
    rcases hcase with h | ⟨h, h'⟩ | ⟨h, h', h''⟩ | ⟨h, h', h'', h3⟩
    all_goals (
      go_enter Try.func9, Try.ntmps9
      go_wp2_with (go_at_call 17; refine (awake2_b w _ B0).mono ?_; rintro e W1 ⟨rfl, b1⟩)
      go_ret
      exact ⟨rfl, b1⟩)
  obtain ⟨m, rfl⟩ : ∃ m : Nat, n = (m : Int) := ⟨n.toNat, by omega⟩
  obtain ⟨l, rfl⟩ : ∃ l : Nat, k = (l : Int) := ⟨k.toNat, by omega⟩
  have hm : m ≤ 19 := by omega
  have hl : l ≤ 300 := by omega
  obtain ⟨hM1, hM2⟩ := many_mat m l (by omega)
  have hps : (repB ⟨#[42, 97]⟩ m).size ≤ 38 := by rw [repB_size]; show m * 2 ≤ 38; omega
  have hqs : (repB ⟨#[42, 97]⟩ m ++ ⟨#[42, 98]⟩).size ≤ 40 := by rw [ByteArray.size_append]; show _ + 2 ≤ 40; omega
  have hss : (repB ⟨#[97]⟩ l).size ≤ 300 := by rw [repB_size]; show l * 1 ≤ 300; omega
  have HPS : Hid (∀ i, i ≤ 19 → (repB ⟨#[42, 97]⟩ i).size ≤ 38) := fun i hi => by rw [repB_size]; show i * 2 ≤ 38; omega
  have HSS : Hid (∀ i, i ≤ 300 → (repB ⟨#[97]⟩ i).size ≤ 300) := fun i hi => by rw [repB_size]; show i * 1 ≤ 300; omega
  obtain ⟨p, hp⟩ : ∃ p, p = repB ⟨#[42, 97]⟩ m := ⟨_, rfl⟩
  obtain ⟨s, hs⟩ : ∃ s, s = repB ⟨#[97]⟩ l := ⟨_, rfl⟩
  rw [← hp, ← hs] at hM1 hM2
  rw [← hp] at hps hqs
  rw [← hs] at hss
  have HP : Hid (p = repB ⟨#[42, 97]⟩ m) := hp
  have HSX : Hid (s = repB ⟨#[97]⟩ l) := hs
  have cB : ∀ wx, Below w.heap.size w wx → Calls Try.prog 20 #[.string (p ++ ⟨#[42, 98]⟩), .string s] wx fun e w' => e = .returned (.bool false) ∧ Below w.heap.size w w' := fun wx hb => by
    have := Match_b (p ++ ⟨#[42, 98]⟩) s w wx (by omega) (by omega) hb; rw [hM2] at this; exact this
  have cA : ∀ b, matB p s = b → ∀ wx, Below w.heap.size w wx → Calls Try.prog 20 #[.string p, .string s] wx fun e w' => e = .returned (.bool b) ∧ Below w.heap.size w w' := fun b hb0 wx hb => by
    have := Match_b p s w wx (by omega) (by omega) hb; rw [hb0] at this; exact this
  have hcase : (m = 0 ∧ l = 0 ∧ matB p s = true) ∨ (m = 0 ∧ 0 < l ∧ matB p s = false) ∨ (0 < m ∧ m ≤ l ∧ matB p s = true) ∨ (0 < m ∧ ¬ m ≤ l ∧ matB p s = false) := by
    by_cases h0 : m = 0
    · by_cases h1 : l = 0
      · exact .inl ⟨h0, h1, hM1.2 (.inl ⟨h0, h1⟩)⟩
      · exact .inr (.inl ⟨h0, by omega, Bool.eq_false_iff.2 (fun h => by have := hM1.1 h; omega)⟩)
    · by_cases h1 : m ≤ l
      · exact .inr (.inr (.inl ⟨by omega, h1, hM1.2 (.inr ⟨by omega, h1⟩)⟩))
      · exact .inr (.inr (.inr ⟨by omega, h1, Bool.eq_false_iff.2 (fun h => by have := hM1.1 h; omega)⟩))
  have HC : Hid ((m = 0 ∧ l = 0 ∧ matB p s = true) ∨ (m = 0 ∧ 0 < l ∧ matB p s = false) ∨ (0 < m ∧ m ≤ l ∧ matB p s = true) ∨ (0 < m ∧ ¬ m ≤ l ∧ matB p s = false)) := hcase
  have HA : Hid (∀ b, matB p s = b → ∀ wx, Below w.heap.size w wx → Calls Try.prog 20 #[.string p, .string s] wx fun e w' => e = .returned (.bool b) ∧ Below w.heap.size w w') := cA
  have HB : Hid (∀ wx, Below w.heap.size w wx → Calls Try.prog 20 #[.string (p ++ ⟨#[42, 98]⟩), .string s] wx fun e w' => e = .returned (.bool false) ∧ Below w.heap.size w w') := cB
  clear hM1 hM2 hcase cA cB hp hs hout hqs
  have hni : (0 : Int) ≤ (m : Int) := by omega
  have hni2 : ¬ (19 : Int) < (m : Int) := by omega
  have hli : (0 : Int) ≤ (l : Int) := by omega
  have hli2 : ¬ (300 : Int) < (l : Int) := by omega
  go_enter Try.func9, Try.ntmps9
  go_wp2
  go_loop [5, 7] (fun x i => ∃ j : Nat, i = .int .i64 j ∧ j ≤ m ∧ x = .string (repB ⟨#[42, 97]⟩ j)) (fun _ i => m - (intOf i).toNat)
  case atStart => exact ⟨0, rfl, Nat.zero_le _, rfl⟩
  case round =>
    obtain ⟨j, rfl, hj, rfl⟩ := hrel
    by_cases hlt : j < m
    · have hlti : (j : Int) < (m : Int) := by omega
      have hjs := HPS.out j (by omega)
      go_wp2
      go_round
      case rel => exact ⟨j + 1, by go_num, by omega, rfl⟩
      case measure => simp [intOf]; omega
    · have hjm : j = m := by omega
      subst hjm
      rw [← HP.out]
      go_wp2
      go_loop [6, 8] (fun x i => ∃ j : Nat, i = .int .i64 j ∧ j ≤ l ∧ x = .string (repB ⟨#[97]⟩ j)) (fun _ i => l - (intOf i).toNat)
      case atStart => exact ⟨0, rfl, Nat.zero_le _, rfl⟩
      case round =>
        obtain ⟨i, rfl, hi, rfl⟩ := hrel
        by_cases hlt2 : i < l
        · have hlti2 : (i : Int) < (l : Int) := by omega
          have hjs := HSS.out i (by omega)
          go_wp2
          go_round
          case rel => exact ⟨i + 1, by go_num, by omega, rfl⟩
          case measure => simp [intOf]; omega
        · have him : i = l := by omega
          subst him
          rw [← HSX.out]
          have cB := HB.out
          rcases HC.out with ⟨c1, c2, c3⟩ | ⟨c1, c2, c3⟩ | ⟨c1, c2, c3⟩ | ⟨c1, c2, c3⟩
          · have cA := HA.out _ c3
            have d1 : ((j : Int) == 0) = true := by rw [c1]; rfl
            have d2 : ((i : Int) == 0) = true := by rw [c2]; rfl
            clear c1 c2 c3
            go_wp2_with (first | (go_at_call 20; (with_reducible refine (cA _ (by assumption)).mono ?_); rintro e W1 ⟨rfl, b1⟩) | (go_at_call 20; (with_reducible refine (cB _ (by assumption)).mono ?_); rintro e W1 ⟨rfl, b1⟩) | (go_at_call 17; refine (awake2_b w _ (by assumption)).mono ?_; rintro e W1 ⟨rfl, b1⟩))
            all_goals (go_ret; exact ⟨rfl, by assumption⟩)
          · have cA := HA.out _ c3
            have d1 : ((j : Int) == 0) = true := by rw [c1]; rfl
            have d2 : ((i : Int) == 0) = false := beq_false_of_ne (by omega)
            have d3 : ¬ (0 : Int) < (j : Int) := by omega
            have d4 : decide ((0 : Int) < (j : Int)) = false := decide_eq_false d3
            clear c1 c2 c3
            go_wp2_with (first | (go_at_call 20; (with_reducible refine (cA _ (by assumption)).mono ?_); rintro e W1 ⟨rfl, b1⟩) | (go_at_call 20; (with_reducible refine (cB _ (by assumption)).mono ?_); rintro e W1 ⟨rfl, b1⟩) | (go_at_call 17; refine (awake2_b w _ (by assumption)).mono ?_; rintro e W1 ⟨rfl, b1⟩))
            all_goals (go_ret; exact ⟨rfl, by assumption⟩)
          · have cA := HA.out _ c3
            have d1 : ((j : Int) == 0) = false := beq_false_of_ne (by omega)
            have d3 : (0 : Int) < (j : Int) := by omega
            have d5 : (j : Int) ≤ (i : Int) := by omega
            clear c1 c2 c3
            go_wp2_with (first | (go_at_call 20; (with_reducible refine (cA _ (by assumption)).mono ?_); rintro e W1 ⟨rfl, b1⟩) | (go_at_call 20; (with_reducible refine (cB _ (by assumption)).mono ?_); rintro e W1 ⟨rfl, b1⟩) | (go_at_call 17; refine (awake2_b w _ (by assumption)).mono ?_; rintro e W1 ⟨rfl, b1⟩))
            all_goals (go_ret; exact ⟨rfl, by assumption⟩)
          · have cA := HA.out _ c3
            have d1 : ((j : Int) == 0) = false := beq_false_of_ne (by omega)
            have d3 : (0 : Int) < (j : Int) := by omega
            have d5 : ¬ (j : Int) ≤ (i : Int) := by omega
            have d6 : decide ((j : Int) ≤ (i : Int)) = false := decide_eq_false d5
            clear c1 c2 c3
            go_wp2_with (first | (go_at_call 20; (with_reducible refine (cA _ (by assumption)).mono ?_); rintro e W1 ⟨rfl, b1⟩) | (go_at_call 20; (with_reducible refine (cB _ (by assumption)).mono ?_); rintro e W1 ⟨rfl, b1⟩) | (go_at_call 17; refine (awake2_b w _ (by assumption)).mono ?_; rintro e W1 ⟨rfl, b1⟩))
            all_goals (go_ret; exact ⟨by simp; omega, by assumption⟩)

end Go.Proofs.Ytmijhgecdkdkmaa
