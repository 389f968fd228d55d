/-
  EventLimits: the batch that it makes, plainly.
-/
import Derived.Test.YtggognmbjgkdfaaEvG
import Derived.Test.YtggognmbjgkdfaaLwA
import Derived.Test.YtggognmbjgkdfaaAlike
set_option linter.unusedVariables false
namespace Go.Proofs.Ytggognmbjgkdfaa
open Go.RowKit

theorem letter_range (k : Int) (i : Nat) : 97 ≤ (letter k i).toNat ∧ (letter k i).toNat ≤ 122 := by
  have h := letter_val k i
  have h1 : 0 ≤ ((i : Int) * i + k) % 26 := Int.emod_nonneg _ (by omega)
  have h2 : ((i : Int) * i + k) % 26 < 26 := Int.emod_lt_of_pos _ (by omega)
  omega
theorem isPiece_ascii (b : UInt8) (h : b.toNat < 128) : isPiece [b] ∧ bad [b] = false ∧ (dec [b]).1 = b.toNat := by
  have hd : dec [b] = (b.toNat, 1) := by rw [dec_one, if_pos h]
  refine ⟨⟨by simp, by rw [hd]; rfl, by simp⟩, by simp [bad]; omega, by rw [hd]⟩
theorem pieces_ascii (l : List UInt8) (h : ∀ b ∈ l, b.toNat < 128) : pieces l = l.map fun b => [b] := by
  have := pieces_good_append (l.map fun b => [b]) [] (fun d hd => by
    obtain ⟨b, hb, rfl⟩ := List.mem_map.1 hd
    exact ⟨(isPiece_ascii b (h b hb)).1, (isPiece_ascii b (h b hb)).2.1⟩)
  have e : (l.map fun b => [b]).flatten = l := by
    clear this h
    induction l with
    | nil => rfl
    | cons x r ih => simp [ih]
  rw [e] at this
  simpa [pieces_nil] using this
theorem valid_letters (n : Nat) (k : Int) : valid (letters n k) = true := by
  have hp := pieces_ascii (letters n k) (by
    intro b hb
    obtain ⟨i, _, rfl⟩ := List.mem_map.1 hb
    have := letter_range k i
    omega)
  unfold valid
  rw [hp, List.all_eq_true]
  intro c hc
  obtain ⟨b, hb, rfl⟩ := List.mem_map.1 hc
  obtain ⟨i, _, rfl⟩ := List.mem_map.1 hb
  have hr := letter_range k i
  rw [(isPiece_ascii (letter k i) (by omega)).2.1]; rfl

/-- A name, a text, the data of a put, the puts. -/
def limN (i : Nat) : ByteArray := ⟨#[115, (97 + i).toUInt8]⟩
def limT (size k : Nat) : ByteArray := ⟨(letters size (k : Int)).toArray⟩
def limD (size t : Nat) : List ByteArray := (List.range t).map (limT size)
def limP (data size i : Nat) : Pt := ⟨limN i, -1, limD size data⟩
def limPs (data size i : Nat) : List Pt := (List.range i).map (limP data size)
def limB (puts data size : Nat) : Ba := ⟨⟨#[]⟩, limPs data size puts⟩

theorem limD_len (size t : Nat) : (limD size t).length = t := by simp [limD]
theorem limD_succ (size t : Nat) : limD size (t + 1) = limD size t ++ [limT size t] := by simp [limD, List.range_succ]
theorem limPs_len (data size i : Nat) : (limPs data size i).length = i := by simp [limPs]
theorem limPs_succ (data size i : Nat) : limPs data size (i + 1) = limPs data size i ++ [limP data size i] := by simp [limPs, List.range_succ]
theorem limT_size (size k : Nat) : (limT size k).size = size := by
  show (letters size (k : Int)).toArray.size = size
  simp [letters]
theorem strSum_limD (size t : Nat) : strSum (limD size t) = t * size := by
  induction t with
  | zero => simp [limD, strSum]
  | succ t ih =>
    rw [limD_succ]
    unfold strSum at ih ⊢
    rw [List.map_append, List.sum_append, ih]
    simp only [List.map_cons, List.map_nil, List.sum_cons, List.sum_nil, limT_size]
    rw [Nat.succ_mul]; omega
theorem sum_const {α : Type} (f : α → Nat) (m : Nat) (l : List α) (h : ∀ x ∈ l, f x = m) : (l.map f).sum = l.length * m := by
  induction l with
  | nil => simp
  | cons a r ih =>
    rw [List.map_cons, List.sum_cons, ih (fun x hx => h x (by simp [hx])), h a (by simp), List.length_cons, Nat.succ_mul]; omega
theorem allData_lim (puts data size : Nat) : allData (limPs data size puts) = puts * (data * size) := by
  unfold allData
  rw [sum_const _ (data * size) _ (fun p hp => by
    obtain ⟨i, _, rfl⟩ := List.mem_map.1 hp
    exact strSum_limD size data), limPs_len]
theorem baSum_lim (puts data size : Nat) (h1 : puts ≤ 10) (h2 : data ≤ 25) (h3 : size ≤ 1100) : baSum (limB puts data size) ≤ 1000000 := by
  have hs : ptsSum (limPs data size puts) = puts * (2 + (data + data * size)) := by
    unfold ptsSum
    rw [sum_const _ (2 + (data + data * size)) _ (fun p hp => by
      obtain ⟨i, _, rfl⟩ := List.mem_map.1 hp
      show (limN i).size + ((limD size data).length + strSum (limD size data)) = _
      rw [limD_len, strSum_limD]; rfl), limPs_len]
  have m1 : data * size ≤ 25 * 1100 := Nat.mul_le_mul h2 h3
  have m2 : puts * (2 + (data + data * size)) ≤ 10 * 30000 := Nat.mul_le_mul h1 (by omega)
  show 0 + (limPs data size puts).length + ptsSum (limPs data size puts) ≤ 1000000
  rw [hs, limPs_len]
  omega
set_option maxRecDepth 100000 in
theorem limN_ok : ∀ i : Fin 10, nmS (limN i.val) = true := by decide +kernel
set_option maxRecDepth 100000 in
theorem limN_inj : ∀ i j : Fin 10, limN i.val = limN j.val → i = j := by decide +kernel
theorem limN_nodup (n : Nat) (hn : n ≤ 10) : ((List.range n).map limN).Nodup := by
  induction n with
  | zero => simp
  | succ n ih =>
    rw [List.range_succ, List.map_append]
    refine nodup_snoc (ih (by omega)) (fun h => ?_)
    obtain ⟨j, hj, e⟩ := List.mem_map.1 h
    have hjn := List.mem_range.1 hj
    have := limN_inj ⟨j, by omega⟩ ⟨n, by omega⟩ e
    have := congrArg Fin.val this
    simp only at this
    omega
theorem limP_ok (data size i : Nat) (hi : i < 10) (hd : 0 < data) : putOk (limP data size i) = true := by
  rw [putOk_iff]
  refine ⟨limN_ok ⟨i, hi⟩, (by show exOk (-1) = true; decide), ?_, List.all_eq_true.2 fun x hx => ?_⟩
  · show limD size data ≠ []
    intro e
    have := limD_len size data
    rw [e] at this
    simp at this
    omega
  · obtain ⟨k, _, rfl⟩ := List.mem_map.1 hx
    exact valid_letters size k
theorem limP_not (data size i : Nat) (hd : data = 0) : putOk (limP data size i) = false := by
  cases e : putOk (limP data size i) with
  | false => rfl
  | true =>
    have := (putOk_iff.1 e).2.2.1
    subst hd
    exact absurd rfl this
theorem lim_arg {puts data : Nat} (size : Nat) (h1 : puts ≤ 10) : argOk (limB puts data size) = decide (0 < puts ∧ 0 < data) := by
  by_cases hp : 0 < puts ∧ 0 < data
  · rw [decide_eq_true hp, argOk_iff]
    refine ⟨(by show kyS ⟨#[]⟩ = true; decide +kernel), ?_, fun p hpm => ?_, ?_⟩
    · show limPs data size puts ≠ []
      intro e
      have := limPs_len data size puts
      rw [e] at this
      simp at this
      omega
    · obtain ⟨i, hi, rfl⟩ := List.mem_map.1 hpm
      exact limP_ok data size i (by have := List.mem_range.1 hi; omega) hp.2
    · show (List.map Pt.s ((List.range puts).map (limP data size))).Nodup
      rw [List.map_map]
      exact limN_nodup puts h1
  · rw [decide_eq_false hp]
    cases e : argOk (limB puts data size) with
    | false => rfl
    | true =>
      obtain ⟨_, a2, a3, _⟩ := argOk_iff.1 e
      by_cases h0 : puts = 0
      · subst h0; exact absurd rfl a2
      · have hd : data = 0 := by omega
        have := a3 (limP data size 0) (List.mem_map.2 ⟨0, List.mem_range.2 (by omega), rfl⟩)
        rw [limP_not _ _ _ hd] at this
        cases this
theorem lim_big {puts data size : Nat} (hp : 0 < puts) (hd : 0 < data) : bigB (limB puts data size) = decide (8 < puts ∨ 20 < data ∨ 1000 < size ∨ 30000 < puts * data * size) := by
  rw [Bool.eq_iff_iff, decide_eq_true_eq]
  constructor
  · intro h
    refine Classical.byContradiction fun hn => ?_
    have : bigB (limB puts data size) = false := by
      rw [bigB_iff]
      refine ⟨by show (limPs data size puts).length ≤ 8; rw [limPs_len]; omega, fun p hpm => ?_, ?_⟩
      · obtain ⟨i, _, rfl⟩ := List.mem_map.1 hpm
        refine ⟨by show (limD size data).length ≤ 20; rw [limD_len]; omega, fun x hx => ?_⟩
        obtain ⟨k, _, rfl⟩ := List.mem_map.1 hx
        rw [limT_size]; omega
      · show allData (limPs data size puts) ≤ 30000
        rw [allData_lim, ← Nat.mul_assoc]; omega
    rw [this] at h; cases h
  · intro h
    cases e : bigB (limB puts data size) with
    | true => rfl
    | false =>
      exfalso
      obtain ⟨b1, b2, b3⟩ := bigB_iff.1 e
      have c1 : puts ≤ 8 := by have : (limPs data size puts).length ≤ 8 := b1; rwa [limPs_len] at this
      have c2 := b2 (limP data size 0) (List.mem_map.2 ⟨0, List.mem_range.2 hp, rfl⟩)
      have c3 : data ≤ 20 := by have : (limD size data).length ≤ 20 := c2.1; rwa [limD_len] at this
      have c4 : size ≤ 1000 := by have := c2.2 (limT size 0) (List.mem_map.2 ⟨0, List.mem_range.2 hd, rfl⟩); rwa [limT_size] at this
      have c5 : puts * data * size ≤ 30000 := by have : allData (limPs data size puts) ≤ 30000 := b3; rwa [allData_lim, ← Nat.mul_assoc] at this
      omega
/-- What is wanted. -/
def limW (puts data size : Nat) : Nat := if puts = 0 ∨ data = 0 then 1 else if 8 < puts ∨ 20 < data ∨ 1000 < size ∨ 30000 < puts * data * size then 2 else 0
theorem lim_check {puts data size : Nat} (h1 : puts ≤ 10) : checkB (limB puts data size) = limW puts data size := by
  unfold checkB limW
  rw [lim_arg size h1]
  by_cases h0 : puts = 0 ∨ data = 0
  · rw [if_pos h0, if_neg]
    rw [decide_eq_true_eq]; omega
  · rw [if_neg h0, if_pos (by rw [decide_eq_true_eq]; omega), lim_big (by omega) (by omega)]
    by_cases h2 : 8 < puts ∨ 20 < data ∨ 1000 < size ∨ 30000 < puts * data * size
    · rw [if_pos h2, if_pos (by rw [decide_eq_true_eq]; exact h2)]
    · rw [if_neg h2, if_neg (by rw [decide_eq_true_eq]; exact h2)]

end Go.Proofs.Ytggognmbjgkdfaa
