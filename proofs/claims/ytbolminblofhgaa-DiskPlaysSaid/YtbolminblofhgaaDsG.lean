/-
  Package disk: Append, whatever comes; what a list of files keeps.
-/
import Derived.Test.YtbolminblofhgaaDsF
set_option linter.unusedVariables false
namespace Go.Proofs.Ytbolminblofhgaa
open Go.RowKit

theorem Apart.of {Q : List (Value × RF)} (h : Apart Q) {p q : Value × RF} (hp : p ∈ Q) (hq : q ∈ Q) (hne : p ≠ q) : ∀ k, p.1.ownBlock = some k → q.1.ownBlock ≠ some k := by
  induction Q with
  | nil => cases hp
  | cons a r ih =>
    obtain ⟨h1, h2⟩ := List.pairwise_cons.1 h
    rcases List.mem_cons.1 hp with rfl | hp'
    · rcases List.mem_cons.1 hq with rfl | hq'
      · exact absurd rfl hne
      · exact h1 q hq'
    · rcases List.mem_cons.1 hq with rfl | hq'
      · exact fun k hk e => h1 p hp' k e hk
      · exact ih h2 hp' hq'

theorem ImR.rise {w : World} {B g : Nat} {mv : Value} {Q : List (Value × RF)} {u : Int} {C : CD} (h : ImR w B g mv Q u C) : Rise C.L := by
  have := h.2.2.2.1.rise
  rw [h.2.1] at this; exact this

theorem putL_inv {C : CD} (hi : Inv C) (f : RF) (hnm : f.nm.size ≤ 100) (hs : f.s ≤ f.b.length) (ht : tot (putL f C.L) ≤ C.room) (hl : (putL f C.L).length ≤ 3000) : Inv (C.setL (putL f C.L)) :=
  ⟨hi.room, ht, hl, fun g hg => by
    rcases mem_putL hg with rfl | ⟨hg, _⟩
    · exact hs
    · exact hi.syn g hg, fun g hg => by
    rcases mem_putL hg with rfl | ⟨hg, _⟩
    · exact hnm
    · exact hi.nm g hg, hi.lo, hi.hi⟩
theorem delL_inv {C : CD} (hi : Inv C) (hr : Rise C.L) (nm : ByteArray) : Inv (C.setL (delL nm C.L)) := by
  obtain ⟨h1, h2⟩ := tot_del nm hr.ne
  exact ⟨hi.room, by show tot (delL nm C.L) ≤ C.room; have := hi.tot; omega, by show (delL nm C.L).length ≤ 3000; have := hi.len; omega, fun g hg => hi.syn g (List.mem_filter.1 hg).1, fun g hg => hi.nm g (List.mem_filter.1 hg).1, hi.lo, hi.hi⟩

/-- What putting a file makes of the count: the old one's bytes go. -/
theorem put_tot {L : List RF} (hr : Rise L) (f : RF) : tot (putL f L) + (match getL f.nm L with | some o => o.b.length | none => 0) = tot L + f.b.length ∧ (putL f L).length = L.length + (match getL f.nm L with | some _ => 0 | none => 1) := by
  obtain ⟨h1, h2⟩ := tot_del f.nm hr.ne
  obtain ⟨h3, h4⟩ := tot_put f L
  cases hg : getL f.nm L with
  | none => rw [hg] at h1 h2; simp only at h1 h2 ⊢; omega
  | some o => rw [hg] at h1 h2; simp only at h1 h2 ⊢; omega

theorem app_inv {C : CD} (hi : Inv C) (hr : Rise C.L) (nm : ByteArray) (l : List UInt8) : Inv (resC C (appL C.room nm l C.L)).2 := by
  have ho := hi.op
  unfold resC
  split
  · exact ho
  · unfold appL
    split
    · exact ho
    · rename_i hbd
      have hnm : nm.size ≤ 100 := by
        unfold badN at hbd
        simp only [decide_eq_true_eq] at hbd
        omega
      split
      · exact ho
      · rename_i hf
        have hroom : ¬ C.room < tot C.L + l.length := fun e => hf (.inr e)
        cases hg : getL nm C.L with
        | none =>
          have hlen : ¬ 3000 ≤ C.L.length := fun e => hf (.inl ⟨hg, e⟩)
          obtain ⟨h1, h2⟩ := put_tot hr ⟨nm, l, 0⟩
          simp only [hg] at h1 h2
          exact putL_inv ho ⟨nm, l, 0⟩ hnm (Nat.zero_le _) (by show tot (putL ⟨nm, l, 0⟩ C.L) ≤ C.room; omega) (by show (putL ⟨nm, l, 0⟩ C.L).length ≤ 3000; omega)
        | some f =>
          obtain ⟨hm, hn⟩ := getL_mem hg
          obtain ⟨h1, h2⟩ := put_tot hr ⟨nm, f.b ++ l, f.s⟩
          simp only [hg, List.length_append] at h1 h2
          have := hi.syn f hm
          have := hi.len
          exact putL_inv ho ⟨nm, f.b ++ l, f.s⟩ hnm (by simp only [List.length_append]; omega) (by show tot (putL ⟨nm, f.b ++ l, f.s⟩ C.L) ≤ C.room; omega) (by show (putL ⟨nm, f.b ++ l, f.s⟩ C.L).length ≤ 3000; omega)

theorem dAppend (w : World) (B g : Nat) (mv : Value) (Q : List (Value × RF)) (C : CD) (nm : ByteArray) (A : Option Addr) (m c : Nat) (l : List UInt8) (h : ImAt w B g mv Q C) (hi : Inv C) (hn : C.n ≤ 1000000) (hnm : nm.size ≤ 1000000) (hl : l.length = m) (hm : m ≤ 1000000) (hb : Bts w A l) (hA : A = none → c = 0) (hB : B ≤ w.heap.size) (hAS : ∀ x, A = some x → ¬ ImS g mv Q x.block) :
    Calls Try.prog 16 #[.pointer (some ⟨g, 0, none⟩), .string nm, .slice A m c] w (ImRes w B g mv Q (resC C (appL C.room nm l C.L))) := by
  have hr := h.rise
  have hQL : Q.length = C.L.length := by have e := congrArg List.length h.2.1; rw [List.length_map] at e; exact e
  have hgq := getQ_snd nm Q
  rw [h.2.1] at hgq
  have hroom := hi.room
  have htot := hi.tot
  cases ho : offC C with
  | true =>
    rw [show resC C (appL C.room nm l C.L) = (9, C.op) by unfold resC; rw [if_pos ho]]
    exact dAppend_off w B g mv Q C nm _ h hi hn ho
  | false =>
    have hres : resC C (appL C.room nm l C.L) = ((appL C.room nm l C.L).1, C.op.setL (appL C.room nm l C.L).2) := by unfold resC; rw [if_neg (by rw [ho]; decide)]
    rw [hres]
    cases hbd : badN nm with
    | true =>
      rw [show appL C.room nm l C.L = (1, C.L) by unfold appL; rw [if_pos hbd]]
      exact dAppend_bad w B g mv Q C nm _ h hi hn ho hbd
    | false =>
      by_cases hfull : (getL nm C.L = none ∧ 3000 ≤ C.L.length) ∨ C.room < tot C.L + l.length
      · rw [show appL C.room nm l C.L = (3, C.L) by unfold appL; rw [if_neg (by rw [hbd]; decide), if_pos hfull]]
        cases hg : getQ nm Q with
        | some q =>
          obtain ⟨v0, f⟩ := q
          obtain ⟨hqm, hqn⟩ := getQ_mem hg
          obtain ⟨a0, k0, hv0⟩ := own_slice (h.2.2.2.2.1 _ hqm)
          simp only at hv0
          subst hv0
          have hd : (C.room : Int) - (tot C.L : Int) < m := by
            rcases hfull with ⟨e, _⟩ | e
            · rw [hg] at hgq; rw [e] at hgq; cases hgq
            · omega
          exact dAppend_fullT w B g mv Q C nm A m c l h hi hn hnm hl hm hb hA hB ho hbd a0 _ k0 f.s [] (by unfold hsQ; rw [hg]; rfl) (by unfold lkV; rw [hg]; rfl) hd
        | none =>
          have hs : hsQ nm Q = false := by unfold hsQ; rw [hg]; rfl
          have hk : lkV nm Q = .agg #[.slice none 0 0, .int .i64 ((0 : Nat) : Int)] := by unfold lkV; rw [hg]; rfl
          by_cases hmany : 3000 ≤ Q.length
          · exact dAppend_fullM w B g mv Q C nm A m c l h hi hn hnm hl hm hb hA hB ho hbd none 0 0 0 [] hs hk (by simp; omega)
          · have hd : (C.room : Int) - (tot C.L : Int) < m := by
              rcases hfull with ⟨_, e⟩ | e
              · omega
              · omega
            exact dAppend_fullF w B g mv Q C nm A m c l h hi hn hnm hl hm hb hA hB ho hbd none 0 0 0 [] hs hk (by simp; omega) hd
      · have hd : ¬ (C.room : Int) - (tot C.L : Int) < m := fun e => hfull (.inr (by omega))
        cases hg : getQ nm Q with
        | some q =>
          obtain ⟨v0, f⟩ := q
          obtain ⟨hqm, hqn⟩ := getQ_mem hg
          obtain ⟨a0, k0, hv0⟩ := own_slice (h.2.2.2.2.1 _ hqm)
          simp only at hv0
          subst hv0
          have hgl : getL nm C.L = some f := by rw [hg] at hgq; exact hgq.symm
          rw [show appL C.room nm l C.L = (0, putL ⟨nm, f.b ++ l, f.s⟩ C.L) by unfold appL; rw [if_neg (by rw [hbd]; decide), if_neg hfull, hgl]]
          obtain ⟨h1, h2⟩ := put_tot hr ⟨nm, f.b ++ l, f.s⟩
          simp only [hgl, List.length_append] at h1
          have hfl : f.b.length ≤ tot C.L := by have := (tot_del nm hr.ne).1; rw [hgl] at this; simp only at this; omega
          refine dAppend_okT w B g mv Q C nm A m c l h hi hn hnm hl hm hb hA hB ho hbd a0 _ k0 f.s f.b (by unfold hsQ; rw [hg]; rfl) (by unfold lkV; rw [hg]; rfl) hd rfl (by omega) (h.2.2.2.2.1 _ hqm) (fun k e => .inr (.inr ⟨_, hqm, e⟩)) (fun k e e2 => ?_) (fun p hp k hk => ?_) hAS (by omega)
          · exact (h.ownNe _ hqm).1 (e2 ▸ e)
          · refine h.2.2.2.2.2.of (mem_delQ hp).1 hqm (fun e => (mem_delQ hp).2 ?_) k hk
            rw [e]; exact hqn
        | none =>
          have hgl : getL nm C.L = none := by rw [hg] at hgq; exact hgq.symm
          have hs : hsQ nm Q = false := by unfold hsQ; rw [hg]; rfl
          have hk : lkV nm Q = .agg #[.slice none 0 0, .int .i64 ((0 : Nat) : Int)] := by unfold lkV; rw [hg]; rfl
          have hmany : ¬ 3000 ≤ Q.length := fun e => hfull (.inl ⟨hgl, by omega⟩)
          rw [show appL C.room nm l C.L = (0, putL ⟨nm, l, 0⟩ C.L) by unfold appL; rw [if_neg (by rw [hbd]; decide), if_neg hfull, hgl]]
          obtain ⟨h1, h2⟩ := put_tot hr ⟨nm, l, 0⟩
          simp only [hgl] at h1
          exact dAppend_okF w B g mv Q C nm A m c l h hi hn hnm hl hm hb hA hB ho hbd none 0 0 0 [] hs hk (by simp; omega) hd rfl (by omega) ⟨rfl, .inl ⟨rfl, rfl⟩⟩ (fun k e => by cases e) (fun k e => by cases e) (fun p hp k hk e => by cases e) hAS (by rw [List.nil_append]; omega)

end Go.Proofs.Ytbolminblofhgaa
