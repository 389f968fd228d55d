/-
  StampMost.
-/
import Derived.Test.YtijnmhiiojkcgaaDoorStX
import Derived.Test.YtijnmhiiojkcgaaDoorStF
set_option linter.unusedVariables false
namespace Go.Proofs.YtijnmhiiojkcgaaDoor
open Go.RowKit

theorem less_neg {a b c : Sm} (h1 : lessB a b = false) (h2 : lessB b c = false) : lessB a c = false := by
  cases h : lessB a c with
  | false => rfl
  | true =>
    have h3 := (less_spec a c).1 h
    have n1 : ¬ (a.w < b.w ∨ (a.w = b.w ∧ (a.l < b.l ∨ (a.l = b.l ∧ a.n < b.n)))) := fun e => by rw [(less_spec a b).2 e] at h1; cases h1
    have n2 : ¬ (b.w < c.w ∨ (b.w = c.w ∧ (b.l < c.l ∨ (b.l = c.l ∧ b.n < c.n)))) := fun e => by rw [(less_spec b c).2 e] at h2; cases h2
    omega
theorem pick_fold (f : Sm → Sm → Bool) (irr : ∀ a, f a a = false) (asy : ∀ a b, f a b = true → f b a = false) (neg : ∀ a b c, f a b = false → f b c = false → f a c = false) :
    ∀ (r : List Sm) (s : Sm), (r.foldl (fun m x => bif f m x then x else m) s = s ∨ r.foldl (fun m x => bif f m x then x else m) s ∈ r) ∧ f (r.foldl (fun m x => bif f m x then x else m) s) s = false ∧ ∀ x ∈ r, f (r.foldl (fun m x => bif f m x then x else m) s) x = false
  | [], s => ⟨.inl rfl, irr s, fun x hx => (by cases hx)⟩
  | x :: r, s => by
    rw [List.foldl_cons]
    cases hf : f s x with
    | true =>
      obtain ⟨h1, h2, h3⟩ := pick_fold f irr asy neg r x
      show (r.foldl _ x = s ∨ r.foldl _ x ∈ x :: r) ∧ _
      refine ⟨.inr ?_, neg _ _ _ h2 (asy _ _ hf), fun y hy => ?_⟩
      · rcases h1 with h1 | h1
        · rw [h1]; exact List.mem_cons_self
        · exact List.mem_cons_of_mem _ h1
      · rcases List.mem_cons.1 hy with rfl | hy
        · exact h2
        · exact h3 y hy
    | false =>
      obtain ⟨h1, h2, h3⟩ := pick_fold f irr asy neg r s
      refine ⟨?_, h2, fun y hy => ?_⟩
      · rcases h1 with h1 | h1
        · exact .inl h1
        · exact .inr (List.mem_cons_of_mem _ h1)
      · rcases List.mem_cons.1 hy with rfl | hy
        · exact neg _ _ _ h2 hf
        · exact h3 y hy
theorem pick_spec (f : Sm → Sm → Bool) (irr : ∀ a, f a a = false) (asy : ∀ a b, f a b = true → f b a = false) (neg : ∀ a b c, f a b = false → f b c = false → f a c = false) {l : List Sm} (h : l ≠ []) :
    pick f l ∈ l ∧ ∀ x ∈ l, f (pick f l) x = false := by
  cases l with
  | nil => exact absurd rfl h
  | cons s r =>
    obtain ⟨h1, h2, h3⟩ := pick_fold f irr asy neg r s
    refine ⟨?_, fun x hx => ?_⟩
    · rcases h1 with h1 | h1
      · show r.foldl _ s ∈ s :: r
        rw [h1]; exact List.mem_cons_self
      · exact List.mem_cons_of_mem _ h1
    · rcases List.mem_cons.1 hx with rfl | hx
      · exact h2
      · exact h3 x hx
theorem max_spec {l : List Sm} (h : l ≠ []) : maxOf l ∈ l ∧ ∀ x ∈ l, lessB (maxOf l) x = false :=
  pick_spec lessB less_irr (fun _ _ h => less_asym h) (fun _ _ _ h1 h2 => less_neg h1 h2) h
theorem min_spec {l : List Sm} (h : l ≠ []) : minOf l ∈ l ∧ ∀ x ∈ l, lessB x (minOf l) = false :=
  pick_spec (fun m x => lessB x m) less_irr (fun _ _ h => less_asym h) (fun _ _ _ h1 h2 => less_neg h2 h1) h
theorem max_rev {l : List Sm} (h : l ≠ []) : maxOf l.reverse = maxOf l := by
  obtain ⟨h1, h2⟩ := max_spec h
  obtain ⟨h3, h4⟩ := max_spec (l := l.reverse) (by simpa using h)
  exact less_tri (h4 _ (List.mem_reverse.2 h1)) (h2 _ (List.mem_reverse.1 h3))
theorem min_rev {l : List Sm} (h : l ≠ []) : minOf l.reverse = minOf l := by
  obtain ⟨h1, h2⟩ := min_spec h
  obtain ⟨h3, h4⟩ := min_spec (l := l.reverse) (by simpa using h)
  exact less_tri (h2 _ (List.mem_reverse.1 h3)) (h4 _ (List.mem_reverse.2 h1))
def inB (M : Sm) (l : List Sm) : Bool := l.any fun x => decide (x = M)
theorem inB_take (M : Sm) (l : List Sm) (j : Nat) (hj : j < l.length) : inB M (l.take (j + 1)) = (inB M (l.take j) || decide (l[j]'hj = M)) := by
  unfold inB
  rw [List.take_add_one, List.getElem?_eq_getElem hj, List.any_append]
  simp
theorem inB_all {M : Sm} {l : List Sm} (h : M ∈ l) : inB M l = true := by
  unfold inB
  rw [List.any_eq_true]
  exact ⟨M, h, by simp⟩

def smC (s : Sm) : List Value := [.int .i64 s.w, .int .i64 s.l, .int .i64 s.n]
theorem sms_own {W : World} {B n c : Nat} {a : Option Addr} {ss : List Sm} (h : W.ownsRow B 23 3 (.slice a n c) n (rowOf smC ss)) (hl : ss.length = n) : SmsIn W a n ss := by
  refine ⟨hl, ?_⟩
  by_cases h0 : ss = []
  · exact .inl h0
  · obtain ⟨g, cap, hv, _, hc⟩ := own_cells h (fun _ => rfl) hl h0
    injection hv with e1 e2 e3
    refine .inr ⟨⟨g, 0, none⟩, e1, fun i hi => ?_⟩
    have e : ∀ k, (⟨g, 0, none⟩ : Addr).add k = ⟨g, k, none⟩ := fun k => by unfold Addr.add; split <;> simp_all
    have c0 := hc i hi 0 (by decide)
    have c1 := hc i hi 1 (by decide)
    have c2 := hc i hi 2 (by decide)
    exact ⟨by rw [e]; exact c0, by rw [e]; exact c1, by rw [e]; exact c2⟩
theorem infoStamp : (Tryd.prog.info? 23).map (fun i => (i.zero, i.size, i.bytes)) = some (some (.agg #[.int .i64 0, .int .i64 0, .int .i64 0]), 3, 24) := by kernel_rfl

section
variable {P : Program} (w : World)
theorem wpList_append_row {ops : Array Oper} {rest : List Oper} {o : Oper} {a : Act} {Q : Exit → Act → World → Prop} (hgd : o.guard = none) (s x : Operand) (t : TypeId)
    (ho : o.op = .call { callee := .builtin .append, args := #[s, x], argTypes := #[t, t] })
    (base : Nat) (e : TypeId) (i : TypeInfo) (z : Value) (size bytes : Nat) (ht : P.underlying t = some (.slice e)) (hi : P.info? e = some i) (hz : i.zero = some z)
    (hsize : i.size = size) (hby : i.bytes = bytes) (hzs : z.cells.size = size) (hsz : 0 < size)
    (v : Value) (n : Nat) (xs : List Value) (hs : a.eval s = v) (hown : w.ownsRow base e size v n xs)
    (B2 : Nat) (A : Option Addr) (m c : Nat) (news : List Value) (hx : a.eval x = .slice A m c) (hsrc : w.ownsRow B2 e size (.slice A m c) m news) (h1 : ∀ u ∈ news, u.oneCell' = true) (h63 : n + m ≤ maxLen) (hbytes : (n + m) * bytes ≤ 140737488355328) (hbase : base ≤ w.heap.size) (N : Nat) (hN : n + m = N)
    (h : ∀ (A' : Option Addr) (c' : Nat) w', w'.ownsRow base e size (.slice A' N c') N (xs ++ news) → w.grownBy w' v.ownBlock → ((Value.slice A' N c').ownBlock = v.ownBlock ∨ (Value.slice A' N c').ownBlock = some w.heap.size) → wpList P ops Q rest (a.put o.dst (.slice A' N c')) w') : wpList P ops Q (o :: rest) a w := by
  refine wpList_plain hgd fun K hK => ?_
  have hw : Region.wanted o (yielded ops a.tmps) = true := by simp [Region.wanted, hgd]
  have := step_append_row (P := P) w (ops := ops) (o := o) (a := a) (K := K) (Q := Q) (E := True) hgd s x t ho base e i z size bytes ht hi hz hsize hby hzs hsz v n xs hs hown B2 A m c news hx hsrc h1 h63 hbytes hbase N hN (fun A' c' w' k1 k2 k3 => hK _ _ (h A' c' w' k1 k2 k3))
  rw [if_pos hw] at this
  exact this
end

theorem rowLater {w w' : World} {B : Nat} {e : TypeId} {k n : Nat} {v : Value} {xs : List Value} (h : w.ownsRow B e k v n xs) (hb : Below w.heap.size w w') : w'.ownsRow B e k v n xs :=
  Kept.own h (Kept.of_below (S := fun _ => False) hb) (fun _ _ h => h)
theorem row_one (l : List Sm) : ∀ u ∈ rowOf smC l, u.oneCell' = true := fun u hu => by
  unfold rowOf at hu
  obtain ⟨s, _, h⟩ := List.mem_flatMap.1 hu
  simp only [smC, List.mem_cons, List.not_mem_nil, or_false] at h
  rcases h with rfl | rfl | rfl <;> rfl

theorem keepM {w V W : World} {g1 g2 : Nat} {M N : Sm} {x : Addr} {i : Nat} {s : Sm} (h : Below w.heap.size w V ∧ Box3 V g1 M.w M.l M.n ∧ Box3 V g2 N.w N.l N.n ∧ (V.cell? (x.add (i * 3)) = some (.int .i64 s.w) ∧ V.cell? ⟨(x.add (i * 3)).block, (x.add (i * 3)).off + 1, none⟩ = some (.int .i64 s.l) ∧ V.cell? ⟨(x.add (i * 3)).block, (x.add (i * 3)).off + 2, none⟩ = some (.int .i64 s.n))) (hb : Below V.heap.size V W) :
    Below w.heap.size w W ∧ Box3 W g1 M.w M.l M.n ∧ Box3 W g2 N.w N.l N.n ∧ (W.cell? (x.add (i * 3)) = some (.int .i64 s.w) ∧ W.cell? ⟨(x.add (i * 3)).block, (x.add (i * 3)).off + 1, none⟩ = some (.int .i64 s.l) ∧ W.cell? ⟨(x.add (i * 3)).block, (x.add (i * 3)).off + 2, none⟩ = some (.int .i64 s.n)) :=
  ⟨h.1.trans (hb.mono h.1.size), h.2.1.later hb, h.2.2.1.later hb, (hb.cell (World.block_lt_of_cell? _ _ h.2.2.2.1)).trans h.2.2.2.1, (hb.cell (World.block_lt_of_cell? _ _ h.2.2.2.2.1)).trans h.2.2.2.2.1, (hb.cell (World.block_lt_of_cell? _ _ h.2.2.2.2.2)).trans h.2.2.2.2.2⟩
theorem keepMN {w V W : World} {g1 g2 : Nat} {M N : Sm} (h : Below w.heap.size w V ∧ Box3 V g1 M.w M.l M.n ∧ Box3 V g2 N.w N.l N.n) (hb : Below V.heap.size V W) :
    Below w.heap.size w W ∧ Box3 W g1 M.w M.l M.n ∧ Box3 W g2 N.w N.l N.n :=
  ⟨h.1.trans (hb.mono h.1.size), h.2.1.later hb, h.2.2.later hb⟩
theorem most_next {w V W : World} {g1 g2 : Nat} {M N : Sm} {s : Sm} {v : Value} (h : Below w.heap.size w V ∧ Box3 V g1 M.w M.l M.n ∧ Box3 V g2 N.w N.l N.n) (hown : (V.alloc (.cells #[.int .i64 s.w, .int .i64 s.l, .int .i64 s.n] 23)).ownsRow V.heap.size 23 3 v 1 (smC s))
    (hg : (V.alloc (.cells #[.int .i64 s.w, .int .i64 s.l, .int .i64 s.n] 23)).grownBy W v.ownBlock) : Below w.heap.size w W ∧ Box3 W g1 M.w M.l M.n ∧ Box3 W g2 N.w N.l N.n :=
  keepMN h (((Below.refl V.heap.size V).alloc (Nat.le_refl _) _).grown hg (by simp) fun k hk => (hown.lt k hk).1)
end Go.Proofs.YtijnmhiiojkcgaaDoor
