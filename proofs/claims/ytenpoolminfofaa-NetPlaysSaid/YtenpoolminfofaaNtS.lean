/-
  Both nets in one world; the law's alike; steps that came in.
-/
import Derived.Test.YtenpoolminfofaaNtR
set_option linter.unusedVariables false
namespace Go.Proofs.Ytenpoolminfofaa
open Go.RowKit

theorem rDeliver (w : World) (B g : Nat) (v : Value) (Q : List (Value × Pk)) (L : List Pk) (k : Int) (h : NtAt 29 w B g v Q L) (hB : B ≤ w.heap.size) (hL : L.length ≤ 100000) (pf pt : Int) (pb : List UInt8) (pn : Nat) (ok : Bool) (h1 : atL L k = (⟨pf, pt, pb⟩, ok)) (h2 : pb.length = pn) :
    Calls Try.prog 13 #[.pointer (some ⟨g, 0, none⟩), .int .i64 k] w (RDelivPost 29 w B g v Q pf pt pb pn ok (dropL L k)) := by
  cases hh : hasL k L.length with
  | false =>
    rw [atL_no hh] at h1
    injection h1 with h1 h3
    injection h1 with h4 h5 h6
    subst h3 h4 h5 h6 h2
    rw [dropL_no hh]
    exact rDeliver_no w B g v Q L k h hh
  | true =>
    have hk0 := of_decide_eq_true hh
    obtain ⟨m, rfl⟩ : ∃ m : Nat, k = (m : Int) := ⟨k.toNat, by omega⟩
    have hmL : m < L.length := by omega
    rw [atL_yes hmL] at h1
    injection h1 with h1 h3
    subst h3
    rw [dropL_yes hmL]
    exact rDeliver_yes w B g v Q L m h hB hmL hL pf pt pb pn h1 h2

/-! ### lists that a net may have -/
def Good (L : List Pk) : Prop := L.length ≤ 200 ∧ ∀ p ∈ L, mayP p = true
theorem mayP_len {p : Pk} (h : mayP p = true) : p.b.length ≤ 131072 := by
  unfold mayP mayB at h
  simp at h
  exact h.2
theorem Good.b {L : List Pk} (h : Good L) : ∀ p ∈ L, p.b.length ≤ 131072 := fun p hp => mayP_len (h.2 p hp)
theorem Good.nil : Good [] := ⟨Nat.zero_le _, fun p hp => by cases hp⟩
theorem Good.one {L : List Pk} (h : Good L) (p : Pk) : Good (sendOne L p) := by
  refine ⟨sendOne_len L p h.1, fun q hq => ?_⟩
  unfold sendOne at hq
  split at hq
  · rename_i hc
    rcases List.mem_append.1 hq with hq | hq
    · exact h.2 q hq
    · simp only [List.mem_singleton] at hq
      subst hq
      exact hc.2
  · exact h.2 q hq
theorem Good.send (ps : List Pk) : ∀ {L : List Pk}, Good L → Good (sendL L ps) := by
  induction ps with
  | nil => intro L h; exact h
  | cons p ps ih => intro L h; exact ih (h.one p)
theorem Good.drop {L : List Pk} (h : Good L) (k : Int) : Good (dropL L k) := ⟨Nat.le_trans (dropL_len L k) h.1, fun p hp => h.2 p (dropL_mem hp)⟩
theorem atL_mem {L : List Pk} {k : Int} (h : hasL k L.length = true) : (atL L k).1 ∈ L := by
  have hk0 := of_decide_eq_true h
  obtain ⟨m, rfl⟩ : ∃ m : Nat, k = (m : Int) := ⟨k.toNat, by omega⟩
  have hmL : m < L.length := by omega
  rw [atL_yes hmL]
  exact List.getElem_mem hmL
theorem Good.at {L : List Pk} (h : Good L) (k : Int) : (atL L k).1.b.length ≤ 131072 := by
  cases hh : hasL k L.length with
  | false => rw [atL_no hh]; exact Nat.zero_le _
  | true => exact h.b _ (atL_mem hh)
theorem Good.twice {L : List Pk} (h : Good L) (k : Int) : Good (twiceL L k) := by
  unfold twiceL twiceB
  split
  · rename_i hc
    rw [Bool.and_eq_true] at hc
    have h2 := of_decide_eq_true hc.2
    refine ⟨by rw [List.length_append]; simp; omega, fun p hp => ?_⟩
    rcases List.mem_append.1 hp with hp | hp
    · exact h.2 p hp
    · simp only [List.mem_singleton] at hp
      subst hp
      exact h.2 _ (atL_mem hc.1)
  · exact h
theorem Good.clear {L : List Pk} (h : Good L) (node : Int) : Good (clearL node L) := ⟨Nat.le_trans (List.length_filter_le _ _) h.1, fun p hp => h.2 p (List.mem_filter.1 hp).1⟩

/-! ### both in one world -/
structure Duo (w : World) (B g : Nat) (v : Value) (Q : List (Value × Pk)) (L : List Pk) (g2 : Nat) (v2 : Value) (Q2 : List (Value × Pk)) (L2 : List Pk) : Prop where
  l : NtAt 46 w B g v Q L
  r : NtAt 29 w B g2 v2 Q2 L2
  far : ∀ k, NtAll g v Q k → ¬ NtAll g2 v2 Q2 k
section
variable {w w' : World} {B g g2 : Nat} {v v' v2 v2' : Value} {Q Q' Q2 Q2' : List (Value × Pk)} {L L' L2 L2' : List Pk}
theorem Duo.left (h : Duo w B g v Q L g2 v2 Q2 L2) (R : NtRel 46 w w' B g v Q v' Q' L') : Duo w' B g v' Q' L' g2 v2 Q2 L2 :=
  ⟨R.at_, h.r.kept R.kept (fun k e e2 => h.far k (.inl e2) e), fun k e e2 => by
    rcases R.new k e with e3 | e3
    · exact h.far k e3 e2
    · have := (h.r.ltAll k e2).2; omega⟩
theorem Duo.right (h : Duo w B g v Q L g2 v2 Q2 L2) (R : NtRel 29 w w' B g2 v2 Q2 v2' Q2' L2') : Duo w' B g v Q L g2 v2' Q2' L2' :=
  ⟨h.l.kept R.kept (fun k e e2 => h.far k e (.inl e2)), R.at_, fun k e e2 => by
    rcases R.new k e2 with e3 | e3
    · exact h.far k e e3
    · have := (h.l.ltAll k e).2; omega⟩
theorem Duo.below (h : Duo w B g v Q L g2 v2 Q2 L2) (hb : Below w.heap.size w w') : Duo w' B g v Q L g2 v2 Q2 L2 := ⟨h.l.below hb, h.r.below hb, h.far⟩
end

/-! ### the law's alike -/
set_option maxHeartbeats 4000000 in
set_option maxRecDepth 100000 in
theorem alike_same (f t : Int) (a a2 : Option Addr) (n c c2 : Nat) (b : List UInt8) (w : World) (hb : b.length = n) (hn : n ≤ 1000000) (h1 : Bts w a b) (h2 : Bts w a2 b) :
    Calls Try.prog 14 #[.agg #[.int .i64 f, .int .i64 t, .slice a n c], .agg #[.int .i64 f, .int .i64 t, .slice a2 n c2]] w fun e w' => e = .returned (.bool true) ∧ Below w.heap.size w w' := by
  have bA := (Below.refl w.heap.size w).alloc (Nat.le_refl _) (.cells #[.int .i64 f, .int .i64 t, .slice a n c] 36)
  have bA2 := bA.alloc bA.size (.cells #[.int .i64 f, .int .i64 t, .slice a2 n c2] 36)
  have cB := Bytes_same a a2 n n c c2 b _ hb hb hn (h1.later bA2) (h2.later bA2)
  obtain ⟨x0, x1, x2, _⟩ := box_cells (box_alloc (heap_alloc_new w (.cells #[.int .i64 f, .int .i64 t, .slice a n c] 36)) (.cells #[.int .i64 f, .int .i64 t, .slice a2 n c2] 36))
  have G2 := heap_alloc_new (w.alloc (.cells #[.int .i64 f, .int .i64 t, .slice a n c] 36)) (.cells #[.int .i64 f, .int .i64 t, .slice a2 n c2] 36)
  rw [World.size_alloc] at G2
  obtain ⟨y0, y1, y2, _⟩ := box_cells G2
  have HB := Lib.hid bA2
  clear bA bA2 G2 h1 h2
  go_enter Try.func14, Try.ntmps14
  go_wp2_with (go_at_call 24; (with_reducible refine cB.mono ?_))
  rintro e W2 ⟨rfl, b2⟩
  have HB2 := Lib.hid (HB.out.trans (b2.mono HB.out.size))
  clear b2 cB
  go_wp2
  go_ret
  exact ⟨rfl, HB2.out⟩

/-! ### steps that came in -/
structure Sp where
  kind : Int
  la : Option Addr
  ln : Nat
  lc : Nat
  qs : List PkI
  K : Int
structure SpAt (w : World) (x : Addr) (i : Nat) (s : Sp) : Prop where
  c0 : w.cell? (x.add (i * 3)) = some (.int .i64 s.kind)
  c1 : w.cell? (x.add (i * 3 + 1)) = some (.slice s.la s.ln s.lc)
  c2 : w.cell? (x.add (i * 3 + 2)) = some (.int .i64 s.K)
  pk : PksIn w s.la s.ln s.qs
  nil : ∀ q ∈ s.qs, q.1.1 = none → q.1.2 = 0
  ln : s.ln ≤ maxLen
def SpsIn (w : World) (a : Option Addr) (len : Nat) (ss : List Sp) : Prop :=
  ss.length = len ∧ (ss = [] ∨ ∃ x, a = some x ∧ ∀ i (hi : i < ss.length), SpAt w x i (ss[i]'hi))
theorem PkAt.below {w w' : World} {x : Addr} {i : Nat} {q : PkI} (h : PkAt w x i q) (hb : Below w.heap.size w w') : PkAt w' x i q := by
  have f : ∀ {a : Addr} {u : Value}, w.cell? a = some u → w'.cell? a = some u := fun hc => (hb.cell (World.block_lt_of_cell? w _ hc)).trans hc
  exact ⟨f h.c0, f h.c1, f h.c2, h.bt.later hb⟩
theorem PksIn.below {w w' : World} {a : Option Addr} {n : Nat} {qs : List PkI} (h : PksIn w a n qs) (hb : Below w.heap.size w w') : PksIn w' a n qs :=
  ⟨h.1, h.2.imp id fun ⟨x, hx, h⟩ => ⟨x, hx, fun i hi => (h i hi).below hb⟩⟩
theorem SpsIn.at {w : World} {a : Option Addr} {len : Nat} {ss : List Sp} (h : SpsIn w a len ss) (i : Nat) (hi : i < ss.length) : ∃ x, a = some x ∧ SpAt w x i (ss[i]'hi) := by
  rcases h.2 with rfl | ⟨x, h1, h⟩
  · simp at hi
  · exact ⟨x, h1, h i hi⟩

end Go.Proofs.Ytenpoolminfofaa
