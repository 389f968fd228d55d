/-
  alike's Batch.
-/
import Derived.Test.YtggognmbjgkdfaaAlB
set_option linter.unusedVariables false
namespace Go.Proofs.Ytggognmbjgkdfaa
open Go.RowKit

def ptSum (p : Pt) : Nat := p.s.size + (p.d.length + strSum p.d)
def ptsSum (l : List Pt) : Nat := (l.map ptSum).sum
theorem ptsSum_take (l : List Pt) (j : Nat) (h : j < l.length) : ptsSum (l.take (j + 1)) = ptsSum (l.take j) + ptSum (l[j]'h) := by
  unfold ptsSum; rw [List.take_succ_eq_append_getElem h, List.map_append, List.sum_append]; simp
def baSum (b : Ba) : Nat := b.k.size + b.p.length + ptsSum b.p

/-- Sizes that memory can have. -/
structure PtFit (p : Pt) : Prop where
  s : p.s.size ≤ maxLen
  n : p.d.length ≤ maxLen
  d : ∀ x ∈ p.d, x.size ≤ maxLen
structure BaFit (b : Ba) : Prop where
  k : b.k.size ≤ maxLen
  n : b.p.length ≤ maxLen
  p : ∀ x ∈ b.p, PtFit x

theorem keep3 {w V W : World} {a1 a2 a3 : Addr} {u1 u2 u3 : Value} (h : Below w.heap.size w V ∧ V.cell? a1 = some u1 ∧ V.cell? a2 = some u2 ∧ V.cell? a3 = some u3) (hb : Below V.heap.size V W) :
    Below w.heap.size w W ∧ W.cell? a1 = some u1 ∧ W.cell? a2 = some u2 ∧ W.cell? a3 = some u3 :=
  ⟨h.1.trans (hb.mono h.1.size), cell_later hb h.2.1, cell_later hb h.2.2.1, cell_later hb h.2.2.2⟩
theorem keepP {w V W : World} {x : Addr} {i : Nat} {p : Pt} {b : Option Addr} {c : Nat} {g : Nat} {u v : Value} (h : Below w.heap.size w V ∧ V.cell? ⟨g, 1, none⟩ = some u ∧ PtAt V x i p b c) (hb : Below V.heap.size V W) :
    Below w.heap.size w W ∧ W.cell? ⟨g, 1, none⟩ = some u ∧ PtAt W x i p b c :=
  ⟨h.1.trans (hb.mono h.1.size), cell_later hb h.2.1, h.2.2.later hb⟩

set_option maxHeartbeats 4000000 in
set_option maxRecDepth 100000 in
theorem aBatch_any (b : Ba) (a : Option Addr) (c top : Nat) (w : World) (hf : BaFit b) (htop : top < 1099511627776) (h : PtsIn w a b.p) :
    Calls Try.prog 10 #[.agg #[.string b.k, .slice a b.p.length c], .int .i64 top] w (TotP top (baSum b) w) := by
  have HF := Lib.hid hf
  have f1 := hf.k
  have f2 := hf.n
  have f1' := f1
  have f2' := f2
  unfold maxLen at f1' f2'
  obtain ⟨k, ps⟩ := b
  simp only at h f1 f2 f1' f2' ⊢
  have HL0 := Lib.hid (show ps.length = ps.length from rfl)
  obtain ⟨n, hn⟩ : ∃ n, n = ps.length := ⟨_, rfl⟩
  rw [← hn] at f2 f2' ⊢
  have HN := Lib.hid hn
  have HP := Lib.hid h
  have gA := heap_alloc_new w (.cells #[.string k, .slice a n c] 24)
  have bA := (Below.refl w.heap.size w).alloc (Nat.le_refl _) (.cells #[.string k, .slice a n c] 24)
  have c0 := Sum_0 (w.heap.size + 1) 2 2 [k.size, n] ((w.alloc (.cells #[.string k, .slice a n c] 24)).alloc (.cells #[.int .i64 k.size, .int .i64 n] 3)) rfl (by omega) (fun j hj => by have := two_at (w := w.alloc (.cells #[.string k, .slice a n c] 24)) (m := k.size) (k := n) (t := 3) j hj; rwa [World.size_alloc] at this) (fun x hx => by simp at hx; rcases hx with rfl | rfl <;> (left; assumption))
  have HGA := Lib.hid gA
  have HBA := Lib.hid bA
  clear hn h hf gA bA HL0
  go_enter Try.func10, Try.ntmps10
  go_wp2_with (go_at_call 20; (with_reducible refine c0.mono ?_))
  rintro e W2 ⟨t0, rfl, h0, h1, b2⟩
  have HB2 := Lib.hid ((HBA.out.alloc (by simp) (.cells #[.int .i64 k.size, .int .i64 n] 3)).trans (b2.mono (by simp; omega)))
  have HG2 := Lib.hid (box_below (box_alloc HGA.out (.cells #[.int .i64 k.size, .int .i64 n] 3)) b2 (by simp; omega))
  have H1 := Lib.hid h1
  clear h1 b2 c0
  go_wp2
  go_loopw [5, 6] (fun v i wr => ∃ (j t : Nat), i = .int .i64 j ∧ v = .int .i64 t ∧ j ≤ n ∧ t ≤ 1099511627776 ∧ Hid (t ≤ top → t = k.size + n + ptsSum (ps.take j)) ∧ Below w.heap.size w wr ∧ wr.heap[w.heap.size]? = some (.cells #[.string k, .slice a n c] 24 (0, 0))) (fun _ i _ => n - (intOf i).toNat)
  case atStart => exact ⟨0, t0, rfl, rfl, Nat.zero_le _, h0, fun h => by have := H1.out (by omega); simpa [ptsSum] using this, HB2.out, HG2.out⟩
  case round =>
    obtain ⟨j, t, rfl, rfl, hj, ht, HT, hbw, hgw⟩ := hrel
    clear H1
    have x1 : wr.cell? ⟨w.heap.size, 1, none⟩ = some (.slice a n c) := by rw [cell_of_row _ _ _ _ _ _ hgw]; rfl
    by_cases hlt : j < n
    · by_cases hto : t ≤ top
      · have hlt2 : j < ps.length := by rw [← HN.out]; exact hlt
        obtain ⟨x, d, cd, rfl, hat0⟩ := HP.out j hlt2
        have hat := hat0.later hbw
        have HTK := Lib.hid (ptsSum_take ps j hlt2)
        have hpf := HF.out.p _ (List.getElem_mem hlt2)
        obtain ⟨p, hp⟩ : ∃ p, p = ps[j]'hlt2 := ⟨_, rfl⟩
        rw [← hp] at hat HTK hpf
        have q1 := hat.c0
        have q2 := hat.c2
        rw [fld x (j * 3) 2 (by decide)] at q2
        have hps := hpf.s
        have hps' := hps
        unfold maxLen at hps'
        have cT : Hid (∀ V, Below wr.heap.size wr V → Calls Try.prog 36 #[.slice d p.d.length cd, .int .i64 top] V (TotP top (p.d.length + strSum p.d) V)) := fun V hV => Total_any d p.d.length cd top p.d V rfl hpf.n htop hpf.d (hat.ds.later hV)
        have hti : (t : Int) ≤ (top : Int) := by omega
        have HBW := Lib.hid hbw
        have HGW := Lib.hid hgw
        have HAT := Lib.hid hat
        clear hp hbw hgw hat hat0
        have hji0 : (0 : Int) ≤ (j : Int) := by omega
        have hji1 : (j : Int) < (n : Int) := by omega
        have cS : Hid (∀ (V U : World) (t1 : Nat), t1 ≤ 1099511627776 → U.heap = (V.alloc (.cells #[.int .i64 p.s.size, .int .i64 t1] 3)).heap → Calls Try.prog 20 #[.int .i64 t, .slice (some ⟨V.heap.size, 0, none⟩) 2 2] U (SumPost t [p.s.size, t1] U)) := fun V U t1 h1 hU =>
          Sum_p V.heap.size 2 2 t [p.s.size, t1] U rfl (by omega) (fun j hj => by
            have := two_at (w := V) (m := p.s.size) (k := t1) (t := 3) j hj
            unfold World.cell? at this ⊢
            rw [hU]; exact this) ht (fun x hx => by simp at hx; rcases hx with rfl | rfl; exact .inl hps; exact .inr h1)
        go_wp2_with fail
        go_region_held3 (fun w' => Below wr.heap.size wr w' ∧ w'.cell? ⟨w.heap.size, 1, none⟩ = some (.slice (some x) n c) ∧ w'.cell? (x.add (j * 3)) = some (.string p.s) ∧ w'.cell? ⟨(x.add (j * 3)).block, (x.add (j * 3)).off + 2, none⟩ = some (.slice d p.d.length cd))
          (first
            | exact ⟨(Below.refl _ _).drew, x1, q1, q2⟩
            | exact keep3 hs1 ((Below.refl _ _).alloc (Nat.le_refl _) _)
            | exact hs2
            | exact hs1
            | go_keep)
          (first
            | (go_at_call 36; (with_reducible refine (cT.out _ (And.left (by assumption))).mono ?_); rintro e V1 ⟨t1, rfl, ht1, HT1, b3⟩; have hs1 := keep3 (by assumption) b3)
            | (go_at_call 20; (with_reducible refine (cS.out V1 _ t1 ht1 ?hvq).mono ?_); (case hvq => rfl); rintro e V2 ⟨t2, rfl, ht2, HT2, b4⟩; have hs2 := keep3 (by assumption) b4)
            | fail)
        all_goals (
          have HB5 := Lib.hid (HBW.out.trans (hs2.1.mono HBW.out.size))
          have HG5 := Lib.hid (box_below HGW.out hs2.1 (lt_of_block HGW.out))
          have HZ : Hid (t2 ≤ top → t2 = k.size + n + ptsSum (ps.take (j + 1))) := fun h => by
            have e1 := HT2 (by omega)
            simp only [List.sum_cons, List.sum_nil] at e1
            have e2 := HT1 (by omega)
            have e3 := HT.out hto
            rw [HTK.out]
            unfold ptSum
            omega
          clear hs1 hs2 b3 b4 HT1 HT2 x1 q1 q2 cT cS
          go_wp2
          go_roundw
          case rel => exact ⟨j + 1, t2, by go_num, rfl, by omega, ht2, HZ, HB5.out, HG5.out⟩
          case measure => simp [intOf]; omega)
      · have hti : ¬ (t : Int) ≤ (top : Int) := by omega
        have HBW := Lib.hid hbw
        clear hbw
        go_wp2
        go_ret
        exact ⟨t, rfl, ht, fun h => absurd h hto, HBW.out⟩
    · have HBW := Lib.hid hbw
      clear hbw
      go_wp2
      go_ret
      refine ⟨t, rfl, ht, fun h => ?_, HBW.out⟩
      have e := HT.out h
      have el := HN.out
      rw [List.take_of_length_le (by omega)] at e
      unfold baSum
      simp only
      omega

end Go.Proofs.Ytggognmbjgkdfaa
