/-
  What the laws on package net want: packets that a law writes out; the statements' awake.
-/
import Derived.Test.YtenpoolminfofaaNtH
import Derived.Lib.SlBytesConst
set_option linter.unusedVariables false
namespace Go.Proofs.Ytenpoolminfofaa
open Go.RowKit

/-- Bytes written out. -/
theorem lit_bts (W : World) (l : List UInt8) (cs : Array Value) (fr : Nat × Nat) (h : cs.toList = Lib.byteCells l) : Bts (W.alloc (.cells cs 5 fr)) (some ⟨W.heap.size, 0, none⟩) l := by
  refine .inr ⟨_, rfl, fun j hj => ?_⟩
  have e : (⟨W.heap.size, 0, none⟩ : Addr).add j = ⟨W.heap.size, j, none⟩ := by
    unfold Addr.add
    by_cases h0 : j = 0 <;> simp [h0]
  rw [e, cell_of_row _ _ _ _ _ _ (heap_alloc_new W _), ← Array.getElem?_toList, h]
  exact byteCells_at l j hj
theorem Bts.kept {S : Nat → Prop} {w w' : World} {a : Option Addr} {l : List UInt8} (h : Bts w a l) (hk : Kept S w w') (hs : ∀ x, a = some x → ¬ S x.block) : Bts w' a l := by
  rcases h with rfl | ⟨x, rfl, h⟩
  · exact .inl rfl
  · refine .inr ⟨x, rfl, fun j hj => ?_⟩
    have h1 := h j hj
    rw [hk.cell (World.block_lt_of_cell? w _ h1) (by rw [add_blk]; exact hs x rfl)]
    exact h1

theorem NtRel.low {t : TypeId} {w wr : World} {B g : Nat} {v v' : Value} {Q Q' : List (Value × Pk)} {L L' : List Pk} (h : NtRel t w wr B g v Q v' Q' L') (ha : NtAt t w B g v Q L) (hB : B ≤ w.heap.size) : Below B w wr :=
  h.kept.below hB (fun k hk => (ha.ltS k hk).1)
theorem NtAt.fresh {t : TypeId} {w : World} {B g : Nat} {v : Value} {Q : List (Value × Pk)} {L : List Pk} (h : NtAt t w B g v Q L) (k : Nat) (hk : w.heap.size ≤ k) : ¬ NtS g v k := fun e => by have := (h.ltS k e).2; omega

/-- One packet that is written out. -/
theorem pks_one {S : Nat → Prop} {W : World} {p : Nat} {f t : Int} {a : Option Addr} {n c : Nat} {b : List UInt8} {ty : TypeId} {fr : Nat × Nat} (hg : W.heap[p]? = some (.cells #[.int .i64 f, .int .i64 t, .slice a n c] ty fr)) (hn : b.length = n) (hb : Bts W a b)
    (hp : ¬ S p) (ha : ∀ x, a = some x → ¬ S x.block) : ∀ wx, Kept S W wx → PksIn wx (some ⟨p, 0, none⟩) 1 [((a, c), ⟨f, t, b⟩)] := by
  intro wx hk
  subst hn
  have hg2 := (hk.block p (Array.getElem?_eq_some_iff.1 hg).1 hp).trans hg
  have hc : ∀ i, wx.cell? ((⟨p, 0, none⟩ : Addr).add i) = (#[Value.int .i64 f, .int .i64 t, .slice a b.length c])[i]? := fun i => by
    have e : (⟨p, 0, none⟩ : Addr).add i = ⟨p, i, none⟩ := by unfold Addr.add; split <;> simp_all
    rw [e, cell_of_row _ _ _ _ _ _ hg2]
  refine ⟨rfl, .inr ⟨_, rfl, fun i hi => ?_⟩⟩
  obtain rfl : i = 0 := by simp at hi; omega
  exact ⟨hc 0, hc 1, hc 2, hb.kept hk ha⟩
theorem pks_two {S : Nat → Prop} {W : World} {p : Nat} {f t f2 t2 : Int} {a a2 : Option Addr} {n c n2 c2 : Nat} {b b2 : List UInt8} {ty : TypeId} {fr : Nat × Nat} (hg : W.heap[p]? = some (.cells #[.int .i64 f, .int .i64 t, .slice a n c, .int .i64 f2, .int .i64 t2, .slice a2 n2 c2] ty fr)) (hn : b.length = n) (hn2 : b2.length = n2) (hb : Bts W a b) (hb2 : Bts W a2 b2)
    (hp : ¬ S p) (ha : ∀ x, a = some x → ¬ S x.block) (ha2 : ∀ x, a2 = some x → ¬ S x.block) : ∀ wx, Kept S W wx → PksIn wx (some ⟨p, 0, none⟩) 2 [((a, c), ⟨f, t, b⟩), ((a2, c2), ⟨f2, t2, b2⟩)] := by
  intro wx hk
  subst hn hn2
  have hg2 := (hk.block p (Array.getElem?_eq_some_iff.1 hg).1 hp).trans hg
  have hc : ∀ i, wx.cell? ((⟨p, 0, none⟩ : Addr).add i) = (#[Value.int .i64 f, .int .i64 t, .slice a b.length c, .int .i64 f2, .int .i64 t2, .slice a2 b2.length c2])[i]? := fun i => by
    have e : (⟨p, 0, none⟩ : Addr).add i = ⟨p, i, none⟩ := by unfold Addr.add; split <;> simp_all
    rw [e, cell_of_row _ _ _ _ _ _ hg2]
  refine ⟨rfl, .inr ⟨_, rfl, fun i hi => ?_⟩⟩
  rcases i with _ | _ | i
  · exact ⟨hc 0, hc 1, hc 2, hb.kept hk ha⟩
  · exact ⟨hc 3, hc 4, hc 5, hb2.kept hk ha2⟩
  · simp at hi; omega

theorem nSend' (w : World) (B g : Nat) (v : Value) (Q : List (Value × Pk)) (L : List Pk) (a : Option Addr) (n c : Nat) (qs : List PkI) (h : NtAt 46 w B g v Q L) (hB : B ≤ w.heap.size) (hL : L.length ≤ 200) (hn : n ≤ 1000000) (hin : ∀ wx, Kept (NtS g v) w wx → PksIn wx a n qs)
    (L' : List Pk) (r : Int) (h1 : sendL L (plain qs) = L') (h2 : (L'.length : Int) - (L.length : Int) = r) :
    Calls Try.prog 10 #[.pointer (some ⟨g, 0, none⟩), .slice a n c] w (ResPost 46 w B g v Q (.int .i64 r) L') := by
  subst h1 h2
  exact nSend w B g v Q L a n c qs h hB hL hn hin

def DelivP (t : TypeId) (w : World) (B g : Nat) (v : Value) (Q : List (Value × Pk)) (pf pt : Int) (pb : List UInt8) (pn : Nat) (ok : Bool) (L' : List Pk) (e : Ending) (w' : World) : Prop :=
  ∃ a c v' Q', e = .returned (.tuple #[.agg #[.int .i64 pf, .int .i64 pt, .slice a pn c], .bool ok]) ∧ w'.ownsRow w.heap.size 5 1 (.slice a pn c) pn (Lib.byteCells pb) ∧
    (∀ k, (Value.slice a pn c).ownBlock = some k → ¬ NtS g v' k) ∧ NtRel t w w' B g v Q v' Q' L'
theorem nDeliver' (w : World) (B g : Nat) (v : Value) (Q : List (Value × Pk)) (L : List Pk) (k : Int) (h : NtAt 46 w B g v Q L) (hB : B ≤ w.heap.size) (hL : L.length ≤ 100000) (hb : ∀ p ∈ L, p.b.length ≤ 131072)
    (pf pt : Int) (pb : List UInt8) (pn : Nat) (ok : Bool) (L' : List Pk) (h1 : atL L k = (⟨pf, pt, pb⟩, ok)) (h2 : pb.length = pn) (h3 : dropL L k = L') :
    Calls Try.prog 12 #[.pointer (some ⟨g, 0, none⟩), .int .i64 k] w (DelivP 46 w B g v Q pf pt pb pn ok L') := by
  subst h2 h3
  have := nDeliver w B g v Q L k h hB hL hb
  rw [h1] at this
  exact this
def PeekP (pf pt : Int) (pb : List UInt8) (pn : Nat) (ok : Bool) (w : World) (e : Ending) (w' : World) : Prop :=
  ∃ a c, e = .returned (.tuple #[.agg #[.int .i64 pf, .int .i64 pt, .slice a pn c], .bool ok]) ∧ w'.ownsRow w.heap.size 5 1 (.slice a pn c) pn (Lib.byteCells pb) ∧ Below w.heap.size w w'
theorem nPeek' (w : World) (B g : Nat) (v : Value) (Q : List (Value × Pk)) (L : List Pk) (k : Int) (h : NtAt 46 w B g v Q L) (hb : ∀ p ∈ L, p.b.length ≤ 131072)
    (pf pt : Int) (pb : List UInt8) (pn : Nat) (ok : Bool) (h1 : atL L k = (⟨pf, pt, pb⟩, ok)) (h2 : pb.length = pn) :
    Calls Try.prog 20 #[.pointer (some ⟨g, 0, none⟩), .int .i64 k] w (PeekP pf pt pb pn ok w) := by
  subst h2
  have := nPeek w B g v Q L k h hb
  rw [h1] at this
  exact this

def AwPost (w : World) (e : Ending) (w' : World) : Prop := e = .returned (.bool true) ∧ Below w.heap.size w w'

def pA : Pk := ⟨1, 2, [97]⟩
def pB : Pk := ⟨2, 1, [98]⟩
theorem awS : sendL [] [pA, pB] = [pA, pB] := rfl
set_option maxHeartbeats 8000000 in
set_option maxRecDepth 100000 in
theorem awake6 (w : World) : Calls Try.prog 8 #[] w (AwPost w) := by
  have cN := nNew w
  have kc := fun (w : World) (C : Array Value) (n c : Nat) => Lib.run_convert_bytes_const (P := Try.prog) w 34 5 C n c Try.underlying34 Try.underlying5
  have kc2 : ∀ (W : World) (o : Obj) (C : Array Value) (n c : Nat), (convert 34 34 (.slice (some ⟨W.heap.size + 1, 0, none⟩) n c)).run Try.prog ((W.alloc o).alloc (.cells C 5)) = .ok (.slice (some ⟨W.heap.size + 1, 0, none⟩) n c) ((W.alloc o).alloc (.cells C 5 (C.size, C.size + 1))) := fun W o C n c => by
    have := kc (W.alloc o) C n c
    rw [World.size_alloc] at this
    exact this
  go_enter Try.func8, Try.ntmps8
  go_wp2_with (go_at_call 9; (with_reducible refine cN.mono ?_))
  rintro e W1 ⟨g, rfl, h1, b1⟩
  have bA := (Below.refl W1.heap.size W1).alloc (Nat.le_refl _) (.cells #[.int .u8 97] 5 (1, 2))
  have bA2 := bA.alloc bA.size (.cells #[.int .u8 98] 5 (1, 2))
  have bA3 := bA2.alloc bA2.size (.cells #[.int .i64 1, .int .i64 2, .slice (some ⟨W1.heap.size, 0, none⟩) 1 1, .int .i64 2, .int .i64 1, .slice (some ⟨W1.heap.size + 1, 0, none⟩) 1 1] 36)
  have gP := heap_alloc_new ((W1.alloc (.cells #[.int .u8 97] 5 (1, 2))).alloc (.cells #[.int .u8 98] 5 (1, 2))) (.cells #[.int .i64 1, .int .i64 2, .slice (some ⟨W1.heap.size, 0, none⟩) 1 1, .int .i64 2, .int .i64 1, .slice (some ⟨W1.heap.size + 1, 0, none⟩) 1 1] 36)
  have l1 := ((lit_bts W1 [97] #[.int .u8 97] (1, 2) rfl).later (((Below.refl _ _).alloc (Nat.le_refl _) (.cells #[.int .u8 98] 5 (1, 2))))).later (((Below.refl _ _).alloc (Nat.le_refl _) (.cells #[.int .i64 1, .int .i64 2, .slice (some ⟨W1.heap.size, 0, none⟩) 1 1, .int .i64 2, .int .i64 1, .slice (some ⟨W1.heap.size + 1, 0, none⟩) 1 1] 36)))
  have l2 := (lit_bts (W1.alloc (.cells #[.int .u8 97] 5 (1, 2))) [98] #[.int .u8 98] (1, 2) rfl).later (((Below.refl _ _).alloc (Nat.le_refl _) (.cells #[.int .i64 1, .int .i64 2, .slice (some ⟨W1.heap.size, 0, none⟩) 1 1, .int .i64 2, .int .i64 1, .slice (some ⟨W1.heap.size + 1, 0, none⟩) 1 1] 36)))
  rw [World.size_alloc] at gP l2
  rw [World.size_alloc] at gP
  have hS := h1.fresh
  have cS := nSend' _ w.heap.size g _ _ _ (some ⟨W1.heap.size + 1 + 1, 0, none⟩) 2 2 _ (h1.below bA3) (Nat.le_trans b1.size bA3.size) (by decide) (by omega)
    (pks_two gP rfl rfl l1 l2 (hS _ (by omega)) (fun x e => by injection e with e; subst e; exact hS _ (Nat.le_refl _)) (fun x e => by injection e with e; subst e; exact hS _ (Nat.le_succ _))) [pA, pB] 2 awS rfl
  have HB1 := Lib.hid (b1.trans (bA3.mono b1.size))
  have H1 := Lib.hid (h1.below bA3)
  clear b1 h1 cN bA bA2 bA3 gP l1 l2 hS
  go_wp2_with (go_at_call 10; (with_reducible refine cS.mono ?_))
  rintro e W2 ⟨v2, Q2, rfl, R2⟩
  have b2 : Below w.heap.size w W2 := HB1.out.trans (R2.low H1.out HB1.out.size)
  have h2 : NtAt 46 W2 w.heap.size g v2 Q2 [pA, pB] := R2.at_
  have cD := nDeliver' W2 w.heap.size g v2 Q2 [pA, pB] 1 h2 b2.size (by decide) (by decide) 2 1 [98] 1 true [pA] rfl rfl rfl
  have HB2 := Lib.hid b2
  have H2 := Lib.hid h2
  clear R2 b2 h2 cS
  go_wp2_with (go_at_call 12; (with_reducible refine cD.mono ?_))
  rintro e W3 ⟨a3, c3, v3, Q3, rfl, o3, n3, R3⟩
  have bA := (Below.refl W3.heap.size W3).alloc (Nat.le_refl _) (.cells #[.int .i64 2, .int .i64 1, .slice a3 1 c3] 36)
  have gA := heap_alloc_new W3 (.cells #[.int .i64 2, .int .i64 1, .slice a3 1 c3] 36)
  have b3 : Below w.heap.size w W3 := HB2.out.trans (R3.low H2.out HB2.out.size)
  have h3 : NtAt 46 (W3.alloc (.cells #[.int .i64 2, .int .i64 1, .slice a3 1 c3] 36)) w.heap.size g v3 Q3 [pA] := R3.at_.below bA
  have hf3 := R3.at_.fresh W3.heap.size (Nat.le_refl _)
  have cD2 := nDeliver' _ w.heap.size g v3 Q3 [pA] 0 h3 (Nat.le_trans b3.size bA.size) (by decide) (by decide) 1 2 [97] 1 true [] rfl rfl rfl
  have HB3 := Lib.hid (b3.trans (bA.mono b3.size))
  have H3 := Lib.hid h3
  have HO3 := Lib.hid (Kept.own o3 (Kept.of_below (S := fun _ => False) bA) (fun _ _ h => h))
  have HN3 := Lib.hid n3
  have HGA := Lib.hid gA
  clear R3 b3 h3 cD o3 n3 bA gA
  go_wp2_with (go_at_call 12; (with_reducible refine cD2.mono ?_))
  rintro e W4 ⟨a4, c4, v4, Q4, rfl, o4, n4, R4⟩
  have G4 := (R4.kept.block W3.heap.size (by simp) hf3).trans HGA.out
  have q3 := Kept.own HO3.out R4.kept (fun i e e2 => HN3.out i e e2)
  have bB := (Below.refl W4.heap.size W4).alloc (Nat.le_refl _) (.cells #[.int .i64 1, .int .i64 2, .slice a4 1 c4] 36)
  obtain ⟨_, _, x2, _⟩ := box_cells (box_alloc G4 (.cells #[.int .i64 1, .int .i64 2, .slice a4 1 c4] 36))
  obtain ⟨_, _, y2, _⟩ := box_cells (heap_alloc_new W4 (.cells #[.int .i64 1, .int .i64 2, .slice a4 1 c4] 36))
  have k3 := conv_bts _ a3 1 c3 [98] rfl ((Bts.own q3).later bB)
  have k4 := conv_bts _ a4 1 c4 [97] rfl ((Bts.own o4).later bB)
  have b4 : Below w.heap.size w W4 := HB3.out.trans (R4.low H3.out HB3.out.size)
  have cL := nLen _ _ _ _ _ _ (R4.at_.below bB)
  have HB4 := Lib.hid (b4.trans (bB.mono b4.size))
  clear R4 G4 q3 bB b4 o4 n4 hf3 cD2
  go_wp2_with (go_at_call 22; (with_reducible refine cL.mono ?_); rintro e w' ⟨rfl, hw'⟩; rw [hw'])
  go_ret
  exact ⟨rfl, HB4.out⟩

end Go.Proofs.Ytenpoolminfofaa
