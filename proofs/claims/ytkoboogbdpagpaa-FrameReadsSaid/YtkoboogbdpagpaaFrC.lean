/-
  The reference's Put and Next.
-/
import Derived.Test.YtkoboogbdpagpaaFrB
set_option linter.unusedVariables false
namespace Go.Proofs.Ytkoboogbdpagpaa
open Go.RowKit

theorem le4_len (v : Nat) : (le4 v).length = 4 := rfl
/-- A frame. -/
def frm (p : List UInt8) : List UInt8 := le4 p.length ++ p ++ le4 (crc (le4 p.length ++ p))
theorem frm_len (p : List UInt8) : (frm p).length = p.length + 8 := by simp [frm, le4_len]; omega

/-- What a call leaves that answers bytes and a bool. -/
def Own2Post (B : Nat) (l : List UInt8) (b : Bool) (w : World) (e : Ending) (w' : World) : Prop :=
  ∃ a cap, e = .returned (.tuple #[.slice a l.length cap, .bool b]) ∧ w'.ownsRow B 5 1 (.slice a l.length cap) l.length (Lib.byteCells l) ∧ Below B w w'

theorem own_nil (w : World) (B : Nat) : w.ownsRow B 5 1 (.slice none 0 0) 0 (Lib.byteCells []) := World.ownsRow_nil _ _ _ _

set_option maxHeartbeats 2000000 in
set_option maxRecDepth 100000 in
theorem rPut_no (a : Option Addr) (n cap : Nat) (w : World) (hn : 131072 < n) :
    Calls Try.prog 11 #[.slice a n cap] w (Own2Post w.heap.size [] false w) := by
  go_enter Try.func11, Try.ntmps11
  go_wp2
  go_ret2
  exact ⟨none, 0, rfl, own_nil _ _, Below.refl _ _⟩

theorem own_kept8 {w w' : World} {B n cap : Nat} {a : Option Addr} {l : List UInt8} (h : w.ownsRow B 5 1 (.slice a n cap) n (Lib.byteCells l)) (hb : Below w.heap.size w w') : w'.ownsRow B 5 1 (.slice a n cap) n (Lib.byteCells l) :=
  h.kept (row := none) ⟨hb.os, hb.tape, hb.output, hb.size, fun j hj _ => hb.block j hj⟩ (by cases a <;> simp [Value.ownBlock])

theorem own_none {w : World} {B : Nat} {e : TypeId} {k n c : Nat} {a : Option Addr} {xs : List Value} (h : w.ownsRow B e k (.slice a n c) n xs) : a = none → c = 0 := by
  intro ha
  subst ha
  rcases h.2 with ⟨h0, _⟩ | ⟨g, cap', cur, h0, _⟩
  · injection h0
  · cases h0

set_option maxHeartbeats 2000000 in
set_option maxRecDepth 100000 in
theorem rPut_yes (a : Option Addr) (n cap : Nat) (l : List UInt8) (w : World) (hl : l.length = n) (hn : n ≤ 131072) (hb : Bts w a l) (hA : a = none → cap = 0) :
    Calls Try.prog 11 #[.slice a n cap] w (Own2Post w.heap.size (frm l) true w) := by
  obtain ⟨i0, hi, hz0, hz1, hz2⟩ := info_parts infoByte8
  have c1 := fun wx => four_any n (by omega) wx
  have hfl : frm l = le4 n ++ l ++ le4 (crc (le4 n ++ l)) := by unfold frm; rw [hl]
  have hfn : (frm l).length = 4 + n + 4 := by rw [frm_len, hl]; omega
  have hcl := crc_lt (le4 n ++ l)
  have H1 := Lib.hid hfl
  have H2 := Lib.hid hfn
  clear hfl hfn
  go_enter Try.func11, Try.ntmps11
  go_wp2_with (go_at_call 23; (with_reducible refine (c1 _).mono ?_))
  rintro e W1 ⟨a1, k1, rfl, o1, b1⟩
  have hB1 := hb.later b1
  clear c1
  go_wp2_with (at_builtin; refine wpList_append_bts _ rfl _ _ 22 rfl w.heap.size 5 i0 Try.underlying22 hi hz0 hz1 hz2 _ _ _ rfl o1 _ _ _ l rfl hl hB1 hA (by omega) b1.size ?_)
  intro v2 W2 o2 hg2
  obtain ⟨a2, k2, rfl⟩ := own_slice o2
  have b2 := below_grown b1 (Nat.le_refl _) o1 hg2
  rw [byteCells_app] at o2
  have q2 := Bts.own o2
  have hl2 : (le4 n ++ l).length = 4 + n := by rw [List.length_append, le4_len, hl]
  have c2 := rSum_any a2 (4 + n) k2 (le4 n ++ l) W2 hl2 (by omega) q2
  obtain ⟨x, hx⟩ : ∃ x, x = crc (le4 n ++ l) := ⟨_, rfl⟩
  rw [← hx] at c2 hcl
  have HX := Lib.hid hx
  have c3 := four_any x hcl W2
  clear o1 hg2 b1 hB1 q2 hl2 hx hcl
  go_wp2_with (first | (go_at_call 14; (with_reducible refine c2.mono ?_); rintro e W3 ⟨rfl, rfl⟩) | (go_at_call 23; (with_reducible refine c3.mono ?_)))
  rintro e W3 ⟨a3, k3, rfl, o3, b3⟩
  have hb3 : Below w.heap.size w W3 := b2.trans (b3.mono b2.size)
  have o2b := own_kept8 o2 b3
  have q3 := Bts.own o3
  have hA3 := own_none o3
  clear o2 o3 b2 b3 c2 c3
  go_wp2_with (at_builtin; refine wpList_append_bts _ rfl _ _ 22 rfl w.heap.size 5 i0 Try.underlying22 hi hz0 hz1 hz2 _ _ _ rfl o2b _ _ _ (le4 x) rfl rfl q3 hA3 (by omega) hb3.size ?_)
  intro v4 W4 o4 hg4
  obtain ⟨a4, k4, rfl⟩ := own_slice o4
  have b4 := below_grown hb3 (Nat.le_refl _) o2b hg4
  rw [byteCells_app] at o4
  have O4 := Lib.hid o4
  clear o2b hg4 hb3 o4 q3 hA3
  go_wp2
  go_ret2
  have o5 := O4.out
  have e1 := H1.out
  rw [HX.out, ← e1] at o5
  rw [← H2.out] at o5
  exact ⟨a4, k4, by rw [H2.out]; rfl, o5, b4⟩

/-- The number that bytes begin with. -/
def wdL (l : List UInt8) : Nat := wd (l.getD 0 0) (l.getD 1 0) (l.getD 2 0) (l.getD 3 0)
theorem wdL_lt (l : List UInt8) : wdL l < 4294967296 := by
  have h0 := UInt8.toNat_lt (l.getD 0 0)
  have h1 := UInt8.toNat_lt (l.getD 1 0)
  have h2 := UInt8.toNat_lt (l.getD 2 0)
  have h3 := UInt8.toNat_lt (l.getD 3 0)
  unfold wdL wd
  omega

theorem word_l (x : Addr) (n cap : Nat) (l : List UInt8) (w : World) (hl : l.length = n) (hn : 4 ≤ n) (h : Bts w (some x) l) :
    Calls Try.prog 27 #[.slice (some x) n cap] w fun e w' => e = .returned (.int .u32 (wdL l)) ∧ ∃ q, w' = w.drewN q := by
  have hc : ∀ j (hj : j < l.length), w.cell? (x.add j) = some (.int .u8 (l.getD j 0).toNat) := fun j hj => by
    obtain ⟨y, hy, hc⟩ := h.at j hj
    injection hy with hy
    subst hy
    rw [hc]
    simp [List.getD, List.getElem?_eq_getElem hj]
  exact word_any x n cap _ _ _ _ w hn (hc 0 (by omega)) (hc 1 (by omega)) (hc 2 (by omega)) (hc 3 (by omega))

theorem quiet_left {P : Program} {f : FuncId} {args : Array Value} {w : World} {n : Nat} {v : Value}
    (h : Calls P f args (w.drewN n) fun e w' => e = .returned v ∧ w.drewN n = w') : Calls P f args (w.drewN n) fun e w'' => e = .returned v ∧ ∃ m, w'' = w.drewN m :=
  h.mono fun _ _ ⟨he, hm⟩ => ⟨he, n, hm.symm⟩

/-- What bytes are read as. -/
def nextF (b : List UInt8) : List UInt8 × Nat × Nat :=
  if b.length < 4 then ([], 0, 2)
  else if 131072 < wdL b then ([], 0, 3)
  else if b.length < wdL b + 8 then ([], 0, 2)
  else if crc (b.take (wdL b + 4)) ≠ wdL (b.drop (wdL b + 4)) then ([], 0, 3)
  else ((b.drop 4).take (wdL b), wdL b + 8, 1)

/-- What a call leaves that answers bytes and two numbers. -/
def Own3Post (B : Nat) (x : List UInt8 × Nat × Nat) (w : World) (e : Ending) (w' : World) : Prop :=
  ∃ a cap, e = .returned (.tuple #[.slice a x.1.length cap, .int .i64 x.2.1, .int .i64 x.2.2]) ∧ w'.ownsRow B 5 1 (.slice a x.1.length cap) x.1.length (Lib.byteCells x.1) ∧ Below B w w'

end Go.Proofs.Ytkoboogbdpagpaa
