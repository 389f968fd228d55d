/-
  The statements' awake, over package disk.
-/
import Derived.Test.YtbolminblofhgaaDsM
import Derived.Lib.SlBytesConst
set_option linter.unusedVariables false
namespace Go.Proofs.Ytbolminblofhgaa
open Go.RowKit

/-- Bytes written out. -/
theorem lit_bts (W : World) (l : List UInt8) (cs : Array Value) (fr : Nat × Nat) (h : cs.toList = Lib.byteCells l) : Bts (W.alloc (.cells cs 5 fr)) (some ⟨W.heap.size, 0, none⟩) l := by
  refine .inr ⟨_, rfl, fun j hj => ?_⟩
  have e : (⟨W.heap.size, 0, none⟩ : Addr).add j = ⟨W.heap.size, j, none⟩ := by
    unfold Addr.add
    by_cases h0 : j = 0 <;> simp [h0]
  rw [e, cell_of_row _ _ _ _ _ _ (heap_alloc_new W _), ← Array.getElem?_toList, h]
  exact byteCells_at l j hj
theorem ImR.low {w : World} {B B' g : Nat} {mv : Value} {Q : List (Value × RF)} {u : Int} {C : CD} (h : ImR w B g mv Q u C) (hb : B' ≤ B) : ImR w B' g mv Q u C :=
  ⟨Nat.le_trans hb h.1, h.2.1, h.2.2.1, by
    rcases h.2.2.2.1 with h | ⟨b, e, hB, ho⟩
    · exact .inl h
    · exact .inr ⟨b, e, Nat.le_trans hb hB, ho⟩, fun q hq => own_low (h.2.2.2.2.1 q hq) hb, h.2.2.2.2.2⟩
theorem ImR.new {w : World} {B g : Nat} {mv : Value} {Q : List (Value × RF)} {u : Int} {C : CD} (h : ImR w B g mv Q u C) : ¬ ImS g mv Q w.heap.size := fun e => by have := (h.ltS _ e).2; omega

def aw0 : CD := newC 100
def aw1 : CD := ⟨100, [⟨⟨#[97]⟩, [97, 98, 99], 0⟩], 1, false, 0⟩
def aw2 : CD := ⟨100, [⟨⟨#[97]⟩, [97, 98, 99], 3⟩], 2, false, 0⟩
def aw3 : CD := ⟨100, [⟨⟨#[97]⟩, [97, 98, 99, 100, 101], 3⟩], 3, false, 0⟩
theorem badA : badN ⟨#[97]⟩ = false := by decide
theorem getA (b : List UInt8) (s : Nat) : getL ⟨#[97]⟩ [⟨⟨#[97]⟩, b, s⟩] = some ⟨⟨#[97]⟩, b, s⟩ := by simp [getL]
theorem putA (b c : List UInt8) (s t : Nat) : putL ⟨⟨#[97]⟩, b, s⟩ [⟨⟨#[97]⟩, c, t⟩] = [⟨⟨#[97]⟩, b, s⟩] := by simp [putL, delL, insL]
theorem awE1 : resC aw0 (appL 100 ⟨#[97]⟩ [97, 98, 99] []) = (0, aw1) := by
  rw [resC_on rfl]
  unfold appL
  rw [badA]
  rfl
theorem awE2 : resC aw1 (syncL ⟨#[97]⟩ aw1.L) = (0, aw2) := by
  rw [resC_on rfl]
  unfold syncL
  rw [show aw1.L = [⟨⟨#[97]⟩, [97, 98, 99], 0⟩] from rfl, getA]
  simp only [putA]
  rfl
theorem awE3 : resC aw2 (appL 100 ⟨#[97]⟩ [100, 101] aw2.L) = (0, aw3) := by
  rw [resC_on rfl]
  unfold appL
  rw [badA, show aw2.L = [⟨⟨#[97]⟩, [97, 98, 99], 3⟩] from rfl, getA]
  simp only [putA]
  rfl
theorem awE4 : crashL [1] aw3.L = [⟨⟨#[97]⟩, [97, 98, 99, 100], 4⟩] := by rfl
theorem awE5 : crashL [] aw3.L = [⟨⟨#[97]⟩, [97, 98, 99], 3⟩] := by rfl
theorem awE6 (b : List UInt8) (s : Nat) : rdL ⟨#[97]⟩ [⟨⟨#[97]⟩, b, s⟩] = (b, 0) := by unfold rdL; rw [getA]

theorem inv1 {room n : Nat} {b : List UInt8} {s : Nat} (h1 : room ≤ 8388608) (h2 : b.length ≤ room) (h3 : s ≤ b.length) : Inv ⟨room, [⟨⟨#[97]⟩, b, s⟩], n, false, 0⟩ :=
  ⟨h1, by simpa [tot] using h2, by simp, fun f hf => by simp at hf; subst hf; exact h3, fun f hf => by simp at hf; subst hf; show (1 : Nat) ≤ 100; omega, by show (-9223372036854775808 : Int) ≤ 0; omega, by show (0 : Int) ≤ 9223372036854775807; omega⟩

def AwPost (w : World) (e : Ending) (w' : World) : Prop := e = .returned (.bool true) ∧ Below w.heap.size w w'

set_option maxHeartbeats 4000000 in
set_option maxRecDepth 100000 in
theorem awake5 (w : World) : Calls Try.prog 10 #[] w (AwPost w) := by
  have cN : Calls Try.prog 11 #[.int .i64 100] w fun e w' => e = .returned (.tuple #[.pointer (some ⟨w.heap.size, 0, none⟩), .int .i64 0]) ∧ w' = w.alloc (.cells (stC (newC 100) 0 (.map none)) 62) := dNew w 100 (by omega)
  have kc := fun (w : World) (C : Array Value) (n c : Nat) => Lib.run_convert_bytes_const (P := Try.prog) w 39 5 C n c Try.underlying39 Try.underlying5
  go_enter Try.func10, Try.ntmps10
  go_wp2_with (go_at_call 11; (with_reducible refine cN.mono ?_))
  rintro e W1 ⟨rfl, hW1⟩
  have h1 : ImAt W1 w.heap.size w.heap.size (.map none) [] aw0 := by rw [hW1]; exact newAt w w.heap.size 100 (Nat.le_refl _)
  have b1 : Below w.heap.size w W1 := by rw [hW1]; exact (Below.refl _ _).alloc (Nat.le_refl _) _
  clear hW1 cN
  have bb1 := (Below.refl W1.heap.size W1).alloc (Nat.le_refl _) (.cells #[.int .u8 97, .int .u8 98, .int .u8 99] 5 (3, 4))
  have h1a := h1.below bb1
  have cA := dAppend (W1.alloc (.cells #[.int .u8 97, .int .u8 98, .int .u8 99] 5 (3, 4))) w.heap.size w.heap.size (.map none) [] aw0 ⟨#[97]⟩ (some ⟨W1.heap.size, 0, none⟩) 3 3 [97, 98, 99] h1a (newC_inv 100 (by omega)) (by decide) (by decide) rfl (by omega)
    (lit_bts W1 [97, 98, 99] _ (3, 4) rfl) (fun e => by cases e) (Nat.le_trans b1.size bb1.size) (fun x hx => by injection hx with hx; subst hx; exact h1.new)
  rw [show resC aw0 (appL aw0.room ⟨#[97]⟩ [97, 98, 99] aw0.L) = (0, aw1) from awE1] at cA
  have z1 := b1.size
  have hb1 := Lib.hid b1
  clear h1 h1a bb1 b1
  go_wp2_with (go_at_call 16; (with_reducible refine cA.mono ?_))
  rintro e W2 ⟨mv2, Q2, rfl, h2, k2, n2⟩
  have b2 := Kept.below k2 (B := w.heap.size) (by simp; omega) (fun k hk => by
    rcases hk with e | e | ⟨q, hq, e⟩
    · omega
    · cases e
    · cases hq)
  have b2 : Below w.heap.size w W2 := (hb1.out.trans ((Below.refl w.heap.size W1).alloc z1 _)).trans b2
  have cS := dSync W2 w.heap.size w.heap.size mv2 Q2 aw1 ⟨#[97]⟩ h2 (inv1 (by decide) (by decide) (by decide)) (by decide) (by decide) b2.size
  rw [awE2] at cS
  have hs2 := Lib.hid (fun k hk => (h2.ltS k hk).1)
  have hb2 := Lib.hid b2
  clear cA h2 k2 n2 b2
  go_wp2_with (go_at_call 17; (with_reducible refine cS.mono ?_))
  rintro e W3 ⟨mv3, Q3, rfl, h3, k3, n3⟩
  have b3 : Below w.heap.size w W3 := hb2.out.trans (k3.below hb2.out.size hs2.out)
  clear cS k3 n3
  have bb3 := (Below.refl W3.heap.size W3).alloc (Nat.le_refl _) (.cells #[.int .u8 100, .int .u8 101] 5 (2, 3))
  have cA := dAppend (W3.alloc (.cells #[.int .u8 100, .int .u8 101] 5 (2, 3))) w.heap.size w.heap.size mv3 Q3 aw2 ⟨#[97]⟩ (some ⟨W3.heap.size, 0, none⟩) 2 2 [100, 101] (h3.below bb3) (inv1 (by decide) (by decide) (by decide)) (by decide) (by decide) rfl (by omega)
    (lit_bts W3 [100, 101] _ (2, 3) rfl) (fun e => by cases e) (Nat.le_trans b3.size bb3.size) (fun x hx => by injection hx with hx; subst hx; exact h3.new)
  rw [show resC aw2 (appL aw2.room ⟨#[97]⟩ [100, 101] aw2.L) = (0, aw3) from awE3] at cA
  have hs3 := Lib.hid (fun k hk => (h3.ltS k hk).1)
  have z3 := b3.size
  have hb3 := Lib.hid b3
  clear h3 b3 bb3
  go_wp2_with (go_at_call 16; (with_reducible refine cA.mono ?_))
  rintro e W4 ⟨mv4, Q4, rfl, h4, k4, n4⟩
  have b4 : Below w.heap.size w W4 := (hb3.out.trans ((Below.refl w.heap.size W3).alloc z3 _)).trans (k4.below (by simp; omega) hs3.out)
  clear cA k4 n4
  have bb4 := (Below.refl W4.heap.size W4).alloc (Nat.le_refl _) (.cells #[.int .i64 1] 3)
  have hp4 : Its (W4.alloc (.cells #[.int .i64 1] 3)) (some ⟨W4.heap.size, 0, none⟩) [1] := .inr ⟨_, rfl, fun j hj => by
    have e : j = 0 := by simp at hj; omega
    subst e
    rw [show (⟨W4.heap.size, 0, none⟩ : Addr).add 0 = ⟨W4.heap.size, 0, none⟩ by unfold Addr.add; simp, cell_of_row _ _ _ _ _ _ (heap_alloc_new W4 _)]; rfl⟩
  have cC := dCrash (W4.alloc (.cells #[.int .i64 1] 3)) w.heap.size w.heap.size mv4 Q4 aw3 (some ⟨W4.heap.size, 0, none⟩) 1 1 [1] (h4.below bb4) (inv1 (by decide) (by decide) (by decide)) hp4 rfl (by omega) (by omega) (by intro p hp; simp at hp; omega)
  have z4 := b4.size
  have hb4 := Lib.hid b4
  have hh4 := Lib.hid h4
  clear b4 bb4 hp4 h4
  go_wp2_with (go_at_call 18; (with_reducible refine cC.mono ?_))
  rintro e W5 ⟨G5, mv5, Q5, rfl, h5, b5⟩
  rw [awE4] at h5
  have cR := dRead W5 _ G5 mv5 Q5 _ ⟨#[97]⟩ h5 (inv1 (by decide) (by decide) (by decide)) (by decide)
  rw [awE6] at cR
  have hb5 := Lib.hid (hb4.out.trans (((Below.refl w.heap.size W4).alloc z4 _).trans (b5.mono (by simp; omega))))
  have hh5 := Lib.hid ((hh4.out.alloc _).below b5)
  clear cC h5 b5
  go_wp2_with (go_at_call 19; (with_reducible refine cR.mono ?_))
  rintro e W6 ⟨ra, rc, rfl, ro, rb⟩
  have hh6 := hh5.out.below rb
  have z5 := hb5.out.size
  have b6 : Below w.heap.size w W6 := hb5.out.trans (rb.mono z5)
  have cC := dCrash W6 w.heap.size w.heap.size mv4 Q4 aw3 none 0 0 [] hh6 (inv1 (by decide) (by decide) (by decide)) (.inl rfl) rfl (by omega) (by omega) (by intro p hp; cases hp)
  have hb6 := Lib.hid b6
  have hr6 := Lib.hid (Bts.own ro)
  clear cR hh6 ro rb b6
  go_wp2_with (go_at_call 18; (with_reducible refine cC.mono ?_))
  rintro e W7 ⟨G7, mv7, Q7, rfl, h7, b7⟩
  rw [awE5] at h7
  have cR := dRead W7 _ G7 mv7 Q7 _ ⟨#[97]⟩ h7 (inv1 (by decide) (by decide) (by decide)) (by decide)
  rw [awE6] at cR
  have z6 := hb6.out.size
  have hb7 := Lib.hid (hb6.out.trans (b7.mono z6))
  have hr7 := Lib.hid (hr6.out.later b7)
  clear cC h7 b7
  go_wp2_with (go_at_call 19; (with_reducible refine cR.mono ?_))
  rintro e W8 ⟨ra', rc', rfl, ro', rb'⟩
  have z7 := hb7.out.size
  have k1 := conv_bts W8 ra 4 rc [97, 98, 99, 100] rfl (hr7.out.later rb')
  have k2 := conv_bts W8 ra' 3 rc' [97, 98, 99] rfl (Bts.own ro')
  have hb8 := Lib.hid (hb7.out.trans (rb'.mono z7))
  clear ro' rb' cR
  go_wp2
  go_ret
  exact ⟨rfl, hb8.out⟩

end Go.Proofs.Ytbolminblofhgaa
