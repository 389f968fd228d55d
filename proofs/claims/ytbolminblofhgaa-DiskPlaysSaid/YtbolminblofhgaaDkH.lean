/-
  The reference's Sync, Remove, Rename, Append: over put, find, without.
-/
import Derived.Test.YtbolminblofhgaaDkG
import Derived.Test.YtbolminblofhgaaDsI
set_option linter.unusedVariables false
namespace Go.Proofs.Ytbolminblofhgaa
open Go.RowKit

def resM (M : RD) (x : Int × List RF) : Int × RD := if offM M then (9, M.op) else (x.1, { M.op with L := x.2 })
theorem resM_off {M : RD} {x : Int × List RF} (ho : offM M = true) : resM M x = (9, M.op) := by unfold resM; rw [if_pos ho]
theorem resM_on {M : RD} {x : Int × List RF} (ho : offM M = false) : resM M x = (x.1, { M.op with L := x.2 }) := by unfold resM; rw [if_neg (by rw [ho]; decide)]
/-- What a call on the reference's disk answers and leaves. -/
def RkRes (w : World) (B g : Nat) (v : Value) (Q : List (Value × RF)) (x : Int × RD) (e : Ending) (w' : World) : Prop :=
  ∃ v' Q', e = .returned (.int .i64 x.1) ∧ DkAt w' B g v' Q' x.2 ∧ Kept (DkS g v) w w' ∧ ∀ k, DkAll g v' Q' k → DkAll g v Q k ∨ w.heap.size ≤ k

theorem DkAt.rise {w : World} {B g : Nat} {v : Value} {Q : List (Value × RF)} {M : RD} (h : DkAt w B g v Q M) : Q.length = M.L.length := by rw [← h.2.1]; simp
theorem DkAt.ltAll {w : World} {B g : Nat} {v : Value} {Q : List (Value × RF)} {M : RD} (h : DkAt w B g v Q M) : ∀ k, DkAll g v Q k → B ≤ k ∧ k < w.heap.size := by
  rintro k (e | ⟨q, hq, e⟩)
  · rcases e with rfl | e
    · exact ⟨h.1, h.lt⟩
    · exact own_lt h.2.2.2.1 k e
  · exact own_lt (h.2.2.2.2 q hq) k e

/-- find, of a disk as it lies: told or not. -/
theorem rFind_no {w : World} {B g : Nat} {v : Value} {Q : List (Value × RF)} {M : RD} {nm : ByteArray} (h : DkAt w B g v Q M) (hn : Q.length ≤ 1000000) (hf : fnd nm M.L = none) :
    Calls Try.prog 50 #[.pointer (some ⟨g, 0, none⟩), .string nm] w fun e w' => e = .returned (.int .i64 (-1)) ∧ ∃ q, w' = w.drewN q := by
  have := rFind_any w B g v Q M nm h hn
  rw [hf] at this
  exact this
theorem rFind_yes {w : World} {B g : Nat} {v : Value} {Q : List (Value × RF)} {M : RD} {nm : ByteArray} {k : Nat} (h : DkAt w B g v Q M) (hn : Q.length ≤ 1000000) (hf : fnd nm M.L = some k) :
    Calls Try.prog 50 #[.pointer (some ⟨g, 0, none⟩), .string nm] w fun e w' => e = .returned (.int .i64 (k : Int)) ∧ ∃ q, w' = w.drewN q := by
  have := rFind_any w B g v Q M nm h hn
  rw [hf] at this
  exact this

theorem sync_res {M : RD} {nm : ByteArray} (hr : Rise M.L) : syncM M nm = resM M (syncL nm M.L) := by
  unfold syncM
  cases ho : offM M with
  | true => rw [resM_off ho]; rfl
  | false =>
    rw [resM_on ho]
    unfold syncL
    cases hf : fnd nm M.L with
    | none => simp only [fnd_none hf]; rfl
    | some k =>
      obtain ⟨hk, hn, hg⟩ := fnd_get hr hf
      simp only [hg, List.getElem?_eq_getElem hk]
      have := put_set hr ⟨nm, (M.L[k]'hk).b, (M.L[k]'hk).b.length⟩ k hk hn
      rw [this]
      simp only [Bool.false_eq_true, if_false]
      congr 3
      rw [← hn]

set_option maxHeartbeats 2000000 in
set_option maxRecDepth 100000 in
theorem rRemove_9 (w : World) (B g : Nat) (v : Value) (Q : List (Value × RF)) (M : RD) (nm : ByteArray) (h : DkAt w B g v Q M) (hn : M.n ≤ 1000000) (ho : offM M = true) :
    Calls Try.prog 32 #[.pointer (some ⟨g, 0, none⟩), .string nm] w (RkRes w B g v Q (9, M.op)) := by
  have cO := rOff w B g v Q M h hn
  rw [ho] at cO
  clear h
  go_enter Try.func32, Try.ntmps32
  go_wp2_with (go_at_call 48; (with_reducible refine cO.mono ?_))
  rintro e W1 ⟨rfl, h1, k1⟩
  have H1 := Lib.hid h1
  clear h1 cO
  go_wp2
  go_ret
  exact ⟨v, Q, rfl, H1.out, k1.mono (fun k _ e => .inl e), fun k e => .inl e⟩
set_option maxHeartbeats 2000000 in
set_option maxRecDepth 100000 in
theorem rRemove_4 (w : World) (B g : Nat) (v : Value) (Q : List (Value × RF)) (M : RD) (nm : ByteArray) (h : DkAt w B g v Q M) (hn : M.n ≤ 1000000) (hq : Q.length ≤ 100000) (ho : offM M = false) (hf : fnd nm M.L = none) :
    Calls Try.prog 32 #[.pointer (some ⟨g, 0, none⟩), .string nm] w (RkRes w B g v Q (4, M.op)) := by
  have cO := rOff w B g v Q M h hn
  rw [ho] at cO
  clear h
  go_enter Try.func32, Try.ntmps32
  go_wp2_with (go_at_call 48; (with_reducible refine cO.mono ?_))
  rintro e W1 ⟨rfl, h1, k1⟩
  have cF := rFind_no (nm := nm) h1 (by omega) hf
  have H1 := Lib.hid h1
  clear h1 cO
  go_wp2_with (go_at_call 50; (with_reducible refine cF.mono ?_))
  rintro e W2 ⟨rfl, q, rfl⟩
  go_wp2
  go_ret
  exact ⟨v, Q, rfl, H1.out.drewN q, (k1.mono (T := DkS g v) (fun k _ e => .inl e)).drewN q, fun k e => .inl e⟩
set_option maxHeartbeats 2000000 in
set_option maxRecDepth 100000 in
theorem rRemove_ok (w : World) (B g : Nat) (v : Value) (Q : List (Value × RF)) (M : RD) (nm : ByteArray) (k : Nat) (h : DkAt w B g v Q M) (hn : M.n ≤ 1000000) (hq : Q.length ≤ 100000) (hB : B ≤ w.heap.size) (hr : Rise M.L) (ho : offM M = false) (hf : fnd nm M.L = some k) :
    Calls Try.prog 32 #[.pointer (some ⟨g, 0, none⟩), .string nm] w (RkRes w B g v Q (0, { M.op with L := delL nm M.L })) := by
  have cO := rOff w B g v Q M h hn
  rw [ho] at cO
  have hkl : k < Q.length := by
    obtain ⟨hk, _⟩ := fnd_some hf
    rw [h.rise]; exact hk
  clear h
  go_enter Try.func32, Try.ntmps32
  go_wp2_with (go_at_call 48; (with_reducible refine cO.mono ?_))
  rintro e W1 ⟨rfl, h1, k1⟩
  have cF := rFind_yes (nm := nm) h1 (by omega) hf
  have H1 := Lib.hid h1
  clear h1 cO
  go_wp2_with (go_at_call 50; (with_reducible refine cF.mono ?_))
  rintro e W2' ⟨rfl, q, rfl⟩
  obtain ⟨W2, hW2⟩ : ∃ W, W = W1.drewN q := ⟨_, rfl⟩
  have h2 : DkAt W2 B g v Q M.op := by rw [hW2]; exact H1.out.drewN q
  have k2 : Kept (fun k => k = g) w W2 := by rw [hW2]; exact k1.drewN q
  rw [← hW2]
  have cW := rWithout W2 B g v Q M.op k h2 hkl hq (Nat.le_trans hB k2.size)
  clear hW2 h2 H1 k1 cF
  go_wp2_with (go_at_call 52; (with_reducible refine cW.mono ?_))
  rintro e W3 ⟨v3, rfl, h3, k3, n3⟩
  have H3 := Lib.hid h3
  clear h3 cW
  go_wp2
  go_ret
  have hA := H3.out
  rw [show M.op.L.eraseIdx k = delL nm M.L from (del_erase hr hf).symm] at hA
  refine ⟨v3, _, rfl, hA, (k2.mono (T := DkS g v) (fun k _ e => .inl e)).trans k3 (fun k _ e => e), ?_⟩
  rintro i (e | ⟨x, hx, e⟩)
  · rcases e with e | e
    · exact .inl (.inl (.inl e))
    · exact .inr (Nat.le_trans k2.size (n3 i e))
  · exact .inl (.inr ⟨x, List.mem_of_mem_eraseIdx hx, e⟩)
theorem rRemove (w : World) (B g : Nat) (v : Value) (Q : List (Value × RF)) (M : RD) (nm : ByteArray) (h : DkAt w B g v Q M) (hn : M.n ≤ 1000000) (hq : Q.length ≤ 100000) (hB : B ≤ w.heap.size) (hr : Rise M.L) :
    Calls Try.prog 32 #[.pointer (some ⟨g, 0, none⟩), .string nm] w (RkRes w B g v Q (resM M (remL nm M.L))) := by
  cases ho : offM M with
  | true => rw [resM_off ho]; exact rRemove_9 w B g v Q M nm h hn ho
  | false =>
    rw [resM_on ho]
    cases hf : fnd nm M.L with
    | none =>
      unfold remL
      rw [fnd_none hf]
      exact rRemove_4 w B g v Q M nm h hn hq ho hf
    | some k =>
      obtain ⟨hk, _, hg⟩ := fnd_get hr hf
      unfold remL
      rw [hg]
      exact rRemove_ok w B g v Q M nm k h hn hq hB hr ho hf

end Go.Proofs.Ytbolminblofhgaa
