/-
  The reference's Eye at any place: a number, a text, a stamp.
-/
import Derived.Test.YtggognmbjgkdfaaRdC
import Derived.Test.YtggognmbjgkdfaaEnC
set_option linter.unusedVariables false
namespace Go.Proofs.Ytggognmbjgkdfaa
open Go.RowKit

structure EyAt (w : World) (g : Nat) (a : Option Addr) (n c : Nat) (l : List UInt8) (I : Nat) (bad : Bool) : Prop where
  box : w.heap[g]? = some (.cells #[.slice a n c, .int .i64 I, .bool bad] 83 (0, 0))
  bts : Bts w a l
  len : l.length = n
  cap : n ≤ c
  far : l ≠ [] → ∀ x, a = some x → x.block < g
  lim : n ≤ 1000000
  le : I ≤ n
/-- What p takes at I, and where it stands then; or there is none. -/
def EOk {α : Type} (p : List UInt8 → Option (α × List UInt8)) (l : List UInt8) (I : Nat) (x : α) (I1 : Nat) (b b1 : Bool) : Prop :=
  (b = false ∧ b1 = false ∧ p (l.drop I) = some (x, l.drop I1)) ∨ (b1 = true ∧ (b = true ∨ p (l.drop I) = none))
def EGet {α : Type} (p : List UInt8 → Option (α × List UInt8)) (V : α → Value) (g : Nat) (a : Option Addr) (n c : Nat) (l : List UInt8) (I : Nat) (bad : Bool) (w : World) (e : Ending) (w' : World) : Prop :=
  ∃ x I1 b1, e = .returned (V x) ∧ EOk p l I x I1 bad b1 ∧ EyAt w' g a n c l I1 b1 ∧ Kept (fun k => k = g) w w'

theorem EyAt.keep {S : Nat → Prop} {w w' : World} {g : Nat} {a : Option Addr} {n c I : Nat} {l : List UInt8} {bad : Bool} (h : EyAt w g a n c l I bad) (k : Kept S w w') (hS : ∀ i, S i → g < i) : EyAt w' g a n c l I bad :=
  ⟨(k.block g (lt_of_block h.box) (fun e => by have := hS g e; omega)).trans h.box, h.bts.kept k (fun hl x hx e => by have := hS _ e; have := h.far hl x hx; omega), h.len, h.cap, h.far, h.lim, h.le⟩
theorem EyAt.self {w w' : World} {g : Nat} {a : Option Addr} {n c I I1 : Nat} {l : List UInt8} {bad b1 : Bool} (h : EyAt w g a n c l I bad) (k : Kept (fun k => k = g) w w') (hI : I1 ≤ n) (hb : w'.heap[g]? = some (.cells #[.slice a n c, .int .i64 I1, .bool b1] 83 (0, 0))) : EyAt w' g a n c l I1 b1 :=
  ⟨hb, h.bts.kept k (fun hl x hx e => Nat.ne_of_lt (h.far hl x hx) e), h.len, h.cap, h.far, h.lim, hI⟩

theorem num_e (g : Nat) (a : Option Addr) (n c : Nat) (l : List UInt8) (I : Nat) (bad : Bool) (most : Nat) (w : World) (h : EyAt w g a n c l I bad) (hm : most ≤ 1125899906842624) :
    Calls Try.prog 72 #[.pointer (some ⟨g, 0, none⟩), .int .i64 most] w fun e w' => ∃ x I1 b1, e = .returned (.int .i64 ((x : Nat) : Int)) ∧ EOk (pNum most) l I x I1 bad b1 ∧ (b1 = true → x = 0) ∧ EyAt w' g a n c l I1 b1 ∧ Kept (fun k => k = g) w w' := by
  refine (num_eye g a n c I bad l most w h.len h.lim h.cap h.le hm h.box h.bts).mono ?_
  rintro e w' ⟨h1, h2, h3⟩
  have hle := numF_le l I bad most (by rw [h.len]; exact h.le)
  rw [h.len] at hle
  refine ⟨_, _, _, h1, ?_, ?_, h.self h3 hle h2, h3⟩
  · unfold numF EOk
    cases bad with
    | true => rw [if_pos rfl]; exact .inr ⟨rfl, .inl rfl⟩
    | false =>
      rw [if_neg (by decide)]
      by_cases hc : (unv (l.drop I)).2 = 0 ∨ most < (unv (l.drop I)).1
      · rw [if_pos hc]
        exact .inr ⟨rfl, .inr (by unfold pNum; rw [if_pos hc])⟩
      · rw [if_neg hc]
        refine .inl ⟨rfl, rfl, ?_⟩
        unfold pNum
        rw [if_neg hc, List.drop_drop]
  · unfold numF
    cases bad with
    | true => rw [if_pos rfl]; exact fun _ => rfl
    | false =>
      rw [if_neg (by decide)]
      by_cases hc : (unv (l.drop I)).2 = 0 ∨ most < (unv (l.drop I)).1
      · rw [if_pos hc]; exact fun _ => rfl
      · rw [if_neg hc]; exact fun e => by cases e
def NumE (most : Nat) (g : Nat) (a : Option Addr) (n c : Nat) (l : List UInt8) (I : Nat) (bad : Bool) (w : World) (e : Ending) (w' : World) : Prop :=
  ∃ x I1 b1, e = .returned (.int .i64 ((x : Nat) : Int)) ∧ EOk (pNum most) l I x I1 bad b1 ∧ (b1 = true → x = 0) ∧ EyAt w' g a n c l I1 b1 ∧ Kept (fun k => k = g) w w'
theorem num_q (g : Nat) (a : Option Addr) (n c : Nat) (l : List UInt8) (I : Nat) (bad : Bool) (most : Nat) (mi : Int) (hmi : mi = (most : Int)) (w : World) (h : EyAt w g a n c l I bad) (hm : most ≤ 1125899906842624) :
    Calls Try.prog 72 #[.pointer (some ⟨g, 0, none⟩), .int .i64 mi] w (NumE most g a n c l I bad w) := by
  subst hmi
  exact num_e g a n c l I bad most w h hm

set_option maxHeartbeats 16000000 in
set_option maxRecDepth 100000 in
theorem text_e (g : Nat) (a : Option Addr) (n c : Nat) (l : List UInt8) (I : Nat) (bad : Bool) (w : World) (h : EyAt w g a n c l I bad) :
    Calls Try.prog 71 #[.pointer (some ⟨g, 0, none⟩)] w (EGet pTxt Value.string g a n c l I bad w) := by
  obtain ⟨x0, x1, x2, k0, k1, k2⟩ := box_cells h.box
  have hn := h.lim
  have hI := h.le
  have hcap := h.cap
  cases bad with
  | true =>
    have HH := Lib.hid h
    clear h
    go_enter Try.func71, Try.ntmps71
    go_wp2
    go_ret
    exact ⟨⟨#[]⟩, I, true, rfl, .inr ⟨rfl, .inl rfl⟩, HH.out, Kept.refl _ _⟩
  | false =>
    obtain ⟨⟨s, k⟩, hU⟩ : ∃ U, takeL (l.drop I) = U := ⟨_, rfl⟩
    have hub := (takeL_bounds (l.drop I)).1
    rw [hU, List.length_drop, h.len] at hub
    simp only at hub
    have c1 : c = I → ∀ wx, Below w.heap.size w wx → Calls Try.prog 100 #[.slice a (n - I) 0] wx fun e w' => e = .returned (.tuple #[.string s, .int .i64 k]) ∧ wx = w' := fun hcm wx hx => by
      have hnil : l.drop I = [] := List.drop_eq_nil_of_le (by have := h.len; omega)
      have := rTake_any a (n - I) 0 (l.drop I) wx (by rw [List.length_drop, h.len]) (by omega) (by omega) (by rw [hnil]; exact Bts.nil _ _)
      rw [hU] at this
      exact this
    have c2 : ∀ wx, Below w.heap.size w wx → Calls Try.prog 100 #[.slice (Option.map (fun x => x.add I) a) (n - I) (c - I)] wx fun e w' => e = .returned (.tuple #[.string s, .int .i64 k]) ∧ wx = w' := fun wx hx => by
      have := rTake_any (Option.map (fun x => x.add I) a) (n - I) (c - I) (l.drop I) wx (by rw [List.length_drop, h.len]) (by omega) (by omega) (bts_drop (h.bts.later hx) I)
      rw [hU] at this
      exact this
    have C1 := Lib.hid c1
    have C2 := Lib.hid c2
    have hbox := h.box
    have HH := Lib.hid h
    clear c1 c2 h
    by_cases hz : k = 0
    · subst hz
      have HQ : Hid (pTxt (l.drop I) = none) := by show _ = _; unfold pTxt; rw [hU]; rfl
      have ea : (I : Int) + ((0 : Nat) : Int) = (I : Int) := by omega
      have ew : IntKind.i64.wrap (I : Int) = (I : Int) := IntWalk.i64_in _ (by omega)
      clear hU
      by_cases hcm : c = I
      · go_enter Try.func71, Try.ntmps71
        go_wp2_with fail
        go_region_held3 (fun w' => Below w.heap.size w w' ∧ w'.cell? ⟨g, 0, none⟩ = some (.slice a n c) ∧ w'.cell? ⟨g, 1, none⟩ = some (.int .i64 I))
          (first | exact ⟨(Below.refl _ _).drew, x0, x1⟩ | go_keep)
          (first
            | (go_at_call 100; (with_reducible refine (C1.out hcm _ (And.left (by assumption))).mono ?_); rintro e W3 ⟨rfl, rfl⟩)
            | fail)
        all_goals (
          have hK : Kept (fun k => k = g) w ((w.drew.setCell ⟨g, 2, none⟩ (.bool true)).setCell ⟨g, 1, none⟩ (.int .i64 I)) := keptSet (keptSet (Kept.of_below (S := fun k => k = g) (Below.refl _ w).drew) 2 (.bool true)) 1 (.int .i64 I)
          have hG1 := heap_setCell_same w.drew g 2 _ _ (.bool true) hbox
          have hG : ((w.drew.setCell ⟨g, 2, none⟩ (.bool true)).setCell ⟨g, 1, none⟩ (.int .i64 I)).heap[g]? = some (.cells #[.slice a n c, .int .i64 I, .bool true] 83 (0, 0)) := heap_setCell_same _ g 1 _ _ (.int .i64 I) hG1
          have HE := Lib.hid (HH.out.self hK hI hG)
          have HK := Lib.hid hK
          clear hbox hK hG1 hG
          go_wp2
          go_ret
          exact ⟨s, I, true, rfl, .inr ⟨rfl, .inr HQ.out⟩, HE.out, HK.out⟩)
      · go_enter Try.func71, Try.ntmps71
        go_wp2_with fail
        go_region_held3 (fun w' => Below w.heap.size w w' ∧ w'.cell? ⟨g, 0, none⟩ = some (.slice a n c) ∧ w'.cell? ⟨g, 1, none⟩ = some (.int .i64 I))
          (first | exact ⟨(Below.refl _ _).drew, x0, x1⟩ | go_keep)
          (first
            | (go_at_call 100; (with_reducible refine (C2.out _ (And.left (by assumption))).mono ?_); rintro e W3 ⟨rfl, rfl⟩)
            | fail)
        all_goals (
          have hK : Kept (fun k => k = g) w ((w.drew.setCell ⟨g, 2, none⟩ (.bool true)).setCell ⟨g, 1, none⟩ (.int .i64 I)) := keptSet (keptSet (Kept.of_below (S := fun k => k = g) (Below.refl _ w).drew) 2 (.bool true)) 1 (.int .i64 I)
          have hG1 := heap_setCell_same w.drew g 2 _ _ (.bool true) hbox
          have hG : ((w.drew.setCell ⟨g, 2, none⟩ (.bool true)).setCell ⟨g, 1, none⟩ (.int .i64 I)).heap[g]? = some (.cells #[.slice a n c, .int .i64 I, .bool true] 83 (0, 0)) := heap_setCell_same _ g 1 _ _ (.int .i64 I) hG1
          have HE := Lib.hid (HH.out.self hK hI hG)
          have HK := Lib.hid hK
          clear hbox hK hG1 hG
          go_wp2
          go_ret
          exact ⟨s, I, true, rfl, .inr ⟨rfl, .inr HQ.out⟩, HE.out, HK.out⟩)
    · have e0 : ((k : Int) == 0) = false := beq_false_of_ne (by omega)
      have HQ : Hid (pTxt (l.drop I) = some (s, l.drop (I + k))) := by
        show _ = _
        unfold pTxt
        rw [hU, if_neg hz, List.drop_drop]
      have hcm : ¬ c = I := by omega
      have ew : IntKind.i64.wrap ((I : Int) + (k : Int)) = ((I + k : Nat) : Int) := by rw [← Int.natCast_add]; exact IntWalk.i64_in _ (by omega)
      have ew2 : wrap64 ((I : Int) + (k : Int)) = ((I + k : Nat) : Int) := by rw [← Int.natCast_add]; exact IntWalk.wrap64_in _ (by omega)
      clear hU hz
      go_enter Try.func71, Try.ntmps71
      go_wp2_with fail
      go_region_held3 (fun w' => Below w.heap.size w w' ∧ w'.cell? ⟨g, 0, none⟩ = some (.slice a n c) ∧ w'.cell? ⟨g, 1, none⟩ = some (.int .i64 I))
        (first | exact ⟨(Below.refl _ _).drew, x0, x1⟩ | go_keep)
        (first
          | (go_at_call 100; (with_reducible refine (C2.out _ (And.left (by assumption))).mono ?_); rintro e W3 ⟨rfl, rfl⟩)
          | fail)
      all_goals (
        have hK : Kept (fun k => k = g) w (w.drew.setCell ⟨g, 1, none⟩ (.int .i64 ((I + k : Nat) : Int))) := keptSet (Kept.of_below (S := fun k => k = g) (Below.refl _ w).drew) 1 _
        have hG : (w.drew.setCell ⟨g, 1, none⟩ (.int .i64 ((I + k : Nat) : Int))).heap[g]? = some (.cells #[.slice a n c, .int .i64 ((I + k : Nat) : Int), .bool false] 83 (0, 0)) := heap_setCell_same _ g 1 _ _ _ hbox
        have HE := Lib.hid (HH.out.self hK (by omega) hG)
        have HK := Lib.hid hK
        clear hbox hK hG
        go_wp2
        go_ret
        exact ⟨s, I + k, false, rfl, .inl ⟨rfl, rfl, HQ.out⟩, HE.out, HK.out⟩)

end Go.Proofs.Ytggognmbjgkdfaa
