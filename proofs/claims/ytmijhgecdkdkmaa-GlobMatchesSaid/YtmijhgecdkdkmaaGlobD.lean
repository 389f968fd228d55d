/-
  What glob.head answers.
-/
import Derived.Test.YtmijhgecdkdkmaaGlobC
import Derived.Deep.RegionHeld3
set_option linter.unusedVariables false
namespace Go.Proofs.Ytmijhgecdkdkmaa
open Go.RowKit

/-- The piece with which the signs begin, and how many they are; 0: there is none. -/
def headR (S : List Sg) : Pc × Nat :=
  if bareAt S 0 42 = true then (⟨[], false, true⟩, 1)
  else if bareAt S 0 63 = true then (⟨[], true, false⟩, 1)
  else if bareAt S 0 91 = true then setR S
  else (⟨[((S.getD 0 (0, false)).1, (S.getD 0 (0, false)).1)], false, false⟩, 1)

set_option maxHeartbeats 4000000 in
set_option maxRecDepth 100000 in
theorem head_any (v : Value) (S : List Sg) (w : World) (h : SgAt w v S) (hne : S ≠ []) (hS : S.length ≤ 1000) :
    Calls Try.prog 45 #[v] w (PcPost (headR S) w) := by
  have hbr := fun (wx : World) (hb : Below w.heap.size w wx) => isBare_b h hb hS
  have hst := fun (wx : World) (hb : Below w.heap.size w wx) => set_any v S wx (h.below hb) hS
  have hbA := (Below.refl w.heap.size w).alloc (Nat.le_refl _)
  obtain ⟨a, cap, rfl, hc⟩ := h
  cases b1 : bareAt S 0 42 with
  | true =>
    have HN : Hid (headR S = (⟨[], false, true⟩, 1)) := by show _ = _; unfold headR; rw [if_pos b1]
    clear hc
    go_enter Try.func45, Try.ntmps45
    go_wp2_with (first | (go_at_call 53; (with_reducible refine (hbr _ (hbA _) _ _ 0 42 (by omega) (by omega) (by omega) (by omega)).mono ?_); rintro e w' ⟨rfl, rfl⟩))
    refine bodyPost_ret (v := .tuple #[.agg #[.slice none 0 0, .bool false, .bool true], .int .i64 1]) (by simp [results, Try.results45, go_sem]) rfl ?_
    rw [HN.out]
    exact ⟨.slice none 0 0, rfl, ⟨rfl, .inl ⟨rfl, rfl⟩⟩, hbA _⟩
  | false =>
  cases b2 : bareAt S 0 63 with
  | true =>
    have HN : Hid (headR S = (⟨[], true, false⟩, 1)) := by show _ = _; unfold headR; rw [if_neg (by simp [b1]), if_pos b2]
    clear hc
    go_enter Try.func45, Try.ntmps45
    go_wp2_with (first | (go_at_call 53; (with_reducible refine (hbr _ (hbA _) _ _ 0 42 (by omega) (by omega) (by omega) (by omega)).mono ?_); rintro e w' ⟨rfl, rfl⟩) | (go_at_call 53; (with_reducible refine (hbr _ (hbA _) _ _ 0 63 (by omega) (by omega) (by omega) (by omega)).mono ?_); rintro e w' ⟨rfl, rfl⟩))
    refine bodyPost_ret (v := .tuple #[.agg #[.slice none 0 0, .bool true, .bool false], .int .i64 1]) (by simp [results, Try.results45, go_sem]) rfl ?_
    rw [HN.out]
    exact ⟨.slice none 0 0, rfl, ⟨rfl, .inl ⟨rfl, rfl⟩⟩, hbA _⟩
  | false =>
  cases b3 : bareAt S 0 91 with
  | true =>
    have HN : Hid (headR S = setR S) := by show _ = _; unfold headR; rw [if_neg (by simp [b1]), if_neg (by simp [b2]), if_pos b3]
    clear hc
    obtain ⟨⟨⟨sp, tu, ma⟩, n⟩, hx⟩ : ∃ x, x = setR S := ⟨_, rfl⟩
    rw [← hx] at HN hst
    have hst2 : ∀ (wx : World), Below w.heap.size w wx → Calls Try.prog 54 #[.slice a S.length cap] wx fun e w' => ∃ sa sc, e = .returned (.tuple #[.agg #[.slice sa sp.length sc, .bool tu, .bool ma], .int .i64 n]) ∧ w'.ownsRow wx.heap.size 92 2 (.slice sa sp.length sc) sp.length (rowOf spC sp) ∧ Below wx.heap.size wx w' := by
      intro wx hb
      refine (hst wx hb).mono ?_
      rintro e w' ⟨sv, he, ho, hb'⟩
      obtain ⟨sa, sc, hsv⟩ := own_form ho
      subst hsv
      exact ⟨sa, sc, he, ho, hb'⟩
    clear hx hst
    have hx0 := World.ownsRow_lit (base := w.heap.size) (e := 76) (size := 3) w #[.slice none 0 0, .bool false, .bool false] 1 (Nat.le_refl _) (by unfold maxLen; omega) rfl
    go_enter Try.func45, Try.ntmps45
    go_wp2_with (first | (go_at_call 53; (with_reducible refine (hbr _ (hbA _) _ _ 0 42 (by omega) (by omega) (by omega) (by omega)).mono ?_); rintro e w' ⟨rfl, rfl⟩) | (go_at_call 53; (with_reducible refine (hbr _ (hbA _) _ _ 0 63 (by omega) (by omega) (by omega) (by omega)).mono ?_); rintro e w' ⟨rfl, rfl⟩) | (go_at_call 53; (with_reducible refine (hbr _ (hbA _) _ _ 0 91 (by omega) (by omega) (by omega) (by omega)).mono ?_); rintro e w' ⟨rfl, rfl⟩) | (go_at_call 54; (with_reducible refine (hst2 _ (hbA _)).mono ?_); rintro e W2 ⟨sa, sc, rfl, ho2, b2'⟩; have hX := own_later hx0 b2'; obtain ⟨⟨z0, z1, z2⟩, y0, y1, y2⟩ := pc_cells hX))
    have hf := pc_stored (.slice sa sp.length sc) (.bool tu) (.bool ma) hX
    have hcc := (pc_cells hf).1
    have hbf : Below w.heap.size w _ := ((((hbA _).trans (b2'.mono (by simp))).setCell (p := ⟨w.heap.size, 0, none⟩) (Nat.le_refl _) (.slice sa sp.length sc)).setCell (p := ⟨w.heap.size, 1, none⟩) (Nat.le_refl _) (.bool tu)).setCell (p := ⟨w.heap.size, 2, none⟩) (Nat.le_refl _) (.bool ma)
    have hos := sp_kept hX (own_base ho2 (by simp)) (.slice sa sp.length sc) (.bool tu) (.bool ma)
    refine bodyPost_ret (v := .tuple #[.agg #[.slice sa sp.length sc, .bool tu, .bool ma], .int .i64 n]) (by simp [results, Try.results45, go_sem, hcc]) rfl ?_
    rw [HN.out]
    exact ⟨.slice sa sp.length sc, rfl, own_base hos (by omega), hbf⟩
  | false =>
    have h0 : 0 < S.length := List.length_pos_iff.2 hne
    obtain ⟨g, o, rfl, hd⟩ := hc hne
    have h1 := (hd 0 h0).1
    rw [Nat.zero_mul, Nat.add_zero] at h1
    have hx : S.getD 0 (0, false) = S[0] := by simp [List.getD_eq_getElem?_getD, h0]
    obtain ⟨x, hxd⟩ : ∃ x, x = S[0].1 := ⟨_, rfl⟩
    rw [← hxd] at h1
    have hg1 := World.block_lt_of_cell? _ _ h1
    have HN : Hid (headR S = (⟨[(x, x)], false, false⟩, 1)) := by show _ = _; unfold headR; rw [if_neg (by simp [b1]), if_neg (by simp [b2]), if_neg (by simp [b3]), hx, hxd]
    have hli : (0 : Int) < (S.length : Int) := by omega
    clear hc hd hx hxd
    go_enter Try.func45, Try.ntmps45
    go_wp2_with (first | (go_at_call 53; (with_reducible refine (hbr _ (hbA _) _ _ 0 42 (by omega) (by omega) (by omega) (by omega)).mono ?_); rintro e w' ⟨rfl, rfl⟩) | (go_at_call 53; (with_reducible refine (hbr _ (hbA _) _ _ 0 63 (by omega) (by omega) (by omega) (by omega)).mono ?_); rintro e w' ⟨rfl, rfl⟩) | (go_at_call 53; (with_reducible refine (hbr _ (hbA _) _ _ 0 91 (by omega) (by omega) (by omega) (by omega)).mono ?_); rintro e w' ⟨rfl, rfl⟩))
    go_region_held3 (fun w' => w'.cell? ⟨g, o, none⟩ = some (.int .i32 x)) (go_keep) (fail)
    have hos := World.ownsRow_lit (base := w.heap.size) (e := 92) (size := 2) (w.alloc (.cells #[.slice (some ⟨w.heap.size + 1, 0, none⟩) 1 1, .bool false, .bool false] 76)) #[.int .i32 x, .int .i32 x] 1 (by simp) (by unfold maxLen; omega) rfl
    have hbf : Below w.heap.size w _ := ((hbA (.cells #[.slice (some ⟨w.heap.size + 1, 0, none⟩) 1 1, .bool false, .bool false] 76)).alloc (by simp) (.cells #[.int .i32 x, .int .i32 x] 92)).drew
    go_wp2
    refine bodyPost_ret (v := .tuple #[.agg #[.slice (some ⟨w.heap.size + 1, 0, none⟩) 1 1, .bool false, .bool false], .int .i64 1]) (by simp [results, Try.results45, go_sem]) rfl ?_
    rw [HN.out]
    refine ⟨.slice (some ⟨w.heap.size + 1, 0, none⟩) 1 1, rfl, ?_, hbf⟩
    have := hos.drew
    rw [show (w.alloc (.cells #[.slice (some ⟨w.heap.size + 1, 0, none⟩) 1 1, .bool false, .bool false] 76)).heap.size = w.heap.size + 1 by simp] at this
    exact this

end Go.Proofs.Ytmijhgecdkdkmaa
