/-
  The reference's Scan.
-/
import Derived.Test.YtkoboogbdpagpaaFrE
set_option linter.unusedVariables false
namespace Go.Proofs.Ytkoboogbdpagpaa
open Go.RowKit

/-- Frames, one behind the other: what was told so far, and where. -/
def scanF : Nat → Nat → List (List UInt8) → List UInt8 → List (List UInt8) × Nat × Nat
  | 0, at_, acc, _ => (acc, at_, 1)
  | f + 1, at_, acc, b =>
    if b = [] then (acc, at_, 1)
    else if (nextF b).2.2 = 1 then scanF f (at_ + (nextF b).2.1) (acc ++ [(nextF b).1]) (b.drop (nextF b).2.1)
    else (acc, at_, (nextF b).2.2)
def scan (b : List UInt8) : List (List UInt8) × Nat × Nat := scanF (b.length + 1) 0 [] b

theorem scanF_nil (f at_ : Nat) (acc : List (List UInt8)) : scanF f at_ acc [] = (acc, at_, 1) := by
  cases f <;> simp [scanF]
theorem nextF_one {b : List UInt8} (h : (nextF b).2.2 = 1) : ∃ m, m ≤ 131072 ∧ m + 8 ≤ b.length ∧ nextF b = ((b.drop 4).take m, m + 8, 1) := by
  unfold nextF at h ⊢
  by_cases h1 : b.length < 4
  · rw [if_pos h1] at h; cases h
  rw [if_neg h1] at h ⊢
  by_cases h2 : 131072 < wdL b
  · rw [if_pos h2] at h; cases h
  rw [if_neg h2] at h ⊢
  by_cases h3 : b.length < wdL b + 8
  · rw [if_pos h3] at h; cases h
  rw [if_neg h3] at h ⊢
  by_cases h4 : crc (b.take (wdL b + 4)) ≠ wdL (b.drop (wdL b + 4))
  · rw [if_pos h4] at h; cases h
  rw [if_neg h4]
  exact ⟨wdL b, by omega, by omega, rfl⟩
theorem nextF_kind (b : List UInt8) : (nextF b).2.2 = 1 ∨ (nextF b).2.2 = 2 ∨ (nextF b).2.2 = 3 := by
  unfold nextF
  split
  · exact .inr (.inl rfl)
  · split
    · exact .inr (.inr rfl)
    · split
      · exact .inr (.inl rfl)
      · split
        · exact .inr (.inr rfl)
        · exact .inl rfl

/-- What a call leaves that answers rows and two numbers. -/
def Rows3Post (x : List (List UInt8) × Nat × Nat) (w : World) (e : Ending) (w' : World) : Prop :=
  Below w.heap.size w w' ∧ ∃ a cap, e = .returned (.tuple #[.slice a x.1.length cap, .int .i64 x.2.1, .int .i64 x.2.2]) ∧ RwOwn w' w.heap.size (.slice a x.1.length cap) x.1

set_option maxHeartbeats 4000000 in
set_option maxRecDepth 100000 in
theorem rScan_any (a : Option Addr) (n cap : Nat) (l : List UInt8) (w : World) (hl : l.length = n) (hn : n ≤ 1000000) (hcap : n ≤ cap) (hb : Bts w a l) :
    Calls Try.prog 18 #[.slice a n cap] w (Rows3Post (scan l) w) := by
  obtain ⟨i0, hi, hz0, hz1, hz2⟩ := info_parts infoRow8
  go_enter Try.func18, Try.ntmps18
  go_wp2
  go_loopw [5, 6] (fun v i wr => ∃ (k f : Nat) (acc : List (List UInt8)), i = .int .i64 k ∧ k ≤ n ∧ n ≤ k + f ∧ acc.length ≤ k ∧ RwOwn wr w.heap.size v acc ∧ Below w.heap.size w wr ∧ Hid (scan l = scanF (f + 1) k acc (l.drop k))) (fun _ i _ => n - (intOf i).toNat)
  case atStart => exact ⟨0, n, [], rfl, Nat.zero_le _, by omega, Nat.le_refl _, RwOwn.nil _ _, Below.refl _ _, by show _ = _; unfold scan; rw [hl]; rfl⟩
  case round =>
    obtain ⟨k, f, acc, rfl, hk, hkf, hal, ho, hbw, HS⟩ := hrel
    by_cases hlt : k < n
    · obtain ⟨x, rfl⟩ : ∃ x, a = some x := by
        obtain ⟨x, hx, _⟩ := hb.at k (by omega)
        exact ⟨x, hx⟩
      have hdl : (l.drop k).length = n - k := by rw [List.length_drop, hl]
      have hne : l.drop k ≠ [] := by intro e; rw [e] at hdl; simp at hdl; omega
      have cN := rNext_any (some (x.add k)) (n - k) (cap - k) (l.drop k) wr hdl (by omega) (by omega) ((hb.later hbw).drop k)
      have HS2 : Hid (scan l = if (nextF (l.drop k)).2.2 = 1 then scanF f (k + (nextF (l.drop k)).2.1) (acc ++ [(nextF (l.drop k)).1]) ((l.drop k).drop (nextF (l.drop k)).2.1) else (acc, k, (nextF (l.drop k)).2.2)) := by
        show _ = _
        rw [HS.out, scanF, if_neg hne]
      have hck : ¬ cap = k := by omega
      obtain ⟨Q, hQ, hQo, hQs⟩ := ho
      obtain ⟨oa, oc, hov⟩ := own_slice hQo
      subst hov
      have hQl : Q.length = acc.length := by rw [← hQ, List.length_map]
      have HQ := Lib.hid hQ
      have hQn : Q.length ≤ 1000000 := by omega
      clear hQ HS hQl
      by_cases hone : (nextF (l.drop k)).2.2 = 1
      · obtain ⟨m, hm1, hm2, hnx⟩ := nextF_one hone
        rw [hdl] at hm2
        have HS3 : Hid (scan l = scanF f (k + (m + 8)) (acc ++ [((l.drop k).drop 4).take m]) (l.drop (k + (m + 8)))) := by
          show _ = _
          rw [HS2.out, hnx, if_pos rfl]
          simp only [List.drop_drop]
        have hpl : (((l.drop k).drop 4).take m).length = m := by rw [List.length_take, List.length_drop, hdl]; omega
        unfold Own3Post at cN
        rw [hnx] at cN
        simp only at cN
        rw [hpl] at cN
        have HPL := Lib.hid hpl
        obtain ⟨p, hp⟩ : ∃ p, p = ((l.drop k).drop 4).take m := ⟨_, rfl⟩
        rw [← hp] at cN HS3 HPL
        clear hone hnx hp hpl HS2 hne hdl
        go_wp2_with (go_at_call 16; (with_reducible refine cN.mono ?_))
        rintro e W1 ⟨pa, pc, rfl, op, b1⟩
        have hb1 : Below w.heap.size w W1 := hbw.trans (b1.mono hbw.size)
        have hQo1 := ownL hQo b1
        have hQs1 := fun q hq => ownL (hQs q hq) b1
        have op1 := ownB op hbw.size
        clear cN hQo hQs hbw b1 op
        go_wp2_with (at_builtin; go_loud (refine wpList_append_own _ rfl _ _ 32 rfl w.heap.size 22 i0 (.slice none 0 0) 1 24 Try.underlying32 hi hz0 hz1 hz2 rfl (by decide) _ _ _ rfl (hQo1.alloc _) ⟨W1.heap.size, 0, none⟩ 1 1 [.slice pa m pc] rfl rfl ?c1 ?c2 ?c3 ?c4 ?c5 ?_))
        case c1 => intro j u hj; exact new_cells8 _ _ _ _ rfl j u hj
        case c2 => intro u hu; simp at hu; subst hu; rfl
        case c3 => unfold maxLen; omega
        case c4 => omega
        case c5 => have := hb1.size; simp; omega
        intro v2 w3 o3 hg3 _
        obtain ⟨a2, k2, rfl⟩ := own_slice o3
        have ho3 := RwOwn.put (hQo1.alloc _) (fun q hq => (hQs1 q hq).alloc _) (by rw [HPL.out]; exact op1.alloc _) hg3 o3
        rw [HQ.out] at ho3
        have hb3 : Below w.heap.size w w3 := (hb1.alloc hb1.size _).grown hg3 (by have := hb1.size; simp; omega) (fun k hk => (hQo1.lt k hk).1)
        clear o3 hg3 hQo1 hQs1 op1 hb1
        go_wp2
        go_roundw
        case rel => exact ⟨k + (m + 8), f - 1, _, by go_num, by omega, by omega, by simp; omega, ho3, hb3, by
          show _ = _
          obtain ⟨f, rfl⟩ : ∃ z, f = z + 1 := ⟨f - 1, by omega⟩
          rw [HS3.out]; rfl⟩
        case measure => simp [intOf]; omega
      · have HS3 : Hid (scan l = (acc, k, (nextF (l.drop k)).2.2)) := by show _ = _; rw [HS2.out, if_neg hone]
        have hki : (((nextF (l.drop k)).2.2 : Nat) : Int) != 1 := bne_iff_ne.2 (by omega)
        have hki2 : ((((nextF (l.drop k)).2.2 : Nat) : Int) != 1) = true := hki
        unfold Own3Post at cN
        obtain ⟨q, hq⟩ : ∃ q, q = nextF (l.drop k) := ⟨_, rfl⟩
        rw [← hq] at cN HS3 hki2
        obtain ⟨q1, q2, q3⟩ := q
        simp only at cN HS3 hki2
        have HQL : Hid (Q.length = acc.length) := by show _ = _; rw [← HQ.out, List.length_map]
        clear hone hq HS2 hne hdl hki
        go_wp2_with (go_at_call 16; (with_reducible refine cN.mono ?_))
        rintro e W1 ⟨pa, pc, rfl, op, b1⟩
        have hb1 : Below w.heap.size w W1 := hbw.trans (b1.mono hbw.size)
        have hfin : RwOwn W1 w.heap.size (.slice oa Q.length oc) acc := ⟨Q, HQ.out, ownL hQo b1, fun q hq => ownL (hQs q hq) b1⟩
        clear cN hQo hQs hbw b1 op
        go_wp2
        go_ret3
        unfold Rows3Post
        rw [HS3.out]
        refine ⟨hb1, oa, oc, ?_, ?_⟩
        · rw [← HQL.out]; rfl
        · rw [← HQL.out]; exact hfin
    · have HN : Hid (scan l = (acc, k, 1)) := by
        show _ = _
        rw [HS.out, List.drop_of_length_le (by omega), scanF_nil]
      obtain ⟨oa, oc, hov⟩ := ho.form
      subst hov
      go_wp2
      go_ret3
      unfold Rows3Post
      rw [HN.out]
      exact ⟨hbw, oa, oc, rfl, ho⟩

end Go.Proofs.Ytkoboogbdpagpaa
