/-
  Package event: isBig, Check.
-/
import Derived.Test.YtggognmbjgkdfaaEvE
set_option linter.unusedVariables false
namespace Go.Proofs.Ytggognmbjgkdfaa
open Go.RowKit

theorem le_sum {α : Type} (f : α → Nat) (l : List α) (x : α) (h : x ∈ l) : f x ≤ (l.map f).sum := by
  induction l with
  | nil => cases h
  | cons a r ih =>
    simp only [List.map_cons, List.sum_cons]
    rcases List.mem_cons.1 h with rfl | h
    · omega
    · have := ih h; omega
/-- What a small batch has. -/
theorem ba_small {b : Ba} (h : baSum b ≤ 1000000) : BaFit b ∧ b.k.size ≤ 1000000 ∧ b.p.length ≤ 1000000 ∧ (∀ p ∈ b.p, p.s.size ≤ 1000000 ∧ p.d.length ≤ 1000000 ∧ ∀ x ∈ p.d, x.size ≤ 1000000) ∧ allData b.p ≤ 1000000 := by
  unfold baSum ptsSum at h
  have hp : ∀ p ∈ b.p, p.s.size ≤ 1000000 ∧ p.d.length ≤ 1000000 ∧ ∀ x ∈ p.d, x.size ≤ 1000000 := fun p hp => by
    have h1 : p.s.size + (p.d.length + strSum p.d) ≤ (b.p.map ptSum).sum := le_sum ptSum b.p p hp
    refine ⟨by omega, by omega, fun x hx => ?_⟩
    have h2 : x.size ≤ strSum p.d := le_sum ByteArray.size p.d x hx
    omega
  have ha : allData b.p ≤ (b.p.map ptSum).sum := by
    unfold allData
    induction b.p with
    | nil => simp
    | cons a r ih => simp only [List.map_cons, List.sum_cons]; unfold ptSum; unfold ptSum at ih; omega
  exact ⟨⟨by unfold maxLen; omega, by unfold maxLen; omega, fun p q => ⟨by have := (hp p q).1; unfold maxLen; omega, by have := (hp p q).2.1; unfold maxLen; omega, fun x hx => by have := (hp p q).2.2 x hx; unfold maxLen; omega⟩⟩, by omega, by omega, hp, by omega⟩
theorem allData_take (ps : List Pt) (j : Nat) (h : j < ps.length) : allData (ps.take (j + 1)) = allData (ps.take j) + strSum (ps[j]'h).d := by
  unfold allData; rw [List.take_succ_eq_append_getElem h, List.map_append, List.sum_append]; simp
theorem sum_take_le {α : Type} (f : α → Nat) (l : List α) (j : Nat) : ((l.take j).map f).sum ≤ (l.map f).sum := by
  conv => rhs; rw [← List.take_append_drop j l, List.map_append, List.sum_append]
  omega
theorem allData_le (ps : List Pt) (j : Nat) : allData (ps.take j) ≤ allData ps := sum_take_le _ _ _
theorem strSum_le (l : List ByteArray) (j : Nat) : strSum (l.take j) ≤ strSum l := sum_take_le _ _ _

def noBig (p : Pt) : Bool := !putBig p
theorem big_of {b : Ba} {p : Pt} (hp : p ∈ b.p) (h : putBig p = true) : bigB b = true := by
  unfold bigB
  have : b.p.any putBig = true := List.any_eq_true.2 ⟨p, hp, h⟩
  rw [this]; simp
theorem big_end {b : Ba} (h1 : ¬ 8 < b.p.length) (h2 : b.p.all noBig = true) : bigB b = decide (30000 < allData b.p) := by
  unfold bigB
  have : b.p.any putBig = false := by
    rw [List.any_eq_false]
    intro p hp
    have := List.all_eq_true.1 h2 p hp
    simpa [noBig] using this
  rw [this, decide_eq_false h1]
  simp

set_option maxHeartbeats 8000000 in
set_option maxRecDepth 100000 in
theorem isBig_any (b : Ba) (a : Option Addr) (n c : Nat) (w : World) (hs : baSum b ≤ 1000000) (hl : b.p.length = n) (h : PtsIn w a b.p) :
    Calls Try.prog 42 #[.agg #[.string b.k, .slice a n c]] w (TelPost (.bool (bigB b)) w) := by
  obtain ⟨hf, s1, s2, s3, s4⟩ := ba_small hs
  have bA := (Below.refl w.heap.size w).alloc (Nat.le_refl _) (.cells #[.string b.k, .slice a n c] 24)
  obtain ⟨k, ps⟩ := b
  simp only at *
  have HN := Lib.hid hl.symm
  have HP := Lib.hid h
  have HS3 := Lib.hid s3
  have HBA := Lib.hid bA
  rw [hl] at s2
  clear hf hl bA h hs s3
  by_cases h8 : 8 < n
  · have h8' : (8 : Int) < (n : Int) := by omega
    have HV : Hid (bigB ⟨k, ps⟩ = true) := by
      show _ = _
      unfold bigB
      rw [decide_eq_true (show 8 < ps.length by have := HN.out; omega)]; rfl
    go_enter Try.func42, Try.ntmps42
    go_wp2
    go_ret
    rw [HV.out]
    exact ⟨rfl, HBA.out⟩
  · have h8' : ¬ (8 : Int) < (n : Int) := by omega
    have H8 : Hid (¬ 8 < ps.length) := by show ¬ _; have := HN.out; omega
    clear h8
    go_enter Try.func42, Try.ntmps42
    go_wp2
    go_loopw [3, 15] (fun u i wr => ∃ j : Nat, i = .int .i64 j ∧ j ≤ n ∧ u = .int .i64 (allData (ps.take j)) ∧ Hid ((ps.take j).all noBig = true) ∧ Below w.heap.size w wr) (fun _ i _ => n - (intOf i).toNat)
    case atStart => exact ⟨0, rfl, Nat.zero_le _, rfl, rfl, HBA.out⟩
    case round =>
      obtain ⟨j, rfl, hj, rfl, HA, hb⟩ := hrel
      obtain ⟨wo, hwo⟩ : ∃ wo : World, wo = wr := ⟨_, rfl⟩
      subst hwo
      have HB := Lib.hid hb
      have hd0 := allData_le ps j
      clear hb
      by_cases hlt : j < n
      · have hlt2 : j < ps.length := by have := HN.out; omega
        obtain ⟨x, d, cd, rfl, hat0⟩ := HP.out j hlt2
        have hat := hat0.later HB.out
        have q0 := hat.c0
        have q1 := hat.c1
        have q2 := hat.c2
        rw [fld x (j * 3) 1 (by decide)] at q1
        rw [fld x (j * 3) 2 (by decide)] at q2
        have HDS := Lib.hid hat.ds
        obtain ⟨_, hdl, _⟩ := HS3.out _ (List.getElem_mem hlt2)
        have hnx := allData_take ps j hlt2
        have hnx1 := allData_le ps (j + 1)
        have HBG : Hid (putBig (ps[j]'hlt2) = true → bigB ⟨k, ps⟩ = true) := fun e => big_of (List.getElem_mem hlt2) e
        have HBN : Hid (noBig (ps[j]'hlt2) = true → (ps.take (j + 1)).all noBig = true) := fun e => all_take hlt2 HA.out e
        obtain ⟨p, hp⟩ : ∃ p, p = ps[j]'hlt2 := ⟨_, rfl⟩
        rw [← hp] at q0 q1 q2 HDS hdl hnx HBG HBN
        obtain ⟨s, e, dl⟩ := p
        simp only at q0 q1 q2 HDS hdl hnx HBG HBN
        obtain ⟨m, hm⟩ : ∃ m, m = dl.length := ⟨_, rfl⟩
        rw [← hm] at q2 hdl
        have HM := Lib.hid hm
        have HNX := Lib.hid hnx
        obtain ⟨S0, hS0⟩ : ∃ S0, S0 = allData (ps.take j) := ⟨_, rfl⟩
        rw [← hS0] at hd0 hnx ⊢
        have HS0 := Lib.hid hS0
        have hsum : S0 + strSum dl ≤ 1000000 := by omega
        have hji0 : (0 : Int) ≤ (j : Int) := by omega
        have hji1 : (j : Int) < (n : Int) := by omega
        clear hp hm hat hat0 hnx hnx1 hS0
        by_cases h20 : 20 < m
        · have h20' : (20 : Int) < (m : Int) := by omega
          have HV : Hid (bigB ⟨k, ps⟩ = true) := HBG.out (by
            unfold putBig
            rw [decide_eq_true (show 20 < dl.length by have := HM.out; omega)]; rfl)
          clear h20
          go_wp2
          go_ret
          rw [HV.out]
          exact ⟨rfl, HB.out.alloc HB.out.size _⟩
        · have h20' : ¬ (20 : Int) < (m : Int) := by omega
          have BV := (Below.refl wo.heap.size wo).alloc (Nat.le_refl _) (.cells #[.string s, .int .i64 e, .slice d m cd] 71)
          have HBV := Lib.hid BV
          clear BV
          go_wp2
          go_loopw [3, 26] (fun u i wr => ∃ t : Nat, i = .int .i64 t ∧ t ≤ m ∧ u = .int .i64 ((S0 + strSum (dl.take t) : Nat) : Int) ∧ Hid (∀ x ∈ dl.take t, x.size ≤ 1000) ∧ Below wo.heap.size wo wr) (fun _ i _ => m - (intOf i).toNat)
          case atStart => exact ⟨0, rfl, Nat.zero_le _, by simp [strSum], fun x hx => by simp at hx, HBV.out⟩
          case round =>
            obtain ⟨t, rfl, ht, rfl, HT, hbw⟩ := hrel
            have HBW := Lib.hid hbw
            have hts := strSum_le dl t
            clear hbw
            by_cases htm : t < m
            · have htm2 : t < dl.length := by have := HM.out; omega
              obtain ⟨y, rfl, hy0⟩ := HDS.out t htm2
              have hy := cell_later HBW.out hy0
              have htk := strSum_take dl t htm2
              have htk1 := strSum_le dl (t + 1)
              have HTN : Hid ((dl[t]'htm2).size ≤ 1000 → ∀ x ∈ dl.take (t + 1), x.size ≤ 1000) := fun h x hx => by
                rw [List.take_succ_eq_append_getElem htm2, List.mem_append, List.mem_singleton] at hx
                rcases hx with hx | rfl
                · exact HT.out x hx
                · exact h
              have HTB : Hid (1000 < (dl[t]'htm2).size → putBig ⟨s, e, dl⟩ = true) := fun h => by
                unfold putBig
                rw [Bool.or_eq_true]
                right
                exact List.any_eq_true.2 ⟨_, List.getElem_mem htm2, decide_eq_true h⟩
              obtain ⟨z, hz⟩ : ∃ z, z = dl[t]'htm2 := ⟨_, rfl⟩
              rw [← hz] at hy htk HTN HTB
              have HTK := Lib.hid htk
              obtain ⟨S1, hS1⟩ : ∃ S1, S1 = strSum (dl.take t) := ⟨_, rfl⟩
              rw [← hS1] at htk hts ⊢
              have HS1 := Lib.hid hS1
              have hsz : S0 + S1 + z.size ≤ 1000000 := by omega
              have hti0 : (0 : Int) ≤ (t : Int) := by omega
              have hti1 : (t : Int) < (m : Int) := by omega
              clear hz hy0 htk htk1 hS1
              by_cases hbig : 1000 < z.size
              · have hbig' : (1000 : Int) < (z.size : Int) := by omega
                have HV : Hid (bigB ⟨k, ps⟩ = true) := HBG.out (HTB.out hbig)
                clear hbig
                go_wp2
                go_ret
                rw [HV.out]
                exact ⟨rfl, HB.out.trans (HBW.out.mono HB.out.size)⟩
              · have hbig' : ¬ (1000 : Int) < (z.size : Int) := by omega
                have HV := Lib.hid (HTN.out (by omega))
                clear hbig
                go_wp2
                go_roundw
                case rel => exact ⟨t + 1, by go_num, by omega, by rw [HTK.out, ← HS1.out]; go_num, HV.out, HBW.out⟩
                case measure => simp [intOf]; omega
            · have HV := Lib.hid (HBN.out (by
                unfold noBig putBig
                have hm := HM.out
                have hT := HT.out
                rw [List.take_of_length_le (by omega)] at hT
                rw [decide_eq_false (by show ¬ 20 < dl.length; omega), Bool.false_or]
                have : dl.any (fun x => decide (1000 < x.size)) = false := by
                  rw [List.any_eq_false]
                  intro x hx
                  have := hT x hx
                  simp; omega
                rw [this]; rfl))
              have HE : Hid (S0 + strSum (dl.take t) = allData (ps.take (j + 1))) := by
                show _ = _
                rw [HNX.out, HS0.out, show dl.take t = dl from List.take_of_length_le (by have := HM.out; omega)]
              have HB2 := Lib.hid (HB.out.trans (HBW.out.mono HB.out.size))
              go_wp2
              go_roundw
              case rel => exact ⟨j + 1, by go_num, by omega, by rw [HE.out], HV.out, HB2.out⟩
              case measure => simp [intOf]; omega
      · have HV : Hid (bigB ⟨k, ps⟩ = decide (30000 < allData ps)) := big_end H8.out (by
          have := HA.out
          rw [List.take_of_length_le (by have := HN.out; omega)] at this
          exact this)
        have HE : Hid (allData (ps.take j) = allData ps) := by
          show _ = _
          rw [List.take_of_length_le (by have := HN.out; omega)]
        rw [HE.out] at hd0 ⊢
        go_wp2
        go_ret
        rw [HV.out]
        exact ⟨retB (by rw [decide_eq_decide]; omega), HB.out⟩

set_option maxHeartbeats 4000000 in
set_option maxRecDepth 100000 in
theorem check_any (b : Ba) (a : Option Addr) (n c : Nat) (w : World) (hs : baSum b ≤ 1000000) (hl : b.p.length = n) (h : PtsIn w a b.p) :
    Calls Try.prog 14 #[.agg #[.string b.k, .slice a n c]] w (TelPost (.int .i64 (checkB b)) w) := by
  obtain ⟨hf, s1, s2, s3, s4⟩ := ba_small hs
  have bA := (Below.refl w.heap.size w).alloc (Nat.le_refl _) (.cells #[.string b.k, .slice a n c] 24)
  have gA := heap_alloc_new w (.cells #[.string b.k, .slice a n c] 24)
  have cB := isBatch_any b a n c _ hf hl (by omega) (fun p hp => (s3 p hp).2.1) (h.later bA)
  have cG : Hid (∀ V, Below w.heap.size w V → Calls Try.prog 42 #[.agg #[.string b.k, .slice a n c]] V (TelPost (.bool (bigB b)) V)) := fun V hV => isBig_any b a n c V hs hl (h.later hV)
  have H := Lib.hid (show checkB b = if argOk b = true then (if bigB b = true then 2 else 0) else 1 from rfl)
  have HBA := Lib.hid bA
  have HGA := Lib.hid gA
  clear bA gA h hf s3 s4 s1 s2 hs hl
  cases hA : argOk b with
  | false =>
    rw [hA] at cB
    have HV : Hid (checkB b = 1) := by show _ = _; rw [H.out, hA]; rfl
    clear hA
    go_enter Try.func14, Try.ntmps14
    go_wp2_with (go_at_call 41; (with_reducible refine cB.mono ?_))
    rintro e1 W ⟨rfl, b1⟩
    have HB := Lib.hid (HBA.out.trans (b1.mono (by simp)))
    clear b1 cB
    go_wp2
    go_ret
    rw [HV.out]
    exact ⟨rfl, HB.out⟩
  | true =>
    rw [hA] at cB
    go_enter Try.func14, Try.ntmps14
    go_wp2_with (go_at_call 41; (with_reducible refine cB.mono ?_))
    rintro e1 W ⟨rfl, b1⟩
    have HB := Lib.hid (HBA.out.trans (b1.mono (by simp)))
    have g1 := box_below HGA.out b1 (by simp)
    have x0 : W.cell? ⟨w.heap.size, 0, none⟩ = some (.string b.k) := by rw [cell_of_row _ _ _ _ _ _ g1]; rfl
    have x1 : W.cell? ⟨w.heap.size, 1, none⟩ = some (.slice a n c) := by rw [cell_of_row _ _ _ _ _ _ g1]; rfl
    have cG2 := cG.out W HB.out
    clear b1 cB cG g1
    cases hG : bigB b with
    | false =>
      rw [hG] at cG2
      have HV : Hid (checkB b = 0) := by show _ = _; rw [H.out, hA, hG]; rfl
      clear hA hG
      go_wp2_with (go_at_call 42; (with_reducible refine cG2.mono ?_))
      rintro e1 W2 ⟨rfl, b2⟩
      have HB2 := Lib.hid (HB.out.trans (b2.mono HB.out.size))
      clear b2 cG2
      go_wp2
      go_ret
      rw [HV.out]
      exact ⟨rfl, HB2.out⟩
    | true =>
      rw [hG] at cG2
      have HV : Hid (checkB b = 2) := by show _ = _; rw [H.out, hA, hG]; rfl
      clear hA hG
      go_wp2_with (go_at_call 42; (with_reducible refine cG2.mono ?_))
      rintro e1 W2 ⟨rfl, b2⟩
      have HB2 := Lib.hid (HB.out.trans (b2.mono HB.out.size))
      clear b2 cG2
      go_wp2
      go_ret
      rw [HV.out]
      exact ⟨rfl, HB2.out⟩

end Go.Proofs.Ytggognmbjgkdfaa
