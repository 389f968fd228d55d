/-
  The reference's net: Twice, Clear.
-/
import Derived.Test.YtenpoolminfofaaNtQ
import Derived.Maps.AppendAt
set_option linter.unusedVariables false
namespace Go.Proofs.Ytenpoolminfofaa
open Go.RowKit

set_option maxHeartbeats 8000000 in
set_option maxRecDepth 100000 in
theorem rTwice (w : World) (B g : Nat) (v : Value) (Q : List (Value × Pk)) (L : List Pk) (k : Int) (h : NtAt 29 w B g v Q L) (hB : B ≤ w.heap.size) (hL : L.length ≤ 200) (hm : ∀ p ∈ L, mayP p = true) :
    Calls Try.prog 17 #[.pointer (some ⟨g, 0, none⟩), .int .i64 k] w (ResPost 29 w B g v Q (.bool (twiceB L k)) (twiceL L k)) := by
  cases hh : hasL k L.length with
  | false =>
    have e1 : twiceB L k = false := by simp [twiceB, hh]
    have e2 : twiceL L k = L := by unfold twiceL; rw [e1]; rfl
    rw [e1, e2]
    have cP := rPeek w B g v Q L k h 0 0 [] 0 false (by rw [atL_no hh]; rfl) rfl
    have H := Lib.hid h
    clear h hm
    go_enter Try.func17, Try.ntmps17
    go_wp2_with (go_at_call 21; (with_reducible refine cP.mono ?_))
    rintro e W1 ⟨a1, c1, rfl, t1, n1, l1, b1⟩
    have HR := Lib.hid ((NtRel.start H.out).below (b1.alloc b1.size (.cells #[.int .i64 0, .int .i64 0, .slice a1 0 c1] 36)))
    clear t1 n1 l1 b1 cP
    go_wp2
    go_ret
    exact ⟨v, Q, rfl, HR.out⟩
  | true =>
    have hk0 := of_decide_eq_true hh
    obtain ⟨m, rfl⟩ : ∃ m : Nat, k = (m : Int) := ⟨k.toNat, by omega⟩
    have hmL : m < L.length := by omega
    obtain ⟨⟨pf, pt, pb⟩, hp⟩ : ∃ p, p = L[m]'hmL := ⟨_, rfl⟩
    have hat : atL L (m : Int) = (⟨pf, pt, pb⟩, true) := by rw [atL_yes hmL, ← hp]
    have hmay := hm _ (List.getElem_mem hmL)
    rw [← hp] at hmay
    have cP := rPeek w B g v Q L (m : Int) h pf pt pb pb.length true hat rfl
    obtain ⟨pn, hpn⟩ : ∃ pn, pn = pb.length := ⟨_, rfl⟩
    have HPN := Lib.hid hpn
    rw [← hpn] at cP
    obtain ⟨r, hr⟩ : ∃ r : Int, r = if L.length < 200 then 1 else 0 := ⟨_, rfl⟩
    have e1 : twiceB L (m : Int) = (r == 1) := by
      unfold twiceB
      rw [hh, hr]
      by_cases h2 : L.length < 200
      · rw [if_pos h2, decide_eq_true h2]; rfl
      · rw [if_neg h2, decide_eq_false h2]; rfl
    have e2 : twiceL L (m : Int) = sendL L [⟨pf, pt, pb⟩] := by
      unfold twiceL twiceB
      rw [hh, hat]
      show _ = sendOne L ⟨pf, pt, pb⟩
      unfold sendOne
      by_cases h2 : L.length < 200
      · rw [decide_eq_true h2, if_pos (show (true && true) = true from rfl), if_pos (And.intro h2 hmay)]
      · rw [decide_eq_false h2, if_neg (show ¬ (true && false) = true by decide), if_neg (fun h : L.length < 200 ∧ mayP ⟨pf, pt, pb⟩ = true => h2 h.1)]
    have e3 : ((sendL L [⟨pf, pt, pb⟩]).length : Int) - (L.length : Int) = r := by
      show ((sendOne L ⟨pf, pt, pb⟩).length : Int) - _ = r
      unfold sendOne
      rw [hr]
      by_cases h2 : L.length < 200
      · rw [if_pos ⟨h2, hmay⟩, if_pos h2, List.length_append]; simp; omega
      · rw [if_neg (fun h => h2 h.1), if_neg h2]; omega
    rw [e1, e2]
    have H := Lib.hid h
    have HE3 := Lib.hid e3
    clear h hm hp hat hmay hr e1 e2 e3 hk0 hh hpn
    go_enter Try.func17, Try.ntmps17
    go_wp2_with (go_at_call 21; (with_reducible refine cP.mono ?_))
    rintro e W1 ⟨a1, c1, rfl, t1, n1, l1, b1⟩
    have bA := b1.alloc b1.size (.cells #[.int .i64 pf, .int .i64 pt, .slice a1 pn c1] 36)
    have bA2 := bA.alloc bA.size (.cells #[.int .i64 pf, .int .i64 pt, .slice a1 pn c1] 36)
    have gP := heap_alloc_new (W1.alloc (.cells #[.int .i64 pf, .int .i64 pt, .slice a1 pn c1] 36)) (.cells #[.int .i64 pf, .int .i64 pt, .slice a1 pn c1] 36)
    rw [World.size_alloc] at gP
    have hz := b1.size
    have hS : ¬ NtS g v (W1.heap.size + 1) := fun e => by have := (H.out.ltS _ e).2; omega
    have h2 := H.out.below bA2
    have cS := rSend _ B g v Q L (some ⟨W1.heap.size + 1, 0, none⟩) 1 1 _ h2 (Nat.le_trans hB bA2.size) hL (by omega)
      (pks_one gP HPN.out.symm (t1.later bA2) hS (fun x hx => (l1 x hx).1)) (fun q hq => by
        simp only [List.mem_singleton] at hq
        subst hq
        exact n1)
    have cS2 : Calls Try.prog 11 #[.pointer (some ⟨g, 0, none⟩), .slice (some ⟨W1.heap.size + 1, 0, none⟩) 1 1] ((W1.alloc (.cells #[.int .i64 pf, .int .i64 pt, .slice a1 pn c1] 36)).alloc (.cells #[.int .i64 pf, .int .i64 pt, .slice a1 pn c1] 36)) (ResPost 29 ((W1.alloc (.cells #[.int .i64 pf, .int .i64 pt, .slice a1 pn c1] 36)).alloc (.cells #[.int .i64 pf, .int .i64 pt, .slice a1 pn c1] 36)) B g v Q (.int .i64 r) (sendL L [⟨pf, pt, pb⟩])) := by
      rw [← HE3.out]
      exact cS
    have HB2 := Lib.hid bA2
    clear bA bA2 gP hz hS h2 cS t1 n1 l1 b1 cP
    go_wp2_with (go_at_call 11; (with_reducible refine cS2.mono ?_))
    rintro e W2 ⟨v2, Q2, rfl, R2⟩
    have HR := Lib.hid (R2.back HB2.out)
    clear R2 cS2
    go_wp2
    go_ret
    exact ⟨v2, Q2, rfl, HR.out⟩

set_option maxHeartbeats 8000000 in
set_option maxRecDepth 100000 in
theorem rClear (w : World) (B g : Nat) (v : Value) (Q : List (Value × Pk)) (L : List Pk) (node : Int) (h : NtAt 29 w B g v Q L) (hB : B ≤ w.heap.size) (hL : L.length ≤ 100000) :
    Calls Try.prog 19 #[.pointer (some ⟨g, 0, none⟩), .int .i64 node] w (ClearPost 29 w B g v Q L node) := by
  obtain ⟨i0, hi, hz0, hz1, hz2⟩ := info_parts infoPacket
  obtain ⟨a0, cp, rfl⟩ := own_slice h.row
  have hlen := h.len
  obtain ⟨n, hn⟩ : ∃ n, n = Q.length := ⟨_, rfl⟩
  have hnL : n ≤ 100000 := by omega
  have H := Lib.hid h
  have HN := Lib.hid hn
  rw [← hn] at H ⊢
  clear h hn hlen
  go_enter Try.func19, Try.ntmps19
  go_wp2
  go_loopw [5, 6, 7] (fun s5 s6 s7 wr => ∃ (j : Nat) (a : Option Addr) (c : Nat), s7 = .int .i64 j ∧ j ≤ n ∧ s5 = .slice a ((Q.take j).filter (keepQ node)).length c ∧ s6 = .int .i64 ((j : Int) - (((Q.take j).filter (keepQ node)).length : Int)) ∧
    Hid (wr.ownsRow w.heap.size 36 3 (.slice a ((Q.take j).filter (keepQ node)).length c) ((Q.take j).filter (keepQ node)).length (rowOf pC ((Q.take j).filter (keepQ node)))) ∧ Hid (Below w.heap.size w wr)) (fun _ _ s7 _ => n - (intOf s7).toNat)
  case atStart => exact ⟨0, none, 0, rfl, Nat.zero_le _, rfl, rfl, ⟨rfl, .inl ⟨rfl, rfl⟩⟩, Below.refl _ _⟩
  case round =>
    obtain ⟨j, a, c, rfl, hj, rfl, rfl, HO, HB⟩ := hrel
    have hfl : ((Q.take j).filter (keepQ node)).length ≤ j := Nat.le_trans (List.length_filter_le _ _) (by rw [List.length_take]; omega)
    have h1 := H.out.below HB.out
    rw [HN.out] at h1
    have d0 := h1.cell
    rw [← HN.out] at d0
    obtain ⟨K, hK⟩ : ∃ K, K = (Q.take j).filter (keepQ node) := ⟨_, rfl⟩
    have HK := Lib.hid hK
    rw [← hK] at HO hfl ⊢
    obtain ⟨kn, hkn⟩ : ∃ kn, kn = K.length := ⟨_, rfl⟩
    have HKN := Lib.hid hkn
    rw [← hkn] at HO hfl ⊢
    clear hK hkn
    by_cases hlt : j < n
    · have hjQ : j < Q.length := by rw [← HN.out]; exact hlt
      have hx := h1.cells j hjQ
      obtain ⟨gr, cp2, hv, _, _, x0, x1, x2⟩ := hx
      have hv2 := hv
      injection hv2 with e1 e2 e3
      subst e1
      clear e2 e3 hv
      have hbo := h1.byt _ (List.getElem_mem hjQ)
      have HS : Hid ((Q.take (j + 1)).filter (keepQ node) = if keepQ node (Q[j]'hjQ) = true then K ++ [Q[j]'hjQ] else K) := by
        show _ = _
        rw [List.take_succ_eq_append_getElem hjQ, List.filter_append, HK.out]
        by_cases hq : keepQ node (Q[j]'hjQ) = true <;> simp [hq]
      obtain ⟨⟨qv, pf, pt, pb⟩, hq⟩ : ∃ q, q = Q[j]'hjQ := ⟨_, rfl⟩
      rw [← hq] at x0 x1 x2 hbo HS
      simp only at x0 x1 x2 hbo
      obtain ⟨pa, pc, rfl⟩ := own_slice hbo
      obtain ⟨pn, hpn⟩ : ∃ pn, pn = pb.length := ⟨_, rfl⟩
      have HPN := Lib.hid hpn
      rw [← hpn] at x2
      have i1 : (0 : Int) ≤ (j : Int) := by omega
      have i2 : (j : Int) < (n : Int) := by omega
      have hkq : keepQ node (.slice pa pb.length pc, ⟨pf, pt, pb⟩) = !hitB node pf pt := rfl
      rw [hkq] at HS
      clear h1 hbo hq hpn hkq
      by_cases h2 : pf = node
      · have e1 : (pf == node) = true := by simp [h2]
        have HL : Hid ((Q.take (j + 1)).filter (keepQ node) = K) := by show _ = _; rw [HS.out, show hitB node pf pt = true by simp [hitB, h2]]; rfl
        have HA := Lib.hid h2
        clear h2
        go_wp2
        go_roundw
        case rel => exact ⟨j + 1, a, c, by go_num, by omega, by rw [HL.out, ← HKN.out], by rw [HL.out, ← HKN.out]; congr 1; omega, by rw [HL.out, ← HKN.out]; exact HO, HB⟩
        case measure => simp [intOf]; omega
      · have e1 : (pf == node) = false := beq_false_of_ne h2
        by_cases h3 : pt = node
        · have e2 : (pt == node) = true := by simp [h3]
          have HL : Hid ((Q.take (j + 1)).filter (keepQ node) = K) := by show _ = _; rw [HS.out, show hitB node pf pt = true by simp [hitB, h3]]; rfl
          have HA := Lib.hid h3
          clear h3 h2
          go_wp2
          go_roundw
          case rel => exact ⟨j + 1, a, c, by go_num, by omega, by rw [HL.out, ← HKN.out], by rw [HL.out, ← HKN.out]; congr 1; omega, by rw [HL.out, ← HKN.out]; exact HO, HB⟩
          case measure => simp [intOf]; omega
        · have e2 : (pt == node) = false := beq_false_of_ne h3
          have HL : Hid ((Q.take (j + 1)).filter (keepQ node) = K ++ [(.slice pa pb.length pc, ⟨pf, pt, pb⟩)]) := by show _ = _; rw [HS.out, show hitB node pf pt = false by simp [hitB, h2, h3]]; rfl
          have hzs := HB.out.size
          clear h2 h3
          go_wp2_with (at_builtin; refine wpList_append_own_at _ rfl _ _ 27 rfl w.heap.size 36 i0 (.agg #[.int .i64 0, .int .i64 0, .slice none 0 0]) 3 40 Try.underlying27 hi hz0 hz1 hz2 rfl (by decide) _ _ _ rfl (HO.out.alloc _) ⟨wr.heap.size, 0, none⟩ 1 1 [.int .i64 pf, .int .i64 pt, .slice pa pn pc] rfl rfl ?c1 ?c2 ?c3 ?c4 ?c5 ?_)
          case c1 => intro t u ht; exact new_cells8 wr #[.int .i64 pf, .int .i64 pt, .slice pa pn pc] _ _ rfl t u ht
          case c2 => intro u hu; simp at hu; rcases hu with rfl | rfl | rfl <;> rfl
          case c3 => unfold maxLen; omega
          case c4 => omega
          case c5 => first | omega | (simp; omega)
          intro v5 w5 hown5 hgrow5 _ hat5
          obtain ⟨a5, c5, rfl⟩ := own_slice hown5
          have hlt5 := HO.out.lt
          have hb5 : Below w.heap.size w w5 := (HB.out.alloc hzs _).grown hgrow5 (by simp; omega) (fun k hk => (hlt5 k hk).1)
          have HB5 := Lib.hid hb5
          have HO5 := Lib.hid hown5
          have HLL : Hid (((Q.take (j + 1)).filter (keepQ node)).length = kn + 1) := by show _ = _; rw [HL.out, List.length_append, ← HKN.out]; rfl
          have HRO : Hid (rowOf pC ((Q.take (j + 1)).filter (keepQ node)) = rowOf pC K ++ [.int .i64 pf, .int .i64 pt, .slice pa pn pc]) := by show _ = _; rw [HL.out, rowOf_append, rowOf_one, HPN.out]; rfl
          clear hown5 hgrow5 hat5 hlt5 hb5
          go_wp2
          go_roundw
          case rel => exact ⟨j + 1, a5, c5, by go_num, by omega, by rw [HLL.out], by rw [HLL.out]; congr 1; omega, by rw [HLL.out, HRO.out]; exact HO5, HB5⟩
          case measure => simp [intOf]; omega
    · have hjn : j = n := by omega
      subst hjn
      have hKF : K = Q.filter (keepQ node) := by rw [HK.out, List.take_of_length_le (by rw [← HN.out]; exact Nat.le_refl _)]
      have f0 := h1.frozen
      have hcm := clear_map node Q
      rw [H.out.eq] at hcm
      have hcl : (clearL node L).length = kn := by rw [← hcm, List.length_map, ← hKF]; exact HKN.out.symm
      have HH := H.out
      rw [HN.out] at HH
      have HO2 := HO.out
      rw [HKN.out] at HO2
      have R := HH.renew hB (Q' := K) (L' := clearL node L) (fun q hq => by rw [hKF] at hq; exact (List.mem_filter.1 hq).1) (by rw [hKF]; exact hcm) HO2 HB.out
      rw [← HN.out, ← HKN.out] at R
      have HR := Lib.hid R
      have HCL := Lib.hid hcl
      have HLL : Hid (L.length = j) := by show _ = _; rw [← H.out.len, HN.out]
      have ii : ¬ (j : Int) < (j : Int) := by omega
      clear hKF hcm HH HO2 R hcl h1
      go_wp2
      go_ret
      unfold ClearPost
      rw [HCL.out, HLL.out]
      exact ⟨_, K, rfl, HR.out⟩

end Go.Proofs.Ytenpoolminfofaa
