/-
  The reference's Append.
-/
import Derived.Test.YtbolminblofhgaaDkJ
import Derived.Test.YtbolminblofhgaaDsS
set_option linter.unusedVariables false
namespace Go.Proofs.Ytbolminblofhgaa
open Go.RowKit

section
variable {P : Program} (w : World)
/-- Bytes appended, as one step of a region that draws. -/
theorem step_append_btsAt {ops : Array Oper} {o : Oper} {a : Act} {K : Act → World → Prop} {Q : Exit → Act → World → Prop} {E : Prop} (hgd : o.guard = none) (s x : Operand) (t : TypeId)
    (ho : o.op = .call { callee := .builtin .append, args := #[s, x], argTypes := #[t, t] })
    (base : Nat) (e : TypeId) (i : TypeInfo) (ht : P.underlying t = some (.slice e)) (hi : P.info? e = some i) (hz : i.zero = some (.int .u8 0)) (hsize : i.size = 1) (hby : i.bytes = 1)
    (v : Value) (n : Nat) (xs : List Value) (hs : a.eval s = v) (hown : w.ownsRow base e 1 v n xs)
    (A : Option Addr) (m c : Nat) (l : List UInt8) (hx : a.eval x = .slice A m c) (hl : l.length = m) (hb : Bts w A l) (hA : A = none → c = 0) (h63 : n + m ≤ 100000000) (hbase : base ≤ w.heap.size) (N : Nat) (hN : n + m = N)
    (h : ∀ (A' : Option Addr) (c' : Nat) w', w'.ownsRow base e 1 (.slice A' N c') N (xs ++ Lib.byteCells l) → w.grownBy w' v.ownBlock → ((Value.slice A' N c').ownBlock = v.ownBlock ∨ (Value.slice A' N c').ownBlock = some w.heap.size) → K (a.put o.dst (.slice A' N c')) w') :
    if Region.wanted o (yielded ops a.tmps) = true then Oper.wp P o a w K Q else E := by
  have hw : Region.wanted o (yielded ops a.tmps) = true := by simp [Region.wanted, hgd]
  rw [if_pos hw]
  subst hN
  obtain ⟨v', w', hr, h2, h3, h4⟩ := run_append_btsAt (P := P) w base t o.type e i ht hi hz hsize hby v n xs hown A m c l hl hb hA h63 hbase
  obtain ⟨A', c', rfl⟩ := own_slice h2
  unfold Oper.wp execOp
  simp only [ho, resolve, invoke, builtin, Sem.run_bind, Sem.run_pure, Result.andThen_ok, List.map_toArray, List.map_cons, List.map_nil, hs, hx, hr]
  exact h _ _ w' h2 h3 h4
end

theorem DkAt.setB {w : World} {B g gr cp : Nat} {Q : List (Value × RF)} {M : RD} (h : DkAt w B g (.slice (some ⟨gr, 0, none⟩) Q.length cp) Q M) (k : Nat) (hk : k < Q.length) (u : Value) (b : List UInt8) (hu : w.ownsRow B 5 1 u b.length (Lib.byteCells b)) :
    DkAt (w.setCell ⟨gr, k * 3 + 1, none⟩ u) B g (.slice (some ⟨gr, 0, none⟩) (Q.set k (u, { (Q[k]'hk).2 with b := b })).length cp) (Q.set k (u, { (Q[k]'hk).2 with b := b })) { M with L := M.L.set k { (Q[k]'hk).2 with b := b } } := by
  have ha := h.apart
  have hx := h.apartB
  obtain ⟨h1, h2, hg, ho, hb⟩ := h
  have hne : u.ownBlock ≠ some gr := by
    rcases ho.2 with ⟨hv, _⟩ | ⟨g', cap', cur, hv, _, hg', _⟩
    · cases hv
    · injection hv with e1
      injection e1 with e1
      injection e1 with e1
      subst e1
      exact own_ne hg' hu (by decide)
  rw [List.length_set]
  refine ⟨h1, by rw [List.map_set, h2], by rw [heap_setCell_other _ _ _ _ (fun e => ha (by rw [e]; rfl))]; exact hg, ?_, ?_⟩
  · have := (ho.stored (k * 3 + 1) u).1
    rw [rowOf_set fC 3 fC_len Q k 1 _ (u, { (Q[k]'hk).2 with b := b }) hk (by omega) rfl] at this
    rw [List.length_set]
    exact this
  · intro q hq
    rcases List.mem_or_eq_of_mem_set hq with hm | rfl
    · exact ownsRow_setCell_other (a := ⟨gr, k * 3 + 1, none⟩) (hb q hm) (fun e => hx q hm gr e (.inr rfl)) _
    · exact ownsRow_setCell_other hu hne _

set_option maxHeartbeats 8000000 in
set_option maxRecDepth 100000 in
theorem rAppend_9 (w : World) (B g : Nat) (v : Value) (Q : List (Value × RF)) (M : RD) (nm : ByteArray) (x : Value) (h : DkAt w B g v Q M) (hn : M.n ≤ 1000000) (ho : offM M = true) :
    Calls Try.prog 29 #[.pointer (some ⟨g, 0, none⟩), .string nm, x] w (RkRes w B g v Q (9, M.op)) := by
  have cO := rOff w B g v Q M h hn
  rw [ho] at cO
  clear h
  go_enter Try.func29, Try.ntmps29
  go_wp2_with (go_at_call 48; (with_reducible refine cO.mono ?_))
  rintro e W1 ⟨rfl, h1, k1⟩
  have H1 := Lib.hid h1
  clear h1 cO
  go_wp2
  go_ret
  exact ⟨v, Q, rfl, H1.out, k1.mono (fun k _ e => .inl e), fun k e => .inl e⟩
set_option maxHeartbeats 8000000 in
set_option maxRecDepth 100000 in
theorem rAppend_1 (w : World) (B g : Nat) (v : Value) (Q : List (Value × RF)) (M : RD) (nm : ByteArray) (x : Value) (h : DkAt w B g v Q M) (hn : M.n ≤ 1000000) (ho : offM M = false) (hb : badN nm = true) :
    Calls Try.prog 29 #[.pointer (some ⟨g, 0, none⟩), .string nm, x] w (RkRes w B g v Q (1, M.op)) := by
  have cO := rOff w B g v Q M h hn
  rw [ho] at cO
  clear h
  go_enter Try.func29, Try.ntmps29
  go_wp2_with (go_at_call 48; (with_reducible refine cO.mono ?_))
  rintro e W1 ⟨rfl, h1, k1⟩
  have H1 := Lib.hid h1
  have cB := rBad_any nm W1
  rw [hb] at cB
  clear h1 cO
  go_wp2_with (go_at_call 49; (with_reducible refine cB.mono ?_))
  rintro e W3 ⟨rfl, q3, rfl⟩
  go_wp2
  go_ret
  exact ⟨v, Q, rfl, H1.out.drewN q3, (k1.mono (T := DkS g v) (fun k _ e => .inl e)).drewN q3, fun k e => .inl e⟩
set_option maxHeartbeats 8000000 in
set_option maxRecDepth 100000 in
theorem rAppend_none (w : World) (B g : Nat) (v : Value) (Q : List (Value × RF)) (M : RD) (nm : ByteArray) (A : Option Addr) (m c : Nat) (l : List UInt8) (h : DkAt w B g v Q M) (hn : M.n ≤ 1000000) (hq : Q.length ≤ 100000) (hB : B ≤ w.heap.size) (hr : Rise M.L) (ht : tot M.L ≤ 8388608) (hrm : M.room ≤ 8388608) (hl : l.length = m) (hm : m ≤ 1000000) (hb : Bts w A l) (hA : A = none → c = 0) (hAS : ∀ x, A = some x → x.block ≠ g) (ho : offM M = false) (hbd : badN nm = false) (hf : fnd nm M.L = none) :
    Calls Try.prog 29 #[.pointer (some ⟨g, 0, none⟩), .string nm, .slice A m c] w (RkRes w B g v Q ((appL M.room nm l M.L).1, { M.op with L := (appL M.room nm l M.L).2 })) := by
  obtain ⟨i0, hi, hz0, hz1, hz2⟩ := info_parts infoByte8
  have cO := rOff w B g v Q M h hn
  rw [ho] at cO
  have hrise := h.rise
  obtain ⟨va, vc, rfl⟩ := own_slice h.2.2.2.1
  have hg1 := fnd_none hf
  have HX : Hid (appL M.room nm l M.L = if 3000 ≤ Q.length ∨ M.room < tot M.L + l.length then (3, M.L) else (0, putL ⟨nm, l, 0⟩ M.L)) := by
    show _ = _
    unfold appL
    rw [if_neg (by rw [hbd]; decide), hg1, hrise]
    by_cases e : 3000 ≤ M.L.length ∨ M.room < tot M.L + l.length
    · rw [if_pos (by rcases e with e | e; (exact .inl ⟨rfl, e⟩); exact .inr e), if_pos e]
    · rw [if_neg (fun h => e (by rcases h with ⟨_, h⟩ | h; (exact .inl h); exact .inr h)), if_neg e]
  obtain ⟨X, hX⟩ : ∃ X, X = appL M.room nm l M.L := ⟨_, rfl⟩
  rw [← hX] at HX ⊢
  clear h hX
  go_enter Try.func29, Try.ntmps29
  go_wp2_with (go_at_call 48; (with_reducible refine cO.mono ?_))
  rintro e W1 ⟨rfl, h1, k1⟩
  have cB := rBad_any nm W1
  rw [hbd] at cB
  have H1 := Lib.hid h1
  clear h1 cO
  go_wp2_with (go_at_call 49; (with_reducible refine cB.mono ?_))
  rintro e W2' ⟨rfl, q2, rfl⟩
  obtain ⟨W2, hW2⟩ : ∃ W, W = W1.drewN q2 := ⟨_, rfl⟩
  have h2 : DkAt W2 B g (.slice va Q.length vc) Q M.op := by rw [hW2]; exact H1.out.drewN q2
  have k2 : Kept (fun k => k = g) w W2 := by rw [hW2]; exact k1.drewN q2
  rw [← hW2]
  clear hW2 H1 k1 cB
  have cF := rFind_no (nm := nm) h2 (by omega) hf
  have H2 := Lib.hid h2
  clear h2
  go_wp2_with (go_at_call 50; (with_reducible refine cF.mono ?_))
  rintro e W3' ⟨rfl, q3, rfl⟩
  obtain ⟨W3, hW3⟩ : ∃ W, W = W2.drewN q3 := ⟨_, rfl⟩
  have h3 : DkAt W3 B g (.slice va Q.length vc) Q M.op := by rw [hW3]; exact H2.out.drewN q3
  have k3 : Kept (fun k => k = g) w W3 := by rw [hW3]; exact k2.drewN q3
  rw [← hW3]
  clear hW3 H2 k2 cF
  have hb3 : Bts W3 A l := Bts.kept hb k3 (fun x hx e => hAS x hx e)
  obtain ⟨d0', d1, _, _⟩ := h3.cell
  have d0 : W3.cell? ⟨g, 0, none⟩ = Option.some (.int .i64 M.room) := d0'
  obtain ⟨rm, hrmd⟩ : ∃ x, x = M.room := ⟨_, rfl⟩
  obtain ⟨u, hu⟩ : ∃ x, x = tot M.L := ⟨_, rfl⟩
  rw [← hrmd] at d0 hrm HX
  rw [← hu] at ht HX
  have HRM := Lib.hid hrmd
  have HU := Lib.hid hu
  have H3 := Lib.hid h3
  have HB3 := Lib.hid hb3
  have HF := Lib.hid hf
  have HRISE := Lib.hid hrise
  clear d0' hrmd hu h3 hb3 hb hf hrise
  go_wp2
  go_loopw [8, 9] (fun n i wr => ∃ j : Nat, i = .int .i64 j ∧ j ≤ Q.length ∧ n = .int .i64 (tot (M.L.take j) : Nat) ∧ W3 = wr) (fun _ i _ => Q.length - (intOf i).toNat)
  case atStart => exact ⟨0, rfl, Nat.zero_le _, rfl, rfl⟩
  case round =>
    obtain ⟨j, rfl, hj, rfl, hwr⟩ := hrel
    subst hwr
    by_cases hlt : j < Q.length
    · have hlt2 : j < M.L.length := by have := HRISE.out; omega
      have hts := tot_take_succ M.L j hlt2
      have htk := tot_take_le M.L (j + 1)
      obtain ⟨gr', cp', hv', _⟩ := H3.out.row (by intro e; rw [e] at hlt; simp at hlt)
      injection hv' with e1 e2 e3
      subst e1 e3
      obtain ⟨_, r1, _⟩ := H3.out.cells j hlt
      obtain ⟨pa, pc, hpv⟩ := own_slice (H3.out.2.2.2.2 _ (List.getElem_mem hlt))
      rw [hpv, H3.out.at' j hlt hlt2] at r1
      obtain ⟨fn, hfn⟩ : ∃ n, n = (M.L[j]'hlt2).b.length := ⟨_, rfl⟩
      obtain ⟨tk, htkd⟩ : ∃ n, n = tot (M.L.take j) := ⟨_, rfl⟩
      have r1' : W3.cell? ⟨gr', j * 3 + 1, none⟩ = Option.some (.slice pa fn pc) := by rw [r1, hfn]; rfl
      rw [← hfn, ← htkd] at hts
      have hbd2 : tk + fn ≤ 8388608 := by have := HU.out; omega
      have HTS := Lib.hid hts
      rw [← htkd]
      clear hfn htkd hts htk r1 hpv
      go_wp2
      go_roundw
      case rel => exact ⟨j + 1, by go_num, by omega, by rw [HTS.out]; go_num, by first | rfl | trivial⟩
      case measure => simp [intOf]; omega
    · have hju : tot (M.L.take j) = u := by rw [HU.out, List.take_of_length_le (by have := HRISE.out; omega)]
      rw [hju]
      clear hju
      have hw1 : IntKind.i64.wrap ((rm : Int) - (u : Int)) = (rm : Int) - (u : Int) := IntWalk.i64_in _ (by omega)
      have hw2 : wrap64 ((rm : Int) - (u : Int)) = (rm : Int) - (u : Int) := IntWalk.wrap64_in _ (by omega)
      by_cases hmany : 3000 ≤ Q.length
      · have hmi : (3000 : Int) ≤ (Q.length : Int) := by omega
        have HE : Hid (X = (3, M.L)) := by show _ = _; rw [HX.out, if_pos (.inl hmany)]
        clear HX
        go_wp2
        go_ret
        rw [HE.out]
        exact ⟨_, Q, rfl, H3.out, k3.mono (fun k _ e => .inl e), fun k e => .inl e⟩
      · have hmi : decide ((3000 : Int) ≤ (Q.length : Int)) = false := by simp; omega
        by_cases hd : (rm : Int) - (u : Int) < m
        · skip
          have HE : Hid (X = (3, M.L)) := by show _ = _; rw [HX.out, if_pos (.inr (by omega))]
          clear HX
          go_wp2
          go_ret
          rw [HE.out]
          exact ⟨_, Q, rfl, H3.out, k3.mono (fun k _ e => .inl e), fun k e => .inl e⟩
        · have HE : Hid (X = (0, putL ⟨nm, l, 0⟩ M.L)) := by show _ = _; rw [HX.out, if_neg (by omega)]
          clear HX
          have x1 := alloc_cell d1 (.cells #[] 5)
          have ho1 : (W3.alloc (.cells #[] 5)).ownsRow W3.heap.size 5 1 (.slice (some ⟨W3.heap.size, 0, none⟩) 0 0) 0 [] := World.ownsRow_lit W3 #[] 0 (Nat.le_refl _) (Nat.zero_le _) rfl
          have hb1 : Below W3.heap.size W3 (W3.alloc (.cells #[] 5)) := (Below.refl _ W3).alloc (Nat.le_refl _) _
          have hB1 : Bts (W3.alloc (.cells #[] 5)) A l := HB3.out.later hb1
          go_wp2_with (at_builtin; go_loud (refine wpList_append_bts _ rfl _ _ 39 rfl W3.heap.size 5 i0 Try.underlying39 hi hz0 hz1 hz2 _ _ _ rfl ho1 _ _ _ l rfl hl hB1 hA (by omega) hb1.size ?_))
          intro v4 W4 o4 g4
          have hb4 := below_grown hb1 (Nat.le_refl _) ho1 g4
          obtain ⟨a4, c4, rfl⟩ := own_slice o4
          have h4 := H3.out.kept (S := fun _ => False) (Kept.of_below hb4) (fun _ _ h => h) (fun _ _ _ _ h => h)
          have hsz := k3.size
          have o4' : W4.ownsRow B 5 1 (.slice a4 m c4) l.length (Lib.byteCells l) := by rw [hl]; have := own_low o4 (Nat.le_trans hB hsz); simpa using this
          have cP : Calls Try.prog 51 #[.pointer (some ⟨g, 0, none⟩), .agg #[.string nm, .slice a4 m c4, .int .i64 0]] W4 (RPutPost W4 B g (.slice va Q.length vc) Q M.op (.slice a4 m c4, ⟨nm, l, 0⟩)) :=
            rPut W4 B g (.slice va Q.length vc) Q M.op (.slice a4 m c4, ⟨nm, l, 0⟩) h4 o4' hq (by have := hb4.size; omega) hr hg1
          have HFR := Lib.hid (fun i (e : (Value.slice a4 m c4).ownBlock = some i) => Nat.le_trans hsz (own_lt o4 i (by simpa [Value.ownBlock] using e)).1)
          have K4 := Lib.hid ((k3.mono (T := DkS g (.slice va Q.length vc)) (fun k _ e => .inl e)).trans (Kept.of_below (S := fun _ => False) hb4) (fun _ _ h => h.elim))
          clear o4 g4 ho1 hB1 hb1 hb4 h4 o4' d1 x1
          go_wp2_with (go_at_call 51; (with_reducible refine cP.mono ?_))
          rintro e W5 ⟨v5, Q5, rfl, h5, k5, s5, n5⟩
          have H5 := Lib.hid h5
          clear h5 cP
          go_wp2
          go_ret
          rw [HE.out]
          refine ⟨v5, Q5, rfl, H5.out, K4.out.trans k5 (fun _ _ e => e), ?_⟩
          have hz4 := K4.out.size
          rintro i (e | ⟨x, hx, e⟩)
          · rcases e with e | e
            · exact .inl (.inl (.inl e))
            · rcases n5 i e with e | e
              · exact .inl (.inl (.inr e))
              · exact .inr (Nat.le_trans hz4 e)
          · rcases s5 x hx with rfl | hx
            · exact .inr (HFR.out i e)
            · exact .inl (.inr ⟨x, hx, e⟩)

end Go.Proofs.Ytbolminblofhgaa
