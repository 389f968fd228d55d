/-
  Package event: isBatch (a set of names), isBig, Check.
-/
import Derived.Test.YtggognmbjgkdfaaEvD
import Derived.Maps.OwnSet
import Derived.Maps.AppendAt
set_option linter.unusedVariables false
namespace Go.Proofs.Ytggognmbjgkdfaa
open Go.RowKit Go.Maps

theorem lawS : Keyed Try.prog 9 := Maps.string_keyed Try.underlying9
theorem key_ofS {s : ByteArray} (h : s.size ≤ maxLen) : keyOf Try.prog 9 (.string s) = some (.string s.data.toList) := WideMaps.keyOf_string_mk Try.underlying9 h
theorem zeroUnit (w : World) : (zeroValue 114).run Try.prog w = .ok (.agg #[]) w := by kernel_rfl

/-- The set of some names. -/
def setD (l : List ByteArray) : DataW Unit := setOf (.agg []) (l.map fun s => Lit.string s.data.toList)
theorem setD_has (l : List ByteArray) (s : ByteArray) : Maps.has (setD l) (.string s.data.toList) = true ↔ s ∈ l := by
  unfold setD
  rw [has_setOf _ _ _ (fun x hx => by obtain ⟨y, _, rfl⟩ := List.mem_map.1 hx; trivial), List.any_eq_true]
  constructor
  · rintro ⟨x, hx, he⟩
    obtain ⟨y, hy, rfl⟩ := List.mem_map.1 hx
    have := WideAt.sameKey_eq he
    injection this with this
    rwa [← Go.WideShapes.bytes_inj this]
  · intro h
    exact ⟨.string s.data.toList, List.mem_map.2 ⟨s, h, rfl⟩, WideAt.sameKey_self (by trivial)⟩
theorem setD_snoc (l : List ByteArray) (s : ByteArray) : (setD l).put (.string s.data.toList) (.agg []) = setD (l ++ [s]) := by
  unfold setD
  rw [List.map_append, List.map_cons, List.map_nil, setOf_snoc]

theorem names_take (ps : List Pt) (j : Nat) (h : j < ps.length) : names (ps.take (j + 1)) = names (ps.take j) ++ [(ps[j]'h).s] := by
  unfold names
  rw [List.take_succ_eq_append_getElem h, List.map_append]; rfl
theorem nodup_snoc {l : List ByteArray} {s : ByteArray} (h : l.Nodup) (hs : s ∉ l) : (l ++ [s]).Nodup := by
  rw [List.nodup_append]
  refine ⟨h, by simp, fun a ha b hb => ?_⟩
  rw [List.mem_singleton] at hb
  subst hb
  rintro rfl
  exact hs ha
theorem nodup_not {ps : List Pt} {j : Nat} (h : j < ps.length) (hs : (ps[j]'h).s ∈ names (ps.take j)) : ¬ (names ps).Nodup := by
  intro hn
  have e : names ps = names (ps.take j) ++ (ps[j]'h).s :: names (ps.drop (j + 1)) := by
    conv => lhs; rw [← List.take_append_drop j ps, List.drop_eq_getElem_cons h]
    unfold names
    rw [List.map_append]; rfl
  rw [e, List.nodup_append] at hn
  exact hn.2.2 _ hs _ (by simp) rfl
theorem all_take {α : Type} {ok : α → Bool} {l : List α} {j : Nat} (h : j < l.length) (h1 : (l.take j).all ok = true) (h2 : ok (l[j]'h) = true) : (l.take (j + 1)).all ok = true := by
  rw [List.take_succ_eq_append_getElem h, List.all_append, h1]; simp [h2]
theorem all_not {α : Type} {ok : α → Bool} {l : List α} {j : Nat} (h : j < l.length) (h2 : ok (l[j]'h) = false) : ¬ ∀ x ∈ l, ok x = true := fun hx => by
  have := hx _ (List.getElem_mem h)
  rw [h2] at this; cases this

structure Bat (w W wr : World) (ps : List Pt) (j : Nat) : Prop where
  ok : (ps.take j).all putOk = true
  nd : (names (ps.take j)).Nodup
  map : wr.ownsMap Try.prog 9 unitElem W.heap.size j (setD (names (ps.take j)))
  below : Below w.heap.size w wr

set_option maxHeartbeats 8000000 in
set_option maxRecDepth 100000 in
theorem isBatch_any (b : Ba) (a : Option Addr) (n c : Nat) (w : World) (hf : BaFit b) (hl : b.p.length = n) (hn : n ≤ 1000000) (hd : ∀ p ∈ b.p, p.d.length ≤ 1000000) (h : PtsIn w a b.p) :
    Calls Try.prog 41 #[.agg #[.string b.k, .slice a n c]] w (TelPost (.bool (argOk b)) w) := by
  have hmm := @run_makeMap Try.prog
  have bA := (Below.refl w.heap.size w).alloc (Nat.le_refl _) (.cells #[.string b.k, .slice a n c] 24)
  have gA := heap_alloc_new w (.cells #[.string b.k, .slice a n c] 24)
  have cK := key_t b.k (w.alloc (.cells #[.string b.k, .slice a n c] 24)) hf.k
  have H := Lib.hid (@argOk_iff b)
  have HF := Lib.hid hf
  obtain ⟨k, ps⟩ := b
  simp only at *
  have HN := Lib.hid hl.symm
  have HP := Lib.hid h
  have HDL := Lib.hid hd
  have HBA := Lib.hid bA
  have HGA := Lib.hid gA
  clear hf hl bA gA h hd
  cases hK : kyS k with
  | false =>
    rw [hK] at cK
    have HV : Hid (argOk ⟨k, ps⟩ = false) := by
      show _ = _
      cases e : argOk ⟨k, ps⟩ with
      | false => rfl
      | true => have := (H.out.1 e).1; rw [hK] at this; cases this
    clear hK
    go_enter Try.func41, Try.ntmps41
    go_wp2_with (go_at_call 74; (with_reducible refine cK.mono ?_))
    rintro e1 W ⟨rfl, b1⟩
    have HB := Lib.hid (HBA.out.trans (b1.mono (by simp)))
    clear b1 cK
    go_wp2
    go_ret
    rw [HV.out]
    exact ⟨rfl, HB.out⟩
  | true =>
    rw [hK] at cK
    have HK := Lib.hid hK
    clear hK
    go_enter Try.func41, Try.ntmps41
    go_wp2_with (go_at_call 74; (with_reducible refine cK.mono ?_))
    rintro e1 W ⟨rfl, b1⟩
    have HB := Lib.hid (HBA.out.trans (b1.mono (by simp)))
    have g1 := box_below HGA.out b1 (by simp)
    have x1 : W.cell? ⟨w.heap.size, 1, none⟩ = some (.slice a n c) := by rw [cell_of_row _ _ _ _ _ _ g1]; rfl
    have hzW := lt_of_block g1
    clear b1 cK g1
    by_cases h0 : n = 0
    · have e0 : ((n : Int) == 0) = true := by simpa using h0
      have HV : Hid (argOk ⟨k, ps⟩ = false) := by
        show _ = _
        cases e : argOk ⟨k, ps⟩ with
        | false => rfl
        | true =>
          have := (H.out.1 e).2.1
          have hn := HN.out
          exact absurd (List.length_eq_zero_iff.1 (by omega)) this
      clear h0
      go_wp2
      go_ret
      rw [HV.out]
      exact ⟨rfl, HB.out⟩
    · have e0 : ((n : Int) == 0) = false := beq_false_of_ne (by omega)
      clear h0
      go_wp2
      go_loopw [22] (fun i wr => ∃ j : Nat, i = .int .i64 j ∧ j ≤ n ∧ Bat w W wr ps j) (fun i _ => n - (intOf i).toNat)
      case atStart => exact ⟨0, rfl, Nat.zero_le _, rfl, List.nodup_nil, World.ownsMap_made _ _ _ _, HB.out.alloc HB.out.size _⟩
      case round =>
        obtain ⟨j, rfl, hj, HR0⟩ := hrel
        have HR := Lib.hid HR0
        clear HR0
        by_cases hlt : j < n
        · have hlt2 : j < ps.length := by have := HN.out; omega
          have hsz := HR.out.below.size
          obtain ⟨x, d, cd, rfl, hat0⟩ := HP.out j hlt2
          have hat := hat0.later HR.out.below
          have q0 := hat.c0
          have q1 := hat.c1
          have q2 := hat.c2
          rw [fld x (j * 3) 1 (by decide)] at q1
          rw [fld x (j * 3) 2 (by decide)] at q2
          have hpf := HF.out.p _ (List.getElem_mem hlt2)
          have hdl := HDL.out _ (List.getElem_mem hlt2)
          have hmap := HR.out.map
          have hhas := setD_has (names (ps.take j)) (ps[j]'hlt2).s
          have HNX := Lib.hid (names_take ps j hlt2)
          have hkey := key_ofS hpf.s
          have HAL : Hid (putOk (ps[j]'hlt2) = true → (ps.take (j + 1)).all putOk = true) := fun e => all_take hlt2 HR.out.ok e
          have HAN : Hid (putOk (ps[j]'hlt2) = false → argOk ⟨k, ps⟩ = false) := fun e => by
            cases e2 : argOk ⟨k, ps⟩ with
            | false => rfl
            | true => exact absurd (H.out.1 e2).2.2.1 (all_not hlt2 e)
          have HSN : Hid ((ps[j]'hlt2).s ∈ names (ps.take j) → argOk ⟨k, ps⟩ = false) := fun e => by
            cases e2 : argOk ⟨k, ps⟩ with
            | false => rfl
            | true => exact absurd (H.out.1 e2).2.2.2 (nodup_not hlt2 e)
          have cP : Hid (∀ V, Below wr.heap.size wr V → Calls Try.prog 75 #[.agg #[.string (ps[j]'hlt2).s, .int .i64 (ps[j]'hlt2).e, .slice d (ps[j]'hlt2).d.length cd]] V (TelPost (.bool (putOk (ps[j]'hlt2))) V)) := fun V hV => isPut_any (ps[j]'hlt2) d _ cd V hpf rfl hdl (hat.ds.later hV)
          have hput := setD_snoc (names (ps.take j)) (ps[j]'hlt2).s
          rw [← HNX.out] at hput
          obtain ⟨D, hD⟩ : ∃ D, D = setD (names (ps.take j)) := ⟨_, rfl⟩
          obtain ⟨D2, hD2⟩ : ∃ D2, D2 = setD (names (ps.take (j + 1))) := ⟨_, rfl⟩
          have HD2 := Lib.hid hD2
          rw [← hD] at hmap hhas hput
          rw [← hD2] at hput
          obtain ⟨p, hp⟩ : ∃ p, p = ps[j]'hlt2 := ⟨_, rfl⟩
          rw [← hp] at q0 q1 q2 hhas hput HSN HAL HAN cP hkey HNX
          obtain ⟨s, e, dl⟩ := p
          simp only at q0 q1 q2 hhas hput HSN HAL HAN cP hkey HNX
          obtain ⟨m, hm⟩ : ∃ m, m = dl.length := ⟨_, rfl⟩
          rw [← hm] at q2 cP
          have HPUT := Lib.hid hput
          have HHAS := Lib.hid hhas
          have hji0 : (0 : Int) ≤ (j : Int) := by omega
          have hji1 : (j : Int) < (n : Int) := by omega
          clear hp hm hD hD2 hhas hput hat0 hat hpf hdl
          cases hh : Maps.has D (.string s.data.toList) with
          | true =>
            have HV := Lib.hid (HSN.out (HHAS.out.1 hh))
            go_wp2_with (at_lookup; refine wpList_lookup_own_unit _ rfl _ _ 113 rfl 9 114 lawS Try.underlying113 (zeroUnit _) W.heap.size j _ rfl (hmap.alloc _) _ _ rfl hkey ?_)
            go_ret
            rw [HV.out]
            exact ⟨rfl, ((HR.out.below.alloc hsz _).alloc (by simp; omega) _)⟩
          | false =>
            have hns : Hid (s ∉ names (ps.take j)) := fun e => by have := HHAS.out.2 e; rw [hh] at this; cases this
            have BV := (((Below.refl wr.heap.size wr).alloc (Nat.le_refl _) (.cells #[.string s, .int .i64 e, .slice d m cd] 71)).alloc (by simp) (.cells #[] 114))
            have cP2 := cP.out _ BV
            have HBV := Lib.hid BV
            have hM2 := Lib.hid ((hmap.alloc (.cells #[.string s, .int .i64 e, .slice d m cd] 71)).alloc (.cells #[] 114))
            have GP := box_alloc (heap_alloc_new wr (.cells #[.string s, .int .i64 e, .slice d m cd] 71)) (.cells #[] 114)
            have HGP := Lib.hid GP
            cases hok : putOk ⟨s, e, dl⟩ with
            | false =>
              have HV := Lib.hid (HAN.out hok)
              rw [hok] at cP2
              clear cP HAL HAN HSN BV GP hok
              go_wp2_with (first
                | (at_lookup; refine wpList_lookup_own_unit _ rfl _ _ 113 rfl 9 114 lawS Try.underlying113 (zeroUnit _) W.heap.size j _ rfl (hmap.alloc _) _ _ rfl hkey ?_)
                | (go_at_call 75; (with_reducible refine cP2.mono ?_)))
              rintro e1 V ⟨rfl, b2⟩
              have HB2 := Lib.hid (HBV.out.trans (b2.mono (by simp; omega)))
              clear b2 cP2 hmap
              go_wp2
              go_ret
              rw [HV.out]
              exact ⟨rfl, HR.out.below.trans (HB2.out.mono hsz)⟩
            | true =>
              have HV := Lib.hid (HAL.out hok)
              rw [hok] at cP2
              clear cP HAL HAN HSN BV GP hok
              go_wp2_with (first
                | (at_lookup; refine wpList_lookup_own_unit _ rfl _ _ 113 rfl 9 114 lawS Try.underlying113 (zeroUnit _) W.heap.size j _ rfl (hmap.alloc _) _ _ rfl hkey ?_)
                | (go_at_call 75; (with_reducible refine cP2.mono ?_)))
              rintro e1 V ⟨rfl, b2⟩
              have HB2 := Lib.hid (HBV.out.trans (b2.mono (by simp; omega)))
              have hM3 := hM2.out.kept (row := none) ⟨b2.os, b2.tape, b2.output, b2.size, fun j hj _ => b2.block j hj⟩ (by simp)
              obtain ⟨x0, _⟩ := box_cells (box_below HGP.out b2 (by simp; omega))
              have HMZ := hM3.lt
              clear b2 cP2 hmap
              go_wp2_with (at_mapUpdate; refine wpList_mapUpdate_own _ rfl _ _ _ 113 rfl 9 114 lawS Try.underlying113 (unitElem (H := Unit)) W.heap.size j _ rfl hM3 (by unfold maxLen; omega) _ _ _ rfl rfl hkey _ [] unitElem_mk ?_)
              intro V3 hM4 hg4
              rw [HPUT.out, HD2.out] at hM4
              have HB3 := Lib.hid ((HR.out.below.trans (HB2.out.mono hsz)).grown hg4 (by have := HB2.out.size; omega) (fun k hk => by injection hk with hk; omega))
              have HM4 := Lib.hid hM4
              clear hM3 hM4 hg4
              go_wp2
              go_roundw
              case rel => exact ⟨j + 1, by go_num, by omega, HV.out, by rw [HNX.out]; exact nodup_snoc HR.out.nd hns.out, HM4.out, HB3.out⟩
              case measure => simp [intOf]; omega
        · have HV : Hid (argOk ⟨k, ps⟩ = true) := by
            show _ = _
            have hn := HN.out
            have r1 := HR.out.ok
            have r2 := HR.out.nd
            rw [List.take_of_length_le (by omega)] at r1 r2
            refine H.out.2 ⟨HK.out, ?_, List.all_eq_true.1 r1, r2⟩
            rintro rfl
            simp at hn
            subst hn
            simp at e0
          go_wp2
          go_ret
          rw [HV.out]
          exact ⟨rfl, HR.out.below⟩

end Go.Proofs.Ytggognmbjgkdfaa
