/-
  The walk of NetClears.
-/
import Derived.Test.YtenpoolminfofaaNtJ
import Derived.Maps.AppendAt
set_option linter.unusedVariables false
namespace Go.Proofs.Ytenpoolminfofaa
open Go.RowKit

/-- What the law sends: from, to, a byte. -/
abbrev Sn := Int × Int × Nat
def cP (c : Sn) : Pk := ⟨c.1, c.2.1, [UInt8.ofNat c.2.2]⟩
def keepC (node : Int) (c : Sn) : Bool := !hitB node c.1 c.2.1
def byC (c : Sn) : UInt8 := UInt8.ofNat c.2.2
def leftC (node : Int) (C : List Sn) : List Sn := C.filter (keepC node)
theorem clear_C (node : Int) (C : List Sn) : clearL node (C.map cP) = (leftC node C).map cP := by
  unfold clearL leftC
  rw [List.filter_map]; rfl
theorem leftC_snoc (node : Int) (C : List Sn) (c : Sn) : leftC node (C ++ [c]) = if keepC node c = true then leftC node C ++ [c] else leftC node C := by
  unfold leftC
  rw [List.filter_append]
  by_cases h : keepC node c = true <;> simp [h]
theorem leftC_len (node : Int) (C : List Sn) : (leftC node C).length ≤ C.length := List.length_filter_le _ _
theorem cP_b (C : List Sn) : ∀ p ∈ C.map cP, p.b.length ≤ 131072 := by
  intro p hp
  obtain ⟨x, _, rfl⟩ := List.mem_map.1 hp
  show (1 : Nat) ≤ 131072
  omega

def LitPost (W : World) (B g : Nat) (v : Value) (Q : List (Value × Pk)) (L' : List Pk) (e : Ending) (w' : World) : Prop :=
  ∃ v' Q', e = .returned (.int .i64 1) ∧ NtRel 46 W w' B g v Q v' Q' L'
theorem nSendLitR (W : World) (B g : Nat) (v : Value) (Q : List (Value × Pk)) (L : List Pk) (h : NtAt 46 W B g v Q L) (hB : B ≤ W.heap.size) (hL : L.length < 200) (f t : Int) (hm : mayB f t 1 = true) (x : Nat) (hx : x < 256) :
    Calls Try.prog 10 #[.pointer (some ⟨g, 0, none⟩), .slice (some ⟨W.heap.size + 1, 0, none⟩) 1 1] ((W.alloc (.cells #[.int .u8 x] 5)).alloc (.cells #[.int .i64 f, .int .i64 t, .slice (some ⟨W.heap.size, 0, none⟩) 1 1] 36)) (LitPost W B g v Q (L ++ [⟨f, t, [UInt8.ofNat x]⟩])) := by
  have bA := (Below.refl W.heap.size W).alloc (Nat.le_refl _) (.cells #[.int .u8 x] 5)
  have bA2 := bA.alloc bA.size (.cells #[.int .i64 f, .int .i64 t, .slice (some ⟨W.heap.size, 0, none⟩) 1 1] 36)
  have gP := heap_alloc_new (W.alloc (.cells #[.int .u8 x] 5)) (.cells #[.int .i64 f, .int .i64 t, .slice (some ⟨W.heap.size, 0, none⟩) 1 1] 36)
  rw [World.size_alloc] at gP
  have l1 := (lit_bts W [UInt8.ofNat x] #[.int .u8 x] (0, 0) (by simp only [Lib.byteCells, List.map_cons, List.map_nil, u8_nat x hx])).later (((Below.refl _ _).alloc (Nat.le_refl _) (.cells #[.int .i64 f, .int .i64 t, .slice (some ⟨W.heap.size, 0, none⟩) 1 1] 36)))
  have hS := h.fresh
  have h2 := h.below bA2
  refine (nSend' _ B g v Q L (some ⟨W.heap.size + 1, 0, none⟩) 1 1 _ h2 (Nat.le_trans hB bA2.size) (by omega) (by omega)
    (pks_one gP (b := [UInt8.ofNat x]) rfl l1 (hS _ (by omega)) (fun y e => by injection e with e; subst e; exact hS _ (Nat.le_refl _))) (L ++ [⟨f, t, [UInt8.ofNat x]⟩]) 1 ?_ ?_).mono ?_
  · show sendOne L ⟨f, t, [UInt8.ofNat x]⟩ = _
    unfold sendOne
    rw [if_pos ⟨hL, hm⟩]
  · rw [List.length_append]; simp; omega
  · rintro e w' ⟨v', Q', rfl, R⟩
    exact ⟨v', Q', rfl, R.back bA2⟩

/-- Where NetClears stands in its first loop. -/
structure ClAt (w wr : World) (g : Nat) (node : Int) (C : List Sn) (v : Value) (Q : List (Value × Pk)) (a : Option Addr) (c : Nat) : Prop where
  nt : NtAt 46 wr w.heap.size g v Q (C.map cP)
  own : wr.ownsRow w.heap.size 5 1 (.slice a (leftC node C).length c) (leftC node C).length (Lib.byteCells ((leftC node C).map byC))
  apart : ∀ k, (Value.slice a (leftC node C).length c).ownBlock = some k → ¬ NtAll g v Q k
  low : Below w.heap.size w wr

theorem ClAt.sent {w wr w' : World} {g : Nat} {node : Int} {C : List Sn} {v v' : Value} {Q Q' : List (Value × Pk)} {a : Option Addr} {cc : Nat} (h : ClAt w wr g node C v Q a cc) (f t : Int) (x : Nat) (R : NtRel 46 wr w' w.heap.size g v Q v' Q' (C.map cP ++ [⟨f, t, [UInt8.ofNat x]⟩])) :
    NtAt 46 w' w.heap.size g v' Q' ((C ++ [(f, t, x)]).map cP) ∧ w'.ownsRow w.heap.size 5 1 (.slice a (leftC node C).length cc) (leftC node C).length (Lib.byteCells ((leftC node C).map byC)) ∧
    (∀ k, (Value.slice a (leftC node C).length cc).ownBlock = some k → ¬ NtAll g v' Q' k) ∧ Below w.heap.size w w' := by
  refine ⟨by rw [List.map_append]; exact R.at_, Kept.own h.own R.kept (fun k e e2 => h.apart k e (.inl e2)), fun k e e2 => ?_, h.low.trans (R.low h.nt h.low.size)⟩
  rcases R.new k e2 with e3 | e3
  · exact h.apart k e e3
  · have := (own_lt h.own k e).2; omega

theorem NetClears_far (a0 : Option Addr) (len0 cap0 : Nat) (a1 : Int) (w : World) (h : 60 < len0 ∨ a1 < 1 ∨ 5 < a1) :
    Calls Try.prog 7 #[.slice a0 len0 cap0, .int .i64 a1] w fun e w' => e = .returned (.bool true) ∧ Below w.heap.size w w' := by
  have cW := awake6 w
  by_cases h1 : 60 < len0
  · have h1' : (60 : Int) < (len0 : Int) := by omega
    go_enter Try.func7, Try.ntmps7
    go_wp2_with (go_at_call 8; (with_reducible refine cW.mono ?_))
    rintro e W1 ⟨rfl, hb⟩
    go_wp2
    go_ret
    exact ⟨rfl, hb⟩
  · have h1' : ¬ (60 : Int) < (len0 : Int) := by omega
    by_cases h2 : a1 < 1
    · go_enter Try.func7, Try.ntmps7
      go_wp2_with (go_at_call 8; (with_reducible refine cW.mono ?_))
      rintro e W1 ⟨rfl, hb⟩
      go_wp2
      go_ret
      exact ⟨rfl, hb⟩
    · have h3 : 5 < a1 := by omega
      go_enter Try.func7, Try.ntmps7
      go_wp2_with (go_at_call 8; (with_reducible refine cW.mono ?_))
      rintro e W1 ⟨rfl, hb⟩
      go_wp2
      go_ret
      exact ⟨rfl, hb⟩

set_option maxHeartbeats 8000000 in
set_option maxRecDepth 100000 in
theorem NetClears_walk (a0 : Option Addr) (len0 cap0 : Nat) (z0 : List Int) (a1 : Int) (w : World) (w0 : RowIn .i64 w a0 len0 cap0 z0) (w1 : (Lit.int .i64 a1).wf = true) :
    Calls Try.prog 7 #[.slice a0 len0 cap0, .int .i64 a1] w fun e w' => e = .returned (.bool true) ∧ Below w.heap.size w w' := by
  by_cases hfar : 60 < len0 ∨ a1 < 1 ∨ 5 < a1
  · exact NetClears_far a0 len0 cap0 a1 w hfar
  · have h1 : ¬ (60 : Int) < (len0 : Int) := by omega
    have h2 : ¬ a1 < 1 := by omega
    have h3 : ¬ 5 < a1 := by omega
    have hl2 : len0 ≤ 60 := by omega
    have hin : ∀ i, i < len0 → ∃ x c, a0 = some x ∧ w.cell? (x.add i) = some (.int .i64 c) ∧ -9223372036854775808 ≤ c ∧ c ≤ 9223372036854775807 := by
      intro i hi
      rcases w0 with ⟨_, h, _, _⟩ | ⟨x, hx, hlc, _, hz, hc, hwf⟩
      · omega
      · have hiz : i < z0.length := by omega
        have hcc := hc i hiz
        rw [show z0.getD i 0 = z0[i]'hiz by simp [List.getD, List.getElem?_eq_getElem hiz]] at hcc
        refine ⟨x, z0[i]'hiz, hx, hcc, ?_⟩
        have := hwf (z0[i]'hiz) (List.getElem_mem hiz)
        simp [Lit.wf, IntKind.min, IntKind.max, IntKind.signed, IntKind.bits] at this
        omega
    have HIN := Lib.hid hin
    have cN := nNew w
    clear hfar w0 w1 hin
    go_enter Try.func7, Try.ntmps7
    go_wp2_with (go_at_call 9; (with_reducible refine cN.mono ?_))
    rintro e W1 ⟨g, rfl, h1', b1⟩
    have HC0 : Hid (ClAt w W1 g a1 [] (.slice none 0 0) [] none 0) := ⟨h1', ⟨rfl, .inl ⟨rfl, rfl⟩⟩, fun k e => (by cases e), b1⟩
    clear cN h1' b1
    go_wp2
    go_loopw [6, 7, 8] (fun s6 s7 i wr => ∃ (j : Nat) (C : List Sn) (v : Value) (Q : List (Value × Pk)) (a : Option Addr) (c : Nat), i = .int .i64 j ∧ j ≤ len0 ∧ s6 = .int .i64 ((C.length : Int) - ((leftC a1 C).length : Int)) ∧ s7 = .slice a (leftC a1 C).length c ∧ C.length ≤ j ∧ Hid (∀ s ∈ C, s.2.2 < 256) ∧ Hid (ClAt w wr g a1 C v Q a c)) (fun _ _ i _ => len0 - (intOf i).toNat)
    case atStart => exact ⟨0, [], _, _, none, 0, rfl, Nat.zero_le _, rfl, rfl, Nat.le_refl _, fun s hs => (by cases hs), HC0⟩
    case round =>
      obtain ⟨j, C, v, Q, a, c, rfl, hj, rfl, rfl, hCj, HC2, HC⟩ := hrel
      clear HC0
      by_cases hlt : j < len0
      · obtain ⟨x, e, rfl, hc, hc1, hc2⟩ := HIN.out j hlt
        have hci : wr.cell? (x.add j) = some (.int .i64 e) := (HC.out.low.cell (World.block_lt_of_cell? w _ hc)).trans hc
        have ii : (j : Int) < (len0 : Int) := by omega
        have cR1 : Calls Try.prog 23 #[.int .i64 e, .int .i64 5] wr (RoundPost 5 wr) := Round_any e 5 wr (by omega) (by omega) hc1 hc2
        have hq1 : -9223372036854775808 ≤ e.tdiv 5 ∧ e.tdiv 5 ≤ 9223372036854775807 := by
          rcases Int.le_total 0 e with he | he
          · rw [Int.tdiv_eq_ediv_of_nonneg he]; omega
          · obtain ⟨m, rfl⟩ : ∃ m, e = -m := ⟨-e, by omega⟩
            rw [Int.neg_tdiv, Int.tdiv_eq_ediv_of_nonneg (by omega)]; omega
        have hqw : IntKind.i64.wrap (e.tdiv 5) = e.tdiv 5 := IntWalk.i64_in _ (by omega)
        have cR2 : Calls Try.prog 23 #[.int .i64 (e.tdiv 5), .int .i64 4] wr (RoundPost 4 wr) := Round_any (e.tdiv 5) 4 wr (by omega) (by omega) hq1.1 hq1.2
        go_wp2_with (go_at_call 23; (with_reducible refine cR1.mono ?_))
        rintro e5 W2 ⟨r, rfl, hr, rfl⟩
        go_wp2_with (go_at_call 23; (with_reducible refine cR2.mono ?_))
        rintro e6 W3 ⟨r2, rfl, hr2, rfl⟩
        have htm : ((1 : Int) + r + r2).tmod 5 = (((1 + r + r2) % 5 : Nat) : Int) := by
          rw [Int.tmod_eq_emod_of_nonneg (by omega)]; omega
        obtain ⟨tt, htt⟩ : ∃ tt, tt = (1 + r + r2) % 5 := ⟨_, rfl⟩
        have htl : tt < 5 := by omega
        rw [← htt] at htm
        have hne : r ≠ tt := by omega
        have he : ((1 : Int) + r == 1 + (tt : Int)) = false := beq_false_of_ne (by omega)
        have HTT := Lib.hid hne
        clear htt hne
        obtain ⟨fz, hfz⟩ : ∃ fz : Int, fz = 1 + (r : Int) := ⟨_, rfl⟩
        obtain ⟨tz, htz⟩ : ∃ tz : Int, tz = 1 + (tt : Int) := ⟨_, rfl⟩
        have hf1 : 1 ≤ fz ∧ fz ≤ 5 := by omega
        have ht1 : 1 ≤ tz ∧ tz ≤ 5 := by omega
        have hft : fz ≠ tz := by have := HTT.out; omega
        have hmay : mayB fz tz 1 = true := by
          unfold mayB nodeB
          rw [decide_eq_true hf1, decide_eq_true ht1, decide_eq_true hft, decide_eq_true (by omega)]; rfl
        have cS := nSendLitR wr w.heap.size g v Q _ HC.out.nt HC.out.low.size (by rw [List.length_map]; omega) fz tz hmay j (by omega)
        have hw := u8_in j (by omega)
        have HF := Lib.hid (And.intro hf1 (And.intro ht1 hft))
        have HFZ := Lib.hid hfz
        have HTZ := Lib.hid htz
        rw [hfz, htz] at cS
        clear hfz htz hf1 ht1 hft hmay
        go_wp2_with (go_at_call 10; (with_reducible refine cS.mono ?_))
        rintro e7 W4 ⟨v4, Q4, rfl, R4⟩
        obtain ⟨s1, s2, s3, s4⟩ := HC.out.sent (node := a1) (1 + (r : Int)) (1 + (tt : Int)) j R4
        have HS1 := Lib.hid s1
        have HS2 := Lib.hid s2
        have HS3 := Lib.hid s3
        have HS4 := Lib.hid s4
        have hfc := leftC_len a1 C
        have hsn := leftC_snoc a1 C (1 + (r : Int), 1 + (tt : Int), j)
        have HSN := Lib.hid hsn
        have HCC : Hid (∀ s ∈ C ++ [((1 + (r : Int), 1 + (tt : Int), j) : Sn)], s.2.2 < 256) := fun s hs => by
          rcases List.mem_append.1 hs with h | h
          · exact HC2.out s h
          · simp at h; subst h; show j < 256; omega
        have HCL : Hid ((C ++ [((1 + (r : Int), 1 + (tt : Int), j) : Sn)]).length = C.length + 1) := by show _ = _; rw [List.length_append]; rfl
        obtain ⟨fn, hfn⟩ : ∃ fn, fn = (leftC a1 C).length := ⟨_, rfl⟩
        obtain ⟨cn, hcn⟩ : ∃ cn, cn = C.length := ⟨_, rfl⟩
        have HFN := Lib.hid hfn
        have HCN := Lib.hid hcn
        rw [← hfn, ← hcn] at hfc
        rw [← hfn] at HS2 HS3
        rw [← hcn] at hCj HCL
        rw [← hfn, ← hcn]
        clear s1 s2 s3 s4 R4 cS cR1 cR2 hsn hfn hcn HC HC2 hq1 hqw htm hci hc
        have hx1 : (0 : Int) ≤ (cn : Int) - (fn : Int) := by omega
        have hx2 : (cn : Int) - (fn : Int) ≤ 60 := by omega
        by_cases ha : 1 + (r : Int) = a1
        · have e1 : ((1 : Int) + r == a1) = true := by simp [ha]
          have hk : keepC a1 (1 + (r : Int), 1 + (tt : Int), j) = false := by simp [keepC, hitB, ha]
          have HL : Hid (leftC a1 (C ++ [((1 + (r : Int), 1 + (tt : Int), j) : Sn)]) = leftC a1 C) := by show _ = _; rw [HSN.out, hk]; rfl
          have HA := Lib.hid ha
          clear ha hk
          go_wp2
          go_roundw
          case rel => exact ⟨j + 1, C ++ [((1 + (r : Int), 1 + (tt : Int), j) : Sn)], v4, Q4, a, c, by go_num, by omega, by rw [HL.out, HCL.out, ← HFN.out]; congr 1; omega, by rw [HL.out, ← HFN.out], by rw [HCL.out]; omega, HCC, ⟨HS1.out, by rw [HL.out, ← HFN.out]; exact HS2.out, by rw [HL.out, ← HFN.out]; exact HS3.out, HS4.out⟩⟩
          case measure => simp [intOf]; omega
        · have e1 : ((1 : Int) + r == a1) = false := beq_false_of_ne ha
          by_cases hb : 1 + (tt : Int) = a1
          · have e2 : ((1 : Int) + tt == a1) = true := by simp [hb]
            have hk : keepC a1 (1 + (r : Int), 1 + (tt : Int), j) = false := by simp [keepC, hitB, hb]
            have HL : Hid (leftC a1 (C ++ [((1 + (r : Int), 1 + (tt : Int), j) : Sn)]) = leftC a1 C) := by show _ = _; rw [HSN.out, hk]; rfl
            have HA := Lib.hid hb
            clear ha hb hk
            go_wp2
            go_roundw
            case rel => exact ⟨j + 1, C ++ [((1 + (r : Int), 1 + (tt : Int), j) : Sn)], v4, Q4, a, c, by go_num, by omega, by rw [HL.out, HCL.out, ← HFN.out]; congr 1; omega, by rw [HL.out, ← HFN.out], by rw [HCL.out]; omega, HCC, ⟨HS1.out, by rw [HL.out, ← HFN.out]; exact HS2.out, by rw [HL.out, ← HFN.out]; exact HS3.out, HS4.out⟩⟩
            case measure => simp [intOf]; omega
          · have e2 : ((1 : Int) + tt == a1) = false := beq_false_of_ne hb
            have hk : keepC a1 (1 + (r : Int), 1 + (tt : Int), j) = true := by simp [keepC, hitB, ha, hb]
            have HL : Hid (leftC a1 (C ++ [((1 + (r : Int), 1 + (tt : Int), j) : Sn)]) = leftC a1 C ++ [((1 + (r : Int), 1 + (tt : Int), j) : Sn)]) := by show _ = _; rw [HSN.out, hk]; rfl
            clear ha hb hk
            obtain ⟨i0, hi, hz0, hz1, hz2⟩ := info_parts infoByte8
            have hzs := HS4.out.size
            go_wp2_with (at_builtin; refine wpList_append_own_at _ rfl _ _ 34 rfl w.heap.size 5 i0 (.int .u8 0) 1 1 Try.underlying34 hi hz0 hz1 hz2 rfl (by decide) _ _ _ rfl (HS2.out.alloc _) ⟨W4.heap.size, 0, none⟩ 1 1 (Lib.byteCells [UInt8.ofNat j]) rfl rfl ?c1 ?c2 ?c3 ?c4 ?c5 ?_)
            case c1 => intro t u ht; exact new_cells8 W4 #[.int .u8 j] _ _ rfl t u (by simp only [Lib.byteCells, List.map_cons, List.map_nil, u8_nat j (by omega)] at ht; exact ht)
            case c2 => exact byteCells_one _
            case c3 => unfold maxLen; omega
            case c4 => omega
            case c5 => first | omega | (simp; omega)
            intro v5 w5 hown5 hgrow5 _ hat5
            obtain ⟨a5, c5, rfl⟩ := own_slice hown5
            rw [byteCells_app] at hown5
            have bA := (Below.refl W4.heap.size W4).alloc (Nat.le_refl _) (.cells #[.int .u8 j] 5)
            have hlt5 := HS2.out.lt
            have hn5 := (HS1.out.below bA).kept (S := fun k => (Value.slice a fn c).ownBlock = some k) ((Kept.refl _ _).grown hgrow5 (fun k hk _ => hk)) (fun k e e2 => HS3.out k e2 e)
            have hb5 : Below w.heap.size w w5 := (HS4.out.alloc hzs _).grown hgrow5 (by simp; omega) (fun k hk => (hlt5 k hk).1)
            have hap5 : ∀ k, (Value.slice a5 (fn + 1) c5).ownBlock = some k → ¬ NtAll g v4 Q4 k := fun k e e2 => by
              rcases hat5 with h | h
              · exact HS3.out k (by rw [← h]; exact e) e2
              · rw [h] at e
                injection e with e
                have := (HS1.out.ltAll k e2).2
                first | omega | (simp at e; omega)
            have HN5 := Lib.hid hn5
            have HO5 := Lib.hid hown5
            have HB5 := Lib.hid hb5
            have HP5 := Lib.hid hap5
            clear hown5 hgrow5 hat5 hn5 hb5 hap5 hlt5 bA hi hz0 hz1 hz2 HS2 HS3 HS1 HS4
            have HLL : Hid ((leftC a1 (C ++ [((1 + (r : Int), 1 + (tt : Int), j) : Sn)])).length = fn + 1) := by show _ = _; rw [HL.out, List.length_append, ← HFN.out]; rfl
            go_wp2
            go_roundw
            case rel => exact ⟨j + 1, C ++ [((1 + (r : Int), 1 + (tt : Int), j) : Sn)], v4, Q4, a5, c5, by go_num, by omega, by rw [HLL.out, HCL.out]; congr 1; omega, by rw [HLL.out], by rw [HCL.out]; omega, HCC, ⟨HN5.out, by rw [HLL.out, HL.out, List.map_append]; exact HO5.out, by rw [HLL.out]; exact HP5.out, HB5.out⟩⟩
            case measure => simp [intOf]; omega
      · have hjn : j = len0 := by omega
        subst hjn
        have ii : ¬ (j : Int) < (j : Int) := by omega
        have hnt := HC.out.nt
        have cC := nClear wr w.heap.size g v Q (C.map cP) a1 hnt HC.out.low.size (by rw [List.length_map]; omega)
        unfold ClearPost at cC
        rw [clear_C, List.length_map, List.length_map] at cC
        have hfc := leftC_len a1 C
        obtain ⟨F, hF⟩ : ∃ F, F = leftC a1 C := ⟨_, rfl⟩
        have hFk : Hid (∀ s ∈ F, hitB a1 s.1 s.2.1 = false ∧ s.2.2 < 256) := fun s hs => by
          rw [hF] at hs
          obtain ⟨h1, h2⟩ := List.mem_filter.1 hs
          exact ⟨by unfold keepC at h2; simpa using h2, HC2.out s h1⟩
        have hown := HC.out.own
        have hap := HC.out.apart
        have hlow := HC.out.low
        rw [← hF] at cC hfc hown hap
        rw [← hF]
        obtain ⟨fn, hfn⟩ : ∃ fn, fn = F.length := ⟨_, rfl⟩
        obtain ⟨cn, hcn⟩ : ∃ cn, cn = C.length := ⟨_, rfl⟩
        have HFN := Lib.hid hfn
        rw [← hfn] at cC hfc hown hap
        rw [← hfn]
        rw [← hcn] at cC hfc hCj
        rw [← hcn]
        have cC : Calls Try.prog 18 #[.pointer (some ⟨g, 0, none⟩), .int .i64 a1] wr (ResPost 46 wr w.heap.size g v Q (.int .i64 ((cn : Int) - (fn : Int))) (F.map cP)) := cC
        have hne : (((cn : Int) - (fn : Int)) != ((cn : Int) - (fn : Int))) = false := by simp
        have HOWN := Lib.hid hown
        have HAP := Lib.hid hap
        have HLOW := Lib.hid hlow
        have HNT := Lib.hid hnt
        clear hF hfn hcn HC HC2 hown hap hlow hnt
        go_wp2_with (go_at_call 18; (with_reducible refine cC.mono ?_))
        rintro e W2 ⟨v2, Q2, rfl, R2⟩
        have h2n := R2.at_
        have cL := nLen W2 _ _ _ _ _ h2n
        rw [List.length_map, ← HFN.out] at cL
        have ho2 := Kept.own HOWN.out R2.kept (fun k e e2 => HAP.out k e (.inl e2))
        have hb2 := HLOW.out.trans (R2.low HNT.out HLOW.out.size)
        have hne2 : ((fn : Int) != (fn : Int)) = false := by simp
        have H2N := Lib.hid h2n
        have HO2 := Lib.hid ho2
        have HB2 := Lib.hid hb2
        clear R2 h2n ho2 hb2 cC
        go_wp2_with (go_at_call 22; (with_reducible refine cL.mono ?_); rintro e w' ⟨rfl, hw'⟩; rw [hw'])
        clear cL hne hne2
        go_loopw [11] (fun s wr => ∃ i : Nat, s = .int .i64 i ∧ i ≤ fn ∧ Hid (NtAt 46 wr w.heap.size g v2 Q2 (F.map cP)) ∧ Hid (wr.ownsRow w.heap.size 5 1 (.slice a fn c) fn (Lib.byteCells (F.map byC))) ∧ Hid (Below w.heap.size w wr)) (fun s _ => fn - (intOf s).toNat)
        case atStart => exact ⟨0, rfl, Nat.zero_le _, H2N, HO2, HB2⟩
        case round =>
          obtain ⟨i, rfl, hi, HN, HO, HB⟩ := hrel
          clear H2N HO2 HB2
          by_cases hlt2 : i < fn
          · have hiF : i < F.length := by rw [← HFN.out]; exact hlt2
            have ii2 : (i : Int) < (fn : Int) := by omega
            have ii3 : (0 : Int) ≤ (i : Int) := by omega
            obtain ⟨hh, hx⟩ := hFk.out _ (List.getElem_mem hiF)
            have hat : atL (F.map cP) (i : Int) = (cP (F[i]'hiF), true) := by
              rw [atL_yes (by rw [List.length_map]; exact hiF)]
              simp
            obtain ⟨ga, ha, _⟩ := own_some HO.out (by omega)
            subst ha
            have y1 := HO.out.cellAt i (by omega)
            rw [byteCells_at _ i (by rw [List.length_map]; exact hiF)] at y1
            rw [List.getElem_map] at y1
            obtain ⟨⟨pf, pt, px⟩, hs⟩ : ∃ s, s = F[i]'hiF := ⟨_, rfl⟩
            rw [← hs] at hh hx hat y1
            simp only at hh hx
            have y1' : wr.cell? ⟨ga, i, none⟩ = some (.int .u8 px) := by rw [y1]; show some (Value.int .u8 ((UInt8.ofNat px).toNat : Int)) = _; rw [u8_nat px hx]
            have cP2 := nPeek' wr w.heap.size g v2 Q2 _ (i : Int) HN.out (cP_b F) pf pt [UInt8.ofNat px] 1 true hat rfl
            have hh1 : (pf == a1) = false := by unfold hitB at hh; simp at hh; exact beq_false_of_ne hh.1
            have hh2 : (pt == a1) = false := by unfold hitB at hh; simp at hh; exact beq_false_of_ne hh.2
            clear y1 hat hs hh
            go_wp2_with (go_at_call 20; (with_reducible refine cP2.mono ?_))
            rintro e W3 ⟨pa, pc, rfl, o3, b3⟩
            obtain ⟨p3, rfl, z0⟩ := byte_at o3 hx
            have bA := (Below.refl W3.heap.size W3).alloc (Nat.le_refl _) (.cells #[.int .i64 pf, .int .i64 pt, .slice (some ⟨p3, 0, none⟩) 1 pc] 36)
            have bw := b3.trans (bA.mono b3.size)
            have zA := alloc_cell z0 (.cells #[.int .i64 pf, .int .i64 pt, .slice (some ⟨p3, 0, none⟩) 1 pc] 36)
            have yA := (bw.cell (p := ⟨ga, i, none⟩) (World.block_lt_of_cell? wr _ y1')).trans y1'
            obtain ⟨q0, q1, q2, _⟩ := box_cells (heap_alloc_new W3 (.cells #[.int .i64 pf, .int .i64 pt, .slice (some ⟨p3, 0, none⟩) 1 pc] 36))
            have HN3 := Lib.hid (HN.out.below bw)
            have HO3 := Lib.hid (Kept.own HO.out (Kept.of_below (S := fun _ => False) bw) (fun _ _ h => h))
            have HB3 := Lib.hid (HB.out.trans (bw.mono HB.out.size))
            have hxx : ((px : Int) != (px : Int)) = false := by simp
            clear o3 b3 z0 bA bw y1' cP2 HN HO HB
            go_wp2
            go_quiet (fail)
            go_wp2
            refine ⟨⟨i + 1, by go_num, by omega, ?_, ?_, ?_⟩, by simp [intOf]; omega⟩
            · exact HN3.out.kept (S := fun _ => False) ((Kept.refl _ _).drewN nq) (fun _ _ h => h)
            · exact Kept.own HO3.out ((Kept.refl (fun _ => False) _).drewN nq) (fun _ _ h => h)
            · exact below_drewN HB3.out _
          · have ii2 : ¬ (i : Int) < (fn : Int) := by omega
            have cW := awake6_b w wr HB.out
            go_wp2_with (go_at_call 8; (with_reducible refine cW.mono ?_))
            rintro e W5 ⟨rfl, hb5⟩
            go_wp2
            go_ret
            exact ⟨rfl, hb5⟩

end Go.Proofs.Ytenpoolminfofaa
