/-
  What glob.pieces answers.
-/
import Derived.Test.YtmijhgecdkdkmaaGlobD
set_option linter.unusedVariables false
namespace Go.Proofs.Ytmijhgecdkdkmaa
open Go.RowKit

theorem setL_bound : ∀ (f : Nat) (S : List Sg) (first k : Nat) (acc sp : List (Nat × Nat)) (n : Nat), setL f S first k acc = some (sp, n) → 1 ≤ n ∧ n ≤ S.length
  | 0, _, _, _, _, _, _, h => by simp [setL] at h
  | f + 1, S, first, k, acc, sp, n, h => by
    rw [setL] at h
    split at h
    · split at h
      · split at h
        · simp at h
        · simp at h; omega
      · split at h
        · simp at h
        · split at h
          · simp at h
          · exact setL_bound f _ _ _ _ _ _ h
    · simp at h

theorem setR_bound (S : List Sg) : (setR S).2 ≤ S.length := by
  unfold setR
  cases h : setL S.length S (setFirst S) (setFirst S) [] with
  | none => simp
  | some x => exact (setL_bound _ _ _ _ _ x.1 x.2 h).2

theorem headR_bound {S : List Sg} (h : S ≠ []) : (headR S).2 ≤ S.length := by
  have h0 : 0 < S.length := List.length_pos_iff.2 h
  unfold headR
  split
  · exact h0
  · split
    · exact h0
    · split
      · exact setR_bound S
      · exact h0

/-- The pieces of the signs. -/
def pcF : Nat → List Sg → Option (List Pc)
  | 0, S => if S = [] then some [] else none
  | f + 1, S => if S = [] then some [] else if (headR S).2 = 0 then none else (pcF f (S.drop (headR S).2)).map ((headR S).1 :: ·)

theorem pcF_nil (f : Nat) : pcF f [] = some [] := by cases f <;> simp [pcF]
theorem pcF_zero {f : Nat} {S : List Sg} {x : Pc} (h : S ≠ []) (hx : headR S = (x, 0)) : pcF (f + 1) S = none := by
  rw [pcF, if_neg h, hx, if_pos rfl]
theorem pcF_more {f n : Nat} {S : List Sg} {x : Pc} (h : S ≠ []) (hx : headR S = (x, n)) (hn : n ≠ 0) : pcF (f + 1) S = (pcF f (S.drop n)).map (x :: ·) := by
  rw [pcF, if_neg h, hx, if_neg hn]

/-- A pattern's pieces; none: it is no pattern. -/
def patR (l : List UInt8) : Option (List Pc) :=
  if valid l = true ∧ (pieces l).length ≤ 40 then
    if (sgRun (runesOf (pieces l))).2 = true then pcF (sgRun (runesOf (pieces l))).1.length (sgRun (runesOf (pieces l))).1 else none
  else none

def pcC (x : Value × Pc) : List Value := [x.1, .bool x.2.turned, .bool x.2.many]

/-- A row of pieces, each with its spans. -/
def PcsOwn (w : World) (B : Nat) (v : Value) (P : List Pc) : Prop :=
  ∃ Q : List (Value × Pc), Q.map Prod.snd = P ∧ w.ownsRow B 76 3 v Q.length (rowOf pcC Q) ∧ ∀ q ∈ Q, w.ownsRow B 92 2 q.1 q.2.spans.length (rowOf spC q.2.spans)

theorem PcsOwn.later {w w' : World} {B : Nat} {v : Value} {P : List Pc} (h : PcsOwn w B v P) (hb : Below w.heap.size w w') : PcsOwn w' B v P := by
  obtain ⟨Q, hq, ho, hs⟩ := h
  exact ⟨Q, hq, own_later ho hb, fun q hm => own_later (hs q hm) hb⟩

theorem own_apart {W : World} {B B' k k' n n' : Nat} {t t' : TypeId} {v v' : Value} {xs xs' : List Value} (h : W.ownsRow B t k v n xs) (h' : W.ownsRow B' t' k' v' n' xs') (hne : t ≠ t') : v.ownBlock = none ∨ v.ownBlock ≠ v'.ownBlock := by
  rcases h.2 with ⟨hv, _⟩ | ⟨g, cap, cur, hv, _, hg, _⟩
  · left; rw [hv]; rfl
  · right
    rcases h'.2 with ⟨hv', _⟩ | ⟨g', cap', cur', hv', _, hg', _⟩
    · rw [hv, hv']; intro e; simp [Value.ownBlock] at e
    · rw [hv, hv']
      intro e
      simp [Value.ownBlock] at e
      rw [e, hg'] at hg
      simp at hg
      exact hne hg.2.symm

theorem infoPiece : (Try.prog.info? 76).map (fun i => (i.zero, i.size, i.bytes)) = some (some (.agg #[.slice none 0 0, .bool false, .bool false]), 3, 32) := by kernel_rfl

def PatPost (o : Option (List Pc)) (w : World) (e : Ending) (w' : World) : Prop :=
  Below w.heap.size w w' ∧ match o with
  | none => e = .returned (.tuple #[.slice none 0 0, .bool false])
  | some P => ∃ v, e = .returned (.tuple #[v, .bool true]) ∧ PcsOwn w' w.heap.size v P

def lenOf : Value → Nat
  | .slice _ n _ => n
  | _ => 0

theorem sgAt_of {W : World} {B g n cap : Nat} {S : List Sg} (h : W.ownsRow B 89 2 (.slice (some ⟨g, 0, none⟩) n cap) n (rowOf sgC S)) (hn : S.length = n) (m C : Nat) : SgAt W (.slice (some ⟨g, m * 2, none⟩) (S.length - m) C) (S.drop m) := by
  refine ⟨_, C, by rw [List.length_drop], fun _ => ⟨g, m * 2, rfl, fun i hi => ?_⟩⟩
  rw [List.length_drop] at hi
  have hc : ∀ j, j < 2 → W.cell? ⟨g, (m + i) * 2 + j, none⟩ = (sgC (S[m + i]'(by omega)))[j]? := fun j hj => by
    rw [h.cellAt _ (by omega), rowOf_get sgC 2 (fun _ => rfl) S (m + i) j (by omega) hj]
  have h0 := hc 0 (by omega)
  have h1 := hc 1 (by omega)
  rw [show (m + i) * 2 + 0 = m * 2 + i * 2 by omega] at h0
  rw [show (m + i) * 2 + 1 = m * 2 + i * 2 + 1 by omega] at h1
  rw [List.getElem_drop]
  exact ⟨h0, h1⟩

theorem map_put {α : Type} (acc : List α) (x : α) (o : Option (List α)) : (o.map (x :: ·)).map (acc ++ ·) = o.map ((acc ++ [x]) ++ ·) := by cases o <;> simp

/-- Where pieces stands in its loop. -/
def PieRel (S0 : List Sg) (a : Option Addr) (cap : Nat) (w : World) (v o : Value) (wr : World) : Prop :=
  ∃ (m f : Nat) (acc : List Pc) (A : Option Addr) (C : Nat), v = .slice A (S0.length - m) C ∧ m ≤ S0.length ∧ S0.length ≤ m + f ∧ (m < S0.length → ∃ g, a = some ⟨g, 0, none⟩ ∧ A = some ⟨g, m * 2, none⟩) ∧ S0.length - m ≤ C ∧
    wr.ownsRow w.heap.size 89 2 (.slice a S0.length cap) S0.length (rowOf sgC S0) ∧ PcsOwn wr w.heap.size o acc ∧ acc.length ≤ m ∧ Below w.heap.size w wr ∧
    Hid (pcF S0.length S0 = (pcF f (S0.drop m)).map (acc ++ ·))

set_option maxHeartbeats 4000000 in
set_option maxRecDepth 100000 in
theorem pieces_any (s : ByteArray) (w : World) (hs : s.size ≤ 1000000) :
    Calls Try.prog 35 #[.string s] w (PatPost (patR s.data.toList) w) := by
  obtain ⟨i0, hi, hz0, hz1, hz2⟩ := info_parts infoPiece
  have hcV := fun (wx : World) (hb : Below w.heap.size w wx) => Valid_b s w wx hs hb
  have hcC := fun (wx : World) (hb : Below w.heap.size w wx) => Count_b s w wx hs hb
  have B0 := Below.refl w.heap.size w
  cases hv : vldB s with
  | false =>
    rw [hv] at hcV
    have HN : Hid (patR s.data.toList = none) := by
      show _ = _
      unfold patR; rw [if_neg]; rintro ⟨h, _⟩; unfold vldB at hv; rw [hv] at h; cases h
    clear hv
    go_enter Try.func35, Try.ntmps35
    go_wp2_with (go_at_call 37; refine (hcV _ B0).mono ?_; rintro e W1 ⟨rfl, b1⟩)
    go_ret2
    rw [HN.out]
    exact ⟨b1, rfl⟩
  | true =>
  rw [hv] at hcV
  by_cases hcnt : 40 < cntB s
  · have HN : Hid (patR s.data.toList = none) := by
      show _ = _
      unfold patR; rw [if_neg]; rintro ⟨_, h⟩; unfold cntB at hcnt; omega
    obtain ⟨N, hN⟩ : ∃ N, N = cntB s := ⟨_, rfl⟩
    rw [← hN] at hcC hcnt
    clear hv hN
    have hci : (40 : Int) < (N : Int) := by omega
    go_enter Try.func35, Try.ntmps35
    go_wp2_with (first | (go_at_call 37; refine (hcV _ B0).mono ?_; rintro e W1 ⟨rfl, b1⟩) | (go_at_call 26; refine (hcC _ (by assumption)).mono ?_; rintro e W2 ⟨rfl, b2⟩))
    go_ret2
    rw [HN.out]
    exact ⟨by assumption, rfl⟩
  have hsg0 := fun (wx : World) => signsOf_any s wx hs
  have hlen := sgRun_len (runesOf (pieces s.data.toList))
  obtain ⟨⟨S0, ok⟩, hS0⟩ : ∃ x, x = sgRun (runesOf (pieces s.data.toList)) := ⟨_, rfl⟩
  have hS40 : S0.length ≤ 40 := by
    rw [← hS0] at hlen
    simp only [runesOf, List.length_map] at hlen
    unfold cntB at hcnt
    omega
  have HP : Hid (patR s.data.toList = if ok = true then pcF S0.length S0 else none) := by
    show _ = _
    unfold patR
    rw [if_pos ⟨hv, by unfold cntB at hcnt; omega⟩, ← hS0]
  have hsg : ∀ (wx : World), Below w.heap.size w wx → Calls Try.prog 44 #[.string s] wx fun e w' => ∃ a cap, e = .returned (.tuple #[.slice a S0.length cap, .bool ok]) ∧ w'.ownsRow w.heap.size 89 2 (.slice a S0.length cap) S0.length (rowOf sgC S0) ∧ Below w.heap.size w w' := by
    intro wx hb
    have := hsg0 wx
    unfold SignsPost at this
    rw [← hS0] at this
    refine this.mono ?_
    rintro e w' ⟨a, cap, he, ho, hb'⟩
    exact ⟨a, cap, he, own_base ho hb.size, hb.trans (hb'.mono hb.size)⟩
  obtain ⟨N, hN⟩ : ∃ N, N = cntB s := ⟨_, rfl⟩
  rw [← hN] at hcC hcnt
  have hci : ¬ (40 : Int) < (N : Int) := by omega
  clear hv hN hsg0 hlen hS0 hs
  cases ok with
  | false =>
    have HN : Hid (patR s.data.toList = none) := by show _ = _; rw [HP.out]; rfl
    go_enter Try.func35, Try.ntmps35
    go_wp2_with (first | (go_at_call 37; refine (hcV _ B0).mono ?_; rintro e W1 ⟨rfl, b1⟩) | (go_at_call 26; refine (hcC _ (by assumption)).mono ?_; rintro e W2 ⟨rfl, b2⟩) | (go_at_call 44; refine (hsg _ (by assumption)).mono ?_; rintro e W3 ⟨a, cap, rfl, ho, b3⟩))
    go_ret2
    rw [HN.out]
    exact ⟨by assumption, rfl⟩
  | true =>
    have HN : Hid (patR s.data.toList = pcF S0.length S0) := by show _ = _; rw [HP.out]; rfl
    clear HP
    go_enter Try.func35, Try.ntmps35
    go_wp2_with (first | (go_at_call 37; refine (hcV _ B0).mono ?_; rintro e W1 ⟨rfl, b1⟩) | (go_at_call 26; refine (hcC _ (by assumption)).mono ?_; rintro e W2 ⟨rfl, b2⟩) | (go_at_call 44; refine (hsg _ (by assumption)).mono ?_; rintro e W3 ⟨a, cap, rfl, ho, b3⟩))
    clear hcV hcC hsg hci hcnt
    go_loopw [4, 6] (fun v o wr => PieRel S0 a cap w v o wr) (fun v _ _ => lenOf v)
    case atStart =>
      refine ⟨0, S0.length, [], a, cap, rfl, Nat.zero_le _, by omega, ?_, ?_, ho, ⟨[], rfl, ⟨rfl, .inl ⟨rfl, rfl⟩⟩, fun q hq => by cases hq⟩, Nat.le_refl _, b3, ?_⟩
      · intro hpos
        rcases ho.2 with ⟨_, h0⟩ | ⟨g, cap', cur, hv, _⟩
        · omega
        · simp at hv; exact ⟨g, hv.1, by rw [hv.1]⟩
      · rcases ho.2 with ⟨_, h0⟩ | ⟨g, cap', cur, hv, _, _, hnc, _⟩
        · omega
        · simp at hv; omega
      · show _ = _
        simp
    case round =>
      obtain ⟨m, f, acc, A, C, rfl, hm, hmf, hA, hC, hsr, hpo, hal, hbw, HL⟩ := hrel
      clear ho b1 b2 b3 B0
      by_cases hlt : m < S0.length
      · obtain ⟨g, rfl, rfl⟩ := hA hlt
        obtain ⟨f, rfl⟩ : ∃ z, f = z + 1 := ⟨f - 1, by omega⟩
        have hDne : S0.drop m ≠ [] := by intro e; have := congrArg List.length e; simp at this; omega
        have hsg := sgAt_of hsr rfl m C
        have hhb := headR_bound hDne
        rw [List.length_drop] at hhb
        have hhd := fun (wx : World) (hb : Below wr.heap.size wr wx) => head_any _ _ wx (hsg.below hb) hDne (by rw [List.length_drop]; omega)
        obtain ⟨⟨⟨sp, tu, ma⟩, n⟩, hx⟩ : ∃ x, x = headR (S0.drop m) := ⟨_, rfl⟩
        rw [← hx] at hhb hhd
        simp only at hhb
        have hhd2 : ∀ (wx : World), Below wr.heap.size wr wx → Calls Try.prog 45 #[.slice (some ⟨g, m * 2, none⟩) (S0.length - m) C] wx fun e w' => ∃ sa sc, e = .returned (.tuple #[.agg #[.slice sa sp.length sc, .bool tu, .bool ma], .int .i64 n]) ∧ w'.ownsRow wx.heap.size 92 2 (.slice sa sp.length sc) sp.length (rowOf spC sp) ∧ Below wx.heap.size wx w' := by
          intro wx hb
          refine (hhd wx hb).mono ?_
          rintro e w' ⟨sv, he, ho, hb'⟩
          obtain ⟨sa, sc, hsv⟩ := own_form ho
          subst hsv
          exact ⟨sa, sc, he, ho, hb'⟩
        obtain ⟨Q, hQ, hQo, hQs⟩ := hpo
        obtain ⟨oa, oc, hov⟩ := own_form hQo
        subst hov
        have hBr := Below.refl wr.heap.size wr
        have hli : (0 : Int) < ((S0.length - m : Nat) : Int) := by omega
        have hQl : Q.length ≤ 40 := by have : Q.length = acc.length := by rw [← hQ, List.length_map]
                                       omega
        have HQ : Hid (Q.map Prod.snd = acc) := hQ
        clear hQ
        clear hsg hhd hA
        by_cases hn : n = 0
        · subst hn
          have HN2 : Hid (patR s.data.toList = none) := by show _ = _; rw [HN.out, HL.out, pcF_zero hDne hx.symm]; rfl
          clear hx hhb hDne
          go_wp2_with (go_at_call 45; (with_reducible refine (hhd2 _ hBr).mono ?_); rintro e W2 ⟨sa, sc, rfl, ho2, b2⟩)
          go_ret2
          rw [HN2.out]
          exact ⟨(hbw.trans (b2.mono hbw.size)).alloc (by have := hbw.size; have := b2.size; omega) _, rfl⟩
        · have HL2 : Hid (pcF S0.length S0 = (pcF f (S0.drop (m + n))).map ((acc ++ [⟨sp, tu, ma⟩]) ++ ·)) := by
            show _ = _
            rw [HL.out, pcF_more hDne hx.symm hn, map_put, List.drop_drop]
          have hni : ¬ (n : Int) = 0 := by omega
          clear hx hDne HL
          go_wp2_with (first | (go_at_call 45; (with_reducible refine (hhd2 _ hBr).mono ?_); rintro e W2 ⟨sa, sc, rfl, ho2, b2⟩; have hQo2 := own_later hQo b2) | (at_builtin; go_loud (refine wpList_append_own_at _ rfl _ _ 55 rfl w.heap.size 76 i0 (.agg #[.slice none 0 0, .bool false, .bool false]) 3 32 Try.underlying55 hi hz0 hz1 hz2 rfl (by decide) _ _ _ rfl ((hQo2.alloc _).alloc _) _ _ _ (pcC (.slice sa sp.length sc, ⟨sp, tu, ma⟩)) rfl rfl ?c1 ?c2 ?c3 ?c4 ?c5 ?_)))
          case c1 => intro j u hj; exact new_row _ _ _ _ (by simp) j u hj
          case c2 => intro u hu; simp [pcC] at hu; rcases hu with rfl | rfl | rfl <;> rfl
          case c3 => unfold maxLen; omega
          case c4 => omega
          case c5 => have := hbw.size; have := b2.size; simp; omega
          intro v' w3 hown3 hgrow _ _
          have hz2 : w.heap.size ≤ W2.heap.size := by have := hbw.size; have := b2.size; omega
          have hOA := (hQo2.alloc (.cells #[.slice sa sp.length sc, .bool tu, .bool ma] 76)).alloc (.cells #[.slice sa sp.length sc, .bool tu, .bool ma] 76)
          have keepS : ∀ {v : Value} {k : Nat} {xs : List Value} {B : Nat}, W2.ownsRow B 92 2 v k xs → w3.ownsRow B 92 2 v k xs := fun h => ((h.alloc _).alloc _).kept hgrow (own_apart ((h.alloc _).alloc _) hOA (by decide))
          have hsr3 : w3.ownsRow w.heap.size 89 2 (.slice (some ⟨g, 0, none⟩) S0.length cap) S0.length (rowOf sgC S0) := (((own_later hsr b2).alloc _).alloc _).kept hgrow (own_apart (((own_later hsr b2).alloc _).alloc _) hOA (by decide))
          have hns := keepS (own_base ho2 hbw.size)
          have hqs3 : ∀ q ∈ Q, w3.ownsRow w.heap.size 92 2 q.1 q.2.spans.length (rowOf spC q.2.spans) := fun q hq => keepS (own_later (hQs q hq) b2)
          have hb3 : Below w.heap.size w w3 := (((hbw.trans (b2.mono hbw.size)).alloc hz2 _).alloc (by simp; omega) _).grown hgrow (by simp; omega) (fun k hk => (hQo2.lt k hk).1)
          obtain ⟨a', c', hv⟩ := own_form hown3
          subst hv
          have hpo3 : PcsOwn w3 w.heap.size (.slice a' (Q.length + 1) c') (acc ++ [⟨sp, tu, ma⟩]) := by
            refine ⟨Q ++ [(.slice sa sp.length sc, ⟨sp, tu, ma⟩)], by rw [List.map_append, HQ.out]; rfl, ?_, ?_⟩
            · rw [rowOf_append, rowOf_one, List.length_append]; exact hown3
            · intro q hq
              rcases List.mem_append.1 hq with h | h
              · exact hqs3 q h
              · simp at h; subst h; exact hns
          have hnl : n ≤ S0.length - m := hhb
          have hnl2 : (n : Int) ≤ ((S0.length - m : Nat) : Int) := by omega
          clear hgrow keepS hOA hown3 hQo hQs hQo2 ho2 hhd2
          go_wp2
          refine ⟨⟨m + n, f, _, _, C - n, by rw [Nat.sub_sub], by omega, by omega, ?_, by omega, hsr3, hpo3, by simp; omega, hb3, HL2⟩, ?_⟩
          · intro hl
            exact ⟨g, rfl, by rw [if_neg (by omega), Nat.add_mul]⟩
          · simp only [lenOf]; omega
      · have hmm : m = S0.length := by omega
        have HN2 : Hid (patR s.data.toList = some acc) := by
          show _ = _
          rw [HN.out, HL.out, hmm, List.drop_length, pcF_nil]; simp
        have hli : ¬ (0 : Int) < ((S0.length - m : Nat) : Int) := by omega
        clear hA hmm
        go_wp2
        go_ret2
        rw [HN2.out]
        exact ⟨hbw, _, rfl, hpo⟩

end Go.Proofs.Ytmijhgecdkdkmaa
