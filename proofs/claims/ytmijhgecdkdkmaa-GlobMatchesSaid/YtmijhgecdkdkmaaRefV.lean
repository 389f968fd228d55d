/-
  What the reference's Pattern and CheckGlob answer.
-/
import Derived.Test.YtmijhgecdkdkmaaRefZ
import Derived.Lib.Hide
set_option linter.unusedVariables false
namespace Go.Proofs.Ytmijhgecdkdkmaa
open Go.RowKit

def rpC (x : (Value × Value) × Pc) : List Value := [.bool x.2.many, .bool x.2.turned, x.1.1, x.1.2]

/-- A row of the reference's pieces, each with its bounds. -/
def RPcs (w : World) (B : Nat) (v : Value) (P : List Pc) : Prop :=
  ∃ Q : List ((Value × Value) × Pc), Q.map Prod.snd = P ∧ w.ownsRow B 65 4 v Q.length (rowOf rpC Q) ∧ ∀ q ∈ Q, Bounds w B q.1.1 q.1.2 q.2

theorem RPcs.later {w w' : World} {B : Nat} {v : Value} {P : List Pc} (h : RPcs w B v P) (hb : Below w.heap.size w w') : RPcs w' B v P := by
  obtain ⟨Q, hq, ho, hs⟩ := h
  exact ⟨Q, hq, own_later ho hb, fun q hm => (hs q hm).later hb⟩
theorem RPcs.base {w : World} {B B' : Nat} {v : Value} {P : List Pc} (h : RPcs w B v P) (hb : B' ≤ B) : RPcs w B' v P := by
  obtain ⟨Q, hq, ho, hs⟩ := h
  exact ⟨Q, hq, own_base ho hb, fun q hm => ⟨own_base (hs q hm).1 hb, own_base (hs q hm).2 hb⟩⟩
theorem RPcs.nil (w : World) (B : Nat) : RPcs w B (.slice none 0 0) [] := ⟨[], rfl, ⟨rfl, .inl ⟨rfl, rfl⟩⟩, fun q hq => by cases hq⟩

theorem infoRPiece : (Try.prog.info? 65).map (fun i => (i.zero, i.size, i.bytes)) = some (some (.agg #[.bool false, .bool false, .slice none 0 0, .slice none 0 0]), 4, 56) := by kernel_rfl

/-- One more piece. -/
theorem RPcs.put {W w3 : World} {B : Nat} {o v' lo hi : Value} {Q : List ((Value × Value) × Pc)} {p : Pc} (hQ : W.ownsRow B 65 4 o Q.length (rowOf rpC Q)) (hs : ∀ q ∈ Q, Bounds W B q.1.1 q.1.2 q.2) (hb : Bounds W B lo hi p)
    (hg : W.grownBy w3 o.ownBlock) (ho : w3.ownsRow B 65 4 v' (Q.length + 1) (rowOf rpC Q ++ rpC ((lo, hi), p))) : RPcs w3 B v' (Q.map Prod.snd ++ [p]) := by
  have keep : ∀ {v : Value} {k : Nat} {xs : List Value}, W.ownsRow B 21 1 v k xs → w3.ownsRow B 21 1 v k xs := fun h => h.kept hg (own_apart h hQ (by decide))
  have keepB : ∀ {lo hi : Value} {p : Pc}, Bounds W B lo hi p → Bounds w3 B lo hi p := fun h => ⟨keep h.1, keep h.2⟩
  refine ⟨Q ++ [((lo, hi), p)], by simp, ?_, ?_⟩
  · rw [rowOf_append, rowOf_one, List.length_append]; exact ho
  · intro q hq
    rcases List.mem_append.1 hq with h | h
    · exact keepB (hs q h)
    · simp at h; subst h; exact keepB hb

theorem bounds_nil (w : World) (B : Nat) (t m : Bool) : Bounds w B (.slice none 0 0) (.slice none 0 0) ⟨[], t, m⟩ := ⟨⟨rfl, .inl ⟨rfl, rfl⟩⟩, ⟨rfl, .inl ⟨rfl, rfl⟩⟩⟩

theorem lit_bounds (W : World) (x : Nat) (o : Obj) {B : Nat} (hB : B ≤ W.heap.size) :
    Bounds (((W.alloc (.cells #[.int .i32 x] 21)).alloc (.cells #[.int .i32 x] 21)).alloc o) B (.slice (some ⟨W.heap.size, 0, none⟩) 1 1) (.slice (some ⟨W.heap.size + 1, 0, none⟩) 1 1) (litP x) := by
  have h1 := World.ownsRow_lit (base := B) (e := 21) (size := 1) W #[.int .i32 x] 1 hB (by unfold maxLen; omega) rfl
  have h2 := World.ownsRow_lit (base := B) (e := 21) (size := 1) (W.alloc (.cells #[.int .i32 x] 21)) #[.int .i32 x] 1 (by simp; omega) (by unfold maxLen; omega) rfl
  rw [show (W.alloc (.cells #[.int .i32 x] 21)).heap.size = W.heap.size + 1 by simp] at h2
  exact ⟨(h1.alloc _).alloc _, h2.alloc _⟩

def RPatPost (o : Option (List Pc)) (w : World) (e : Ending) (w' : World) : Prop :=
  Below w.heap.size w w' ∧ match o with
  | none => e = .returned (.tuple #[.slice none 0 0, .bool false])
  | some P => ∃ v, e = .returned (.tuple #[v, .bool true]) ∧ RPcs w' w.heap.size v P

theorem rp_star {f : Nat} {T : List Nat} {acc : List Pc} (o : Option (List Pc)) (h : o = (rpF (f + 1) (42 :: T)).map (acc ++ ·)) : o = (rpF f T).map ((acc ++ [⟨[], false, true⟩]) ++ ·) := by
  rw [h, rpF, if_pos rfl, map_put]
theorem rp_any {f : Nat} {T : List Nat} {acc : List Pc} (o : Option (List Pc)) (h : o = (rpF (f + 1) (63 :: T)).map (acc ++ ·)) : o = (rpF f T).map ((acc ++ [⟨[], true, false⟩]) ++ ·) := by
  rw [h, rpF, if_neg (by omega), if_pos rfl, map_put]
theorem rp_set {f : Nat} {T T' : List Nat} {sp : List (Nat × Nat)} {acc : List Pc} (o : Option (List Pc)) (h : o = (rpF (f + 1) (91 :: T)).map (acc ++ ·)) (hs : rsS (T.length + 1) true (setBody T) [] = some (sp, T')) : o = (rpF f T').map ((acc ++ [⟨sp, T.head? == some 94, false⟩]) ++ ·) := by
  unfold setBody at hs
  rw [h, rpF, if_neg (by omega), if_neg (by omega), if_pos rfl, hs]
  simp only
  rw [map_put]
theorem rp_noset {f : Nat} {T : List Nat} {acc : List Pc} (o : Option (List Pc)) (h : o = (rpF (f + 1) (91 :: T)).map (acc ++ ·)) (hs : rsS (T.length + 1) true (setBody T) [] = none) : o = none := by
  unfold setBody at hs
  rw [h, rpF, if_neg (by omega), if_neg (by omega), if_pos rfl, hs]
  rfl
theorem rp_esc {f x : Nat} {T : List Nat} {acc : List Pc} (o : Option (List Pc)) (h : o = (rpF (f + 1) (92 :: x :: T)).map (acc ++ ·)) : o = (rpF f T).map ((acc ++ [litP x]) ++ ·) := by
  rw [h, rpF, if_neg (by omega), if_neg (by omega), if_neg (by omega)]
  simp only [item, if_true]
  rw [map_put]
theorem rp_end {f : Nat} {acc : List Pc} (o : Option (List Pc)) (h : o = (rpF (f + 1) [92]).map (acc ++ ·)) : o = none := by
  rw [h, rpF, if_neg (by omega), if_neg (by omega), if_neg (by omega)]
  simp [item]
theorem rp_lit {f r : Nat} {T : List Nat} {acc : List Pc} (o : Option (List Pc)) (h : o = (rpF (f + 1) (r :: T)).map (acc ++ ·)) (h1 : r ≠ 42) (h2 : r ≠ 63) (h3 : r ≠ 91) (h4 : r ≠ 92) : o = (rpF f T).map ((acc ++ [litP r]) ++ ·) := by
  rw [h, rpF, if_neg h1, if_neg h2, if_neg h3]
  simp only [item, if_neg h4]
  rw [map_put]
theorem rp_nil {f : Nat} {acc : List Pc} (o : Option (List Pc)) (h : o = (rpF f []).map (acc ++ ·)) : o = some acc := by
  rw [h]; cases f <;> simp [rpF]

theorem item_suf {T T2 : List Nat} {x : Nat} (h : item T = some (x, T2)) : ∃ m, T2 = T.drop m := by
  obtain ⟨b, _, ⟨_, e, _⟩ | ⟨_, e⟩⟩ := item_signs h
  · exact ⟨1, by rw [e]; rfl⟩
  · exact ⟨2, by rw [e]; rfl⟩
theorem dash_suf {T T2 : List Nat} (h : dash T = some T2) : ∃ m, T2 = T.drop m := by
  unfold dash at h
  split at h
  · split at h
    · simp at h
    · simp at h; exact ⟨1, by rw [← h]; rfl⟩
  · simp at h
theorem rsS_suf : ∀ (f : Nat) (first : Bool) (T : List Nat) (acc a : List (Nat × Nat)) (T' : List Nat), rsS f first T acc = some (a, T') → ∃ m, T' = T.drop m
  | 0, _, _, _, _, _, h => by simp [rsS] at h
  | f + 1, first, [], acc, a, T', h => by simp [rsS] at h
  | f + 1, first, r :: T, acc, a, T', h => by
    rw [rsS] at h
    split at h
    · split at h
      · simp at h
      · simp at h; exact ⟨1, by rw [← h.2]; rfl⟩
    · split at h
      · simp at h
      · cases hi : item (r :: T) with
        | none => rw [hi] at h; simp at h
        | some y =>
          obtain ⟨x, T2⟩ := y
          rw [hi] at h
          simp only at h
          obtain ⟨m2, h2⟩ := item_suf hi
          cases hd : dash T2 with
          | none =>
            rw [hd] at h
            obtain ⟨m, hm⟩ := rsS_suf f _ _ _ _ _ h
            exact ⟨m2 + m, by rw [hm, h2, List.drop_drop]⟩
          | some T3 =>
            rw [hd] at h
            simp only at h
            obtain ⟨m3, h3⟩ := dash_suf hd
            cases hi2 : item T3 with
            | none => rw [hi2] at h; simp at h
            | some q =>
              obtain ⟨y, T4⟩ := q
              rw [hi2] at h
              simp only at h
              obtain ⟨m4, h4⟩ := item_suf hi2
              split at h
              · simp at h
              · obtain ⟨m, hm⟩ := rsS_suf f _ _ _ _ _ h
                exact ⟨m2 + m3 + m4 + m, by rw [hm, h4, h3, h2, List.drop_drop, List.drop_drop, List.drop_drop]; congr 1; omega⟩
theorem suf_at {T U : List Nat} {m : Nat} (h : U = T.drop m) : U = T.drop (T.length - U.length) ∧ U.length ≤ T.length := by
  have hl := congrArg List.length h
  rw [List.length_drop] at hl
  refine ⟨?_, by omega⟩
  by_cases hk : m ≤ T.length
  · rw [show T.length - U.length = m by omega]; exact h
  · have : U = [] := List.length_eq_zero_iff.1 (by omega)
    rw [this]; simp
theorem body_suf (T : List Nat) : ∃ m, setBody T = T.drop m := by
  unfold setBody
  split
  · exact ⟨1, by simp⟩
  · exact ⟨0, rfl⟩

/-- Where Pattern stands in its loop. -/
def RpRel (T0 : List Nat) (O : Option (List Pc)) (W1 : World) (o i : Value) (wr : World) : Prop :=
  ∃ (k f : Nat) (acc : List Pc), i = .int .i64 k ∧ k ≤ T0.length ∧ T0.length ≤ k + f ∧ RPcs wr W1.heap.size o acc ∧ acc.length ≤ k ∧ Below W1.heap.size W1 wr ∧ Hid (O = (rpF f (T0.drop k)).map (acc ++ ·))

set_option maxHeartbeats 8000000 in
set_option maxRecDepth 100000 in
theorem Pattern_any (s : ByteArray) (w : World) (hs : s.size ≤ 1000000) :
    Calls Try.prog 36 #[.string s] w (RPatPost (rPat s.data.toList) w) := by
  obtain ⟨i0, hi, hz0, hz1, hz2⟩ := info_parts infoRPiece
  obtain ⟨j0, hj, hy0, hy1, hy2⟩ := info_parts infoInt
  have cA := All_p s w hs
  have cV := fun wx => rValid_any s wx hs
  have hlen := pieces_length_le s.data.toList
  rw [← size_len] at hlen
  cases hv : vldB s with
  | false =>
    have hv' : valid s.data.toList = false := hv
    rw [hv'] at cV
    have HN : Hid (rPat s.data.toList = none) := by
      show _ = _
      unfold rPat; rw [if_neg]; rintro ⟨h, _⟩; rw [hv'] at h; cases h
    clear hv hv'
    go_enter Try.func36, Try.ntmps36
    go_wp2_with (go_at_call 34; refine cA.mono ?_)
    rintro e W1 ⟨a, n, cap, rfl, hn, ho, b1⟩
    clear hn
    go_wp2_with (go_at_call 23; refine (cV _).mono ?_)
    first | rintro e W2 ⟨rfl, b2⟩ | rintro e W2 rfl b2
    go_wp2
    go_ret2
    rw [HN.out]
    exact ⟨b1.trans (b2.mono b1.size), rfl⟩
  | true =>
  have hv' : valid s.data.toList = true := hv
  rw [hv'] at cV
  have HP : Hid (rPat s.data.toList = if (pieces s.data.toList).length ≤ 40 then rpF (runesOf (pieces s.data.toList)).length (runesOf (pieces s.data.toList)) else none) := by
    show _ = _
    unfold rPat
    by_cases h : (pieces s.data.toList).length ≤ 40
    · rw [if_pos ⟨hv', h⟩, if_pos h]; simp [runesOf]
    · rw [if_neg (fun h' => h h'.2), if_neg h]
  clear hv hv'
  have hruns : (elems 0 (pieces s.data.toList)).map (·.r) = runesOf (pieces s.data.toList) := by
    apply List.ext_getElem
    · simp [elems_len, runesOf]
    · intro i h1 h2
      have h3 : i < (pieces s.data.toList).length := by simpa [runesOf] using h2
      rw [List.getElem_map, elems_get _ i h3 0]
      simp [runesOf]
  have hrl : (runesOf (pieces s.data.toList)).length = (pieces s.data.toList).length := by simp [runesOf]
  have hel : (elems 0 (pieces s.data.toList)).length = (pieces s.data.toList).length := elems_len _ _
  obtain ⟨T0, hT0⟩ : ∃ T0, T0 = runesOf (pieces s.data.toList) := ⟨_, rfl⟩
  obtain ⟨es, hes⟩ : ∃ es, es = elems 0 (pieces s.data.toList) := ⟨_, rfl⟩
  have cA2 : Calls Try.prog 34 #[.string s] w fun e w' => ∃ a cap, e = .returned (.slice a T0.length cap) ∧ w'.ownsRow w.heap.size 54 4 (.slice a T0.length cap) T0.length (cellsOf es) ∧ Below w.heap.size w w' := by
    refine cA.mono ?_
    rintro e w' ⟨a, n, cap, he, hn, ho, hb⟩
    rw [hT0, hes, hrl, ← hn]
    exact ⟨a, cap, he, ho, hb⟩
  rw [← hrl, ← hT0] at HP hlen
  rw [← hT0] at hrl
  rw [← hes] at hel
  rw [← hT0, ← hes] at hruns
  have hee : es.length = T0.length := hel.trans hrl.symm
  clear hT0 hes cA hrl hel
  by_cases hcnt : 40 < T0.length
  · have HN : Hid (rPat s.data.toList = none) := by show _ = _; rw [HP.out, if_neg (by omega)]
    clear HP hruns hee
    go_enter Try.func36, Try.ntmps36
    go_wp2_with (go_at_call 34; refine cA2.mono ?_)
    rintro e W1 ⟨a, cap, rfl, ho, b1⟩
    go_wp2_with (go_at_call 23; refine (cV _).mono ?_)
    first | rintro e W2 ⟨rfl, b2⟩ | rintro e W2 rfl b2
    go_wp2
    go_ret2
    rw [HN.out]
    exact ⟨b1.trans (b2.mono b1.size), rfl⟩
  have HO : Hid (rPat s.data.toList = rpF T0.length T0) := by show _ = _; rw [HP.out, if_pos (by omega)]
  obtain ⟨O, hO⟩ : ∃ O, O = rPat s.data.toList := ⟨_, rfl⟩
  rw [← hO] at HO ⊢
  clear HP hO
  have HE := Lib.hid hee
  clear hee
  go_enter Try.func36, Try.ntmps36
  go_wp2_with (go_at_call 34; refine cA2.mono ?_)
  rintro e W0 ⟨a, cap, rfl, ho, b1⟩
  go_wp2_with (go_at_call 23; refine (cV _).mono ?_)
  first | rintro e W1 ⟨rfl, b2⟩ | rintro e W1 rfl b2
  have b3 : Below w.heap.size w W1 := b1.trans (b2.mono b1.size)
  have hoo := own_later ho b2
  have hrow : T0.length = 0 ∨ ∃ g, a = some ⟨g, 0, none⟩ ∧ T0.length ≤ cap ∧ ∀ i (h : i < T0.length), W1.cell? ⟨g, i * 4, none⟩ = some (.int .i32 T0[i]) := by
    by_cases h0 : T0.length = 0
    · exact .inl h0
    · right
      obtain ⟨g, rfl, _, hc⟩ := row_at hoo HE.out (by omega)
      refine ⟨g, rfl, ?_, fun i h => ?_⟩
      · rcases hoo.2 with ⟨_, hx⟩ | ⟨g', cap', cur, hvv, _, _, hx, _⟩
        · omega
        · injection hvv with _ _ e3; subst e3; exact hx
      · have h' : i < es.length := by rw [HE.out]; exact h
        have e : T0[i] = (es[i]'h').r := by
          have : T0[i]? = (es.map (·.r))[i]? := by rw [hruns]
          rw [List.getElem?_eq_getElem h, List.getElem?_map, List.getElem?_eq_getElem h'] at this
          simpa using this
        rw [e]
        exact (hc i h').1
  clear ho hoo b1 b2 cA2 cV hruns HE
  go_wp2
  go_loopw [5, 6] (fun o i wr => RpRel T0 O W1 o i wr) (fun _ i _ => T0.length - (intOf i).toNat)
  case atStart => exact ⟨0, T0.length, [], rfl, Nat.zero_le _, by omega, RPcs.nil _ _, Nat.le_refl _, Below.refl _ _, by show _ = _; rw [HO.out]; simp⟩
  case round =>
    obtain ⟨k, f, acc, rfl, hk, hkf, hpo, hal, hbw, HL⟩ := hrel
    by_cases hlt : k < T0.length
    · obtain ⟨g, rfl, hcap, hcell⟩ := hrow.resolve_left (by omega)
      obtain ⟨f, rfl⟩ : ∃ z, f = z + 1 := ⟨f - 1, by omega⟩
      have hck := hcell k hlt
      have hg1 : g < W1.heap.size := World.block_lt_of_cell? _ _ hck
      have hckr := (hbw.cell (p := ⟨g, k * 4, none⟩) hg1).trans hck
      have hdrop : T0.drop k = T0[k] :: T0.drop (k + 1) := List.drop_eq_getElem_cons hlt
      obtain ⟨r, hr⟩ : ∃ r, r = T0[k] := ⟨_, rfl⟩
      rw [← hr] at hckr hdrop
      have HD := Lib.hid hdrop
      obtain ⟨Q, hQ, hQo, hQs⟩ := hpo
      obtain ⟨oa, oc, hov⟩ := own_form hQo
      subst hov
      have hQl : Q.length ≤ 40 := by
        have : Q.length = acc.length := by rw [← hQ, List.length_map]
        omega
      have HQ := Lib.hid hQ
      have hrow2 := Lib.hid hrow
      clear hdrop hQ hck hr hrow
      by_cases h42 : r = 42
      · have hi42 : ((r : Int) == 42) = true := by simpa using (by omega : (r : Int) = 42)
        have HL2 := Lib.hid (rp_star O (by have h := HL.out; rw [HD.out, h42] at h; exact h))
        have hbz := hbw.size
        clear h42 HL
        go_wp2_with (at_builtin; go_loud (refine wpList_append_own_at _ rfl _ _ 58 rfl W1.heap.size 65 i0 (.agg #[.bool false, .bool false, .slice none 0 0, .slice none 0 0]) 4 56 Try.underlying58 hi hz0 hz1 hz2 rfl (by decide) _ _ _ rfl (hQo.alloc _) _ _ _ (rpC ((.slice none 0 0, .slice none 0 0), ⟨[], false, true⟩)) rfl rfl ?c1 ?c2 ?c3 ?c4 ?c5 ?_))
        case c1 => intro j u hj; exact new_row _ _ _ _ (by simp) j u hj
        case c2 => intro u hu; simp [rpC] at hu; rcases hu with rfl | rfl | rfl | rfl <;> rfl
        case c3 => unfold maxLen; omega
        case c4 => omega
        case c5 => simp; omega
        intro v' w3 ho3 hg3 _ _
        obtain ⟨a', c', hv⟩ := own_form ho3
        subst hv
        have hp3 := RPcs.put (hQo.alloc _) (fun q hq => (hQs q hq).later ((Below.refl _ wr).alloc (Nat.le_refl _) _)) (bounds_nil _ _ false true) hg3 ho3
        rw [HQ.out] at hp3
        have hb3 : Below W1.heap.size W1 w3 := (hbw.alloc hbz _).grown hg3 (by simp; omega) (fun k hk => (hQo.lt k hk).1)
        clear hg3 ho3 hQo hQs hbw
        go_wp2
        go_roundw
        case rel => exact ⟨k + 1, f, _, by go_num, by omega, by omega, hp3, by simp; omega, hb3, HL2⟩
        case measure => simp [intOf]; omega
      · have hi42 : ((r : Int) == 42) = false := by simpa using (by omega : ¬ (r : Int) = 42)
        by_cases h63 : r = 63
        · have hi63 : ((r : Int) == 63) = true := by simpa using (by omega : (r : Int) = 63)
          have HL2 := Lib.hid (rp_any O (by have h := HL.out; rw [HD.out, h63] at h; exact h))
          have hbz := hbw.size
          clear h63 HL
          go_wp2_with (at_builtin; go_loud (refine wpList_append_own_at _ rfl _ _ 58 rfl W1.heap.size 65 i0 (.agg #[.bool false, .bool false, .slice none 0 0, .slice none 0 0]) 4 56 Try.underlying58 hi hz0 hz1 hz2 rfl (by decide) _ _ _ rfl (hQo.alloc _) _ _ _ (rpC ((.slice none 0 0, .slice none 0 0), ⟨[], true, false⟩)) rfl rfl ?d1 ?d2 ?d3 ?d4 ?d5 ?_))
          case d1 => intro j u hj; exact new_row _ _ _ _ (by simp) j u hj
          case d2 => intro u hu; simp [rpC] at hu; rcases hu with rfl | rfl | rfl | rfl <;> rfl
          case d3 => unfold maxLen; omega
          case d4 => omega
          case d5 => simp; omega
          intro v' w3 ho3 hg3 _ _
          obtain ⟨a', c', hv⟩ := own_form ho3
          subst hv
          have hp3 := RPcs.put (hQo.alloc _) (fun q hq => (hQs q hq).later ((Below.refl _ wr).alloc (Nat.le_refl _) _)) (bounds_nil _ _ true false) hg3 ho3
          rw [HQ.out] at hp3
          have hb3 : Below W1.heap.size W1 w3 := (hbw.alloc hbz _).grown hg3 (by simp; omega) (fun k hk => (hQo.lt k hk).1)
          clear hg3 ho3 hQo hQs hbw
          go_wp2
          go_roundw
          case rel => exact ⟨k + 1, f, _, by go_num, by omega, by omega, hp3, by simp; omega, hb3, HL2⟩
          case measure => simp [intOf]; omega
        have hi63 : ((r : Int) == 63) = false := by simpa using (by omega : ¬ (r : Int) = 63)
        by_cases h91 : r = 91
        · have hi91 : ((r : Int) == 91) = true := by simpa using (by omega : (r : Int) = 91)
          have hL : O = (rpF (f + 1) (91 :: T0.drop (k + 1))).map (acc ++ ·) := by have h := HL.out; rw [HD.out, h91] at h; exact h
          obtain ⟨T, hT⟩ : ∃ T, T = T0.drop (k + 1) := ⟨_, rfl⟩
          have hTl : T.length = T0.length - (k + 1) := by rw [hT, List.length_drop]
          have cS : ∀ (a' : Option Addr) (m C : Nat), m = T0.length - (k + 1) → (T ≠ [] → a' = some ⟨g, (k + 1) * 4, none⟩) → Calls Try.prog 46 #[.slice a' m C] wr (RSetPost T wr) := by
            intro a' m C hm ha
            refine rSet_any _ T wr ⟨a', C, by rw [hm, hTl], fun hne => ⟨g, (k + 1) * 4, ha hne, fun i h => ?_⟩⟩ (by omega)
            have h2 : k + 1 + i < T0.length := by omega
            have h3 := (hbw.cell (p := ⟨g, (k + 1 + i) * 4, none⟩) hg1).trans (hcell (k + 1 + i) h2)
            have e : T[i] = T0[k + 1 + i] := by
              have : T[i]? = T0[k + 1 + i]? := by rw [hT, List.getElem?_drop]
              rw [List.getElem?_eq_getElem h, List.getElem?_eq_getElem h2] at this
              simpa using this
            rw [e, show (k + 1) * 4 + i * 4 = (k + 1 + i) * 4 by omega]
            exact h3
          rw [← hT] at hL
          cases hrs : rsS (T.length + 1) true (setBody T) [] with
          | none =>
            have HN := Lib.hid (rp_noset O hL hrs)
            have cS2 : ∀ (a' : Option Addr) (m C : Nat), m = T0.length - (k + 1) → (T ≠ [] → a' = some ⟨g, (k + 1) * 4, none⟩) → Calls Try.prog 46 #[.slice a' m C] wr fun e w' => Below wr.heap.size wr w' ∧ ∃ a b la ln lc ha hn hc, e = .returned (.tuple #[.agg #[.bool a, .bool b, .slice la ln lc, .slice ha hn hc], .int .i64 (-1)]) := by
              intro a' m C hm ha
              have := cS a' m C hm ha
              unfold RSetPost at this
              rw [hrs] at this
              exact this
            clear cS hL hrs h91 HL HD hrow2
            by_cases hcy : cap = k + 1
            · subst hcy
              go_wp2_with (go_at_call 46; (with_reducible refine (cS2 _ _ _ ?s1 ?s2).mono ?_))
              case s1 => omega
              case s2 => intro hne; exact absurd (List.length_eq_zero_iff.1 (by omega)) hne
              rintro e W2 ⟨b2, xa, xb, la, ln, lc, ha, hn', hc, rfl⟩
              have hw2 : Below w.heap.size w W2 := b3.trans ((hbw.trans (b2.mono hbw.size)).mono b3.size)
              clear b2 hbw cS2 hQs hQo hcell hckr
              go_wp2
              go_ret2
              rw [HN.out]
              exact ⟨hw2.alloc hw2.size _, rfl⟩
            · go_wp2_with (go_at_call 46; (with_reducible refine (cS2 _ _ _ ?s3 ?s4).mono ?_))
              case s3 => rfl
              try (case s4 => intro _; rfl)
              rintro e W2 ⟨b2, xa, xb, la, ln, lc, ha, hn', hc, rfl⟩
              have hw2 : Below w.heap.size w W2 := b3.trans ((hbw.trans (b2.mono hbw.size)).mono b3.size)
              clear b2 hbw cS2 hQs hQo hcell hckr
              go_wp2
              go_ret2
              rw [HN.out]
              exact ⟨hw2.alloc hw2.size _, rfl⟩
          | some y =>
            obtain ⟨sp, T'⟩ := y
            have hL2 := rp_set O hL hrs
            obtain ⟨m1, hm1⟩ := rsS_suf _ _ _ _ _ _ hrs
            obtain ⟨m2, hm2⟩ := body_suf T
            rw [hm2, List.drop_drop] at hm1
            obtain ⟨hsu, hle⟩ := suf_at hm1
            obtain ⟨nn, hnn⟩ : ∃ nn, nn = T.length - T'.length := ⟨_, rfl⟩
            have hnn2 : k + 1 + nn ≤ T0.length := by omega
            have HL2 : Hid (O = (rpF f (T0.drop (k + nn + 1))).map ((acc ++ [⟨sp, T.head? == some 94, false⟩]) ++ ·)) := by
              show _ = _
              rw [hL2, hsu, ← hnn, hT, List.drop_drop, show k + 1 + nn = k + nn + 1 by omega]
            have cS2 : ∀ (a' : Option Addr) (m C : Nat), m = T0.length - (k + 1) → (T ≠ [] → a' = some ⟨g, (k + 1) * 4, none⟩) → Calls Try.prog 46 #[.slice a' m C] wr fun e w' => Below wr.heap.size wr w' ∧ ∃ la lc ha hc, e = .returned (.tuple #[.agg #[.bool false, .bool (T.head? == some 94), .slice la sp.length lc, .slice ha sp.length hc], .int .i64 nn]) ∧ Bounds w' wr.heap.size (.slice la sp.length lc) (.slice ha sp.length hc) ⟨sp, T.head? == some 94, false⟩ := by
              intro a' m C hm ha
              have := cS a' m C hm ha
              unfold RSetPost at this
              rw [hrs] at this
              simp only at this
              have en : ((T.length : Int) - (T'.length : Int)) = (nn : Int) := by omega
              rw [en] at this
              exact this
            obtain ⟨tt, htt⟩ : ∃ tt, tt = (T.head? == some 94) := ⟨_, rfl⟩
            rw [← htt] at HL2 cS2
            clear cS hL hrs h91 HL HD hrow2 hL2 hm1 hm2 hsu htt hnn hle
            by_cases hcy : cap = k + 1
            · subst hcy
              have hT00 : T = [] := List.length_eq_zero_iff.1 (by omega)
              go_wp2_with (go_at_call 46; (with_reducible refine (cS2 _ _ _ ?s5 ?s6).mono ?_))
              case s5 => omega
              case s6 => intro hne; exact absurd hT00 hne
              rintro e W2 ⟨b2, la, lc, ha, hc, rfl, hBd⟩
              have hb2 : Below W1.heap.size W1 W2 := hbw.trans (b2.mono hbw.size)
              have hQo2 := own_later hQo b2
              have hQs2 := fun q hq => (hQs q hq).later b2
              have hBd2 : Bounds W2 W1.heap.size (.slice la sp.length lc) (.slice ha sp.length hc) ⟨sp, tt, false⟩ := ⟨own_base hBd.1 hbw.size, own_base hBd.2 hbw.size⟩
              clear b2 hbw cS2 hQs hQo hcell hckr hBd
              go_wp2_with (at_builtin; go_loud (refine wpList_append_own_at _ rfl _ _ 58 rfl W1.heap.size 65 i0 (.agg #[.bool false, .bool false, .slice none 0 0, .slice none 0 0]) 4 56 Try.underlying58 hi hz0 hz1 hz2 rfl (by decide) _ _ _ rfl ((hQo2.alloc _).alloc _) _ _ _ (rpC ((.slice la sp.length lc, .slice ha sp.length hc), ⟨sp, tt, false⟩)) rfl rfl ?m1 ?m2 ?m3 ?m4 ?m5 ?_))
              case m1 => intro j u hj; exact new_row _ _ _ _ (by simp) j u hj
              case m2 => intro u hu; simp [rpC] at hu; rcases hu with rfl | rfl | rfl | rfl <;> rfl
              case m3 => unfold maxLen; omega
              case m4 => omega
              case m5 => have := hb2.size; simp; omega
              intro v' w3 ho3 hg3 _ _
              obtain ⟨a', c', hv⟩ := own_form ho3
              subst hv
              have hAB : ∀ o1 o2 : Obj, Below W2.heap.size W2 ((W2.alloc o1).alloc o2) := fun o1 o2 => ((Below.refl _ W2).alloc (Nat.le_refl _) _).alloc (by simp) _
              have hp3 := RPcs.put ((hQo2.alloc _).alloc _) (fun q hq => (hQs2 q hq).later (hAB _ _)) (hBd2.later (hAB _ _)) hg3 ho3
              rw [HQ.out] at hp3
              have hb3 : Below W1.heap.size W1 w3 := ((hb2.alloc hb2.size _).alloc (by have := hb2.size; simp; omega) _).grown hg3 (by have := hb2.size; simp; omega) (fun k hk => (hQo2.lt k hk).1)
              clear hg3 ho3 hQo2 hQs2 hb2 hBd2 hAB
              go_wp2
              go_roundw
              case rel => exact ⟨k + nn + 1, f, _, by go_num, by omega, by omega, hp3, by simp; omega, hb3, HL2⟩
              case measure => simp [intOf]; omega
            · go_wp2_with (go_at_call 46; (with_reducible refine (cS2 _ _ _ ?s7 ?s8).mono ?_))
              case s7 => rfl
              try (case s8 => intro _; rfl)
              rintro e W2 ⟨b2, la, lc, ha, hc, rfl, hBd⟩
              have hb2 : Below W1.heap.size W1 W2 := hbw.trans (b2.mono hbw.size)
              have hQo2 := own_later hQo b2
              have hQs2 := fun q hq => (hQs q hq).later b2
              have hBd2 : Bounds W2 W1.heap.size (.slice la sp.length lc) (.slice ha sp.length hc) ⟨sp, tt, false⟩ := ⟨own_base hBd.1 hbw.size, own_base hBd.2 hbw.size⟩
              clear b2 hbw cS2 hQs hQo hcell hckr hBd
              go_wp2_with (at_builtin; go_loud (refine wpList_append_own_at _ rfl _ _ 58 rfl W1.heap.size 65 i0 (.agg #[.bool false, .bool false, .slice none 0 0, .slice none 0 0]) 4 56 Try.underlying58 hi hz0 hz1 hz2 rfl (by decide) _ _ _ rfl ((hQo2.alloc _).alloc _) _ _ _ (rpC ((.slice la sp.length lc, .slice ha sp.length hc), ⟨sp, tt, false⟩)) rfl rfl ?n1 ?n2 ?n3 ?n4 ?n5 ?_))
              case n1 => intro j u hj; exact new_row _ _ _ _ (by simp) j u hj
              case n2 => intro u hu; simp [rpC] at hu; rcases hu with rfl | rfl | rfl | rfl <;> rfl
              case n3 => unfold maxLen; omega
              case n4 => omega
              case n5 => have := hb2.size; simp; omega
              intro v' w3 ho3 hg3 _ _
              obtain ⟨a', c', hv⟩ := own_form ho3
              subst hv
              have hAB : ∀ o1 o2 : Obj, Below W2.heap.size W2 ((W2.alloc o1).alloc o2) := fun o1 o2 => ((Below.refl _ W2).alloc (Nat.le_refl _) _).alloc (by simp) _
              have hp3 := RPcs.put ((hQo2.alloc _).alloc _) (fun q hq => (hQs2 q hq).later (hAB _ _)) (hBd2.later (hAB _ _)) hg3 ho3
              rw [HQ.out] at hp3
              have hb3 : Below W1.heap.size W1 w3 := ((hb2.alloc hb2.size _).alloc (by have := hb2.size; simp; omega) _).grown hg3 (by have := hb2.size; simp; omega) (fun k hk => (hQo2.lt k hk).1)
              clear hg3 ho3 hQo2 hQs2 hb2 hBd2 hAB
              go_wp2
              go_roundw
              case rel => exact ⟨k + nn + 1, f, _, by go_num, by omega, by omega, hp3, by simp; omega, hb3, HL2⟩
              case measure => simp [intOf]; omega
        have hi91 : ((r : Int) == 91) = false := by simpa using (by omega : ¬ (r : Int) = 91)
        by_cases h92 : r = 92
        · have hi92 : ((r : Int) == 92) = true := by simpa using (by omega : (r : Int) = 92)
          by_cases hend : k + 1 = T0.length
          · have HN := Lib.hid (rp_end O (by have h := HL.out; rw [HD.out, h92, List.drop_of_length_le (by omega)] at h; exact h))
            have hie : ((k : Int) + 1 == (T0.length : Int)) = true := by simpa using (by omega : (k : Int) + 1 = (T0.length : Int))
            clear hend h92 HL HD hrow2
            go_wp2
            go_ret2
            rw [HN.out]
            exact ⟨b3.trans (hbw.mono b3.size), rfl⟩
          have hie : ((k : Int) + 1 == (T0.length : Int)) = false := by simpa using (by omega : ¬ (k : Int) + 1 = (T0.length : Int))
          have hk1 : k + 1 < T0.length := by omega
          have hck2 := (hbw.cell (p := ⟨g, (k + 1) * 4, none⟩) hg1).trans (hcell (k + 1) hk1)
          have hdrop2 : T0.drop (k + 1) = T0[k + 1] :: T0.drop (k + 2) := List.drop_eq_getElem_cons hk1
          obtain ⟨x, hx⟩ : ∃ x, x = T0[k + 1] := ⟨_, rfl⟩
          rw [← hx] at hck2 hdrop2
          have HL2 := Lib.hid (rp_esc O (by have h := HL.out; rw [HD.out, h92, hdrop2] at h; exact h))
          clear hend h92 hx hdrop2
          have hbz := hbw.size
          have hb0 : Bounds (((wr.alloc (.cells #[.int .i32 x] 21)).alloc (.cells #[.int .i32 x] 21)).alloc (.cells #[.bool false, .bool false, .slice (some ⟨wr.heap.size, 0, none⟩) 1 1, .slice (some ⟨wr.heap.size + 1, 0, none⟩) 1 1] 65)) W1.heap.size (.slice (some ⟨wr.heap.size, 0, none⟩) 1 1) (.slice (some ⟨wr.heap.size + 1, 0, none⟩) 1 1) (litP x) := lit_bounds wr x _ hbz
          clear HL HD hrow2 hcell
          go_wp2_with (at_builtin; go_loud (refine wpList_append_own_at _ rfl _ _ 58 rfl W1.heap.size 65 i0 (.agg #[.bool false, .bool false, .slice none 0 0, .slice none 0 0]) 4 56 Try.underlying58 hi hz0 hz1 hz2 rfl (by decide) _ _ _ rfl (((hQo.alloc _).alloc _).alloc _) _ _ _ (rpC ((.slice (some ⟨wr.heap.size, 0, none⟩) 1 1, .slice (some ⟨wr.heap.size + 1, 0, none⟩) 1 1), litP x)) rfl rfl ?f1 ?f2 ?f3 ?f4 ?f5 ?_))
          case f1 => intro j u hj; exact new_row _ _ _ _ (by simp) j u hj
          case f2 => intro u hu; simp [rpC, litP] at hu; rcases hu with rfl | rfl | rfl | rfl <;> rfl
          case f3 => unfold maxLen; omega
          case f4 => omega
          case f5 => simp; omega
          intro v' w3 ho3 hg3 _ _
          obtain ⟨a', c', hv⟩ := own_form ho3
          subst hv
          have hp3 := RPcs.put (((hQo.alloc _).alloc _).alloc _) (fun q hq => (hQs q hq).later ((((Below.refl _ wr).alloc (Nat.le_refl _) _).alloc (by simp) _).alloc (by simp; omega) _)) hb0 hg3 ho3
          rw [HQ.out] at hp3
          have hb3 : Below W1.heap.size W1 w3 := (((hbw.alloc hbz _).alloc (by simp; omega) _).alloc (by simp; omega) _).grown hg3 (by simp; omega) (fun k hk => (hQo.lt k hk).1)
          clear hg3 ho3 hQo hQs hbw hb0
          go_wp2
          go_roundw
          case rel => exact ⟨k + 2, f, _, by go_num, by omega, by omega, hp3, by simp; omega, hb3, HL2⟩
          case measure => simp [intOf]; omega
        · have hi92 : ((r : Int) == 92) = false := by simpa using (by omega : ¬ (r : Int) = 92)
          have HL2 := Lib.hid (rp_lit O (by have h := HL.out; rw [HD.out] at h; exact h) h42 h63 h91 h92)
          have hbz := hbw.size
          have hb0 : Bounds (((wr.alloc (.cells #[.int .i32 r] 21)).alloc (.cells #[.int .i32 r] 21)).alloc (.cells #[.bool false, .bool false, .slice (some ⟨wr.heap.size, 0, none⟩) 1 1, .slice (some ⟨wr.heap.size + 1, 0, none⟩) 1 1] 65)) W1.heap.size (.slice (some ⟨wr.heap.size, 0, none⟩) 1 1) (.slice (some ⟨wr.heap.size + 1, 0, none⟩) 1 1) (litP r) := lit_bounds wr r _ hbz
          clear HL HD hrow2 hcell
          go_wp2_with (at_builtin; go_loud (refine wpList_append_own_at _ rfl _ _ 58 rfl W1.heap.size 65 i0 (.agg #[.bool false, .bool false, .slice none 0 0, .slice none 0 0]) 4 56 Try.underlying58 hi hz0 hz1 hz2 rfl (by decide) _ _ _ rfl (((hQo.alloc _).alloc _).alloc _) _ _ _ (rpC ((.slice (some ⟨wr.heap.size, 0, none⟩) 1 1, .slice (some ⟨wr.heap.size + 1, 0, none⟩) 1 1), litP r)) rfl rfl ?h1 ?h2 ?h3 ?h4 ?h5 ?_))
          case h1 => intro j u hj; exact new_row _ _ _ _ (by simp) j u hj
          case h2 => intro u hu; simp [rpC, litP] at hu; rcases hu with rfl | rfl | rfl | rfl <;> rfl
          case h3 => unfold maxLen; omega
          case h4 => omega
          case h5 => simp; omega
          intro v' w3 ho3 hg3 _ _
          obtain ⟨a', c', hv⟩ := own_form ho3
          subst hv
          have hp3 := RPcs.put (((hQo.alloc _).alloc _).alloc _) (fun q hq => (hQs q hq).later ((((Below.refl _ wr).alloc (Nat.le_refl _) _).alloc (by simp) _).alloc (by simp; omega) _)) hb0 hg3 ho3
          rw [HQ.out] at hp3
          have hb3 : Below W1.heap.size W1 w3 := (((hbw.alloc hbz _).alloc (by simp; omega) _).alloc (by simp; omega) _).grown hg3 (by simp; omega) (fun k hk => (hQo.lt k hk).1)
          clear hg3 ho3 hQo hQs hbw hb0
          go_wp2
          go_roundw
          case rel => exact ⟨k + 1, f, _, by go_num, by omega, by omega, hp3, by simp; omega, hb3, HL2⟩
          case measure => simp [intOf]; omega
    · have HN : Hid (O = some acc) := by
        show _ = _
        have h := HL.out
        rw [List.drop_of_length_le (by omega)] at h
        exact rp_nil _ h
      go_wp2
      go_ret2
      rw [HN.out]
      exact ⟨b3.trans (hbw.mono b3.size), _, rfl, hpo.base b3.size⟩

set_option maxHeartbeats 1000000 in
set_option maxRecDepth 100000 in
theorem rCheck_any (s : ByteArray) (w : World) (hs : s.size ≤ 1000000) :
    Calls Try.prog 19 #[.string s] w fun e w' => e = .returned (.int .i64 (if (rPat s.data.toList).isSome then 0 else 1)) ∧ Below w.heap.size w w' := by
  have c := Pattern_any s w hs
  unfold RPatPost at c
  cases ho : rPat s.data.toList with
  | none =>
    rw [ho] at c
    simp only at c
    clear ho
    go_enter Try.func19, Try.ntmps19
    go_wp2_with (go_at_call 36; refine c.mono ?_; rintro e W1 ⟨b1, rfl⟩)
    go_ret
    exact ⟨rfl, b1⟩
  | some P =>
    rw [ho] at c
    simp only at c
    clear ho
    go_enter Try.func19, Try.ntmps19
    go_wp2_with (go_at_call 36; refine c.mono ?_; rintro e W1 ⟨b1, v, rfl, _⟩)
    go_ret
    exact ⟨rfl, b1⟩

end Go.Proofs.Ytmijhgecdkdkmaa
