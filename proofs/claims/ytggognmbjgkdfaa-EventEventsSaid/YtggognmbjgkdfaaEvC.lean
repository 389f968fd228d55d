/-
  Batches, events, streams: read again as they were written; read with bounds, or without; how many bytes they take. Plain mathematics.
-/
import Derived.Test.YtggognmbjgkdfaaEvB
set_option linter.unusedVariables false
namespace Go.Proofs.Ytggognmbjgkdfaa
open Go.RowKit

theorem u8_small (y : Nat) (h : y < 256) : (y.toUInt8).toNat = y := Lib.toUInt8_toNat h

theorem unvF_uv (y : Nat) : ∀ (k acc : Nat) (r : List UInt8), k ≤ 9 → y * 2 ^ (7 * k) < 2 ^ 64 → (0 < k → 0 < y) → unvF k acc (Lib.uvarint y ++ r) = (acc + y * 2 ^ (7 * k), k + (Lib.uvarint y).length) := by
  induction y using Nat.strongRecOn with
  | _ y ih =>
    intro k acc r hk hy h0
    have h9 : k = 9 → y ≤ 1 := by
      rintro rfl
      have e : 2 ^ (7 * 9) = 9223372036854775808 := by decide
      rw [e] at hy
      omega
    by_cases hs : y < 128
    · rw [Lib.uvarint_small hs]
      have hb : (y.toUInt8).toNat = y := u8_small y (by omega)
      simp only [List.singleton_append, unvF_cons, hb]
      rw [if_neg (by omega), if_neg (by omega), if_neg (by omega)]
      rfl
    · have hb : ((y % 128 + 128).toUInt8).toNat = y % 128 + 128 := u8_small _ (by omega)
      have hk8 : k ≤ 8 := by omega
      have e : 2 ^ (7 * (k + 1)) = 128 * 2 ^ (7 * k) := by rw [show 7 * (k + 1) = 7 * k + 7 by omega, Nat.pow_add]; omega
      have hd : y = 128 * (y / 128) + y % 128 := (Nat.div_add_mod y 128).symm
      have hm : y / 128 * (128 * 2 ^ (7 * k)) + y % 128 * 2 ^ (7 * k) = y * 2 ^ (7 * k) := by
        conv => rhs; rw [hd]
        rw [Nat.add_mul, ← Nat.mul_assoc, Nat.mul_comm (y / 128) 128]
      rw [Lib.uvarint_big (by omega)]
      simp only [List.cons_append, unvF_cons, hb]
      rw [if_neg (by omega), if_pos (by omega), ih (y / 128) (by omega) (k + 1) _ r (by omega) (by rw [e]; omega) (by omega), e]
      rw [show (y % 128 + 128) % 128 = y % 128 by omega]
      simp only [List.length_cons]
      congr 1 <;> omega

theorem unv_uv (y : Nat) (hy : y < 18446744073709551616) (r : List UInt8) : unv (Lib.uvarint y ++ r) = (y, (Lib.uvarint y).length) := by
  have := unvF_uv y 0 0 r (by omega) (by simpa using hy) (by omega)
  simpa [unv] using this
theorem takeL_txt (s : ByteArray) (hs : s.size < 18446744073709551616) (r : List UInt8) : takeL (txt [] s ++ r) = (s, (txt [] s).length) := by
  have hu : unv (txt [] s ++ r) = (s.size, (Lib.uvarint s.size).length) := by
    have := unv_uv s.size hs (s.data.toList ++ r)
    simpa [txt] using this
  have hp := Lib.uvarint_pos s.size
  have hL : (txt [] s).length = (Lib.uvarint s.size).length + s.size := by rw [txt_len]; simp
  have e : ((txt [] s ++ r).drop (Lib.uvarint s.size).length).take s.size = s.data.toList := by
    have : txt [] s ++ r = Lib.uvarint s.size ++ (s.data.toList ++ r) := by simp [txt]
    rw [this, List.drop_left, List.take_left' (by simp)]
  rw [takeL_yes, hu, hL]
  · simp only [Prod.mk.injEq]
    refine ⟨?_, trivial⟩
    rw [e]
  · rw [hu]
    simp only [List.length_append, hL]
    omega
/-- Cut short it is none. -/
theorem dec_code {a : Sm} (h : soundB a = true) (r : List UInt8) : decL (codeL a ++ r) = some (a, (codeL a).length) := by
  obtain ⟨w, l, n⟩ := a
  have hs := of_decide_eq_true h
  simp only at hs
  have hc : codeL ⟨w, l, n⟩ = (Lib.uvarint w.toNat ++ Lib.uvarint l.toNat) ++ Lib.uvarint n.toNat := by unfold codeL; rw [if_pos h]; rfl
  rw [hc]
  have e1 : unv ((Lib.uvarint w.toNat ++ Lib.uvarint l.toNat) ++ Lib.uvarint n.toNat ++ r) = (w.toNat, (Lib.uvarint w.toNat).length) := by
    rw [List.append_assoc, List.append_assoc]
    exact unv_uv _ (by omega) _
  have d1 : ((Lib.uvarint w.toNat ++ Lib.uvarint l.toNat) ++ Lib.uvarint n.toNat ++ r).drop (Lib.uvarint w.toNat).length = Lib.uvarint l.toNat ++ (Lib.uvarint n.toNat ++ r) := by
    rw [List.append_assoc, List.append_assoc, List.drop_left]
  have e2 : unv (Lib.uvarint l.toNat ++ (Lib.uvarint n.toNat ++ r)) = (l.toNat, (Lib.uvarint l.toNat).length) := unv_uv _ (by omega) _
  have d2 : ((Lib.uvarint w.toNat ++ Lib.uvarint l.toNat) ++ Lib.uvarint n.toNat ++ r).drop ((Lib.uvarint w.toNat).length + (Lib.uvarint l.toNat).length) = Lib.uvarint n.toNat ++ r := by
    rw [← List.drop_drop, d1, List.drop_left]
  have e3 : unv (Lib.uvarint n.toNat ++ r) = (n.toNat, (Lib.uvarint n.toNat).length) := unv_uv _ (by omega) _
  have p1 := Lib.uvarint_pos w.toNat
  have p2 := Lib.uvarint_pos l.toNat
  have p3 := Lib.uvarint_pos n.toNat
  unfold decL
  simp only
  rw [e1]
  simp only
  rw [if_neg (by omega), d1, e2]
  simp only
  rw [if_neg (by omega), d2, e3]
  simp only
  rw [if_neg (by omega)]
  congr 2
  · apply Sm.ext' <;> simp only <;> omega
  · simp only [List.length_append]
theorem code_nil {a : Sm} (h : soundB a = false) : codeL a = [] := by unfold codeL; rw [if_neg (by rw [h]; simp)]
theorem code_pos {a : Sm} (h : soundB a = true) : 0 < (codeL a).length := by
  unfold codeL
  rw [if_pos h]
  have := Lib.uvarint_pos a.n.toNat
  simp [codeP]
  omega


/-! What was written is read. -/
theorem pNum_uv (n most : Nat) (t : List UInt8) (h : n ≤ most) (hn : n < 18446744073709551616) : pNum most (uv n ++ t) = some (n, t) := by
  have e := unv_uv n hn t
  have hp := uv_pos n
  unfold pNum
  rw [show uv n = Lib.uvarint n from rfl] at *
  rw [e, if_neg (by simp only; omega)]
  simp
theorem pTxt_tx (s : ByteArray) (t : List UInt8) (h : s.size ≤ maxLen) : pTxt (tx s ++ t) = some (s, t) := by
  unfold maxLen at h
  have e := takeL_txt s (by omega) t
  have hp : (txt [] s).length ≠ 0 := by
    rw [txt_len]
    have := uv_pos s.size
    unfold uv at this
    omega
  unfold pTxt tx
  rw [e, if_neg hp]
  simp
theorem pSm_code {a : Sm} (h : soundB a = true) (t : List UInt8) : pSm (codeL a ++ t) = some (a, t) := by
  unfold pSm
  rw [dec_code h t]
  simp
theorem pRep_flat {α : Type} {p : List UInt8 → Option (α × List UInt8)} (enc : α → List UInt8) : ∀ (xs : List α) (t : List UInt8), (∀ x ∈ xs, ∀ t, p (enc x ++ t) = some (x, t)) → pRep p xs.length (xs.flatMap enc ++ t) = some (xs, t)
  | [], t, _ => rfl
  | x :: xs, t, h => by
    have h1 := h x (by simp) (xs.flatMap enc ++ t)
    have h2 := pRep_flat enc xs t (fun y hy => h y (by simp [hy]))
    show (p ((x :: xs).flatMap enc ++ t)).bind _ = _
    rw [List.flatMap_cons, List.append_assoc, h1]
    show (pRep p xs.length (xs.flatMap enc ++ t)).bind _ = _
    rw [h2]
    rfl
theorem pList_flat {α : Type} {p : List UInt8 → Option (α × List UInt8)} (enc : α → List UInt8) (most : Nat) (xs : List α) (t : List UInt8) (hm : xs.length ≤ most) (hl : xs.length < 18446744073709551616) (h : ∀ x ∈ xs, ∀ t, p (enc x ++ t) = some (x, t)) : pList most p (uv xs.length ++ (xs.flatMap enc ++ t)) = some (xs, t) := by
  unfold pList
  rw [pNum_uv _ _ _ hm hl]
  exact pRep_flat enc xs t h

theorem putOk_iff {p : Pt} : putOk p = true ↔ nmS p.s = true ∧ exOk p.e = true ∧ p.d ≠ [] ∧ p.d.all vldS = true := by
  unfold putOk
  simp [and_assoc]
theorem exOk_iff {e : Int} : exOk e = true ↔ -1 ≤ e ∧ e ≤ 1099511627776 := by unfold exOk; simp
theorem verOk_iff {e : Int} : verOk e = true ↔ 1 ≤ e ∧ e ≤ 1099511627776 := by unfold verOk; simp
theorem ixOk_iff {e : Int} : ixOk e = true ↔ 0 ≤ e ∧ e ≤ 160 := by unfold ixOk; simp
theorem argOk_iff {b : Ba} : argOk b = true ↔ kyS b.k = true ∧ b.p ≠ [] ∧ (∀ p ∈ b.p, putOk p = true) ∧ (names b.p).Nodup := by
  unfold argOk
  simp [and_assoc]
theorem bigB_iff {b : Ba} : bigB b = false ↔ b.p.length ≤ 8 ∧ (∀ p ∈ b.p, p.d.length ≤ 20 ∧ ∀ x ∈ p.d, x.size ≤ 1000) ∧ allData b.p ≤ 30000 := by
  unfold bigB putBig
  simp [and_assoc]
theorem checkB_zero {b : Ba} : checkB b = 0 ↔ argOk b = true ∧ bigB b = false := by
  unfold checkB
  cases argOk b <;> cases bigB b <;> simp
theorem evOk_iff {e : Ev} : evOk e = true ↔ nmS e.s = true ∧ (1 ≤ e.v ∧ e.v ≤ 1099511627776) ∧ e.d.size ≤ 1000 ∧ vldS e.d = true ∧ soundB e.t = true ∧ (0 ≤ e.i ∧ e.i ≤ 160) := by
  unfold evOk verOk ixOk
  simp [and_assoc]
theorem knOk_iff {e : Kn} : knOk e = true ↔ e.k.size ≠ 0 ∧ kyS e.k = true ∧ (1 ≤ e.f ∧ e.f ≤ 1099511627776) ∧ soundB e.t = true := by
  unfold knOk verOk
  simp [and_assoc]
theorem ofS_iff {n : ByteArray} {e : Ev} : ofS n e = true ↔ e.s = n ∧ evOk e = true := by unfold ofS; simp
theorem srOk_iff {s : Sr} : srOk s = true ↔ nmS s.n = true ∧ (∀ e ∈ s.e, e.s = s.n ∧ evOk e = true) ∧ ∀ k ∈ s.k, knOk k = true := by
  unfold srOk
  simp [and_assoc, ofS_iff]

theorem toI_nat {e : Int} (h0 : 0 ≤ e) (h1 : e ≤ 1099511627776) : toI e.toNat = e := by
  rw [toI_small (by omega)]; omega

theorem gPut_enc {p : Pt} (h : putOk p = true) (hn : p.d.length ≤ 20) (hf : PtFit p) (t : List UInt8) : gPut U64 (putC p ++ t) = some (p, t) := by
  obtain ⟨h1, h2, h3, h4⟩ := putOk_iff.1 h
  have hx := exOk_iff.1 h2
  have hz := zigI_range p.e (by omega) (by omega)
  unfold gPut putC
  rw [List.append_assoc, pTxt_tx _ _ hf.s]
  show (pNum U64 ((uv (zigI p.e).toNat ++ _) ++ t)).bind _ = _
  rw [List.append_assoc, pNum_uv _ _ _ (by unfold U64; omega) (by omega)]
  show (pList 20 pTxt ((uv p.d.length ++ _) ++ t)).bind _ = _
  rw [List.append_assoc, pList_flat tx 20 p.d t hn (by omega) (fun x hx t => pTxt_tx x t (hf.d x hx))]
  show some (Pt.mk p.s (zagI (zigI p.e).toNat) p.d, t) = _
  rw [zag_zig]
theorem gBatch_enc {b : Ba} (h : checkB b = 0) (hf : BaFit b) (t : List UInt8) : gBatch U64 (encC b ++ t) = some (b, t) := by
  obtain ⟨h1, h2⟩ := checkB_zero.1 h
  obtain ⟨a1, a2, a3, a4⟩ := argOk_iff.1 h1
  obtain ⟨b1, b2, b3⟩ := bigB_iff.1 h2
  unfold gBatch encC
  rw [List.append_assoc, pTxt_tx _ _ hf.k]
  show (pList 8 (gPut U64) ((uv b.p.length ++ _) ++ t)).bind _ = _
  rw [List.append_assoc, pList_flat putC 8 b.p t b1 (by omega) (fun x hx t => gPut_enc (a3 x hx) (b2 x hx).1 (hf.p x hx) t)]
  rfl
structure EvFit (e : Ev) : Prop where
  s : e.s.size ≤ maxLen
  d : e.d.size ≤ maxLen
theorem gEvent_enc {e : Ev} (h : evOk e = true) (hf : EvFit e) (t : List UInt8) : gEvent U64 U64 (evC e ++ t) = some (e, t) := by
  obtain ⟨h1, h2, h3, h4, h5, h6⟩ := evOk_iff.1 h
  unfold gEvent evC
  rw [List.append_assoc, pTxt_tx _ _ hf.s]
  show (pNum U64 ((uv e.v.toNat ++ _) ++ t)).bind _ = _
  rw [List.append_assoc, pNum_uv _ _ _ (by unfold U64; omega) (by omega)]
  show (pTxt ((tx e.d ++ _) ++ t)).bind _ = _
  rw [List.append_assoc, pTxt_tx _ _ hf.d]
  show (pSm ((codeL e.t ++ _) ++ t)).bind _ = _
  rw [List.append_assoc, pSm_code h5]
  show (pNum U64 (uv e.i.toNat ++ t)).bind _ = _
  rw [pNum_uv _ _ _ (by unfold U64; omega) (by omega)]
  show some (Ev.mk e.s (toI e.v.toNat) e.d e.t (toI e.i.toNat), t) = _
  rw [toI_nat (by omega) (by omega), toI_nat (by omega) (by omega)]
theorem gKnown_enc {k : Kn} (h : knOk k = true) (hf : k.k.size ≤ maxLen) (t : List UInt8) : gKnown U64 (knC k ++ t) = some (k, t) := by
  obtain ⟨h0, h1, h2, h3⟩ := knOk_iff.1 h
  unfold gKnown knC
  rw [List.append_assoc, pTxt_tx _ _ hf]
  show (pNum U64 ((uv k.f.toNat ++ _) ++ t)).bind _ = _
  rw [List.append_assoc, pNum_uv _ _ _ (by unfold U64; omega) (by omega)]
  show (pSm (codeL k.t ++ t)).bind _ = _
  rw [pSm_code h3]
  show some (Kn.mk k.k (toI k.f.toNat) k.t, t) = _
  rw [toI_nat (by omega) (by omega)]
structure SrFit (s : Sr) : Prop where
  n : s.n.size ≤ maxLen
  ne : s.e.length ≤ maxLen
  nk : s.k.length ≤ maxLen
  e : ∀ x ∈ s.e, EvFit x
  k : ∀ x ∈ s.k, x.k.size ≤ maxLen
theorem gStream_enc {s : Sr} (h : srOk s = true) (hf : SrFit s) (t : List UInt8) : gStream U64 (gEvent U64 U64) (gKnown U64) (srC s ++ t) = some (s, t) := by
  obtain ⟨h0, h1, h2⟩ := srOk_iff.1 h
  have n1 := hf.ne
  have n2 := hf.nk
  unfold maxLen at n1 n2
  unfold gStream srC
  rw [List.append_assoc, pTxt_tx _ _ hf.n]
  show (pList U64 (gEvent U64 U64) ((uv s.e.length ++ _) ++ t)).bind _ = _
  rw [List.append_assoc, List.append_assoc, pList_flat evC U64 s.e _ (by unfold U64; omega) (by omega) (fun x hx t => gEvent_enc (h1 x hx).2 (hf.e x hx) t)]
  show (pList U64 (gKnown U64) ((uv s.k.length ++ _) ++ t)).bind _ = _
  rw [List.append_assoc, pList_flat knC U64 s.k t (by unfold U64; omega) (by omega) (fun x hx t => gKnown_enc (h2 x hx) (hf.k x hx) t)]
  rfl

/-! Read again; cut short. -/
theorem told_back {α : Type} {ok : α → Bool} {p : List UInt8 → Option (α × List UInt8)} {c : List UInt8} {x : α} (t : List UInt8) (h : p (c ++ t) = some (x, t)) (hx : ok x = true) : told ok (c ++ t).length (p (c ++ t)) = some (x, c.length) := by
  rw [h]
  show (if ok x = true then some (x, (c ++ t).length - t.length) else none) = _
  rw [if_pos hx]
  simp
theorem told_cut {α : Type} {ok : α → Bool} {p : List UInt8 → Option (α × List UInt8)} (hp : Rdr p) {c : List UInt8} {x : α} (h : p c = some (x, [])) (k n : Nat) (hk : k < c.length) : told ok n (p (c.take k)) = none := by
  cases e : p (c.take k) with
  | none => rfl
  | some q =>
    obtain ⟨y, r⟩ := q
    have := hp.ext _ y r (c.drop k) e
    rw [List.take_append_drop, h] at this
    injection this with this
    injection this with h1 h2
    have := congrArg List.length h2
    simp at this
    omega

/-! Read with bounds, or without. -/
structure Nar {α : Type} (ok : α → Prop) (p q : List UInt8 → Option (α × List UInt8)) : Prop where
  up : ∀ l a, p l = some a → q l = some a
  down : ∀ l a, q l = some a → ok a.1 → p l = some a
theorem told_nar {α : Type} {ok : α → Bool} {p q : List UInt8 → Option (α × List UInt8)} (h : Nar (fun x => ok x = true) p q) (n : Nat) (l : List UInt8) : told ok n (p l) = told ok n (q l) := by
  cases e : p l with
  | some a => rw [h.up l a e]
  | none =>
    cases e2 : q l with
    | none => rfl
    | some a =>
      show none = (if ok a.1 = true then some _ else none)
      by_cases hx : ok a.1 = true
      · have := h.down l a e2 hx; rw [e] at this; cases this
      · rw [if_neg hx]
theorem pNum_up {m M : Nat} (h : m ≤ M) {l : List UInt8} {a : Nat × List UInt8} (e : pNum m l = some a) : pNum M l = some a := by
  obtain ⟨v, r⟩ := a
  obtain ⟨h1, h2, h3, h4⟩ := pNum_some e
  unfold pNum
  rw [if_neg (by omega), ← h2, ← h4]
theorem pNum_down {m M : Nat} {l : List UInt8} {a : Nat × List UInt8} (e : pNum M l = some a) (h : a.1 ≤ m) : pNum m l = some a := by
  obtain ⟨v, r⟩ := a
  obtain ⟨h1, h2, h3, h4⟩ := pNum_some e
  simp only at h
  unfold pNum
  rw [if_neg (by omega), ← h2, ← h4]
theorem pNum_lt {M : Nat} {l : List UInt8} {a : Nat × List UInt8} (e : pNum M l = some a) : a.1 < 18446744073709551616 := by
  obtain ⟨v, r⟩ := a
  obtain ⟨h1, h2, h3, h4⟩ := pNum_some e
  have := (unv_bounds l).1
  simp only; omega
theorem pRep_nar {α : Type} {ok : α → Prop} {p q : List UInt8 → Option (α × List UInt8)} (h : Nar ok p q) : ∀ n, Nar (fun xs => ∀ x ∈ xs, ok x) (pRep p n) (pRep q n)
  | 0 => ⟨fun l a h => h, fun l a h _ => h⟩
  | n + 1 => by
    refine ⟨fun l a e => ?_, fun l a e hx => ?_⟩
    · obtain ⟨b, e1, e2⟩ := bind_some e
      obtain ⟨c, e3, e4⟩ := bind_some e2
      show (q l).bind _ = _
      rw [h.up l b e1]
      show (pRep q n b.2).bind _ = _
      rw [(pRep_nar h n).up _ c e3]
      exact e4
    · obtain ⟨b, e1, e2⟩ := bind_some e
      obtain ⟨c, e3, e4⟩ := bind_some e2
      injection e4 with e4
      subst e4
      show (p l).bind _ = _
      rw [h.down l b e1 (hx _ (by simp))]
      show (pRep p n b.2).bind _ = _
      rw [(pRep_nar h n).down _ c e3 (fun x hx2 => hx x (by simp [hx2]))]
      rfl
theorem pRep_count {α : Type} {p : List UInt8 → Option (α × List UInt8)} : ∀ n l a, pRep p n l = some a → a.1.length = n
  | 0, l, a, e => by injection e with e; subst e; rfl
  | n + 1, l, a, e => by
    obtain ⟨b, e1, e2⟩ := bind_some e
    obtain ⟨c, e3, e4⟩ := bind_some e2
    injection e4 with e4
    subst e4
    simp [pRep_count n _ _ e3]
theorem pList_nar {α : Type} {ok : α → Prop} {p q : List UInt8 → Option (α × List UInt8)} (h : Nar ok p q) (m M : Nat) (hm : m ≤ M) : Nar (fun xs => xs.length ≤ m ∧ ∀ x ∈ xs, ok x) (pList m p) (pList M q) := by
  refine ⟨fun l a e => ?_, fun l a e hx => ?_⟩
  · obtain ⟨b, e1, e2⟩ := bind_some e
    show (pNum M l).bind _ = _
    rw [pNum_up hm e1]
    exact (pRep_nar h _).up _ _ e2
  · obtain ⟨b, e1, e2⟩ := bind_some e
    have hc := pRep_count _ _ _ e2
    show (pNum m l).bind _ = _
    rw [pNum_down e1 (by omega)]
    exact (pRep_nar h _).down _ _ e2 hx.2
theorem gPut_nar : Nar (fun p => putOk p = true) (gPut 1125899906842624) (gPut U64) := by
  refine ⟨fun l a e => ?_, fun l a e hx => ?_⟩
  · obtain ⟨b, e1, e2⟩ := bind_some e
    obtain ⟨c, e3, e4⟩ := bind_some e2
    show (pTxt l).bind _ = _
    rw [e1]
    show (pNum U64 b.2).bind _ = _
    rw [pNum_up (by unfold U64; omega) e3]
    exact e4
  · obtain ⟨b, e1, e2⟩ := bind_some e
    obtain ⟨c, e3, e4⟩ := bind_some e2
    obtain ⟨d, e5, e6⟩ := bind_some e4
    injection e6 with e6
    subst e6
    have hz := exOk_iff.1 (putOk_iff.1 hx).2.1
    have hc := pNum_lt e3
    have hb : c.1 ≤ 1125899906842624 := by
      unfold zagI at hz
      simp only at hz
      split at hz <;> omega
    show (pTxt l).bind _ = _
    rw [e1]
    show (pNum 1125899906842624 b.2).bind _ = _
    rw [pNum_down e3 hb]
    show (pList 20 pTxt c.2).bind _ = _
    rw [e5]
    rfl
theorem gBatch_nar : Nar (fun b => baOk b = true) (gBatch 1125899906842624) (gBatch U64) := by
  have hn := pList_nar gPut_nar 8 8 (Nat.le_refl _)
  refine ⟨fun l a e => ?_, fun l a e hx => ?_⟩
  · obtain ⟨b, e1, e2⟩ := bind_some e
    obtain ⟨c, e3, e4⟩ := bind_some e2
    show (pTxt l).bind _ = _
    rw [e1]
    show (pList 8 (gPut U64) b.2).bind _ = _
    rw [hn.up _ _ e3]
    exact e4
  · obtain ⟨b, e1, e2⟩ := bind_some e
    obtain ⟨c, e3, e4⟩ := bind_some e2
    injection e4 with e4
    subst e4
    obtain ⟨h1, h2⟩ := checkB_zero.1 (of_decide_eq_true hx)
    obtain ⟨a1, a2, a3, a4⟩ := argOk_iff.1 h1
    obtain ⟨b1, b2, b3⟩ := bigB_iff.1 h2
    show (pTxt l).bind _ = _
    rw [e1]
    show (pList 8 (gPut 1125899906842624) b.2).bind _ = _
    rw [hn.down _ _ e3 ⟨b1, a3⟩]
    rfl
theorem decB_ref (l : List UInt8) : told baOk l.length (gBatch 1125899906842624 l) = decB l := told_nar gBatch_nar _ _

theorem toI_bound {v m : Nat} (hm : m < 9223372036854775808) (hv : v < 18446744073709551616) (h0 : 0 ≤ toI v) (h1 : toI v ≤ m) : v ≤ m := (toI_le hm hv).1 ⟨h0, h1⟩
theorem gEvent_nar : Nar (fun e => evOk e = true) (gEvent 1099511627776 160) (gEvent U64 U64) := by
  refine ⟨fun l a e => ?_, fun l a e hx => ?_⟩
  · obtain ⟨b, e1, e2⟩ := bind_some e
    obtain ⟨c, e3, e4⟩ := bind_some e2
    obtain ⟨d, e5, e6⟩ := bind_some e4
    obtain ⟨f, e7, e8⟩ := bind_some e6
    obtain ⟨g, e9, e10⟩ := bind_some e8
    unfold gEvent
    rw [e1]
    show (pNum U64 b.2).bind _ = _
    rw [pNum_up (by unfold U64; omega) e3]
    show (pTxt c.2).bind _ = _
    rw [e5]
    show (pSm d.2).bind _ = _
    rw [e7]
    show (pNum U64 f.2).bind _ = _
    rw [pNum_up (by unfold U64; omega) e9]
    exact e10
  · obtain ⟨b, e1, e2⟩ := bind_some e
    obtain ⟨c, e3, e4⟩ := bind_some e2
    obtain ⟨d, e5, e6⟩ := bind_some e4
    obtain ⟨f, e7, e8⟩ := bind_some e6
    obtain ⟨g, e9, e10⟩ := bind_some e8
    injection e10 with e10
    subst e10
    obtain ⟨_, hv, _, _, _, hi⟩ := evOk_iff.1 hx
    simp only at hv hi
    unfold gEvent
    rw [e1]
    show (pNum 1099511627776 b.2).bind _ = _
    rw [pNum_down e3 (toI_bound (by omega) (pNum_lt e3) (by omega) (by omega))]
    show (pTxt c.2).bind _ = _
    rw [e5]
    show (pSm d.2).bind _ = _
    rw [e7]
    show (pNum 160 f.2).bind _ = _
    rw [pNum_down e9 (toI_bound (by omega) (pNum_lt e9) (by omega) (by omega))]
    rfl
theorem decE_ref (l : List UInt8) : told evOk l.length (gEvent 1099511627776 160 l) = decE l := told_nar gEvent_nar _ _
theorem gKnown_nar : Nar (fun e => knOk e = true) (gKnown 1099511627776) (gKnown U64) := by
  refine ⟨fun l a e => ?_, fun l a e hx => ?_⟩
  · obtain ⟨b, e1, e2⟩ := bind_some e
    obtain ⟨c, e3, e4⟩ := bind_some e2
    unfold gKnown
    rw [e1]
    show (pNum U64 b.2).bind _ = _
    rw [pNum_up (by unfold U64; omega) e3]
    exact e4
  · obtain ⟨b, e1, e2⟩ := bind_some e
    obtain ⟨c, e3, e4⟩ := bind_some e2
    obtain ⟨d, e5, e6⟩ := bind_some e4
    injection e6 with e6
    subst e6
    obtain ⟨_, _, hv, _⟩ := knOk_iff.1 hx
    simp only at hv
    unfold gKnown
    rw [e1]
    show (pNum 1099511627776 b.2).bind _ = _
    rw [pNum_down e3 (toI_bound (by omega) (pNum_lt e3) (by omega) (by omega))]
    show (pSm c.2).bind _ = _
    rw [e5]
    rfl
/-- An event that may be, as the reference reads it. -/
def rEv (l : List UInt8) : Option (Ev × List UInt8) := (gEvent 1099511627776 160 l).bind fun a => if evOk a.1 = true then some a else none
theorem rEv_nar : Nar (fun e => evOk e = true) rEv (gEvent U64 U64) := by
  refine ⟨fun l a e => ?_, fun l a e hx => ?_⟩
  · obtain ⟨b, e1, e2⟩ := bind_some e
    split at e2
    · injection e2 with e2
      subst e2
      exact gEvent_nar.up _ _ e1
    · cases e2
  · unfold rEv
    rw [gEvent_nar.down l a e hx]
    exact if_pos hx

theorem pRep_eats {α : Type} {p : List UInt8 → Option (α × List UInt8)} (h : Eats p) : ∀ n l a, pRep p n l = some a → n + a.2.length ≤ l.length
  | 0, l, a, e => by injection e with e; subst e; simp
  | n + 1, l, a, e => by
    obtain ⟨b, e1, e2⟩ := bind_some e
    obtain ⟨c, e3, e4⟩ := bind_some e2
    injection e4 with e4
    subst e4
    have h1 := h _ _ _ e1
    have h2 := pRep_eats h n _ _ e3
    simp only
    omega
theorem gEvent_eats (M K : Nat) : Eats (gEvent M K) := fun l x r e => by
  obtain ⟨b, e1, e2⟩ := bind_some e
  obtain ⟨c, e3, e4⟩ := bind_some e2
  obtain ⟨d, e5, e6⟩ := bind_some e4
  obtain ⟨f, e7, e8⟩ := bind_some e6
  obtain ⟨g, e9, e10⟩ := bind_some e8
  injection e10 with e10
  injection e10 with _ e10
  subst e10
  have h1 := pTxt_eats _ _ _ e1
  have h2 := (pNum_rdr _).len e3
  have h3 := pTxt_rdr.len e5
  have h4 := pSm_rdr.len e7
  have h5 := (pNum_rdr _).len e9
  omega
theorem gKnown_eats (M : Nat) : Eats (gKnown M) := fun l x r e => by
  obtain ⟨b, e1, e2⟩ := bind_some e
  obtain ⟨c, e3, e4⟩ := bind_some e2
  obtain ⟨d, e5, e6⟩ := bind_some e4
  injection e6 with e6
  injection e6 with _ e6
  subst e6
  have h1 := pTxt_eats _ _ _ e1
  have h2 := (pNum_rdr _).len e3
  have h3 := pSm_rdr.len e5
  omega
theorem pList_count {α : Type} {p : List UInt8 → Option (α × List UInt8)} (h : Eats p) {M : Nat} {l : List UInt8} {a : List α × List UInt8} (e : pList M p l = some a) : a.1.length + a.2.length < l.length := by
  obtain ⟨b, e1, e2⟩ := bind_some e
  have h1 := pNum_eats _ _ _ _ e1
  have h2 := pRep_eats h _ _ _ e2
  have h3 := pRep_count _ _ _ e2
  omega

theorem decS_ref (l : List UInt8) (hl : l.length ≤ 1000000) : told srOk l.length (gStream 1073741824 rEv (gKnown 1099511627776) l) = decS l := by
  have n1 := pList_nar rEv_nar 1073741824 U64 (by unfold U64; omega)
  have n2 := pList_nar gKnown_nar 1073741824 U64 (by unfold U64; omega)
  have hup : ∀ a, gStream 1073741824 rEv (gKnown 1099511627776) l = some a → gStream U64 (gEvent U64 U64) (gKnown U64) l = some a := fun a e => by
    obtain ⟨b, e1, e2⟩ := bind_some e
    obtain ⟨c, e3, e4⟩ := bind_some e2
    obtain ⟨d, e5, e6⟩ := bind_some e4
    unfold gStream
    rw [e1]
    show (pList U64 (gEvent U64 U64) b.2).bind _ = _
    rw [n1.up _ _ e3]
    show (pList U64 (gKnown U64) c.2).bind _ = _
    rw [n2.up _ _ e5]
    exact e6
  unfold decS
  cases e : gStream 1073741824 rEv (gKnown 1099511627776) l with
  | some a => rw [hup a e]
  | none =>
    cases e2 : gStream U64 (gEvent U64 U64) (gKnown U64) l with
    | none => rfl
    | some a =>
      show none = (if srOk a.1 = true then some _ else none)
      by_cases hx : srOk a.1 = true
      · exfalso
        obtain ⟨b, e1, e2⟩ := bind_some e2
        obtain ⟨c, e3, e4⟩ := bind_some e2
        obtain ⟨d, e5, e6⟩ := bind_some e4
        injection e6 with e6
        subst e6
        obtain ⟨_, h1, h2⟩ := srOk_iff.1 hx
        have l1 := pTxt_rdr.len e1
        have l2 := pList_count (gEvent_eats _ _) e3
        have l3 := pList_count (gKnown_eats _) e5
        have q : gStream 1073741824 rEv (gKnown 1099511627776) l = some (⟨b.1, c.1, d.1⟩, d.2) := by
          unfold gStream
          rw [e1]
          show (pList 1073741824 rEv b.2).bind _ = _
          rw [n1.down _ _ e3 ⟨by omega, fun x hx => (h1 x hx).2⟩]
          show (pList 1073741824 (gKnown 1099511627776) c.2).bind _ = _
          rw [n2.down _ _ e5 ⟨by omega, h2⟩]
          rfl
        rw [e] at q
        cases q
      · rw [if_neg hx]

/-! How much was read. -/
theorem pRep_size {α : Type} (sz : α → Nat) {p : List UInt8 → Option (α × List UInt8)} (h : ∀ l x r, p l = some (x, r) → sz x + 1 + r.length ≤ l.length) : ∀ n l a, pRep p n l = some a → (a.1.map sz).sum + n + a.2.length ≤ l.length
  | 0, l, a, e => by injection e with e; subst e; simp
  | n + 1, l, a, e => by
    obtain ⟨b, e1, e2⟩ := bind_some e
    obtain ⟨c, e3, e4⟩ := bind_some e2
    injection e4 with e4
    subst e4
    have h1 := h _ _ _ e1
    have h2 := pRep_size sz h n _ _ e3
    simp only [List.map_cons, List.sum_cons]
    omega
theorem pList_size {α : Type} (sz : α → Nat) {p : List UInt8 → Option (α × List UInt8)} (h : ∀ l x r, p l = some (x, r) → sz x + 1 + r.length ≤ l.length) {M : Nat} {l : List UInt8} {a : List α × List UInt8} (e : pList M p l = some a) : (a.1.map sz).sum + a.1.length + 1 + a.2.length ≤ l.length := by
  obtain ⟨b, e1, e2⟩ := bind_some e
  have h1 := pNum_eats _ _ _ _ e1
  have h2 := pRep_size sz h _ _ _ e2
  have h3 := pRep_count _ _ _ e2
  omega
theorem gPut_size (M : Nat) (l : List UInt8) (x : Pt) (r : List UInt8) (e : gPut M l = some (x, r)) : ptSum x + 1 + r.length ≤ l.length := by
  obtain ⟨b, e1, e2⟩ := bind_some e
  obtain ⟨c, e3, e4⟩ := bind_some e2
  obtain ⟨d, e5, e6⟩ := bind_some e4
  injection e6 with e6
  injection e6 with e6 e7
  subst e6 e7
  have h1 := pTxt_size e1
  have h2 := pNum_eats _ _ _ _ e3
  have h3 := pList_size ByteArray.size (fun l x r e => pTxt_size e) e5
  show b.1.size + (d.1.length + strSum d.1) + 1 + d.2.length ≤ l.length
  unfold strSum
  omega
theorem gBatch_size (M : Nat) (l : List UInt8) (x : Ba) (r : List UInt8) (e : gBatch M l = some (x, r)) : baSum x + r.length ≤ l.length := by
  obtain ⟨b, e1, e2⟩ := bind_some e
  obtain ⟨c, e3, e4⟩ := bind_some e2
  injection e4 with e4
  injection e4 with e4 e5
  subst e4 e5
  have h1 := pTxt_size e1
  have h3 := pList_size ptSum (gPut_size M) e3
  show b.1.size + c.1.length + ptsSum c.1 + c.2.length ≤ l.length
  unfold ptsSum
  omega
def evSum (e : Ev) : Nat := e.s.size + e.d.size
def evsSum (l : List Ev) : Nat := l.length + (l.map evSum).sum
def knsSum (l : List Kn) : Nat := l.length + (l.map fun k => k.k.size).sum
def srSum (s : Sr) : Nat := s.n.size + evsSum s.e + knsSum s.k
theorem gEvent_size (M K : Nat) (l : List UInt8) (x : Ev) (r : List UInt8) (e : gEvent M K l = some (x, r)) : evSum x + 1 + r.length ≤ l.length := by
  obtain ⟨b, e1, e2⟩ := bind_some e
  obtain ⟨c, e3, e4⟩ := bind_some e2
  obtain ⟨d, e5, e6⟩ := bind_some e4
  obtain ⟨f, e7, e8⟩ := bind_some e6
  obtain ⟨g, e9, e10⟩ := bind_some e8
  injection e10 with e10
  injection e10 with e10 e11
  subst e10 e11
  have h1 := pTxt_size e1
  have h2 := (pNum_rdr _).len e3
  have h3 := pTxt_size e5
  have h4 := pSm_rdr.len e7
  have h5 := (pNum_rdr _).len e9
  show b.1.size + d.1.size + 1 + g.2.length ≤ l.length
  omega
theorem gKnown_size (M : Nat) (l : List UInt8) (x : Kn) (r : List UInt8) (e : gKnown M l = some (x, r)) : x.k.size + 1 + r.length ≤ l.length := by
  obtain ⟨b, e1, e2⟩ := bind_some e
  obtain ⟨c, e3, e4⟩ := bind_some e2
  obtain ⟨d, e5, e6⟩ := bind_some e4
  injection e6 with e6
  injection e6 with e6 e7
  subst e6 e7
  have h1 := pTxt_size e1
  have h2 := (pNum_rdr _).len e3
  have h3 := pSm_rdr.len e5
  show b.1.size + 1 + d.2.length ≤ l.length
  omega
theorem gStream_size (N : Nat) {pe : List UInt8 → Option (Ev × List UInt8)} {pk : List UInt8 → Option (Kn × List UInt8)} (he : ∀ l x r, pe l = some (x, r) → evSum x + 1 + r.length ≤ l.length) (hk : ∀ l (x : Kn) r, pk l = some (x, r) → x.k.size + 1 + r.length ≤ l.length) (l : List UInt8) (x : Sr) (r : List UInt8) (e : gStream N pe pk l = some (x, r)) : srSum x + r.length ≤ l.length := by
  obtain ⟨b, e1, e2⟩ := bind_some e
  obtain ⟨c, e3, e4⟩ := bind_some e2
  obtain ⟨d, e5, e6⟩ := bind_some e4
  injection e6 with e6
  injection e6 with e6 e7
  subst e6 e7
  have h1 := pTxt_size e1
  have h2 := pList_size evSum he e3
  have h3 := pList_size (fun k : Kn => k.k.size) hk e5
  show b.1.size + evsSum c.1 + knsSum d.1 + d.2.length ≤ l.length
  unfold evsSum knsSum
  omega

end Go.Proofs.Ytggognmbjgkdfaa
