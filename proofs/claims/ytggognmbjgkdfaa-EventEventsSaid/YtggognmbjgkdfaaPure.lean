/-
  Plain mathematics on texts as bytes: a text's runes as pieces of bytes. Nothing of the program is read here.
-/
import Derived.Lib.DecodeN
import Derived.Lib.RuneBytes
import Derived.Lib.Strings
import Derived.Lib.Bytealg
set_option linter.unusedVariables false
namespace Go.Proofs.Ytggognmbjgkdfaa
open Go.Lib (decodeN decode_at)

/-- The rune with which a list of bytes begins, and how many bytes it has. -/
def dec (l : List UInt8) : Nat × Nat := decodeN l.length (l.getD 0 0).toNat (l.getD 1 0).toNat (l.getD 2 0).toNat (l.getD 3 0).toNat

theorem getD_drop (l : List UInt8) (p k : Nat) : (l.drop p).getD k 0 = l.getD (p + k) 0 := by
  simp [List.getD_eq_getElem?_getD, List.getElem?_drop]

theorem get_list (s : ByteArray) (i : Nat) : s.get! i = s.data.toList.getD i 0 := by
  obtain ⟨⟨l⟩⟩ := s
  simp [ByteArray.get!, List.getD_eq_getElem?_getD]
  rfl

theorem dec_at (s : ByteArray) (p : Nat) : Utf8.decode s p = dec (s.data.toList.drop p) := by
  rw [decode_at]
  unfold dec
  rw [getD_drop, getD_drop, getD_drop, getD_drop, get_list, get_list, get_list, get_list, List.length_drop]
  rfl

theorem dec_at0 (s : ByteArray) (p : Nat) (rest : List UInt8) (h : s.data.toList.drop p = rest) : Utf8.decode s p = dec rest := by
  rw [dec_at, h]

theorem dec_cons (b : UInt8) (r : List UInt8) : dec (b :: r) = decodeN (r.length + 1) b.toNat (r.getD 0 0).toNat (r.getD 1 0).toNat (r.getD 2 0).toNat := rfl

/-- What decodeN gives: the cases. -/
theorem decodeN_width (n b0 b1 b2 b3 : Nat) (hn : 1 ≤ n) : 1 ≤ (decodeN n b0 b1 b2 b3).2 ∧ (decodeN n b0 b1 b2 b3).2 ≤ 4 ∧ (decodeN n b0 b1 b2 b3).2 ≤ n := by
  unfold decodeN
  repeat' split
  all_goals (simp; omega)

theorem dec_width (l : List UInt8) (h : l ≠ []) : 1 ≤ (dec l).2 ∧ (dec l).2 ≤ 4 ∧ (dec l).2 ≤ l.length := by
  have : 1 ≤ l.length := by cases l with | nil => exact absurd rfl h | cons a r => simp
  exact decodeN_width _ _ _ _ _ this

theorem decodeN_rune (n b0 b1 b2 b3 : Nat) (hb : b0 < 256) : (decodeN n b0 b1 b2 b3).1 ≤ 1114111 := by
  unfold decodeN
  repeat' split
  all_goals (simp; try omega)

theorem dec_rune (l : List UInt8) : (dec l).1 ≤ 1114111 := decodeN_rune _ _ _ _ _ (UInt8.toNat_lt _)

/-- A good rune of w bytes hangs on these alone. -/
theorem decodeN_good (n m b0 b1 b2 b3 c1 c2 c3 : Nat) (hn : 1 ≤ n)
    (hgood : (decodeN n b0 b1 b2 b3).2 ≠ 1 ∨ b0 < 128) (hm : (decodeN n b0 b1 b2 b3).2 ≤ m)
    (e1 : 2 ≤ (decodeN n b0 b1 b2 b3).2 → c1 = b1) (e2 : 3 ≤ (decodeN n b0 b1 b2 b3).2 → c2 = b2) (e3 : 4 ≤ (decodeN n b0 b1 b2 b3).2 → c3 = b3) :
    decodeN m b0 c1 c2 c3 = decodeN n b0 b1 b2 b3 := by
  by_cases h0 : b0 < 128
  · simp [decodeN, h0]
  have hg : (decodeN n b0 b1 b2 b3).2 ≠ 1 := by rcases hgood with h | h; exact h; exact absurd h h0
  clear hgood
  by_cases k2 : b0 / 32 = 6 ∧ (1 < n ∧ b1 / 64 = 2)
  · by_cases r2 : b0 % 32 * 64 + b1 % 64 ≥ 128
    · have hd : decodeN n b0 b1 b2 b3 = (b0 % 32 * 64 + b1 % 64, 2) := by unfold decodeN; rw [if_neg h0, if_pos k2, if_pos r2]
      rw [hd] at hm e1 e2 e3 ⊢
      simp at hm
      have := e1 (by simp); subst this
      unfold decodeN
      rw [if_neg h0, if_pos ⟨k2.1, by omega, k2.2.2⟩, if_pos r2]
    · exfalso; apply hg; unfold decodeN; rw [if_neg h0, if_pos k2, if_neg r2]
  by_cases k3 : b0 / 16 = 14 ∧ (1 < n ∧ b1 / 64 = 2) ∧ (2 < n ∧ b2 / 64 = 2)
  · by_cases r3 : b0 % 16 * 4096 + b1 % 64 * 64 + b2 % 64 ≥ 2048 ∧ (b0 % 16 * 4096 + b1 % 64 * 64 + b2 % 64 < 55296 ∨ (57344 ≤ b0 % 16 * 4096 + b1 % 64 * 64 + b2 % 64 ∧ b0 % 16 * 4096 + b1 % 64 * 64 + b2 % 64 ≤ 1114111))
    · have hd : decodeN n b0 b1 b2 b3 = (b0 % 16 * 4096 + b1 % 64 * 64 + b2 % 64, 3) := by unfold decodeN; rw [if_neg h0, if_neg k2, if_pos k3, if_pos r3]
      rw [hd] at hm e1 e2 e3 ⊢
      simp at hm
      have := e1 (by simp); subst this
      have := e2 (by simp); subst this
      unfold decodeN
      rw [if_neg h0, if_neg (by omega), if_pos ⟨k3.1, ⟨by omega, k3.2.1.2⟩, by omega, k3.2.2.2⟩, if_pos r3]
    · exfalso; apply hg; unfold decodeN; rw [if_neg h0, if_neg k2, if_pos k3, if_neg r3]
  by_cases k4 : b0 / 8 = 30 ∧ (1 < n ∧ b1 / 64 = 2) ∧ (2 < n ∧ b2 / 64 = 2) ∧ (3 < n ∧ b3 / 64 = 2)
  · by_cases r4 : b0 % 8 * 262144 + b1 % 64 * 4096 + b2 % 64 * 64 + b3 % 64 ≥ 65536 ∧ (b0 % 8 * 262144 + b1 % 64 * 4096 + b2 % 64 * 64 + b3 % 64 < 55296 ∨ (57344 ≤ b0 % 8 * 262144 + b1 % 64 * 4096 + b2 % 64 * 64 + b3 % 64 ∧ b0 % 8 * 262144 + b1 % 64 * 4096 + b2 % 64 * 64 + b3 % 64 ≤ 1114111))
    · have hd : decodeN n b0 b1 b2 b3 = (b0 % 8 * 262144 + b1 % 64 * 4096 + b2 % 64 * 64 + b3 % 64, 4) := by unfold decodeN; rw [if_neg h0, if_neg k2, if_neg k3, if_pos k4, if_pos r4]
      rw [hd] at hm e1 e2 e3 ⊢
      simp at hm
      have := e1 (by simp); subst this
      have := e2 (by simp); subst this
      have := e3 (by simp); subst this
      unfold decodeN
      rw [if_neg h0, if_neg (by omega), if_neg (by omega), if_pos ⟨k4.1, ⟨by omega, k4.2.1.2⟩, ⟨by omega, k4.2.2.1.2⟩, by omega, k4.2.2.2.2⟩, if_pos r4]
    · exfalso; apply hg; unfold decodeN; rw [if_neg h0, if_neg k2, if_neg k3, if_pos k4, if_neg r4]
  · exfalso; apply hg; unfold decodeN; rw [if_neg h0, if_neg k2, if_neg k3, if_neg k4]

/-- A byte that begins nothing, alone. -/
theorem dec_one (b : UInt8) : dec [b] = if b.toNat < 128 then (b.toNat, 1) else (65533, 1) := by
  rw [dec_cons]
  unfold decodeN
  simp

/-- A rune of one byte: itself, or none. -/
theorem decodeN_w1 (n b0 b1 b2 b3 : Nat) (h : (decodeN n b0 b1 b2 b3).2 = 1) : decodeN n b0 b1 b2 b3 = if b0 < 128 then (b0, 1) else (65533, 1) := by
  revert h
  unfold decodeN
  by_cases h0 : b0 < 128
  · simp [h0]
  · simp only [if_neg h0]
    repeat' split
    all_goals simp

theorem take_getD (l : List UInt8) (w k : Nat) (h : k < w) : (l.take w).getD k 0 = l.getD k 0 := by
  simp [List.getD_eq_getElem?_getD, h]

theorem append_getD (l m : List UInt8) (k : Nat) (h : k < l.length) : (l ++ m).getD k 0 = l.getD k 0 := by
  simp [List.getD_eq_getElem?_getD, List.getElem?_append, h]

theorem dec_w1 (l : List UInt8) (h : (dec l).2 = 1) : dec l = if (l.getD 0 0).toNat < 128 then ((l.getD 0 0).toNat, 1) else (65533, 1) := decodeN_w1 _ _ _ _ _ h

theorem dec_def (l : List UInt8) : dec l = decodeN l.length (l.getD 0 0).toNat (l.getD 1 0).toNat (l.getD 2 0).toNat (l.getD 3 0).toNat := rfl

/-- The first rune's own bytes tell it. -/
theorem dec_take (l : List UInt8) (h : l ≠ []) : dec (l.take (dec l).2) = dec l := by
  obtain ⟨h1, h4, hl⟩ := dec_width l h
  by_cases hw : (dec l).2 = 1
  · rw [dec_w1 l hw]
    cases l with
    | nil => exact absurd rfl h
    | cons b r =>
      simp only [show (List.getD (b :: r) 0 0) = b from rfl]
      have : (if b.toNat < 128 then (b.toNat, 1) else (65533, 1)).2 = 1 := by split <;> rfl
      rw [this, show List.take 1 (b :: r) = [b] from rfl, dec_one]
  · obtain ⟨w, hwd⟩ : ∃ w, w = (dec l).2 := ⟨_, rfl⟩
    rw [← hwd] at hw h1 h4 hl ⊢
    have hlen : (l.take w).length = w := by simp; omega
    have hwd' := hwd
    rw [dec_def l] at hwd'
    have e := decodeN_good l.length (l.take w).length (l.getD 0 0).toNat (l.getD 1 0).toNat (l.getD 2 0).toNat (l.getD 3 0).toNat
      ((l.take w).getD 1 0).toNat ((l.take w).getD 2 0).toNat ((l.take w).getD 3 0).toNat (by omega) (Or.inl (by rw [← hwd']; exact hw)) (by rw [hlen, ← hwd']; exact Nat.le_refl _)
      (fun h' => by rw [← hwd'] at h'; rw [take_getD _ _ _ h']) (fun h' => by rw [← hwd'] at h'; rw [take_getD _ _ _ h']) (fun h' => by rw [← hwd'] at h'; rw [take_getD _ _ _ h'])
    rw [dec_def l, ← e, dec_def (l.take w), take_getD _ _ 0 (by omega)]

/-- Is a piece a byte that begins nothing? -/
def bad (c : List UInt8) : Bool := c.length == 1 && decide (128 ≤ (c.getD 0 0).toNat)

/-- Ahead of whatever else, a good rune is itself. -/
theorem dec_ahead (c m : List UInt8) (h : c ≠ []) (hw : (dec c).2 = c.length) (hb : bad c = false) : dec (c ++ m) = dec c := by
  have hg : (dec c).2 ≠ 1 ∨ (c.getD 0 0).toNat < 128 := by
    rw [hw]
    simp [bad] at hb
    by_cases h1 : c.length = 1
    · right; simpa using hb h1
    · left; exact h1
  have hc : 1 ≤ c.length := by cases c with | nil => exact absurd rfl h | cons a r => simp
  have e := decodeN_good c.length (c ++ m).length (c.getD 0 0).toNat (c.getD 1 0).toNat (c.getD 2 0).toNat (c.getD 3 0).toNat
      ((c ++ m).getD 1 0).toNat ((c ++ m).getD 2 0).toNat ((c ++ m).getD 3 0).toNat hc hg (by show (dec c).2 ≤ _; rw [hw]; simp)
      (fun h' => by rw [append_getD]; show 2 ≤ c.length; rw [← hw]; exact h') (fun h' => by rw [append_getD]; show 3 ≤ c.length; rw [← hw]; exact h') (fun h' => by rw [append_getD]; show 4 ≤ c.length; rw [← hw]; exact h')
  show decodeN _ _ _ _ _ = decodeN _ _ _ _ _
  rw [← e, append_getD _ _ 0 hc]

/-- A text's runes, each its bytes. -/
def piecesF : Nat → List UInt8 → List (List UInt8)
  | 0, _ => []
  | f + 1, l => if l = [] then [] else l.take (dec l).2 :: piecesF f (l.drop (dec l).2)
def pieces (l : List UInt8) : List (List UInt8) := piecesF l.length l

theorem piecesF_enough : ∀ (f g : Nat) (l : List UInt8), l.length ≤ f → l.length ≤ g → piecesF f l = piecesF g l
  | 0, 0, _, _, _ => rfl
  | 0, g + 1, l, h, _ => by
    have : l = [] := List.length_eq_zero_iff.1 (by omega)
    simp [piecesF, this]
  | f + 1, 0, l, _, h => by
    have : l = [] := List.length_eq_zero_iff.1 (by omega)
    simp [piecesF, this]
  | f + 1, g + 1, l, hf, hg => by
    by_cases h : l = []
    · simp [piecesF, h]
    · have := (dec_width l h).1
      simp only [piecesF, if_neg h]
      rw [piecesF_enough f g _ (by simp; omega) (by simp; omega)]

theorem pieces_nil : pieces [] = [] := rfl
theorem pieces_eq (l : List UInt8) (h : l ≠ []) : pieces l = l.take (dec l).2 :: pieces (l.drop (dec l).2) := by
  have hw := dec_width l h
  obtain ⟨n, hn⟩ : ∃ n, l.length = n + 1 := ⟨l.length - 1, by omega⟩
  unfold pieces
  rw [hn]
  simp only [piecesF, if_neg h]
  rw [piecesF_enough n (l.drop (dec l).2).length _ (by simp; omega) (Nat.le_refl _)]

theorem pieces_flatten (l : List UInt8) : (pieces l).flatten = l := by
  generalize hn : l.length = n
  induction n using Nat.strongRecOn generalizing l with
  | _ n ih =>
    by_cases h : l = []
    · subst h; rfl
    · have hw := dec_width l h
      rw [pieces_eq l h, List.flatten_cons, ih _ (by rw [← hn]; simp; omega) (l.drop (dec l).2) rfl, List.take_append_drop]

theorem pieces_length_le (l : List UInt8) : (pieces l).length ≤ l.length := by
  generalize hn : l.length = n
  induction n using Nat.strongRecOn generalizing l with
  | _ n ih =>
    by_cases h : l = []
    · subst h; simp [pieces_nil]
    · have hw := dec_width l h
      have := ih _ (by rw [← hn]; simp; omega) (l.drop (dec l).2) rfl
      rw [pieces_eq l h]
      simp at this ⊢
      omega

/-- What every piece is. -/
def isPiece (c : List UInt8) : Prop := c ≠ [] ∧ (dec c).2 = c.length ∧ c.length ≤ 4

theorem pieces_mem (l : List UInt8) : ∀ c ∈ pieces l, isPiece c := by
  generalize hn : l.length = n
  induction n using Nat.strongRecOn generalizing l with
  | _ n ih =>
    by_cases h : l = []
    · subst h; intro c hc; simp [pieces_nil] at hc
    · have hw := dec_width l h
      intro c hc
      rw [pieces_eq l h] at hc
      rcases List.mem_cons.1 hc with rfl | hc
      · have hlen : (l.take (dec l).2).length = (dec l).2 := by simp; omega
        refine ⟨?_, by rw [dec_take l h, hlen], by omega⟩
        intro h0; rw [h0] at hlen; simp at hlen; omega
      · exact ih _ (by rw [← hn]; simp; omega) (l.drop (dec l).2) rfl c hc

/-- A good piece ahead stays what it is. -/
theorem pieces_ahead (c m : List UInt8) (hc : isPiece c) (hb : bad c = false) : pieces (c ++ m) = c :: pieces m := by
  have hne : c ++ m ≠ [] := by simp [hc.1]
  rw [pieces_eq _ hne, dec_ahead c m hc.1 hc.2.1 hb, hc.2.1]
  simp

theorem pieces_good_append (cs : List (List UInt8)) (m : List UInt8) (h : ∀ c ∈ cs, isPiece c ∧ bad c = false) : pieces (cs.flatten ++ m) = cs ++ pieces m := by
  induction cs with
  | nil => simp
  | cons c r ih =>
    have hc := h c (by simp)
    rw [List.flatten_cons, List.append_assoc, pieces_ahead c _ hc.1 hc.2, ih (fun d hd => h d (by simp [hd]))]
    simp

/-- Is a text UTF-8? -/
def valid (l : List UInt8) : Bool := (pieces l).all fun c => !bad c

theorem pieces_append (a b : List UInt8) (h : valid a = true) : pieces (a ++ b) = pieces a ++ pieces b := by
  have := pieces_good_append (pieces a) b (fun c hc => ⟨pieces_mem a c hc, by simpa using List.all_eq_true.1 h c hc⟩)
  rwa [pieces_flatten] at this


theorem dec_bad (l : List UInt8) (h : l ≠ []) (hr : (dec l).1 = 65533) : Lib.hasPrefix l [239, 191, 189] = !bad (l.take (dec l).2) := by
  have hlen : 1 ≤ l.length := by cases l with | nil => exact absurd rfl h | cons a r => simp
  by_cases hw : (dec l).2 = 1
  · have hd := dec_w1 l hw
    have h128 : 128 ≤ (l.getD 0 0).toNat := by
      by_cases h1 : (l.getD 0 0).toNat < 128
      · rw [if_pos h1] at hd; rw [hd] at hr; have hr' : (l.getD 0 0).toNat = 65533 := hr; omega
      · omega
    have hb : bad (l.take (dec l).2) = true := by
      rw [hw]; simp only [bad]; rw [take_getD _ _ 0 (by omega), decide_eq_true h128]
      simp; omega
    rw [hb]
    cases hp : Lib.hasPrefix l [239, 191, 189] with
    | false => rfl
    | true =>
      exfalso
      obtain ⟨t, rfl⟩ : ∃ t, l = [239, 191, 189] ++ t := by
        simp only [Lib.hasPrefix] at hp
        obtain ⟨t, ht⟩ := List.isPrefixOf_iff_prefix.1 hp
        exact ⟨t, ht.symm⟩
      have : dec ([239, 191, 189] ++ t) = (65533, 3) := by
        simp [dec, decodeN]
      rw [this] at hw; simp at hw
  · have hk : bad (l.take (dec l).2) = false := by
      have hww := dec_width l h
      simp only [bad, Bool.and_eq_false_iff]
      left; simp; omega
    rw [hk]
    match l, h, hr, hw, hlen with
    | b0 :: r, _, hr, hw, _ =>
      rw [dec_cons] at hr hw
      have n0 := UInt8.toNat_lt b0
      have e2 : r.getD 0 0 = (191 : UInt8) ∧ r.getD 1 0 = (189 : UInt8) ∧ b0 = 239 ∧ 2 ≤ r.length := by
        have n1 := UInt8.toNat_lt (r.getD 0 0)
        have n2 := UInt8.toNat_lt (r.getD 1 0)
        have n3 := UInt8.toNat_lt (r.getD 2 0)
        have key : (r.getD 0 0).toNat = 191 ∧ (r.getD 1 0).toNat = 189 ∧ b0.toNat = 239 ∧ 2 ≤ r.length := by
          generalize (r.getD 0 0).toNat = b1 at *
          generalize (r.getD 1 0).toNat = b2 at *
          generalize (r.getD 2 0).toNat = b3 at *
          generalize b0.toNat = b at *
          unfold decodeN at hr hw
          split at hr
          · simp at hr; omega
          split at hr
          · split at hr
            · simp at hr; omega
            · rename_i g1 g2 g3; rw [if_neg g1, if_pos g2, if_neg g3] at hw; simp at hw
          split at hr
          · split at hr
            · simp at hr; omega
            · rename_i g1 g2 g3 g4; rw [if_neg g1, if_neg g2, if_pos g3, if_neg g4] at hw; simp at hw
          split at hr
          · split at hr
            · simp at hr; omega
            · rename_i g1 g2 g3 g4 g5; rw [if_neg g1, if_neg g2, if_neg g3, if_pos g4, if_neg g5] at hw; simp at hw
          · rename_i g1 g2 g3 g4; rw [if_neg g1, if_neg g2, if_neg g3, if_neg g4] at hw; simp at hw
        exact ⟨UInt8.toNat_inj.1 key.1, UInt8.toNat_inj.1 key.2.1, UInt8.toNat_inj.1 key.2.2.1, key.2.2.2⟩
      match r, e2 with
      | b1 :: b2 :: t, e2 =>
        obtain ⟨e1, e2, e3, _⟩ := e2
        simp at e1 e2
        subst e1; subst e2; subst e3
        simp [Lib.hasPrefix, List.isPrefixOf]
      | [b1], e2 => simp at e2
      | [], e2 => simp at e2

/-- Up to place pos a text is the runes pre. -/
def upTo (l : List UInt8) (pre : List (List UInt8)) (pos : Nat) : Prop := pieces l = pre ++ pieces (l.drop pos) ∧ pre.flatten = l.take pos ∧ pos ≤ l.length

theorem upTo_start (l : List UInt8) : upTo l [] 0 := ⟨by simp, by simp, Nat.zero_le _⟩

/-- The rune at a place. -/
def pieceAt (l : List UInt8) (pos : Nat) : List UInt8 := (l.drop pos).take (dec (l.drop pos)).2

theorem pieceAt_is (l : List UInt8) (pos : Nat) (h : pos < l.length) : isPiece (pieceAt l pos) ∧ (pieceAt l pos).length = (dec (l.drop pos)).2 ∧ dec (pieceAt l pos) = dec (l.drop pos) := by
  have hne : l.drop pos ≠ [] := by intro h0; have := congrArg List.length h0; simp at this; omega
  have hw := dec_width _ hne
  have hlen : (pieceAt l pos).length = (dec (l.drop pos)).2 := by simp only [pieceAt, List.length_take]; omega
  have hd : dec (pieceAt l pos) = dec (l.drop pos) := dec_take _ hne
  refine ⟨⟨?_, by rw [hd, hlen], by omega⟩, hlen, hd⟩
  intro h0; rw [h0] at hlen; simp at hlen; omega

theorem upTo_step {l : List UInt8} {pre : List (List UInt8)} {pos : Nat} (h : upTo l pre pos) (hp : pos < l.length) : upTo l (pre ++ [pieceAt l pos]) (pos + (dec (l.drop pos)).2) := by
  have hne : l.drop pos ≠ [] := by intro h0; have := congrArg List.length h0; simp at this; omega
  have hw := dec_width _ hne
  obtain ⟨h1, h2, h3⟩ := h
  refine ⟨?_, ?_, ?_⟩
  · rw [h1, pieces_eq _ hne, List.drop_drop]
    simp [pieceAt]
  · rw [List.flatten_append, h2]
    simp only [List.flatten_singleton, pieceAt]
    rw [List.take_add]
  · simp at hw; omega

theorem upTo_end {l : List UInt8} {pre : List (List UInt8)} {pos : Nat} (h : upTo l pre pos) (hp : ¬ pos < l.length) : pieces l = pre := by
  have : l.drop pos = [] := List.drop_eq_nil_of_le (by omega)
  rw [h.1, this, pieces_nil, List.append_nil]

theorem upTo_more {l : List UInt8} {pre : List (List UInt8)} {pos : Nat} (h : upTo l pre pos) (hp : pos < l.length) : pieces l = pre ++ pieceAt l pos :: pieces (l.drop (pos + (dec (l.drop pos)).2)) := by
  have := (upTo_step h hp).1
  simpa using this

theorem upTo_len {l : List UInt8} {pre : List (List UInt8)} {pos : Nat} (h : upTo l pre pos) : pre.flatten.length = pos := by
  rw [h.2.1]; have := h.2.2; simp; omega

theorem upTo_count {l : List UInt8} {pre : List (List UInt8)} {pos : Nat} (h : upTo l pre pos) : pre.length ≤ l.length := by
  have := pieces_length_le l
  rw [h.1] at this; simp at this; omega

/-- What 'broken' tells of the rune at a place. -/
theorem broken_at (l : List UInt8) (pos : Nat) (h : pos < l.length) : (decide ((dec (l.drop pos)).1 = 65533) && !Lib.hasPrefix (l.drop pos) [239, 191, 189]) = bad (pieceAt l pos) := by
  have hne : l.drop pos ≠ [] := by intro h0; have := congrArg List.length h0; simp at this; omega
  by_cases hr : (dec (l.drop pos)).1 = 65533
  · rw [dec_bad _ hne hr]; simp [hr, pieceAt]
  · simp only [hr, decide_false, Bool.false_and]
    obtain ⟨hp, hl, hd⟩ := pieceAt_is l pos h
    cases hb : bad (pieceAt l pos) with
    | false => rfl
    | true =>
      exfalso
      simp [bad] at hb
      have hw : (dec (pieceAt l pos)).2 = 1 := by rw [hp.2.1]; exact hb.1
      have := dec_w1 _ hw
      rw [if_neg (by simp; omega), hd] at this
      exact hr (by rw [this])

end Go.Proofs.Ytggognmbjgkdfaa
