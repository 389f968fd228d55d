/-
  BitsTexts and BitsShort: the walks of the laws' texts.
-/
import Derived.Test.YtojdphnggjgikaaBitF
set_option linter.unusedVariables false
namespace Go.Proofs.Ytojdphnggjgikaa
open Go.RowKit

theorem own_some {w : World} {B : Nat} {e : TypeId} {a : Option Addr} {k n cap : Nat} {xs : List Value} (h : w.ownsRow B e k (.slice a n cap) n xs) (hn : 0 < n) : ∃ g, a = some ⟨g, 0, none⟩ ∧ n ≤ cap ∧ cap ≤ maxLen := by
  rcases h.2 with ⟨_, h0⟩ | ⟨g, cap', cur, hv, _, _, h1, h2, _⟩
  · omega
  · injection hv with e1 e2 e3
    subst e1 e3
    exact ⟨g, rfl, h1, h2⟩

set_option maxHeartbeats 2000000 in
set_option maxRecDepth 100000 in
theorem BitsTexts_walk (a0 : Option Addr) (len0 cap0 : Nat) (z0 : List Int) (a1 : ByteArray) (w : World) (w0 : RowIn .u8 w a0 len0 cap0 z0) (w1 : a1.size ≤ maxLen) :
    Calls Try.prog 5 #[.slice a0 len0 cap0, .string a1] w fun e w' => e = .returned (.bool true) ∧ Below w.heap.size w w' := by
  obtain ⟨l, hl, hB, hcap, hmax, hnil⟩ := w0.bts
  have B0 := Below.refl w.heap.size w
  clear w0 w1
  by_cases hbig : 1000 < len0
  · go_enter Try.func5, Try.ntmps5
    go_wp2_with (first | (go_at_call 9; refine (awake_b w _ (by assumption)).mono ?_; rintro e W1 ⟨rfl, b1⟩))
    all_goals (go_ret; exact ⟨rfl, by assumption⟩)
  by_cases hbig2 : 1000 < a1.size
  · go_enter Try.func5, Try.ntmps5
    go_wp2_with (first | (go_at_call 9; refine (awake_b w _ (by assumption)).mono ?_; rintro e W1 ⟨rfl, b1⟩))
    all_goals (go_ret; exact ⟨rfl, by assumption⟩)
  have hlen := Lib.uvarint_length64 (x := a1.size) (by omega)
  have c1 := fun wx (hx : Bts wx a0 l) => Take_any a0 len0 cap0 l wx hl (by omega) hcap hx
  have c2 := fun wx (hx : Bts wx a0 l) => rTake_any a0 len0 cap0 l wx hl (by omega) hcap hx
  have c3 := fun wx (hx : Bts wx a0 l) => Text_any a0 len0 cap0 l a1 wx hl (by omega) (by omega) hx hnil
  have c4 := fun wx (hx : Bts wx a0 l) => rText_any a0 len0 cap0 l a1 wx hl (by omega) (by omega) hx hnil
  have c5 := fun wx => Hash_any a1 wx (by unfold maxLen; omega)
  have c6 := fun wx => rHash_any a1 wx (by unfold maxLen; omega)
  have htl := txt_len l a1
  obtain ⟨x, hx⟩ : ∃ x, x = (takeL l).1 := ⟨_, rfl⟩
  obtain ⟨y, hy⟩ : ∃ y, y = (takeL l).2 := ⟨_, rfl⟩
  obtain ⟨q, hq⟩ : ∃ q, q = hashL a1.data.toList := ⟨_, rfl⟩
  have hr := hashL_range a1.data.toList
  rw [← hx, ← hy] at c1 c2
  rw [← hq] at c5 c6 hr
  have hT : (txt l a1).length ≤ 1000000 := by omega
  clear hx hy hq hmax htl hlen
  go_enter Try.func5, Try.ntmps5
  go_wp2_with (first | (go_at_call 19; (with_reducible refine (c1 _ hB).mono ?_); rintro e W2 ⟨rfl, rfl⟩) | (go_at_call 20; (with_reducible refine (c2 _ hB).mono ?_); rintro e W2 ⟨rfl, rfl⟩) | (go_at_call 21; (with_reducible refine (c3 _ hB).mono ?_); rintro e W1 ⟨p1, k1, rfl, o1, b1⟩))
  have hB1 := hB.later b1
  go_wp2_with (first | (go_at_call 22; (with_reducible refine (c4 _ hB1).mono ?_); rintro e W2 ⟨p2, k2, rfl, o2, b2⟩))
  have hb2 : Below w.heap.size w W2 := b1.trans (b2.mono b1.size)
  have q1 := (Bts.own o1).later b2
  have q2 := Bts.own o2
  clear o1 o2 c1 c2 c3 c4
  go_wp2_with (first | (go_at_call 12; refine (Bytes_same p1 p2 _ _ k1 k2 _ _ rfl rfl hT q1 q2).mono ?_; rintro e W3 ⟨rfl, b3⟩))
  have hb3 : Below w.heap.size w W3 := hb2.trans (b3.mono hb2.size)
  clear q1 q2
  go_wp2_with (first | (go_at_call 23; (with_reducible refine (c5 _).mono ?_); rintro e W2 ⟨rfl, rfl⟩) | (go_at_call 24; (with_reducible refine (c6 _).mono ?_); rintro e W2 ⟨rfl, rfl⟩) | (go_at_call 9; refine (awake_b w _ (by assumption)).mono ?_; rintro e W4 ⟨rfl, b4⟩))
  all_goals (go_ret; exact ⟨rfl, by assumption⟩)

/-- How many sevens of binary digits a number has. -/
def gl (x : Nat) : Nat := if x = 0 then 0 else (Lib.uvarint x).length
theorem gl_next (x : Nat) (h : 0 < x) : gl x = 1 + gl (x / 128) := by
  unfold gl
  rw [if_neg (by omega)]
  by_cases hx : x < 128
  · rw [Lib.uvarint_small hx, if_pos (by omega)]; rfl
  · rw [Lib.uvarint_big (by omega), if_neg (by omega), List.length_cons]; omega
theorem uv_gl (x : Nat) : (Lib.uvarint x).length = 1 + gl (x / 128) := by
  by_cases h : x = 0
  · subst h; rw [Lib.uvarint_small (by omega)]; rfl
  · rw [← gl_next x (by omega)]; unfold gl; rw [if_neg h]
theorem uv_two (x : Nat) (h : x ≤ 1000) : (Lib.uvarint x).length = if 128 ≤ x then 2 else 1 := by
  by_cases hx : x < 128
  · rw [Lib.uvarint_small hx, if_neg (by omega)]; rfl
  · rw [Lib.uvarint_big (by omega), Lib.uvarint_small (by omega), if_pos (by omega)]; rfl
theorem txt_take (l : List UInt8) (s : ByteArray) : (txt l s).take l.length = l := by
  unfold txt; rw [List.append_assoc, List.take_left]

set_option maxHeartbeats 4000000 in
set_option maxRecDepth 100000 in
theorem BitsShort_walk (a0 : Int) (a1 : Option Addr) (len1 cap1 : Nat) (z1 : List Int) (a2 : ByteArray) (w : World) (w0 : (Lit.int .u64 a0).wf = true) (w1 : RowIn .u8 w a1 len1 cap1 z1) (w2 : a2.size ≤ maxLen) :
    Calls Try.prog 8 #[.int .u64 a0, .slice a1 len1 cap1, .string a2] w fun e w' => e = .returned (.bool true) ∧ Below w.heap.size w w' := by
  obtain ⟨l, hl, hB, hcap, hmax, hnil⟩ := w1.bts
  obtain ⟨v, rfl, hv⟩ := u64_of a0 w0
  have B0 := Below.refl w.heap.size w
  clear w0 w1 w2
  by_cases hbig : 1000 < len1
  · go_enter Try.func8, Try.ntmps8
    go_wp2_with (first | (go_at_call 9; refine (awake_b w _ (by assumption)).mono ?_; rintro e W1 ⟨rfl, b1⟩))
    all_goals (go_ret; exact ⟨rfl, by assumption⟩)
  by_cases hbig2 : 1000 < a2.size
  · go_enter Try.func8, Try.ntmps8
    go_wp2_with (first | (go_at_call 9; refine (awake_b w _ (by assumption)).mono ?_; rintro e W1 ⟨rfl, b1⟩))
    all_goals (go_ret; exact ⟨rfl, by assumption⟩)
  have hlen := Lib.uvarint_length64 (x := v) (by omega)
  have hgl := uv_gl v
  have HG := Lib.hid hgl
  clear hgl hmax
  go_enter Try.func8, Try.ntmps8
  go_wp2
  go_loop [7, 8] (fun n x => ∃ k y : Nat, n = .int .i64 k ∧ x = .int .u64 y ∧ y < 18446744073709551616 ∧ k ≤ 10 ∧ Hid ((Lib.uvarint v).length = k + gl y)) (fun _ x => (intOf x).toNat)
  case atStart => exact ⟨1, v / 128, rfl, by go_num, by omega, by omega, HG.out⟩
  case round =>
    obtain ⟨k, y, rfl, rfl, hy, hk, HK⟩ := hrel
    by_cases h0 : 0 < y
    · have hn := gl_next y h0
      have hk2 : k + 1 ≤ 10 := by have := HK.out; omega
      have HK2 : Hid ((Lib.uvarint v).length = k + 1 + gl (y / 128)) := by
        show _ = _
        rw [HK.out, hn]; omega
      clear hn
      go_wp2
      go_round
      case rel => exact ⟨k + 1, y / 128, by go_num, by go_num, by omega, hk2, HK2⟩
      case measure => simp [intOf]; omega
    · have hk3 : k = (Lib.uvarint v).length := by
        have := HK.out
        obtain rfl : y = 0 := by omega
        rw [this]; rfl
      have c3 := fun wx (hx : Bts wx a1 l) => Text_any a1 len1 cap1 l a2 wx hl (by omega) (by omega) hx hnil
      have c4 := fun wx => Varint_any v (by omega) wx
      rw [← hk3] at c4
      have htl := txt_len l a2
      have htk := txt_take l a2
      rw [uv_two a2.size (by omega), hl] at htl
      rw [hl] at htk
      obtain ⟨T, hT⟩ : ∃ T, T = (txt l a2).length := ⟨_, rfl⟩
      have HT := Lib.hid hT
      rw [← hT] at c3 htl
      obtain ⟨L, hL⟩ : ∃ L, L = txt l a2 := ⟨_, rfl⟩
      rw [← hL] at c3 htk HT
      have HTK := Lib.hid htk
      clear hT hL hk3 HK htk
      by_cases h128 : 128 ≤ a2.size
      · rw [if_pos h128] at htl
        have e1 : ((T : Int) == (len1 : Int) + 2 + (a2.size : Int)) = true := by simpa using (by omega : (T : Int) = (len1 : Int) + 2 + (a2.size : Int))
        have hT1 : 0 < T := by omega
        have hT2 : len1 ≤ T := by omega
        clear htl
        go_wp2_with (go_at_call 21; (with_reducible refine (c3 _ hB).mono ?_))
        rintro e W1 ⟨p1, k1, rfl, o1, b1⟩
        obtain ⟨g1, rfl, hk1, _⟩ := own_some o1 hT1
        have hB1 := hB.later b1
        have q1 := Bts.own o1
        clear o1 c3
        go_wp2_with (go_at_call 13; (with_reducible refine (c4 _).mono ?_))
        rintro e W2 ⟨p2, k2, rfl, o2, b2⟩
        have hB2 := hB1.later b2
        have q2 := (q1.later b2).take len1
        rw [HTK.out] at q2
        have hb2 : Below w.heap.size w W2 := b1.trans (b2.mono b1.size)
        clear o2 q1 c4
        go_wp2_with (first | (go_at_call 12; refine (Bytes_same _ a1 _ _ _ cap1 l _ hl hl (by omega) q2 hB2).mono ?_; rintro e W3 ⟨rfl, b3⟩))
        have hb3 : Below w.heap.size w W3 := hb2.trans (b3.mono hb2.size)
        clear q2 hB2 hB1
        go_wp2_with (first | (go_at_call 9; refine (awake_b w _ (by assumption)).mono ?_; rintro e W4 ⟨rfl, b4⟩))
        all_goals (go_ret; exact ⟨rfl, by assumption⟩)
      · rw [if_neg h128] at htl
        have e1 : ((T : Int) == (len1 : Int) + 1 + (a2.size : Int)) = true := by simpa using (by omega : (T : Int) = (len1 : Int) + 1 + (a2.size : Int))
        have hT1 : 0 < T := by omega
        have hT2 : len1 ≤ T := by omega
        clear htl
        go_wp2_with (go_at_call 21; (with_reducible refine (c3 _ hB).mono ?_))
        rintro e W1 ⟨p1, k1, rfl, o1, b1⟩
        obtain ⟨g1, rfl, hk1, _⟩ := own_some o1 hT1
        have hB1 := hB.later b1
        have q1 := Bts.own o1
        clear o1 c3
        go_wp2_with (go_at_call 13; (with_reducible refine (c4 _).mono ?_))
        rintro e W2 ⟨p2, k2, rfl, o2, b2⟩
        have hB2 := hB1.later b2
        have q2 := (q1.later b2).take len1
        rw [HTK.out] at q2
        have hb2 : Below w.heap.size w W2 := b1.trans (b2.mono b1.size)
        clear o2 q1 c4
        go_wp2_with (first | (go_at_call 12; refine (Bytes_same _ a1 _ _ _ cap1 l _ hl hl (by omega) q2 hB2).mono ?_; rintro e W3 ⟨rfl, b3⟩))
        have hb3 : Below w.heap.size w W3 := hb2.trans (b3.mono hb2.size)
        clear q2 hB2 hB1
        go_wp2_with (first | (go_at_call 9; refine (awake_b w _ (by assumption)).mono ?_; rintro e W4 ⟨rfl, b4⟩))
        all_goals (go_ret; exact ⟨rfl, by assumption⟩)

end Go.Proofs.Ytojdphnggjgikaa
