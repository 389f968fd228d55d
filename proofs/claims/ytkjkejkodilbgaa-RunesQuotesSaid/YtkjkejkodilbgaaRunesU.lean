/-
  What runes.Unquote answers: escaped, plain, Unquote.
-/
import Derived.Test.YtkjkejkodilbgaaPureU
import Derived.Test.YtkjkejkodilbgaaForms
import Derived.Deep.QuietTactic
import Derived.BigQuiet
import Derived.WalkLawsBesides
set_option linter.unusedVariables false
namespace Go.Proofs.Ytkjkejkodilbgaa
open Go.RowKit

def hexI (b : UInt8) : Int := match hexV b with | some n => n | none => -1
theorem index_hex (b : UInt8) : Lib.indexByte [48, 49, 50, 51, 52, 53, 54, 55, 56, 57, 97, 98, 99, 100, 101, 102] b = hexI b := by
  have key : ∀ n : Fin 256, Lib.indexByte [48, 49, 50, 51, 52, 53, 54, 55, 56, 57, 97, 98, 99, 100, 101, 102] (UInt8.ofNat n.val) = hexI (UInt8.ofNat n.val) := by decide +kernel
  have := key ⟨b.toNat, UInt8.toNat_lt b⟩
  simpa using this

theorem or_hex (x y : Nat) (hx : x < 16) (hy : y < 16) : bits .or .i64 ((x : Int) * 16) (y : Int) % 256 = (((x * 16 + y).toUInt8.toNat : Nat) : Int) := by
  have key : ∀ a b : Fin 16, bits .or .i64 ((a.val : Int) * 16) (b.val : Int) % 256 = (((a.val * 16 + b.val).toUInt8.toNat : Nat) : Int) := by decide +kernel
  exact key ⟨x, hx⟩ ⟨y, hy⟩

def escEnd : Option (UInt8 × Nat) → Ending
  | some (c, n) => .returned (.tuple #[.int .u8 c.toNat, .int .i64 n])
  | none => .returned (.tuple #[.int .u8 0, .int .i64 0])

theorem get_cons (s : ByteArray) (i : Nat) (h : i < s.size) : s.data.toList[i]'(by rw [← size_len]; exact h) = s[i] := rfl

theorem index_any (b : UInt8) (w : World) :
    Calls Try.prog 49 #[.string ⟨#[48, 49, 50, 51, 52, 53, 54, 55, 56, 57, 97, 98, 99, 100, 101, 102]⟩, .int .u8 b.toNat] w fun e w' => e = .returned (.int .i64 (hexI b)) ∧ w' = w := by
  refine (Try.strings_IndexByte _ _ w).mono ?_
  rintro e w' ⟨rfl, rfl⟩
  refine ⟨?_, rfl⟩
  rw [← index_hex b]
  show Ending.returned (.int .i64 (Lib.indexByte [48, 49, 50, 51, 52, 53, 54, 55, 56, 57, 97, 98, 99, 100, 101, 102] ((b.toNat : Int).toNat.toUInt8))) = _
  simp

set_option maxHeartbeats 4000000 in
set_option maxRecDepth 100000 in
theorem escaped_any (s : ByteArray) (w : World) (h1 : 1 ≤ s.size) (hs : s.size ≤ 1000000) :
    Calls Try.prog 40 #[.string s] w fun e w' => e = escEnd (escF s.data.toList) ∧ Below w.heap.size w w' := by
  have hl := size_len s
  by_cases h2 : s.size < 2
  · have HE : Hid (escF s.data.toList = none) := by
      show escF s.data.toList = none
      match hd : s.data.toList with
      | [] => rfl
      | [x] => rfl
      | x :: y :: r => rw [hd] at hl; simp only [List.length_cons] at hl; omega
    clear hl
    go_enter Try.func40, Try.ntmps40
    go_wp2
    go_ret2
    exact ⟨by rw [HE.out]; rfl, Below.refl _ _⟩
  have h2' : 1 < s.size := by omega
  obtain ⟨x0, r, hd⟩ : ∃ x0 r, s.data.toList = x0 :: s[1] :: r := by
    match hd : s.data.toList with
    | [] => rw [hd] at hl; simp only [List.length_nil] at hl; omega
    | [x] => rw [hd] at hl; simp only [List.length_cons, List.length_nil] at hl; omega
    | x :: y :: r =>
      refine ⟨x, r, ?_⟩
      have := get_cons s 1 h2'
      simp only [hd] at this
      rw [← this]; rfl
  have hr : r.length + 2 = s.size := by rw [hl, hd]; simp
  by_cases b34 : s[1] = 34 ∨ s[1] = 92
  · have HE : Hid (escF s.data.toList = some (s[1], 2)) := by
      show escF s.data.toList = _
      rw [hd]; simp [escF, b34]
    rcases b34 with b | b
    · have e1 : ((s[1].toNat : Int) == 34) = true := by rw [b]; rfl
      clear hl hd hr b
      go_enter Try.func40, Try.ntmps40
      go_wp2
      go_ret2
      exact ⟨by rw [HE.out]; rfl, Below.refl _ _⟩
    · have e1 : ((s[1].toNat : Int) == 34) = false := by rw [b]; rfl
      have e2 : ((s[1].toNat : Int) == 92) = true := by rw [b]; rfl
      clear hl hd hr b
      go_enter Try.func40, Try.ntmps40
      go_wp2
      go_ret2
      exact ⟨by rw [HE.out]; rfl, Below.refl _ _⟩
  have ne : ∀ n : UInt8, s[1] ≠ n → ((s[1].toNat : Int) == (n.toNat : Int)) = false := fun n h => beq_false_of_ne (fun e => h (UInt8.toNat_inj.1 (by omega)))
  have e34 : ((s[1].toNat : Int) == 34) = false := ne 34 (fun e => b34 (Or.inl e))
  have e92 : ((s[1].toNat : Int) == 92) = false := ne 92 (fun e => b34 (Or.inr e))
  by_cases b110 : s[1] = 110
  · have HE : Hid (escF s.data.toList = some (10, 2)) := by
      show escF s.data.toList = _
      rw [hd]; simp [escF, b110]
    have e1 : ((s[1].toNat : Int) == 110) = true := by rw [b110]; rfl
    clear hl hd hr b110 b34 ne
    go_enter Try.func40, Try.ntmps40
    go_wp2
    go_ret2
    exact ⟨by rw [HE.out]; rfl, Below.refl _ _⟩
  have e110 : ((s[1].toNat : Int) == 110) = false := ne 110 b110
  by_cases b120 : s[1] = 120
  · have e120 : ((s[1].toNat : Int) == 120) = true := by rw [b120]; rfl
    by_cases h4 : s.size < 4
    · have HE : Hid (escF s.data.toList = none) := by
        show escF s.data.toList = _
        rw [hd]
        match r, hr with
        | [], _ => simp [escF, b120]
        | [_], _ => simp [escF, b120]
        | _ :: _ :: _, hr => simp at hr; omega
      clear hl hd hr b110 b34 ne b120
      go_enter Try.func40, Try.ntmps40
      go_wp2
      go_ret2
      exact ⟨by rw [HE.out]; rfl, Below.refl _ _⟩
    have h4a : 2 < s.size := by omega
    have h4b : 3 < s.size := by omega
    obtain ⟨r', hd'⟩ : ∃ r', r = s[2] :: s[3] :: r' := by
      match hr' : r with
      | [] => simp at hr; omega
      | [_] => simp at hr; omega
      | a :: b :: r' =>
        refine ⟨r', ?_⟩
        have ha := get_cons s 2 h4a
        have hb := get_cons s 3 h4b
        simp only [hd, List.getElem_cons_succ, List.getElem_cons_zero] at ha hb
        rw [← ha, ← hb]
    have hE : escF s.data.toList = match hexV s[2], hexV s[3] with | some x, some y => some ((x * 16 + y).toUInt8, 4) | _, _ => none := by
      rw [hd, hd']; simp only [escF]; rw [if_neg (by rw [b120]; decide), if_neg (by rw [b120]; decide), if_pos b120]
      cases hexV s[2] <;> cases hexV s[3] <;> rfl
    have hI2 : (2 : Int) < (s.size : Int) := by omega
    have hI3 : (3 : Int) < (s.size : Int) := by omega
    cases hx : hexV s[2] with
    | none =>
      have HE : Hid (escF s.data.toList = none) := by
        show escF s.data.toList = none
        rw [hE, hx]
      have hi : hexI s[2] = -1 := by unfold hexI; rw [hx]
      have hc2 := fun wx => index_any s[2] wx
      rw [hi] at hc2
      obtain ⟨z, hz⟩ : ∃ z, z = hexI s[3] := ⟨_, rfl⟩
      have hc3 := fun wx => index_any s[3] wx
      rw [← hz] at hc3
      clear hl hd hr b110 b34 ne b120 hd' hE hi hx hz
      go_enter Try.func40, Try.ntmps40
      go_wp2_with fail
      go_quiet ((go_at_call 49; first | exact Calls.quiet_of_same (hc2 _) | exact Calls.quiet_of_same (hc3 _)))
      go_wp2
      go_ret2
      exact ⟨by rw [HE.out]; rfl, below_drewN (Below.refl _ _) _⟩
    | some x =>
      have hi : hexI s[2] = (x : Int) := by unfold hexI; rw [hx]
      have hc2 := fun wx => index_any s[2] wx
      rw [hi] at hc2
      have hx16 := hexV_lt hx
      cases hy : hexV s[3] with
      | none =>
        have HE : Hid (escF s.data.toList = none) := by
          show escF s.data.toList = none
          rw [hE, hx, hy]
        have hj : hexI s[3] = -1 := by unfold hexI; rw [hy]
        have hc3 := fun wx => index_any s[3] wx
        rw [hj] at hc3
        clear hl hd hr b110 b34 ne b120 hd' hE hi hx hj hy
        go_enter Try.func40, Try.ntmps40
        go_wp2_with fail
        go_quiet ((go_at_call 49; first | exact Calls.quiet_of_same (hc2 _) | exact Calls.quiet_of_same (hc3 _)))
        go_wp2
        go_ret2
        exact ⟨by rw [HE.out]; rfl, below_drewN (Below.refl _ _) _⟩
      | some y =>
        have HE : Hid (escF s.data.toList = some ((x * 16 + y).toUInt8, 4)) := by
          show escF s.data.toList = _
          rw [hE, hx, hy]
        have hj : hexI s[3] = (y : Int) := by unfold hexI; rw [hy]
        have hc3 := fun wx => index_any s[3] wx
        rw [hj] at hc3
        have hy16 := hexV_lt hy
        clear hl hd hr b110 b34 ne b120 hd' hE hi hx hj hy
        go_enter Try.func40, Try.ntmps40
        go_wp2_with fail
        go_quiet ((go_at_call 49; first | exact Calls.quiet_of_same (hc2 _) | exact Calls.quiet_of_same (hc3 _)))
        go_wp2
        go_ret2
        refine ⟨?_, below_drewN (Below.refl _ _) _⟩
        rw [HE.out]
        show Ending.returned (.tuple #[.int .u8 (bits .or .i64 ((x : Int) * 16) (y : Int) % 256), .int .i64 4]) = .returned (.tuple #[.int .u8 (((x * 16 + y).toUInt8.toNat : Nat) : Int), .int .i64 4])
        rw [or_hex x y hx16 hy16]
  · have e120 : ((s[1].toNat : Int) == 120) = false := ne 120 b120
    have HE : Hid (escF s.data.toList = none) := by
      show escF s.data.toList = _
      rw [hd]; simp [escF, b34, b110, b120]
    clear hl hd hr b110 b34 ne b120
    go_enter Try.func40, Try.ntmps40
    go_wp2
    go_ret2
    exact ⟨by rw [HE.out]; rfl, Below.refl _ _⟩

def plEnd : Option (List UInt8) → Ending
  | some t => .returned (.tuple #[.string ⟨t.toArray⟩, .bool true])
  | none => .returned (.tuple #[.string ⟨#[]⟩, .bool false])

theorem drop_ne {l : List UInt8} {pos : Nat} (h : pos < l.length) : l.drop pos ≠ [] := by
  intro h0; have := congrArg List.length h0; simp at this; omega

theorem map_none (acc : List UInt8) : (none : Option (List UInt8)).map (acc ++ ·) = none := rfl
theorem map_append (o : Option (List UInt8)) (a b : List UInt8) : (o.map (b ++ ·)).map (a ++ ·) = o.map ((a ++ b) ++ ·) := by
  cases o <;> simp
theorem map_cons' (o : Option (List UInt8)) (a : List UInt8) (c : UInt8) : (o.map (c :: ·)).map (a ++ ·) = o.map ((a ++ [c]) ++ ·) := by
  cases o <;> simp

/-- One round of plain. -/
theorem plain_round {l : List UInt8} {pos k f : Nat} (h : pos < l.length) :
    plainF (f + 1) k (l.drop pos) =
      if 0 < k then plainF f (k - (dec (l.drop pos)).2) (l.drop (pos + (dec (l.drop pos)).2))
      else if (dec (l.drop pos)).1 = 92 then
        match escF (l.drop pos) with
        | none => none
        | some (c, n) => (plainF f (n - (dec (l.drop pos)).2) (l.drop (pos + (dec (l.drop pos)).2))).map (c :: ·)
      else if bad (pieceAt l pos) = true then none
      else (plainF f 0 (l.drop (pos + (dec (l.drop pos)).2))).map (pieceAt l pos ++ ·) := by
  rw [plainF_succ, if_neg (drop_ne h), List.drop_drop]
  rfl

theorem escF_n {l : List UInt8} {c : UInt8} {n : Nat} (h : escF l = some (c, n)) : 2 ≤ n ∧ n ≤ 4 := by
  unfold escF at h
  split at h
  · split at h
    · simp at h; omega
    · split at h
      · simp at h; omega
      · split at h
        · split at h
          · split at h
            · simp at h; omega
            · simp at h
          · simp at h
        · simp at h
  · simp at h

/-- A builder stays one behind a call that turns nothing that was there. -/
theorem builder_below {T e : TypeId} {B b : Nat} {bs : List Value} {w w' : World} (h : Lib.IsBuilderF T e B b bs w) (hb : Below w.heap.size w w') : Lib.IsBuilderF T e B b bs w' := by
  have key : ∀ p, Lib.BuilderAtF T e B b p bs w → Lib.BuilderAtF T e B b p bs w' := by
    rintro p ⟨hB, v, hbk, hown, hne⟩
    have hlt : ∀ k o, w.heap[k]? = some o → w'.heap[k]? = some o := fun k o hk => by
      rw [hb.block k (Array.getElem?_eq_some_iff.1 hk).1]; exact hk
    refine ⟨hB, v, hlt _ _ hbk, ⟨hown.1, ?_⟩, hne⟩
    rcases hown.2 with h1 | ⟨g, cap, cur, fz, hv, hg, hgk, rest⟩
    · exact .inl h1
    · exact .inr ⟨g, cap, cur, fz, hv, hg, hlt _ _ hgk, rest⟩
  rcases h with h | h
  · exact .inl (key _ h)
  · exact .inr (key _ h)

set_option maxHeartbeats 40000000 in
set_option maxRecDepth 1000000 in
theorem plain_any (s : ByteArray) (w : World) (hs : s.size ≤ 1000000) :
    Calls Try.prog 27 #[.string s] w fun e w' => e = plEnd (plainL s.data.toList) ∧ Below w.heap.size w w' := by
  go_enter Try.func27, Try.ntmps27
  go_wp2
  go_loopw [5] (fun nx wr => ∃ (pos nxt f : Nat) (acc : List UInt8), Lib.IsBuilderF 41 5 w.heap.size w.heap.size (Lib.byteCells acc) wr ∧ wr.heap[w.heap.size + 1]? = some (.stringIter s pos) ∧ Below w.heap.size w wr ∧ nx = .int .i64 nxt ∧ plainL s.data.toList = (plainF f (nxt - pos) (s.data.toList.drop pos)).map (acc ++ ·) ∧ s.size ≤ pos + f ∧ acc.length ≤ 4 * pos ∧ nxt ≤ 2000000 ∧ pos ≤ s.size) (fun _ wr => s.size - wr.iterPos (w.heap.size + 1))
  case atStart =>
    refine ⟨0, 0, 4 * s.data.toList.length + 4, [], (Lib.IsBuilderF.of (Lib.fresh_isBuilder _ _ w)).alloc _, ?_, ((Below.refl _ w).alloc (Nat.le_refl _) _).alloc (by simp) _, rfl, ?_, by rw [size_len]; omega, by simp, by omega, Nat.zero_le _⟩
    · have := World.iter_heap (w.alloc (.cells #[.pointer none, .slice none 0 0] 41)) s 0
      simpa using this
    · show plainL s.data.toList = _
      unfold plainL
      simp
  case round =>
    obtain ⟨pos, nxt, f, acc, hI, hit, hbw, rfl, hR, hfu, hal, hnx0, hps⟩ := hrel
    have HR : Hid (plainL s.data.toList = (plainF f (nxt - pos) (s.data.toList.drop pos)).map (acc ++ ·)) := hR
    clear hR
    have hKz : w.heap.size + 1 < wr.heap.size := (Array.getElem?_eq_some_iff.1 hit).1
    by_cases hp : pos < s.size
    · have hpl : pos < s.data.toList.length := by rw [← size_len]; exact hp
      have hnx : ∀ ty, (Instr.next (.pointer (some ⟨w.heap.size + 1, 0, none⟩)) true ty).run Try.prog wr = _ := fun ty => Lib.run_next_any_at wr (w.heap.size + 1) s pos ty hit hp
      obtain ⟨g, rfl⟩ : ∃ g, f = g + 1 := ⟨f - 1, by omega⟩
      obtain ⟨hpc, hpl2, hpd⟩ := pieceAt_is s.data.toList pos hpl
      have hround := @plain_round s.data.toList pos (nxt - pos) g hpl
      have hw := dec_width _ (drop_ne hpl)
      have hwl : (dec (s.data.toList.drop pos)).2 ≤ s.size - pos := by have := hw.2.2; simp at this; omega
      have hbr := fun wx => broken_piece s pos ((Utf8.decode s pos).1 : Int) wx hp (by unfold maxLen; omega) rfl
      have hr4 := dec_rune (s.data.toList.drop pos)
      rw [← dec_at] at hpl2 hpd hround hw hwl hr4
      obtain ⟨r, wd, hdec⟩ : ∃ r wd, Utf8.decode s pos = (r, wd) := ⟨_, _, rfl⟩
      rw [hdec] at hnx hpl2 hpd hround hbr hw hwl hr4
      simp only at hnx hpl2 hround hbr hw hwl hr4
      have HRD : Hid (plainF (g + 1) (nxt - pos) (s.data.toList.drop pos) = _) := hround
      clear hround hdec
      obtain ⟨hwd, hw4, _⟩ := hw
      have hI2 := hI.iterAt hit (pos + wd)
      have hit2 := Lib.iterAt_heap wr (w.heap.size + 1) s pos (pos + wd) hit
      have hbw2 := Lib.below_iterAt hbw (k := w.heap.size + 1) (by omega) s (pos + wd)
      have hsz2 : w.heap.size ≤ (wr.iterAt (w.heap.size + 1) s (pos + wd)).heap.size := by rw [Lib.iterAt_size]; omega
      by_cases hsk : pos < nxt
      · have hlt : (pos : Int) < (nxt : Int) := by omega
        have HN : Hid (plainL s.data.toList = (plainF g (nxt - (pos + wd)) (s.data.toList.drop (pos + wd))).map (acc ++ ·)) := by
          show plainL s.data.toList = _
          rw [HR.out, HRD.out, if_pos (by omega), Nat.sub_sub]
        clear HR HRD hbr hpd
        go_wp2
        go_roundw
        case rel => exact ⟨pos + wd, nxt, g, acc, hI2, hit2, hbw2, rfl, HN.out, by omega, by omega, hnx0, by omega⟩
        case measure =>
          simp only [World.iterPos, hit2, hit]
          omega
      have hnl : ¬ (pos : Int) < (nxt : Int) := by omega
      by_cases h92 : r = 92
      · subst h92
        have hel : (s.extract pos s.size).data.toList = s.data.toList.drop pos := Lib.extract_to_end s pos
        have hes : (s.extract pos s.size).size = s.size - pos := by simp
        have hesc := fun wx => escaped_any (s.extract pos s.size) wx (by rw [hes]; omega) (by rw [hes]; omega)
        rw [hel] at hesc
        cases he : escF (s.data.toList.drop pos) with
        | none =>
          rw [he] at hesc
          have HN : Hid (plainL s.data.toList = none) := by
            show plainL s.data.toList = none
            rw [HR.out, HRD.out, if_neg (by omega), if_pos rfl, he]; rfl
          clear HR HRD hbr hpd hel hes he
          have hesc2 : ∀ wx, Calls Try.prog 40 #[.string (s.extract pos s.size)] wx fun e w' => e = .returned (.tuple #[.int .u8 0, .int .i64 0]) ∧ Below wx.heap.size wx w' := hesc
          clear hesc
          go_wp2_with (go_at_call 40; refine (base hbw2 (hesc2 _)).mono ?_)
          first | rintro e W2 rfl b2 | rintro e W2 ⟨rfl, b2⟩
          go_wp2
          go_ret2
          exact ⟨by rw [HN.out]; rfl, b2⟩
        | some cn =>
          obtain ⟨c, n⟩ := cn
          rw [he] at hesc
          have hn4 := escF_n he
          have HN : Hid (plainL s.data.toList = (plainF g (pos + n - (pos + wd)) (s.data.toList.drop (pos + wd))).map ((acc ++ [c]) ++ ·)) := by
            show plainL s.data.toList = _
            rw [HR.out, HRD.out, if_neg (by omega), if_pos rfl, he]
            show ((plainF g (n - wd) _).map (c :: ·)).map (acc ++ ·) = _
            rw [map_cons', show pos + n - (pos + wd) = n - wd by omega]
          clear HR HRD hbr hpd hel hes he
          have hesc2 : ∀ wx, Calls Try.prog 40 #[.string (s.extract pos s.size)] wx fun e w' => e = .returned (.tuple #[.int .u8 c.toNat, .int .i64 n]) ∧ Below wx.heap.size wx w' := hesc
          clear hesc
          have hn0 : ((n : Int) == 0) = false := beq_false_of_ne (by omega)
          obtain ⟨hn2, hn4'⟩ := hn4
          go_wp2_with (go_at_call 40; refine (hesc2 _).mono ?_)
          first | rintro e W2 rfl b2 | rintro e W2 ⟨rfl, b2⟩
          have hz2 := b2.size
          rw [Lib.iterAt_size] at hz2
          have hK2 : w.heap.size + 1 < (wr.iterAt (w.heap.size + 1) s (pos + wd)).heap.size := by rw [Lib.iterAt_size]; exact hKz
          have hit3 : W2.heap[w.heap.size + 1]? = some (.stringIter s (pos + wd)) := by rw [b2.block _ hK2]; exact hit2
          have hbw3 : Below w.heap.size w W2 := hbw2.trans (b2.mono (by omega))
          have hI3 : Lib.IsBuilderF 41 5 w.heap.size w.heap.size (Lib.byteCells acc) W2 := builder_below hI2 b2
          go_wp2_with (go_at_call 29; refine (writeByte_k w.heap.size w.heap.size _ _ _ hI3 (by rw [Lib.byteCells_length]; omega) (by omega)).mono ?_)
          first | rintro e W3 rfl h3 b3 k3 | rintro e W3 ⟨rfl, h3, b3, k3⟩
          have g3 : Lib.IsBuilderF 41 5 w.heap.size w.heap.size (Lib.byteCells (acc ++ [c])) W3 := by rw [Lib.byteCells_append]; exact h3
          have it3 := k3.iter hit3 (by omega)
          clear h3
          go_wp2
          go_roundw
          case rel => exact ⟨pos + wd, pos + n, g, acc ++ [c], g3, it3, hbw3.trans b3, by first | rfl | (congr 1), HN.out, by omega, by simp; omega, by omega, by omega⟩
          case measure =>
            simp only [World.iterPos, it3, hit]
            omega
      · have e92 : ((r : Int) == 92) = false := beq_false_of_ne (by omega)
        cases hb : bad (pieceAt s.data.toList pos) with
        | true =>
          rw [hb] at hbr
          have HN : Hid (plainL s.data.toList = none) := by
            show plainL s.data.toList = none
            rw [HR.out, HRD.out, if_neg (by omega), if_neg h92, if_pos hb]; rfl
          clear HR HRD hpd hb
          go_wp2_with (go_at_call 32; refine (hbr _).mono ?_; rintro e w' ⟨rfl, rfl⟩)
          go_ret2
          exact ⟨by rw [HN.out]; rfl, hbw2⟩
        | false =>
          rw [hb] at hbr
          have HE : Hid (Lib.encodeRune (r : Int) = pieceAt s.data.toList pos) := by
            have := piece_encode hpc hb; rw [hpd] at this; exact this
          have HN : Hid (plainL s.data.toList = (plainF g (nxt - (pos + wd)) (s.data.toList.drop (pos + wd))).map ((acc ++ pieceAt s.data.toList pos) ++ ·)) := by
            show plainL s.data.toList = _
            rw [HR.out, HRD.out, if_neg (by omega), if_neg h92, if_neg (by rw [hb]; simp), map_append, show nxt - (pos + wd) = 0 by omega]
          clear HR HRD hpd hb
          go_wp2_with (first | (go_at_call 32; refine (hbr _).mono ?_; rintro e w' ⟨rfl, rfl⟩) | (go_at_call 30; refine (writeRune_k w.heap.size w.heap.size _ _ (by omega) (by omega) _ hI2 (by rw [Lib.byteCells_length]; omega) hsz2).mono ?_))
          first | rintro e W2 rfl h2 b2 k2 | rintro e W2 ⟨rfl, h2, b2, k2⟩
          have g2 : Lib.IsBuilderF 41 5 w.heap.size w.heap.size (Lib.byteCells (acc ++ pieceAt s.data.toList pos)) W2 := by rw [Lib.byteCells_append, ← HE.out, Lib.byteCells_encodeRune]; exact h2
          have it2 := k2.iter hit2 (by omega)
          clear h2
          go_wp2
          go_roundw
          case rel => exact ⟨pos + wd, nxt, g, acc ++ pieceAt s.data.toList pos, g2, it2, hbw2.trans b2, rfl, HN.out, by omega, by simp [hpl2]; omega, hnx0, by omega⟩
          case measure =>
            simp only [World.iterPos, it2, hit]
            omega
    · have hnx : ∀ ty, (Instr.next (.pointer (some ⟨w.heap.size + 1, 0, none⟩)) true ty).run Try.prog wr = _ := fun ty => Lib.run_next_end_at wr (w.heap.size + 1) s pos ty hit hp
      have HN : Hid (plainL s.data.toList = some acc) := by
        show plainL s.data.toList = some acc
        rw [HR.out, List.drop_eq_nil_of_le (by rw [← size_len]; omega)]
        cases f <;> simp [plainF]
      clear HR
      go_wp2_with (go_at_call 33; refine (Try.Builder_String_any_k w.heap.size w.heap.size acc _ hI (by omega)).mono ?_)
      rintro e W2 ⟨rfl, h2, b2, k2⟩
      go_wp2
      go_ret2
      exact ⟨by rw [HN.out]; rfl, hbw.trans b2⟩

end Go.Proofs.Ytkjkejkodilbgaa
