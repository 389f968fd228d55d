/-
  The walk of DiskNames.
-/
import Derived.Test.YtbolminblofhgaaDsS
set_option linter.unusedVariables false
namespace Go.Proofs.Ytbolminblofhgaa
open Go.RowKit

theorem getN (nm : ByteArray) (b : List UInt8) (s : Nat) : getL nm [⟨nm, b, s⟩] = some ⟨nm, b, s⟩ := by simp [getL]
theorem crash0 (nm : ByteArray) (b : List UInt8) (s : Nat) : crashL [] [⟨nm, b, s⟩] = [⟨nm, b.take s, s⟩] := by
  show [(⟨nm, b.take (keepN ⟨nm, b, s⟩ []), keepN ⟨nm, b, s⟩ []⟩ : RF)] = _
  have : keepN ⟨nm, b, s⟩ [] = s := by unfold keepN; simp
  rw [this]
theorem laR (nm to : ByteArray) (b : List UInt8) (s n : Nat) (hb : badN to = false) : resC (laC [⟨nm, b, s⟩] n) (renL nm to [⟨nm, b, s⟩]) = (0, laC [⟨to, b, s⟩] (n + 1)) := by
  rw [resC_on rfl]
  unfold renL
  rw [getN]
  simp only [hb]
  by_cases e : nm = to
  · subst e
    rw [if_pos rfl]; rfl
  · rw [if_neg e]
    simp [putL, delL, insL]
    rfl
structure NmRel (w wr : World) (mv : Value) (Q : List (Value × RF)) (nm : ByteArray) (L : List UInt8) (s n g : Nat) : Prop where
  rel : DRel w wr mv Q (laC [⟨nm, L, s⟩] n)
  src : Src wr w.heap.size mv Q g L
  nm : nm.size ≤ 100

set_option maxHeartbeats 16000000 in
set_option maxRecDepth 100000 in
theorem DiskNames_main (a0 : Option Addr) (len0 cap0 : Nat) (z0 : List Int) (s m : Nat) (hl0 : len0 ≤ 30) (hs : s ≤ 200) (hm : m ≤ 200) (w : World) (w0 : RowIn .i64 w a0 len0 cap0 z0) :
    Calls Try.prog 8 #[.slice a0 len0 cap0, .int .i64 s, .int .i64 m] w (AwPost w) := by
  have cN : Calls Try.prog 11 #[.int .i64 5000] w fun e w' => e = .returned (.tuple #[.pointer (some ⟨w.heap.size, 0, none⟩), .int .i64 0]) ∧ w' = w.alloc (.cells (stC (newC 5000) 0 (.map none)) 62) := dNew w 5000 (by omega)
  go_enter Try.func8, Try.ntmps8
  go_wp2_with (go_at_call 11; (with_reducible refine cN.mono ?_))
  rintro e W1 ⟨rfl, hW1⟩
  have h1 : ImAt W1 w.heap.size w.heap.size (.map none) [] (newC 5000) := by rw [hW1]; exact newAt w w.heap.size 5000 (Nat.le_refl _)
  have b1 : Below w.heap.size w W1 := by rw [hW1]; exact (Below.refl _ _).alloc (Nat.le_refl _) _
  obtain ⟨L, hLd⟩ : ∃ L, L = letters (s + m) 3 := ⟨_, rfl⟩
  have hLl : L.length = s + m := by rw [hLd, letters_len]
  have cB := bytes_nat (s + m) 3 W1 (by omega) (by omega) (by omega)
  rw [← hLd, show ((s + m : Nat) : Int) = (s : Int) + (m : Int) by omega] at cB
  clear hW1 cN hLd
  go_wp2_with (go_at_call 15; (with_reducible refine cB.mono ?_))
  rintro e W2 ⟨g, cap, rfl, hg1, hg2, hc1, hc2, hbt, b2⟩
  have h2 := h1.below b2
  have hsrc : Src W2 w.heap.size (.map none) [] g L := ⟨hbt, (fun e => by
    rcases e with e | e | ⟨q, hq, _⟩
    · have := h1.lt; omega
    · cases e
    · cases hq), hg2⟩
  have z1 := b1.size
  have bb2 := b1.trans (b2.mono z1)
  rw [hLl] at hc1 ⊢
  clear h1 b1 b2 hbt cB
  have hls : (L.take s).length = s := by rw [List.length_take]; omega
  have hld : (L.drop s).length = m := by rw [List.length_drop]; omega
  have cA := dAppend W2 w.heap.size w.heap.size (.map none) [] (newC 5000) nmF (some ⟨g, 0, none⟩) s cap (L.take s) h2 (newC_inv 5000 (by omega)) (by decide) (by decide) hls (by omega) (hsrc.1.take s) (fun e => by cases e) bb2.size (fun x hx => by injection hx with hx; subst hx; exact hsrc.2.1)
  rw [show resC (newC 5000) (appL (newC 5000).room nmF (L.take s) (newC 5000).L) = (0, laC [⟨nmF, L.take s, 0⟩] 1) from la1 _ (by rw [hls]; omega)] at cA
  have HS2 := Lib.hid (fun k hk => (h2.ltS k hk).1)
  have HSRC := Lib.hid hsrc
  have HB2 := Lib.hid bb2
  have HLS := Lib.hid hls
  have HLD := Lib.hid hld
  have HLL := Lib.hid hLl
  clear h2 hsrc bb2 hls hld hLl
  go_wp2_with (go_at_call 16; (with_reducible refine cA.mono ?_))
  rintro e W3 ⟨mv3, Q3, rfl, h3, k3, n3⟩
  have s3 := HSRC.out.step k3 n3
  have b3 := HB2.out.trans (k3.below HB2.out.size HS2.out)
  have cS := dSync W3 w.heap.size w.heap.size mv3 Q3 _ nmF h3 (la_inv (by rw [HLS.out]; omega) (Nat.zero_le _) nmF (by decide)) (by show (1 : Nat) ≤ 1000000; omega) (by decide) b3.size
  rw [show (laC [⟨nmF, L.take s, 0⟩] 1).L = [⟨nmF, L.take s, 0⟩] from rfl, la2, HLS.out] at cS
  have HS3 := Lib.hid (fun k hk => (h3.ltS k hk).1)
  have HSRC3 := Lib.hid s3
  have HB3 := Lib.hid b3
  clear h3 k3 n3 s3 b3 cA HS2 HSRC HB2
  go_wp2_with (go_at_call 17; (with_reducible refine cS.mono ?_))
  rintro e W4 ⟨mv4, Q4, rfl, h4, k4, n4⟩
  have s4 := HSRC3.out.step k4 n4
  have b4 := HB3.out.trans (k4.below HB3.out.size HS3.out)
  have HS4 := Lib.hid (fun k hk => (h4.ltS k hk).1)
  have HSRC4 := Lib.hid s4
  have HB4 := Lib.hid b4
  have H4 := Lib.hid h4
  clear h4 k4 n4 s4 b4 cS HS3 HSRC3 HB3
  have hta : L.take s ++ L.drop s = L := List.take_append_drop s L
  have HTA := Lib.hid hta
  clear hta
  by_cases hcs : s = cap
  · obtain rfl : m = 0 := by omega
    subst hcs
    have cA := dAppend W4 w.heap.size w.heap.size mv4 Q4 _ nmF (some ⟨g, 0, none⟩) 0 0 (L.drop s) H4.out (la_inv (by rw [HLS.out]; omega) (by rw [HLS.out]; omega) nmF (by decide)) (by show (2 : Nat) ≤ 1000000; omega) (by decide) HLD.out (by omega) (by rw [List.drop_eq_nil_of_le (by rw [HLL.out]; omega)]; exact Bts.nil _ _) (fun e => by cases e) HB4.out.size (fun x hx => by injection hx with hx; subst hx; exact HSRC4.out.2.1)
    rw [show resC (laC [⟨nmF, L.take s, s⟩] 2) (appL (laC [⟨nmF, L.take s, s⟩] 2).room nmF (L.drop s) (laC [⟨nmF, L.take s, s⟩] 2).L) = (0, laC [⟨nmF, L, s⟩] 3) by rw [← HTA.out]; simp only [HTA.out]; exact (la3 (L.take s) (L.drop s) s HLS.out (by rw [HLD.out]; omega)).trans (by rw [HTA.out])] at cA
    go_wp2_with (go_at_call 16; (with_reducible refine cA.mono ?_))
    rintro e W5 ⟨mv5, Q5, rfl, h5, k5, n5⟩
    have HR0 : NmRel w W5 mv5 Q5 nmF L s 3 g := ⟨⟨h5, HB4.out.trans (k5.below HB4.out.size HS4.out)⟩, HSRC4.out.step k5 n5, by decide⟩
    clear h5 k5 n5 cA HSRC4 HB4 H4 HS4
    go_wp2
    go_loopw [10, 11] (fun nv i wr => ∃ (j : Nat) (mv : Value) (Q : List (Value × RF)) (nm : ByteArray), i = .int .i64 j ∧ j ≤ len0 ∧ nv = .string nm ∧ NmRel w wr mv Q nm L s (3 + j) g) (fun _ i _ => len0 - (intOf i).toNat)
    case atStart => exact ⟨0, _, _, nmF, rfl, Nat.zero_le _, rfl, HR0⟩
    case round =>
      obtain ⟨j, mv, Q, nm, rfl, hj, rfl, hR⟩ := hrel
      clear HR0
      have hz := hR.rel.2.size
      by_cases hlt : j < len0
      · obtain ⟨hits, hil, hlc, hwf⟩ := w0.its
        obtain ⟨zl, hzl⟩ : ∃ zl, zl = z0.take len0 := ⟨_, rfl⟩
        rw [← hzl] at hits hil hwf
        clear hzl
        have hjl : j < zl.length := by omega
        obtain ⟨x, rfl, hc⟩ : ∃ x, a0 = some x ∧ w.cell? (x.add j) = some (.int .i64 (zl[j]'hjl)) := by
          rcases hits with e | ⟨x, e, hc⟩
          · rw [e] at hjl; simp at hjl
          · exact ⟨x, e, hc j hjl⟩
        obtain ⟨p, hp⟩ : ∃ p, p = zl[j]'hjl := ⟨_, rfl⟩
        have hpb := hwf p (by rw [hp]; exact List.getElem_mem hjl)
        rw [← hp] at hc
        have hcr : wr.cell? (x.add j) = some (.int .i64 p) := (hR.rel.2.cell (World.block_lt_of_cell? w _ hc)).trans hc
        obtain ⟨r, hr⟩ : ∃ r : Nat, r = (p % 5).toNat := ⟨_, rfl⟩
        have hr0 := Int.emod_nonneg p (by omega : (5 : Int) ≠ 0)
        have hr1 := Int.emod_lt_of_pos p (by omega : (0 : Int) < 5)
        have cR := fun W => RoundE p 5 W (by omega) (by omega) hpb.1 hpb.2
        rw [show p % 5 = ((r : Nat) : Int) by omega] at cR
        have hrb : r < 5 := by omega
        have hbt := lit_bts wr [UInt8.ofNat (97 + r)] #[.int .u8 (97 + (r : Int))] (0, 0) (by simp [Lib.byteCells]; omega)
        have kc := conv_bts (wr.alloc (.cells #[.int .u8 (97 + (r : Int))] 5)) (some ⟨wr.heap.size, 0, none⟩) 1 1 [UInt8.ofNat (97 + r)] rfl hbt
        obtain ⟨sn, hsn⟩ : ∃ sn : ByteArray, sn = ⟨[UInt8.ofNat (97 + r)].toArray⟩ := ⟨_, rfl⟩
        have hsl : sn.size = 1 := by rw [hsn]; rfl
        rw [← hsn] at kc
        have hbn : (⟨#[110]⟩ ++ sn : ByteArray).size = 2 := by rw [ByteArray.size_append, hsl]; rfl
        have bb := (Below.refl wr.heap.size wr).alloc (Nat.le_refl _) (.cells #[.int .u8 (97 + (r : Int))] 5)
        have h3 := hR.rel.1.below bb
        have cA := dRename (wr.alloc (.cells #[.int .u8 (97 + (r : Int))] 5)) w.heap.size w.heap.size mv Q _ nm h3 (la_inv (by rw [HLL.out]; omega) (by rw [HLL.out]; omega) nm hR.nm) (by show 3 + j ≤ 1000000; omega) (by have := hR.nm; omega) (Nat.le_trans hz bb.size) (⟨#[110]⟩ ++ sn) (by rw [hbn]; omega)
        rw [show resC (laC [⟨nm, L, s⟩] (3 + j)) (renL nm (⟨#[110]⟩ ++ sn) (laC [⟨nm, L, s⟩] (3 + j)).L) = (0, laC [⟨⟨#[110]⟩ ++ sn, L, s⟩] (3 + (j + 1))) from laR nm _ L s (3 + j) (bad2 hbn)] at cA
        have HS := Lib.hid (fun i hi => (hR.rel.1.ltS i hi).1)
        have HR := Lib.hid hR
        clear hits hil hwf hjl hp hr hr0 hr1 hc hsn hpb hR h3 bb hbt
        go_wp2_with (first | (go_at_call 21; (with_reducible refine (cR _).mono ?_); rintro e W' ⟨rfl, rfl⟩) | (go_at_call 26; (with_reducible refine cA.mono ?_)))
        rintro e W6 ⟨mv6, Q6, rfl, h6, k6, n6⟩
        have hN : NmRel w W6 mv6 Q6 (⟨#[110]⟩ ++ sn) L s (3 + (j + 1)) g := ⟨DRel.step HR.out.rel.2 HS.out hz h6 k6, (HR.out.src.below ((Below.refl wr.heap.size wr).alloc (Nat.le_refl _) _)).step k6 n6, by rw [hbn]; omega⟩
        have HN := Lib.hid hN
        clear h6 k6 n6 cA hN kc
        go_wp2
        go_roundw
        case rel => exact ⟨j + 1, mv6, Q6, _, by go_num, by omega, rfl, HN.out⟩
        case measure => simp [intOf]; omega
      · obtain rfl : j = len0 := by omega
        have hinv := la_inv (n := 3 + j) (s := s) (b := L) (by rw [HLL.out]; omega) (by rw [HLL.out]; omega) nm hR.nm
        have cR := dRead wr w.heap.size w.heap.size mv Q _ nm hR.rel.1 hinv (by have := hR.nm; omega)
        rw [show rdL nm (laC [⟨nm, L, s⟩] (3 + j)).L = (L, 0) by unfold rdL; rw [show (laC [⟨nm, L, s⟩] (3 + j)).L = [⟨nm, L, s⟩] from rfl, getN]] at cR
        have HR := Lib.hid hR
        clear hR
        go_wp2_with (go_at_call 19; (with_reducible refine cR.mono ?_))
        rintro e W6 ⟨ra, rc, rfl, ro, rb⟩
        have h6 := HR.out.rel.1.below rb
        have b6 := HR.out.rel.2.trans (rb.mono hz)
        have s6 := HR.out.src.below rb
        have cC := dCrash W6 w.heap.size w.heap.size mv Q _ none 0 0 [] h6 hinv (.inl rfl) rfl (by omega) (by omega) (by intro p hp; cases hp)
        have HRA := Lib.hid (Bts.own ro)
        have HB6 := Lib.hid b6
        have HS6 := Lib.hid s6
        have H6 := Lib.hid h6
        rw [show (L, (0 : Int)).1.length = s from HLL.out]
        clear ro rb h6 b6 s6 cR
        go_wp2_with (go_at_call 18; (with_reducible refine cC.mono ?_))
        rintro e W7 ⟨G7, mv7, Q7, rfl, h7, b7⟩
        rw [show crashL [] (laC [⟨nm, L, s⟩] (3 + j)).L = [⟨nm, L.take s, s⟩] from crash0 nm L s] at h7
        have cR := dRead W7 _ G7 mv7 Q7 _ nm h7 (la_inv (n := 0) (by rw [HLS.out]; omega) (by rw [HLS.out]; omega) nm HR.out.nm) (by have := HR.out.nm; omega)
        rw [show rdL nm [⟨nm, L.take s, s⟩] = (L.take s, 0) by unfold rdL; rw [getN]] at cR
        have HB7 := Lib.hid (HB6.out.trans (b7.mono HB6.out.size))
        have HS7 := Lib.hid (HS6.out.below b7)
        have HRA7 := Lib.hid (HRA.out.later b7)
        have H7 := Lib.hid (H6.out.below b7)
        clear h7 b7 cC HB6 HS6 HRA H6
        go_wp2_with (go_at_call 19; (with_reducible refine cR.mono ?_))
        rintro e W8 ⟨rb1, rc1, rfl, ro, rb⟩
        rw [show (L.take s, (0 : Int)).1.length = s from HLS.out]
        have HB8 := Lib.hid (HB7.out.trans (rb.mono HB7.out.size))
        have HS8 := Lib.hid (HS7.out.below rb)
        have HRA8 := Lib.hid (HRA7.out.later rb)
        have HRB8 := Lib.hid (Bts.own ro)
        have H8 := Lib.hid (H7.out.below rb)
        have cM := dNames W8 w.heap.size w.heap.size mv Q _ _ H8.out (by show (1 : Nat) ≤ 1000000; omega)
        clear ro rb cR HB7 HS7 HRA7 H7
        go_wp2_with (go_at_call 23; (with_reducible refine cM.mono ?_))
        rintro e W9 ⟨na, nc, rfl, on, bn⟩
        rw [show (laC [⟨nm, L, s⟩] (3 + j)).L.length = 1 from rfl]
        have s9 := HS8.out.below bn
        have b9 := HB8.out.trans (bn.mono HB8.out.size)
        have cE := fun c1 c2 => nilP (Bytes_same ra (some ⟨g, 0, none⟩) s s c1 c2 L W9 HLL.out HLL.out (by omega) (HRA8.out.later bn) s9.1)
        have HB9 := Lib.hid b9
        have HS9 := Lib.hid s9
        have HRB9 := Lib.hid (HRB8.out.later bn)
        clear on bn cM s9 b9 HB8 HS8 HRA8 HRB8 H8
        go_wp2_with (go_at_call 20; (with_reducible refine (cE _ _).mono ?_))
        rintro e W10 ⟨rfl, b10⟩
        have s10 := HS9.out.below b10
        have cE2 := fun c1 c2 => nilP (Bytes_same rb1 (some ⟨g, 0, none⟩) s s c1 c2 (L.take s) W10 HLS.out HLS.out (by omega) (HRB9.out.later b10) (s10.1.take s))
        have HB10 := Lib.hid (HB9.out.trans (b10.mono HB9.out.size))
        clear b10 s10 cE HB9 HS9 HRB9
        go_wp2_with (go_at_call 20; (with_reducible refine (cE2 _ _).mono ?_))
        rintro e W11 ⟨rfl, b11⟩
        have cW := awake5_b w W11 (HB10.out.trans (b11.mono HB10.out.size))
        clear b11 cE2
        go_wp2_with (go_at_call 10; (with_reducible refine cW.mono ?_))
        rintro e W12 ⟨rfl, b12⟩
        go_wp2
        go_ret
        exact ⟨rfl, b12⟩
  · have hcs2 : s < cap := by omega
    have cA := dAppend W4 w.heap.size w.heap.size mv4 Q4 _ nmF (some ⟨g, s, none⟩) m (cap - s) (L.drop s) H4.out (la_inv (by rw [HLS.out]; omega) (by rw [HLS.out]; omega) nmF (by decide)) (by show (2 : Nat) ≤ 1000000; omega) (by decide) HLD.out (by omega) (by have := HSRC4.out.1.drop s; rw [addr0] at this; exact this) (fun e => by cases e) HB4.out.size (fun x hx => by injection hx with hx; subst hx; exact HSRC4.out.2.1)
    rw [show resC (laC [⟨nmF, L.take s, s⟩] 2) (appL (laC [⟨nmF, L.take s, s⟩] 2).room nmF (L.drop s) (laC [⟨nmF, L.take s, s⟩] 2).L) = (0, laC [⟨nmF, L, s⟩] 3) by rw [← HTA.out]; simp only [HTA.out]; exact (la3 (L.take s) (L.drop s) s HLS.out (by rw [HLD.out]; omega)).trans (by rw [HTA.out])] at cA
    go_wp2_with (go_at_call 16; (with_reducible refine cA.mono ?_))
    rintro e W5 ⟨mv5, Q5, rfl, h5, k5, n5⟩
    have HR0 : NmRel w W5 mv5 Q5 nmF L s 3 g := ⟨⟨h5, HB4.out.trans (k5.below HB4.out.size HS4.out)⟩, HSRC4.out.step k5 n5, by decide⟩
    clear h5 k5 n5 cA HSRC4 HB4 H4 HS4
    go_wp2
    go_loopw [10, 11] (fun nv i wr => ∃ (j : Nat) (mv : Value) (Q : List (Value × RF)) (nm : ByteArray), i = .int .i64 j ∧ j ≤ len0 ∧ nv = .string nm ∧ NmRel w wr mv Q nm L s (3 + j) g) (fun _ i _ => len0 - (intOf i).toNat)
    case atStart => exact ⟨0, _, _, nmF, rfl, Nat.zero_le _, rfl, HR0⟩
    case round =>
      obtain ⟨j, mv, Q, nm, rfl, hj, rfl, hR⟩ := hrel
      clear HR0
      have hz := hR.rel.2.size
      by_cases hlt : j < len0
      · obtain ⟨hits, hil, hlc, hwf⟩ := w0.its
        obtain ⟨zl, hzl⟩ : ∃ zl, zl = z0.take len0 := ⟨_, rfl⟩
        rw [← hzl] at hits hil hwf
        clear hzl
        have hjl : j < zl.length := by omega
        obtain ⟨x, rfl, hc⟩ : ∃ x, a0 = some x ∧ w.cell? (x.add j) = some (.int .i64 (zl[j]'hjl)) := by
          rcases hits with e | ⟨x, e, hc⟩
          · rw [e] at hjl; simp at hjl
          · exact ⟨x, e, hc j hjl⟩
        obtain ⟨p, hp⟩ : ∃ p, p = zl[j]'hjl := ⟨_, rfl⟩
        have hpb := hwf p (by rw [hp]; exact List.getElem_mem hjl)
        rw [← hp] at hc
        have hcr : wr.cell? (x.add j) = some (.int .i64 p) := (hR.rel.2.cell (World.block_lt_of_cell? w _ hc)).trans hc
        obtain ⟨r, hr⟩ : ∃ r : Nat, r = (p % 5).toNat := ⟨_, rfl⟩
        have hr0 := Int.emod_nonneg p (by omega : (5 : Int) ≠ 0)
        have hr1 := Int.emod_lt_of_pos p (by omega : (0 : Int) < 5)
        have cR := fun W => RoundE p 5 W (by omega) (by omega) hpb.1 hpb.2
        rw [show p % 5 = ((r : Nat) : Int) by omega] at cR
        have hrb : r < 5 := by omega
        have hbt := lit_bts wr [UInt8.ofNat (97 + r)] #[.int .u8 (97 + (r : Int))] (0, 0) (by simp [Lib.byteCells]; omega)
        have kc := conv_bts (wr.alloc (.cells #[.int .u8 (97 + (r : Int))] 5)) (some ⟨wr.heap.size, 0, none⟩) 1 1 [UInt8.ofNat (97 + r)] rfl hbt
        obtain ⟨sn, hsn⟩ : ∃ sn : ByteArray, sn = ⟨[UInt8.ofNat (97 + r)].toArray⟩ := ⟨_, rfl⟩
        have hsl : sn.size = 1 := by rw [hsn]; rfl
        rw [← hsn] at kc
        have hbn : (⟨#[110]⟩ ++ sn : ByteArray).size = 2 := by rw [ByteArray.size_append, hsl]; rfl
        have bb := (Below.refl wr.heap.size wr).alloc (Nat.le_refl _) (.cells #[.int .u8 (97 + (r : Int))] 5)
        have h3 := hR.rel.1.below bb
        have cA := dRename (wr.alloc (.cells #[.int .u8 (97 + (r : Int))] 5)) w.heap.size w.heap.size mv Q _ nm h3 (la_inv (by rw [HLL.out]; omega) (by rw [HLL.out]; omega) nm hR.nm) (by show 3 + j ≤ 1000000; omega) (by have := hR.nm; omega) (Nat.le_trans hz bb.size) (⟨#[110]⟩ ++ sn) (by rw [hbn]; omega)
        rw [show resC (laC [⟨nm, L, s⟩] (3 + j)) (renL nm (⟨#[110]⟩ ++ sn) (laC [⟨nm, L, s⟩] (3 + j)).L) = (0, laC [⟨⟨#[110]⟩ ++ sn, L, s⟩] (3 + (j + 1))) from laR nm _ L s (3 + j) (bad2 hbn)] at cA
        have HS := Lib.hid (fun i hi => (hR.rel.1.ltS i hi).1)
        have HR := Lib.hid hR
        clear hits hil hwf hjl hp hr hr0 hr1 hc hsn hpb hR h3 bb hbt
        go_wp2_with (first | (go_at_call 21; (with_reducible refine (cR _).mono ?_); rintro e W' ⟨rfl, rfl⟩) | (go_at_call 26; (with_reducible refine cA.mono ?_)))
        rintro e W6 ⟨mv6, Q6, rfl, h6, k6, n6⟩
        have hN : NmRel w W6 mv6 Q6 (⟨#[110]⟩ ++ sn) L s (3 + (j + 1)) g := ⟨DRel.step HR.out.rel.2 HS.out hz h6 k6, (HR.out.src.below ((Below.refl wr.heap.size wr).alloc (Nat.le_refl _) _)).step k6 n6, by rw [hbn]; omega⟩
        have HN := Lib.hid hN
        clear h6 k6 n6 cA hN kc
        go_wp2
        go_roundw
        case rel => exact ⟨j + 1, mv6, Q6, _, by go_num, by omega, rfl, HN.out⟩
        case measure => simp [intOf]; omega
      · obtain rfl : j = len0 := by omega
        have hinv := la_inv (n := 3 + j) (s := s) (b := L) (by rw [HLL.out]; omega) (by rw [HLL.out]; omega) nm hR.nm
        have cR := dRead wr w.heap.size w.heap.size mv Q _ nm hR.rel.1 hinv (by have := hR.nm; omega)
        rw [show rdL nm (laC [⟨nm, L, s⟩] (3 + j)).L = (L, 0) by unfold rdL; rw [show (laC [⟨nm, L, s⟩] (3 + j)).L = [⟨nm, L, s⟩] from rfl, getN]] at cR
        have HR := Lib.hid hR
        clear hR
        go_wp2_with (go_at_call 19; (with_reducible refine cR.mono ?_))
        rintro e W6 ⟨ra, rc, rfl, ro, rb⟩
        have h6 := HR.out.rel.1.below rb
        have b6 := HR.out.rel.2.trans (rb.mono hz)
        have s6 := HR.out.src.below rb
        have cC := dCrash W6 w.heap.size w.heap.size mv Q _ none 0 0 [] h6 hinv (.inl rfl) rfl (by omega) (by omega) (by intro p hp; cases hp)
        have HRA := Lib.hid (Bts.own ro)
        have HB6 := Lib.hid b6
        have HS6 := Lib.hid s6
        have H6 := Lib.hid h6
        rw [show (L, (0 : Int)).1.length = (s + m) from HLL.out]
        clear ro rb h6 b6 s6 cR
        go_wp2_with (go_at_call 18; (with_reducible refine cC.mono ?_))
        rintro e W7 ⟨G7, mv7, Q7, rfl, h7, b7⟩
        rw [show crashL [] (laC [⟨nm, L, s⟩] (3 + j)).L = [⟨nm, L.take s, s⟩] from crash0 nm L s] at h7
        have cR := dRead W7 _ G7 mv7 Q7 _ nm h7 (la_inv (n := 0) (by rw [HLS.out]; omega) (by rw [HLS.out]; omega) nm HR.out.nm) (by have := HR.out.nm; omega)
        rw [show rdL nm [⟨nm, L.take s, s⟩] = (L.take s, 0) by unfold rdL; rw [getN]] at cR
        have HB7 := Lib.hid (HB6.out.trans (b7.mono HB6.out.size))
        have HS7 := Lib.hid (HS6.out.below b7)
        have HRA7 := Lib.hid (HRA.out.later b7)
        have H7 := Lib.hid (H6.out.below b7)
        clear h7 b7 cC HB6 HS6 HRA H6
        go_wp2_with (go_at_call 19; (with_reducible refine cR.mono ?_))
        rintro e W8 ⟨rb1, rc1, rfl, ro, rb⟩
        rw [show (L.take s, (0 : Int)).1.length = s from HLS.out]
        have HB8 := Lib.hid (HB7.out.trans (rb.mono HB7.out.size))
        have HS8 := Lib.hid (HS7.out.below rb)
        have HRA8 := Lib.hid (HRA7.out.later rb)
        have HRB8 := Lib.hid (Bts.own ro)
        have H8 := Lib.hid (H7.out.below rb)
        have cM := dNames W8 w.heap.size w.heap.size mv Q _ _ H8.out (by show (1 : Nat) ≤ 1000000; omega)
        clear ro rb cR HB7 HS7 HRA7 H7
        go_wp2_with (go_at_call 23; (with_reducible refine cM.mono ?_))
        rintro e W9 ⟨na, nc, rfl, on, bn⟩
        rw [show (laC [⟨nm, L, s⟩] (3 + j)).L.length = 1 from rfl]
        have s9 := HS8.out.below bn
        have b9 := HB8.out.trans (bn.mono HB8.out.size)
        have cE := fun c1 c2 => nilP (Bytes_same ra (some ⟨g, 0, none⟩) (s + m) (s + m) c1 c2 L W9 HLL.out HLL.out (by omega) (HRA8.out.later bn) s9.1)
        have HB9 := Lib.hid b9
        have HS9 := Lib.hid s9
        have HRB9 := Lib.hid (HRB8.out.later bn)
        clear on bn cM s9 b9 HB8 HS8 HRA8 HRB8 H8
        go_wp2_with (go_at_call 20; (with_reducible refine (cE _ _).mono ?_))
        rintro e W10 ⟨rfl, b10⟩
        have s10 := HS9.out.below b10
        have cE2 := fun c1 c2 => nilP (Bytes_same rb1 (some ⟨g, 0, none⟩) s s c1 c2 (L.take s) W10 HLS.out HLS.out (by omega) (HRB9.out.later b10) (s10.1.take s))
        have HB10 := Lib.hid (HB9.out.trans (b10.mono HB9.out.size))
        clear b10 s10 cE HB9 HS9 HRB9
        go_wp2_with (go_at_call 20; (with_reducible refine (cE2 _ _).mono ?_))
        rintro e W11 ⟨rfl, b11⟩
        have cW := awake5_b w W11 (HB10.out.trans (b11.mono HB10.out.size))
        clear b11 cE2
        go_wp2_with (go_at_call 10; (with_reducible refine cW.mono ?_))
        rintro e W12 ⟨rfl, b12⟩
        go_wp2
        go_ret
        exact ⟨rfl, b12⟩

set_option maxHeartbeats 8000000 in
set_option maxRecDepth 100000 in
theorem DiskNames_out (a0 : Option Addr) (len0 cap0 : Nat) (a1 a2 : Int) (w : World) (h : ¬ (len0 ≤ 30 ∧ 0 ≤ a1 ∧ a1 ≤ 200 ∧ 0 ≤ a2 ∧ a2 ≤ 200)) :
    Calls Try.prog 8 #[.slice a0 len0 cap0, .int .i64 a1, .int .i64 a2] w (AwPost w) := by
  have cW := awake5 w
  by_cases h0 : (30 : Int) < (len0 : Int)
  · clear h
    go_enter Try.func8, Try.ntmps8
    go_wp2_with (go_at_call 10; (with_reducible refine cW.mono ?_))
    rintro e W1 ⟨rfl, hb⟩
    go_wp2
    go_ret
    exact ⟨rfl, hb⟩
  · skip
    by_cases h1 : a1 < 0
    · clear h
      go_enter Try.func8, Try.ntmps8
      go_wp2_with (go_at_call 10; (with_reducible refine cW.mono ?_))
      rintro e W1 ⟨rfl, hb⟩
      go_wp2
      go_ret
      exact ⟨rfl, hb⟩
    · skip
      by_cases h2 : 200 < a1
      · clear h
        go_enter Try.func8, Try.ntmps8
        go_wp2_with (go_at_call 10; (with_reducible refine cW.mono ?_))
        rintro e W1 ⟨rfl, hb⟩
        go_wp2
        go_ret
        exact ⟨rfl, hb⟩
      · skip
        by_cases h3 : a2 < 0
        · clear h
          go_enter Try.func8, Try.ntmps8
          go_wp2_with (go_at_call 10; (with_reducible refine cW.mono ?_))
          rintro e W1 ⟨rfl, hb⟩
          go_wp2
          go_ret
          exact ⟨rfl, hb⟩
        · skip
          have h4 : 200 < a2 := by omega
          clear h
          go_enter Try.func8, Try.ntmps8
          go_wp2_with (go_at_call 10; (with_reducible refine cW.mono ?_))
          rintro e W1 ⟨rfl, hb⟩
          go_wp2
          go_ret
          exact ⟨rfl, hb⟩

theorem DiskNames_walk (a0 : Option Addr) (len0 cap0 : Nat) (z0 : List Int) (a1 a2 : Int) (w : World) (w0 : RowIn .i64 w a0 len0 cap0 z0) (w1 : (Lit.int .i64 a1).wf = true) (w2 : (Lit.int .i64 a2).wf = true) :
    Calls Try.prog 8 #[.slice a0 len0 cap0, .int .i64 a1, .int .i64 a2] w fun e w' => e = .returned (.bool true) ∧ Below w.heap.size w w' := by
  by_cases h : len0 ≤ 30 ∧ 0 ≤ a1 ∧ a1 ≤ 200 ∧ 0 ≤ a2 ∧ a2 ≤ 200
  · obtain ⟨s, rfl⟩ := Int.eq_ofNat_of_zero_le h.2.1
    obtain ⟨m, rfl⟩ := Int.eq_ofNat_of_zero_le h.2.2.2.1
    exact DiskNames_main a0 len0 cap0 z0 s m h.1 (by omega) (by omega) w w0
  · exact DiskNames_out a0 len0 cap0 a1 a2 w h

end Go.Proofs.Ytbolminblofhgaa
