/-
  The walk of DiskFull.
-/
import Derived.Test.YtbolminblofhgaaDsR
set_option linter.unusedVariables false
namespace Go.Proofs.Ytbolminblofhgaa
open Go.RowKit

def StrPost (w : World) (s : ByteArray) (e : Ending) (w' : World) : Prop := e = .returned (.string s) ∧ Below w.heap.size w w'
theorem app_ok {room : Nat} {nm : ByteArray} {l : List UInt8} {L : List RF} (hr : Rise L) (hb : badN nm = false) (hl : L.length < 3000) (h : tot L + l.length ≤ room) :
    ∃ L', appL room nm l L = (0, L') ∧ tot L' = tot L + l.length ∧ L'.length ≤ L.length + 1 := by
  unfold appL
  rw [if_neg (by rw [hb]; decide), if_neg (by omega)]
  cases hg : getL nm L with
  | none =>
    have h1 := put_tot hr ⟨nm, l, 0⟩
    simp only [hg] at h1
    exact ⟨_, rfl, by omega, by omega⟩
  | some f =>
    have h1 := put_tot hr ⟨nm, f.b ++ l, f.s⟩
    simp only [hg, List.length_append] at h1
    exact ⟨_, rfl, by omega, by omega⟩
theorem app_no {room : Nat} {nm : ByteArray} {l : List UInt8} {L : List RF} (hb : badN nm = false) (h : room < tot L + l.length) : appL room nm l L = (3, L) := by
  unfold appL
  rw [if_neg (by rw [hb]; decide), if_pos (.inr h)]
theorem bad2 {nm : ByteArray} (h : nm.size = 2) : badN nm = false := by unfold badN; simp [h]
theorem tot_take_le (L : List RF) (i : Nat) : tot (L.take i) ≤ tot L := by
  conv => rhs; rw [← List.take_append_drop i L]
  unfold tot; rw [List.map_append, List.sum_append]; omega
theorem tot_take_succ (L : List RF) (i : Nat) (h : i < L.length) : tot (L.take (i + 1)) = tot (L.take i) + (L[i]'h).b.length := by
  rw [List.take_succ_eq_append_getElem h]
  unfold tot
  rw [List.map_append, List.sum_append]; simp

structure FulRel (w wr : World) (R i : Nat) (mv : Value) (Q : List (Value × RF)) (C : CD) : Prop where
  rel : DRel w wr mv Q C
  room : C.room = R
  n : C.n = i
  cut : C.cut = false
  len : C.L.length ≤ i
  inv : Inv C
theorem FulRel.next {w wr W3 : World} {R i : Nat} {mv mv3 : Value} {Q Q3 : List (Value × RF)} {C : CD} (h : FulRel w wr R i mv Q C) (L' : List RF) (hl : L'.length ≤ i + 1) (hi : Inv (C.op.setL L')) (h3 : DRel w W3 mv3 Q3 (C.op.setL L')) : FulRel w W3 R (i + 1) mv3 Q3 (C.op.setL L') :=
  ⟨h3, h.room, by show C.n + 1 = i + 1; rw [h.n], h.cut, hl, hi⟩

def NamRel (w wx wr : World) (C : CD) (na : Option Addr) (nc : Nat) : Prop := wr.ownsRow wx.heap.size 9 1 (.slice na C.L.length nc) C.L.length (C.L.map fun f => .string f.nm) ∧ Below wx.heap.size wx wr

set_option maxHeartbeats 8000000 in
set_option maxRecDepth 100000 in
theorem DiskFull_main (R : Nat) (a1 : Option Addr) (len1 cap1 : Nat) (z1 : List Int) (hR : R ≤ 3000) (hlen : len1 ≤ 90) (w : World) (w1 : RowIn .i64 w a1 len1 cap1 z1) :
    Calls Try.prog 5 #[.int .i64 R, .slice a1 len1 cap1] w (AwPost w) := by
  have cN := dNew w R (by omega)
  go_enter Try.func5, Try.ntmps5
  go_wp2_with (go_at_call 11; (with_reducible refine cN.mono ?_))
  rintro e W1 ⟨rfl, hW1⟩
  have h1 : ImAt W1 w.heap.size w.heap.size (.map none) [] (newC R) := by rw [hW1]; exact newAt w w.heap.size R (Nat.le_refl _)
  have b1 : Below w.heap.size w W1 := by rw [hW1]; exact (Below.refl _ _).alloc (Nat.le_refl _) _
  have HR0 : FulRel w W1 R 0 (.map none) [] (newC R) := ⟨⟨h1, b1⟩, rfl, rfl, rfl, Nat.le_refl _, newC_inv R (by omega)⟩
  clear hW1 cN h1 b1
  go_wp2
  go_loopw [7, 8] (fun u i wr => ∃ (j : Nat) (mv : Value) (Q : List (Value × RF)) (C : CD), i = .int .i64 j ∧ j ≤ len1 ∧ u = .int .i64 (tot C.L : Nat) ∧ FulRel w wr R j mv Q C) (fun _ i _ => len1 - (intOf i).toNat)
  case atStart => exact ⟨0, _, _, newC R, rfl, Nat.zero_le _, rfl, HR0⟩
  case round =>
    obtain ⟨j, mv, Q, C, rfl, hj, rfl, hF⟩ := hrel
    clear HR0
    have hz := hF.rel.2.size
    have htot := hF.inv.tot
    rw [hF.room] at htot
    by_cases hlt : j < len1
    · obtain ⟨hits, hil, hlc, hwf⟩ := w1.its
      obtain ⟨zl, hzl⟩ : ∃ zl, zl = z1.take len1 := ⟨_, rfl⟩
      rw [← hzl] at hits hil hwf
      clear hzl
      have hjl : j < zl.length := by omega
      obtain ⟨x, rfl, hc⟩ : ∃ x, a1 = some x ∧ w.cell? (x.add j) = some (.int .i64 (zl[j]'hjl)) := by
        rcases hits with e | ⟨x, e, hc⟩
        · rw [e] at hjl; simp at hjl
        · exact ⟨x, e, hc j hjl⟩
      obtain ⟨p, hp⟩ : ∃ p, p = zl[j]'hjl := ⟨_, rfl⟩
      have hpb := hwf p (by rw [hp]; exact List.getElem_mem hjl)
      rw [← hp] at hc
      have hcr : wr.cell? (x.add j) = some (.int .i64 p) := (hF.rel.2.cell (World.block_lt_of_cell? w _ hc)).trans hc
      obtain ⟨r, hr⟩ : ∃ r : Nat, r = (p % 100).toNat := ⟨_, rfl⟩
      have hr0 := Int.emod_nonneg p (by omega : (100 : Int) ≠ 0)
      have hr1 := Int.emod_lt_of_pos p (by omega : (0 : Int) < 100)
      have cR := fun W => RoundE p 100 W (by omega) (by omega) hpb.1 hpb.2
      rw [show p % 100 = ((r : Nat) : Int) by omega] at cR
      have hrb : r < 100 := by omega
      obtain ⟨sn, hsn⟩ : ∃ s : ByteArray, s = ⟨(letters 1 (j : Int)).toArray⟩ := ⟨_, rfl⟩
      have hsl : sn.size = 1 := by rw [hsn]; simp [ByteArray.size, letters_len]
      have cL : ∀ W, Calls Try.prog 22 #[.int .i64 1, .int .i64 (j : Int)] W (StrPost W sn) := fun W => by
        have := Letters_any 1 (j : Int) W (by omega) (by omega) (by omega)
        rw [← hsn] at this
        exact this
      clear hits hil hwf hjl hp hr hr0 hr1 hc hsn hpb
      have HF := Lib.hid hF
      clear hF
      go_wp2_with (first | (go_at_call 21; (with_reducible refine (cR _).mono ?_); rintro e W' ⟨rfl, rfl⟩) | (go_at_call 22; (with_reducible refine (cL _).mono ?_)))
      rintro e W2 ⟨rfl, b2⟩
      obtain ⟨L, hLd⟩ : ∃ L, L = letters r (j : Int) := ⟨_, rfl⟩
      have hLl : L.length = r := by rw [hLd, letters_len]
      have cB := bytes_nat r (j : Int) W2 (by omega) (by omega) (by omega)
      rw [← hLd] at cB
      have Z2 := b2.size
      have HB2 := Lib.hid b2
      clear hLd b2
      go_wp2_with (go_at_call 15; (with_reducible refine cB.mono ?_))
      rintro e W3 ⟨g, cap, rfl, hg1, hg2, hc1, hc2, hbt, b3⟩
      rw [hLl] at hc1 ⊢
      have BB3 : Below wr.heap.size wr W3 := HB2.out.trans (b3.mono Z2)
      have h3 := HF.out.rel.1.below BB3
      have hgS : ¬ ImS w.heap.size mv Q g := fun e => by have := (HF.out.rel.1.ltS g e).2; omega
      have hbn : (⟨#[102]⟩ ++ sn : ByteArray).size = 2 := by rw [ByteArray.size_append, hsl]; rfl
      have cA := dAppend W3 w.heap.size w.heap.size mv Q C (⟨#[102]⟩ ++ sn) (some ⟨g, 0, none⟩) r cap L h3 HF.out.inv (by rw [HF.out.n]; omega) (by rw [hbn]; omega) hLl (by omega) hbt (fun e => by cases e) (Nat.le_trans hz BB3.size) (fun x hx => by injection hx with hx; subst hx; exact hgS)
      have hrise := h3.rise
      have hoff : offC C = false := by unfold offC; rw [HF.out.cut]; rfl
      rw [resC_on hoff, HF.out.room] at cA
      have hinv := app_inv HF.out.inv hrise (⟨#[102]⟩ ++ sn) L
      rw [resC_on hoff, HF.out.room] at hinv
      have HS3 := Lib.hid (fun k hk => (h3.ltS k hk).1)
      have hb3 : Below w.heap.size w W3 := HF.out.rel.2.trans (BB3.mono hz)
      have HB3 := Lib.hid hb3
      obtain ⟨u, hu⟩ : ∃ u, u = tot C.L := ⟨_, rfl⟩
      have hun : u ≤ R := by omega
      have HU := Lib.hid hu
      rw [← hu]
      clear h3 hb3 BB3 hbt b3 HB2 cB htot
      by_cases hfull : (R : Int) - (u : Int) < (r : Int)
      · have e1 : appL R (⟨#[102]⟩ ++ sn) L C.L = (3, C.L) := app_no (bad2 hbn) (by rw [hLl, ← hu]; omega)
        rw [e1] at cA hinv
        have HINV := Lib.hid hinv
        clear hu hinv e1 hrise hoff
        go_wp2_with (go_at_call 16; (with_reducible refine cA.mono ?_))
        rintro e W4 ⟨mv4, Q4, rfl, h4, k4, n4⟩
        have hD : DRel w W4 mv4 Q4 (C.op.setL C.L) := ⟨h4, HB3.out.trans (k4.below HB3.out.size HS3.out)⟩
        have HN := Lib.hid (HF.out.next C.L (by have := HF.out.len; omega) HINV.out hD)
        clear h4 k4 n4 cA hD
        go_wp2
        go_roundw
        case rel => exact ⟨j + 1, mv4, Q4, _, by go_num, by omega, by rw [HU.out]; rfl, HN.out⟩
        case measure => simp [intOf]; omega
      · obtain ⟨L', e1, ht', hl'⟩ := app_ok (l := L) hrise (bad2 hbn) (by have := HF.out.len; omega) (show tot C.L + L.length ≤ R by rw [hLl, ← hu]; omega)
        rw [e1] at cA hinv
        rw [hLl, ← hu] at ht'
        have HINV := Lib.hid hinv
        have HT' := Lib.hid ht'
        clear hu hinv e1 hrise hoff ht'
        have hw : IntKind.i64.wrap ((u : Int) + (r : Int)) = (u : Int) + (r : Int) := IntWalk.i64_in _ (by omega)
        go_wp2_with (go_at_call 16; (with_reducible refine cA.mono ?_))
        rintro e W4 ⟨mv4, Q4, rfl, h4, k4, n4⟩
        have hD : DRel w W4 mv4 Q4 (C.op.setL L') := ⟨h4, HB3.out.trans (k4.below HB3.out.size HS3.out)⟩
        have HN := Lib.hid (HF.out.next L' (by have := HF.out.len; omega) HINV.out hD)
        clear h4 k4 n4 cA hD
        go_wp2
        go_roundw
        case rel => exact ⟨j + 1, mv4, Q4, C.op.setL L', by go_num, by omega, by show _ = Value.int .i64 ((tot L' : Nat) : Int); rw [HT'.out]; go_num, HN.out⟩
        case measure => simp [intOf]; omega
    · obtain rfl : j = len1 := by omega
      have cM := dNames wr w.heap.size w.heap.size mv Q _ C hF.rel.1 (by have := hF.inv.len; omega)
      obtain ⟨wx, hwx⟩ : ∃ wx, wx = wr := ⟨_, rfl⟩
      subst hwx
      have HF := Lib.hid hF
      have hLl : C.L.length ≤ 3000 := hF.inv.len
      have hrise := hF.rel.1.rise
      have HRISE := Lib.hid hrise
      obtain ⟨u, hu⟩ : ∃ u, u = tot C.L := ⟨_, rfl⟩
      have hun : u ≤ R := by omega
      have HU := Lib.hid hu
      rw [← hu]
      clear hF hrise hu htot
      go_wp2_with (go_at_call 23; (with_reducible refine cM.mono ?_))
      rintro e W3 ⟨na, nc, rfl, on, bn⟩
      have HR3 : NamRel w wx W3 C na nc := ⟨on, bn⟩
      clear on bn cM
      go_wp2
      go_loopw [11, 13] (fun t i wr => ∃ (k : Nat), i = .int .i64 k ∧ k ≤ C.L.length ∧ t = .int .i64 (tot (C.L.take k) : Nat) ∧ NamRel w wx wr C na nc) (fun _ i _ => C.L.length - (intOf i).toNat)
      case atStart => exact ⟨0, rfl, Nat.zero_le _, rfl, HR3⟩
      case round =>
        obtain ⟨k, rfl, hk, rfl, hN⟩ := hrel
        clear HR3
        by_cases hlt2 : k < C.L.length
        · obtain ⟨gn, hna, _, _⟩ := own_some hN.1 (by omega)
          subst hna
          have hnc0 := hN.1.cellAt k (show k < C.L.length * 1 by omega)
          have hnc : wr.cell? ⟨gn, k, none⟩ = some (.string (C.L[k]'hlt2).nm) := by
            rw [hnc0]; simp [hlt2]
          have hmem : C.L[k]'hlt2 ∈ C.L := List.getElem_mem hlt2
          have hga := get_at HRISE.out k hlt2
          have hts := tot_take_succ C.L k hlt2
          have htk := tot_take_le C.L (k + 1)
          obtain ⟨f, hf⟩ : ∃ f, f = C.L[k]'hlt2 := ⟨_, rfl⟩
          rw [← hf] at hnc hga hts hmem
          have hb3 := hN.2
          have hD := HF.out.rel.1.below hb3
          have cR := dRead wr w.heap.size w.heap.size mv Q C f.nm hD HF.out.inv (by have := HF.out.inv.nm f hmem; omega)
          rw [show rdL f.nm C.L = (f.b, 0) by unfold rdL; rw [hga]] at cR
          obtain ⟨fn, hfn⟩ : ∃ n, n = f.b.length := ⟨_, rfl⟩
          obtain ⟨tk, htkd⟩ : ∃ n, n = tot (C.L.take k) := ⟨_, rfl⟩
          rw [← hfn, ← htkd] at hts
          have hbd : tk + fn ≤ 3000 := by have := HU.out; omega
          have HTS := Lib.hid hts
          have HFN := Lib.hid hfn
          have HN := Lib.hid hN
          rw [← htkd]
          clear hnc0 hf hga hts htk hb3 hD hfn htkd hN
          go_wp2_with (go_at_call 19; (with_reducible refine cR.mono ?_))
          rintro e W4 ⟨ra, rc, rfl, ro, rb⟩
          have hN4 : NamRel w wx W4 C (some ⟨gn, 0, none⟩) nc := ⟨Kept.own HN.out.1 (Kept.of_below (S := fun _ => False) rb) (fun _ _ h => h), HN.out.2.trans (rb.mono HN.out.2.size)⟩
          have HN4 := Lib.hid hN4
          rw [← HFN.out]
          clear ro rb hN4 cR
          go_wp2
          go_roundw
          case rel => exact ⟨k + 1, by go_num, by omega, by rw [HTS.out]; go_num, HN4.out⟩
          case measure => simp [intOf]; omega
        · obtain rfl : k = C.L.length := by omega
          rw [List.take_length, ← HU.out]
          have hb := HF.out.rel.2.trans (hN.2.mono HF.out.rel.2.size)
          have cO := dOps wr w.heap.size w.heap.size mv Q _ C (HF.out.rel.1.below hN.2)
          rw [HF.out.n] at cO
          have cW := awake5_b w wr hb
          clear hN hb
          go_wp2_with (first | (go_at_call 24; (with_reducible refine cO.mono ?_); rintro e W5 ⟨rfl, rfl⟩) | (go_at_call 10; (with_reducible refine cW.mono ?_)))
          rintro e W6 ⟨rfl, b6⟩
          go_wp2
          go_ret
          exact ⟨rfl, b6⟩

set_option maxHeartbeats 8000000 in
set_option maxRecDepth 100000 in
theorem DiskFull_out (a0 : Int) (a1 : Option Addr) (len1 cap1 : Nat) (w : World) (h : ¬ (0 ≤ a0 ∧ a0 ≤ 3000 ∧ len1 ≤ 90)) :
    Calls Try.prog 5 #[.int .i64 a0, .slice a1 len1 cap1] w (AwPost w) := by
  have cW := awake5 w
  by_cases h0 : a0 < 0
  · clear h
    go_enter Try.func5, Try.ntmps5
    go_wp2_with (go_at_call 10; (with_reducible refine cW.mono ?_))
    rintro e W1 ⟨rfl, hb⟩
    go_wp2
    go_ret
    exact ⟨rfl, hb⟩
  · skip
    by_cases h1 : 3000 < a0
    · clear h
      go_enter Try.func5, Try.ntmps5
      go_wp2_with (go_at_call 10; (with_reducible refine cW.mono ?_))
      rintro e W1 ⟨rfl, hb⟩
      go_wp2
      go_ret
      exact ⟨rfl, hb⟩
    · skip
      have h2 : (90 : Int) < (len1 : Int) := by omega
      clear h
      go_enter Try.func5, Try.ntmps5
      go_wp2_with (go_at_call 10; (with_reducible refine cW.mono ?_))
      rintro e W1 ⟨rfl, hb⟩
      go_wp2
      go_ret
      exact ⟨rfl, hb⟩

theorem DiskFull_walk (a0 : Int) (a1 : Option Addr) (len1 cap1 : Nat) (z1 : List Int) (w : World) (w0 : (Lit.int .i64 a0).wf = true) (w1 : RowIn .i64 w a1 len1 cap1 z1) :
    Calls Try.prog 5 #[.int .i64 a0, .slice a1 len1 cap1] w fun e w' => e = .returned (.bool true) ∧ Below w.heap.size w w' := by
  by_cases h : 0 ≤ a0 ∧ a0 ≤ 3000 ∧ len1 ≤ 90
  · obtain ⟨s, rfl⟩ := Int.eq_ofNat_of_zero_le h.1
    exact DiskFull_main s a1 len1 cap1 z1 (by omega) h.2.2 w w1
  · exact DiskFull_out a0 a1 len1 cap1 w h

end Go.Proofs.Ytbolminblofhgaa
