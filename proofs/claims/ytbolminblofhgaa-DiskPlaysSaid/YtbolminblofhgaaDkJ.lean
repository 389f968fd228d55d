/-
  The reference's Read, Names, New.
-/
import Derived.Test.YtbolminblofhgaaDkI
import Derived.Test.YtbolminblofhgaaDsM
set_option linter.unusedVariables false
namespace Go.Proofs.Ytbolminblofhgaa
open Go.RowKit

theorem infoStr8 : (Try.prog.info? 9).map (fun i => (i.zero, i.size, i.bytes)) = some (some (.string ByteArray.empty), 1, 16) := by kernel_rfl
theorem mem_tot {f : RF} {L : List RF} (h : f ∈ L) : f.b.length ≤ tot L := by
  induction L with
  | nil => cases h
  | cons a r ih =>
    rw [tot_cons]
    rcases List.mem_cons.1 h with rfl | h
    · omega
    · have := ih h; omega
theorem DkAt.at' {w : World} {B g : Nat} {v : Value} {Q : List (Value × RF)} {M : RD} (h : DkAt w B g v Q M) (k : Nat) (hk : k < Q.length) (hk2 : k < M.L.length) : (Q[k]'hk).2 = M.L[k]'hk2 := by
  have h0 := h.2.1
  have : (Q.map Prod.snd)[k]'(by rw [List.length_map]; exact hk) = M.L[k]'hk2 := by simp only [h0]
  rw [← this, List.getElem_map]

set_option maxHeartbeats 4000000 in
set_option maxRecDepth 100000 in
theorem rRead_no (w : World) (B g : Nat) (v : Value) (Q : List (Value × RF)) (M : RD) (nm : ByteArray) (h : DkAt w B g v Q M) (hq : Q.length ≤ 100000) (hf : fnd nm M.L = none) :
    Calls Try.prog 39 #[.pointer (some ⟨g, 0, none⟩), .string nm] w (ReadPost w ([], 4)) := by
  have cF := rFind_no (nm := nm) h (by omega) hf
  clear h
  go_enter Try.func39, Try.ntmps39
  go_wp2_with (go_at_call 50; (with_reducible refine cF.mono ?_))
  rintro e W1 ⟨rfl, q, rfl⟩
  go_wp2
  go_ret2
  exact ⟨none, 0, rfl, ⟨rfl, .inl ⟨rfl, rfl⟩⟩, below_drewN (Below.refl _ _) _⟩
set_option maxHeartbeats 4000000 in
set_option maxRecDepth 100000 in
theorem rRead_yes (w : World) (B g : Nat) (v : Value) (Q : List (Value × RF)) (M : RD) (nm : ByteArray) (k : Nat) (f : RF) (h : DkAt w B g v Q M) (hq : Q.length ≤ 100000) (ht : tot M.L ≤ 8388608) (hr : Rise M.L) (hf : fnd nm M.L = some k) (hg : getL nm M.L = some f) :
    Calls Try.prog 39 #[.pointer (some ⟨g, 0, none⟩), .string nm] w (ReadPost w (f.b, 0)) := by
  obtain ⟨i0, hi, hz0, hz1, hz2⟩ := info_parts infoByte8
  have cF := rFind_yes (nm := nm) h (by omega) hf
  obtain ⟨hk, hn1, hg1⟩ := fnd_get hr hf
  have hkl : k < Q.length := by rw [h.rise]; exact hk
  rw [hg] at hg1
  injection hg1 with hg1
  have hfQ : (Q[k]'hkl).2 = f := by rw [h.at' k hkl hk, hg1]
  have hfl : f.b.length ≤ 8388608 := by have := mem_tot (getL_mem hg).1; omega
  obtain ⟨gr, cp, hv, hBr⟩ := h.row (by intro e; rw [e] at hkl; simp at hkl)
  subst hv
  have H := Lib.hid h
  clear h hg hg1
  go_enter Try.func39, Try.ntmps39
  go_wp2_with (go_at_call 50; (with_reducible refine cF.mono ?_))
  rintro e W1' ⟨rfl, q, rfl⟩
  obtain ⟨W1, hW1⟩ : ∃ W, W = w.drewN q := ⟨_, rfl⟩
  have h1 : DkAt W1 B g (.slice (some ⟨gr, 0, none⟩) Q.length cp) Q M := by rw [hW1]; exact H.out.drewN q
  have b1 : Below w.heap.size w W1 := by rw [hW1]; exact below_drewN (Below.refl _ _) _
  rw [← hW1]
  clear hW1 cF
  obtain ⟨_, d1, _, _⟩ := h1.cell
  obtain ⟨_, r1, _⟩ := h1.cells k hkl
  have hbo := h1.2.2.2.2 _ (List.getElem_mem hkl)
  obtain ⟨p, hp⟩ : ∃ p, p = Q[k]'hkl := ⟨_, rfl⟩
  rw [← hp] at r1 hbo hfQ
  obtain ⟨pv, pf⟩ := p
  simp only at hfQ
  subst hfQ
  obtain ⟨pa, pc, hpv⟩ := own_slice hbo
  simp only at hpv
  subst hpv
  simp only at r1
  have x1 := alloc_cell d1 (.cells #[] 5)
  have x2 := alloc_cell r1 (.cells #[] 5)
  have ho1 : (W1.alloc (.cells #[] 5)).ownsRow W1.heap.size 5 1 (.slice (some ⟨W1.heap.size, 0, none⟩) 0 0) 0 [] := World.ownsRow_lit W1 #[] 0 (Nat.le_refl _) (Nat.zero_le _) rfl
  have hb1 : Below W1.heap.size W1 (W1.alloc (.cells #[] 5)) := (Below.refl _ W1).alloc (Nat.le_refl _) _
  have hB1 : Bts (W1.alloc (.cells #[] 5)) pa pf.b := (Bts.own hbo).later hb1
  have hA : pa = none → pc = 0 := own_cap hbo
  have HP := Lib.hid hp
  clear hp hbo h1 H d1 r1
  go_wp2_with (at_builtin; go_loud (refine wpList_append_bts _ rfl _ _ 39 rfl W1.heap.size 5 i0 Try.underlying39 hi hz0 hz1 hz2 _ _ _ rfl ho1 _ _ _ pf.b rfl rfl hB1 hA (by omega) hb1.size ?_))
  intro v2 W2 ho2 hg2
  have hb2 := below_grown hb1 (Nat.le_refl _) ho1 hg2
  obtain ⟨a2, k2, rfl⟩ := own_slice ho2
  have H2 := Lib.hid ho2
  have HB := Lib.hid hb2
  clear ho1 hg2 ho2 hB1 hb2 hb1
  go_wp2
  go_ret2
  exact ⟨a2, k2, rfl, own_low H2.out b1.size, b1.trans (HB.out.mono b1.size)⟩
theorem rRead (w : World) (B g : Nat) (v : Value) (Q : List (Value × RF)) (M : RD) (nm : ByteArray) (h : DkAt w B g v Q M) (hq : Q.length ≤ 100000) (ht : tot M.L ≤ 8388608) (hr : Rise M.L) :
    Calls Try.prog 39 #[.pointer (some ⟨g, 0, none⟩), .string nm] w (ReadPost w (rdL nm M.L)) := by
  unfold rdL
  cases hf : fnd nm M.L with
  | none =>
    rw [fnd_none hf]
    exact rRead_no w B g v Q M nm h hq hf
  | some k =>
    obtain ⟨hk, _, hg⟩ := fnd_get hr hf
    rw [hg]
    exact rRead_yes w B g v Q M nm k _ h hq ht hr hf hg
set_option maxHeartbeats 4000000 in
set_option maxRecDepth 100000 in
theorem rNames (w : World) (B g : Nat) (v : Value) (Q : List (Value × RF)) (M : RD) (h : DkAt w B g v Q M) (hq : Q.length ≤ 100000) :
    Calls Try.prog 37 #[.pointer (some ⟨g, 0, none⟩)] w (NamesPost w M.L) := by
  obtain ⟨i0, hi, hz0, hz1, hz2⟩ := info_parts infoStr8
  have hr := h.rise
  have H := Lib.hid h
  obtain ⟨a, cp, rfl⟩ := own_slice h.2.2.2.1
  obtain ⟨_, d1, _, _⟩ := h.cell
  clear h
  go_enter Try.func37, Try.ntmps37
  go_wp2
  go_loopw [3, 4] (fun s i wr => ∃ (j : Nat) (sa : Option Addr) (sc : Nat), i = .int .i64 j ∧ j ≤ Q.length ∧ s = .slice sa j sc ∧ wr.ownsRow w.heap.size 9 1 (.slice sa j sc) j ((M.L.map fun f => .string f.nm).take j) ∧ Below w.heap.size w wr) (fun _ i _ => Q.length - (intOf i).toNat)
  case atStart => exact ⟨0, none, 0, rfl, Nat.zero_le _, rfl, ⟨rfl, .inl ⟨rfl, rfl⟩⟩, Below.refl _ _⟩
  case round =>
    obtain ⟨j, sa, sc, rfl, hj, rfl, ho, hb⟩ := hrel
    have hW := H.out.kept (S := fun _ => False) (Kept.of_below hb) (fun _ _ h => h) (fun _ _ _ _ h => h)
    obtain ⟨_, c1, _, _⟩ := hW.cell
    by_cases hlt : j < Q.length
    · have hlt2 : j < M.L.length := by omega
      obtain ⟨gr, cp', hv, _⟩ := hW.row (by intro e; rw [e] at hlt; simp at hlt)
      injection hv with e1 e2 e3
      subst e1 e3
      obtain ⟨r0, _, _⟩ := hW.cells j hlt
      rw [hW.at' j hlt hlt2] at r0
      obtain ⟨s, hs⟩ : ∃ s, s = (M.L[j]'hlt2).nm := ⟨_, rfl⟩
      rw [← hs] at r0
      have HS := Lib.hid hs
      have HB := Lib.hid hb
      have HO := Lib.hid ho
      have hsz := hb.size
      clear hs hW hb ho
      go_wp2_with (at_builtin; go_loud (refine wpList_append_own _ rfl _ _ 50 rfl w.heap.size 9 i0 (.string ByteArray.empty) 1 16 Try.underlying50 hi hz0 hz1 hz2 rfl (by decide) _ _ _ rfl (HO.out.alloc _) ⟨wr.heap.size, 0, none⟩ 1 1 [.string s] rfl rfl ?c1 ?c2 ?c3 ?c4 ?c5 ?_))
      case c2 => rfl
      case c3 => unfold maxLen; omega
      case c4 => omega
      case c5 => first | omega | (simp; omega)
      intro v2 w3 o3 hg3 _
      obtain ⟨a2, k2, rfl⟩ := own_slice o3
      have hb3 : Below w.heap.size w w3 := (HB.out.alloc hsz _).grown hg3 (by simp; omega) (fun k hk => (HO.out.lt k hk).1)
      have HO3 : Hid (w3.ownsRow w.heap.size 9 1 (.slice a2 (j + 1) k2) (j + 1) ((M.L.map fun f => .string f.nm).take (j + 1))) := by
        show w3.ownsRow _ _ _ _ _ _
        rw [List.take_succ_eq_append_getElem (by rw [List.length_map]; exact hlt2), List.getElem_map, ← HS.out]
        exact o3
      have HB3 := Lib.hid hb3
      clear o3 hg3 hb3 r0 c1
      go_wp2
      go_roundw
      case rel => exact ⟨j + 1, a2, k2, by go_num, by omega, rfl, HO3.out, HB3.out⟩
      case measure => simp [intOf]; omega
    · have hjn : j = M.L.length := by omega
      have HO := Lib.hid ho
      have HB := Lib.hid hb
      have HJ := Lib.hid hjn
      clear ho hb hW hjn
      go_wp2
      go_ret
      have hjn := HJ.out
      refine ⟨sa, sc, by rw [← hjn]; rfl, ?_, HB.out⟩
      have := HO.out
      rw [List.take_of_length_le (by rw [List.length_map]; omega)] at this
      rw [← hjn]
      exact this

set_option maxHeartbeats 4000000 in
set_option maxRecDepth 100000 in
theorem rNew_bad (w : World) (room : Int) (h : room < 0 ∨ 8388608 < room) :
    Calls Try.prog 12 #[.int .i64 room] w fun e w' => e = .returned (.tuple #[.pointer none, .int .i64 1]) ∧ w' = w := by
  by_cases h1 : room < 0
  · clear h
    go_enter Try.func12, Try.ntmps12
    go_wp2
    go_ret2
    exact ⟨rfl, rfl⟩
  · have h2 : 8388608 < room := by omega
    clear h
    go_enter Try.func12, Try.ntmps12
    go_wp2
    go_ret2
    exact ⟨rfl, rfl⟩
set_option maxHeartbeats 4000000 in
set_option maxRecDepth 100000 in
theorem rNew_ok (w : World) (room : Int) (h1 : ¬ room < 0) (h2 : ¬ 8388608 < room) :
    Calls Try.prog 12 #[.int .i64 room] w fun e w' => e = .returned (.tuple #[.pointer (some ⟨w.heap.size, 0, none⟩), .int .i64 0]) ∧ w' = w.alloc (.cells #[.int .i64 room, .slice none 0 0, .int .i64 0, .int .i64 (-1)] 65) := by
  go_enter Try.func12, Try.ntmps12
  go_wp2
  go_ret2
  exact ⟨rfl, rfl⟩
theorem rNewAt (w : World) (room : Nat) : DkAt (w.alloc (.cells #[.int .i64 room, .slice none 0 0, .int .i64 0, .int .i64 (-1)] 65)) w.heap.size w.heap.size (.slice none 0 0) [] ⟨room, [], 0, -1⟩ :=
  ⟨Nat.le_refl _, rfl, heap_alloc_new w _, ⟨rfl, .inl ⟨rfl, rfl⟩⟩, fun _ h => by cases h⟩

end Go.Proofs.Ytbolminblofhgaa
