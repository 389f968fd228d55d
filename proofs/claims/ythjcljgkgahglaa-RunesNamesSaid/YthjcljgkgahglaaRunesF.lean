/-
  What runes.Fold answers.
-/
import Derived.Test.YthjcljgkgahglaaForms
import Derived.Test.YthjcljgkgahglaaPureF
import Derived.Laws.IdiomStrings
import Derived.Laws.OwnMore
set_option linter.unusedVariables false
namespace Go.Proofs.Ythjcljgkgahglaa
open Go.RowKit

/-- A block whose first cells are the bytes l, none of them frozen. -/
def BytesAt (w : World) (g : Nat) (l : List UInt8) : Prop :=
  ∃ cur lo hi, w.heap[g]? = some (.cells cur 5 (lo, hi)) ∧ l.length ≤ lo ∧ cur.toList.take l.length = l.map fun b => .int .u8 b.toNat

theorem BytesAt.cell {w : World} {g : Nat} {l : List UInt8} (h : BytesAt w g l) (j : Nat) (hj : j < l.length) : w.cell? ⟨g, j, none⟩ = some (.int .u8 (l[j]'hj).toNat) := by
  obtain ⟨cur, lo, hi, hg, hlo, htake⟩ := h
  rw [cell_of_row w g j cur _ _ hg]
  have e : (cur.toList.take l.length)[j]? = (l.map fun b => Value.int .u8 b.toNat)[j]? := by rw [htake]
  rw [List.getElem?_take, if_pos hj] at e
  simp [hj] at e
  simpa using e

theorem BytesAt.free {w : World} {g : Nat} {l : List UInt8} (h : BytesAt w g l) (j : Nat) (hj : j < l.length) : w.frozen? ⟨g, j, none⟩ = false := by
  obtain ⟨cur, lo, hi, hg, hlo, htake⟩ := h
  simp only [World.frozen?, hg]
  simp
  omega

theorem BytesAt.store {w : World} {g : Nat} {l : List UInt8} (h : BytesAt w g l) (j : Nat) (b : UInt8) : BytesAt (w.setCell ⟨g, j, none⟩ (.int .u8 b.toNat)) g (l.set j b) := by
  obtain ⟨cur, lo, hi, hg, hlo, htake⟩ := h
  refine ⟨cur.setIfInBounds j (.int .u8 b.toNat), lo, hi, ?_, by simpa using hlo, ?_⟩
  · simp [World.setCell, Array.getElem?_modify, hg]
  · rw [List.length_set, Array.toList_setIfInBounds, List.map_set, ← htake]
    apply List.ext_getElem?
    intro i
    simp only [List.getElem?_take, List.getElem?_set, List.length_take]
    by_cases h1 : i < l.length
    · by_cases h2 : j = i
      · subst h2; simp [h1]
        by_cases h3 : j < cur.size
        · rw [if_pos h3, if_pos (by omega)]
        · rw [if_neg h3, if_neg (by omega)]
      · simp [h1, h2]
    · by_cases h2 : j = i
      · subst h2; simp [h1]; omega
      · simp [h1, h2]

theorem BytesAt.other {w w' : World} {g : Nat} {l : List UInt8} (h : BytesAt w g l) (he : w'.heap[g]? = w.heap[g]?) : BytesAt w' g l := by
  obtain ⟨cur, lo, hi, hg, r⟩ := h
  exact ⟨cur, lo, hi, by rw [he]; exact hg, r⟩

theorem bytesAt_made (w : World) (s : ByteArray) (cap : Nat) (n : Nat) :
    BytesAt (w.alloc (.cells (bytesRow s cap) 5 ((bytesRow s cap).size, n))) w.heap.size s.data.toList := by
  refine ⟨bytesRow s cap, (bytesRow s cap).size, n, ?_, ?_, ?_⟩
  · show (w.heap.push _)[w.heap.size]? = _
    simp
  · simp [bytesRow]
  · simp [bytesRow]

theorem BytesAt.toString {w : World} {g : Nat} {l : List UInt8} (h : BytesAt w g l) (cap : Nat) : (convert 42 9 (.slice (some ⟨g, 0, none⟩) l.length cap)).run Try.prog w = .ok (.string ⟨l.toArray⟩) w :=
  run_convert_bytes_back (P := Try.prog) w 42 9 5 ⟨g, 0, none⟩ cap l Try.underlying42 Try.underlying5 Try.underlying9 (by
    intro i hi
    have hadd : (⟨g, 0, none⟩ : Addr).add i = ⟨g, i, none⟩ := by unfold Addr.add; split <;> simp_all
    rw [hadd, h.cell i hi])

set_option maxHeartbeats 4000000 in
set_option maxRecDepth 1000000 in
theorem Fold_any (s : ByteArray) (w : World) (hs : s.size ≤ maxLen) :
    Calls Try.prog 22 #[.string s] w fun e w' => e = .returned (.string ⟨(s.data.toList.map foldB).toArray⟩) ∧ Below w.heap.size w w' := by
  have hs0 := hs
  unfold maxLen at hs
  have hconv := run_bytes_of_string (P := Try.prog) w 9 42 5 s Try.underlying9 Try.underlying42 Try.underlying5
  have hmade := bytesAt_made w.drew s (grownCap w s.size 0 5) ((bytesRow s (grownCap w s.size 0 5)).size + 1)
  obtain ⟨cap, hcap⟩ : ∃ c, c = grownCap w s.size 0 5 := ⟨_, rfl⟩
  rw [← hcap] at hconv hmade
  obtain ⟨W1, hW1⟩ : ∃ W1, W1 = w.drew.alloc (.cells (bytesRow s cap) 5 ((bytesRow s cap).size, (bytesRow s cap).size + 1)) := ⟨_, rfl⟩
  rw [← hW1] at hconv hmade
  have hmade : BytesAt W1 w.heap.size s.data.toList := hmade
  have hz : W1.heap.size = w.heap.size + 1 := by rw [hW1]; simp
  have hb1 : Below w.heap.size w W1 := by rw [hW1]; exact ((Below.refl _ w).drew).alloc (by simp) _
  clear hcap hW1
  have HZ : Hid (W1.heap.size = w.heap.size + 1) := hz
  clear hz
  go_enter Try.func22, Try.ntmps22
  go_wp2
  go_loopw [] (fun wr => ∃ (pos : Nat), wr.heap[W1.heap.size]? = some (.stringIter s pos) ∧ BytesAt wr w.heap.size (mixed s.data.toList pos) ∧ Below w.heap.size w wr) (fun wr => s.size - wr.iterPos W1.heap.size)
  case atStart =>
    refine ⟨0, World.iter_heap W1 s 0, ?_, hb1.alloc (by have := HZ.out; omega) _⟩
    rw [mixed_zero]
    exact hmade.other (Lib.alloc_old W1 _ _ (by have := HZ.out; omega))
  case round =>
    obtain ⟨pos, hit, hby, hbw⟩ := hrel
    have hKz : W1.heap.size < wr.heap.size := (Array.getElem?_eq_some_iff.1 hit).1
    by_cases hp : pos < s.size
    · have hpl : pos < s.data.toList.length := by rw [← size_len]; exact hp
      have hnx : ∀ ty, (Instr.next (.pointer (some ⟨W1.heap.size, 0, none⟩)) true ty).run Try.prog wr = _ := fun ty => Lib.run_next_any_at wr W1.heap.size s pos ty hit hp
      have hwd := (dec_width (s.data.toList.drop pos) (by intro h0; have := congrArg List.length h0; simp at this; omega)).1
      have hr4 := dec_rune (s.data.toList.drop pos)
      have hskip := mixed_skip s.data.toList pos hpl
      have hset := mixed_set s.data.toList pos hpl
      rw [← dec_at] at hwd hr4 hskip hset
      obtain ⟨r, wd, hdec⟩ : ∃ r wd, Utf8.decode s pos = (r, wd) := ⟨_, _, rfl⟩
      rw [hdec] at hnx hwd hr4 hskip hset
      simp only at hnx hwd hr4 hskip hset
      clear hdec
      have hit2 := Lib.iterAt_heap wr W1.heap.size s pos (pos + wd) hit
      have hbw2 := Lib.below_iterAt hbw (k := W1.heap.size) (by have := HZ.out; omega) s (pos + wd)
      have hby2 : BytesAt (wr.iterAt W1.heap.size s (pos + wd)) w.heap.size (mixed s.data.toList pos) := hby.other (Lib.iterAt_other _ _ _ _ _ (by have := HZ.out; omega))
      by_cases hbig : 65 ≤ r ∧ r ≤ 90
      · obtain ⟨hw1, hv, hm⟩ := hset hbig
        subst hw1
        have hj : pos < (mixed s.data.toList pos).length := by rw [mixed_len]; exact hpl
        have hcell := hby2.cell pos hj
        have hfree := hby2.free pos hj
        obtain ⟨old, hold⟩ : ∃ v : Value, v = .int .u8 (((mixed s.data.toList pos)[pos]'hj).toNat : Nat) := ⟨_, rfl⟩
        rw [← hold] at hcell
        have hstore := hby2.store pos (s.data.toList[pos]'hpl + 32)
        rw [← hm] at hstore
        have hval : (((s.data.toList[pos]'hpl + 32).toNat : Nat) : Int) = (r : Int) - 65 + 97 := by
          rw [UInt8.toNat_add]
          have : (32 : UInt8).toNat = 32 := rfl
          omega
        rw [hval] at hstore
        have l65 : (65 : Int) ≤ r := by omega
        have l90 : (r : Int) ≤ 90 := by omega
        clear hskip hset hv hm hval hold
        go_wp2
        go_roundw
        case rel =>
          refine ⟨pos + 1, ?_, hstore, hbw2.setCell (p := ⟨w.heap.size, pos, none⟩) (Nat.le_refl _) _⟩
          rw [Below.heap_setCell _ _ _ _ (by have := HZ.out; show _ ≠ w.heap.size; omega)]
          exact hit2
        case measure =>
          have e : ((wr.iterAt W1.heap.size s (pos + 1)).setCell ⟨w.heap.size, pos, none⟩ (.int .u8 ((r : Int) - 65 + 97))).heap[W1.heap.size]? = some (.stringIter s (pos + 1)) := by
            rw [Below.heap_setCell _ _ _ _ (by have := HZ.out; show _ ≠ w.heap.size; omega)]
            exact hit2
          simp only [World.iterPos, e, hit]
          omega
      · have hm := hskip hbig
        rw [← hm] at hby2
        clear hskip hset hm
        by_cases h65 : (65 : Int) ≤ r
        · have h90 : ¬ (r : Int) ≤ 90 := by omega
          go_wp2
          go_roundw
          case rel => exact ⟨pos + wd, hit2, hby2, hbw2⟩
          case measure =>
            simp only [World.iterPos, hit2, hit]
            omega
        · go_wp2
          go_roundw
          case rel => exact ⟨pos + wd, hit2, hby2, hbw2⟩
          case measure =>
            simp only [World.iterPos, hit2, hit]
            omega
    · have hnx : ∀ ty, (Instr.next (.pointer (some ⟨W1.heap.size, 0, none⟩)) true ty).run Try.prog wr = _ := fun ty => Lib.run_next_end_at wr W1.heap.size s pos ty hit hp
      rw [mixed_end _ _ (by rw [← size_len]; exact hp)] at hby
      have hback := hby.toString cap
      rw [List.length_map, ← size_len] at hback
      go_wp2
      go_ret
      exact ⟨rfl, hbw⟩

end Go.Proofs.Ythjcljgkgahglaa
