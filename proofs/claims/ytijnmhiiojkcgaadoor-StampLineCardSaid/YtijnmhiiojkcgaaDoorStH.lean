/-
  Stamps written: Text, and the reference's.
-/
import Derived.Test.YtijnmhiiojkcgaaDoorStG
import Derived.Deep.RegionHeld3
set_option linter.unusedVariables false
namespace Go.Proofs.YtijnmhiiojkcgaaDoor
open Go.RowKit

def InI (n : Int) : Prop := -9223372036854775808 ≤ n ∧ n ≤ 9223372036854775807
/-- A stamp's numbers are ints. -/
def SmI (a : Sm) : Prop := InI a.w ∧ InI a.l ∧ InI a.n
def textL (a : Sm) : List UInt8 := Lib.itoa a.w ++ 46 :: (Lib.itoa a.l ++ 64 :: Lib.itoa a.n)

theorem keepT {w V W : World} {aw al an : Int} (h : Below w.heap.size w V ∧ V.cell? ⟨w.heap.size, 0, none⟩ = some (.int .i64 aw) ∧ V.cell? ⟨w.heap.size, 1, none⟩ = some (.int .i64 al) ∧ V.cell? ⟨w.heap.size, 2, none⟩ = some (.int .i64 an)) (hb : Below V.heap.size V W) :
    Below w.heap.size w W ∧ W.cell? ⟨w.heap.size, 0, none⟩ = some (.int .i64 aw) ∧ W.cell? ⟨w.heap.size, 1, none⟩ = some (.int .i64 al) ∧ W.cell? ⟨w.heap.size, 2, none⟩ = some (.int .i64 an) :=
  ⟨h.1.trans (hb.mono h.1.size), (hb.cell (World.block_lt_of_cell? _ _ h.2.1)).trans h.2.1, (hb.cell (World.block_lt_of_cell? _ _ h.2.2.1)).trans h.2.2.1, (hb.cell (World.block_lt_of_cell? _ _ h.2.2.2)).trans h.2.2.2⟩

set_option maxHeartbeats 4000000 in
set_option maxRecDepth 100000 in
theorem text_any (a : Sm) (ha : SmI a) (w : World) (ht : Tab w) :
    Calls Tryd.prog 21 #[.agg #[.int .i64 a.w, .int .i64 a.l, .int .i64 a.n]] w (TelPost (.string ⟨(textL a).toArray⟩) w) := by
  obtain ⟨aw, al, an⟩ := a
  obtain ⟨⟨a0, a1⟩, ⟨b0, b1⟩, c0, c1⟩ := ha
  simp only at a0 a1 b0 b1 c0 c1
  simp only
  have hb0 := (Below.refl w.heap.size w).alloc (Nat.le_refl _) (.cells #[.int .i64 aw, .int .i64 al, .int .i64 an] 23)
  have hbx := heap_alloc_new w (.cells #[.int .i64 aw, .int .i64 al, .int .i64 an] 23)
  have z1 := Lib.itoa_length_le aw a0 a1
  have z2 := Lib.itoa_length_le al b0 b1
  have z3 := Lib.itoa_length_le an c0 c1
  have q1 := fun (V : World) (hV : Below w.heap.size w V) => itoa_any aw a0 a1 V (ht.later hV)
  have q2 := fun (V : World) (hV : Below w.heap.size w V) => itoa_any al b0 b1 V (ht.later hV)
  have q3 := fun (V : World) (hV : Below w.heap.size w V) => itoa_any an c0 c1 V (ht.later hV)
  obtain ⟨s1, hs1⟩ : ∃ s1, s1 = (⟨(Lib.itoa aw).toArray⟩ : ByteArray) := ⟨_, rfl⟩
  obtain ⟨s2, hs2⟩ : ∃ s2, s2 = (⟨(Lib.itoa al).toArray⟩ : ByteArray) := ⟨_, rfl⟩
  obtain ⟨s3, hs3⟩ : ∃ s3, s3 = (⟨(Lib.itoa an).toArray⟩ : ByteArray) := ⟨_, rfl⟩
  rw [← hs1] at q1
  rw [← hs2] at q2
  rw [← hs3] at q3
  have y1 : s1.size ≤ 21 := by rw [hs1]; simpa [ByteArray.size] using z1
  have y2 : s2.size ≤ 21 := by rw [hs2]; simpa [ByteArray.size] using z2
  have y3 : s3.size ≤ 21 := by rw [hs3]; simpa [ByteArray.size] using z3
  have k1 : ¬ 9223372036854775807 < s1.size + 1 := by omega
  have k2 : ¬ 9223372036854775807 < s1.size + 1 + s2.size := by omega
  have k3 : ¬ 9223372036854775807 < s1.size + 1 + s2.size + 1 := by omega
  have k4 : ¬ 9223372036854775807 < s1.size + 1 + s2.size + 1 + s3.size := by omega
  have HE : Hid ((⟨(textL ⟨aw, al, an⟩).toArray⟩ : ByteArray) = (((s1 ++ ⟨#[46]⟩) ++ s2) ++ ⟨#[64]⟩) ++ s3) := by
    show _ = _
    rw [hs1, hs2, hs3]
    unfold textL
    apply ByteArray.ext
    simp [ByteArray.data_append]
  clear hs1 hs2 hs3 z1 z2 z3
  have Q1 := Lib.hid q1
  have Q2 := Lib.hid q2
  have Q3 := Lib.hid q3
  clear q1 q2 q3 ht
  go_enter Tryd.func21, Tryd.ntmps21
  go_wp2_with fail
  obtain ⟨x0, x1, x2, _⟩ := box_cells hbx
  have e1 := World.size_alloc w (.cells #[.int .i64 aw, .int .i64 al, .int .i64 an] 23)
  obtain ⟨W0, hW0⟩ : ∃ W0, W0 = w.alloc (.cells #[.int .i64 aw, .int .i64 al, .int .i64 an] 23) := ⟨_, rfl⟩
  rw [← hW0] at hb0 hbx x0 x1 x2 ⊢
  clear hW0 hbx e1
  go_region_held3 (fun w' => Below w.heap.size w w' ∧ w'.cell? ⟨w.heap.size, 0, none⟩ = some (.int .i64 aw) ∧ w'.cell? ⟨w.heap.size, 1, none⟩ = some (.int .i64 al) ∧ w'.cell? ⟨w.heap.size, 2, none⟩ = some (.int .i64 an))
    (first | exact ⟨hb0.drew, x0, x1, x2⟩ | exact hs3 | exact hs2 | exact hs1 | exact keepT (by assumption) (Below.refl _ _).drew | go_keep)
    (first
      | (go_at_call 35; (with_reducible refine (Q1.out _ (And.left (by assumption))).mono ?_); rintro e W1 ⟨rfl, hb1⟩; have hs1 := keepT (aw := aw) (al := al) (an := an) (by assumption) hb1)
      | (go_at_call 35; (with_reducible refine (Q2.out _ (And.left (by assumption))).mono ?_); rintro e W2 ⟨rfl, hb2⟩; have hs2 := keepT (aw := aw) (al := al) (an := an) (by assumption) hb2)
      | (go_at_call 35; (with_reducible refine (Q3.out _ (And.left (by assumption))).mono ?_); rintro e W3 ⟨rfl, hb3⟩; have hs3 := keepT (aw := aw) (al := al) (an := an) (by assumption) hb3))
  go_wp2
  go_ret
  exact ⟨by rw [HE.out]; rfl, hs3.1⟩

set_option maxHeartbeats 4000000 in
set_option maxRecDepth 100000 in
theorem rText_any (a : Sm) (ha : SmI a) (w : World) :
    Calls Tryd.prog 22 #[.agg #[.int .i64 a.w, .int .i64 a.l, .int .i64 a.n]] w (TelPost (.string ⟨(textL a).toArray⟩) w) := by
  obtain ⟨aw, al, an⟩ := a
  obtain ⟨⟨a0, a1⟩, ⟨b0, b1⟩, c0, c1⟩ := ha
  simp only at a0 a1 b0 b1 c0 c1
  simp only
  have hb0 := (Below.refl w.heap.size w).alloc (Nat.le_refl _) (.cells #[.int .i64 aw, .int .i64 al, .int .i64 an] 23)
  have hbx := heap_alloc_new w (.cells #[.int .i64 aw, .int .i64 al, .int .i64 an] 23)
  have z1 := Lib.itoa_length_le aw a0 a1
  have z2 := Lib.itoa_length_le al b0 b1
  have z3 := Lib.itoa_length_le an c0 c1
  have q1 := fun (V : World) (hV : Below w.heap.size w V) => decimal_any aw a0 a1 V
  have q2 := fun (V : World) (hV : Below w.heap.size w V) => decimal_any al b0 b1 V
  have q3 := fun (V : World) (hV : Below w.heap.size w V) => decimal_any an c0 c1 V
  obtain ⟨s1, hs1⟩ : ∃ s1, s1 = (⟨(Lib.itoa aw).toArray⟩ : ByteArray) := ⟨_, rfl⟩
  obtain ⟨s2, hs2⟩ : ∃ s2, s2 = (⟨(Lib.itoa al).toArray⟩ : ByteArray) := ⟨_, rfl⟩
  obtain ⟨s3, hs3⟩ : ∃ s3, s3 = (⟨(Lib.itoa an).toArray⟩ : ByteArray) := ⟨_, rfl⟩
  rw [← hs1] at q1
  rw [← hs2] at q2
  rw [← hs3] at q3
  have y1 : s1.size ≤ 21 := by rw [hs1]; simpa [ByteArray.size] using z1
  have y2 : s2.size ≤ 21 := by rw [hs2]; simpa [ByteArray.size] using z2
  have y3 : s3.size ≤ 21 := by rw [hs3]; simpa [ByteArray.size] using z3
  have k1 : ¬ 9223372036854775807 < s1.size + 1 := by omega
  have k2 : ¬ 9223372036854775807 < s1.size + 1 + s2.size := by omega
  have k3 : ¬ 9223372036854775807 < s1.size + 1 + s2.size + 1 := by omega
  have k4 : ¬ 9223372036854775807 < s1.size + 1 + s2.size + 1 + s3.size := by omega
  have HE : Hid ((⟨(textL ⟨aw, al, an⟩).toArray⟩ : ByteArray) = (((s1 ++ ⟨#[46]⟩) ++ s2) ++ ⟨#[64]⟩) ++ s3) := by
    show _ = _
    rw [hs1, hs2, hs3]
    unfold textL
    apply ByteArray.ext
    simp [ByteArray.data_append]
  clear hs1 hs2 hs3 z1 z2 z3
  have Q1 := Lib.hid q1
  have Q2 := Lib.hid q2
  have Q3 := Lib.hid q3
  clear q1 q2 q3
  go_enter Tryd.func22, Tryd.ntmps22
  go_wp2_with fail
  obtain ⟨x0, x1, x2, _⟩ := box_cells hbx
  have e1 := World.size_alloc w (.cells #[.int .i64 aw, .int .i64 al, .int .i64 an] 23)
  obtain ⟨W0, hW0⟩ : ∃ W0, W0 = w.alloc (.cells #[.int .i64 aw, .int .i64 al, .int .i64 an] 23) := ⟨_, rfl⟩
  rw [← hW0] at hb0 hbx x0 x1 x2 ⊢
  clear hW0 hbx e1
  go_region_held3 (fun w' => Below w.heap.size w w' ∧ w'.cell? ⟨w.heap.size, 0, none⟩ = some (.int .i64 aw) ∧ w'.cell? ⟨w.heap.size, 1, none⟩ = some (.int .i64 al) ∧ w'.cell? ⟨w.heap.size, 2, none⟩ = some (.int .i64 an))
    (first | exact ⟨hb0.drew, x0, x1, x2⟩ | exact hs3 | exact hs2 | exact hs1 | exact keepT (by assumption) (Below.refl _ _).drew | go_keep)
    (first
      | (go_at_call 36; (with_reducible refine (Q1.out _ (And.left (by assumption))).mono ?_); rintro e W1 ⟨rfl, hb1⟩; have hs1 := keepT (aw := aw) (al := al) (an := an) (by assumption) hb1)
      | (go_at_call 36; (with_reducible refine (Q2.out _ (And.left (by assumption))).mono ?_); rintro e W2 ⟨rfl, hb2⟩; have hs2 := keepT (aw := aw) (al := al) (an := an) (by assumption) hb2)
      | (go_at_call 36; (with_reducible refine (Q3.out _ (And.left (by assumption))).mono ?_); rintro e W3 ⟨rfl, hb3⟩; have hs3 := keepT (aw := aw) (al := al) (an := an) (by assumption) hb3))
  go_wp2
  go_ret
  exact ⟨by rw [HE.out]; rfl, hs3.1⟩

end Go.Proofs.YtijnmhiiojkcgaaDoor
