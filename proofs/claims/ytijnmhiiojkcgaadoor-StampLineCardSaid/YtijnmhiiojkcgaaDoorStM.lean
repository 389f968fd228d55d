/-
  What the document fixes of stamps' texts; StampTexts.
-/
import Derived.Test.YtijnmhiiojkcgaaDoorStJ
import Derived.Test.YtijnmhiiojkcgaaDoorStK
import Derived.Test.YtijnmhiiojkcgaaDoorStL
set_option linter.unusedVariables false
namespace Go.Proofs.YtijnmhiiojkcgaaDoor
open Go.RowKit

/-- A parse, said of its text. -/
theorem parse_as (s : ByteArray) (l : List UInt8) (hl : s.data.toList = l) (hs : s.size ≤ 1000000) (o : Option Sm) (ho : parseL l = o) (w : World) (ht : Tab w) :
    Calls Tryd.prog 19 #[.string s] w (ParPost o w) := by
  subst hl ho
  exact parse_any s hs w ht

theorem text_as (a : Sm) (ha : SmI a) (T : ByteArray) (hT : (⟨(textL a).toArray⟩ : ByteArray) = T) (w : World) (ht : Tab w) :
    Calls Tryd.prog 21 #[.agg #[.int .i64 a.w, .int .i64 a.l, .int .i64 a.n]] w (TelPost (.string T) w) := by
  subst hT
  exact text_any a ha w ht
theorem smi501 : SmI ⟨5, 0, 1⟩ := ⟨⟨by decide, by decide⟩, ⟨by decide, by decide⟩, by decide, by decide⟩

set_option maxHeartbeats 4000000 in
set_option maxRecDepth 100000 in
theorem awake_any (w : World) (ht : Tab w) : Calls Tryd.prog 10 #[] w (TelPost (.bool true) w) := by
  have HT := Lib.hid ht
  have c1 := parse_as ⟨#[53, 46, 48, 64, 49]⟩ _ rfl (by decide) _ parse501 w ht
  go_enter Tryd.func10, Tryd.ntmps10
  go_wp2_with (go_at_call 19; (with_reducible refine c1.mono ?_))
  rintro e W1 ⟨rfl, b1⟩
  have bA := b1.alloc b1.size (.cells #[.int .i64 5, .int .i64 0, .int .i64 1] 23)
  have g1 := heap_alloc_new W1 (.cells #[.int .i64 5, .int .i64 0, .int .i64 1] 23)
  have HB := Lib.hid bA
  have HG := Lib.hid g1
  have c2 := parse_as ⟨#[48, 53, 46, 48, 64, 49]⟩ _ rfl (by decide) _ parse0501 _ (HT.out.later bA)
  have hz1 := b1.size
  clear c1 bA g1 ht
  go_wp2_with (go_at_call 19; (with_reducible refine c2.mono ?_))
  rintro e W2 ⟨rfl, b2⟩
  have bC := b2.alloc b2.size (.cells #[.int .i64 0, .int .i64 0, .int .i64 0] 23)
  have g2 := box_below HG.out bC (lt_of_block HG.out)
  have HB2 := Lib.hid (HB.out.trans (bC.mono HB.out.size))
  obtain ⟨x0, x1, x2, _⟩ := box_cells g2
  have c3 := text_as ⟨5, 0, 1⟩ smi501 ⟨#[53, 46, 48, 64, 49]⟩ (by rw [text501]) _ (HT.out.later HB2.out)
  unfold TelPost at c3
  simp only at c3
  clear b2 bC g2 c2 b1 hz1
  go_wp2_with (go_at_call 21; (with_reducible refine c3.mono ?_))
  rintro e W3 ⟨rfl, b3⟩
  have HB3 := Lib.hid (HB2.out.trans (b3.mono HB2.out.size))
  have z0 := (b3.cell (World.block_lt_of_cell? _ _ x0)).trans x0
  have z1 := (b3.cell (World.block_lt_of_cell? _ _ x1)).trans x1
  have z2 := (b3.cell (World.block_lt_of_cell? _ _ x2)).trans x2
  clear b3 x0 x1 x2 c3
  go_wp2
  go_ret
  exact ⟨rfl, HB3.out⟩

end Go.Proofs.YtijnmhiiojkcgaaDoor
