/-
  SameEvents; what the document fixes (awake).
-/
import Derived.Test.YtggognmbjgkdfaaMkB
set_option linter.unusedVariables false
namespace Go.Proofs.Ytggognmbjgkdfaa
open Go.RowKit

theorem add0 (g : Nat) (i : Nat) : (⟨g, 0, none⟩ : Addr).add i = ⟨g, i, none⟩ := by
  unfold Addr.add
  by_cases h : i = 0
  · subst h; rfl
  · simp [h]
theorem evs_of_own {w : World} {B n c : Nat} {a : Option Addr} {l : List Ev} (h : w.ownsRow B 42 7 (.slice a n c) n (rowOf evCells l)) (hl : n = l.length) : EvsIn w a l := by
  intro i hi
  obtain ⟨g, cap, hv, _, hc⟩ := own_cells h evCells_len hl.symm (by intro e; rw [e] at hi; simp at hi)
  injection hv with e1 _ _
  refine ⟨⟨g, 0, none⟩, e1, ?_⟩
  have f := fun j hj => hc i hi j hj
  refine ⟨?_, ?_, ?_, ?_, ?_, ?_, ?_⟩ <;> rw [add0]
  · exact f 0 (by omega)
  · exact f 1 (by omega)
  · exact f 2 (by omega)
  · exact f 3 (by omega)
  · exact f 4 (by omega)
  · exact f 5 (by omega)
  · exact f 6 (by omega)

set_option maxRecDepth 100000 in
theorem ev_eq (s d : ByteArray) (v x y z i : Int) (W : World) :
    (Op.equalIn 10000 42 (.agg #[.string s, .int .i64 v, .string d, .int .i64 x, .int .i64 y, .int .i64 z, .int .i64 i]) (.agg #[.string s, .int .i64 v, .string d, .int .i64 x, .int .i64 y, .int .i64 z, .int .i64 i])).run Try.prog W = .ok true W := by
  simp [go_sem]

set_option maxHeartbeats 4000000 in
set_option maxRecDepth 100000 in
theorem sameEvs (a b : Option Addr) (n ca cb : Nat) (l : List Ev) (w : World) (hn : n = l.length) (hm : n ≤ 1000000) (ha : EvsIn w a l) (hb : EvsIn w b l) :
    Calls Try.prog 31 #[.slice a n ca, .slice b n cb] w (TelPost (.bool true) w) := by
  have HN := Lib.hid hn
  have HA := Lib.hid ha
  have HB := Lib.hid hb
  clear hn ha hb
  go_enter Try.func31, Try.ntmps31
  go_wp2
  go_loopw [5] (fun i wr => ∃ j : Nat, i = .int .i64 j ∧ j ≤ n ∧ ∃ q, wr = w.drewN q) (fun i _ => n - (intOf i).toNat)
  case atStart => exact ⟨0, rfl, Nat.zero_le _, 0, rfl⟩
  case round =>
    obtain ⟨j, rfl, hj, q, rfl⟩ := hrel
    by_cases hlt : j < n
    · have hlt2 : j < l.length := by have := HN.out; omega
      obtain ⟨x, rfl, hx⟩ := HA.out j hlt2
      obtain ⟨y, rfl, hy⟩ := HB.out j hlt2
      obtain ⟨e, he⟩ : ∃ e, e = l[j]'hlt2 := ⟨_, rfl⟩
      rw [← he] at hx hy
      have x0 : (w.drewN q).cell? _ = _ := hx.c0
      have x1 : (w.drewN q).cell? _ = _ := hx.c1
      have x2 : (w.drewN q).cell? _ = _ := hx.c2
      have x3 : (w.drewN q).cell? _ = _ := hx.c3
      have x4 : (w.drewN q).cell? _ = _ := hx.c4
      have x5 : (w.drewN q).cell? _ = _ := hx.c5
      have x6 : (w.drewN q).cell? _ = _ := hx.c6
      have y0 : (w.drewN q).cell? _ = _ := hy.c0
      have y1 : (w.drewN q).cell? _ = _ := hy.c1
      have y2 : (w.drewN q).cell? _ = _ := hy.c2
      have y3 : (w.drewN q).cell? _ = _ := hy.c3
      have y4 : (w.drewN q).cell? _ = _ := hy.c4
      have y5 : (w.drewN q).cell? _ = _ := hy.c5
      have y6 : (w.drewN q).cell? _ = _ := hy.c6
      rw [fld x (j * 7) 1 (by decide)] at x1
      rw [fld x (j * 7) 2 (by decide)] at x2
      rw [fld x (j * 7) 3 (by decide)] at x3
      rw [fld x (j * 7) 4 (by decide)] at x4
      rw [fld x (j * 7) 5 (by decide)] at x5
      rw [fld x (j * 7) 6 (by decide)] at x6
      rw [fld y (j * 7) 1 (by decide)] at y1
      rw [fld y (j * 7) 2 (by decide)] at y2
      rw [fld y (j * 7) 3 (by decide)] at y3
      rw [fld y (j * 7) 4 (by decide)] at y4
      rw [fld y (j * 7) 5 (by decide)] at y5
      rw [fld y (j * 7) 6 (by decide)] at y6
      have hq := fun W => ev_eq e.s e.d e.v e.t.w e.t.l e.t.n e.i W
      have hji0 : (0 : Int) ≤ (j : Int) := by omega
      have hji1 : (j : Int) < (n : Int) := by omega
      clear he hx hy
      obtain ⟨W, hW⟩ : ∃ W, W = w.drewN q := ⟨_, rfl⟩
      rw [← hW] at x0 x1 x2 x3 x4 x5 x6 y0 y1 y2 y3 y4 y5 y6 ⊢
      have HW := Lib.hid hW
      clear hW
      go_wp2_with fail
      go_quiet (fail)
      go_wp2
      go_roundw
      case rel => exact ⟨j + 1, by go_num, by omega, _, by rw [HW.out]; first | rfl | (rw [World.drewN_drewN])⟩
      case measure => simp [intOf]; omega
    · go_wp2
      go_ret
      exact ⟨rfl, below_drewN (Below.refl _ w) _⟩

/-- The one batch that awake makes, and its events. -/
def awB : Ba := ⟨⟨#[107]⟩, [⟨⟨#[97]⟩, -1, [⟨#[120]⟩, ⟨#[121]⟩]⟩]⟩
theorem awMake : makeL awB.p [3] ⟨5, 0, 1⟩ 0 = [⟨⟨#[97]⟩, 3, ⟨#[120]⟩, ⟨5, 0, 1⟩, 0⟩, ⟨⟨#[97]⟩, 4, ⟨#[121]⟩, ⟨5, 0, 1⟩, 1⟩] := rfl

theorem make_aw (V : World) (ga gp gf : Nat) (h1 : V.heap[ga]? = some (.cells #[.string ⟨#[120]⟩, .string ⟨#[121]⟩] 9 (0, 0))) (h2 : V.heap[gp]? = some (.cells #[.string ⟨#[97]⟩, .int .i64 (-1), .slice (some ⟨ga, 0, none⟩) 2 2] 71 (0, 0))) (h3 : V.heap[gf]? = some (.cells #[.int .i64 3] 3 (0, 0))) :
    Calls Try.prog 32 #[.agg #[.string ⟨#[107]⟩, .slice (some ⟨gp, 0, none⟩) 1 1], .slice (some ⟨gf, 0, none⟩) 1 1, .agg #[.int .i64 5, .int .i64 0, .int .i64 1], .int .i64 0] V (EvsPost V.heap.size [⟨⟨#[97]⟩, 3, ⟨#[120]⟩, ⟨5, 0, 1⟩, 0⟩, ⟨⟨#[97]⟩, 4, ⟨#[121]⟩, ⟨5, 0, 1⟩, 1⟩] V) := by
  have := make_any awB (some ⟨gp, 0, none⟩) 1 1 [3] (some ⟨gf, 0, none⟩) 1 1 ⟨5, 0, 1⟩ 0 V (by decide) rfl (by
    intro i hi
    obtain rfl : i = 0 := by simpa [awB] using hi
    obtain ⟨x0, x1, x2, _⟩ := box_cells h2
    refine ⟨_, some ⟨ga, 0, none⟩, 2, rfl, x0, x1, x2, (show 2 ≤ 2 from Nat.le_refl _), fun j hj => ?_⟩
    obtain ⟨y0, y1, _⟩ := box2_cells h1
    rcases j with _ | _ | j
    · exact ⟨_, rfl, y0⟩
    · exact ⟨_, rfl, y1⟩
    · exfalso
      have : j + 1 + 1 < 2 := hj
      omega) rfl (by omega) (by
    intro i hi
    obtain rfl : i = 0 := by simpa using hi
    exact ⟨_, rfl, by rw [add0, cell_of_row _ _ _ _ _ _ h3]; rfl⟩) (fun f hf => by simp at hf; subst hf; omega) (by omega) (by omega)
  exact this

set_option maxHeartbeats 4000000 in
set_option maxRecDepth 100000 in
theorem awake_any (w : World) : Calls Try.prog 11 #[] w (TelPost (.bool true) w) := by
  have h1 := heap_alloc_new w (.cells #[.string ⟨#[120]⟩, .string ⟨#[121]⟩] 9)
  have h2 := heap_alloc_new (w.alloc (.cells #[.string ⟨#[120]⟩, .string ⟨#[121]⟩] 9)) (.cells #[.string ⟨#[97]⟩, .int .i64 (-1), .slice (some ⟨w.heap.size, 0, none⟩) 2 2] 71)
  have h3 := heap_alloc_new ((w.alloc (.cells #[.string ⟨#[120]⟩, .string ⟨#[121]⟩] 9)).alloc (.cells #[.string ⟨#[97]⟩, .int .i64 (-1), .slice (some ⟨w.heap.size, 0, none⟩) 2 2] 71)) (.cells #[.int .i64 3] 3)
  rw [World.size_alloc] at h2 h3
  rw [World.size_alloc] at h3
  have cM := make_aw _ _ _ _ (box_alloc (box_alloc h1 _) _) (box_alloc h2 _) h3
  have BB := (((Below.refl w.heap.size w).alloc (Nat.le_refl _) (.cells #[.string ⟨#[120]⟩, .string ⟨#[121]⟩] 9)).alloc (by simp) (.cells #[.string ⟨#[97]⟩, .int .i64 (-1), .slice (some ⟨w.heap.size, 0, none⟩) 2 2] 71)).alloc (by simp; omega) (.cells #[.int .i64 3] 3)
  have HBB := Lib.hid BB
  clear h1 h2 h3 BB
  go_enter Try.func11, Try.ntmps11
  go_wp2_with (go_at_call 32; (with_reducible refine cM.mono ?_))
  rintro e W ⟨a, m, c, rfl, hm, ho, hb⟩
  obtain rfl : m = 2 := hm
  have hev := evs_of_own ho rfl
  obtain ⟨x, rfl, x0⟩ := hev 0 (by decide)
  obtain ⟨y, hy, x1⟩ := hev 1 (by decide)
  injection hy with hy
  subst hy
  have p0 := x0.c1
  have p1 := x1.c1
  have p2 := x1.c6
  have p3 := x1.c2
  obtain ⟨g, cap, hv, _⟩ := own_cells ho evCells_len rfl (by simp)
  injection hv with hv _ _
  injection hv with hv
  subst hv
  rw [add0] at p0 p1 p2 p3
  simp only [Nat.zero_mul, Nat.zero_add, Nat.one_mul] at p0 p1 p2 p3
  have HB := Lib.hid (HBB.out.trans (hb.mono (by simp; omega)))
  clear hev x0 x1 ho hb cM
  go_wp2
  go_ret
  exact ⟨rfl, HB.out⟩

end Go.Proofs.Ytggognmbjgkdfaa
