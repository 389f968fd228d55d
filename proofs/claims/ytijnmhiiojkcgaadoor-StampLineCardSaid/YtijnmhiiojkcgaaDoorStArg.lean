/-
  Arguments opened: a stamp, stamps, an event, a place; the listed tables of the row.
-/
import Derived.Test.YtijnmhiiojkcgaaDoorStN
import Derived.Test.YtijnmhiiojkcgaaDoorRows
import Derived.Deep.Slices
import Derived.Deep.Fields
import Derived.ChangeSlices
import Derived.ChangeSame
import Derived.OpenShut
import Derived.Lib.LaidTab
import Derived.Stop.LaidErr
set_option linter.unusedVariables false
namespace Go.Proofs.YtijnmhiiojkcgaaDoor
open Go.RowKit Go.ChangeShapes Go.WideShapes Go.Deep

theorem cellsStamp : Tryd.prog.cellsOf 23 = 3 := by kernel_rfl
theorem cellsEvent : Tryd.prog.cellsOf 45 = 7 := by kernel_rfl
theorem cellsCursor : Tryd.prog.cellsOf 47 = 5 := by kernel_rfl
theorem cellsInt : Tryd.prog.cellsOf 3 = 1 := by kernel_rfl
theorem cellsU64 : Tryd.prog.cellsOf 59 = 1 := by kernel_rfl
theorem cellsStr : Tryd.prog.cellsOf 9 = 1 := by kernel_rfl

theorem three_of {α : Type} {l : List α} (h : l.length = 3) : ∃ a b c, l = [a, b, c] := by
  match l, h with
  | [a, b, c], _ => exact ⟨a, b, c, rfl⟩
theorem five_of {α : Type} {l : List α} (h : l.length = 5) : ∃ a b c d e, l = [a, b, c, d, e] := by
  match l, h with
  | [a, b, c, d, e], _ => exact ⟨a, b, c, d, e, rfl⟩
theorem seven_of {α : Type} {l : List α} (h : l.length = 7) : ∃ a b c d e f g, l = [a, b, c, d, e, f, g] := by
  match l, h with
  | [a, b, c, d, e, f, g], _ => exact ⟨a, b, c, d, e, f, g, rfl⟩
theorem ini_of {n : Int} (h : (Lit.int .i64 n).wf = true) : InI n := by
  simp [Lit.wf, IntKind.min, IntKind.max, IntKind.signed, IntKind.bits] at h
  exact ⟨by omega, by omega⟩

/-- An event, a place. -/
structure Ev where
  s : ByteArray
  v : Int
  d : ByteArray
  t : Sm
  i : Int
structure Cu where
  t : Sm
  i : Int
  s : ByteArray

section
variable {H : Type} {enc : TypeId × Value → H} {w : World} {base : Nat} {spare : Nat → Bool} {held : Bool}
set_option maxRecDepth 100000 in
theorem sm_of {fuel : Nat} {cs : List Value} {y : DataW H × List MemPlace} (hcl : cs.length = 3) (h : DataW.trod enc Tryd.prog w base spare held fuel 23 cs = some y) :
    ∃ a : Sm, cs = [.int .i64 a.w, .int .i64 a.l, .int .i64 a.n] ∧ SmI a := by
  obtain ⟨ys, n', _, _, _, hyl, hf⟩ := DataW.trod_struct Tryd.underlying23 h
  have hyl3 : ys.length = 3 := hyl
  obtain ⟨v0, v1, v2, rfl⟩ := three_of hcl
  obtain ⟨y0, y1, y2, rfl⟩ := three_of hyl3
  have h0 : DataW.trod enc Tryd.prog w base spare held n' 3 (([v0, v1, v2].drop 0).take (Tryd.prog.cellsOf 3)) = some y0 := hf 0 _ rfl
  have h1 : DataW.trod enc Tryd.prog w base spare held n' 3 (([v0, v1, v2].drop 1).take (Tryd.prog.cellsOf 3)) = some y1 := hf 1 _ rfl
  have h2 : DataW.trod enc Tryd.prog w base spare held n' 3 (([v0, v1, v2].drop 2).take (Tryd.prog.cellsOf 3)) = some y2 := hf 2 _ rfl
  rw [cellsInt] at h0 h1 h2
  obtain ⟨f, e0, _, w0⟩ := DataW.trod_int Tryd.underlying3 (cs := [v0]) (x := y0) h0
  obtain ⟨t, e1, _, w1⟩ := DataW.trod_int Tryd.underlying3 (cs := [v1]) (x := y1) h1
  obtain ⟨g, e2, _, w2⟩ := DataW.trod_int Tryd.underlying3 (cs := [v2]) (x := y2) h2
  injection e0 with e0
  injection e1 with e1
  injection e2 with e2
  subst e0 e1 e2
  exact ⟨⟨f, t, g⟩, rfl, ini_of w0, ini_of w1, ini_of w2⟩

theorem sm_open {r : Reach} {b0 : Nat} {v : Value} {d : DataW H} {p : List MemPlace} (hv : Value.okWide Tryd.prog w r b0 23 v) (h : DataW.Trod enc Tryd.prog w base spare held 23 v d p) :
    ∃ a : Sm, v = .agg #[.int .i64 a.w, .int .i64 a.l, .int .i64 a.n] ∧ SmI a := by
  obtain ⟨⟨l⟩, rfl, hsz⟩ := okWide_struct Tryd.underlying23 hv
  obtain ⟨fuel, hf⟩ := h
  obtain ⟨a, ha, hi⟩ := sm_of (cs := l) (by rw [cellsStamp] at hsz; exact hsz) hf
  subst ha
  exact ⟨a, rfl, hi⟩

theorem sms_open {fuel : Nat} {a : Option Addr} {len cap : Nat} {y : DataW H × List MemPlace} (h : DataW.trod enc Tryd.prog w base spare held fuel 24 [.slice a len cap] = some y) :
    ∃ ss, SmsIn w a len ss ∧ (∀ x ∈ ss, SmI x) ∧ len ≤ maxLen := by
  rcases open_slice Tryd.underlying24 h with ⟨hcs, _⟩ | ⟨x, l, c, m, n, D, Pl, hcs, _, hl, hm, hmm, _, hi⟩
  · injection hcs with hcs
    injection hcs with e1 e2 e3
    subst e1 e2 e3
    exact ⟨[], ⟨rfl, .inl rfl⟩, fun x hx => (by cases hx), Nat.zero_le _⟩
  · injection hcs with hcs
    injection hcs with e1 e2 e3
    subst e1 e2 e3
    have hml : len ≤ m := by rw [hmm]; split <;> omega
    have hex : ∀ i, ∃ s : Sm, i < len → SmAt w x i s ∧ SmI s := fun i => by
      by_cases hlt : i < len
      · obtain ⟨cs', hc, ht⟩ := hi i (by omega)
        rw [cellsStamp] at hc
        obtain ⟨_, hcl, hat⟩ := World.cells?_some hc
        obtain ⟨s, hs, hsi⟩ := sm_of hcl ht
        subst hs
        have c0 := hat 0 (by simp)
        have c1 := hat 1 (by simp)
        have c2 := hat 2 (by simp)
        rw [Go.Deep.add_add] at c0 c1 c2
        exact ⟨s, fun _ => ⟨⟨c0, c1, c2⟩, hsi⟩⟩
      · exact ⟨⟨0, 0, 0⟩, fun h => absurd h hlt⟩
    obtain ⟨f, hf⟩ := Classical.axiomOfChoice hex
    refine ⟨(List.range len).map f, ⟨by simp, .inr ⟨x, rfl, fun i hi => ?_⟩⟩, fun s hs => ?_, by omega⟩
    · have hi' : i < len := by simpa using hi
      simpa using (hf i hi').1
    · obtain ⟨i, hi, rfl⟩ := List.mem_map.1 hs
      exact (hf i (List.mem_range.1 hi)).2

set_option maxRecDepth 100000 in
theorem ev_open {r : Reach} {b0 : Nat} {v : Value} {d : DataW H} {p : List MemPlace} (hv : Value.okWide Tryd.prog w r b0 45 v) (h : DataW.Trod enc Tryd.prog w base spare held 45 v d p) :
    ∃ a : Ev, v = .agg #[.string a.s, .int .i64 a.v, .string a.d, .int .i64 a.t.w, .int .i64 a.t.l, .int .i64 a.t.n, .int .i64 a.i] ∧ SmI a.t ∧ InI a.i ∧ InI a.v ∧ a.s.size ≤ maxLen ∧ a.d.size ≤ maxLen := by
  obtain ⟨⟨l⟩, rfl, hsz⟩ := okWide_struct Tryd.underlying45 hv
  obtain ⟨fuel, hf0⟩ := h
  rw [cellsEvent] at hsz
  obtain ⟨v0, v1, v2, v3, v4, v5, v6, rfl⟩ := seven_of hsz
  obtain ⟨ys, n', _, _, _, hyl, hf⟩ := DataW.trod_struct Tryd.underlying45 hf0
  have hyl3 : ys.length = 5 := hyl
  obtain ⟨y0, y1, y2, y3, y4, rfl⟩ := five_of hyl3
  have h0 : DataW.trod enc Tryd.prog w base spare held n' 9 (([v0, v1, v2, v3, v4, v5, v6].drop 0).take (Tryd.prog.cellsOf 9)) = some y0 := hf 0 _ rfl
  have h1 : DataW.trod enc Tryd.prog w base spare held n' 3 (([v0, v1, v2, v3, v4, v5, v6].drop 1).take (Tryd.prog.cellsOf 3)) = some y1 := hf 1 _ rfl
  have h2 : DataW.trod enc Tryd.prog w base spare held n' 9 (([v0, v1, v2, v3, v4, v5, v6].drop 2).take (Tryd.prog.cellsOf 9)) = some y2 := hf 2 _ rfl
  have h3 : DataW.trod enc Tryd.prog w base spare held n' 23 (([v0, v1, v2, v3, v4, v5, v6].drop 3).take (Tryd.prog.cellsOf 23)) = some y3 := hf 3 _ rfl
  have h4 : DataW.trod enc Tryd.prog w base spare held n' 3 (([v0, v1, v2, v3, v4, v5, v6].drop 6).take (Tryd.prog.cellsOf 3)) = some y4 := hf 4 _ rfl
  rw [cellsInt] at h1 h4
  rw [cellsStr] at h0 h2
  rw [cellsStamp] at h3
  obtain ⟨s, e0, _, w0⟩ := DataW.trod_string Tryd.underlying9 (cs := [v0]) (x := y0) h0
  obtain ⟨x1, e1, _, w1⟩ := DataW.trod_int Tryd.underlying3 (cs := [v1]) (x := y1) h1
  obtain ⟨x2, e2, _, w2⟩ := DataW.trod_string Tryd.underlying9 (cs := [v2]) (x := y2) h2
  obtain ⟨x3, e3, w3⟩ := sm_of (cs := [v3, v4, v5]) rfl h3
  obtain ⟨x4, e4, _, w4⟩ := DataW.trod_int Tryd.underlying3 (cs := [v6]) (x := y4) h4
  injection e0 with e0
  injection e1 with e1
  injection e2 with e2
  injection e4 with e4
  injection e3 with e3 e5
  injection e5 with e5 e6
  injection e6 with e6
  subst e0 e1 e2 e3 e4 e5 e6
  exact ⟨⟨s, x1, x2, x3, x4⟩, rfl, w3, ini_of w4, ini_of w1, w0, w2⟩

set_option maxRecDepth 100000 in
theorem cu_open {r : Reach} {b0 : Nat} {v : Value} {d : DataW H} {p : List MemPlace} (hv : Value.okWide Tryd.prog w r b0 47 v) (h : DataW.Trod enc Tryd.prog w base spare held 47 v d p) :
    ∃ a : Cu, v = .agg #[.int .i64 a.t.w, .int .i64 a.t.l, .int .i64 a.t.n, .int .i64 a.i, .string a.s] ∧ SmI a.t ∧ InI a.i ∧ a.s.size ≤ maxLen := by
  obtain ⟨⟨l⟩, rfl, hsz⟩ := okWide_struct Tryd.underlying47 hv
  obtain ⟨fuel, hf0⟩ := h
  rw [cellsCursor] at hsz
  obtain ⟨v0, v1, v2, v3, v4, rfl⟩ := five_of hsz
  obtain ⟨ys, n', _, _, _, hyl, hf⟩ := DataW.trod_struct Tryd.underlying47 hf0
  have hyl3 : ys.length = 3 := hyl
  obtain ⟨y0, y1, y2, rfl⟩ := three_of hyl3
  have h0 : DataW.trod enc Tryd.prog w base spare held n' 23 (([v0, v1, v2, v3, v4].drop 0).take (Tryd.prog.cellsOf 23)) = some y0 := hf 0 _ rfl
  have h1 : DataW.trod enc Tryd.prog w base spare held n' 3 (([v0, v1, v2, v3, v4].drop 3).take (Tryd.prog.cellsOf 3)) = some y1 := hf 1 _ rfl
  have h2 : DataW.trod enc Tryd.prog w base spare held n' 9 (([v0, v1, v2, v3, v4].drop 4).take (Tryd.prog.cellsOf 9)) = some y2 := hf 2 _ rfl
  rw [cellsInt] at h1
  rw [cellsStr] at h2
  rw [cellsStamp] at h0
  obtain ⟨x3, e3, w3⟩ := sm_of (cs := [v0, v1, v2]) rfl h0
  obtain ⟨x1, e1, _, w1⟩ := DataW.trod_int Tryd.underlying3 (cs := [v3]) (x := y1) h1
  obtain ⟨x2, e2, _, w2⟩ := DataW.trod_string Tryd.underlying9 (cs := [v4]) (x := y2) h2
  injection e1 with e1
  injection e2 with e2
  injection e3 with e3 e5
  injection e5 with e5 e6
  injection e6 with e6
  subst e1 e2 e3 e5 e6
  exact ⟨⟨x3, x1, x2⟩, rfl, w3, ini_of w1, w2⟩
end

/-! The listed tables. -/
theorem gPow : Tryd.prog.globalNamed "internal/strconv.uint64pow10" = some 0 := by kernel_rfl
theorem gPowType : (Tryd.prog.globals[0]?).map (·.type) = some 84 := by kernel_rfl
theorem cells20 : Tryd.prog.cellsOf 84 = 20 := by kernel_rfl
theorem powData : (Rows.laid_internal_strconv_uint64pow10 : DataW Unit) = Lib.tabData .u64 Lib.pow10Tab := by rfl
/-- What a row's list gives: the table of powers of ten lies in the world. -/
theorem tab_of {W : World} (h : laidMet Tryd.prog [("math/bits.deBruijn32tab", Rows.laid_math_bits_deBruijn32tab), ("math/bits.deBruijn64tab", Rows.laid_math_bits_deBruijn64tab), ("internal/strconv.uint64pow10", Rows.laid_internal_strconv_uint64pow10)] W) : Tab W := by
  have h2 := h.tail.tail
  rw [powData] at h2
  exact Lib.tabIs_of_head (rest := []) gPow gPowType Tryd.underlying84 Tryd.underlying59 cellsU64 cells20 h2

/-- The cells of a plain datum. -/
def litsOf : DataW Unit → Array Value
  | .agg ps => (ps.map fun | .lit l => l.value | _ => .bool false).toArray
  | _ => #[]
def layAt (h : Array Obj) (k : Nat) (d : DataW Unit) : Array Obj := h.modify k fun
  | .cells _ t fr => .cells (litsOf d) t fr
  | o => o
/-- A world for the witness: the settled one, its tables holding what their initialisers lay. -/
noncomputable def laidWorld (os : Os) : World :=
  { World.holding Tryd.prog os ⟨#[], #[], []⟩ with heap := layAt (layAt (layAt (World.holding Tryd.prog os ⟨#[], #[], []⟩).heap 0 Rows.laid_internal_strconv_uint64pow10) 1 Rows.laid_math_bits_deBruijn32tab) 2 Rows.laid_math_bits_deBruijn64tab }

end Go.Proofs.YtijnmhiiojkcgaaDoor
