/-
  Rows of bytes: what a slice holds, rows that a call owns, appending, two rows held against each other (penstockalike.Bytes, Round). Of no package of the project's.
-/
import Derived.Test.YtggognmbjgkdfaaProg
import Derived.Lib.UnsafeStr
import Derived.Lib.AppendStr
import Derived.Lib.OthersKept
import Derived.Lib.Hide
import Derived.Laws.OwnMore
import Derived.Laws.MakeOwn
import Derived.Laws.BytesArg
import Derived.Laws.BitsAllLaws
import Derived.Below
import Derived.OwnWalk
import Derived.WalkKit
import Derived.WalkSpells
import Derived.WalkSmall
import Derived.BigCall
import Derived.StillTailTactics
import Derived.KernelRfl
import Derived.Deep.QuietTactic
import Derived.BigQuiet
import Derived.LoopTactic
import Derived.WalkLawsBesides
import Derived.IntWalk
set_option linter.unusedVariables false
namespace Go.Proofs.Ytggognmbjgkdfaa
open Go.RowKit

/-- What the walk is told of a slice of numbers that came in. -/
def RowIn (k : IntKind) (w : World) (a : Option Addr) (len cap : Nat) (zs : List Int) : Prop :=
  (a = none ∧ len = 0 ∧ cap = 0 ∧ zs = []) ∨
  ∃ x, a = some x ∧ len ≤ cap ∧ cap ≤ maxLen ∧ zs.length = cap ∧ (∀ i, i < zs.length → w.cell? (x.add i) = some (.int k (zs.getD i 0))) ∧ ∀ n ∈ zs, (Lit.int k n).wf = true

/-- A slice at a holds the bytes l. -/
def Bts (w : World) (a : Option Addr) (l : List UInt8) : Prop :=
  l = [] ∨ ∃ x, a = some x ∧ ∀ j (hj : j < l.length), w.cell? (x.add j) = some (.int .u8 (l[j]'hj).toNat)

theorem add_blk (a : Addr) (n : Nat) : (a.add n).block = a.block := by unfold Addr.add; split <;> rfl
theorem add_two (a : Addr) (i j : Nat) : (a.add i).add j = a.add (i + j) := by
  unfold Addr.add
  by_cases hi : i = 0 <;> by_cases hj : j = 0 <;> simp [hi, hj, Nat.add_assoc]

theorem Bts.at {w : World} {a : Option Addr} {l : List UInt8} (h : Bts w a l) (j : Nat) (hj : j < l.length) : ∃ x, a = some x ∧ w.cell? (x.add j) = some (.int .u8 (l[j]'hj).toNat) := by
  rcases h with rfl | ⟨x, rfl, hc⟩
  · simp at hj
  · exact ⟨x, rfl, hc j hj⟩

theorem Bts.nil (w : World) (a : Option Addr) : Bts w a [] := .inl rfl

theorem Bts.later {w w' : World} {a : Option Addr} {l : List UInt8} (h : Bts w a l) (hb : Below w.heap.size w w') : Bts w' a l := by
  rcases h with h | ⟨x, rfl, hc⟩
  · exact .inl h
  · exact .inr ⟨x, rfl, fun j hj => (hb.cell (World.block_lt_of_cell? w _ (hc j hj))).trans (hc j hj)⟩

theorem Bts.base {w w1 w2 : World} {a : Option Addr} {l : List UInt8} (h : Bts w1 a l) (hb : Below w1.heap.size w1 w2) : Bts w2 a l := h.later hb

theorem byteCells_at (l : List UInt8) (j : Nat) (hj : j < l.length) : (Lib.byteCells l)[j]? = some (.int .u8 (l[j]'hj).toNat) := by
  simp [Lib.byteCells, List.getElem?_eq_getElem hj]

theorem Bts.own {w : World} {B : Nat} {e : TypeId} {a : Option Addr} {n cap : Nat} {l : List UInt8} (h : w.ownsRow B e 1 (.slice a n cap) n (Lib.byteCells l)) : Bts w a l := by
  rcases h.2 with ⟨hv, hn⟩ | ⟨g, cap', cur, hv, _⟩
  · refine .inl (List.length_eq_zero_iff.1 ?_)
    have := h.1
    rw [Lib.byteCells_length] at this
    omega
  · injection hv with h1 h2 h3
    subst h1
    exact .inr ⟨_, rfl, fun j hj => h.cells (g := g) rfl j _ (byteCells_at l j hj)⟩

theorem own_size {w : World} {B : Nat} {e : TypeId} {v : Value} {n : Nat} {l : List UInt8} (h : w.ownsRow B e 1 v n (Lib.byteCells l)) : l.length = n := by
  have := h.1
  rw [Lib.byteCells_length] at this
  omega

theorem Bts.cells {w : World} {x : Addr} {l : List UInt8} (h : Bts w (some x) l) : ∀ j u, (Lib.byteCells l)[j]? = some u → w.cell? (x.add j) = some u := by
  intro j u hu
  have hj : j < l.length := by
    have := (List.getElem?_eq_some_iff.1 hu).1
    rwa [Lib.byteCells_length] at this
  obtain ⟨y, hy, hc⟩ := h.at j hj
  injection hy with hy
  subst hy
  rw [byteCells_at l j hj] at hu
  injection hu with hu
  rw [hc, hu]

theorem byteCells_one (l : List UInt8) : ∀ u ∈ Lib.byteCells l, u.oneCell' = true := by
  intro u hu
  simp only [Lib.byteCells, List.mem_map] at hu
  obtain ⟨b, _, rfl⟩ := hu
  rfl

/-- A slice that came in holds bytes. -/
theorem RowIn.bts {w : World} {a : Option Addr} {len cap : Nat} {zs : List Int} (h : RowIn .u8 w a len cap zs) :
    ∃ l : List UInt8, l.length = len ∧ Bts w a l ∧ len ≤ cap ∧ cap ≤ maxLen ∧ (a = none → cap = 0) := by
  rcases h with ⟨rfl, rfl, rfl, rfl⟩ | ⟨x, rfl, h1, h2, h3, h4, h5⟩
  · exact ⟨[], rfl, .inl rfl, Nat.le_refl _, Nat.zero_le _, fun _ => rfl⟩
  · refine ⟨(zs.take len).map fun n => UInt8.ofNat n.toNat, by simp; omega, .inr ⟨x, rfl, fun j hj => ?_⟩, h1, h2, fun h => by cases h⟩
    have hl : j < len := by simp at hj; omega
    have hz : j < zs.length := by omega
    rw [h4 j hz]
    have hwf := h5 (zs[j]'hz) (List.getElem_mem hz)
    have hb : 0 ≤ zs[j]'hz ∧ zs[j]'hz < 256 := by
      simp [Lit.wf, IntKind.min, IntKind.max, IntKind.signed, IntKind.bits] at hwf
      omega
    simp only [List.getD_eq_getElem?_getD, List.getElem?_eq_getElem hz, Option.getD_some, List.getElem_map, List.getElem_take]
    congr 2
    rw [UInt8.toNat_ofNat']
    omega

/-- A slice of a slice. -/
theorem Bts.drop {w : World} {x : Addr} {l : List UInt8} (h : Bts w (some x) l) (k : Nat) : Bts w (some (x.add k)) (l.drop k) := by
  rcases h with rfl | ⟨y, hy, hc⟩
  · exact .inl (by simp)
  · injection hy with hy
    subst hy
    refine .inr ⟨_, rfl, fun j hj => ?_⟩
    rw [add_two]
    have : k + j < l.length := by simp at hj; omega
    rw [hc _ this]
    simp
theorem Bts.take {w : World} {a : Option Addr} {l : List UInt8} (h : Bts w a l) (k : Nat) : Bts w a (l.take k) := by
  rcases h with rfl | ⟨y, hy, hc⟩
  · exact .inl (by simp)
  · refine .inr ⟨y, hy, fun j hj => ?_⟩
    have : j < l.length := by simp at hj; omega
    rw [hc _ this]
    simp

theorem infoByte8 : (Try.prog.info? 5).map (fun i => (i.zero, i.size, i.bytes)) = some (some (.int .u8 0), 1, 1) := by kernel_rfl

theorem new_cells8 (W : World) (C : Array Value) (t : TypeId) (k : Nat) (hk : k = W.heap.size) (j : Nat) (u : Value) (h : C.toList[j]? = some u) : (W.alloc (.cells C t)).cell? ((⟨k, 0, none⟩ : Addr).add j) = some u := by
  have hadd : (⟨k, 0, none⟩ : Addr).add j = ⟨k, j, none⟩ := by unfold Addr.add; split <;> simp_all
  have hg : (W.alloc (.cells C t)).heap[k]? = some (.cells C t (0, 0)) := by
    show (W.heap.push _)[k]? = _
    rw [hk]; simp
  rw [hadd, cell_of_row _ k j C t _ hg]
  simpa using h

/-- What a call leaves that appends l to a row. -/
def OwnPost (B n : Nat) (l : List UInt8) (w : World) (e : Ending) (w' : World) : Prop :=
  ∃ a cap, e = .returned (.slice a n cap) ∧ w'.ownsRow B 5 1 (.slice a n cap) n (Lib.byteCells l) ∧ Below B w w'

theorem own_slice {w : World} {B : Nat} {e : TypeId} {k n : Nat} {v : Value} {xs : List Value} (h : w.ownsRow B e k v n xs) : ∃ a cap, v = .slice a n cap := by
  rcases h.2 with ⟨hv, hn⟩ | ⟨g, cap, cur, hv, _⟩
  · exact ⟨none, 0, by rw [hv, hn]⟩
  · exact ⟨_, _, hv⟩

theorem below_app {B : Nat} {w wr w' : World} {o : Obj} {v : Value} {n k : Nat} {e : TypeId} {xs : List Value} (hb : Below B w wr) (hB : B ≤ w.heap.size) (hown : wr.ownsRow B e k v n xs) (hg : (wr.alloc o).grownBy w' v.ownBlock) : Below B w w' := by
  have := hb.size
  exact (hb.alloc (by omega) o).grown hg (by simp; omega) fun k hk => (hown.lt k hk).1

/-- Two rows of bytes are the same. -/
def sameB (l m : List UInt8) : Bool := decide (l = m)
theorem sameB_self (l : List UInt8) : sameB l l = true := by simp [sameB]

theorem take_more (l m : List UInt8) (j : Nat) (h1 : j < l.length) (h2 : j < m.length) (h : l.take j = m.take j) (he : l[j]'h1 = m[j]'h2) : l.take (j + 1) = m.take (j + 1) := by
  rw [List.take_succ_eq_append_getElem h1, List.take_succ_eq_append_getElem h2, h, he]

set_option maxHeartbeats 2000000 in
set_option maxRecDepth 100000 in
theorem Bytes_q (a b : Option Addr) (n m ca cb : Nat) (l r : List UInt8) (w : World) (hl : l.length = n) (hr : r.length = m) (hn : n ≤ 1000000) (hm : m ≤ 1000000) (ha : Bts w a l) (hb : Bts w b r) :
    Calls Try.prog 16 #[.slice a n ca, .slice b m cb] w fun e w' => e = .returned (.bool (sameB l r)) ∧ ∃ q, w' = w.drewN q := by
  by_cases hnm : n = m
  · subst hnm
    go_enter Try.func16, Try.ntmps16
    go_wp2
    go_loopw [5] (fun i wr => ∃ j : Nat, i = .int .i64 j ∧ j ≤ n ∧ Hid (l.take j = r.take j) ∧ ∃ q, wr = w.drewN q) (fun i _ => n - (intOf i).toNat)
    case atStart => exact ⟨0, rfl, Nat.zero_le _, rfl, 0, rfl⟩
    case round =>
      obtain ⟨j, rfl, hj, HT, q, rfl⟩ := hrel
      by_cases hlt : j < n
      · obtain ⟨x, rfl, hx⟩ := ha.at j (by omega)
        obtain ⟨y, rfl, hy⟩ := hb.at j (by omega)
        by_cases hxy : l[j]'(by omega) = r[j]'(by omega)
        · have HE := Lib.hid (take_more l r j (by omega) (by omega) HT.out hxy)
          rw [← hxy] at hy
          obtain ⟨c, hc⟩ : ∃ c, c = l[j]'(by omega) := ⟨_, rfl⟩
          rw [← hc] at hx hy
          clear hc hxy HT
          go_wp2_with fail
          go_quiet (fail)
          go_wp2
          go_roundw
          case rel => exact ⟨j + 1, by go_num, by omega, HE, _, by first | rfl | (rw [World.drewN_drewN])⟩
          case measure => simp [intOf]; omega
        · have HN : Hid (sameB l r = false) := by
            show sameB l r = false
            simp only [sameB, decide_eq_false_iff_not]
            rintro rfl
            exact hxy rfl
          have hne : (((l[j]'(by omega)).toNat : Int) != ((r[j]'(by omega)).toNat : Int)) = true := bne_iff_ne.2 (fun e => hxy (UInt8.toNat_inj.1 (by omega)))
          obtain ⟨c, hc⟩ : ∃ c, c = l[j]'(by omega) := ⟨_, rfl⟩
          obtain ⟨d, hd⟩ : ∃ d, d = r[j]'(by omega) := ⟨_, rfl⟩
          rw [← hc] at hx hne
          rw [← hd] at hy hne
          clear hc hd hxy HT
          go_wp2_with fail
          go_quiet (fail)
          go_wp2
          go_ret
          rw [HN.out]
          exact ⟨rfl, _, by first | rfl | (rw [World.drewN_drewN])⟩
      · have HS : Hid (sameB l r = true) := by
          show sameB l r = true
          have h := HT.out
          rw [List.take_of_length_le (by omega), List.take_of_length_le (by omega)] at h
          rw [h]; exact sameB_self _
        go_wp2
        go_ret
        rw [HS.out]
        exact ⟨rfl, q, rfl⟩
  · have HN : Hid (sameB l r = false) := by
      show sameB l r = false
      simp only [sameB, decide_eq_false_iff_not]
      rintro rfl
      exact hnm (hl.symm.trans hr)
    have hne : ((n : Int) != (m : Int)) = true := bne_iff_ne.2 (by omega)
    go_enter Try.func16, Try.ntmps16
    go_wp2
    go_ret
    rw [HN.out]
    exact ⟨rfl, 0, rfl⟩

theorem Bytes_any (a b : Option Addr) (n m ca cb : Nat) (l r : List UInt8) (w : World) (hl : l.length = n) (hr : r.length = m) (hn : n ≤ 1000000) (hm : m ≤ 1000000) (ha : Bts w a l) (hb : Bts w b r) :
    Calls Try.prog 16 #[.slice a n ca, .slice b m cb] w fun e w' => e = .returned (.bool (sameB l r)) ∧ Below w.heap.size w w' :=
  (Bytes_q a b n m ca cb l r w hl hr hn hm ha hb).mono fun e w' ⟨he, q, hq⟩ => ⟨he, by rw [hq]; exact below_drewN (Below.refl _ w) _⟩

theorem Bytes_same (a b : Option Addr) (n m ca cb : Nat) (l : List UInt8) (w : World) (hl : l.length = n) (hr : l.length = m) (hn : n ≤ 1000000) (ha : Bts w a l) (hb : Bts w b l) :
    Calls Try.prog 16 #[.slice a n ca, .slice b m cb] w fun e w' => e = .returned (.bool true) ∧ Below w.heap.size w w' := by
  have := Bytes_any a b n m ca cb l l w hl hr hn (by omega) ha hb
  rw [sameB_self] at this
  exact this

/-- A callee's contract, held against the world in which the call began. -/
theorem base {P : Program} {f : Nat} {args : Array Value} {e0 : Ending} {w wx : World} (hb : Below w.heap.size w wx)
    (h : Calls P f args wx fun e w' => e = e0 ∧ Below wx.heap.size wx w') : Calls P f args wx fun e w' => e = e0 ∧ Below w.heap.size w w' :=
  h.mono fun e w' ⟨he, hb'⟩ => ⟨he, hb.trans (hb'.mono hb.size)⟩

theorem u8_of (c : Int) (hc : (Lit.int .u8 c).wf = true) : ∃ b : UInt8, c = (b.toNat : Int) := by
  have h : 0 ≤ c ∧ c < 256 := by
    simp [Lit.wf, IntKind.min, IntKind.max, IntKind.signed, IntKind.bits] at hc; omega
  exact ⟨UInt8.ofNat c.toNat, by rw [UInt8.toNat_ofNat']; omega⟩
theorem u64_of (v : Int) (hv : (Lit.int .u64 v).wf = true) : ∃ m : Nat, v = (m : Int) ∧ m < 18446744073709551616 := by
  have h : 0 ≤ v ∧ v < 18446744073709551616 := by
    simp [Lit.wf, IntKind.min, IntKind.max, IntKind.signed, IntKind.bits] at hv; omega
  exact ⟨v.toNat, by omega, by omega⟩

theorem Bts.none_nil {w : World} {l : List UInt8} (h : Bts w none l) : l = [] := by
  rcases h with h | ⟨x, hx, _⟩
  · exact h
  · cases hx

section
variable {P : Program} (w : World)

theorem run_append_bts (base : Nat) (t ty e : TypeId) (i : TypeInfo) (ht : P.underlying t = some (.slice e)) (hi : P.info? e = some i) (hz : i.zero = some (.int .u8 0)) (hsize : i.size = 1) (hby : i.bytes = 1)
    (v : Value) (n : Nat) (xs : List Value) (hown : w.ownsRow base e 1 v n xs) (A : Option Addr) (m c : Nat) (l : List UInt8) (hl : l.length = m) (hb : Bts w A l) (hA : A = none → c = 0) (h63 : n + m ≤ 10000000) (hbase : base ≤ w.heap.size) :
    ∃ v' w', (Builtin.append_ #[t, t] ty #[v, .slice A m c]).run P w = .ok v' w' ∧ w'.ownsRow base e 1 v' (n + m) (xs ++ Lib.byteCells l) ∧ w.grownBy w' v.ownBlock := by
  rcases A with _ | x
  · obtain rfl := hb.none_nil
    obtain rfl : m = 0 := hl.symm
    obtain rfl := hA rfl
    exact ⟨v, w, run_append_owned_none w base t ty e i 1 ht hi v n xs hown, by simpa [Lib.byteCells] using hown, World.grownBy.refl w _⟩
  · obtain ⟨v', w', h1, h2, h3, _⟩ := run_append_own (P := P) w base t ty e i (.int .u8 0) 1 1 ht hi hz hsize hby rfl (by decide) v n xs hown x m c (Lib.byteCells l) (by rw [Lib.byteCells_length]; omega) hb.cells (byteCells_one l) (by unfold maxLen; omega) (by omega) hbase
    exact ⟨v', w', h1, h2, h3⟩

theorem wpList_append_bts {ops : Array Oper} {rest : List Oper} {o : Oper} {a : Act} {Q : Exit → Act → World → Prop} (hgd : o.guard = none) (s x : Operand) (t : TypeId)
    (ho : o.op = .call { callee := .builtin .append, args := #[s, x], argTypes := #[t, t] })
    (base : Nat) (e : TypeId) (i : TypeInfo) (ht : P.underlying t = some (.slice e)) (hi : P.info? e = some i) (hz : i.zero = some (.int .u8 0)) (hsize : i.size = 1) (hby : i.bytes = 1)
    (v : Value) (n : Nat) (xs : List Value) (hs : a.eval s = v) (hown : w.ownsRow base e 1 v n xs)
    (A : Option Addr) (m c : Nat) (l : List UInt8) (hx : a.eval x = .slice A m c) (hl : l.length = m) (hb : Bts w A l) (hA : A = none → c = 0) (h63 : n + m ≤ 10000000) (hbase : base ≤ w.heap.size)
    (h : ∀ v' w', w'.ownsRow base e 1 v' (n + m) (xs ++ Lib.byteCells l) → w.grownBy w' v.ownBlock → wpList P ops Q rest (a.put o.dst v') w') : wpList P ops Q (o :: rest) a w := by
  refine wpList_plain hgd fun K hK => ?_
  obtain ⟨v', w', hr, h2, h3⟩ := run_append_bts (P := P) w base t o.type e i ht hi hz hsize hby v n xs hown A m c l hl hb hA h63 hbase
  unfold Oper.wp execOp
  simp only [ho, resolve, invoke, builtin, Sem.run_bind, Sem.run_pure, Result.andThen_ok, List.map_toArray, List.map_cons, List.map_nil, hs, hx, hr]
  exact hK _ _ (h v' w' h2 h3)

end

theorem below_grown {B : Nat} {w wr w' : World} {v : Value} {n k : Nat} {e : TypeId} {xs : List Value} (hb : Below B w wr) (hB : B ≤ w.heap.size) (hown : wr.ownsRow B e k v n xs) (hg : wr.grownBy w' v.ownBlock) : Below B w w' :=
  hb.grown hg (by have := hb.size; omega) fun k hk => (hown.lt k hk).1

theorem byteCells_str (s : ByteArray) : Lib.strCells s = Lib.byteCells s.data.toList := rfl
theorem byteCells_app (a b : List UInt8) : Lib.byteCells a ++ Lib.byteCells b = Lib.byteCells (a ++ b) := by simp [Lib.byteCells]

/-- Bytes as a text. -/
theorem conv_bts (w : World) (A : Option Addr) (m c : Nat) (l : List UInt8) (hl : l.length = m) (h : Bts w A l) :
    (convert 25 9 (.slice A m c)).run Try.prog w = .ok (.string ⟨l.toArray⟩) w := by
  rcases A with _ | x
  · obtain rfl := h.none_nil
    exact run_convert_bytes_nil (P := Try.prog) w 25 5 Try.underlying25 Try.underlying5 m c 9 Try.underlying9
  · have hload : (loadCells x m).run Try.prog w = .ok ((l.map fun b => (b.toNat : Int)).map (Value.int .u8)).toArray w := by
      have e : (l.map fun b => (b.toNat : Int)).map (Value.int .u8) = Lib.byteCells l := by simp [Lib.byteCells]
      have := run_loadCells_list (P := Try.prog) w x (Lib.byteCells l) (fun j v hj => h.cells j v hj)
      rw [Lib.byteCells_length, hl] at this
      rw [e]; exact this
    rw [run_convert_bytes_string w 25 9 5 _ m c Try.underlying25 Try.underlying5 Try.underlying9, run_bytesToString w _ m c _ hload, foldl_push_bytes]
    have e2 : (l.map fun b => (b.toNat : Int)).map (fun n => UInt8.ofNat n.toNat) = l := by
      rw [List.map_map]
      conv => rhs; rw [← List.map_id l]
      exact List.map_congr_left fun b _ => by simp
    rw [e2]
    simp

theorem own_some {w : World} {B : Nat} {e : TypeId} {a : Option Addr} {k n cap : Nat} {xs : List Value} (h : w.ownsRow B e k (.slice a n cap) n xs) (hn : 0 < n) : ∃ g, a = some ⟨g, 0, none⟩ ∧ n ≤ cap ∧ cap ≤ maxLen := by
  rcases h.2 with ⟨_, h0⟩ | ⟨g, cap', cur, hv, _, _, h1, h2, _⟩
  · omega
  · injection hv with e1 e2 e3
    subst e1 e3
    exact ⟨g, rfl, h1, h2⟩

theorem retI {k : IntKind} {a b : Int} (h : a = b) : Ending.returned (.int k a) = .returned (.int k b) := by rw [h]

theorem own_room {w : World} {B : Nat} {e : TypeId} {k n c : Nat} {a : Option Addr} {xs : List Value} (h : w.ownsRow B e k (.slice a n c) n xs) : n ≤ c := by
  rcases h.2 with ⟨h0, h1⟩ | ⟨g, cap', cur, h0, _, _, h1, _⟩
  · omega
  · injection h0 with _ _ e3; subst e3; exact h1

end Go.Proofs.Ytggognmbjgkdfaa
