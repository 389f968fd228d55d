/-
  Package disk: Append.
-/
import Derived.Test.YtbolminblofhgaaDsD
import Derived.Maps.AppendAt
import Derived.Lib.LazyBuf
set_option linter.unusedVariables false
namespace Go.Proofs.Ytbolminblofhgaa
open Go.RowKit

/-! ### appending bytes, and where the new slice lies -/
section
variable {P : Program} (w : World)
theorem run_append_btsAt (base : Nat) (t ty e : TypeId) (i : TypeInfo) (ht : P.underlying t = some (.slice e)) (hi : P.info? e = some i) (hz : i.zero = some (.int .u8 0)) (hsize : i.size = 1) (hby : i.bytes = 1)
    (v : Value) (n : Nat) (xs : List Value) (hown : w.ownsRow base e 1 v n xs) (A : Option Addr) (m c : Nat) (l : List UInt8) (hl : l.length = m) (hb : Bts w A l) (hA : A = none → c = 0) (h63 : n + m ≤ 100000000) (hbase : base ≤ w.heap.size) :
    ∃ v' w', (Builtin.append_ #[t, t] ty #[v, .slice A m c]).run P w = .ok v' w' ∧ w'.ownsRow base e 1 v' (n + m) (xs ++ Lib.byteCells l) ∧ w.grownBy w' v.ownBlock ∧ (v'.ownBlock = v.ownBlock ∨ v'.ownBlock = some w.heap.size) := by
  rcases A with _ | x
  · obtain rfl := hb.none_nil
    obtain rfl : m = 0 := hl.symm
    obtain rfl := hA rfl
    exact ⟨v, w, run_append_owned_none w base t ty e i 1 ht hi v n xs hown, by simpa [Lib.byteCells] using hown, World.grownBy.refl w _, .inl rfl⟩
  · obtain ⟨v', w', h1, h2, h3, _, h4⟩ := run_append_own_at (P := P) w base t ty e i (.int .u8 0) 1 1 ht hi hz hsize hby rfl (by decide) v n xs hown x m c (Lib.byteCells l) (by rw [Lib.byteCells_length]; omega) hb.cells (byteCells_one l) (by unfold maxLen; omega) (by omega) hbase
    exact ⟨v', w', h1, h2, h3, h4⟩
theorem wpList_append_btsAt {ops : Array Oper} {rest : List Oper} {o : Oper} {a : Act} {Q : Exit → Act → World → Prop} (hgd : o.guard = none) (s x : Operand) (t : TypeId)
    (ho : o.op = .call { callee := .builtin .append, args := #[s, x], argTypes := #[t, t] })
    (base : Nat) (e : TypeId) (i : TypeInfo) (ht : P.underlying t = some (.slice e)) (hi : P.info? e = some i) (hz : i.zero = some (.int .u8 0)) (hsize : i.size = 1) (hby : i.bytes = 1)
    (v : Value) (n : Nat) (xs : List Value) (hs : a.eval s = v) (hown : w.ownsRow base e 1 v n xs)
    (A : Option Addr) (m c : Nat) (l : List UInt8) (hx : a.eval x = .slice A m c) (hl : l.length = m) (hb : Bts w A l) (hA : A = none → c = 0) (h63 : n + m ≤ 100000000) (hbase : base ≤ w.heap.size)
    (h : ∀ v' w', w'.ownsRow base e 1 v' (n + m) (xs ++ Lib.byteCells l) → w.grownBy w' v.ownBlock → (v'.ownBlock = v.ownBlock ∨ v'.ownBlock = some w.heap.size) → wpList P ops Q rest (a.put o.dst v') w') : wpList P ops Q (o :: rest) a w := by
  refine wpList_plain hgd fun K hK => ?_
  obtain ⟨v', w', hr, h2, h3, h4⟩ := run_append_btsAt (P := P) w base t o.type e i ht hi hz hsize hby v n xs hown A m c l hl hb hA h63 hbase
  unfold Oper.wp execOp
  simp only [ho, resolve, invoke, builtin, Sem.run_bind, Sem.run_pure, Result.andThen_ok, List.map_toArray, List.map_cons, List.map_nil, hs, hx, hr]
  exact hK _ _ (h v' w' h2 h3 h4)
end

/-! ### what the calls answer -/
def appL (room : Nat) (nm : ByteArray) (l : List UInt8) (L : List RF) : Int × List RF :=
  if badN nm then (1, L)
  else if (getL nm L = none ∧ 3000 ≤ L.length) ∨ room < tot L + l.length then (3, L)
  else match getL nm L with
    | none => (0, putL ⟨nm, l, 0⟩ L)
    | some f => (0, putL ⟨nm, f.b ++ l, f.s⟩ L)
def resC (C : CD) (x : Int × List RF) : Int × CD := if offC C then (9, C.op) else (x.1, C.op.setL x.2)
def ImRes (w : World) (B g : Nat) (mv : Value) (Q : List (Value × RF)) (x : Int × CD) (e : Ending) (w' : World) : Prop :=
  ∃ mv' Q', e = .returned (.int .i64 x.1) ∧ ImAt w' B g mv' Q' x.2 ∧ Kept (ImS g mv Q) w w' ∧ ∀ k, ImS g mv' Q' k → ImS g mv Q k ∨ w.heap.size ≤ k

set_option maxHeartbeats 2000000 in
set_option maxRecDepth 100000 in
theorem dAppend_nil (w : World) (nm : ByteArray) (v : Value) :
    Calls Try.prog 16 #[.pointer none, .string nm, v] w fun e w' => e = .returned (.int .i64 3) ∧ Below w.heap.size w w' := by
  go_enter Try.func16, Try.ntmps16
  go_wp2
  go_ret
  exact ⟨rfl, by first | exact Below.refl _ _ | simpa using (Below.refl _ w).alloc (Nat.le_refl _) _⟩

set_option maxHeartbeats 2000000 in
set_option maxRecDepth 100000 in
theorem dAppend_off (w : World) (B g : Nat) (mv : Value) (Q : List (Value × RF)) (C : CD) (nm : ByteArray) (v : Value) (h : ImAt w B g mv Q C) (hi : Inv C) (hn : C.n ≤ 1000000) (ho : offC C = true) :
    Calls Try.prog 16 #[.pointer (some ⟨g, 0, none⟩), .string nm, v] w (ImRes w B g mv Q (9, C.op)) := by
  have cO := dOp w B g mv Q _ C h hi hn
  rw [ho] at cO
  clear h hi
  go_enter Try.func16, Try.ntmps16
  go_wp2_with (go_at_call 40; (with_reducible refine cO.mono ?_))
  rintro e W1 ⟨rfl, h1, k1, s1⟩
  have H1 := Lib.hid h1
  clear h1 cO
  go_wp2
  go_ret
  exact ⟨mv, Q, rfl, H1.out, k1.mono (fun k _ e => .inl e), fun k e => .inl e⟩

set_option maxHeartbeats 2000000 in
set_option maxRecDepth 100000 in
theorem dAppend_bad (w : World) (B g : Nat) (mv : Value) (Q : List (Value × RF)) (C : CD) (nm : ByteArray) (v : Value) (h : ImAt w B g mv Q C) (hi : Inv C) (hn : C.n ≤ 1000000) (ho : offC C = false) (hb : badN nm = true) :
    Calls Try.prog 16 #[.pointer (some ⟨g, 0, none⟩), .string nm, v] w (ImRes w B g mv Q (1, C.op)) := by
  have cO := dOp w B g mv Q _ C h hi hn
  have cN := fun W => dNamed nm W
  rw [ho] at cO
  rw [hb] at cN
  clear h hi
  go_enter Try.func16, Try.ntmps16
  go_wp2_with (go_at_call 40; (with_reducible refine cO.mono ?_))
  rintro e W1 ⟨rfl, h1, k1, s1⟩
  have H1 := Lib.hid h1
  clear h1 cO
  go_wp2_with (go_at_call 41; (with_reducible refine (cN _).mono ?_))
  rintro e W2 ⟨rfl, q, rfl⟩
  go_wp2
  go_ret
  exact ⟨mv, Q, rfl, H1.out.drewN q, (k1.mono (T := ImS g mv Q) (fun k _ e => .inl e)).drewN q, fun k e => .inl e⟩

end Go.Proofs.Ytbolminblofhgaa
