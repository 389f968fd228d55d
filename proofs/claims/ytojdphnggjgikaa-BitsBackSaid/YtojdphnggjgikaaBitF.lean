/-
  A text is laid: bits.Text, and the reference's.
-/
import Derived.Test.YtojdphnggjgikaaBitE
import Derived.OwnWalk
set_option linter.unusedVariables false
namespace Go.Proofs.Ytojdphnggjgikaa
open Go.RowKit

theorem Bts.none_nil {w : World} {l : List UInt8} (h : Bts w none l) : l = [] := by
  rcases h with h | ⟨x, hx, _⟩
  · exact h
  · cases hx

section
variable {P : Program} (w : World)

theorem run_append_bts (base : Nat) (t ty e : TypeId) (i : TypeInfo) (ht : P.underlying t = some (.slice e)) (hi : P.info? e = some i) (hz : i.zero = some (.int .u8 0)) (hsize : i.size = 1) (hby : i.bytes = 1)
    (v : Value) (n : Nat) (xs : List Value) (hown : w.ownsRow base e 1 v n xs) (A : Option Addr) (m c : Nat) (l : List UInt8) (hl : l.length = m) (hb : Bts w A l) (hA : A = none → c = 0) (h63 : n + m ≤ 10000000) (hbase : base ≤ w.heap.size) :
    ∃ v' w', (Builtin.append_ #[t, t] ty #[v, .slice A m c]).run P w = .ok v' w' ∧ w'.ownsRow base e 1 v' (n + m) (xs ++ Lib.byteCells l) ∧ w.grownBy w' v.ownBlock := by
  rcases A with _ | x
  · obtain rfl := hb.none_nil
    obtain rfl : m = 0 := hl.symm
    obtain rfl := hA rfl
    exact ⟨v, w, run_append_owned_none w base t ty e i 1 ht hi v n xs hown, by simpa [Lib.byteCells] using hown, World.grownBy.refl w _⟩
  · obtain ⟨v', w', h1, h2, h3, _⟩ := run_append_own (P := P) w base t ty e i (.int .u8 0) 1 1 ht hi hz hsize hby rfl (by decide) v n xs hown x m c (Lib.byteCells l) (by rw [Lib.byteCells_length]; omega) hb.cells (byteCells_one l) (by unfold maxLen; omega) (by omega) hbase
    exact ⟨v', w', h1, h2, h3⟩

theorem wpList_append_bts {ops : Array Oper} {rest : List Oper} {o : Oper} {a : Act} {Q : Exit → Act → World → Prop} (hgd : o.guard = none) (s x : Operand) (t : TypeId)
    (ho : o.op = .call { callee := .builtin .append, args := #[s, x], argTypes := #[t, t] })
    (base : Nat) (e : TypeId) (i : TypeInfo) (ht : P.underlying t = some (.slice e)) (hi : P.info? e = some i) (hz : i.zero = some (.int .u8 0)) (hsize : i.size = 1) (hby : i.bytes = 1)
    (v : Value) (n : Nat) (xs : List Value) (hs : a.eval s = v) (hown : w.ownsRow base e 1 v n xs)
    (A : Option Addr) (m c : Nat) (l : List UInt8) (hx : a.eval x = .slice A m c) (hl : l.length = m) (hb : Bts w A l) (hA : A = none → c = 0) (h63 : n + m ≤ 10000000) (hbase : base ≤ w.heap.size)
    (h : ∀ v' w', w'.ownsRow base e 1 v' (n + m) (xs ++ Lib.byteCells l) → w.grownBy w' v.ownBlock → wpList P ops Q rest (a.put o.dst v') w') : wpList P ops Q (o :: rest) a w := by
  refine wpList_plain hgd fun K hK => ?_
  obtain ⟨v', w', hr, h2, h3⟩ := run_append_bts (P := P) w base t o.type e i ht hi hz hsize hby v n xs hown A m c l hl hb hA h63 hbase
  unfold Oper.wp execOp
  simp only [ho, resolve, invoke, builtin, Sem.run_bind, Sem.run_pure, Result.andThen_ok, List.map_toArray, List.map_cons, List.map_nil, hs, hx, hr]
  exact hK _ _ (h v' w' h2 h3)

end

theorem below_grown {B : Nat} {w wr w' : World} {v : Value} {n k : Nat} {e : TypeId} {xs : List Value} (hb : Below B w wr) (hB : B ≤ w.heap.size) (hown : wr.ownsRow B e k v n xs) (hg : wr.grownBy w' v.ownBlock) : Below B w w' :=
  hb.grown hg (by have := hb.size; omega) fun k hk => (hown.lt k hk).1

theorem byteCells_str (s : ByteArray) : Lib.strCells s = Lib.byteCells s.data.toList := rfl
theorem byteCells_app (a b : List UInt8) : Lib.byteCells a ++ Lib.byteCells b = Lib.byteCells (a ++ b) := by simp [Lib.byteCells]

/-- A text laid. -/
def txt (l : List UInt8) (s : ByteArray) : List UInt8 := l ++ Lib.uvarint s.size ++ s.data.toList
theorem txt_len (l : List UInt8) (s : ByteArray) : (txt l s).length = l.length + (Lib.uvarint s.size).length + s.size := by
  simp [txt]; omega

set_option maxHeartbeats 2000000 in
set_option maxRecDepth 100000 in
theorem Text_any (a : Option Addr) (n cap : Nat) (l : List UInt8) (s : ByteArray) (w : World) (hl : l.length = n) (hn : n ≤ 1000000) (hs : s.size ≤ 1000000) (hb : Bts w a l) (hA : a = none → cap = 0) :
    Calls Try.prog 21 #[.slice a n cap, .string s] w (OwnPost w.heap.size (txt l s).length (txt l s) w) := by
  obtain ⟨i0, hi, hz0, hz1, hz2⟩ := info_parts infoByte8
  have hlen := Lib.uvarint_length64 (x := s.size) (by omega)
  obtain ⟨W1, hmk, ho1, hg1⟩ := run_make_own (P := Try.prog) w w.heap.size 22 5 i0 (.int .u8 0) 1 Try.underlying22 hi hz0 hz1 .i64 .i64 (n + 10 + s.size) (by rw [hz2]; omega) (by unfold maxLen; omega) (Nat.le_refl _)
  have hb1 : Below w.heap.size w W1 := (Below.refl _ _).grown hg1 (Nat.le_refl _) (fun k hk => by cases hk)
  have hB1 : Bts W1 a l := hb.later hb1
  have ec : ((n + 10 + s.size : Nat) : Int) = (n : Int) + 10 + (s.size : Int) := by omega
  rw [ec] at hmk
  clear ec hg1
  go_enter Try.func21, Try.ntmps21
  go_wp2_with (at_builtin; refine wpList_append_bts _ rfl _ _ 22 rfl w.heap.size 5 i0 Try.underlying22 hi hz0 hz1 hz2 _ _ _ rfl ho1 _ _ _ l rfl hl hB1 hA (by omega) hb1.size ?_)
  intro v2 W2 ho2 hg2
  obtain ⟨a2, k2, rfl⟩ := own_slice ho2
  have hb2 := below_grown hb1 (Nat.le_refl _) ho1 hg2
  have cl := lay_any w.heap.size n k2 a2 l s.size (by omega) W2 ho2 hb2.size hn
  clear ho1 hmk hg2 ho2 hB1
  go_wp2_with (go_at_call 26; refine cl.mono ?_)
  rintro e W3 ⟨a3, k3, rfl, ho3, b3⟩
  have hb3 := hb2.trans b3
  clear cl b3 hb2
  go_wp2_with (at_builtin; refine Lib.wpList_append_own_string _ rfl _ _ 22 9 rfl w.heap.size 5 i0 Try.underlying22 Try.underlying9 hi hz0 hz1 hz2 _ _ _ rfl ho3 s rfl (by unfold maxLen; omega) (by omega) hb3.size ?_)
  intro v4 W4 ho4 hg4 _
  obtain ⟨a4, k4, rfl⟩ := own_slice ho4
  have hb4 := below_grown hb3 (Nat.le_refl _) ho3 hg4
  rw [byteCells_str, byteCells_app] at ho4
  have e : n + (Lib.uvarint s.size).length + s.size = (txt l s).length := by rw [txt_len, hl]
  have e2 : l ++ Lib.uvarint s.size ++ s.data.toList = txt l s := rfl
  rw [e2] at ho4
  have H4 := Lib.hid ho4
  have E := Lib.hid e
  clear ho3 hg4 ho4 hb3 e e2
  go_wp2
  go_ret
  have h5 := H4.out
  rw [E.out] at h5 ⊢
  exact ⟨a4, k4, rfl, h5, hb4⟩

set_option maxHeartbeats 2000000 in
set_option maxRecDepth 100000 in
theorem rText_any (a : Option Addr) (n cap : Nat) (l : List UInt8) (s : ByteArray) (w : World) (hl : l.length = n) (hn : n ≤ 1000000) (hs : s.size ≤ 1000000) (hb : Bts w a l) (hA : a = none → cap = 0) :
    Calls Try.prog 22 #[.slice a n cap, .string s] w (OwnPost w.heap.size (txt l s).length (txt l s) w) := by
  obtain ⟨i0, hi, hz0, hz1, hz2⟩ := info_parts infoByte8
  have hlen := Lib.uvarint_length64 (x := s.size) (by omega)
  have ho1 : (w.alloc (.cells #[] 5)).ownsRow w.heap.size 5 1 (.slice (some ⟨w.heap.size, 0, none⟩) 0 0) 0 [] := World.ownsRow_lit w #[] 0 (Nat.le_refl _) (Nat.zero_le _) rfl
  have hb1 : Below w.heap.size w (w.alloc (.cells #[] 5)) := (Below.refl _ w).alloc (Nat.le_refl _) _
  have hB1 := hb.later hb1
  go_enter Try.func22, Try.ntmps22
  go_wp2_with (at_builtin; refine wpList_append_bts _ rfl _ _ 22 rfl w.heap.size 5 i0 Try.underlying22 hi hz0 hz1 hz2 _ _ _ rfl ho1 _ _ _ l rfl hl hB1 hA (by omega) hb1.size ?_)
  intro v2 W2 ho2 hg2
  obtain ⟨a2, k2, rfl⟩ := own_slice ho2
  have hb2 := below_grown hb1 (Nat.le_refl _) ho1 hg2
  have H2 := Lib.hid ho2
  clear ho1 hg2 ho2 hB1
  go_wp2_with (go_at_call 14; refine (rVarint_any s.size (by omega) _).mono ?_)
  rintro e W3 ⟨a3, k3, rfl, ho3, b3⟩
  have hb3 : Below w.heap.size w W3 := hb2.trans (b3.mono hb2.size)
  have H2b := H2.out
  have hO3 : W3.ownsRow w.heap.size 5 1 (.slice a2 n k2) n (Lib.byteCells l) := H2b.kept (row := none) ⟨b3.os, b3.tape, b3.output, b3.size, fun j hj _ => b3.block j hj⟩ (by cases a2 <;> simp [Value.ownBlock])
  have hS3 := Bts.own ho3
  have hA3 : a3 = none → k3 = 0 := by
    intro h
    subst h
    rcases ho3.2 with ⟨h0, _⟩ | ⟨g, cap', cur, h0, _⟩
    · injection h0
    · cases h0
  clear H2 H2b ho3 b3 hb2
  go_wp2_with (at_builtin; refine wpList_append_bts _ rfl _ _ 22 rfl w.heap.size 5 i0 Try.underlying22 hi hz0 hz1 hz2 _ _ _ rfl hO3 _ _ _ (Lib.uvarint s.size) rfl rfl hS3 hA3 (by omega) hb3.size ?_)
  intro v4 W4 ho4 hg4
  obtain ⟨a4, k4, rfl⟩ := own_slice ho4
  have hb4 := below_grown hb3 (Nat.le_refl _) hO3 hg4
  clear hO3 hS3 hA3 hg4 hb3
  go_wp2_with (at_builtin; refine Lib.wpList_append_own_string _ rfl _ _ 22 9 rfl w.heap.size 5 i0 Try.underlying22 Try.underlying9 hi hz0 hz1 hz2 _ _ _ rfl ho4 s rfl (by unfold maxLen; omega) (by omega) hb4.size ?_)
  intro v5 W5 ho5 hg5 _
  obtain ⟨a5, k5, rfl⟩ := own_slice ho5
  have hb5 := below_grown hb4 (Nat.le_refl _) ho4 hg5
  rw [byteCells_str, byteCells_app, byteCells_app, ← List.append_assoc] at ho5
  have e : n + (Lib.uvarint s.size).length + s.size = (txt l s).length := by rw [txt_len, hl]
  have e2 : l ++ Lib.uvarint s.size ++ s.data.toList = txt l s := rfl
  rw [e2] at ho5
  have H5 := Lib.hid ho5
  have E := Lib.hid e
  clear ho4 hg5 ho5 hb4 e e2
  go_wp2
  go_ret
  have h5 := H5.out
  rw [E.out] at h5 ⊢
  exact ⟨a5, k5, rfl, h5, hb5⟩

/-- What bytes are read as, as a text. -/
def takeL (l : List UInt8) : ByteArray × Nat :=
  if (unv l).2 = 0 ∨ l.length - (unv l).2 < (unv l).1 then (⟨#[]⟩, 0)
  else (⟨((l.drop (unv l).2).take (unv l).1).toArray⟩, (unv l).2 + (unv l).1)

theorem unvF_bounds : ∀ (l : List UInt8) (k acc : Nat), k ≤ 9 → acc < 2 ^ (7 * k) → (unvF k acc l).1 < 18446744073709551616 ∧ (unvF k acc l).2 ≤ k + l.length
  | [], k, acc, _, _ => by simp [unvF]
  | b :: r, k, acc, hk, ha => by
    have hmod : b.toNat % 128 < 128 := Nat.mod_lt _ (by decide)
    rcases unv_ways k acc b r with ⟨_, _, he⟩ | ⟨h1, h2, he⟩ | ⟨_, _, _, he⟩ | ⟨h1, h2, h3, he⟩
    · rw [he]; exact ⟨by decide, Nat.zero_le _⟩
    · rw [he]
      have := unvF_bounds r (k + 1) (acc + b.toNat % 128 * 2 ^ (7 * k)) (by omega) (grp_lt acc _ k ha hmod)
      simp only [List.length_cons]
      omega
    · rw [he]; exact ⟨by decide, Nat.zero_le _⟩
    · rw [he]
      have h := grp_or acc (b.toNat % 128) k hk ha hmod (by omega)
      refine ⟨?_, by simp only [List.length_cons]; omega⟩
      have hlt : b.toNat % 128 * 2 ^ (7 * k) < 2 ^ 64 - 2 ^ 63 + 1 := by
        by_cases h9 : k = 9
        · subst h9
          have : b.toNat = 0 ∨ b.toNat = 1 := by omega
          rcases this with h0 | h0 <;> rw [h0] <;> decide
        · have h1 : 2 ^ (7 * k) ≤ 2 ^ 56 := Nat.pow_le_pow_right (by decide) (by omega)
          calc b.toNat % 128 * 2 ^ (7 * k) ≤ 127 * 2 ^ 56 := Nat.mul_le_mul (by omega) h1
            _ < 2 ^ 64 - 2 ^ 63 + 1 := by decide
      have h63 : 2 ^ (7 * k) ≤ 2 ^ 63 := Nat.pow_le_pow_right (by decide) (by omega)
      show acc + b.toNat % 128 * 2 ^ (7 * k) < 18446744073709551616
      omega

theorem unv_bounds (l : List UInt8) : (unv l).1 < 18446744073709551616 ∧ (unv l).2 ≤ l.length := by
  have := unvF_bounds l 0 0 (by omega) (by decide)
  rw [Nat.zero_add] at this
  exact this

/-- Bytes as a text. -/
theorem conv_bts (w : World) (A : Option Addr) (m c : Nat) (l : List UInt8) (hl : l.length = m) (h : Bts w A l) :
    (convert 22 9 (.slice A m c)).run Try.prog w = .ok (.string ⟨l.toArray⟩) w := by
  rcases A with _ | x
  · obtain rfl := h.none_nil
    exact run_convert_bytes_nil (P := Try.prog) w 22 5 Try.underlying22 Try.underlying5 m c 9 Try.underlying9
  · have hload : (loadCells x m).run Try.prog w = .ok ((l.map fun b => (b.toNat : Int)).map (Value.int .u8)).toArray w := by
      have e : (l.map fun b => (b.toNat : Int)).map (Value.int .u8) = Lib.byteCells l := by simp [Lib.byteCells]
      have := run_loadCells_list (P := Try.prog) w x (Lib.byteCells l) (fun j v hj => h.cells j v hj)
      rw [Lib.byteCells_length, hl] at this
      rw [e]; exact this
    rw [run_convert_bytes_string w 22 9 5 _ m c Try.underlying22 Try.underlying5 Try.underlying9, run_bytesToString w _ m c _ hload, foldl_push_bytes]
    have e2 : (l.map fun b => (b.toNat : Int)).map (fun n => UInt8.ofNat n.toNat) = l := by
      rw [List.map_map]
      conv => rhs; rw [← List.map_id l]
      exact List.map_congr_left fun b _ => by simp
    rw [e2]
    simp

theorem takeL_no {l : List UInt8} (h : (unv l).2 = 0 ∨ l.length - (unv l).2 < (unv l).1) : takeL l = (⟨#[]⟩, 0) := if_pos h
theorem takeL_yes {l : List UInt8} (h : ¬ ((unv l).2 = 0 ∨ l.length - (unv l).2 < (unv l).1)) : takeL l = (⟨((l.drop (unv l).2).take (unv l).1).toArray⟩, (unv l).2 + (unv l).1) := if_neg h
theorem tk_ret {s t : ByteArray} {m k : Int} (h1 : s = t) (h2 : m = k) : Ending.returned (.tuple #[.string s, .int .i64 m]) = .returned (.tuple #[.string t, .int .i64 k]) := by rw [h1, h2]

set_option maxHeartbeats 2000000 in
set_option maxRecDepth 100000 in
theorem Take_any (a : Option Addr) (n cap : Nat) (l : List UInt8) (w : World) (hl : l.length = n) (hn : n ≤ 1000000) (hc : n ≤ cap) (h : Bts w a l) :
    Calls Try.prog 19 #[.slice a n cap] w fun e w' => e = .returned (.tuple #[.string (takeL l).1, .int .i64 (takeL l).2]) ∧ w = w' := by
  have c1 := Unvarint_any a n cap l w hl (by unfold maxLen; omega) h
  have hb := unv_bounds l
  have HN := Lib.hid (takeL_no (l := l))
  have HY := Lib.hid (takeL_yes (l := l))
  obtain ⟨x, hx⟩ : ∃ x, x = (unv l).1 := ⟨_, rfl⟩
  obtain ⟨y, hy⟩ : ∃ y, y = (unv l).2 := ⟨_, rfl⟩
  rw [← hx, ← hy] at c1 hb HN HY
  rw [hl] at hb HN HY
  obtain ⟨hb1, hb2⟩ := hb
  clear hx hy
  by_cases h0 : y = 0
  · have h0' : ((y : Int) == 0) = true := by simpa using h0
    have H0 := Lib.hid h0
    clear h0 HY h
    go_enter Try.func19, Try.ntmps19
    go_wp2_with (first | (go_at_call 10; (with_reducible refine c1.mono ?_); rintro e W2 ⟨rfl, rfl⟩))
    go_ret2
    rw [HN.out (.inl H0.out)]
    exact ⟨rfl, rfl⟩
  · have h0' : ((y : Int) == 0) = false := by simpa using h0
    by_cases h1 : n - y < x
    · have h1' : (n : Int) - (y : Int) < (x : Int) := by omega
      clear HY h
      go_enter Try.func19, Try.ntmps19
      go_wp2_with (first | (go_at_call 10; (with_reducible refine c1.mono ?_); rintro e W2 ⟨rfl, rfl⟩))
      go_ret2
      rw [HN.out (.inr h1)]
      exact ⟨rfl, rfl⟩
    · have h1' : (x : Int) ≤ (n : Int) - (y : Int) := by omega
      obtain ⟨x0, rfl⟩ : ∃ x0, a = some x0 := by
        obtain ⟨x0, hx0, _⟩ := h.at 0 (by omega)
        exact ⟨x0, hx0⟩
      have hsub : Bts w (some (x0.add y)) ((l.drop y).take x) := (h.drop y).take x
      have hlen : ((l.drop y).take x).length = x := by rw [List.length_take, List.length_drop]; omega
      have k1 := fun c => conv_bts w (some (x0.add y)) x c _ hlen hsub
      obtain ⟨s, hs⟩ : ∃ s : ByteArray, s = ⟨((l.drop y).take x).toArray⟩ := ⟨_, rfl⟩
      rw [← hs] at k1 HY
      have HR := Lib.hid (HY.out (by omega))
      by_cases hcy : cap = y
      · have hx0 : x = 0 := by omega
        have k2 := fun c => conv_bts w (some x0) x c [] (by simpa using hx0.symm) (Bts.nil _ _)
        have es : s = ⟨#[]⟩ := by rw [hs, hx0]; simp
        rw [show (⟨([] : List UInt8).toArray⟩ : ByteArray) = s from es.symm] at k2
        clear hs es hx0 HN HY h hsub hlen h0 h1 k1 hl
        subst hcy
        go_enter Try.func19, Try.ntmps19
        go_wp2_with (first | (go_at_call 10; (with_reducible refine c1.mono ?_); rintro e W2 ⟨rfl, rfl⟩))
        all_goals (go_ret2; rw [HR.out]; exact ⟨tk_ret rfl (by simp), rfl⟩)
      · clear hs HN HY h hsub hlen h0 h1 hl
        go_enter Try.func19, Try.ntmps19
        go_wp2_with (first | (go_at_call 10; (with_reducible refine c1.mono ?_); rintro e W2 ⟨rfl, rfl⟩))
        all_goals (go_ret2; rw [HR.out]; exact ⟨tk_ret rfl (by simp), rfl⟩)

set_option maxHeartbeats 2000000 in
set_option maxRecDepth 100000 in
theorem rTake_any (a : Option Addr) (n cap : Nat) (l : List UInt8) (w : World) (hl : l.length = n) (hn : n ≤ 1000000) (hc : n ≤ cap) (h : Bts w a l) :
    Calls Try.prog 20 #[.slice a n cap] w fun e w' => e = .returned (.tuple #[.string (takeL l).1, .int .i64 (takeL l).2]) ∧ w = w' := by
  have c1 := rUnvarint_any a n cap l w hl (by unfold maxLen; omega) h
  have hb := unv_bounds l
  have HN := Lib.hid (takeL_no (l := l))
  have HY := Lib.hid (takeL_yes (l := l))
  obtain ⟨x, hx⟩ : ∃ x, x = (unv l).1 := ⟨_, rfl⟩
  obtain ⟨y, hy⟩ : ∃ y, y = (unv l).2 := ⟨_, rfl⟩
  rw [← hx, ← hy] at c1 hb HN HY
  rw [hl] at hb HN HY
  obtain ⟨hb1, hb2⟩ := hb
  clear hx hy
  by_cases h0 : y = 0
  · have h0' : ((y : Int) == 0) = true := by simpa using h0
    have H0 := Lib.hid h0
    clear h0 HY h
    go_enter Try.func20, Try.ntmps20
    go_wp2_with (first | (go_at_call 11; (with_reducible refine c1.mono ?_); rintro e W2 ⟨rfl, rfl⟩))
    go_ret2
    rw [HN.out (.inl H0.out)]
    exact ⟨rfl, rfl⟩
  · have h0' : ((y : Int) == 0) = false := by simpa using h0
    by_cases h1 : n - y < x
    · have h1' : (n : Int) - (y : Int) < (x : Int) := by omega
      clear HY h
      go_enter Try.func20, Try.ntmps20
      go_wp2_with (first | (go_at_call 11; (with_reducible refine c1.mono ?_); rintro e W2 ⟨rfl, rfl⟩))
      go_ret2
      rw [HN.out (.inr h1)]
      exact ⟨rfl, rfl⟩
    · have h1' : (x : Int) ≤ (n : Int) - (y : Int) := by omega
      obtain ⟨x0, rfl⟩ : ∃ x0, a = some x0 := by
        obtain ⟨x0, hx0, _⟩ := h.at 0 (by omega)
        exact ⟨x0, hx0⟩
      have hsub : Bts w (some (x0.add y)) ((l.drop y).take x) := (h.drop y).take x
      have hlen : ((l.drop y).take x).length = x := by rw [List.length_take, List.length_drop]; omega
      have k1 := fun c => conv_bts w (some (x0.add y)) x c _ hlen hsub
      obtain ⟨s, hs⟩ : ∃ s : ByteArray, s = ⟨((l.drop y).take x).toArray⟩ := ⟨_, rfl⟩
      rw [← hs] at k1 HY
      have HR := Lib.hid (HY.out (by omega))
      by_cases hcy : cap = y
      · have hx0 : x = 0 := by omega
        have k2 := fun c => conv_bts w (some x0) x c [] (by simpa using hx0.symm) (Bts.nil _ _)
        have es : s = ⟨#[]⟩ := by rw [hs, hx0]; simp
        rw [show (⟨([] : List UInt8).toArray⟩ : ByteArray) = s from es.symm] at k2
        clear hs es hx0 HN HY h hsub hlen h0 h1 k1 hl
        subst hcy
        go_enter Try.func20, Try.ntmps20
        go_wp2_with (first | (go_at_call 11; (with_reducible refine c1.mono ?_); rintro e W2 ⟨rfl, rfl⟩))
        all_goals (go_ret2; rw [HR.out]; exact ⟨tk_ret rfl (by simp), rfl⟩)
      · clear hs HN HY h hsub hlen h0 h1 hl
        go_enter Try.func20, Try.ntmps20
        go_wp2_with (first | (go_at_call 11; (with_reducible refine c1.mono ?_); rintro e W2 ⟨rfl, rfl⟩))
        all_goals (go_ret2; rw [HR.out]; exact ⟨tk_ret rfl (by simp), rfl⟩)

end Go.Proofs.Ytojdphnggjgikaa
