/-
  Package disk: its files as a list by rising names; the map that holds them ('MapAt'); what the calls do to the list.
-/
import Derived.Test.YtbolminblofhgaaDkA
import Derived.Maps.RangeWalk
import Derived.Maps.Ext
import Derived.Sort.KeysCollected
set_option linter.unusedVariables false
namespace Go.Proofs.Ytbolminblofhgaa
open Go.RowKit
open Go.Maps (Keyed)

/-! ### lists of files -/
def key (nm : ByteArray) : List UInt8 := nm.data.toList
theorem key_inj {a b : ByteArray} : key a = key b ↔ a = b := by
  constructor
  · intro h
    exact ByteArray.ext (Array.toList_inj.1 h)
  · intro h; rw [h]
def Rise (L : List RF) : Prop := L.Pairwise fun a b => bytesBefore (key a.nm) (key b.nm) = true
def getL (nm : ByteArray) (L : List RF) : Option RF := L.find? fun f => decide (f.nm = nm)
def delL (nm : ByteArray) (L : List RF) : List RF := L.filter fun f => !decide (f.nm = nm)
def insL (f : RF) : List RF → List RF
  | [] => [f]
  | y :: r => if bytesBefore (key f.nm) (key y.nm) then f :: y :: r else y :: insL f r
def putL (f : RF) (L : List RF) : List RF := insL f (delL f.nm L)
def tot (L : List RF) : Nat := (L.map fun f => f.b.length).sum

/-- The same with the slices. -/
def getQ (nm : ByteArray) (Q : List (Value × RF)) : Option (Value × RF) := Q.find? fun q => decide (q.2.nm = nm)
def delQ (nm : ByteArray) (Q : List (Value × RF)) : List (Value × RF) := Q.filter fun q => !decide (q.2.nm = nm)
def insQ (q : Value × RF) : List (Value × RF) → List (Value × RF)
  | [] => [q]
  | y :: r => if bytesBefore (key q.2.nm) (key y.2.nm) then q :: y :: r else y :: insQ q r
def putQ (q : Value × RF) (Q : List (Value × RF)) : List (Value × RF) := insQ q (delQ q.2.nm Q)

theorem getQ_snd (nm : ByteArray) (Q : List (Value × RF)) : (getQ nm Q).map Prod.snd = getL nm (Q.map Prod.snd) := by
  unfold getQ getL
  rw [List.find?_map]; rfl
theorem delQ_snd (nm : ByteArray) (Q : List (Value × RF)) : (delQ nm Q).map Prod.snd = delL nm (Q.map Prod.snd) := by
  unfold delQ delL
  rw [List.filter_map]; rfl
theorem insQ_snd (q : Value × RF) : ∀ Q : List (Value × RF), (insQ q Q).map Prod.snd = insL q.2 (Q.map Prod.snd)
  | [] => rfl
  | y :: r => by
    unfold insQ insL
    simp only [List.map_cons]
    split
    · simp
    · simp [insQ_snd q r]
theorem putQ_snd (q : Value × RF) (Q : List (Value × RF)) : (putQ q Q).map Prod.snd = putL q.2 (Q.map Prod.snd) := by
  unfold putQ putL
  rw [insQ_snd, delQ_snd]
theorem insQ_perm (q : Value × RF) : ∀ Q : List (Value × RF), (insQ q Q).Perm (q :: Q)
  | [] => List.Perm.refl _
  | y :: r => by
    unfold insQ
    split
    · exact List.Perm.refl _
    · exact ((insQ_perm q r).cons y).trans (List.Perm.swap q y r)
theorem insL_perm (f : RF) : ∀ L : List RF, (insL f L).Perm (f :: L)
  | [] => List.Perm.refl _
  | y :: r => by
    unfold insL
    split
    · exact List.Perm.refl _
    · exact ((insL_perm f r).cons y).trans (List.Perm.swap f y r)
theorem getL_mem {nm : ByteArray} {L : List RF} {f : RF} (h : getL nm L = some f) : f ∈ L ∧ f.nm = nm := by
  unfold getL at h
  exact ⟨List.mem_of_find?_eq_some h, by simpa using List.find?_some h⟩
theorem getQ_mem {nm : ByteArray} {Q : List (Value × RF)} {q : Value × RF} (h : getQ nm Q = some q) : q ∈ Q ∧ q.2.nm = nm := by
  unfold getQ at h
  exact ⟨List.mem_of_find?_eq_some h, by simpa using List.find?_some h⟩
theorem tot_perm {a b : List RF} (h : a.Perm b) : tot a = tot b := by unfold tot; exact (h.map _).sum_nat
theorem tot_cons (f : RF) (L : List RF) : tot (f :: L) = f.b.length + tot L := by simp [tot]
theorem Rise.ne {L : List RF} (h : Rise L) : L.Pairwise fun a b => a.nm ≠ b.nm := h.imp (fun {a b} hab e => by
  have h2 : (Lit.string (key a.nm)).before (Lit.string (key b.nm)) = true := hab
  rw [e, WideShapes.before_irrefl] at h2
  cases h2)
/-- Without one name: its file is gone, no other. -/
theorem tot_del {L : List RF} (nm : ByteArray) (h : L.Pairwise fun a b => a.nm ≠ b.nm) : tot (delL nm L) + (match getL nm L with | some f => f.b.length | none => 0) = tot L ∧ (delL nm L).length + (match getL nm L with | some f => 1 | none => 0) = L.length := by
  induction L with
  | nil => exact ⟨rfl, rfl⟩
  | cons f r ih =>
    obtain ⟨h1, h2⟩ := List.pairwise_cons.1 h
    by_cases e : f.nm = nm
    · have hn : ∀ g ∈ r, g.nm ≠ nm := fun g hg e2 => h1 g hg (e.trans e2.symm)
      have hd : delL nm (f :: r) = r := by
        unfold delL
        rw [List.filter_cons, if_neg (by simp [e]), List.filter_eq_self.2 (fun g hg => by simpa using hn g hg)]
      have hg : getL nm (f :: r) = some f := by unfold getL; rw [List.find?_cons, show decide (f.nm = nm) = true by simp [e]]
      rw [hd, hg]
      exact ⟨by simp [tot]; omega, by simp⟩
    · have hd : delL nm (f :: r) = f :: delL nm r := by
        unfold delL
        rw [List.filter_cons, if_pos (by simp [e])]
      have hg : getL nm (f :: r) = getL nm r := by unfold getL; rw [List.find?_cons, show decide (f.nm = nm) = false by simp [e]]
      rw [hd, hg, tot_cons, tot_cons]
      obtain ⟨i1, i2⟩ := ih h2
      exact ⟨by omega, by simp only [List.length_cons]; omega⟩
theorem tot_put (f : RF) (L : List RF) : tot (putL f L) = tot (delL f.nm L) + f.b.length ∧ (putL f L).length = (delL f.nm L).length + 1 := by
  unfold putL
  refine ⟨by rw [tot_perm (insL_perm f _), tot_cons]; omega, by rw [(insL_perm f _).length_eq]; rfl⟩
theorem mem_putL {f g : RF} {L : List RF} (h : g ∈ putL f L) : g = f ∨ (g ∈ L ∧ g.nm ≠ f.nm) := by
  unfold putL at h
  rcases List.mem_cons.1 ((insL_perm f _).mem_iff.1 h) with e | h
  · exact .inl e
  · obtain ⟨a, b⟩ := List.mem_filter.1 h
    exact .inr ⟨a, by simpa using b⟩
theorem mem_putQ {f g : Value × RF} {L : List (Value × RF)} (h : g ∈ putQ f L) : g = f ∨ (g ∈ L ∧ g.2.nm ≠ f.2.nm) := by
  unfold putQ at h
  rcases List.mem_cons.1 ((insQ_perm f _).mem_iff.1 h) with e | h
  · exact .inl e
  · obtain ⟨a, b⟩ := List.mem_filter.1 h
    exact .inr ⟨a, by simpa using b⟩
theorem mem_delQ {nm : ByteArray} {g : Value × RF} {L : List (Value × RF)} (h : g ∈ delQ nm L) : g ∈ L ∧ g.2.nm ≠ nm := by
  obtain ⟨a, b⟩ := List.mem_filter.1 h
  exact ⟨a, by simpa using b⟩

/-! ### the map -/
def fileV (q : Value × RF) : Value := .agg #[q.1, .int .i64 q.2.s]
def file0 : Value := .agg #[.slice none 0 0, .int .i64 0]
/-- An element reads as itself. -/
def Rf (v : Value) : Option (DataW Value × List MemPlace) := some (.held v, [])
def entD (q : Value × RF) : Lit × DataW Value := (.string (key q.2.nm), .held (fileV q))
def mapD (Q : List (Value × RF)) : DataW Value := .map (Q.map entD)

theorem insD (q : Value × RF) : ∀ Q : List (Value × RF), DataW.insert (entD q) (Q.map entD) = (insQ q Q).map entD
  | [] => rfl
  | y :: r => by
    rw [List.map_cons]
    unfold DataW.insert insQ
    have e : (entD q).1.before (entD y).1 = bytesBefore (key q.2.nm) (key y.2.nm) := rfl
    rw [e]
    split
    · rfl
    · rw [insD q r]; rfl
theorem same_key (a b : ByteArray) : (Lit.string (key a)).sameKey (Lit.string (key b)) = decide (a = b) := by
  show (key a == key b) = _
  by_cases h : a = b
  · simp [h]
  · have : key a ≠ key b := fun e => h (key_inj.1 e)
    simp [h, this]
theorem delD (nm : ByteArray) (Q : List (Value × RF)) : (mapD Q).del (.string (key nm)) = mapD (delQ nm Q) := by
  show DataW.map ((Q.map entD).filter fun p => !p.1.sameKey (.string (key nm))) = _
  unfold mapD delQ
  rw [List.filter_map]
  congr 2
  apply List.filter_congr
  intro q _
  show (!(Lit.string (key q.2.nm)).sameKey (.string (key nm))) = _
  rw [same_key]
theorem putD (q : Value × RF) (Q : List (Value × RF)) : (mapD Q).put (.string (key q.2.nm)) (.held (fileV q)) = mapD (putQ q Q) := by
  show DataW.map (DataW.insert (entD q) ((Q.map entD).filter fun p => !p.1.sameKey (.string (key q.2.nm)))) = _
  have h := delD q.2.nm Q
  have h2 : ((Q.map entD).filter fun p => !p.1.sameKey (.string (key q.2.nm))) = (delQ q.2.nm Q).map entD := by
    injection h
  rw [h2, insD]
  rfl
/-- What a look-up finds. -/
def lkV (nm : ByteArray) (Q : List (Value × RF)) : Value := match getQ nm Q with | some q => fileV q | none => file0
def hsQ (nm : ByteArray) (Q : List (Value × RF)) : Bool := (getQ nm Q).isSome
theorem atD (nm : ByteArray) (Q : List (Value × RF)) : (mapD Q).atKey (.string (key nm)) (.held file0) = .held (lkV nm Q) := by
  unfold mapD
  simp only [DataW.atKey]
  rw [List.find?_map]
  have e : Q.find? ((fun p : Lit × DataW Value => p.1.sameKey (.string (key nm))) ∘ entD) = getQ nm Q := by
    unfold getQ
    congr 1
    funext q
    exact same_key q.2.nm nm
  rw [e]
  unfold lkV
  cases getQ nm Q <;> rfl
theorem hasD (nm : ByteArray) (Q : List (Value × RF)) : Maps.has (mapD Q) (.string (key nm)) = hsQ nm Q := by
  show (Q.map entD).any (fun p => p.1.sameKey (.string (key nm))) = _
  unfold hsQ getQ
  rw [List.any_map]
  rw [Bool.eq_iff_iff, List.any_eq_true, List.find?_isSome]
  constructor
  · rintro ⟨q, hq, h⟩
    exact ⟨q, hq, by rw [← same_key]; exact h⟩
  · rintro ⟨q, hq, h⟩
    exact ⟨q, hq, by rw [← same_key] at h; exact h⟩
theorem sizeD (Q : List (Value × RF)) : Maps.size (mapD Q) = Q.length := by simp [mapD, Maps.size]

theorem lawS : Keyed Try.prog 9 := Maps.string_keyed Try.underlying9
theorem key_of {nm : ByteArray} (h : nm.size ≤ maxLen) : keyOf Try.prog 9 (.string nm) = some (.string (key nm)) := WideMaps.keyOf_string_mk Try.underlying9 h
theorem zeroFile (w : World) : (zeroValue 77).run Try.prog w = .ok file0 w := by kernel_rfl

/-- The map's value mv holds the files Q: nil and none, or a block. -/
def MapAt (w : World) (B : Nat) (mv : Value) (Q : List (Value × RF)) : Prop :=
  (mv = .map none ∧ Q = []) ∨ ∃ b, mv = .map (some b) ∧ B ≤ b ∧ w.ownsMap Try.prog 9 Rf b Q.length (mapD Q)

theorem tight {w : World} {b n : Nat} {D : DataW Value} (h : w.ownsMap Try.prog 9 Rf b n D) : w.ownsMap Try.prog 9 Rf b (Maps.size D) D := by
  obtain ⟨es, clock, hb, F, hs, rfl⟩ := h
  exact ⟨es, clock, hb, F, by simp [Maps.size, length_sorted], rfl⟩

theorem MapAt.look {w : World} {B : Nat} {mv : Value} {Q : List (Value × RF)} (h : MapAt w B mv Q) (nm : ByteArray) (hn : nm.size ≤ maxLen) :
    (Instr.lookup 60 mv (.string nm) true).run Try.prog w = .ok (.tuple #[lkV nm Q, .bool (hsQ nm Q)]) w ∧
    (Instr.lookup 60 mv (.string nm) false).run Try.prog w = .ok (lkV nm Q) w := by
  rcases h with ⟨rfl, rfl⟩ | ⟨b, rfl, _, ho⟩
  · have h1 := Maps.look_nil true lawS Try.underlying60 (zeroFile w) (key_of hn)
    have h2 := Maps.look_nil false lawS Try.underlying60 (zeroFile w) (key_of hn)
    exact ⟨by rw [h1]; rfl, by rw [h2]; rfl⟩
  · obtain ⟨v, ps, h1, h2⟩ := ho.look_ok lawS Try.underlying60 (zeroFile w) (zd := .held file0) (zp := []) rfl (key_of hn)
    obtain ⟨v', ps', h1', h2'⟩ := ho.lookup lawS Try.underlying60 (zeroFile w) (zd := .held file0) (zp := []) rfl (key_of hn)
    rw [atD] at h2 h2'
    rw [hasD] at h1
    injection h2 with h2
    injection h2' with h2'
    injection h2 with h2
    injection h2' with h2'
    injection h2 with h2
    injection h2' with h2'
    subst h2 h2'
    exact ⟨h1, h1'⟩
theorem MapAt.len {w : World} {B : Nat} {mv : Value} {Q : List (Value × RF)} (h : MapAt w B mv Q) (ty : TypeId) :
    (Builtin.len_ #[60] ty #[mv]).run Try.prog w = .ok (.int .i64 Q.length) w := by
  rcases h with ⟨rfl, rfl⟩ | ⟨b, rfl, _, ho⟩
  · exact Maps.len_nil Try.underlying60 ty
  · have := ho.len Try.underlying60 ty
    rw [sizeD] at this
    exact this
theorem MapAt.drop {w : World} {B : Nat} {mv : Value} {Q : List (Value × RF)} (h : MapAt w B mv Q) (nm : ByteArray) (hn : nm.size ≤ maxLen) (ty : TypeId) :
    ∃ w', (Builtin.delete_ #[60, 9] ty #[mv, .string nm]).run Try.prog w = .ok (.tuple #[]) w' ∧ MapAt w' B mv (delQ nm Q) ∧ Kept (fun k => mv = .map (some k)) w w' ∧ w'.heap.size = w.heap.size := by
  rcases h with ⟨rfl, rfl⟩ | ⟨b, rfl, hB, ho⟩
  · exact ⟨w, Maps.drop_nil lawS Try.underlying60 (key_of hn) ty, .inl ⟨rfl, rfl⟩, Kept.refl _ _, rfl⟩
  · obtain ⟨w', hr, ho', ht⟩ := ho.drop lawS Try.underlying60 (key_of hn) ty
    rw [delD] at ho'
    have hs : w'.heap.size = w.heap.size := by
      obtain ⟨es, clock, es', clock', hb, rfl⟩ := ht
      simp [ChangeMaps.setBlock]
    refine ⟨w', hr, .inr ⟨b, rfl, hB, by have := tight ho'; rw [sizeD] at this; exact this⟩, (Kept.refl _ w).grown ht.grown (fun k hk _ => by cases hk; rfl), hs⟩
theorem MapAt.store {w : World} {B b : Nat} {Q : List (Value × RF)} (h : MapAt w B (.map (some b)) Q) (q : Value × RF) (hn : q.2.nm.size ≤ maxLen) (hl : Q.length ≤ 1000000) :
    ∃ w', (Instr.mapUpdate 60 (.map (some b)) (.string q.2.nm) (fileV q)).run Try.prog w = .ok () w' ∧ MapAt w' B (.map (some b)) (putQ q Q) ∧ Kept (fun k => k = b) w w' ∧ w'.heap.size = w.heap.size := by
  rcases h with ⟨h, _⟩ | ⟨b', h, hB, ho⟩
  · cases h
  · injection h with h
    injection h with h
    subst h
    obtain ⟨w', hr, ho', ht⟩ := ho.store lawS Try.underlying60 (by unfold maxLen; omega) (key_of hn) (val := fileV q) (d := .held (fileV q)) (ps := []) rfl
    rw [putD] at ho'
    have hs : w'.heap.size = w.heap.size := by
      obtain ⟨es, clock, es', clock', hb, rfl⟩ := ht
      simp [ChangeMaps.setBlock]
    exact ⟨w', hr, .inr ⟨b, rfl, hB, by have := tight ho'; rw [sizeD] at this; exact this⟩, (Kept.refl _ w).grown ht.grown (fun k hk _ => by cases hk; rfl), hs⟩
theorem MapAt.made (w : World) (B : Nat) (hB : B ≤ w.heap.size) : MapAt (w.alloc (.map #[] 0)) B (.map (some w.heap.size)) [] :=
  .inr ⟨_, rfl, hB, World.ownsMap_made w Try.prog 9 Rf⟩
theorem MapAt.kept {w w' : World} {B : Nat} {mv : Value} {Q : List (Value × RF)} {S : Nat → Prop} (h : MapAt w B mv Q) (hk : Kept S w w') (hs : ∀ k, mv = .map (some k) → ¬ S k) : MapAt w' B mv Q := by
  rcases h with h | ⟨b, rfl, hB, ho⟩
  · exact .inl h
  · refine .inr ⟨b, rfl, hB, ?_⟩
    have hlt := ho.lt
    obtain ⟨es, clock, hb, F, hs', hD⟩ := ho
    exact ⟨es, clock, (hk.block b hlt (hs b rfl)).trans hb, F, hs', hD⟩
theorem MapAt.lt {w : World} {B : Nat} {mv : Value} {Q : List (Value × RF)} (h : MapAt w B mv Q) : ∀ k, mv = .map (some k) → B ≤ k ∧ k < w.heap.size := by
  rintro k rfl
  rcases h with ⟨h, _⟩ | ⟨b, h, hB, ho⟩
  · cases h
  · injection h with h
    injection h with h
    subst h
    exact ⟨hB, ho.lt⟩
theorem MapAt.rise {w : World} {B : Nat} {mv : Value} {Q : List (Value × RF)} (h : MapAt w B mv Q) : Rise (Q.map Prod.snd) := by
  rcases h with ⟨rfl, rfl⟩ | ⟨b, rfl, hB, ho⟩
  · exact List.Pairwise.nil
  · obtain ⟨es, he, hp, _⟩ := ho.canon lawS
    injection he with he
    subst he
    unfold Rise
    rw [List.pairwise_map] at hp ⊢
    exact hp
/-- A map's block is none of a row's. -/
theorem MapAt.ne {w : World} {B g : Nat} {mv : Value} {Q : List (Value × RF)} {cs : Array Value} {t : TypeId} {fr : Nat × Nat} (h : MapAt w B mv Q) (hg : w.heap[g]? = some (.cells cs t fr)) : mv ≠ .map (some g) := by
  rintro rfl
  rcases h with ⟨h, _⟩ | ⟨b, h, hB, ho⟩
  · cases h
  · injection h with h
    injection h with h
    subst h
    obtain ⟨es, clock, hb, _⟩ := ho
    rw [hg] at hb
    cases hb
theorem MapAt.ne_own {w : World} {B C : Nat} {mv : Value} {Q : List (Value × RF)} {e : TypeId} {k n : Nat} {v : Value} {xs : List Value} (h : MapAt w B mv Q) (ho : w.ownsRow C e k v n xs) : ∀ g, v.ownBlock = some g → mv ≠ .map (some g) := by
  intro g hg
  rcases ho.2 with ⟨hv, _⟩ | ⟨g', cap, cur, hv, _, hg', _⟩
  · rw [hv] at hg; cases hg
  · rw [hv] at hg
    injection hg with hg
    have e' : g' = g := hg
    subst e'
    exact h.ne hg'

/-! ### laws at the operation -/
theorem wpList_look {P : Program} (w : World) {ops : Array Oper} {rest : List Oper} {o : Oper} {a : Act} {Q : Exit → Act → World → Prop} (hg : o.guard = none) (m x : Operand) (t : TypeId) (c : Bool) (hop : o.op = Op.lookup t m x c)
    (mv key v : Value) (hm : a.eval m = mv) (hx : a.eval x = key) (hrun : (Instr.lookup t mv key c).run P w = .ok v w) (hK : wpList P ops Q rest (a.put o.dst v) w) : wpList P ops Q (o :: rest) a w := by
  refine wpList_plain hg fun K' hK' => ?_
  unfold Oper.wp
  simp [execOp, hop, hm, hx, hrun, Result.andThen]
  exact hK' _ _ hK
theorem wpList_dele {P : Program} (w : World) {ops : Array Oper} {rest : List Oper} {o : Oper} {a : Act} {Q : Exit → Act → World → Prop} (hg : o.guard = none) (m x : Operand) (t k : TypeId) (hop : o.op = Op.call { callee := Callee.builtin Builtin.delete, args := #[m, x], argTypes := #[t, k] })
    (mv key : Value) (w' : World) (hm : a.eval m = mv) (hx : a.eval x = key) (hrun : (Builtin.delete_ #[t, k] o.type #[mv, key]).run P w = .ok (.tuple #[]) w') (hK : wpList P ops Q rest (a.put o.dst (.tuple #[])) w') : wpList P ops Q (o :: rest) a w := by
  refine wpList_plain hg fun K' hK' => ?_
  unfold Oper.wp
  simp [execOp, hop, resolve, invoke, builtin, hm, hx, hrun, Result.andThen]
  exact hK' _ _ hK

end Go.Proofs.Ytbolminblofhgaa
