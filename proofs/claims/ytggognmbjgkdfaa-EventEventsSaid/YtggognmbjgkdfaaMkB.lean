/-
  The reference's Make.
-/
import Derived.Test.YtggognmbjgkdfaaMkA
set_option linter.unusedVariables false
namespace Go.Proofs.Ytggognmbjgkdfaa
open Go.RowKit

structure RkRel (w wr : World) (k : ByteArray) (a : Option Addr) (n c : Nat) (v : Value) (m : Nat) (l : List Ev) (s : Sm) : Prop where
  len : m = l.length
  own : wr.ownsRow w.heap.size 42 7 v m (rowOf evCells l)
  bt : wr.heap[w.heap.size]? = some (.cells #[.string k, .slice a n c] 24 (0, 0))
  st : wr.heap[w.heap.size + 1]? = some (.cells #[.int .i64 s.w, .int .i64 s.l, .int .i64 s.n] 40 (0, 0))
  below : Below w.heap.size w wr
theorem box2_cells {w : World} {g : Nat} {a b : Value} {t : TypeId} (h : w.heap[g]? = some (.cells #[a, b] t (0, 0))) :
    w.cell? ⟨g, 0, none⟩ = some a ∧ w.cell? ⟨g, 1, none⟩ = some b ∧ w.frozen? ⟨g, 0, none⟩ = false ∧ w.frozen? ⟨g, 1, none⟩ = false := by
  refine ⟨?_, ?_, frozen_of_row _ g 0 _ _ h, frozen_of_row _ g 1 _ _ h⟩ <;> rw [cell_of_row _ g _ _ _ _ h] <;> rfl
theorem rkS {W : World} {B : Nat} {k : ByteArray} {x : Addr} {n c : Nat} {s : Sm} {j md cd t : Nat} {ps0 : ByteArray} {pe : Int} {dl : List ByteArray} {y : Addr} {z : ByteArray}
    (hb : W.heap[B]? = some (.cells #[.string k, .slice (some x) n c] 24 (0, 0))) (hs : W.heap[B + 1]? = some (.cells #[.int .i64 s.w, .int .i64 s.l, .int .i64 s.n] 40 (0, 0)))
    (ha : PtAt W x j ⟨ps0, pe, dl⟩ (some y) cd) (hm : md = dl.length) (ht : t < dl.length) (hz : z = dl[t]'ht) :
    W.cell? ⟨B, 1, none⟩ = some (.slice (some x) n c) ∧ W.cell? ⟨B + 1, 0, none⟩ = some (.int .i64 s.w) ∧ W.cell? ⟨B + 1, 1, none⟩ = some (.int .i64 s.l) ∧ W.cell? ⟨B + 1, 2, none⟩ = some (.int .i64 s.n) ∧ W.cell? (x.add (j * 3)) = some (.string ps0) ∧ W.cell? ⟨(x.add (j * 3)).block, (x.add (j * 3)).off + 2, none⟩ = some (.slice (some y) md cd) ∧ W.cell? (y.add t) = some (.string z) := by
  obtain ⟨w0, w1, w2, _⟩ := box_cells hs
  obtain ⟨y', hy, hc⟩ := ha.ds t ht
  injection hy with hy
  subst hy
  have q2 := ha.c2
  rw [fld x (j * 3) 2 (by decide)] at q2
  simp only at q2 hc
  rw [← hm] at q2
  rw [← hz] at hc
  exact ⟨(box2_cells hb).2.1, w0, w1, w2, ha.c0, q2, hc⟩

set_option maxHeartbeats 8000000 in
set_option maxRecDepth 100000 in
theorem rMake_any (b : Ba) (a : Option Addr) (n c : Nat) (fs : List Int) (fa : Option Addr) (fn fc : Nat) (s : Sm) (ix : Int) (w : World) (hs : baSum b ≤ 1000000) (hl : b.p.length = n) (h : PtsIn w a b.p)
    (hfl : fs.length = fn) (hfn : fn ≤ 1000000) (hf : IntsIn w fa fs) (hfb : ∀ f ∈ fs, -2199023255552 ≤ f ∧ f ≤ 2199023255552) (hi0 : -2199023255552 ≤ ix) (hi1 : ix ≤ 2199023255552) :
    Calls Try.prog 33 #[.agg #[.string b.k, .slice a n c], .slice fa fn fc, .agg #[.int .i64 s.w, .int .i64 s.l, .int .i64 s.n], .int .i64 ix] w (EvsPost w.heap.size (makeL b.p fs s ix) w) := by
  obtain ⟨i0, hi, hz0, hz1, hz2⟩ := info_parts infoEvent
  obtain ⟨hfit, s1, s2, s3, s4⟩ := ba_small hs
  have hdl := fun j => dLens_le hs j
  have hml := mkUpto_len b.p fs s ix
  have hms := mkUpto_succ b.p fs s ix
  have bA := ((Below.refl w.heap.size w).alloc (Nat.le_refl _) (.cells #[.string b.k, .slice a n c] 24)).alloc (by simp) (.cells #[.int .i64 s.w, .int .i64 s.l, .int .i64 s.n] 40)
  have gA := box_alloc (heap_alloc_new w (.cells #[.string b.k, .slice a n c] 24)) (.cells #[.int .i64 s.w, .int .i64 s.l, .int .i64 s.n] 40)
  have gB := heap_alloc_new (w.alloc (.cells #[.string b.k, .slice a n c] 24)) (.cells #[.int .i64 s.w, .int .i64 s.l, .int .i64 s.n] 40)
  rw [World.size_alloc] at gB
  obtain ⟨k, ps⟩ := b
  simp only at *
  rw [hl] at s2
  have HN := Lib.hid hl.symm
  have HFN := Lib.hid hfl.symm
  have HP := Lib.hid h
  have HF := Lib.hid hf
  have HFB := Lib.hid hfb
  have HS3 := Lib.hid s3
  have HDL := Lib.hid hdl
  have HML := Lib.hid hml
  have HMS := Lib.hid hms
  have HR0 : Hid (RkRel w _ k a n c (.slice none 0 0) 0 [] s) := ⟨rfl, World.ownsRow_nil _ _ _ _, gA, gB, bA⟩
  clear hfit hl hfl h hf hfb s3 hs hdl hml hms bA gA gB
  go_enter Try.func33, Try.ntmps33
  go_wp2
  go_loopw [9, 10] (fun v i wr => ∃ (j m : Nat) (va : Option Addr) (vc : Nat), i = .int .i64 j ∧ j ≤ n ∧ v = .slice va m vc ∧ Hid (RkRel w wr k a n c (.slice va m vc) m (mkUpto ps fs s ix j) s)) (fun _ i _ => n - (intOf i).toNat)
  case atStart => exact ⟨0, 0, none, 0, rfl, Nat.zero_le _, rfl, HR0.out⟩
  case round =>
    obtain ⟨j, m, va, vc, rfl, hj, rfl, HR⟩ := hrel
    obtain ⟨wo, hwo⟩ : ∃ wo : World, wo = wr := ⟨_, rfl⟩
    subst hwo
    obtain ⟨_, p1, _, _⟩ := box2_cells HR.out.bt
    by_cases hlt : j < n
    · have hlt2 : j < ps.length := by have := HN.out; omega
      obtain ⟨x, d, cd, rfl, hat0⟩ := HP.out j hlt2
      have HAT := Lib.hid hat0
      obtain ⟨hps, hdl, hdz⟩ := HS3.out _ (List.getElem_mem hlt2)
      have HNX := Lib.hid (HMS.out j hlt2)
      have hl1 := HML.out (j + 1) (by omega)
      have hl2 := HDL.out (j + 1)
      rw [← hl1, HNX.out, List.length_append, putEvs_len] at hl2
      have hmm := HR.out.len
      obtain ⟨p, hp⟩ : ∃ p, p = ps[j]'hlt2 := ⟨_, rfl⟩
      rw [← hp] at HAT hps hdl hdz HNX hl2
      obtain ⟨ps0, pe, dl⟩ := p
      simp only at HAT hps hdl hdz HNX hl2
      obtain ⟨md, hmd⟩ : ∃ md, md = dl.length := ⟨_, rfl⟩
      rw [← hmd] at hdl HNX hl2
      rw [← hmm] at hl2
      have HMD := Lib.hid hmd
      have HDZ := Lib.hid hdz
      have hji0 : (0 : Int) ≤ (j : Int) := by omega
      have hji1 : (j : Int) < (n : Int) := by omega
      obtain ⟨fv, hfv⟩ : ∃ fv, fv = fs[j]? := ⟨_, rfl⟩
      obtain ⟨L0, hL0⟩ : ∃ L0, L0 = mkUpto ps fs s ix j := ⟨_, rfl⟩
      have HFV := Lib.hid hfv
      have HL0 := Lib.hid hL0
      have HR1 : Hid (RkRel w wo k (some x) n c (.slice va m vc) m (L0 ++ putEvs ⟨ps0, pe, dl⟩ fv s (ix + m) 0) s) := by
        have e : L0 ++ putEvs ⟨ps0, pe, dl⟩ fv s (ix + m) 0 = mkUpto ps fs s ix j := by rw [hL0]; simp [putEvs]
        show RkRel _ _ _ _ _ _ _ _ _ _
        rw [e]
        exact HR.out
      clear hp hmd hat0 hl1 hmm hdz hfv hL0
      by_cases hjf : j < fn
      · have hjf2 : j < fs.length := by have := HFN.out; omega
        obtain ⟨xf, rfl, hxf0⟩ := HF.out j hjf2
        have hxf := cell_later HR.out.below hxf0
        obtain ⟨fb0, fb1⟩ := HFB.out _ (List.getElem_mem hjf2)
        have hfe : fv = some (fs[j]'hjf2) := by rw [HFV.out, List.getElem?_eq_getElem hjf2]
        obtain ⟨f, hf⟩ : ∃ f, f = fs[j]'hjf2 := ⟨_, rfl⟩
        rw [← hf] at hxf fb0 fb1 hfe
        have HFE := Lib.hid hfe
        clear hf hxf0 hfe
        have hji3 : (j : Int) < (fn : Int) := by omega
        go_wp2
        go_loopw [9, 12] (fun v i wr => ∃ (t m' : Nat) (va : Option Addr) (vc : Nat), i = .int .i64 t ∧ t ≤ md ∧ v = .slice va m' vc ∧ Hid (m' = m + t) ∧ m' ≤ m + md ∧ Hid (RkRel w wr k (some x) n c (.slice va m' vc) m' (L0 ++ putEvs ⟨ps0, pe, dl⟩ fv s (ix + m) t) s)) (fun _ i _ => md - (intOf i).toNat)
        case atStart => exact ⟨0, m, va, vc, rfl, Nat.zero_le _, rfl, rfl, by omega, HR1.out⟩
        case round =>
          clear p1
          obtain ⟨t, m', va', vc', rfl, ht, rfl, HM', hm'b, HI⟩ := hrel
          obtain ⟨_, b1, _, _⟩ := box2_cells HI.out.bt
          obtain ⟨w0, w1, w2, _⟩ := box_cells HI.out.st
          have hat := HAT.out.later HI.out.below
          have q0 := hat.c0
          have q2 := hat.c2
          simp only at q0 q2
          rw [← HMD.out] at q2
          rw [fld x (j * 3) 2 (by decide)] at q2
          by_cases htm : t < md
          · have htm2 : t < dl.length := by have := HMD.out; omega
            obtain ⟨y, rfl, hy⟩ := hat.ds t htm2
            have hzs := HDZ.out _ (List.getElem_mem htm2)
            have HPS := Lib.hid (putEvs_succ ⟨ps0, pe, dl⟩ fv s (ix + m) t htm2)
            obtain ⟨z, hz⟩ : ∃ z, z = dl[t]'htm2 := ⟨_, rfl⟩
            simp only at HPS hy
            rw [← hz] at hy hzs HPS
            have hti0 : (0 : Int) ≤ (t : Int) := by omega
            have hti1 : (t : Int) < (md : Int) := by omega
            have hix : IntKind.i64.wrap (ix + (m' : Int)) = ix + (m' : Int) := IntWalk.i64_in _ (by omega)
            have hO := HI.out.own
            have hzw := HI.out.below.size
            have hS0 : w.heap.size + 1 < wr.heap.size := lt_of_block HI.out.st
            have HZ := Lib.hid hz
            have HSW := rkS HI.out.bt HI.out.st hat HMD.out htm2 hz
            have HAPP : Hid (∀ (W2 W3 : World) (o : Obj), W2.heap = wr.heap → Below w.heap.size w W2 → W2.ownsRow w.heap.size 42 7 (.slice va' m' vc') m' (rowOf evCells (L0 ++ putEvs ⟨ps0, pe, dl⟩ fv s (ix + m) t)) → (W2.alloc o).grownBy W3 (Value.slice va' m' vc').ownBlock → Below w.heap.size w W3 ∧ W3.heap[w.heap.size]? = some (.cells #[.string k, .slice (some x) n c] 24 (0, 0)) ∧ W3.heap[w.heap.size + 1]? = some (.cells #[.int .i64 s.w, .int .i64 s.l, .int .i64 s.n] 40 (0, 0))) := fun W2 W3 o e1 e2 e3 e4 => ⟨below_app e2 (Nat.le_refl _) e3 e4, stay_app (by rw [e1]; exact HI.out.bt) e3 (by decide) e4, stay_app (by rw [e1]; exact HI.out.st) e3 (by decide) e4⟩
            have HBD : Hid (Below w.heap.size w wr) := HI.out.below
            clear hz hat
            go_wp2_with fail
            go_region_held3 (fun w' => w'.cell? ⟨w.heap.size, 1, none⟩ = some (.slice (some x) n c) ∧ w'.cell? ⟨w.heap.size + 1, 0, none⟩ = some (.int .i64 s.w) ∧ w'.cell? ⟨w.heap.size + 1, 1, none⟩ = some (.int .i64 s.l) ∧ w'.cell? ⟨w.heap.size + 1, 2, none⟩ = some (.int .i64 s.n) ∧ w'.cell? (x.add (j * 3)) = some (.string ps0) ∧ w'.cell? ⟨(x.add (j * 3)).block, (x.add (j * 3)).off + 2, none⟩ = some (.slice (some y) md cd) ∧ w'.cell? (y.add t) = some (.string z))
              (first
                | exact HSW
                | exact hs3
                | go_keep)
              (first
                | ((refine step_append_lies _ (by rfl) _ _ _ (by rfl) w.heap.size 42 i0 (.agg #[.string ⟨#[]⟩, .int .i64 0, .string ⟨#[]⟩, .int .i64 0, .int .i64 0, .int .i64 0, .int .i64 0]) 7 72 Try.underlying50 hi hz0 hz1 hz2 (by rfl) (by omega) _ _ (rowOf evCells (L0 ++ putEvs ⟨ps0, pe, dl⟩ fv s (ix + m) t)) (by rfl) (by first | exact (hO.alloc _).drew | exact hO.drew.alloc _ | exact hO.alloc _) ⟨wr.heap.size, 0, none⟩ 1 1 _ (by rfl) (by rfl) (World.news_of_block (t := 42) (fr := (0, 0)) (heap_alloc_new wr _)) (by simp [Value.oneCell']) (by omega) (by unfold maxLen; omega) (by omega) (by simp; omega) (wr.heap.size + 1) (by simp) ?_; intro gg c3 W3 o3 g3 hat3 hlt3; have HA3 := (by first | exact HAPP.out wr.drew W3 _ rfl HBD.out.drew hO g3 | exact HAPP.out wr W3 _ rfl HBD.out hO g3); have hs3 := rkS HA3.2.1 HA3.2.2 (HAT.out.later HA3.1) HMD.out htm2 HZ.out))
                | fail)
            have HB3 := Lib.hid HA3.1
            have hbt3 := HA3.2.1
            have hst3 := HA3.2.2
            have HR3 : Hid (RkRel w W3 k (some x) n c (.slice (some ⟨gg, 0, none⟩) (m' + 1) c3) (m' + 1) (L0 ++ putEvs ⟨ps0, pe, dl⟩ fv s (ix + m) (t + 1)) s) := by
              refine ⟨?_, ?_, hbt3, hst3, HB3.out⟩
              · have := HI.out.len
                rw [List.length_append, putEvs_len] at this ⊢
                omega
              · rw [HPS.out, ← List.append_assoc, rowOf_append, rowOf_one]
                have e : (⟨ps0, verOf fv t, z, s, ix + m + t⟩ : Ev) = ⟨ps0, f + t, z, s, ix + m'⟩ := by
                  rw [HFE.out]
                  have := HM'.out
                  simp only [verOf, Ev.mk.injEq, true_and]
                  omega
                rw [e]
                exact o3
            clear o3 g3 hat3 hlt3 HA3 hs3 HSW hst3 hbt3 hO b1 w0 w1 w2 q0 q2 hy
            go_wp2
            go_roundw
            case rel => exact ⟨t + 1, m' + 1, some ⟨gg, 0, none⟩, c3, by go_num, by omega, by go_num, (by have := HM'.out; show _ = _; omega), by have := HM'.out; omega, HR3.out⟩
            case measure => simp [intOf]; omega
          · have htd : t = md := by omega
            have HN2 : Hid (RkRel w wr k (some x) n c (.slice va' m' vc') m' (mkUpto ps fs s ix (j + 1)) s) := by
              have e : mkUpto ps fs s ix (j + 1) = L0 ++ putEvs ⟨ps0, pe, dl⟩ fv s (ix + m) t := by
                rw [HNX.out, HL0.out, HFV.out, htd, ← HR.out.len]
              show RkRel _ _ _ _ _ _ _ _ _ _
              rw [e]
              exact HI.out
            clear htd
            go_wp2
            go_roundw
            case rel => exact ⟨j + 1, m', va', vc', by go_num, by omega, by first | rfl | go_num, HN2.out⟩
            case measure => simp [intOf]; omega
      · have hji3 : ¬ (j : Int) < (fn : Int) := by omega
        have HFE : Hid (fv = none) := by show _ = _; rw [HFV.out]; exact List.getElem?_eq_none (by have := HFN.out; omega)
        go_wp2
        go_loopw [9, 12] (fun v i wr => ∃ (t m' : Nat) (va : Option Addr) (vc : Nat), i = .int .i64 t ∧ t ≤ md ∧ v = .slice va m' vc ∧ Hid (m' = m + t) ∧ m' ≤ m + md ∧ Hid (RkRel w wr k (some x) n c (.slice va m' vc) m' (L0 ++ putEvs ⟨ps0, pe, dl⟩ fv s (ix + m) t) s)) (fun _ i _ => md - (intOf i).toNat)
        case atStart => exact ⟨0, m, va, vc, rfl, Nat.zero_le _, rfl, rfl, by omega, HR1.out⟩
        case round =>
          clear p1
          obtain ⟨t, m', va', vc', rfl, ht, rfl, HM', hm'b, HI⟩ := hrel
          obtain ⟨_, b1, _, _⟩ := box2_cells HI.out.bt
          obtain ⟨w0, w1, w2, _⟩ := box_cells HI.out.st
          have hat := HAT.out.later HI.out.below
          have q0 := hat.c0
          have q2 := hat.c2
          simp only at q0 q2
          rw [← HMD.out] at q2
          rw [fld x (j * 3) 2 (by decide)] at q2
          by_cases htm : t < md
          · have htm2 : t < dl.length := by have := HMD.out; omega
            obtain ⟨y, rfl, hy⟩ := hat.ds t htm2
            have hzs := HDZ.out _ (List.getElem_mem htm2)
            have HPS := Lib.hid (putEvs_succ ⟨ps0, pe, dl⟩ fv s (ix + m) t htm2)
            obtain ⟨z, hz⟩ : ∃ z, z = dl[t]'htm2 := ⟨_, rfl⟩
            simp only at HPS hy
            rw [← hz] at hy hzs HPS
            have hti0 : (0 : Int) ≤ (t : Int) := by omega
            have hti1 : (t : Int) < (md : Int) := by omega
            have hix : IntKind.i64.wrap (ix + (m' : Int)) = ix + (m' : Int) := IntWalk.i64_in _ (by omega)
            have hO := HI.out.own
            have hzw := HI.out.below.size
            have hS0 : w.heap.size + 1 < wr.heap.size := lt_of_block HI.out.st
            have HZ := Lib.hid hz
            have HSW := rkS HI.out.bt HI.out.st hat HMD.out htm2 hz
            have HAPP : Hid (∀ (W2 W3 : World) (o : Obj), W2.heap = wr.heap → Below w.heap.size w W2 → W2.ownsRow w.heap.size 42 7 (.slice va' m' vc') m' (rowOf evCells (L0 ++ putEvs ⟨ps0, pe, dl⟩ fv s (ix + m) t)) → (W2.alloc o).grownBy W3 (Value.slice va' m' vc').ownBlock → Below w.heap.size w W3 ∧ W3.heap[w.heap.size]? = some (.cells #[.string k, .slice (some x) n c] 24 (0, 0)) ∧ W3.heap[w.heap.size + 1]? = some (.cells #[.int .i64 s.w, .int .i64 s.l, .int .i64 s.n] 40 (0, 0))) := fun W2 W3 o e1 e2 e3 e4 => ⟨below_app e2 (Nat.le_refl _) e3 e4, stay_app (by rw [e1]; exact HI.out.bt) e3 (by decide) e4, stay_app (by rw [e1]; exact HI.out.st) e3 (by decide) e4⟩
            have HBD : Hid (Below w.heap.size w wr) := HI.out.below
            clear hz hat
            go_wp2_with fail
            go_region_held3 (fun w' => w'.cell? ⟨w.heap.size, 1, none⟩ = some (.slice (some x) n c) ∧ w'.cell? ⟨w.heap.size + 1, 0, none⟩ = some (.int .i64 s.w) ∧ w'.cell? ⟨w.heap.size + 1, 1, none⟩ = some (.int .i64 s.l) ∧ w'.cell? ⟨w.heap.size + 1, 2, none⟩ = some (.int .i64 s.n) ∧ w'.cell? (x.add (j * 3)) = some (.string ps0) ∧ w'.cell? ⟨(x.add (j * 3)).block, (x.add (j * 3)).off + 2, none⟩ = some (.slice (some y) md cd) ∧ w'.cell? (y.add t) = some (.string z))
              (first
                | exact HSW
                | exact hs3
                | go_keep)
              (first
                | ((refine step_append_lies _ (by rfl) _ _ _ (by rfl) w.heap.size 42 i0 (.agg #[.string ⟨#[]⟩, .int .i64 0, .string ⟨#[]⟩, .int .i64 0, .int .i64 0, .int .i64 0, .int .i64 0]) 7 72 Try.underlying50 hi hz0 hz1 hz2 (by rfl) (by omega) _ _ (rowOf evCells (L0 ++ putEvs ⟨ps0, pe, dl⟩ fv s (ix + m) t)) (by rfl) (by first | exact (hO.alloc _).drew | exact hO.drew.alloc _ | exact hO.alloc _) ⟨wr.heap.size, 0, none⟩ 1 1 _ (by rfl) (by rfl) (World.news_of_block (t := 42) (fr := (0, 0)) (heap_alloc_new wr _)) (by simp [Value.oneCell']) (by omega) (by unfold maxLen; omega) (by omega) (by simp; omega) (wr.heap.size + 1) (by simp) ?_; intro gg c3 W3 o3 g3 hat3 hlt3; have HA3 := (by first | exact HAPP.out wr.drew W3 _ rfl HBD.out.drew hO g3 | exact HAPP.out wr W3 _ rfl HBD.out hO g3); have hs3 := rkS HA3.2.1 HA3.2.2 (HAT.out.later HA3.1) HMD.out htm2 HZ.out))
                | fail)
            have HB3 := Lib.hid HA3.1
            have hbt3 := HA3.2.1
            have hst3 := HA3.2.2
            have HR3 : Hid (RkRel w W3 k (some x) n c (.slice (some ⟨gg, 0, none⟩) (m' + 1) c3) (m' + 1) (L0 ++ putEvs ⟨ps0, pe, dl⟩ fv s (ix + m) (t + 1)) s) := by
              refine ⟨?_, ?_, hbt3, hst3, HB3.out⟩
              · have := HI.out.len
                rw [List.length_append, putEvs_len] at this ⊢
                omega
              · rw [HPS.out, ← List.append_assoc, rowOf_append, rowOf_one]
                have e : (⟨ps0, verOf fv t, z, s, ix + m + t⟩ : Ev) = ⟨ps0, 0, z, s, ix + m'⟩ := by
                  rw [HFE.out]
                  have := HM'.out
                  simp only [verOf, Ev.mk.injEq, true_and]
                  omega
                rw [e]
                exact o3
            clear o3 g3 hat3 hlt3 HA3 hs3 HSW hst3 hbt3 hO b1 w0 w1 w2 q0 q2 hy
            go_wp2
            go_roundw
            case rel => exact ⟨t + 1, m' + 1, some ⟨gg, 0, none⟩, c3, by go_num, by omega, by go_num, (by have := HM'.out; show _ = _; omega), by have := HM'.out; omega, HR3.out⟩
            case measure => simp [intOf]; omega
          · have htd : t = md := by omega
            have HN2 : Hid (RkRel w wr k (some x) n c (.slice va' m' vc') m' (mkUpto ps fs s ix (j + 1)) s) := by
              have e : mkUpto ps fs s ix (j + 1) = L0 ++ putEvs ⟨ps0, pe, dl⟩ fv s (ix + m) t := by
                rw [HNX.out, HL0.out, HFV.out, htd, ← HR.out.len]
              show RkRel _ _ _ _ _ _ _ _ _ _
              rw [e]
              exact HI.out
            clear htd
            go_wp2
            go_roundw
            case rel => exact ⟨j + 1, m', va', vc', by go_num, by omega, by first | rfl | go_num, HN2.out⟩
            case measure => simp [intOf]; omega
    · have HE : Hid (mkUpto ps fs s ix j = makeL ps fs s ix) := by show _ = _; unfold makeL; rw [show j = ps.length from by have := HN.out; omega]
      go_wp2
      go_ret
      rw [← HE.out]
      exact ⟨va, m, vc, rfl, HR.out.len, HR.out.own, HR.out.below⟩

end Go.Proofs.Ytggognmbjgkdfaa
