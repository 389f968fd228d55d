/-
  The reference's four and word.
-/
import Derived.Test.YtkoboogbdpagpaaFrA
import Derived.Lib.EndianBits
set_option linter.unusedVariables false
namespace Go.Proofs.Ytkoboogbdpagpaa
open Go.RowKit

/-- A number's four bytes, the least first. -/
def le4 (v : Nat) : List UInt8 := [UInt8.ofNat v, UInt8.ofNat (v / 256), UInt8.ofNat (v / 65536), UInt8.ofNat (v / 16777216)]
/-- The number of four bytes. -/
def wd (a b c d : UInt8) : Nat := a.toNat + b.toNat * 256 + c.toNat * 65536 + d.toNat * 16777216

set_option maxHeartbeats 2000000 in
set_option maxRecDepth 100000 in
theorem four_any (v : Nat) (hv : v < 4294967296) (w : World) :
    Calls Try.prog 23 #[.int .u32 v] w (OwnPost w.heap.size 4 (le4 v) w) := by
  go_enter Try.func23, Try.ntmps23
  go_wp2
  go_ret
  have h := World.ownsRow_lit (base := w.heap.size) (e := 5) (size := 1) w #[.int .u8 ((v : Int) % 256), .int .u8 ((v : Int) / 256 % 256), .int .u8 ((v : Int) / 65536 % 256), .int .u8 ((v : Int) / 16777216)] 4 (Nat.le_refl _) (by decide) rfl
  have e : (#[Value.int .u8 ((v : Int) % 256), .int .u8 ((v : Int) / 256 % 256), .int .u8 ((v : Int) / 65536 % 256), .int .u8 ((v : Int) / 16777216)]).toList = Lib.byteCells (le4 v) := by
    simp only [Lib.byteCells, le4, List.map_cons, List.map_nil, UInt8.toNat_ofNat']
    have a1 : ((v % 2 ^ 8 : Nat) : Int) = (v : Int) % 256 := by omega
    have a2 : ((v / 256 % 2 ^ 8 : Nat) : Int) = (v : Int) / 256 % 256 := by omega
    have a3 : ((v / 65536 % 2 ^ 8 : Nat) : Int) = (v : Int) / 65536 % 256 := by omega
    have a4 : ((v / 16777216 % 2 ^ 8 : Nat) : Int) = (v : Int) / 16777216 := by omega
    rw [a1, a2, a3, a4]
  rw [e] at h
  exact ⟨_, _, rfl, h, (Below.refl _ w).alloc (Nat.le_refl _) _⟩

theorem word_val (a b c d : UInt8) : bits .or .u32 (bits .or .u32 (bits .or .u32 ((a.toNat : Int) % 4294967296) ((b.toNat : Int) % 4294967296 * 256 % 4294967296)) ((c.toNat : Int) % 4294967296 * 65536 % 4294967296)) ((d.toNat : Int) % 4294967296 * 16777216 % 4294967296) = (wd a b c d : Nat) := by
  have ha := UInt8.toNat_lt a
  have hb := UInt8.toNat_lt b
  have hc := UInt8.toNat_lt c
  have hd := UInt8.toNat_lt d
  have e1 : bits .or .u32 ((a.toNat : Int) % 4294967296) ((b.toNat : Int) % 4294967296 * 256 % 4294967296) = (a.toNat : Int) + b.toNat * 256 := by
    rw [bits_join_low .u32 32 (by decide) wraps_u32 8 _ _ (by omega) (by omega) (by omega) (by omega) (by omega) (by omega)]; omega
  have e2 : bits .or .u32 ((a.toNat : Int) + b.toNat * 256) ((c.toNat : Int) % 4294967296 * 65536 % 4294967296) = (a.toNat : Int) + b.toNat * 256 + c.toNat * 65536 := by
    rw [bits_join_low .u32 32 (by decide) wraps_u32 16 _ _ (by omega) (by omega) (by omega) (by omega) (by omega) (by omega)]; omega
  have e3 : bits .or .u32 ((a.toNat : Int) + b.toNat * 256 + c.toNat * 65536) ((d.toNat : Int) % 4294967296 * 16777216 % 4294967296) = (a.toNat : Int) + b.toNat * 256 + c.toNat * 65536 + d.toNat * 16777216 := by
    rw [bits_join_low .u32 32 (by decide) wraps_u32 24 _ _ (by omega) (by omega) (by omega) (by omega) (by omega) (by omega)]; omega
  rw [e1, e2, e3]
  unfold wd
  omega

set_option maxHeartbeats 2000000 in
set_option maxRecDepth 100000 in
theorem word_any (x : Addr) (n cap : Nat) (a b c d : UInt8) (w : World) (hn : 4 ≤ n) (h0 : w.cell? (x.add 0) = some (.int .u8 a.toNat)) (h1 : w.cell? (x.add 1) = some (.int .u8 b.toNat)) (h2 : w.cell? (x.add 2) = some (.int .u8 c.toNat)) (h3 : w.cell? (x.add 3) = some (.int .u8 d.toNat)) :
    Calls Try.prog 27 #[.slice (some x) n cap] w fun e w' => e = .returned (.int .u32 (wd a b c d)) ∧ ∃ q, w' = w.drewN q := by
  have j0 : 0 < n := by omega
  have e0 : x.add 0 = x := by unfold Addr.add; simp
  have e1 : x.add 1 = ⟨x.block, x.off + 1, none⟩ := by unfold Addr.add; simp
  have e2 : x.add 2 = ⟨x.block, x.off + 2, none⟩ := by unfold Addr.add; simp
  have e3 : x.add 3 = ⟨x.block, x.off + 3, none⟩ := by unfold Addr.add; simp
  rw [e0] at h0
  rw [e1] at h1
  rw [e2] at h2
  rw [e3] at h3
  clear e0 e1 e2 e3
  have i1 : (1 : Int) < (n : Int) := by omega
  have i2 : (2 : Int) < (n : Int) := by omega
  have i3 : (3 : Int) < (n : Int) := by omega
  go_enter Try.func27, Try.ntmps27
  go_wp2_with fail
  go_quiet (fail)
  go_wp2
  go_ret
  exact ⟨retI (word_val a b c d), _, rfl⟩

end Go.Proofs.Ytkoboogbdpagpaa
