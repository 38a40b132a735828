/-
  Contracts: OnesCount64, TrailingZeros64; sets as values; with, Has.
-/
import Derived.Test.YtnjlnldbfejjpaaDoorProg
import Derived.Test.YtnjlnldbfejjpaaDoorM
import Derived.Test.YtnjlnldbfejjpaaDoorKt
import Derived.WalkKit
import Derived.Below
import Derived.OneCell
import Derived.BigQuiet
import Derived.BigRegion
import Derived.Deep.RegionHeld3
import Derived.Deep.LoopGhost
import Derived.Outline
import Derived.OwnWalk
import Derived.Laws.BitsAllLaws

set_option linter.unusedSimpArgs false
set_option linter.unusedVariables false
namespace Go.Proofs.YtnjlnldbfejjpaaDoor
open Go.RowKit Bs Go.Frame

theorem wr64 {n : Nat} (h : n < 18446744073709551616) : IntKind.u64.wrap (n : Int) = (n : Int) := by rw [IntKind.wrap_u64]; omega
theorem uand {a b : Nat} (ha : a < 18446744073709551616) (hb : b < 18446744073709551616) : bits .and .u64 (a : Int) (b : Int) = ((a &&& b : Nat) : Int) := u64_and_nat a b ha hb

theorem im127 (x : Nat) (h : x < 4611686018427387904) : bits .and .i64 (x : Int) 127 = ((x % 128 : Nat) : Int) := by
  have e := bits_nat .i64 63 (by decide) (fun n h0 h1 => IntWalk.i64_in n ⟨by omega, by omega⟩) x 127 (by omega) (by decide)
  have e2 : x &&& 127 = x % 128 := Nat.and_two_pow_sub_one_eq_mod x 7
  rw [← e2]
  exact e.1
set_option maxRecDepth 100000 in
set_option maxHeartbeats 2000000 in
theorem ones_any (x : Nat) (w : World) (hx : x < 18446744073709551616) :
    Calls Tryd.prog 31 #[.int .u64 (x : Int)] w fun e w' => e = .returned (.int .i64 (pc 64 x : Int)) ∧ w' = w := by
  obtain ⟨y1, h1⟩ : ∃ y, y = (x / 2 &&& 6148914691236517205) + (x &&& 6148914691236517205) := ⟨_, rfl⟩
  obtain ⟨y2, h2⟩ : ∃ y, y = (y1 / 4 &&& 3689348814741910323) + (y1 &&& 3689348814741910323) := ⟨_, rfl⟩
  obtain ⟨y3, h3⟩ : ∃ y, y = (y2 / 16 + y2) &&& 1085102592571150095 := ⟨_, rfl⟩
  obtain ⟨y4, h4⟩ : ∃ y, y = y3 + y3 / 256 := ⟨_, rfl⟩
  obtain ⟨y5, h5⟩ : ∃ y, y = y4 + y4 / 65536 := ⟨_, rfl⟩
  obtain ⟨y6, h6⟩ : ∃ y, y = y5 + y5 / 4294967296 := ⟨_, rfl⟩
  obtain ⟨r1, r2, r3⟩ := ones y1 y2 y3 y4 y5 y6 h1 h2 h3 h4 h5 h6
  have b1 : x / 2 &&& 6148914691236517205 ≤ 6148914691236517205 := Nat.and_le_right
  have b2 : x &&& 6148914691236517205 ≤ 6148914691236517205 := Nat.and_le_right
  have b3 : y1 / 4 &&& 3689348814741910323 ≤ 3689348814741910323 := Nat.and_le_right
  have b4 : y1 &&& 3689348814741910323 ≤ 3689348814741910323 := Nat.and_le_right
  have e1 : IntKind.u64.wrap (bits .and .u64 ((x : Int) / 2) 6148914691236517205 + bits .and .u64 (x : Int) 6148914691236517205) = (y1 : Int) := by
    have k1 := uand (a := x / 2) (b := 6148914691236517205) (by omega) (by decide)
    have k2 := uand (a := x) (b := 6148914691236517205) hx (by decide)
    rw [show ((x / 2 : Nat) : Int) = (x : Int) / 2 by omega] at k1
    rw [show ((6148914691236517205 : Nat) : Int) = 6148914691236517205 from rfl] at k1 k2
    rw [k1, k2, ← Int.natCast_add, ← h1]
    exact wr64 (by omega)
  have e2 : IntKind.u64.wrap (bits .and .u64 ((y1 : Int) / 4) 3689348814741910323 + bits .and .u64 (y1 : Int) 3689348814741910323) = (y2 : Int) := by
    have k1 := uand (a := y1 / 4) (b := 3689348814741910323) (by omega) (by decide)
    have k2 := uand (a := y1) (b := 3689348814741910323) (by omega) (by decide)
    rw [show ((y1 / 4 : Nat) : Int) = (y1 : Int) / 4 by omega] at k1
    rw [show ((3689348814741910323 : Nat) : Int) = 3689348814741910323 from rfl] at k1 k2
    rw [k1, k2, ← Int.natCast_add, ← h2]
    exact wr64 (by omega)
  have e3 : bits .and .u64 (IntKind.u64.wrap ((y2 : Int) / 16 + (y2 : Int))) 1085102592571150095 = (y3 : Int) := by
    have k1 := uand (a := y2 / 16 + y2) (b := 1085102592571150095) (by omega) (by decide)
    rw [show (y2 : Int) / 16 + (y2 : Int) = ((y2 / 16 + y2 : Nat) : Int) by omega, wr64 (by omega), h3]
    exact k1
  have e4 : IntKind.u64.wrap ((y3 : Int) + (y3 : Int) / 256) = (y4 : Int) := by
    rw [show (y3 : Int) + (y3 : Int) / 256 = (y4 : Int) by omega]; exact wr64 (by omega)
  have e5 : IntKind.u64.wrap ((y4 : Int) + (y4 : Int) / 65536) = (y5 : Int) := by
    rw [show (y4 : Int) + (y4 : Int) / 65536 = (y5 : Int) by omega]; exact wr64 (by omega)
  have e6 : IntKind.u64.wrap ((y5 : Int) + (y5 : Int) / 4294967296) = (y6 : Int) := by
    rw [show (y5 : Int) + (y5 : Int) / 4294967296 = (y6 : Int) by omega]; exact wr64 (by omega)
  have e7 : IntKind.i64.wrap (y6 : Int) = (y6 : Int) := wrapIn (by omega) (by omega)
  have e8 : bits .and .i64 (y6 : Int) 127 = (pc 64 x : Int) := by rw [im127 y6 (by omega), r1]
  clear h1 h2 h3 h4 h5 h6 b1 b2 b3 b4 r1 r2 r3
  go_enter Tryd.func31, Tryd.ntmps31
  go_wp2
  go_ret
  exact ⟨rfl, rfl⟩
end Go.Proofs.YtnjlnldbfejjpaaDoor
