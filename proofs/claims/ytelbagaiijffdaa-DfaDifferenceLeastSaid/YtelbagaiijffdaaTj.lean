/-
  Contract: the law's table of one byte.
-/
import Derived.Test.YtelbagaiijffdaaTi
set_option linter.unusedSimpArgs false
set_option linter.unusedVariables false
namespace Go.Proofs.Ytelbagaiijffdaa
open Go.RowKit Lx Go.Frame

/-- The classes that tell one byte from all others. -/
def clb (b : Nat) : List Int := (List.replicate 256 (0 : Int)).set b 1
theorem clb_len (b : Nat) : (clb b).length = 256 := by unfold clb; rw [List.length_set, List.length_replicate]
set_option maxRecDepth 100000 in
set_option maxHeartbeats 4000000 in
theorem class_any (w : World) (b : Nat) (hb : b < 256) : Calls Try.prog 20 #[.int .u8 (b : Int)] w (NRes w (clb b)) := by
  have hmk : (Instr.makeSlice 22 (.int .i64 256) (.int .i64 256)).run Try.prog w = .ok (.slice (some ⟨w.heap.size, 0, none⟩) 256 256) (w.alloc (.cells (zr 256) 3)) := make_n w 256 (by omega)
  have hB : IB (w.alloc (.cells (zr 256) 3)) w.heap.size (List.replicate 256 0) := alloc_new _ _
  obtain ⟨W, hW⟩ : ∃ W, W = w.alloc (.cells (zr 256) 3) := ⟨_, rfl⟩
  have hbl : Below w.heap.size w W := by rw [hW]; exact bel1 _ _
  rw [← hW] at hmk hB
  have hlt : (b : Int) < 256 := by omega
  have hb0 : (0 : Int) ≤ (b : Int) := by omega
  have hfr : W.frozen? ⟨w.heap.size, b, none⟩ = false := Go.Frame.free hB b
  obtain ⟨z, q0⟩ := hB.cell (i := b) (by rw [List.length_replicate]; exact hb)
  have HN := hid (And.intro (hB.set (i := b) 1) (below_put (b := w.heap.size) (j := b) (u := .int .i64 1) hbl (Nat.le_refl _)))
  unfold NRes
  rw [clb_len]
  clear hW hB hbl
  go_enter Try.func20, Try.ntmps20
  go_wp2_with fail
  go_ret
  exact ⟨⟨w.heap.size, rfl, HN.out.1, Nat.le_refl _⟩, HN.out.2⟩
end Go.Proofs.Ytelbagaiijffdaa
