/-
  Contracts: Delete (of the last element).
-/
import Derived.Test.YtfhdbenomkbfjaaB
import Derived.Lib.SliceRun
import Derived.Deep.Upon
import Derived.BigFrame

namespace Go.Proofs.Ytfhdbenomkbfjaa
open Go.RowKit Te Go.Frame

theorem Try.info31 : (Try.prog.info? 31).map (fun i => (i.zero, i.size, i.bytes)) = some (some (.agg #[.int .i64 0, .int .i64 0, .string { data := #[] }]), 3, 32) := by kernel_rfl
theorem zero31 (w : World) : (zeroValue 31).run Try.prog w = .ok (.agg #[.int .i64 0, .int .i64 0, .string { data := #[] }]) w := by kernel_rfl
theorem zcells31 : (Builtin.zeroCells (Value.agg #[.int .i64 0, .int .i64 0, .string { data := #[] }]).cells 1).toList = [.int .i64 0, .int .i64 0, .string { data := #[] }] := by kernel_rfl
theorem clear_one (W : World) (b o c : Nat) (ty : TypeId) (hc : ∀ j, j < 3 → (W.cell? ⟨b, o + j, none⟩).isSome = true) (hf : ∀ j, j < 3 → W.frozen? ⟨b, o + j, none⟩ = false) :
    (Builtin.clear_ #[27] ty #[.slice (some ⟨b, o, none⟩) 1 c]).run Try.prog W = .ok (.tuple #[]) (W.setCells b o [.int .i64 0, .int .i64 0, .string { data := #[] }]) := by
  have hst := run_storeCells_cells (P := Try.prog) b o [.int .i64 0, .int .i64 0, .string { data := #[] }] 0 W (by simpa using hc) (by simpa using hf) (by intro v hv; simp at hv; rcases hv with rfl | rfl | rfl <;> rfl)
  simp only [Nat.add_zero] at hst
  simp [Builtin.clear_, run_underlying Try.underlying27, zcells31, hst]
/-- What Delete of the last element comes to. -/
def DelRes (g n c : Nat) (cur : Array Value) (w : World) (e : Ending) (w' : World) : Prop :=
  e = .returned (.slice (some ⟨g, 0, none⟩) n c) ∧ (∃ cur' : Array Value, w'.heap[g]? = some (.cells cur' 31 (0, 0)) ∧ cur'.size = cur.size ∧ cur'.toList.take (n * 3) = cur.toList.take (n * 3)) ∧ Kept (· = g) w w'
theorem setCells3 {W : World} {g o : Nat} {cur : Array Value} {x y z : Value} (hg : W.heap[g]? = some (.cells cur 31 (0, 0))) : ∃ cur' : Array Value, (W.setCells g o [x, y, z]).heap[g]? = some (.cells cur' 31 (0, 0)) ∧ cur'.size = cur.size ∧ cur'.toList.take o = cur.toList.take o := by
  refine ⟨((cur.setIfInBounds o x).setIfInBounds (o + 1) y).setIfInBounds (o + 1 + 1) z, ?_, by simp, ?_⟩
  · simp only [World.setCells]
    exact blk_put (blk_put (blk_put hg))
  · simp only [Array.toList_setIfInBounds]
    rw [List.take_set_of_le (by omega), List.take_set_of_le (by omega), List.take_set_of_le (by omega)]
theorem kept3 {W : World} {g o : Nat} {x y z : Value} : Kept (· = g) W (W.setCells g o [x, y, z]) := by
  simp only [World.setCells]
  exact (((Kept.refl _ _).setCell (by rfl) _).setCell (by rfl) _).setCell (by rfl) _
set_option maxRecDepth 100000 in
set_option maxHeartbeats 4000000 in
theorem delete_any (g n c : Nat) (cur : Array Value) (w : World) (hg : w.heap[g]? = some (.cells cur 31 (0, 0))) (hn : n + 1 ≤ c) (hc : c ≤ 9223372036854775807) (hs : cur.size = c * 3) :
    Calls Try.prog 35 #[.slice (some ⟨g, 0, none⟩) (n + 1) c, .int .i64 (n : Int), .int .i64 ((n : Int) + 1)] w fun e w' => DelRes g n c cur w e w' := by
  obtain ⟨i0, hi, hz0, hz1, hz2⟩ := info_parts Try.info31
  have hap : ∀ (W : World) (p : Option Addr) (c' : Nat) (ty : TypeId), (Builtin.append_ #[27, 27] ty #[.slice (some ⟨g, 0, none⟩) n c, .slice p 0 c']).run Try.prog W = .ok (.slice (some ⟨g, 0, none⟩) n c) W := fun W p c' ty => by
    refine run_append_nothing W 27 27 ty 31 i0 Try.underlying27 hi (some ⟨g, 0, none⟩) n c (by omega) _ ?_
    cases p with
    | none => exact Src.ofNil W Try.underlying27 c'
    | some a => exact Src.ofSlice W Try.underlying27 a 0 c' [] (by simp) (by simp) (by simp)
  have hn0 : (0 : Int) ≤ (n : Int) := by omega
  have hn1 : (n : Int) + 1 ≤ (c : Int) := by omega
  have hn2 : (n : Int) ≤ (c : Int) := by omega
  have hc1 : (c : Int) ≤ 9223372036854775807 := by omega
  have hne : ((n : Int) == (n : Int) + 1) = false := beq_eq_false_iff_ne.2 (by omega)
  have hnc : ¬ c = n := by omega
  have HG := hid hg
  have hcl : ∀ (a cp : Nat) (ty : TypeId), (Builtin.clear_ #[27] ty #[.slice (some ⟨g, n * 3, none⟩) 1 cp]).run Try.prog (w.drewN a) = .ok (.tuple #[]) ((w.drewN a).setCells g (n * 3) [.int .i64 0, .int .i64 0, .string { data := #[] }])   := fun a cp ty => by
    have hg' : (w.drewN a).heap[g]? = some (.cells cur 31 (0, 0)) := by rw [show (w.drewN a).heap = w.heap by simp]; exact hg
    refine clear_one _ _ _ _ _ ?_ ?_
    · intro j hj
      have : n * 3 + j < cur.size := by rw [hs]; omega
      simp only [World.cell?, hg']
      simp [this]
    · intro j hj
      exact free hg' _
  have HC := hid hn
  have HS := hid hs
  clear hg hs hi hz0 hz1 hz2
  by_cases hcn : c = n + 1
  · have HE := hid hcn
    have hc3 : (c : Int) = (n : Int) + 1 := by omega
    go_enter Try.func35, Try.ntmps35
    go_wp2
    go_quiet (fail)
    go_wp2
    go_ret
    refine ⟨by rw [hcn]; rfl, ?_, ?_⟩
    · refine setCells3 ?_
      simpa using HG.out
    · refine Kept.trans (b := w.drewN nq) ⟨(below_drewN (Below.refl w.heap.size w) nq).os, (below_drewN (Below.refl w.heap.size w) nq).tape, (below_drewN (Below.refl w.heap.size w) nq).output, (below_drewN (Below.refl w.heap.size w) nq).size, fun k _ => by simp⟩ kept3
  · go_enter Try.func35, Try.ntmps35
    go_wp2
    go_quiet (fail)
    go_wp2
    go_ret
    refine ⟨rfl, ?_, ?_⟩
    · refine setCells3 ?_
      simpa using HG.out
    · refine Kept.trans (b := w.drewN nq) ⟨(below_drewN (Below.refl w.heap.size w) nq).os, (below_drewN (Below.refl w.heap.size w) nq).tape, (below_drewN (Below.refl w.heap.size w) nq).output, (below_drewN (Below.refl w.heap.size w) nq).size, fun k _ => by simp⟩ kept3
end Go.Proofs.Ytfhdbenomkbfjaa
