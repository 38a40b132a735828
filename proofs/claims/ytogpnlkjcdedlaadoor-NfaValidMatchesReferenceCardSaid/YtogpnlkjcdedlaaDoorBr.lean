/-
  Contract: the law's own set.
-/
import Derived.Test.YtogpnlkjcdedlaaDoorBq
set_option linter.unusedSimpArgs false
set_option linter.unusedVariables false
namespace Go.Proofs.YtogpnlkjcdedlaaDoor
open Go.RowKit Bs Rg Nf Go.Frame
attribute [local go_sem] eq_zero eq_set

set_option maxRecDepth 100000 in
set_option maxHeartbeats 4000000 in
theorem lset_97 (W : World) : Calls Tryd.prog 29 #[.int .u8 97] W fun e w' => e = .returned (.agg #[.int .i64 3, .int .u64 0, .int .u64 8589934592, .int .u64 0, .int .u64 0, .slice none 0 0]) ∧ Below W.heap.size W w' := by
  go_enter Tryd.func29, Tryd.ntmps29
  go_wp2
  have h0 := two W (.cells #[.int .i64 3, .int .u64 0, .int .u64 8589934592, .int .u64 0, .int .u64 0, .slice none 0 0] 50) (.cells #[.int .u64 0, .int .u64 8589934592, .int .u64 0, .int .u64 0] 48)
  obtain ⟨c0, c1, c2, c3, c4, c5⟩ := cells6 h0.1
  refine bodyPost_ret (v := .agg #[.int .i64 3, .int .u64 0, .int .u64 8589934592, .int .u64 0, .int .u64 0, .slice none 0 0]) ?_ rfl ⟨rfl, h0.2.2.1⟩
  simp [results, Tryd.results29, go_sem, c0, c1, c2, c3, c4, c5]
set_option maxRecDepth 100000 in
set_option maxHeartbeats 4000000 in
theorem lset_98 (W : World) : Calls Tryd.prog 29 #[.int .u8 98] W fun e w' => e = .returned (.agg #[.int .i64 3, .int .u64 0, .int .u64 17179869184, .int .u64 0, .int .u64 0, .slice none 0 0]) ∧ Below W.heap.size W w' := by
  go_enter Tryd.func29, Tryd.ntmps29
  go_wp2
  have h0 := two W (.cells #[.int .i64 3, .int .u64 0, .int .u64 17179869184, .int .u64 0, .int .u64 0, .slice none 0 0] 50) (.cells #[.int .u64 0, .int .u64 17179869184, .int .u64 0, .int .u64 0] 48)
  obtain ⟨c0, c1, c2, c3, c4, c5⟩ := cells6 h0.1
  refine bodyPost_ret (v := .agg #[.int .i64 3, .int .u64 0, .int .u64 17179869184, .int .u64 0, .int .u64 0, .slice none 0 0]) ?_ rfl ⟨rfl, h0.2.2.1⟩
  simp [results, Tryd.results29, go_sem, c0, c1, c2, c3, c4, c5]
/-- The set of one byte. -/
def byt (b : UInt8) : BS := fun x => decide (x = b)
theorem ws97 : (ws (byt 97) 0 = 0 ∧ ws (byt 97) 1 = 8589934592) ∧ ws (byt 97) 2 = 0 ∧ ws (byt 97) 3 = 0 := by
  refine ⟨⟨?_, ?_⟩, ?_, ?_⟩ <;> kernel_rfl
theorem ws98 : (ws (byt 98) 0 = 0 ∧ ws (byt 98) 1 = 17179869184) ∧ ws (byt 98) 2 = 0 ∧ ws (byt 98) 3 = 0 := by
  refine ⟨⟨?_, ?_⟩, ?_, ?_⟩ <;> kernel_rfl
/-- awake's two expressions. -/
def exA : Rx := .mk 6 none8 [.mk 3 (byt 97) []]
def exB : Rx := .mk 4 none8 [.mk 3 (byt 97) [], .mk 3 (byt 98) []]
theorem ok_ab : ([exA, exB].all fun x => fits x 30) = true := by kernel_rfl
theorem parts_ab : partsL [exA, exB] = 5 := by kernel_rfl
theorem npL_ab : npL [exA, exB] = 3 := by kernel_rfl
theorem valid_ab : valid (PA [exA, exB]) = true := by kernel_rfl
theorem PA_plain (l : List Rx) : ∀ a ∈ (PA l).arcs, a.e = false := by
  intro a ha
  simp only [PA, List.mem_flatMap, List.mem_map] at ha
  obtain ⟨i, _, j, _, rfl⟩ := ha
  rfl
theorem PA_ep (l : List Rx) (x y : Nat) : ¬ Ep (PA l) x y := by
  rintro ⟨a, ha, he, _⟩
  rw [PA_plain l a ha] at he
  cases he
theorem PA_after (l : List Rx) (n : Nat) (s : List UInt8) : after (PA l) n s = s.foldl (tgt (PA l)) (ini n [(PA l).st]) := by
  have h1 : Nf.start (PA l) n = ini n [(PA l).st] := clo_none (PA_ep l) _
  have h2 : stp (PA l) = tgt (PA l) := by funext p b; exact clo_none (PA_ep l) _
  unfold after
  rw [h1, h2]
theorem PA_run (l : List Rx) (n : Nat) (s : List UInt8) : run (PA l) n s = least (PA l).acc (elx n (s.foldl (tgt (PA l)) (ini n [(PA l).st]))) := by unfold run; rw [PA_after]
theorem PA_srt (l : List Rx) : Srt (PA l).arcs := by
  have hp : (PA l).arcs.Pairwise fun x y => x.f ≤ y.f := by
    simp only [PA]
    rw [List.pairwise_flatMap]
    refine ⟨fun i _ => ?_, ?_⟩
    · rw [List.pairwise_map]
      exact List.pairwise_iff_getElem.2 fun _ _ _ _ _ => Int.le_refl _
    · refine List.pairwise_lt_range.imp fun {a b} h x hx y hy => ?_
      simp only [List.mem_map] at hx hy
      obtain ⟨_, _, rfl⟩ := hx
      obtain ⟨_, _, rfl⟩ := hy
      show (a : Int) ≤ (b : Int)
      omega
  intro i x y hx hy
  obtain ⟨h1, rfl⟩ := List.getElem?_eq_some_iff.1 hx
  obtain ⟨h2, rfl⟩ := List.getElem?_eq_some_iff.1 hy
  exact List.pairwise_iff_getElem.1 hp i (i + 1) h1 h2 (by omega)
theorem run_aa : run (PA [exA, exB]) 4 [97, 97] = 0 := by rw [PA_run]; kernel_rfl
theorem run_ab : run (PA [exA, exB]) 4 [97, 98] = 1 := by rw [PA_run]; kernel_rfl
theorem run_b : run (PA [exA, exB]) 4 [98] = -1 := by rw [PA_run]; kernel_rfl
end Go.Proofs.YtogpnlkjcdedlaaDoor
