/-
  Contracts: Union, Intersect, Complement.
  Plain maths: sets of bytes, expressions, their shapes, parts and depth, what they match (namespace Rg; no program).
  Sets compared; expressions in memory.
  Contracts: shaped.
  Contracts: fits, Valid, matchable.
-/
import Derived.Test.YtednoideboeehaaDoorZ02
import Derived.Laws.StructEq
import Derived.ChangeKeysEq
import Derived.Deep.LoopGhost
import Derived.LoopIn
import Derived.TacticsInMore
section
set_option linter.unusedSimpArgs false
set_option linter.unusedVariables false
namespace Go.Proofs.YtednoideboeehaaDoor
open Go.RowKit Bs Go.Frame

/-- The first i words of g, the others of p. -/
def mix (g p : Nat → Bool) (i x : Nat) : Bool := if x < 64 * i then g x else p x
theorem mix_zero (g p : Nat → Bool) (x : Nat) : mix g p 0 x = p x := by unfold mix; rw [if_neg (by omega)]
theorem mix_four (g p : Nat → Bool) {x : Nat} (h : x < 256) : mix g p 4 x = g x := by unfold mix; rw [if_pos (by omega)]
theorem wd_mix_lt (g p : Nat → Bool) {i k : Nat} (h : k < i) : wd (mix g p i) k = wd g k := nb_congr fun j hj => by unfold mix; rw [if_pos (by omega)]
theorem wd_mix_ge (g p : Nat → Bool) {i k : Nat} (h : i ≤ k) : wd (mix g p i) k = wd p k := nb_congr fun j hj => by unfold mix; rw [if_neg (by omega)]
theorem or_wd (p q : Nat → Bool) (k : Nat) : bits .or .u64 (wd p k : Int) (wd q k : Int) = (wd (fun x => p x || q x) k : Int) :=
  (u64_or_nat _ _ (wd_lt p k) (wd_lt q k)).trans (congrArg _ (nb_or (fun j => p (64 * k + j)) (fun j => q (64 * k + j)) 64).symm)
theorem and_wd (p q : Nat → Bool) (k : Nat) : bits .and .u64 (wd p k : Int) (wd q k : Int) = (wd (fun x => p x && q x) k : Int) :=
  (u64_and_nat _ _ (wd_lt p k) (wd_lt q k)).trans (congrArg _ (nb_and (fun j => p (64 * k + j)) (fun j => q (64 * k + j)) 64).symm)
theorem not_wd (p : Nat → Bool) (k : Nat) : bits .xor .u64 18446744073709551615 (wd p k : Int) = (wd (fun x => !p x) k : Int) :=
  (u64_xor_nat 18446744073709551615 _ (by decide) (wd_lt p k)).trans (congrArg _ (nb_not (fun j => p (64 * k + j)) 64).symm)

set_option maxRecDepth 100000 in
set_option maxHeartbeats 4000000 in
theorem Union_any (p q : Nat → Bool) (w : World) :
    Calls Tryd.prog 77 #[sv p, sv q] w fun e w' => e = .returned (sv (fun x => p x || q x)) ∧ Below w.heap.size w w' := by
  obtain ⟨g, hg⟩ : ∃ g : Nat → Bool, g = fun x => p x || q x := ⟨_, rfl⟩
  have E := hid (show ∀ k, bits .or .u64 (wd p k : Int) (wd q k : Int) = (wd g k : Int) from fun k => by rw [hg]; exact or_wd p q k)
  rw [← hg]
  clear hg
  obtain ⟨W, hW⟩ : ∃ W, W = ((w.alloc (.cells #[.int .u64 (wd (p) 0 : Int), .int .u64 (wd (p) 1 : Int), .int .u64 (wd (p) 2 : Int), .int .u64 (wd (p) 3 : Int)] 24)).alloc (.cells #[.int .u64 (wd (q) 0 : Int), .int .u64 (wd (q) 1 : Int), .int .u64 (wd (q) 2 : Int), .int .u64 (wd (q) 3 : Int)] 24)).alloc zset := ⟨_, rfl⟩
  obtain ⟨x0, x1, x2, bW, hsz⟩ := three w (.cells #[.int .u64 (wd (p) 0 : Int), .int .u64 (wd (p) 1 : Int), .int .u64 (wd (p) 2 : Int), .int .u64 (wd (p) 3 : Int)] 24) (.cells #[.int .u64 (wd (q) 0 : Int), .int .u64 (wd (q) 1 : Int), .int .u64 (wd (q) 2 : Int), .int .u64 (wd (q) 3 : Int)] 24) zset
  rw [← hW] at x0 x1 x2 bW hsz
  have HW := hid hW
  have HX := hid (And.intro x0 (And.intro x1 (And.intro x2 (And.intro bW hsz))))
  unfold zset at hW
  clear x0 x1 x2 bW hsz
  unfold sv
  go_enter Tryd.func77, Tryd.ntmps77
  go_wp2_with fail
  rw [← hW]
  clear hW
  go_loopg [6] 4 (fun k sl wr => ∃ i : Nat, sl = .int .i64 i ∧ i + k = 4 ∧ SB wr w.heap.size (mix g p i) ∧ SB wr (w.heap.size + 1) q ∧ SB wr (w.heap.size + 1 + 1) (fun _ => false) ∧ Below w.heap.size w wr)
  case atStart => exact ⟨0, rfl, rfl, SB_congr (fun x _ => (mix_zero g p x).symm) HX.out.1, HX.out.2.1, sb_zero HX.out.2.2.1, HX.out.2.2.2.1⟩
  case round =>
    obtain ⟨i, rfl, hk, hA, hB, hC, hbw⟩ := hrel
    have hi5 : i = 0 ∨ i = 1 ∨ i = 2 ∨ i = 3 ∨ i = 4 := by omega
    rcases hi5 with rfl | rfl | rfl | rfl | rfl
    · have hA' : wr.heap[w.heap.size]? = some (.cells #[.int .u64 (wd (p) 0 : Int), .int .u64 (wd (p) 1 : Int), .int .u64 (wd (p) 2 : Int), .int .u64 (wd (p) 3 : Int)] 24 (0, 0)) := by
        have := hA
        unfold SB at this
        rw [wd_mix_ge g p (i := 0) (k := 0) (by decide), wd_mix_ge g p (i := 0) (k := 1) (by decide), wd_mix_ge g p (i := 0) (k := 2) (by decide), wd_mix_ge g p (i := 0) (k := 3) (by decide)] at this
        exact this
      have e0 := E.out 0
      have HH := hid (And.intro hA' (And.intro hB (And.intro hC hbw)))
      clear hA hA' hB hC hbw
      go_wp2_with fail
      refine (wpIn_wide (n := 0)).1 (wpIn_region_below_tail 8 free_wide (by kernel_rfl) (by kernel_rfl) (by kernel_rfl) ?_)
      intro X f _ hf hs
      have lA := heap_lt HH.out.1
      have lB := heap_lt HH.out.2.1
      have k0 := fun x => (cells4 (((hf.out x).block _ lA).trans HH.out.1)).1
      have k1 := fun x => (cells4 (((hf.out x).block _ lB).trans HH.out.2.1)).1
      simp only [List.take_succ_cons, List.take_zero, List.drop_succ_cons, List.drop_zero]
      repeat (go_big_quiet_step (fail))
      refine wpQuiet_nil ?_
      intro Y hY
      have yA := (hY.block _ lA).trans HH.out.1
      have HY := hid hY
      obtain ⟨c0, c1, c2, c3⟩ := cells4 yA
      obtain ⟨f0, f1, f2, f3⟩ := frozen4 yA
      have HYA := hid yA
      clear yA hY k0 k1 hf hs lA lB
      gi_wp2
      go_wp2
      go_roundg (gk - 1)
      case measure => omega
      case rel =>
        obtain ⟨h1, h2, h3, h4⟩ := HH.out
        have h5 := h4.size
        refine ⟨1, by go_num, by omega, ?_, ?_, ?_, ?_⟩
        · unfold SB
          rw [wd_mix_lt g p (i := 1) (k := 0) (by decide), wd_mix_ge g p (i := 1) (k := 1) (by decide), wd_mix_ge g p (i := 1) (k := 2) (by decide), wd_mix_ge g p (i := 1) (k := 3) (by decide)]
          exact blk_put HYA.out
        · unfold SB; exact blk_set ((HY.out.block _ (heap_lt h2)).trans h2) (by show w.heap.size + 1 ≠ w.heap.size; omega)
        · unfold SB; exact blk_set ((HY.out.block _ (heap_lt h3)).trans h3) (by show w.heap.size + 1 + 1 ≠ w.heap.size; omega)
        · exact below_put (h4.trans (HY.out.mono h4.size)) (by omega)
    · have hA' : wr.heap[w.heap.size]? = some (.cells #[.int .u64 (wd (g) 0 : Int), .int .u64 (wd (p) 1 : Int), .int .u64 (wd (p) 2 : Int), .int .u64 (wd (p) 3 : Int)] 24 (0, 0)) := by
        have := hA
        unfold SB at this
        rw [wd_mix_lt g p (i := 1) (k := 0) (by decide), wd_mix_ge g p (i := 1) (k := 1) (by decide), wd_mix_ge g p (i := 1) (k := 2) (by decide), wd_mix_ge g p (i := 1) (k := 3) (by decide)] at this
        exact this
      have e0 := E.out 1
      have HH := hid (And.intro hA' (And.intro hB (And.intro hC hbw)))
      clear hA hA' hB hC hbw
      go_wp2_with fail
      refine (wpIn_wide (n := 0)).1 (wpIn_region_below_tail 8 free_wide (by kernel_rfl) (by kernel_rfl) (by kernel_rfl) ?_)
      intro X f _ hf hs
      have lA := heap_lt HH.out.1
      have lB := heap_lt HH.out.2.1
      have k0 := fun x => (cells4 (((hf.out x).block _ lA).trans HH.out.1)).2.1
      have k1 := fun x => (cells4 (((hf.out x).block _ lB).trans HH.out.2.1)).2.1
      simp only [List.take_succ_cons, List.take_zero, List.drop_succ_cons, List.drop_zero]
      repeat (go_big_quiet_step (fail))
      refine wpQuiet_nil ?_
      intro Y hY
      have yA := (hY.block _ lA).trans HH.out.1
      have HY := hid hY
      obtain ⟨c0, c1, c2, c3⟩ := cells4 yA
      obtain ⟨f0, f1, f2, f3⟩ := frozen4 yA
      have HYA := hid yA
      clear yA hY k0 k1 hf hs lA lB
      gi_wp2
      go_wp2
      go_roundg (gk - 1)
      case measure => omega
      case rel =>
        obtain ⟨h1, h2, h3, h4⟩ := HH.out
        have h5 := h4.size
        refine ⟨2, by go_num, by omega, ?_, ?_, ?_, ?_⟩
        · unfold SB
          rw [wd_mix_lt g p (i := 2) (k := 0) (by decide), wd_mix_lt g p (i := 2) (k := 1) (by decide), wd_mix_ge g p (i := 2) (k := 2) (by decide), wd_mix_ge g p (i := 2) (k := 3) (by decide)]
          exact blk_put HYA.out
        · unfold SB; exact blk_set ((HY.out.block _ (heap_lt h2)).trans h2) (by show w.heap.size + 1 ≠ w.heap.size; omega)
        · unfold SB; exact blk_set ((HY.out.block _ (heap_lt h3)).trans h3) (by show w.heap.size + 1 + 1 ≠ w.heap.size; omega)
        · exact below_put (h4.trans (HY.out.mono h4.size)) (by omega)
    · have hA' : wr.heap[w.heap.size]? = some (.cells #[.int .u64 (wd (g) 0 : Int), .int .u64 (wd (g) 1 : Int), .int .u64 (wd (p) 2 : Int), .int .u64 (wd (p) 3 : Int)] 24 (0, 0)) := by
        have := hA
        unfold SB at this
        rw [wd_mix_lt g p (i := 2) (k := 0) (by decide), wd_mix_lt g p (i := 2) (k := 1) (by decide), wd_mix_ge g p (i := 2) (k := 2) (by decide), wd_mix_ge g p (i := 2) (k := 3) (by decide)] at this
        exact this
      have e0 := E.out 2
      have HH := hid (And.intro hA' (And.intro hB (And.intro hC hbw)))
      clear hA hA' hB hC hbw
      go_wp2_with fail
      refine (wpIn_wide (n := 0)).1 (wpIn_region_below_tail 8 free_wide (by kernel_rfl) (by kernel_rfl) (by kernel_rfl) ?_)
      intro X f _ hf hs
      have lA := heap_lt HH.out.1
      have lB := heap_lt HH.out.2.1
      have k0 := fun x => (cells4 (((hf.out x).block _ lA).trans HH.out.1)).2.2.1
      have k1 := fun x => (cells4 (((hf.out x).block _ lB).trans HH.out.2.1)).2.2.1
      simp only [List.take_succ_cons, List.take_zero, List.drop_succ_cons, List.drop_zero]
      repeat (go_big_quiet_step (fail))
      refine wpQuiet_nil ?_
      intro Y hY
      have yA := (hY.block _ lA).trans HH.out.1
      have HY := hid hY
      obtain ⟨c0, c1, c2, c3⟩ := cells4 yA
      obtain ⟨f0, f1, f2, f3⟩ := frozen4 yA
      have HYA := hid yA
      clear yA hY k0 k1 hf hs lA lB
      gi_wp2
      go_wp2
      go_roundg (gk - 1)
      case measure => omega
      case rel =>
        obtain ⟨h1, h2, h3, h4⟩ := HH.out
        have h5 := h4.size
        refine ⟨3, by go_num, by omega, ?_, ?_, ?_, ?_⟩
        · unfold SB
          rw [wd_mix_lt g p (i := 3) (k := 0) (by decide), wd_mix_lt g p (i := 3) (k := 1) (by decide), wd_mix_lt g p (i := 3) (k := 2) (by decide), wd_mix_ge g p (i := 3) (k := 3) (by decide)]
          exact blk_put HYA.out
        · unfold SB; exact blk_set ((HY.out.block _ (heap_lt h2)).trans h2) (by show w.heap.size + 1 ≠ w.heap.size; omega)
        · unfold SB; exact blk_set ((HY.out.block _ (heap_lt h3)).trans h3) (by show w.heap.size + 1 + 1 ≠ w.heap.size; omega)
        · exact below_put (h4.trans (HY.out.mono h4.size)) (by omega)
    · have hA' : wr.heap[w.heap.size]? = some (.cells #[.int .u64 (wd (g) 0 : Int), .int .u64 (wd (g) 1 : Int), .int .u64 (wd (g) 2 : Int), .int .u64 (wd (p) 3 : Int)] 24 (0, 0)) := by
        have := hA
        unfold SB at this
        rw [wd_mix_lt g p (i := 3) (k := 0) (by decide), wd_mix_lt g p (i := 3) (k := 1) (by decide), wd_mix_lt g p (i := 3) (k := 2) (by decide), wd_mix_ge g p (i := 3) (k := 3) (by decide)] at this
        exact this
      have e0 := E.out 3
      have HH := hid (And.intro hA' (And.intro hB (And.intro hC hbw)))
      clear hA hA' hB hC hbw
      go_wp2_with fail
      refine (wpIn_wide (n := 0)).1 (wpIn_region_below_tail 8 free_wide (by kernel_rfl) (by kernel_rfl) (by kernel_rfl) ?_)
      intro X f _ hf hs
      have lA := heap_lt HH.out.1
      have lB := heap_lt HH.out.2.1
      have k0 := fun x => (cells4 (((hf.out x).block _ lA).trans HH.out.1)).2.2.2
      have k1 := fun x => (cells4 (((hf.out x).block _ lB).trans HH.out.2.1)).2.2.2
      simp only [List.take_succ_cons, List.take_zero, List.drop_succ_cons, List.drop_zero]
      repeat (go_big_quiet_step (fail))
      refine wpQuiet_nil ?_
      intro Y hY
      have yA := (hY.block _ lA).trans HH.out.1
      have HY := hid hY
      obtain ⟨c0, c1, c2, c3⟩ := cells4 yA
      obtain ⟨f0, f1, f2, f3⟩ := frozen4 yA
      have HYA := hid yA
      clear yA hY k0 k1 hf hs lA lB
      gi_wp2
      go_wp2
      go_roundg (gk - 1)
      case measure => omega
      case rel =>
        obtain ⟨h1, h2, h3, h4⟩ := HH.out
        have h5 := h4.size
        refine ⟨4, by go_num, by omega, ?_, ?_, ?_, ?_⟩
        · unfold SB
          rw [wd_mix_lt g p (i := 4) (k := 0) (by decide), wd_mix_lt g p (i := 4) (k := 1) (by decide), wd_mix_lt g p (i := 4) (k := 2) (by decide), wd_mix_lt g p (i := 4) (k := 3) (by decide)]
          exact blk_put HYA.out
        · unfold SB; exact blk_set ((HY.out.block _ (heap_lt h2)).trans h2) (by show w.heap.size + 1 ≠ w.heap.size; omega)
        · unfold SB; exact blk_set ((HY.out.block _ (heap_lt h3)).trans h3) (by show w.heap.size + 1 + 1 ≠ w.heap.size; omega)
        · exact below_put (h4.trans (HY.out.mono h4.size)) (by omega)
    · have hA' : SB wr w.heap.size g := SB_congr (fun x hx => mix_four g p hx) hA
      obtain ⟨c0, c1, c2, c3⟩ := cells4 hA'
      obtain ⟨a0, a1, a2, a3⟩ := cells4 hC
      obtain ⟨f0, f1, f2, f3⟩ := frozen4 hC
      have HA := hid hC
      have HB := hid hbw
      clear hA hA' hB hC hbw
      go_wp2
      have z := four_set (x' := .int .u64 (wd g 0 : Int)) (y' := .int .u64 (wd g 1 : Int)) (z' := .int .u64 (wd g 2 : Int)) (u' := .int .u64 (wd g 3 : Int)) HA.out
      obtain ⟨r0, r1, r2, r3⟩ := cells4 z
      refine bodyPost_ret (v := sv g) ?_ rfl ⟨rfl, ?_⟩
      · unfold sv; simp [results, Tryd.results77, go_sem, r0, r1, r2, r3]
      · exact below_put (below_put (below_put (below_put HB.out (by omega)) (by omega)) (by omega)) (by omega)

set_option maxRecDepth 100000 in
set_option maxHeartbeats 4000000 in
theorem Complement_any (p : Nat → Bool) (w : World) :
    Calls Tryd.prog 59 #[sv p] w fun e w' => e = .returned (sv (fun x => !p x)) ∧ Below w.heap.size w w' := by
  obtain ⟨g, hg⟩ : ∃ g : Nat → Bool, g = fun x => !p x := ⟨_, rfl⟩
  have E := hid (show ∀ k, bits .xor .u64 IntKind.u64.max (wd p k : Int) = (wd g k : Int) from fun k => by rw [hg]; exact not_wd p k)
  rw [← hg]
  clear hg
  obtain ⟨W, hW⟩ : ∃ W, W = (w.alloc (.cells #[.int .u64 (wd (p) 0 : Int), .int .u64 (wd (p) 1 : Int), .int .u64 (wd (p) 2 : Int), .int .u64 (wd (p) 3 : Int)] 24)).alloc zset := ⟨_, rfl⟩
  have HX := hid (by have := Go.Frame.two w (.cells #[.int .u64 (wd (p) 0 : Int), .int .u64 (wd (p) 1 : Int), .int .u64 (wd (p) 2 : Int), .int .u64 (wd (p) 3 : Int)] 24) zset; rw [← hW] at this; exact this)
  have HW := hid hW
  unfold zset at hW
  unfold sv
  go_enter Tryd.func59, Tryd.ntmps59
  go_wp2_with fail
  rw [← hW]
  clear hW
  go_loopg [4] 4 (fun k sl wr => ∃ i : Nat, sl = .int .i64 i ∧ i + k = 4 ∧ SB wr w.heap.size (mix g p i) ∧ SB wr (w.heap.size + 1) (fun _ => false) ∧ Below w.heap.size w wr)
  case atStart => exact ⟨0, rfl, rfl, SB_congr (fun x _ => (mix_zero g p x).symm) HX.out.1, sb_zero HX.out.2.1, HX.out.2.2.1⟩
  case round =>
    obtain ⟨i, rfl, hk, hA, hC, hbw⟩ := hrel
    have hi5 : i = 0 ∨ i = 1 ∨ i = 2 ∨ i = 3 ∨ i = 4 := by omega
    rcases hi5 with rfl | rfl | rfl | rfl | rfl
    · have hA' : wr.heap[w.heap.size]? = some (.cells #[.int .u64 (wd (p) 0 : Int), .int .u64 (wd (p) 1 : Int), .int .u64 (wd (p) 2 : Int), .int .u64 (wd (p) 3 : Int)] 24 (0, 0)) := by
        have := hA
        unfold SB at this
        rw [wd_mix_ge g p (i := 0) (k := 0) (by decide), wd_mix_ge g p (i := 0) (k := 1) (by decide), wd_mix_ge g p (i := 0) (k := 2) (by decide), wd_mix_ge g p (i := 0) (k := 3) (by decide)] at this
        exact this
      have e0 := E.out 0
      have HH := hid (And.intro hA' (And.intro hC hbw))
      obtain ⟨c0, c1, c2, c3⟩ := cells4 hA'
      obtain ⟨f0, f1, f2, f3⟩ := frozen4 hA'
      clear hA hA' hC hbw
      go_wp2
      go_roundg (gk - 1)
      case measure => omega
      case rel =>
        obtain ⟨h1, h3, h4⟩ := HH.out
        have h5 := h4.size
        refine ⟨1, by go_num, by omega, ?_, ?_, ?_⟩
        · unfold SB
          rw [wd_mix_lt g p (i := 1) (k := 0) (by decide), wd_mix_ge g p (i := 1) (k := 1) (by decide), wd_mix_ge g p (i := 1) (k := 2) (by decide), wd_mix_ge g p (i := 1) (k := 3) (by decide)]
          exact blk_put h1
        · unfold SB; exact blk_set h3 (by show w.heap.size + 1 ≠ w.heap.size; omega)
        · exact below_put h4 (by omega)
    · have hA' : wr.heap[w.heap.size]? = some (.cells #[.int .u64 (wd (g) 0 : Int), .int .u64 (wd (p) 1 : Int), .int .u64 (wd (p) 2 : Int), .int .u64 (wd (p) 3 : Int)] 24 (0, 0)) := by
        have := hA
        unfold SB at this
        rw [wd_mix_lt g p (i := 1) (k := 0) (by decide), wd_mix_ge g p (i := 1) (k := 1) (by decide), wd_mix_ge g p (i := 1) (k := 2) (by decide), wd_mix_ge g p (i := 1) (k := 3) (by decide)] at this
        exact this
      have e0 := E.out 1
      have HH := hid (And.intro hA' (And.intro hC hbw))
      obtain ⟨c0, c1, c2, c3⟩ := cells4 hA'
      obtain ⟨f0, f1, f2, f3⟩ := frozen4 hA'
      clear hA hA' hC hbw
      go_wp2
      go_roundg (gk - 1)
      case measure => omega
      case rel =>
        obtain ⟨h1, h3, h4⟩ := HH.out
        have h5 := h4.size
        refine ⟨2, by go_num, by omega, ?_, ?_, ?_⟩
        · unfold SB
          rw [wd_mix_lt g p (i := 2) (k := 0) (by decide), wd_mix_lt g p (i := 2) (k := 1) (by decide), wd_mix_ge g p (i := 2) (k := 2) (by decide), wd_mix_ge g p (i := 2) (k := 3) (by decide)]
          exact blk_put h1
        · unfold SB; exact blk_set h3 (by show w.heap.size + 1 ≠ w.heap.size; omega)
        · exact below_put h4 (by omega)
    · have hA' : wr.heap[w.heap.size]? = some (.cells #[.int .u64 (wd (g) 0 : Int), .int .u64 (wd (g) 1 : Int), .int .u64 (wd (p) 2 : Int), .int .u64 (wd (p) 3 : Int)] 24 (0, 0)) := by
        have := hA
        unfold SB at this
        rw [wd_mix_lt g p (i := 2) (k := 0) (by decide), wd_mix_lt g p (i := 2) (k := 1) (by decide), wd_mix_ge g p (i := 2) (k := 2) (by decide), wd_mix_ge g p (i := 2) (k := 3) (by decide)] at this
        exact this
      have e0 := E.out 2
      have HH := hid (And.intro hA' (And.intro hC hbw))
      obtain ⟨c0, c1, c2, c3⟩ := cells4 hA'
      obtain ⟨f0, f1, f2, f3⟩ := frozen4 hA'
      clear hA hA' hC hbw
      go_wp2
      go_roundg (gk - 1)
      case measure => omega
      case rel =>
        obtain ⟨h1, h3, h4⟩ := HH.out
        have h5 := h4.size
        refine ⟨3, by go_num, by omega, ?_, ?_, ?_⟩
        · unfold SB
          rw [wd_mix_lt g p (i := 3) (k := 0) (by decide), wd_mix_lt g p (i := 3) (k := 1) (by decide), wd_mix_lt g p (i := 3) (k := 2) (by decide), wd_mix_ge g p (i := 3) (k := 3) (by decide)]
          exact blk_put h1
        · unfold SB; exact blk_set h3 (by show w.heap.size + 1 ≠ w.heap.size; omega)
        · exact below_put h4 (by omega)
    · have hA' : wr.heap[w.heap.size]? = some (.cells #[.int .u64 (wd (g) 0 : Int), .int .u64 (wd (g) 1 : Int), .int .u64 (wd (g) 2 : Int), .int .u64 (wd (p) 3 : Int)] 24 (0, 0)) := by
        have := hA
        unfold SB at this
        rw [wd_mix_lt g p (i := 3) (k := 0) (by decide), wd_mix_lt g p (i := 3) (k := 1) (by decide), wd_mix_lt g p (i := 3) (k := 2) (by decide), wd_mix_ge g p (i := 3) (k := 3) (by decide)] at this
        exact this
      have e0 := E.out 3
      have HH := hid (And.intro hA' (And.intro hC hbw))
      obtain ⟨c0, c1, c2, c3⟩ := cells4 hA'
      obtain ⟨f0, f1, f2, f3⟩ := frozen4 hA'
      clear hA hA' hC hbw
      go_wp2
      go_roundg (gk - 1)
      case measure => omega
      case rel =>
        obtain ⟨h1, h3, h4⟩ := HH.out
        have h5 := h4.size
        refine ⟨4, by go_num, by omega, ?_, ?_, ?_⟩
        · unfold SB
          rw [wd_mix_lt g p (i := 4) (k := 0) (by decide), wd_mix_lt g p (i := 4) (k := 1) (by decide), wd_mix_lt g p (i := 4) (k := 2) (by decide), wd_mix_lt g p (i := 4) (k := 3) (by decide)]
          exact blk_put h1
        · unfold SB; exact blk_set h3 (by show w.heap.size + 1 ≠ w.heap.size; omega)
        · exact below_put h4 (by omega)
    · have hA' : SB wr w.heap.size g := SB_congr (fun x hx => mix_four g p hx) hA
      obtain ⟨c0, c1, c2, c3⟩ := cells4 hA'
      obtain ⟨a0, a1, a2, a3⟩ := cells4 hC
      obtain ⟨f0, f1, f2, f3⟩ := frozen4 hC
      have HA := hid hC
      have HB := hid hbw
      clear hA hA' hC hbw
      go_wp2
      have z := four_set (x' := .int .u64 (wd g 0 : Int)) (y' := .int .u64 (wd g 1 : Int)) (z' := .int .u64 (wd g 2 : Int)) (u' := .int .u64 (wd g 3 : Int)) HA.out
      obtain ⟨r0, r1, r2, r3⟩ := cells4 z
      refine bodyPost_ret (v := sv g) ?_ rfl ⟨rfl, ?_⟩
      · unfold sv; simp [results, Tryd.results59, go_sem, r0, r1, r2, r3]
      · exact below_put (below_put (below_put (below_put HB.out (by omega)) (by omega)) (by omega)) (by omega)


end Go.Proofs.YtednoideboeehaaDoor
end
section
namespace Rg

/-- A set of bytes. -/
abbrev BS := UInt8 → Bool
def emp (s : BS) : Bool := (List.range 256).all fun i => !s (UInt8.ofNat i)
def none8 : BS := fun _ => false
theorem emp_iff {s : BS} : emp s = true ↔ s = none8 := by
  constructor
  · intro h
    funext b
    unfold emp at h
    rw [List.all_eq_true] at h
    have := h b.toNat (by simpa using b.toNat_lt)
    simp at this
    exact this
  · rintro rfl
    simp [emp, none8]

/-- An expression: kind, set, kids. -/
inductive Rx where
  | mk (k : Int) (s : BS) (l : List Rx)
def Rx.k : Rx → Int | .mk k _ _ => k
def Rx.s : Rx → BS | .mk _ s _ => s
def Rx.l : Rx → List Rx | .mk _ _ l => l

theorem Rx.ind {P : Rx → Prop} (h : ∀ k s l, (∀ x ∈ l, P x) → P (.mk k s l)) : ∀ r, P r
  | .mk k s l => h k s l fun x _ => Rx.ind h x
decreasing_by
  simp_wf
  have := List.sizeOf_lt_of_mem ‹x ∈ l›
  omega

/-- Kind, set and number of kids are right. -/
def shaped (k : Int) (s : BS) (n : Nat) : Bool :=
  if k = 1 ∨ k = 2 then n == 0 && emp s
  else if k = 3 then n == 0 && !emp s
  else if k = 4 ∨ k = 5 then decide (2 ≤ n) && emp s
  else if k = 6 then n == 1 && emp s
  else false
mutual
/-- Shaped throughout, no path longer than d. -/
def fits : Rx → Nat → Bool
  | .mk k s l, d => match d with
    | 0 => false
    | d + 1 => shaped k s l.length && fitsL l d
def fitsL : List Rx → Nat → Bool
  | [], _ => true
  | x :: l, d => fits x d && fitsL l d
end
theorem fitsL_iff {l : List Rx} {d : Nat} : fitsL l d = true ↔ ∀ x ∈ l, fits x d = true := by
  induction l with
  | nil => simp [fitsL]
  | cons x l ih => simp [fitsL, ih]
theorem fits_mk {k : Int} {s : BS} {l : List Rx} {d : Nat} : fits (.mk k s l) (d + 1) = (shaped k s l.length && fitsL l d) := by rw [fits]
theorem fits_zero {r : Rx} : fits r 0 = false := by cases r; rw [fits]
theorem fits_mono {r : Rx} : ∀ {d d' : Nat}, d ≤ d' → fits r d = true → fits r d' = true := by
  induction r using Rx.ind with
  | h k s l ih =>
    intro d d' hd h
    cases d with
    | zero => rw [fits_zero] at h; cases h
    | succ d =>
      obtain ⟨d', rfl⟩ : ∃ e, d' = e + 1 := ⟨d' - 1, by omega⟩
      rw [fits_mk, Bool.and_eq_true, fitsL_iff] at h ⊢
      exact ⟨h.1, fun x hx => ih x hx (by omega) (h.2 x hx)⟩
/-- Of the shapes that are allowed. -/
def Vd (r : Rx) : Prop := ∃ d, fits r d = true
theorem Vd.kid {k : Int} {s : BS} {l : List Rx} (h : Vd (.mk k s l)) {x : Rx} (hx : x ∈ l) : Vd x := by
  obtain ⟨d, h⟩ := h
  cases d with
  | zero => rw [fits_zero] at h; cases h
  | succ d => rw [fits_mk, Bool.and_eq_true, fitsL_iff] at h; exact ⟨d, h.2 x hx⟩
theorem Vd.shaped {k : Int} {s : BS} {l : List Rx} (h : Vd (.mk k s l)) : shaped k s l.length = true := by
  obtain ⟨d, h⟩ := h
  cases d with
  | zero => rw [fits_zero] at h; cases h
  | succ d => rw [fits_mk, Bool.and_eq_true] at h; exact h.1
theorem shaped_kind {k : Int} {s : BS} {n : Nat} (h : shaped k s n = true) : k = 1 ∨ k = 2 ∨ k = 3 ∨ k = 4 ∨ k = 5 ∨ k = 6 := by
  unfold shaped at h
  split at h
  · omega
  split at h
  · omega
  split at h
  · omega
  split at h
  · omega
  · cases h
theorem shaped_star {s : BS} {n : Nat} (h : shaped 6 s n = true) : n = 1 := by
  unfold shaped at h; simp at h; exact h.1
theorem shaped_leaf {k : Int} {s : BS} {n : Nat} (h : shaped k s n = true) (hk : k = 1 ∨ k = 2 ∨ k = 3) : n = 0 := by
  unfold shaped at h
  rcases hk with rfl | rfl | rfl <;> simp at h <;> exact h.1
theorem shaped_two {k : Int} {s : BS} {n : Nat} (h : shaped k s n = true) (hk : k = 4 ∨ k = 5) : 2 ≤ n := by
  unfold shaped at h
  rcases hk with rfl | rfl <;> simp at h <;> exact h.1
theorem shaped_emp {k : Int} {s : BS} {n : Nat} (h : shaped k s n = true) (hk : k ≠ 3) : s = none8 := by
  refine emp_iff.1 ?_
  rcases shaped_kind h with rfl | rfl | rfl | rfl | rfl | rfl
  · simp [shaped] at h; exact h.2
  · simp [shaped] at h; exact h.2
  · exact absurd rfl hk
  · simp [shaped] at h; exact h.2
  · simp [shaped] at h; exact h.2
  · simp [shaped] at h; exact h.2

mutual
/-- Number of parts. -/
def parts : Rx → Nat
  | .mk _ _ l => partsL l + 1
def partsL : List Rx → Nat
  | [] => 0
  | x :: l => parts x + partsL l
end
mutual
/-- Number of levels. -/
def depth : Rx → Nat
  | .mk _ _ l => depthL l + 1
def depthL : List Rx → Nat
  | [] => 0
  | x :: l => max (depth x) (depthL l)
end
theorem depthL_le {l : List Rx} {d : Nat} : depthL l ≤ d ↔ ∀ x ∈ l, depth x ≤ d := by
  induction l with
  | nil => simp [depthL]
  | cons x l ih => simp [depthL, Nat.max_le, ih]
theorem depth_pos (r : Rx) : 1 ≤ depth r := by cases r; rw [depth]; omega
/-- Shaped throughout. -/
theorem fits_depth {r : Rx} (h : Vd r) : ∀ {d : Nat}, fits r d = true ↔ depth r ≤ d := by
  induction r using Rx.ind with
  | h k s l ih =>
    intro d
    cases d with
    | zero => rw [fits_zero, depth]; simp
    | succ d =>
      rw [fits_mk, depth, h.shaped, Bool.true_and, fitsL_iff, Nat.add_le_add_iff_right, depthL_le]
      exact ⟨fun h' x hx => (ih x hx (h.kid hx)).1 (h' x hx), fun h' x hx => (ih x hx (h.kid hx)).2 (h' x hx)⟩
theorem Vd.mk {k : Int} {s : BS} {l : List Rx} (h : Rg.shaped k s l.length = true) (hl : ∀ x ∈ l, Vd x) : Vd (.mk k s l) := by
  refine ⟨depthL l + 1, ?_⟩
  rw [fits_mk, h, Bool.true_and, fitsL_iff]
  exact fun x hx => (fits_depth (hl x hx)).2 (depthL_le.1 (Nat.le_refl _) x hx)

mutual
/-- What 'shallow' reckons. -/
def sh : Rx → Nat → Int → Int
  | .mk _ _ l, lv, left => if 50 < lv ∨ left ≤ 0 then -1 else shL l (lv + 1) (left - 1)
def shL : List Rx → Nat → Int → Int
  | [], _, left => left
  | x :: l, lv, left => if left < 0 then left else shL l lv (sh x lv left)
end
theorem sh_parts {r : Rx} : ∀ {lv : Nat} {left : Int}, -1 ≤ sh r lv left ∧ (0 ≤ sh r lv left → sh r lv left = left - parts r) := by
  induction r using Rx.ind with
  | h k s l ih =>
    intro lv left
    rw [sh, parts]
    split
    · omega
    · rename_i hn
      have key : ∀ (m : List Rx), (∀ x ∈ m, x ∈ l) → ∀ left : Int, -1 ≤ left → -1 ≤ shL m (lv + 1) left ∧ (0 ≤ shL m (lv + 1) left → shL m (lv + 1) left = left - partsL m) := by
        intro m
        induction m with
        | nil => intro _ left h; rw [shL, partsL]; omega
        | cons x m ihm =>
          intro hm left h
          rw [shL, partsL]
          split
          · omega
          · have h1 := ih x (hm x (by simp)) (lv := lv + 1) (left := left)
            have h2 := ihm (fun y hy => hm y (by simp [hy])) (sh x (lv + 1) left) h1.1
            refine ⟨h2.1, fun h3 => ?_⟩
            have h4 := h2.2 h3
            by_cases h5 : 0 ≤ sh x (lv + 1) left
            · have := h1.2 h5; omega
            · exfalso
              have : sh x (lv + 1) left = -1 := by omega
              rw [this] at h3 h4
              omega
      have := key l (fun x hx => hx) (left - 1) (by omega)
      omega
theorem sh_le {r : Rx} {lv : Nat} {left : Int} : sh r lv left ≤ max left (-1) := by
  have := @sh_parts r lv left
  omega
def few (r : Rx) (most : Int) : Bool := decide (0 ≤ sh r 0 (most + 1))
theorem few_parts {r : Rx} {most : Nat} (h : few r most = true) : parts r ≤ most + 1 := by
  unfold few at h
  rw [decide_eq_true_eq] at h
  have := (@sh_parts r 0 ((most : Int) + 1)).2 h
  omega
/-- The law's 'small'. -/
def small (r : Rx) (most : Int) : Bool := few r most && (fits r 30 && decide (depth r ≤ 8))
theorem small_of {r : Rx} {most : Nat} (h : small r most = true) : parts r ≤ most + 1 ∧ Vd r ∧ depth r ≤ 8 := by
  unfold small at h
  simp only [Bool.and_eq_true, decide_eq_true_eq] at h
  exact ⟨few_parts h.1, ⟨30, h.2.1⟩, h.2.2⟩

/-! What an expression matches. -/
/-- Any number of strings that A holds of, one behind the other. -/
inductive Rep (A : List UInt8 → Prop) : List UInt8 → Prop
  | nil : Rep A []
  | cons {u v} : u ≠ [] → A u → Rep A v → Rep A (u ++ v)
mutual
def L : Rx → List UInt8 → Prop
  | .mk k s l => fun t => (k = 2 ∧ t = []) ∨ (k = 3 ∧ ∃ b, t = [b] ∧ s b = true) ∨ (k = 4 ∧ LC l t) ∨ (k = 5 ∧ LU l t) ∨ (k = 6 ∧ Rep (LU l) t)
def LC : List Rx → List UInt8 → Prop
  | [] => fun t => t = []
  | x :: l => fun t => ∃ u v, t = u ++ v ∧ L x u ∧ LC l v
def LU : List Rx → List UInt8 → Prop
  | [] => fun _ => False
  | x :: l => fun t => L x t ∨ LU l t
end
theorem L_mk {k : Int} {s : BS} {l : List Rx} {t : List UInt8} : L (.mk k s l) t ↔ (k = 2 ∧ t = []) ∨ (k = 3 ∧ ∃ b, t = [b] ∧ s b = true) ∨ (k = 4 ∧ LC l t) ∨ (k = 5 ∧ LU l t) ∨ (k = 6 ∧ Rep (LU l) t) := by rw [L]
theorem LC_cons {x : Rx} {l : List Rx} {t : List UInt8} : LC (x :: l) t ↔ ∃ u v, t = u ++ v ∧ L x u ∧ LC l v := by rw [LC]
theorem LC_nil {t : List UInt8} : LC [] t ↔ t = [] := by rw [LC]
theorem LU_cons {x : Rx} {l : List Rx} {t : List UInt8} : LU (x :: l) t ↔ L x t ∨ LU l t := by rw [LU]
theorem LU_nil {t : List UInt8} : LU [] t ↔ False := by rw [LU]
theorem LU_iff {l : List Rx} {t : List UInt8} : LU l t ↔ ∃ x ∈ l, L x t := by
  induction l with
  | nil => simp [LU_nil]
  | cons x l ih => simp [LU_cons, ih]
theorem LC_append {l m : List Rx} {t : List UInt8} : LC (l ++ m) t ↔ ∃ u v, t = u ++ v ∧ LC l u ∧ LC m v := by
  induction l generalizing t with
  | nil =>
    simp only [List.nil_append, LC_nil]
    exact ⟨fun h => ⟨[], t, rfl, rfl, h⟩, fun ⟨u, v, h, hu, hv⟩ => by subst hu; simpa [h] using hv⟩
  | cons x l ih =>
    simp only [List.cons_append, LC_cons, ih]
    constructor
    · rintro ⟨u, _, rfl, hx, v, w, rfl, h1, h2⟩
      exact ⟨u ++ v, w, by simp, ⟨u, v, rfl, hx, h1⟩, h2⟩
    · rintro ⟨_, w, rfl, ⟨u, v, rfl, hx, h1⟩, h2⟩
      exact ⟨u, v ++ w, by simp, hx, v, w, rfl, h1, h2⟩
theorem LC_one {x : Rx} {t : List UInt8} : LC [x] t ↔ L x t := by
  simp [LC_cons, LC_nil]
theorem LU_one {x : Rx} {t : List UInt8} : LU [x] t ↔ L x t := by simp [LU_cons, LU_nil]
theorem Rep.congr {A B : List UInt8 → Prop} (h : ∀ t, A t ↔ B t) {t : List UInt8} : Rep A t ↔ Rep B t := by
  constructor
  · intro k; induction k with
    | nil => exact .nil
    | cons h1 h2 _ ih => exact .cons h1 ((h _).1 h2) ih
  · intro k; induction k with
    | nil => exact .nil
    | cons h1 h2 _ ih => exact .cons h1 ((h _).2 h2) ih
theorem Rep.app {A : List UInt8 → Prop} {u v : List UInt8} (h : Rep A u) (k : Rep A v) : Rep A (u ++ v) := by
  induction h with
  | nil => exact k
  | cons h1 h2 _ ih => rw [List.append_assoc]; exact .cons h1 h2 ih
theorem Rep.one {A : List UInt8 → Prop} {u : List UInt8} (h : A u) : Rep A u := by
  by_cases e : u = []
  · rw [e]; exact .nil
  · simpa using Rep.cons e h .nil
/-- From the other end. -/
theorem Rep.last {A : List UInt8 → Prop} {t : List UInt8} : Rep A t ↔ t = [] ∨ ∃ u v, t = u ++ v ∧ v ≠ [] ∧ Rep A u ∧ A v := by
  constructor
  · intro h
    induction h with
    | nil => exact .inl rfl
    | @cons u v h1 h2 h3 ih =>
      refine .inr ?_
      rcases ih with rfl | ⟨x, y, rfl, hy, h4, h5⟩
      · exact ⟨[], u, by simp, h1, .nil, h2⟩
      · exact ⟨u ++ x, y, by simp, hy, .cons h1 h2 h4, h5⟩
  · rintro (rfl | ⟨u, v, rfl, _, h1, h2⟩)
    · exact .nil
    · exact h1.app (.one h2)
/-- From the front. -/
theorem Rep.first {A : List UInt8 → Prop} {b : UInt8} {t : List UInt8} : Rep A (b :: t) ↔ ∃ u v, t = u ++ v ∧ A (b :: u) ∧ Rep A v := by
  constructor
  · intro h
    generalize hz : b :: t = z at h
    cases h with
    | nil => cases hz
    | @cons u v h1 h2 h3 =>
      cases u with
      | nil => exact absurd rfl h1
      | cons c u =>
        simp at hz
        obtain ⟨rfl, rfl⟩ := hz
        exact ⟨u, v, rfl, h2, h3⟩
  · rintro ⟨u, v, rfl, h1, h2⟩
    exact Rep.cons (u := b :: u) (by simp) h1 h2

mutual
/-- Whether the empty string is matched. -/
def nul : Rx → Bool
  | .mk k _ l => if k = 2 ∨ k = 6 then true else if k = 4 then nulC l else if k = 5 then nulU l else false
def nulC : List Rx → Bool
  | [] => true
  | x :: l => nul x && nulC l
def nulU : List Rx → Bool
  | [] => false
  | x :: l => nul x || nulU l
end
theorem nulC_iff {l : List Rx} : nulC l = true ↔ ∀ x ∈ l, nul x = true := by
  induction l with
  | nil => simp [nulC]
  | cons x l ih => simp [nulC, ih]
theorem nulU_iff {l : List Rx} : nulU l = true ↔ ∃ x ∈ l, nul x = true := by
  induction l with
  | nil => simp [nulU]
  | cons x l ih => simp [nulU, ih]
theorem LC_nil_iff {l : List Rx} : LC l [] ↔ ∀ x ∈ l, L x [] := by
  induction l with
  | nil => simp [LC_nil]
  | cons x l ih =>
    rw [LC_cons]
    constructor
    · rintro ⟨u, v, h, h1, h2⟩
      simp at h
      obtain ⟨rfl, rfl⟩ := h
      have := ih.1 h2
      simp [h1]
      exact this
    · intro h
      exact ⟨[], [], rfl, h x (by simp), ih.2 fun y hy => h y (by simp [hy])⟩
theorem nul_iff {r : Rx} : nul r = true ↔ L r [] := by
  induction r using Rx.ind with
  | h k s l ih =>
    rw [nul, L_mk]
    by_cases h1 : k = 2 ∨ k = 6
    · rw [if_pos h1]
      rcases h1 with rfl | rfl
      · simp
      · simp; exact .nil
    · rw [if_neg h1]
      by_cases h4 : k = 4
      · rw [if_pos h4]; subst h4
        simp [nulC_iff, LC_nil_iff]
        exact ⟨fun h x hx => (ih x hx).1 (h x hx), fun h x hx => (ih x hx).2 (h x hx)⟩
      · rw [if_neg h4]
        by_cases h5 : k = 5
        · rw [if_pos h5]; subst h5
          simp [nulU_iff, LU_iff]
          exact ⟨fun ⟨x, hx, h⟩ => ⟨x, hx, (ih x hx).1 h⟩, fun ⟨x, hx, h⟩ => ⟨x, hx, (ih x hx).2 h⟩⟩
        · rw [if_neg h5]
          simp [h4, h5, show ¬ k = 2 by omega, show ¬ k = 6 by omega]
end Rg
end
section
set_option linter.unusedSimpArgs false
set_option linter.unusedVariables false
namespace Go.Proofs.YtednoideboeehaaDoor
open Go.RowKit Bs Rg Go.Frame

/-- A set of bytes as a predicate on numbers. -/
def lf (s : BS) (n : Nat) : Bool := s (UInt8.ofNat n)
/-- Word k of a set. -/
def ws (s : BS) (k : Nat) : Nat := wd (lf s) k
theorem ws_lt (s : BS) (k : Nat) : ws s k < 18446744073709551616 := wd_lt _ _
theorem sv_lf (s : BS) : sv (lf s) = .agg #[.int .u64 (ws s 0 : Int), .int .u64 (ws s 1 : Int), .int .u64 (ws s 2 : Int), .int .u64 (ws s 3 : Int)] := rfl
theorem ws_none (k : Nat) : ws none8 k = 0 := wd_false k
theorem ws_inj {s s' : BS} (h : ∀ k, k < 4 → ws s k = ws s' k) : s = s' := by
  funext b
  have hb := b.toNat_lt
  have h1 := h (b.toNat / 64) (by omega)
  have h2 := congrArg (fun x => x.testBit (b.toNat % 64)) h1
  unfold ws wd at h2
  simp only [nb_bit, show b.toNat % 64 < 64 from Nat.mod_lt _ (by decide), decide_true, Bool.true_and] at h2
  rw [show 64 * (b.toNat / 64) + b.toNat % 64 = b.toNat by omega] at h2
  unfold lf at h2
  simpa using h2
def eqs (s s' : BS) : Bool := (List.range 256).all fun i => s (UInt8.ofNat i) == s' (UInt8.ofNat i)
theorem eqs_iff {s s' : BS} : eqs s s' = true ↔ s = s' := by
  constructor
  · intro h
    funext b
    unfold eqs at h
    rw [List.all_eq_true] at h
    have := h b.toNat (by simpa using b.toNat_lt)
    simpa using this
  · rintro rfl
    simp [eqs]
theorem eqs_false {s s' : BS} : eqs s s' = false ↔ s ≠ s' := by rw [← Bool.not_eq_true, eqs_iff]
theorem emp_eqs (s : BS) : emp s = eqs s none8 := by
  rw [Bool.eq_iff_iff, emp_iff, eqs_iff]

theorem info22 : (Tryd.prog.info? 22).isSome = true := by kernel_rfl
theorem cells22 : Tryd.prog.cellsOf 22 = 1 := by kernel_rfl
theorem part0 (a b c d : Int) (w : World) : (Go.part 22 #[Value.int .u64 a, .int .u64 b, .int .u64 c, .int .u64 d] 0).run Tryd.prog w = .ok (.int .u64 a) w := by kernel_rfl
theorem part1 (a b c d : Int) (w : World) : (Go.part 22 #[Value.int .u64 a, .int .u64 b, .int .u64 c, .int .u64 d] 1).run Tryd.prog w = .ok (.int .u64 b) w := by kernel_rfl
theorem part2 (a b c d : Int) (w : World) : (Go.part 22 #[Value.int .u64 a, .int .u64 b, .int .u64 c, .int .u64 d] 2).run Tryd.prog w = .ok (.int .u64 c) w := by kernel_rfl
theorem part3 (a b c d : Int) (w : World) : (Go.part 22 #[Value.int .u64 a, .int .u64 b, .int .u64 c, .int .u64 d] 3).run Tryd.prog w = .ok (.int .u64 d) w := by kernel_rfl
theorem eqIn (a b c d a' b' c' d' : Int) (w : World) : (Op.equalIn 10000 24 (.agg #[.int .u64 a, .int .u64 b, .int .u64 c, .int .u64 d]) (.agg #[.int .u64 a', .int .u64 b', .int .u64 c', .int .u64 d'])).run Tryd.prog w = .ok (decide (a = a' ∧ b = b' ∧ c = c' ∧ d = d')) w := by
  obtain ⟨i, hi⟩ := Option.isSome_iff_exists.1 info22
  rw [show (10000 : Nat) = 9999 + 1 from rfl, run_equalIn_array w 9999 _ _ Tryd.underlying24 hi, cells22]
  have he : ∀ (x y : Int) (w : World), (Op.equalIn 9999 22 (.int .u64 x) (.int .u64 y)).run Tryd.prog w = .ok (decide (x = y)) w := fun x y w => by
    rw [run_equalIn_int w 9998 22 .u64 .u64 x y Tryd.underlying22]
    by_cases h : x = y <;> simp [h]
  rw [show List.range 4 = [0, 1, 2, 3] from rfl]
  by_cases h0 : a = a'
  · by_cases h1 : b = b'
    · by_cases h2 : c = c'
      · by_cases h3 : d = d' <;> simp [Op.eqItems, Sem.run_bind, part0, part1, part2, part3, he, h0, h1, h2, h3]
      · simp [Op.eqItems, Sem.run_bind, part0, part1, part2, part3, he, h0, h1, h2]
    · simp [Op.eqItems, Sem.run_bind, part0, part1, part2, part3, he, h0, h1]
  · simp [Op.eqItems, Sem.run_bind, part0, part1, part2, part3, he, h0]
theorem words_eqs (s s' : BS) : decide ((ws s 0 : Int) = (ws s' 0 : Int) ∧ (ws s 1 : Int) = (ws s' 1 : Int) ∧ (ws s 2 : Int) = (ws s' 2 : Int) ∧ (ws s 3 : Int) = (ws s' 3 : Int)) = eqs s s' := by
  rw [Bool.eq_iff_iff, decide_eq_true_eq, eqs_iff]
  constructor
  · rintro ⟨h0, h1, h2, h3⟩
    refine ws_inj fun k hk => ?_
    have : k = 0 ∨ k = 1 ∨ k = 2 ∨ k = 3 := by omega
    rcases this with rfl | rfl | rfl | rfl <;> omega
  · rintro rfl
    exact ⟨rfl, rfl, rfl, rfl⟩
theorem eq_set (s s' : BS) (w : World) : (Op.equalIn 10000 24 (.agg #[.int .u64 (ws s 0 : Int), .int .u64 (ws s 1 : Int), .int .u64 (ws s 2 : Int), .int .u64 (ws s 3 : Int)]) (.agg #[.int .u64 (ws s' 0 : Int), .int .u64 (ws s' 1 : Int), .int .u64 (ws s' 2 : Int), .int .u64 (ws s' 3 : Int)])).run Tryd.prog w = .ok (eqs s s') w := by
  rw [eqIn, words_eqs]
theorem eq_zero (s : BS) (w : World) : (Op.equalIn 10000 24 (.agg #[.int .u64 (ws s 0 : Int), .int .u64 (ws s 1 : Int), .int .u64 (ws s 2 : Int), .int .u64 (ws s 3 : Int)]) (.agg #[.int .u64 0, .int .u64 0, .int .u64 0, .int .u64 0])).run Tryd.prog w = .ok (emp s) w := by
  have := eq_set s none8 w
  rw [ws_none, ws_none, ws_none, ws_none] at this
  rw [emp_eqs]; exact this

/-! Expressions in memory. -/
/-- The cells of an expression. -/
def rcs (k : Int) (s : BS) (v : Value) : List Value := [.int .i64 k, .int .u64 (ws s 0 : Int), .int .u64 (ws s 1 : Int), .int .u64 (ws s 2 : Int), .int .u64 (ws s 3 : Int), v]
mutual
/-- Cells that are an expression, its rows of kids in blocks of g. -/
def RC (g : Nat → Prop) (W : World) : Rx → List Value → Prop
  | .mk k s l, cs => ∃ a n c, cs = rcs k s (.slice a n c) ∧ l.length = n ∧ n < 140737488355328 ∧ (n = 0 ∨ ∃ b off, a = some ⟨b, off, none⟩ ∧ g b ∧ b < W.heap.size ∧ RK g W b l off)
/-- A row of them. -/
def RK (g : Nat → Prop) (W : World) (b : Nat) : List Rx → Nat → Prop
  | [], _ => True
  | x :: l, off => (∃ cs, (∀ j v, cs[j]? = some v → W.cell? ⟨b, off + j, none⟩ = some v) ∧ RC g W x cs) ∧ RK g W b l (off + 6)
end
/-- A slice of expressions. -/
def Kd (g : Nat → Prop) (W : World) (a : Option Addr) (n : Nat) (l : List Rx) : Prop :=
  l.length = n ∧ n < 140737488355328 ∧ (n = 0 ∨ ∃ b off, a = some ⟨b, off, none⟩ ∧ g b ∧ b < W.heap.size ∧ RK g W b l off)
theorem RC_mk {g : Nat → Prop} {W : World} {k : Int} {s : BS} {l : List Rx} {cs : List Value} : RC g W (.mk k s l) cs ↔ ∃ a n c, cs = rcs k s (.slice a n c) ∧ Kd g W a n l := by rw [RC]; rfl
theorem RK_get {g : Nat → Prop} {W : World} {b : Nat} : ∀ {l : List Rx} {off i : Nat} {x : Rx}, RK g W b l off → l[i]? = some x → ∃ cs, (∀ j v, cs[j]? = some v → W.cell? ⟨b, off + i * 6 + j, none⟩ = some v) ∧ RC g W x cs
  | y :: l, off, 0, x, h, hi => by
    rw [RK] at h
    simp at hi; subst hi
    simpa using h.1
  | y :: l, off, i + 1, x, h, hi => by
    rw [RK] at h
    obtain ⟨cs, h1, h2⟩ := RK_get (i := i) h.2 (by simpa using hi)
    exact ⟨cs, fun j v hj => by rw [show off + (i + 1) * 6 + j = off + 6 + i * 6 + j by omega]; exact h1 j v hj, h2⟩
theorem RK_of {g : Nat → Prop} {W : World} {b : Nat} : ∀ {l : List Rx} {off : Nat}, (∀ i x, l[i]? = some x → ∃ cs, (∀ j v, cs[j]? = some v → W.cell? ⟨b, off + i * 6 + j, none⟩ = some v) ∧ RC g W x cs) → RK g W b l off
  | [], off, _ => by rw [RK]; trivial
  | y :: l, off, h => by
    rw [RK]
    refine ⟨by simpa using h 0 y rfl, RK_of fun i x hi => ?_⟩
    obtain ⟨cs, h1, h2⟩ := h (i + 1) x (by simpa using hi)
    exact ⟨cs, fun j v hj => by rw [show off + 6 + i * 6 + j = off + (i + 1) * 6 + j by omega]; exact h1 j v hj, h2⟩
/-- Where the blocks of g are as they were. -/
theorem RC.keep {g g' : Nat → Prop} {W W' : World} (hs : W.heap.size ≤ W'.heap.size) (hk : ∀ b, g b → b < W.heap.size → W'.heap[b]? = W.heap[b]?) (hg : ∀ b, g b → g' b) (r : Rx) : ∀ {cs : List Value}, RC g W r cs → RC g' W' r cs := by
  induction r using Rx.ind with
  | h k s l ih =>
    intro cs h
    rw [RC_mk] at h ⊢
    obtain ⟨a, n, c, rfl, h1, h2, h3⟩ := h
    refine ⟨a, n, c, rfl, h1, h2, h3.imp id ?_⟩
    rintro ⟨b, off, rfl, hb, hlt, hK⟩
    refine ⟨b, off, rfl, hg b hb, Nat.lt_of_lt_of_le hlt hs, RK_of fun i x hi => ?_⟩
    obtain ⟨cs, h4, h5⟩ := RK_get hK hi
    refine ⟨cs, fun j v hj => ?_, ih x (List.mem_of_getElem? hi) h5⟩
    rw [← h4 j v hj]
    exact World.cell?_of_block (hk b hb hlt)
theorem Kd.keep {g g' : Nat → Prop} {W W' : World} {a : Option Addr} {n : Nat} {l : List Rx} (h : Kd g W a n l) (hs : W.heap.size ≤ W'.heap.size) (hk : ∀ b, g b → b < W.heap.size → W'.heap[b]? = W.heap[b]?) (hg : ∀ b, g b → g' b) : Kd g' W' a n l := by
  have h1 : RC g W (.mk 0 none8 l) (rcs 0 none8 (.slice a n 0)) := RC_mk.2 ⟨a, n, 0, rfl, h⟩
  obtain ⟨a', n', c', e, h2⟩ := RC_mk.1 (RC.keep hs hk hg _ h1)
  simp [rcs] at e
  obtain ⟨rfl, rfl, rfl⟩ := e
  exact h2
theorem Kd.below {g : Nat → Prop} {W W' : World} {a : Option Addr} {n : Nat} {l : List Rx} (h : Kd g W a n l) (hb : Below W.heap.size W W') : Kd g W' a n l := h.keep hb.size (fun b _ hlt => hb.block b hlt) fun _ h => h
theorem RC.below {g : Nat → Prop} {W W' : World} {r : Rx} {cs : List Value} (h : RC g W r cs) (hb : Below W.heap.size W W') : RC g W' r cs := RC.keep hb.size (fun b _ hlt => hb.block b hlt) (fun _ h => h) r h
theorem Kd.len {g : Nat → Prop} {W : World} {a : Option Addr} {n : Nat} {l : List Rx} (h : Kd g W a n l) : l.length = n := h.1
theorem Kd.lt {g : Nat → Prop} {W : World} {a : Option Addr} {n : Nat} {l : List Rx} (h : Kd g W a n l) : n < 140737488355328 := h.2.1
/-- A kid, with its cells. -/
theorem Kd.get {g : Nat → Prop} {W : World} {a : Option Addr} {n : Nat} {l : List Rx} (h : Kd g W a n l) {i : Nat} (hi : i < n) : ∃ b off k s l' a' n' c', a = some ⟨b, off, none⟩ ∧ g b ∧ b < W.heap.size ∧ l[i]? = some (.mk k s l') ∧ Kd g W a' n' l' ∧
    W.cell? ⟨b, off + i * 6, none⟩ = some (.int .i64 k) ∧ W.cell? ⟨b, off + i * 6 + 1, none⟩ = some (.int .u64 (ws s 0 : Int)) ∧ W.cell? ⟨b, off + i * 6 + 2, none⟩ = some (.int .u64 (ws s 1 : Int)) ∧ W.cell? ⟨b, off + i * 6 + 3, none⟩ = some (.int .u64 (ws s 2 : Int)) ∧ W.cell? ⟨b, off + i * 6 + 4, none⟩ = some (.int .u64 (ws s 3 : Int)) ∧ W.cell? ⟨b, off + i * 6 + 5, none⟩ = some (.slice a' n' c') := by
  obtain ⟨h1, h2, h3⟩ := h
  rcases h3 with h0 | ⟨b, off, rfl, hb, hlt, hK⟩
  · omega
  · have hx : l[i]? = some (l[i]'(by omega)) := List.getElem?_eq_getElem _
    obtain ⟨cs, h4, h5⟩ := RK_get hK hx
    rw [hx]
    generalize l[i]'(by omega) = x at h5
    obtain ⟨k, s, l'⟩ := x
    obtain ⟨a', n', c', rfl, h6⟩ := RC_mk.1 h5
    exact ⟨b, off, k, s, l', a', n', c', rfl, hb, hlt, rfl, h6, h4 0 _ rfl, h4 1 _ rfl, h4 2 _ rfl, h4 3 _ rfl, h4 4 _ rfl, h4 5 _ rfl⟩
end Go.Proofs.YtednoideboeehaaDoor
end
section
set_option linter.unusedSimpArgs false
set_option linter.unusedVariables false
namespace Go.Proofs.YtednoideboeehaaDoor
open Go.RowKit Bs Rg Go.Frame
attribute [local go_sem] eq_zero eq_set

set_option maxRecDepth 100000 in
set_option maxHeartbeats 4000000 in
theorem shaped_any (k : Int) (s : BS) (a : Option Addr) (n c : Nat) (w : World) (hn : n < 140737488355328) :
    Calls Tryd.prog 51 #[.agg #[.int .i64 k, .int .u64 (ws s 0 : Int), .int .u64 (ws s 1 : Int), .int .u64 (ws s 2 : Int), .int .u64 (ws s 3 : Int), .slice a n c]] w fun e w' => e = .returned (.bool (shaped k s n)) ∧ Below w.heap.size w w' := by
  have hk : k = 1 ∨ k = 2 ∨ k = 3 ∨ k = 4 ∨ k = 5 ∨ k = 6 ∨ (k ≠ 1 ∧ k ≠ 2 ∧ k ≠ 3 ∧ k ≠ 4 ∧ k ≠ 5 ∧ k ≠ 6) := by omega
  have hn : n = 0 ∨ n = 1 ∨ ((2 : Int) ≤ n ∧ ¬ (n : Int) = 0 ∧ ¬ (n : Int) = 1 ∧ ¬ n = 0 ∧ ¬ n = 1 ∧ 2 ≤ n) := by omega
  rcases hk with rfl | rfl | rfl | rfl | rfl | rfl | ⟨h1, h2, h3, h4, h5, h6⟩ <;> rcases hn with rfl | rfl | ⟨n1, n2, n3, n4, n5, n6⟩
  all_goals
    go_enter Tryd.func51, Tryd.ntmps51
    go_wp2_with fail
    go_quiet (fail)
    go_wp2
  all_goals
    go_ret
    refine ⟨?_, below_drewN ((Below.refl _ _).alloc (Nat.le_refl _) _) _⟩
    simp [shaped, *]
end Go.Proofs.YtednoideboeehaaDoor
end
section
set_option linter.unusedSimpArgs false
set_option linter.unusedVariables false
namespace Go.Proofs.YtednoideboeehaaDoor
open Go.RowKit Bs Rg Go.Frame
attribute [local go_sem] eq_zero eq_set

theorem take_all {l : List Rx} {P : Rx → Prop} {i : Nat} {x : Rx} (h : ∀ y ∈ l.take i, P y) (hi : l[i]? = some x) (hx : P x) : ∀ y ∈ l.take (i + 1), P y := by
  intro y hy
  rw [List.take_add_one, hi] at hy
  rcases List.mem_append.1 hy with h' | h'
  · exact h y h'
  · simp at h'; rw [h']; exact hx
theorem take_full {l : List Rx} {P : Rx → Prop} {i n : Nat} (h : ∀ y ∈ l.take i, P y) (hl : l.length = n) (hi : n ≤ i) : ∀ y ∈ l, P y := by
  rw [List.take_of_length_le (by omega)] at h; exact h

set_option maxRecDepth 100000 in
set_option maxHeartbeats 4000000 in
theorem fits_any (g : Nat → Prop) (r : Rx) : ∀ (d : Nat) (w : World) (cs : List Value), d ≤ 1000 → RC g w r cs →
    Calls Tryd.prog 29 #[.agg cs.toArray, .int .i64 (d : Int)] w fun e w' => e = .returned (.bool (fits r d)) ∧ Below w.heap.size w w' := by
  induction r using Rx.ind with
  | h k s l ih =>
  intro d w cs hd h
  obtain ⟨a, n, c, rfl, hK⟩ := RC_mk.1 h
  clear h
  show Calls Tryd.prog 29 #[.agg #[.int .i64 k, .int .u64 (ws s 0 : Int), .int .u64 (ws s 1 : Int), .int .u64 (ws s 2 : Int), .int .u64 (ws s 3 : Int), .slice a n c], .int .i64 (d : Int)] w _
  cases d with
  | zero =>
    go_enter Tryd.func29, Tryd.ntmps29
    go_wp2
    go_ret
    rw [fits_zero]
    exact ⟨rfl, (Below.refl _ _).alloc (Nat.le_refl _) _⟩
  | succ d =>
    obtain ⟨m, hm⟩ : ∃ m : Int, m = ((d + 1 : Nat) : Int) := ⟨_, rfl⟩
    rw [← hm]
    have hd0 : (m == 0) = false := by simp; omega
    have hd1 : IntKind.i64.wrap (m - 1) = (d : Int) := by rw [wrapIn] <;> omega
    obtain ⟨q, hq⟩ : ∃ q, q = fits (.mk k s l) (d + 1) := ⟨_, rfl⟩
    rw [← hq]
    rw [fits_mk, hK.len] at hq
    have F := hid hq
    clear hq
    have hln := hid hK.len
    have hnl := hK.lt
    have IH := hid fun x hx W cs hc => ih x hx d W cs (by omega) hc
    obtain ⟨W, hW⟩ : ∃ W, W = w.alloc (.cells #[.int .i64 k, .int .u64 (ws s 0 : Int), .int .u64 (ws s 1 : Int), .int .u64 (ws s 2 : Int), .int .u64 (ws s 3 : Int), .slice a n c] 27) := ⟨_, rfl⟩
    have bW : Below w.heap.size w W := by rw [hW]; exact (Below.refl _ _).alloc (Nat.le_refl _) _
    have x0 : W.heap[w.heap.size]? = some (.cells #[.int .i64 k, .int .u64 (ws s 0 : Int), .int .u64 (ws s 1 : Int), .int .u64 (ws s 2 : Int), .int .u64 (ws s 3 : Int), .slice a n c] 27 (0, 0)) := by rw [hW]; exact alloc_new _ _
    have CS := hid (shaped_any k s a n c W hK.lt)
    have HK := hid (And.intro (hK.below bW) (And.intro bW x0))
    clear hK ih hm bW x0
    go_enter Tryd.func29, Tryd.ntmps29
    go_wp2_with fail
    rw [← hW]
    refine CS.out.mono ?_
    rintro e W1 ⟨rfl, b1⟩
    have c5 : W1.cell? ⟨w.heap.size, 5, none⟩ = some (.slice a n c) := by
      simp [World.cell?, (b1.block _ (heap_lt HK.out.2.2)).trans HK.out.2.2]
    have H1 := hid (And.intro (HK.out.1.below b1) (HK.out.2.1.trans (b1.mono HK.out.2.1.size)))
    clear hW b1
    cases hs : shaped k s n
    · go_wp2
      go_ret
      exact ⟨by rw [F.out, hs]; rfl, H1.out.2⟩
    · have F := hid (show q = fitsL l d by rw [F.out, hs, Bool.true_and])
      clear hs
      go_wp2_with fail
      go_loopg [17] n (fun k sl wr => ∃ i : Nat, sl = .int .i64 i ∧ i + k = n ∧ (∀ y ∈ l.take i, fits y d = true) ∧ Below W1.heap.size W1 wr)
      case atStart => exact ⟨0, rfl, by omega, by simp, Below.refl _ _⟩
      case round =>
        obtain ⟨i, rfl, hk, hall, hbw⟩ := hrel
        by_cases hlt : i < n
        · have hlt' : (i : Int) < (n : Int) := by omega
          obtain ⟨b, off, k', s', l', a', n', c', rfl, _, hb, hx, hK', q0, q1, q2, q3, q4, q5⟩ := (H1.out.1.below hbw).get hlt
          have HX := hid (And.intro hx (And.intro hK' (And.intro hbw hall)))
          clear hx hK' hbw hall
          have CR := hid (fun V (hV : Below wr.heap.size wr V) => IH.out _ (List.mem_of_getElem? HX.out.1) V _ (RC_mk.2 ⟨a', n', c', rfl, HX.out.2.1.below hV⟩))
          go_wp2_with fail
          refine (CR.out _ ((Below.refl _ _).alloc (Nat.le_refl _) _)).mono ?_
          rintro e W2 ⟨rfl, b2⟩
          have b2' : Below wr.heap.size wr W2 := ((Below.refl _ _).alloc (Nat.le_refl _) _).trans (b2.mono (by simp))
          have HB := hid (HX.out.2.2.1.trans (b2'.mono HX.out.2.2.1.size))
          clear b2 b2'
          cases hf : fits (.mk k' s' l') d
          · go_wp2
            go_ret
            refine ⟨?_, H1.out.2.trans (HB.out.mono H1.out.2.size)⟩
            have : q = false := by
              rw [F.out, ← Bool.not_eq_true, fitsL_iff]
              intro h
              have := h _ (List.mem_of_getElem? HX.out.1)
              rw [hf] at this; cases this
            rw [this]; rfl
          · go_wp2
            go_roundg (gk - 1)
            case measure => omega
            case rel => exact ⟨i + 1, by go_num, by omega, take_all HX.out.2.2.2 HX.out.1 hf, HB.out⟩
        · have hin : ¬ (i : Int) < (n : Int) := by omega
          have HX := hid (And.intro hall hbw)
          clear hall hbw
          go_wp2
          go_ret
          refine ⟨?_, H1.out.2.trans (HX.out.2.mono H1.out.2.size)⟩
          have : q = true := by
            rw [F.out, fitsL_iff]
            exact take_full HX.out.1 hln.out (by omega)
          rw [this]; rfl
theorem Valid_any (g : Nat → Prop) (r : Rx) (w : World) (cs : List Value) (h : RC g w r cs) :
    Calls Tryd.prog 14 #[.agg cs.toArray] w fun e w' => e = .returned (.bool (fits r 30)) ∧ Below w.heap.size w w' := by
  obtain ⟨k, s, l⟩ := r
  obtain ⟨a, n, c, rfl, hK⟩ := RC_mk.1 h
  have b1 : ∀ o, Below w.heap.size w (w.alloc o) := fun o => (Below.refl _ _).alloc (Nat.le_refl _) o
  have CF := hid (fun V (hV : Below w.heap.size w V) => fits_any g (.mk k s l) 30 V _ (by decide) (RC_mk.2 ⟨a, n, c, rfl, hK.below hV⟩))
  clear hK h
  show Calls Tryd.prog 14 #[.agg #[.int .i64 k, .int .u64 (ws s 0 : Int), .int .u64 (ws s 1 : Int), .int .u64 (ws s 2 : Int), .int .u64 (ws s 3 : Int), .slice a n c]] w _
  go_enter Tryd.func14, Tryd.ntmps14
  go_wp2_with fail
  refine (CF.out _ (b1 _)).mono ?_
  rintro e W ⟨rfl, b2⟩
  have B := hid ((b1 _).trans (b2.mono (b1 _).size))
  clear b2
  go_wp2
  go_ret
  exact ⟨rfl, B.out⟩
theorem matchable_any (g : Nat → Prop) (r : Rx) (w : World) (cs : List Value) (h : RC g w r cs) :
    Calls Tryd.prog 44 #[.agg cs.toArray] w fun e w' => e = .returned (.bool (fits r 32)) ∧ Below w.heap.size w w' := by
  obtain ⟨k, s, l⟩ := r
  obtain ⟨a, n, c, rfl, hK⟩ := RC_mk.1 h
  have b1 : ∀ o, Below w.heap.size w (w.alloc o) := fun o => (Below.refl _ _).alloc (Nat.le_refl _) o
  have CF := hid (fun V (hV : Below w.heap.size w V) => fits_any g (.mk k s l) 32 V _ (by decide) (RC_mk.2 ⟨a, n, c, rfl, hK.below hV⟩))
  clear hK h
  show Calls Tryd.prog 44 #[.agg #[.int .i64 k, .int .u64 (ws s 0 : Int), .int .u64 (ws s 1 : Int), .int .u64 (ws s 2 : Int), .int .u64 (ws s 3 : Int), .slice a n c]] w _
  go_enter Tryd.func44, Tryd.ntmps44
  go_wp2_with fail
  refine (CF.out _ (b1 _)).mono ?_
  rintro e W ⟨rfl, b2⟩
  have B := hid ((b1 _).trans (b2.mono (b1 _).size))
  clear b2
  go_wp2
  go_ret
  exact ⟨rfl, B.out⟩
end Go.Proofs.YtednoideboeehaaDoor
end
