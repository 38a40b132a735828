/-
  Contracts: Union, Intersect, Complement.
-/
import Derived.Test.YtnjlnldbfejjpaaDoorE
set_option linter.unusedSimpArgs false
set_option linter.unusedVariables false
namespace Go.Proofs.YtnjlnldbfejjpaaDoor
open Go.RowKit Bs Go.Frame

/-- The first i words of g, the others of p. -/
def mix (g p : Nat → Bool) (i x : Nat) : Bool := if x < 64 * i then g x else p x
theorem mix_zero (g p : Nat → Bool) (x : Nat) : mix g p 0 x = p x := by unfold mix; rw [if_neg (by omega)]
theorem mix_four (g p : Nat → Bool) {x : Nat} (h : x < 256) : mix g p 4 x = g x := by unfold mix; rw [if_pos (by omega)]
theorem wd_mix_lt (g p : Nat → Bool) {i k : Nat} (h : k < i) : wd (mix g p i) k = wd g k := nb_congr fun j hj => by unfold mix; rw [if_pos (by omega)]
theorem wd_mix_ge (g p : Nat → Bool) {i k : Nat} (h : i ≤ k) : wd (mix g p i) k = wd p k := nb_congr fun j hj => by unfold mix; rw [if_neg (by omega)]
theorem or_wd (p q : Nat → Bool) (k : Nat) : bits .or .u64 (wd p k : Int) (wd q k : Int) = (wd (fun x => p x || q x) k : Int) :=
  (u64_or_nat _ _ (wd_lt p k) (wd_lt q k)).trans (congrArg _ (nb_or (fun j => p (64 * k + j)) (fun j => q (64 * k + j)) 64).symm)
theorem and_wd (p q : Nat → Bool) (k : Nat) : bits .and .u64 (wd p k : Int) (wd q k : Int) = (wd (fun x => p x && q x) k : Int) :=
  (u64_and_nat _ _ (wd_lt p k) (wd_lt q k)).trans (congrArg _ (nb_and (fun j => p (64 * k + j)) (fun j => q (64 * k + j)) 64).symm)
theorem not_wd (p : Nat → Bool) (k : Nat) : bits .xor .u64 18446744073709551615 (wd p k : Int) = (wd (fun x => !p x) k : Int) :=
  (u64_xor_nat 18446744073709551615 _ (by decide) (wd_lt p k)).trans (congrArg _ (nb_not (fun j => p (64 * k + j)) 64).symm)

set_option maxRecDepth 100000 in
set_option maxHeartbeats 4000000 in
theorem Union_any (p q : Nat → Bool) (w : World) :
    Calls Tryd.prog 16 #[sv p, sv q] w fun e w' => e = .returned (sv (fun x => p x || q x)) ∧ Below w.heap.size w w' := by
  obtain ⟨g, hg⟩ : ∃ g : Nat → Bool, g = fun x => p x || q x := ⟨_, rfl⟩
  have E := hid (show ∀ k, bits .or .u64 (wd p k : Int) (wd q k : Int) = (wd g k : Int) from fun k => by rw [hg]; exact or_wd p q k)
  rw [← hg]
  clear hg
  obtain ⟨W, hW⟩ : ∃ W, W = ((w.alloc (.cells #[.int .u64 (wd (p) 0 : Int), .int .u64 (wd (p) 1 : Int), .int .u64 (wd (p) 2 : Int), .int .u64 (wd (p) 3 : Int)] 25)).alloc (.cells #[.int .u64 (wd (q) 0 : Int), .int .u64 (wd (q) 1 : Int), .int .u64 (wd (q) 2 : Int), .int .u64 (wd (q) 3 : Int)] 25)).alloc zset := ⟨_, rfl⟩
  obtain ⟨x0, x1, x2, bW, hsz⟩ := three w (.cells #[.int .u64 (wd (p) 0 : Int), .int .u64 (wd (p) 1 : Int), .int .u64 (wd (p) 2 : Int), .int .u64 (wd (p) 3 : Int)] 25) (.cells #[.int .u64 (wd (q) 0 : Int), .int .u64 (wd (q) 1 : Int), .int .u64 (wd (q) 2 : Int), .int .u64 (wd (q) 3 : Int)] 25) zset
  rw [← hW] at x0 x1 x2 bW hsz
  have HW := hid hW
  have HX := hid (And.intro x0 (And.intro x1 (And.intro x2 (And.intro bW hsz))))
  unfold zset at hW
  clear x0 x1 x2 bW hsz
  unfold sv
  go_enter Tryd.func16, Tryd.ntmps16
  go_wp2_with fail
  rw [← hW]
  clear hW
  go_loopg [6] 4 (fun k sl wr => ∃ i : Nat, sl = .int .i64 i ∧ i + k = 4 ∧ SB wr w.heap.size (mix g p i) ∧ SB wr (w.heap.size + 1) q ∧ SB wr (w.heap.size + 1 + 1) (fun _ => false) ∧ Below w.heap.size w wr)
  case atStart => exact ⟨0, rfl, rfl, SB_congr (fun x _ => (mix_zero g p x).symm) HX.out.1, HX.out.2.1, sb_zero HX.out.2.2.1, HX.out.2.2.2.1⟩
  case round =>
    obtain ⟨i, rfl, hk, hA, hB, hC, hbw⟩ := hrel
    have hi5 : i = 0 ∨ i = 1 ∨ i = 2 ∨ i = 3 ∨ i = 4 := by omega
    rcases hi5 with rfl | rfl | rfl | rfl | rfl
    · have hA' : wr.heap[w.heap.size]? = some (.cells #[.int .u64 (wd (p) 0 : Int), .int .u64 (wd (p) 1 : Int), .int .u64 (wd (p) 2 : Int), .int .u64 (wd (p) 3 : Int)] 25 (0, 0)) := by
        have := hA
        unfold SB at this
        rw [wd_mix_ge g p (i := 0) (k := 0) (by decide), wd_mix_ge g p (i := 0) (k := 1) (by decide), wd_mix_ge g p (i := 0) (k := 2) (by decide), wd_mix_ge g p (i := 0) (k := 3) (by decide)] at this
        exact this
      have e0 := E.out 0
      have HH := hid (And.intro hA' (And.intro hB (And.intro hC hbw)))
      clear hA hA' hB hC hbw
      go_wp2_with fail
      refine (wpIn_wide (n := 0)).1 (wpIn_region_below_tail 8 free_wide (by kernel_rfl) (by kernel_rfl) (by kernel_rfl) ?_)
      intro X f _ hf hs
      have lA := heap_lt HH.out.1
      have lB := heap_lt HH.out.2.1
      have k0 := fun x => (cells4 (((hf.out x).block _ lA).trans HH.out.1)).1
      have k1 := fun x => (cells4 (((hf.out x).block _ lB).trans HH.out.2.1)).1
      simp only [List.take_succ_cons, List.take_zero, List.drop_succ_cons, List.drop_zero]
      repeat (go_big_quiet_step (fail))
      refine wpQuiet_nil ?_
      intro Y hY
      have yA := (hY.block _ lA).trans HH.out.1
      have HY := hid hY
      obtain ⟨c0, c1, c2, c3⟩ := cells4 yA
      obtain ⟨f0, f1, f2, f3⟩ := frozen4 yA
      have HYA := hid yA
      clear yA hY k0 k1 hf hs lA lB
      gi_wp2
      go_wp2
      go_roundg (gk - 1)
      case measure => omega
      case rel =>
        obtain ⟨h1, h2, h3, h4⟩ := HH.out
        have h5 := h4.size
        refine ⟨1, by go_num, by omega, ?_, ?_, ?_, ?_⟩
        · unfold SB
          rw [wd_mix_lt g p (i := 1) (k := 0) (by decide), wd_mix_ge g p (i := 1) (k := 1) (by decide), wd_mix_ge g p (i := 1) (k := 2) (by decide), wd_mix_ge g p (i := 1) (k := 3) (by decide)]
          exact blk_put HYA.out
        · unfold SB; exact blk_set ((HY.out.block _ (heap_lt h2)).trans h2) (by show w.heap.size + 1 ≠ w.heap.size; omega)
        · unfold SB; exact blk_set ((HY.out.block _ (heap_lt h3)).trans h3) (by show w.heap.size + 1 + 1 ≠ w.heap.size; omega)
        · exact below_put (h4.trans (HY.out.mono h4.size)) (by omega)
    · have hA' : wr.heap[w.heap.size]? = some (.cells #[.int .u64 (wd (g) 0 : Int), .int .u64 (wd (p) 1 : Int), .int .u64 (wd (p) 2 : Int), .int .u64 (wd (p) 3 : Int)] 25 (0, 0)) := by
        have := hA
        unfold SB at this
        rw [wd_mix_lt g p (i := 1) (k := 0) (by decide), wd_mix_ge g p (i := 1) (k := 1) (by decide), wd_mix_ge g p (i := 1) (k := 2) (by decide), wd_mix_ge g p (i := 1) (k := 3) (by decide)] at this
        exact this
      have e0 := E.out 1
      have HH := hid (And.intro hA' (And.intro hB (And.intro hC hbw)))
      clear hA hA' hB hC hbw
      go_wp2_with fail
      refine (wpIn_wide (n := 0)).1 (wpIn_region_below_tail 8 free_wide (by kernel_rfl) (by kernel_rfl) (by kernel_rfl) ?_)
      intro X f _ hf hs
      have lA := heap_lt HH.out.1
      have lB := heap_lt HH.out.2.1
      have k0 := fun x => (cells4 (((hf.out x).block _ lA).trans HH.out.1)).2.1
      have k1 := fun x => (cells4 (((hf.out x).block _ lB).trans HH.out.2.1)).2.1
      simp only [List.take_succ_cons, List.take_zero, List.drop_succ_cons, List.drop_zero]
      repeat (go_big_quiet_step (fail))
      refine wpQuiet_nil ?_
      intro Y hY
      have yA := (hY.block _ lA).trans HH.out.1
      have HY := hid hY
      obtain ⟨c0, c1, c2, c3⟩ := cells4 yA
      obtain ⟨f0, f1, f2, f3⟩ := frozen4 yA
      have HYA := hid yA
      clear yA hY k0 k1 hf hs lA lB
      gi_wp2
      go_wp2
      go_roundg (gk - 1)
      case measure => omega
      case rel =>
        obtain ⟨h1, h2, h3, h4⟩ := HH.out
        have h5 := h4.size
        refine ⟨2, by go_num, by omega, ?_, ?_, ?_, ?_⟩
        · unfold SB
          rw [wd_mix_lt g p (i := 2) (k := 0) (by decide), wd_mix_lt g p (i := 2) (k := 1) (by decide), wd_mix_ge g p (i := 2) (k := 2) (by decide), wd_mix_ge g p (i := 2) (k := 3) (by decide)]
          exact blk_put HYA.out
        · unfold SB; exact blk_set ((HY.out.block _ (heap_lt h2)).trans h2) (by show w.heap.size + 1 ≠ w.heap.size; omega)
        · unfold SB; exact blk_set ((HY.out.block _ (heap_lt h3)).trans h3) (by show w.heap.size + 1 + 1 ≠ w.heap.size; omega)
        · exact below_put (h4.trans (HY.out.mono h4.size)) (by omega)
    · have hA' : wr.heap[w.heap.size]? = some (.cells #[.int .u64 (wd (g) 0 : Int), .int .u64 (wd (g) 1 : Int), .int .u64 (wd (p) 2 : Int), .int .u64 (wd (p) 3 : Int)] 25 (0, 0)) := by
        have := hA
        unfold SB at this
        rw [wd_mix_lt g p (i := 2) (k := 0) (by decide), wd_mix_lt g p (i := 2) (k := 1) (by decide), wd_mix_ge g p (i := 2) (k := 2) (by decide), wd_mix_ge g p (i := 2) (k := 3) (by decide)] at this
        exact this
      have e0 := E.out 2
      have HH := hid (And.intro hA' (And.intro hB (And.intro hC hbw)))
      clear hA hA' hB hC hbw
      go_wp2_with fail
      refine (wpIn_wide (n := 0)).1 (wpIn_region_below_tail 8 free_wide (by kernel_rfl) (by kernel_rfl) (by kernel_rfl) ?_)
      intro X f _ hf hs
      have lA := heap_lt HH.out.1
      have lB := heap_lt HH.out.2.1
      have k0 := fun x => (cells4 (((hf.out x).block _ lA).trans HH.out.1)).2.2.1
      have k1 := fun x => (cells4 (((hf.out x).block _ lB).trans HH.out.2.1)).2.2.1
      simp only [List.take_succ_cons, List.take_zero, List.drop_succ_cons, List.drop_zero]
      repeat (go_big_quiet_step (fail))
      refine wpQuiet_nil ?_
      intro Y hY
      have yA := (hY.block _ lA).trans HH.out.1
      have HY := hid hY
      obtain ⟨c0, c1, c2, c3⟩ := cells4 yA
      obtain ⟨f0, f1, f2, f3⟩ := frozen4 yA
      have HYA := hid yA
      clear yA hY k0 k1 hf hs lA lB
      gi_wp2
      go_wp2
      go_roundg (gk - 1)
      case measure => omega
      case rel =>
        obtain ⟨h1, h2, h3, h4⟩ := HH.out
        have h5 := h4.size
        refine ⟨3, by go_num, by omega, ?_, ?_, ?_, ?_⟩
        · unfold SB
          rw [wd_mix_lt g p (i := 3) (k := 0) (by decide), wd_mix_lt g p (i := 3) (k := 1) (by decide), wd_mix_lt g p (i := 3) (k := 2) (by decide), wd_mix_ge g p (i := 3) (k := 3) (by decide)]
          exact blk_put HYA.out
        · unfold SB; exact blk_set ((HY.out.block _ (heap_lt h2)).trans h2) (by show w.heap.size + 1 ≠ w.heap.size; omega)
        · unfold SB; exact blk_set ((HY.out.block _ (heap_lt h3)).trans h3) (by show w.heap.size + 1 + 1 ≠ w.heap.size; omega)
        · exact below_put (h4.trans (HY.out.mono h4.size)) (by omega)
    · have hA' : wr.heap[w.heap.size]? = some (.cells #[.int .u64 (wd (g) 0 : Int), .int .u64 (wd (g) 1 : Int), .int .u64 (wd (g) 2 : Int), .int .u64 (wd (p) 3 : Int)] 25 (0, 0)) := by
        have := hA
        unfold SB at this
        rw [wd_mix_lt g p (i := 3) (k := 0) (by decide), wd_mix_lt g p (i := 3) (k := 1) (by decide), wd_mix_lt g p (i := 3) (k := 2) (by decide), wd_mix_ge g p (i := 3) (k := 3) (by decide)] at this
        exact this
      have e0 := E.out 3
      have HH := hid (And.intro hA' (And.intro hB (And.intro hC hbw)))
      clear hA hA' hB hC hbw
      go_wp2_with fail
      refine (wpIn_wide (n := 0)).1 (wpIn_region_below_tail 8 free_wide (by kernel_rfl) (by kernel_rfl) (by kernel_rfl) ?_)
      intro X f _ hf hs
      have lA := heap_lt HH.out.1
      have lB := heap_lt HH.out.2.1
      have k0 := fun x => (cells4 (((hf.out x).block _ lA).trans HH.out.1)).2.2.2
      have k1 := fun x => (cells4 (((hf.out x).block _ lB).trans HH.out.2.1)).2.2.2
      simp only [List.take_succ_cons, List.take_zero, List.drop_succ_cons, List.drop_zero]
      repeat (go_big_quiet_step (fail))
      refine wpQuiet_nil ?_
      intro Y hY
      have yA := (hY.block _ lA).trans HH.out.1
      have HY := hid hY
      obtain ⟨c0, c1, c2, c3⟩ := cells4 yA
      obtain ⟨f0, f1, f2, f3⟩ := frozen4 yA
      have HYA := hid yA
      clear yA hY k0 k1 hf hs lA lB
      gi_wp2
      go_wp2
      go_roundg (gk - 1)
      case measure => omega
      case rel =>
        obtain ⟨h1, h2, h3, h4⟩ := HH.out
        have h5 := h4.size
        refine ⟨4, by go_num, by omega, ?_, ?_, ?_, ?_⟩
        · unfold SB
          rw [wd_mix_lt g p (i := 4) (k := 0) (by decide), wd_mix_lt g p (i := 4) (k := 1) (by decide), wd_mix_lt g p (i := 4) (k := 2) (by decide), wd_mix_lt g p (i := 4) (k := 3) (by decide)]
          exact blk_put HYA.out
        · unfold SB; exact blk_set ((HY.out.block _ (heap_lt h2)).trans h2) (by show w.heap.size + 1 ≠ w.heap.size; omega)
        · unfold SB; exact blk_set ((HY.out.block _ (heap_lt h3)).trans h3) (by show w.heap.size + 1 + 1 ≠ w.heap.size; omega)
        · exact below_put (h4.trans (HY.out.mono h4.size)) (by omega)
    · have hA' : SB wr w.heap.size g := SB_congr (fun x hx => mix_four g p hx) hA
      obtain ⟨c0, c1, c2, c3⟩ := cells4 hA'
      obtain ⟨a0, a1, a2, a3⟩ := cells4 hC
      obtain ⟨f0, f1, f2, f3⟩ := frozen4 hC
      have HA := hid hC
      have HB := hid hbw
      clear hA hA' hB hC hbw
      go_wp2
      have z := four_set (x' := .int .u64 (wd g 0 : Int)) (y' := .int .u64 (wd g 1 : Int)) (z' := .int .u64 (wd g 2 : Int)) (u' := .int .u64 (wd g 3 : Int)) HA.out
      obtain ⟨r0, r1, r2, r3⟩ := cells4 z
      refine bodyPost_ret (v := sv g) ?_ rfl ⟨rfl, ?_⟩
      · unfold sv; simp [results, Tryd.results16, go_sem, r0, r1, r2, r3]
      · exact below_put (below_put (below_put (below_put HB.out (by omega)) (by omega)) (by omega)) (by omega)

set_option maxRecDepth 100000 in
set_option maxHeartbeats 4000000 in
theorem Intersect_any (p q : Nat → Bool) (w : World) :
    Calls Tryd.prog 18 #[sv p, sv q] w fun e w' => e = .returned (sv (fun x => p x && q x)) ∧ Below w.heap.size w w' := by
  obtain ⟨g, hg⟩ : ∃ g : Nat → Bool, g = fun x => p x && q x := ⟨_, rfl⟩
  have E := hid (show ∀ k, bits .and .u64 (wd p k : Int) (wd q k : Int) = (wd g k : Int) from fun k => by rw [hg]; exact and_wd p q k)
  rw [← hg]
  clear hg
  obtain ⟨W, hW⟩ : ∃ W, W = ((w.alloc (.cells #[.int .u64 (wd (p) 0 : Int), .int .u64 (wd (p) 1 : Int), .int .u64 (wd (p) 2 : Int), .int .u64 (wd (p) 3 : Int)] 25)).alloc (.cells #[.int .u64 (wd (q) 0 : Int), .int .u64 (wd (q) 1 : Int), .int .u64 (wd (q) 2 : Int), .int .u64 (wd (q) 3 : Int)] 25)).alloc zset := ⟨_, rfl⟩
  obtain ⟨x0, x1, x2, bW, hsz⟩ := three w (.cells #[.int .u64 (wd (p) 0 : Int), .int .u64 (wd (p) 1 : Int), .int .u64 (wd (p) 2 : Int), .int .u64 (wd (p) 3 : Int)] 25) (.cells #[.int .u64 (wd (q) 0 : Int), .int .u64 (wd (q) 1 : Int), .int .u64 (wd (q) 2 : Int), .int .u64 (wd (q) 3 : Int)] 25) zset
  rw [← hW] at x0 x1 x2 bW hsz
  have HW := hid hW
  have HX := hid (And.intro x0 (And.intro x1 (And.intro x2 (And.intro bW hsz))))
  unfold zset at hW
  clear x0 x1 x2 bW hsz
  unfold sv
  go_enter Tryd.func18, Tryd.ntmps18
  go_wp2_with fail
  rw [← hW]
  clear hW
  go_loopg [6] 4 (fun k sl wr => ∃ i : Nat, sl = .int .i64 i ∧ i + k = 4 ∧ SB wr w.heap.size (mix g p i) ∧ SB wr (w.heap.size + 1) q ∧ SB wr (w.heap.size + 1 + 1) (fun _ => false) ∧ Below w.heap.size w wr)
  case atStart => exact ⟨0, rfl, rfl, SB_congr (fun x _ => (mix_zero g p x).symm) HX.out.1, HX.out.2.1, sb_zero HX.out.2.2.1, HX.out.2.2.2.1⟩
  case round =>
    obtain ⟨i, rfl, hk, hA, hB, hC, hbw⟩ := hrel
    have hi5 : i = 0 ∨ i = 1 ∨ i = 2 ∨ i = 3 ∨ i = 4 := by omega
    rcases hi5 with rfl | rfl | rfl | rfl | rfl
    · have hA' : wr.heap[w.heap.size]? = some (.cells #[.int .u64 (wd (p) 0 : Int), .int .u64 (wd (p) 1 : Int), .int .u64 (wd (p) 2 : Int), .int .u64 (wd (p) 3 : Int)] 25 (0, 0)) := by
        have := hA
        unfold SB at this
        rw [wd_mix_ge g p (i := 0) (k := 0) (by decide), wd_mix_ge g p (i := 0) (k := 1) (by decide), wd_mix_ge g p (i := 0) (k := 2) (by decide), wd_mix_ge g p (i := 0) (k := 3) (by decide)] at this
        exact this
      have e0 := E.out 0
      have HH := hid (And.intro hA' (And.intro hB (And.intro hC hbw)))
      clear hA hA' hB hC hbw
      go_wp2_with fail
      refine (wpIn_wide (n := 0)).1 (wpIn_region_below_tail 8 free_wide (by kernel_rfl) (by kernel_rfl) (by kernel_rfl) ?_)
      intro X f _ hf hs
      have lA := heap_lt HH.out.1
      have lB := heap_lt HH.out.2.1
      have k0 := fun x => (cells4 (((hf.out x).block _ lA).trans HH.out.1)).1
      have k1 := fun x => (cells4 (((hf.out x).block _ lB).trans HH.out.2.1)).1
      simp only [List.take_succ_cons, List.take_zero, List.drop_succ_cons, List.drop_zero]
      repeat (go_big_quiet_step (fail))
      refine wpQuiet_nil ?_
      intro Y hY
      have yA := (hY.block _ lA).trans HH.out.1
      have HY := hid hY
      obtain ⟨c0, c1, c2, c3⟩ := cells4 yA
      obtain ⟨f0, f1, f2, f3⟩ := frozen4 yA
      have HYA := hid yA
      clear yA hY k0 k1 hf hs lA lB
      gi_wp2
      go_wp2
      go_roundg (gk - 1)
      case measure => omega
      case rel =>
        obtain ⟨h1, h2, h3, h4⟩ := HH.out
        have h5 := h4.size
        refine ⟨1, by go_num, by omega, ?_, ?_, ?_, ?_⟩
        · unfold SB
          rw [wd_mix_lt g p (i := 1) (k := 0) (by decide), wd_mix_ge g p (i := 1) (k := 1) (by decide), wd_mix_ge g p (i := 1) (k := 2) (by decide), wd_mix_ge g p (i := 1) (k := 3) (by decide)]
          exact blk_put HYA.out
        · unfold SB; exact blk_set ((HY.out.block _ (heap_lt h2)).trans h2) (by show w.heap.size + 1 ≠ w.heap.size; omega)
        · unfold SB; exact blk_set ((HY.out.block _ (heap_lt h3)).trans h3) (by show w.heap.size + 1 + 1 ≠ w.heap.size; omega)
        · exact below_put (h4.trans (HY.out.mono h4.size)) (by omega)
    · have hA' : wr.heap[w.heap.size]? = some (.cells #[.int .u64 (wd (g) 0 : Int), .int .u64 (wd (p) 1 : Int), .int .u64 (wd (p) 2 : Int), .int .u64 (wd (p) 3 : Int)] 25 (0, 0)) := by
        have := hA
        unfold SB at this
        rw [wd_mix_lt g p (i := 1) (k := 0) (by decide), wd_mix_ge g p (i := 1) (k := 1) (by decide), wd_mix_ge g p (i := 1) (k := 2) (by decide), wd_mix_ge g p (i := 1) (k := 3) (by decide)] at this
        exact this
      have e0 := E.out 1
      have HH := hid (And.intro hA' (And.intro hB (And.intro hC hbw)))
      clear hA hA' hB hC hbw
      go_wp2_with fail
      refine (wpIn_wide (n := 0)).1 (wpIn_region_below_tail 8 free_wide (by kernel_rfl) (by kernel_rfl) (by kernel_rfl) ?_)
      intro X f _ hf hs
      have lA := heap_lt HH.out.1
      have lB := heap_lt HH.out.2.1
      have k0 := fun x => (cells4 (((hf.out x).block _ lA).trans HH.out.1)).2.1
      have k1 := fun x => (cells4 (((hf.out x).block _ lB).trans HH.out.2.1)).2.1
      simp only [List.take_succ_cons, List.take_zero, List.drop_succ_cons, List.drop_zero]
      repeat (go_big_quiet_step (fail))
      refine wpQuiet_nil ?_
      intro Y hY
      have yA := (hY.block _ lA).trans HH.out.1
      have HY := hid hY
      obtain ⟨c0, c1, c2, c3⟩ := cells4 yA
      obtain ⟨f0, f1, f2, f3⟩ := frozen4 yA
      have HYA := hid yA
      clear yA hY k0 k1 hf hs lA lB
      gi_wp2
      go_wp2
      go_roundg (gk - 1)
      case measure => omega
      case rel =>
        obtain ⟨h1, h2, h3, h4⟩ := HH.out
        have h5 := h4.size
        refine ⟨2, by go_num, by omega, ?_, ?_, ?_, ?_⟩
        · unfold SB
          rw [wd_mix_lt g p (i := 2) (k := 0) (by decide), wd_mix_lt g p (i := 2) (k := 1) (by decide), wd_mix_ge g p (i := 2) (k := 2) (by decide), wd_mix_ge g p (i := 2) (k := 3) (by decide)]
          exact blk_put HYA.out
        · unfold SB; exact blk_set ((HY.out.block _ (heap_lt h2)).trans h2) (by show w.heap.size + 1 ≠ w.heap.size; omega)
        · unfold SB; exact blk_set ((HY.out.block _ (heap_lt h3)).trans h3) (by show w.heap.size + 1 + 1 ≠ w.heap.size; omega)
        · exact below_put (h4.trans (HY.out.mono h4.size)) (by omega)
    · have hA' : wr.heap[w.heap.size]? = some (.cells #[.int .u64 (wd (g) 0 : Int), .int .u64 (wd (g) 1 : Int), .int .u64 (wd (p) 2 : Int), .int .u64 (wd (p) 3 : Int)] 25 (0, 0)) := by
        have := hA
        unfold SB at this
        rw [wd_mix_lt g p (i := 2) (k := 0) (by decide), wd_mix_lt g p (i := 2) (k := 1) (by decide), wd_mix_ge g p (i := 2) (k := 2) (by decide), wd_mix_ge g p (i := 2) (k := 3) (by decide)] at this
        exact this
      have e0 := E.out 2
      have HH := hid (And.intro hA' (And.intro hB (And.intro hC hbw)))
      clear hA hA' hB hC hbw
      go_wp2_with fail
      refine (wpIn_wide (n := 0)).1 (wpIn_region_below_tail 8 free_wide (by kernel_rfl) (by kernel_rfl) (by kernel_rfl) ?_)
      intro X f _ hf hs
      have lA := heap_lt HH.out.1
      have lB := heap_lt HH.out.2.1
      have k0 := fun x => (cells4 (((hf.out x).block _ lA).trans HH.out.1)).2.2.1
      have k1 := fun x => (cells4 (((hf.out x).block _ lB).trans HH.out.2.1)).2.2.1
      simp only [List.take_succ_cons, List.take_zero, List.drop_succ_cons, List.drop_zero]
      repeat (go_big_quiet_step (fail))
      refine wpQuiet_nil ?_
      intro Y hY
      have yA := (hY.block _ lA).trans HH.out.1
      have HY := hid hY
      obtain ⟨c0, c1, c2, c3⟩ := cells4 yA
      obtain ⟨f0, f1, f2, f3⟩ := frozen4 yA
      have HYA := hid yA
      clear yA hY k0 k1 hf hs lA lB
      gi_wp2
      go_wp2
      go_roundg (gk - 1)
      case measure => omega
      case rel =>
        obtain ⟨h1, h2, h3, h4⟩ := HH.out
        have h5 := h4.size
        refine ⟨3, by go_num, by omega, ?_, ?_, ?_, ?_⟩
        · unfold SB
          rw [wd_mix_lt g p (i := 3) (k := 0) (by decide), wd_mix_lt g p (i := 3) (k := 1) (by decide), wd_mix_lt g p (i := 3) (k := 2) (by decide), wd_mix_ge g p (i := 3) (k := 3) (by decide)]
          exact blk_put HYA.out
        · unfold SB; exact blk_set ((HY.out.block _ (heap_lt h2)).trans h2) (by show w.heap.size + 1 ≠ w.heap.size; omega)
        · unfold SB; exact blk_set ((HY.out.block _ (heap_lt h3)).trans h3) (by show w.heap.size + 1 + 1 ≠ w.heap.size; omega)
        · exact below_put (h4.trans (HY.out.mono h4.size)) (by omega)
    · have hA' : wr.heap[w.heap.size]? = some (.cells #[.int .u64 (wd (g) 0 : Int), .int .u64 (wd (g) 1 : Int), .int .u64 (wd (g) 2 : Int), .int .u64 (wd (p) 3 : Int)] 25 (0, 0)) := by
        have := hA
        unfold SB at this
        rw [wd_mix_lt g p (i := 3) (k := 0) (by decide), wd_mix_lt g p (i := 3) (k := 1) (by decide), wd_mix_lt g p (i := 3) (k := 2) (by decide), wd_mix_ge g p (i := 3) (k := 3) (by decide)] at this
        exact this
      have e0 := E.out 3
      have HH := hid (And.intro hA' (And.intro hB (And.intro hC hbw)))
      clear hA hA' hB hC hbw
      go_wp2_with fail
      refine (wpIn_wide (n := 0)).1 (wpIn_region_below_tail 8 free_wide (by kernel_rfl) (by kernel_rfl) (by kernel_rfl) ?_)
      intro X f _ hf hs
      have lA := heap_lt HH.out.1
      have lB := heap_lt HH.out.2.1
      have k0 := fun x => (cells4 (((hf.out x).block _ lA).trans HH.out.1)).2.2.2
      have k1 := fun x => (cells4 (((hf.out x).block _ lB).trans HH.out.2.1)).2.2.2
      simp only [List.take_succ_cons, List.take_zero, List.drop_succ_cons, List.drop_zero]
      repeat (go_big_quiet_step (fail))
      refine wpQuiet_nil ?_
      intro Y hY
      have yA := (hY.block _ lA).trans HH.out.1
      have HY := hid hY
      obtain ⟨c0, c1, c2, c3⟩ := cells4 yA
      obtain ⟨f0, f1, f2, f3⟩ := frozen4 yA
      have HYA := hid yA
      clear yA hY k0 k1 hf hs lA lB
      gi_wp2
      go_wp2
      go_roundg (gk - 1)
      case measure => omega
      case rel =>
        obtain ⟨h1, h2, h3, h4⟩ := HH.out
        have h5 := h4.size
        refine ⟨4, by go_num, by omega, ?_, ?_, ?_, ?_⟩
        · unfold SB
          rw [wd_mix_lt g p (i := 4) (k := 0) (by decide), wd_mix_lt g p (i := 4) (k := 1) (by decide), wd_mix_lt g p (i := 4) (k := 2) (by decide), wd_mix_lt g p (i := 4) (k := 3) (by decide)]
          exact blk_put HYA.out
        · unfold SB; exact blk_set ((HY.out.block _ (heap_lt h2)).trans h2) (by show w.heap.size + 1 ≠ w.heap.size; omega)
        · unfold SB; exact blk_set ((HY.out.block _ (heap_lt h3)).trans h3) (by show w.heap.size + 1 + 1 ≠ w.heap.size; omega)
        · exact below_put (h4.trans (HY.out.mono h4.size)) (by omega)
    · have hA' : SB wr w.heap.size g := SB_congr (fun x hx => mix_four g p hx) hA
      obtain ⟨c0, c1, c2, c3⟩ := cells4 hA'
      obtain ⟨a0, a1, a2, a3⟩ := cells4 hC
      obtain ⟨f0, f1, f2, f3⟩ := frozen4 hC
      have HA := hid hC
      have HB := hid hbw
      clear hA hA' hB hC hbw
      go_wp2
      have z := four_set (x' := .int .u64 (wd g 0 : Int)) (y' := .int .u64 (wd g 1 : Int)) (z' := .int .u64 (wd g 2 : Int)) (u' := .int .u64 (wd g 3 : Int)) HA.out
      obtain ⟨r0, r1, r2, r3⟩ := cells4 z
      refine bodyPost_ret (v := sv g) ?_ rfl ⟨rfl, ?_⟩
      · unfold sv; simp [results, Tryd.results18, go_sem, r0, r1, r2, r3]
      · exact below_put (below_put (below_put (below_put HB.out (by omega)) (by omega)) (by omega)) (by omega)

set_option maxRecDepth 100000 in
set_option maxHeartbeats 4000000 in
theorem Complement_any (p : Nat → Bool) (w : World) :
    Calls Tryd.prog 20 #[sv p] w fun e w' => e = .returned (sv (fun x => !p x)) ∧ Below w.heap.size w w' := by
  obtain ⟨g, hg⟩ : ∃ g : Nat → Bool, g = fun x => !p x := ⟨_, rfl⟩
  have E := hid (show ∀ k, bits .xor .u64 IntKind.u64.max (wd p k : Int) = (wd g k : Int) from fun k => by rw [hg]; exact not_wd p k)
  rw [← hg]
  clear hg
  obtain ⟨W, hW⟩ : ∃ W, W = (w.alloc (.cells #[.int .u64 (wd (p) 0 : Int), .int .u64 (wd (p) 1 : Int), .int .u64 (wd (p) 2 : Int), .int .u64 (wd (p) 3 : Int)] 25)).alloc zset := ⟨_, rfl⟩
  have HX := hid (by have := Go.Frame.two w (.cells #[.int .u64 (wd (p) 0 : Int), .int .u64 (wd (p) 1 : Int), .int .u64 (wd (p) 2 : Int), .int .u64 (wd (p) 3 : Int)] 25) zset; rw [← hW] at this; exact this)
  have HW := hid hW
  unfold zset at hW
  unfold sv
  go_enter Tryd.func20, Tryd.ntmps20
  go_wp2_with fail
  rw [← hW]
  clear hW
  go_loopg [4] 4 (fun k sl wr => ∃ i : Nat, sl = .int .i64 i ∧ i + k = 4 ∧ SB wr w.heap.size (mix g p i) ∧ SB wr (w.heap.size + 1) (fun _ => false) ∧ Below w.heap.size w wr)
  case atStart => exact ⟨0, rfl, rfl, SB_congr (fun x _ => (mix_zero g p x).symm) HX.out.1, sb_zero HX.out.2.1, HX.out.2.2.1⟩
  case round =>
    obtain ⟨i, rfl, hk, hA, hC, hbw⟩ := hrel
    have hi5 : i = 0 ∨ i = 1 ∨ i = 2 ∨ i = 3 ∨ i = 4 := by omega
    rcases hi5 with rfl | rfl | rfl | rfl | rfl
    · have hA' : wr.heap[w.heap.size]? = some (.cells #[.int .u64 (wd (p) 0 : Int), .int .u64 (wd (p) 1 : Int), .int .u64 (wd (p) 2 : Int), .int .u64 (wd (p) 3 : Int)] 25 (0, 0)) := by
        have := hA
        unfold SB at this
        rw [wd_mix_ge g p (i := 0) (k := 0) (by decide), wd_mix_ge g p (i := 0) (k := 1) (by decide), wd_mix_ge g p (i := 0) (k := 2) (by decide), wd_mix_ge g p (i := 0) (k := 3) (by decide)] at this
        exact this
      have e0 := E.out 0
      have HH := hid (And.intro hA' (And.intro hC hbw))
      obtain ⟨c0, c1, c2, c3⟩ := cells4 hA'
      obtain ⟨f0, f1, f2, f3⟩ := frozen4 hA'
      clear hA hA' hC hbw
      go_wp2
      go_roundg (gk - 1)
      case measure => omega
      case rel =>
        obtain ⟨h1, h3, h4⟩ := HH.out
        have h5 := h4.size
        refine ⟨1, by go_num, by omega, ?_, ?_, ?_⟩
        · unfold SB
          rw [wd_mix_lt g p (i := 1) (k := 0) (by decide), wd_mix_ge g p (i := 1) (k := 1) (by decide), wd_mix_ge g p (i := 1) (k := 2) (by decide), wd_mix_ge g p (i := 1) (k := 3) (by decide)]
          exact blk_put h1
        · unfold SB; exact blk_set h3 (by show w.heap.size + 1 ≠ w.heap.size; omega)
        · exact below_put h4 (by omega)
    · have hA' : wr.heap[w.heap.size]? = some (.cells #[.int .u64 (wd (g) 0 : Int), .int .u64 (wd (p) 1 : Int), .int .u64 (wd (p) 2 : Int), .int .u64 (wd (p) 3 : Int)] 25 (0, 0)) := by
        have := hA
        unfold SB at this
        rw [wd_mix_lt g p (i := 1) (k := 0) (by decide), wd_mix_ge g p (i := 1) (k := 1) (by decide), wd_mix_ge g p (i := 1) (k := 2) (by decide), wd_mix_ge g p (i := 1) (k := 3) (by decide)] at this
        exact this
      have e0 := E.out 1
      have HH := hid (And.intro hA' (And.intro hC hbw))
      obtain ⟨c0, c1, c2, c3⟩ := cells4 hA'
      obtain ⟨f0, f1, f2, f3⟩ := frozen4 hA'
      clear hA hA' hC hbw
      go_wp2
      go_roundg (gk - 1)
      case measure => omega
      case rel =>
        obtain ⟨h1, h3, h4⟩ := HH.out
        have h5 := h4.size
        refine ⟨2, by go_num, by omega, ?_, ?_, ?_⟩
        · unfold SB
          rw [wd_mix_lt g p (i := 2) (k := 0) (by decide), wd_mix_lt g p (i := 2) (k := 1) (by decide), wd_mix_ge g p (i := 2) (k := 2) (by decide), wd_mix_ge g p (i := 2) (k := 3) (by decide)]
          exact blk_put h1
        · unfold SB; exact blk_set h3 (by show w.heap.size + 1 ≠ w.heap.size; omega)
        · exact below_put h4 (by omega)
    · have hA' : wr.heap[w.heap.size]? = some (.cells #[.int .u64 (wd (g) 0 : Int), .int .u64 (wd (g) 1 : Int), .int .u64 (wd (p) 2 : Int), .int .u64 (wd (p) 3 : Int)] 25 (0, 0)) := by
        have := hA
        unfold SB at this
        rw [wd_mix_lt g p (i := 2) (k := 0) (by decide), wd_mix_lt g p (i := 2) (k := 1) (by decide), wd_mix_ge g p (i := 2) (k := 2) (by decide), wd_mix_ge g p (i := 2) (k := 3) (by decide)] at this
        exact this
      have e0 := E.out 2
      have HH := hid (And.intro hA' (And.intro hC hbw))
      obtain ⟨c0, c1, c2, c3⟩ := cells4 hA'
      obtain ⟨f0, f1, f2, f3⟩ := frozen4 hA'
      clear hA hA' hC hbw
      go_wp2
      go_roundg (gk - 1)
      case measure => omega
      case rel =>
        obtain ⟨h1, h3, h4⟩ := HH.out
        have h5 := h4.size
        refine ⟨3, by go_num, by omega, ?_, ?_, ?_⟩
        · unfold SB
          rw [wd_mix_lt g p (i := 3) (k := 0) (by decide), wd_mix_lt g p (i := 3) (k := 1) (by decide), wd_mix_lt g p (i := 3) (k := 2) (by decide), wd_mix_ge g p (i := 3) (k := 3) (by decide)]
          exact blk_put h1
        · unfold SB; exact blk_set h3 (by show w.heap.size + 1 ≠ w.heap.size; omega)
        · exact below_put h4 (by omega)
    · have hA' : wr.heap[w.heap.size]? = some (.cells #[.int .u64 (wd (g) 0 : Int), .int .u64 (wd (g) 1 : Int), .int .u64 (wd (g) 2 : Int), .int .u64 (wd (p) 3 : Int)] 25 (0, 0)) := by
        have := hA
        unfold SB at this
        rw [wd_mix_lt g p (i := 3) (k := 0) (by decide), wd_mix_lt g p (i := 3) (k := 1) (by decide), wd_mix_lt g p (i := 3) (k := 2) (by decide), wd_mix_ge g p (i := 3) (k := 3) (by decide)] at this
        exact this
      have e0 := E.out 3
      have HH := hid (And.intro hA' (And.intro hC hbw))
      obtain ⟨c0, c1, c2, c3⟩ := cells4 hA'
      obtain ⟨f0, f1, f2, f3⟩ := frozen4 hA'
      clear hA hA' hC hbw
      go_wp2
      go_roundg (gk - 1)
      case measure => omega
      case rel =>
        obtain ⟨h1, h3, h4⟩ := HH.out
        have h5 := h4.size
        refine ⟨4, by go_num, by omega, ?_, ?_, ?_⟩
        · unfold SB
          rw [wd_mix_lt g p (i := 4) (k := 0) (by decide), wd_mix_lt g p (i := 4) (k := 1) (by decide), wd_mix_lt g p (i := 4) (k := 2) (by decide), wd_mix_lt g p (i := 4) (k := 3) (by decide)]
          exact blk_put h1
        · unfold SB; exact blk_set h3 (by show w.heap.size + 1 ≠ w.heap.size; omega)
        · exact below_put h4 (by omega)
    · have hA' : SB wr w.heap.size g := SB_congr (fun x hx => mix_four g p hx) hA
      obtain ⟨c0, c1, c2, c3⟩ := cells4 hA'
      obtain ⟨a0, a1, a2, a3⟩ := cells4 hC
      obtain ⟨f0, f1, f2, f3⟩ := frozen4 hC
      have HA := hid hC
      have HB := hid hbw
      clear hA hA' hC hbw
      go_wp2
      have z := four_set (x' := .int .u64 (wd g 0 : Int)) (y' := .int .u64 (wd g 1 : Int)) (z' := .int .u64 (wd g 2 : Int)) (u' := .int .u64 (wd g 3 : Int)) HA.out
      obtain ⟨r0, r1, r2, r3⟩ := cells4 z
      refine bodyPost_ret (v := sv g) ?_ rfl ⟨rfl, ?_⟩
      · unfold sv; simp [results, Tryd.results20, go_sem, r0, r1, r2, r3]
      · exact below_put (below_put (below_put (below_put HB.out (by omega)) (by omega)) (by omega)) (by omega)

end Go.Proofs.YtnjlnldbfejjpaaDoor
