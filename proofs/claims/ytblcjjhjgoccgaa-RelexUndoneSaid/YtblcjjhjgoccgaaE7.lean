/-
  Contracts: Range and the reference's.
-/
import Derived.Test.YtblcjjhjgoccgaaD7
set_option linter.unusedSimpArgs false
set_option linter.unusedVariables false
namespace Go.Proofs.Ytblcjjhjgoccgaa
open Go.RowKit Bs Go.Frame

theorem SB_congr {W : World} {b : Nat} {p q : Nat → Bool} (h : ∀ x, x < 256 → p x = q x) (hs : SB W b p) : SB W b q := by
  unfold SB at hs ⊢
  rw [← wd_congr (by decide) h, ← wd_congr (by decide) h, ← wd_congr (by decide) h, ← wd_congr (by decide) h]
  exact hs
/-- The bytes from lo to hi, hi not among them. -/
def rgp (lo hi x : Nat) : Bool := decide (lo ≤ x) && decide (x < hi)
theorem rgp_empty {lo hi : Nat} (h : hi ≤ lo) (x : Nat) : rgp lo hi x = false := by
  unfold rgp
  rw [Bool.eq_false_iff]
  simp
  omega
theorem rgp_next {lo i : Nat} (h : lo ≤ i) : rgp lo (i + 1) = add1 (rgp lo i) i := by
  funext x
  unfold rgp add1
  rw [Bool.eq_iff_iff]
  simp
  omega
theorem rgp_end {lo hi i : Nat} (h1 : i = lo ∨ i ≤ hi + 1) (h2 : hi < i) (x : Nat) : rgp lo i x = rgp lo (hi + 1) x := by
  rcases h1 with rfl | h1
  · rw [rgp_empty (Nat.le_refl _), rgp_empty (by omega)]
  · rw [show i = hi + 1 by omega]

set_option maxRecDepth 100000 in
set_option maxHeartbeats 4000000 in
theorem rRange_any (lo hi : Nat) (w : World) (hlo : lo < 256) (hhi : hi < 256) :
    Calls Try.prog 33 #[.int .u8 (lo : Int), .int .u8 (hi : Int)] w fun e w' => e = .returned (sv (rgp lo (hi + 1))) ∧ Below w.heap.size w w' := by
  obtain ⟨W, hW⟩ : ∃ W, W = (w.alloc zset).alloc zset := ⟨_, rfl⟩
  obtain ⟨x0, x1, bW, hsz⟩ := two w zset zset
  rw [← hW] at x0 x1 bW hsz
  have HW := hid hW
  unfold zset at hW x0 x1
  have e1 : IntKind.i64.wrap (lo : Int) = (lo : Int) := wrapIn (by omega) (by omega)
  have e2 : IntKind.i64.wrap (hi : Int) = (hi : Int) := wrapIn (by omega) (by omega)
  go_enter Try.func33, Try.ntmps33
  go_wp2_with fail
  rw [← hW]
  clear hW
  go_loopg [6] (hi + 1 - lo) (fun k sl wr => ∃ i : Nat, sl = .int .i64 i ∧ k = hi + 1 - i ∧ lo ≤ i ∧ (i = lo ∨ i ≤ hi + 1) ∧ SB wr (w.heap.size + 1) (rgp lo i) ∧ SB wr w.heap.size (fun _ => false) ∧ Below w.heap.size w wr)
  case atStart => exact ⟨lo, rfl, rfl, Nat.le_refl _, .inl rfl, SB_congr (fun x _ => (rgp_empty (Nat.le_refl _) x).symm) (sb_zero x1), sb_zero x0, bW⟩
  case round =>
    obtain ⟨i, rfl, hk, hi0, hi1, hB, hA, hbw⟩ := hrel
    by_cases hlt : i ≤ hi
    · have hlt' : (i : Int) ≤ (hi : Int) := by omega
      have hby : i < 256 := by omega
      have e3 : IntKind.u8.wrap (i : Int) = (i : Int) := by rw [IntKind.wrap_u8]; omega
      have HH := hid (And.intro hB (And.intro hA hbw))
      have HI := hid (And.intro hi0 (And.intro hi1 hlt))
      have CW := hid (show Calls Try.prog 46 #[.agg #[.int .u64 (wd (rgp lo i) 0 : Int), .int .u64 (wd (rgp lo i) 1 : Int), .int .u64 (wd (rgp lo i) 2 : Int), .int .u64 (wd (rgp lo i) 3 : Int)], .int .u8 (i : Int)] wr fun e w'' => e = .returned (.agg #[.int .u64 (wd (rgp lo (i + 1)) 0 : Int), .int .u64 (wd (rgp lo (i + 1)) 1 : Int), .int .u64 (wd (rgp lo (i + 1)) 2 : Int), .int .u64 (wd (rgp lo (i + 1)) 3 : Int)]) ∧ Below wr.heap.size wr w'' from
        by rw [rgp_next hi0]; exact rwith_any (rgp lo i) i wr hby)
      obtain ⟨d0, d1, d2, d3⟩ := cells4 hB
      clear hB hA hbw x0 x1 bW hi0 hi1 hlt
      go_wp2_with fail
      refine CW.out.mono ?_
      rintro e Y ⟨rfl, hY⟩
      have yB := (hY.block _ (heap_lt HH.out.1)).trans HH.out.1
      have HY := hid hY
      obtain ⟨c0, c1, c2, c3⟩ := cells4 yB
      obtain ⟨f0, f1, f2, f3⟩ := frozen4 yB
      have HYB := hid yB
      clear yB hY d0 d1 d2 d3
      go_wp2
      go_roundg (gk - 1)
      case measure => have := HI.out; omega
      case rel =>
        have h2 := HH.out.2.2
        have h3 := h2.size
        have h4 := HI.out
        refine ⟨i + 1, by go_num, by omega, by omega, .inr (by omega), ?_, ?_, ?_⟩
        · unfold SB; exact four_set HYB.out
        · unfold SB; exact far4 ((HY.out.block _ (heap_lt HH.out.2.1)).trans HH.out.2.1) (by omega)
        · exact below_put (below_put (below_put (below_put (h2.trans (HY.out.mono h2.size)) (by omega)) (by omega)) (by omega)) (by omega)
    · have hin : ¬ (i : Int) ≤ (hi : Int) := by omega
      have hB' : SB wr (w.heap.size + 1) (rgp lo (hi + 1)) := SB_congr (fun x _ => rgp_end (by omega) (by omega) x) hB
      obtain ⟨c0, c1, c2, c3⟩ := cells4 hB'
      obtain ⟨a0, a1, a2, a3⟩ := cells4 hA
      obtain ⟨f0, f1, f2, f3⟩ := frozen4 hA
      have HA := hid hA
      have HB := hid hbw
      clear hA hB hB' hbw x0 x1 bW
      go_wp2
      have z := four_set (x' := .int .u64 (wd (rgp lo (hi + 1)) 0 : Int)) (y' := .int .u64 (wd (rgp lo (hi + 1)) 1 : Int)) (z' := .int .u64 (wd (rgp lo (hi + 1)) 2 : Int)) (u' := .int .u64 (wd (rgp lo (hi + 1)) 3 : Int)) HA.out
      obtain ⟨r0, r1, r2, r3⟩ := cells4 z
      refine bodyPost_ret (v := sv (rgp lo (hi + 1))) ?_ rfl ⟨rfl, ?_⟩
      · unfold sv; simp [results, Try.results33, go_sem, r0, r1, r2, r3]
      · exact below_put (below_put (below_put (below_put HB.out (Nat.le_refl _)) (Nat.le_refl _)) (Nat.le_refl _)) (Nat.le_refl _)


end Go.Proofs.Ytblcjjhjgoccgaa
