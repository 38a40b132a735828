/-
  Contracts: the search; Position and its reference.
-/
import Derived.Test.YtcmoehjalgppmaaB

namespace Go.Proofs.Ytcmoehjalgppmaa
open Go.RowKit Te Go.Frame

theorem srch {s : ByteArray} {o k : Nat} (hk : k < N s) : o < bg s (k + 1) ↔ ln s o ≤ k := by
  constructor
  · intro h
    refine Nat.le_of_not_lt fun h' => ?_
    have := S_le h' (bg_succ hk)
    omega
  · intro h
    exact S_gt h (bg_succ hk)
theorem below_drewN {n : Nat} {A B : World} (h : Below n A B) (k : Nat) : Below n A (B.drewN k) := by
  induction k with
  | zero => exact h
  | succ k ih => exact ih.drew
theorem one_block {W : World} {b : Nat} {x : Value} {t : TypeId} (h : W.heap[b]? = some (.cells #[x] t (0, 0))) : W.cell? ⟨b, 0, none⟩ = some x := by simp [World.cell?, h]

set_option maxRecDepth 100000 in
set_option maxHeartbeats 2000000 in
theorem clos_any (B C : Nat) (s : ByteArray) (p : Option Addr) (n c o k : Nat) (w : World) (hk : k < N s) (h : Ix w p n s)
    (hB : w.heap[B]? = some (.cells #[.string s, .slice p n c] 26 (0, 0))) (hC : w.heap[C]? = some (.cells #[.int .i64 (o : Int)] 3 (0, 0))) :
    Calls Try.prog 26 #[.int .i64 k, .pointer (some ⟨B, 0, none⟩), .pointer (some ⟨C, 0, none⟩)] w fun e w' => e = .returned (.bool (decide (ln s o ≤ k))) ∧ Below w.heap.size w w' := by
  obtain rfl := h.len
  have hN := N_le s
  obtain ⟨b, off, rfl, hb, c0⟩ := h.at hk
  obtain ⟨k0, k1⟩ := cells2 hB
  have k2 := one_block hC
  have HK := hid hk
  have hk0 : (0 : Int) ≤ (k : Int) := by omega
  have hk1 : (k : Int) < (N s : Int) := by omega
  clear hB hC h
  go_enter Try.func26, Try.ntmps26
  go_wp2_with fail
  go_quiet (fail)
  go_wp2
  go_ret
  refine ⟨?_, below_drewN (Below.refl _ _) _⟩
  have : decide (ln s o ≤ k) = decide (o < bg s (k + 1)) := decide_eq_decide.2 (srch HK.out).symm
  rw [this]; rfl

set_option maxRecDepth 100000 in
set_option maxHeartbeats 2000000 in
theorem search_any (B C : Nat) (s : ByteArray) (p : Option Addr) (n c o : Nat) (w : World) (hs : s.size ≤ 1000000) (h : Ix w p n s)
    (hB : w.heap[B]? = some (.cells #[.string s, .slice p n c] 26 (0, 0))) (hC : w.heap[C]? = some (.cells #[.int .i64 (o : Int)] 3 (0, 0))) :
    Calls Try.prog 25 #[.int .i64 n, .func (.func 26) #[] #[.pointer (some ⟨B, 0, none⟩), .pointer (some ⟨C, 0, none⟩)]] w fun e w' => e = .returned (.int .i64 (ln s o)) ∧ Below w.heap.size w w' := by
  obtain rfl := h.len
  have hN := N_le s
  have hL := ln_le s o
  have HX := hid (And.intro h (And.intro hB hC))
  have k0 := heap_lt hB
  have k1 := heap_lt hC
  clear hB hC h
  go_enter Try.func25, Try.ntmps25
  go_wp2_with fail
  go_loopg [5, 6] (N s) (fun k s5 s6 wr => ∃ i j : Nat, s5 = .int .i64 i ∧ s6 = .int .i64 j ∧ j = i + k ∧ i ≤ ln s o ∧ ln s o ≤ j ∧ j ≤ N s ∧ Below w.heap.size w wr)
  case atStart => exact ⟨0, N s, rfl, rfl, by omega, by omega, hL, Nat.le_refl _, Below.refl _ _⟩
  case round =>
    obtain ⟨i, j, rfl, rfl, hj, h1, h2, h3, hbw⟩ := hrel
    by_cases hlt : i < j
    · have hlt' : (i : Int) < (j : Int) := by omega
      have hi0 : (0 : Int) ≤ (i : Int) := by omega
      obtain ⟨m, hm⟩ : ∃ m : Nat, ((i : Int) + ((i : Int) + (gk : Int))) / 2 = (m : Int) := ⟨(i + (i + gk)) / 2, by omega⟩
      have hm0 := hid (show i ≤ m ∧ m < j by omega)
      have hm1 : (m : Int) ≤ 1000000 := by omega
      go_wp2_with fail
      refine (clos_any B C s p (N s) c o m wr (by have := hm0.out; omega) (HX.out.1.below hbw) ((hbw.block _ k0).trans HX.out.2.1) ((hbw.block _ k1).trans HX.out.2.2)).mono ?_
      rintro e w1 ⟨rfl, b1⟩
      have hb2 := hbw.trans (b1.mono hbw.size)
      by_cases hc : ln s o ≤ m
      · rw [decide_eq_true hc]
        have HC := hid hc
        clear hm hc
        go_wp2
        go_roundg (m - i)
        case measure => have := hm0.out; omega
        case rel => exact ⟨i, m, rfl, rfl, by have := hm0.out; omega, h1, HC.out, by have := hm0.out; omega, hb2⟩
      · rw [decide_eq_false hc]
        have HC := hid hc
        clear hm hc
        go_wp2
        go_roundg (j - (m + 1))
        case measure => have := hm0.out; omega
        case rel => exact ⟨m + 1, j, by go_num, by go_num, by have := hm0.out; omega, by have := HC.out; omega, h2, h3, hb2⟩
    · have hin : ¬ (i : Int) < (j : Int) := by omega
      have e := hid (show i = ln s o by omega)
      go_wp2
      go_ret
      exact ⟨by first | rfl | (rw [e.out]; rfl), hbw⟩

/-- The results of Position. -/
def psv (s : ByteArray) (o : Int) : Value := if 0 ≤ o ∧ o ≤ s.size then .tuple #[.agg #[.int .i64 (ln s o.toNat), .int .i64 ((o.toNat : Int) - (bg s (ln s o.toNat) : Int))], .int .i64 0] else .tuple #[.agg #[.int .i64 0, .int .i64 0], .int .i64 2]
theorem psv_yes {s : ByteArray} {o : Nat} (h : o ≤ s.size) : psv s o = .tuple #[.agg #[.int .i64 (ln s o), .int .i64 ((o : Int) - (bg s (ln s o) : Int))], .int .i64 0] := by
  unfold psv; rw [if_pos ⟨by omega, by omega⟩, Int.toNat_natCast]
theorem psv_no {s : ByteArray} {o : Int} (h : ¬ (0 ≤ o ∧ o ≤ s.size)) : psv s o = .tuple #[.agg #[.int .i64 0, .int .i64 0], .int .i64 2] := if_neg h

set_option maxRecDepth 100000 in
set_option maxHeartbeats 2000000 in
theorem position_any (s : ByteArray) (p : Option Addr) (n c : Nat) (k : Int) (w : World) (hs : s.size ≤ 1000000) (h : Ix w p n s) :
    Calls Try.prog 17 #[.agg #[.string s, .slice p n c], .int .i64 k] w fun e w' => e = .returned (psv s k) ∧ Below w.heap.size w w' := by
  obtain rfl := h.len
  have hN := N_le s
  obtain ⟨W, hW⟩ : ∃ W, W = ((w.alloc (.cells #[.string s, .slice p (N s) c] 26)).alloc (.cells #[.int .i64 k] 3)).alloc (.cells #[.int .i64 0, .int .i64 0] 30) := ⟨_, rfl⟩
  have bW : Below w.heap.size w W := by rw [hW]; exact (((Below.refl _ _).alloc (Nat.le_refl _) _).alloc (by simp) _).alloc (by simp; omega) _
  have hsz := hid (show W.heap.size = w.heap.size + 3 by rw [hW]; simp)
  have hB := hid (show W.heap[w.heap.size]? = some (.cells #[.string s, .slice p (N s) c] 26 (0, 0)) by rw [hW]; exact blk_alloc (blk_alloc (alloc_new _ _)))
  have hC := hid (show W.heap[w.heap.size + 1]? = some (.cells #[.int .i64 k] 3 (0, 0)) by rw [hW]; exact blk_alloc (alloc_at _ _ (by simp)))
  have hD := hid (show W.heap[w.heap.size + 2]? = some (.cells #[.int .i64 0, .int .i64 0] 30 (0, 0)) by rw [hW]; exact alloc_at _ _ (by simp))
  have HI := hid (h.below bW)
  have HW := hid hW
  clear hW h
  by_cases h0 : 0 ≤ k
  · obtain ⟨o, rfl⟩ : ∃ o : Nat, k = o := ⟨k.toNat, by omega⟩
    by_cases h1 : o ≤ s.size
    · rw [psv_yes h1]
      have h1' : ¬ ((s.size : Int) < (o : Int)) := by omega
      go_enter Try.func17, Try.ntmps17
      go_wp2_with fail
      rw [← HW.out]
      have e1 := search_any w.heap.size (w.heap.size + 1) s p (N s) c o W hs HI.out hB.out hC.out
      refine e1.mono ?_
      rintro e w1 ⟨rfl, b1⟩
      clear e1
      have Keep := hid (show ∀ w', Below W.heap.size W w' → w'.cell? ⟨w.heap.size, 0, none⟩ = some (.string s) ∧ w'.cell? ⟨w.heap.size, 1, none⟩ = some (.slice p (N s) c) ∧ w'.cell? ⟨w.heap.size + 1, 0, none⟩ = some (.int .i64 o) ∧
          (w'.cell? ⟨w.heap.size + 2, 0, none⟩ = some (.int .i64 0) ∧ w'.cell? ⟨w.heap.size + 2, 1, none⟩ = some (.int .i64 0)) ∧ (w'.frozen? ⟨w.heap.size + 2, 0, none⟩ = false ∧ w'.frozen? ⟨w.heap.size + 2, 1, none⟩ = false) from fun w' h => by
        have g := hsz.out
        have x1 := (h.block w.heap.size (by omega)).trans hB.out
        have x2 := (h.block (w.heap.size + 1) (by omega)).trans hC.out
        have x3 := (h.block (w.heap.size + 2) (by omega)).trans hD.out
        exact ⟨(cells2 x1).1, (cells2 x1).2, one_block x2, cells2 x3, free2 x3⟩)
      obtain ⟨k0, k1, k2, ⟨k3, k4⟩, k5, k6⟩ := Keep.out _ b1
      have hl := hid (ln_le s o)
      have hIx := hid (HI.out.below b1)
      have q1 : IntKind.i64.wrap ((o : Int) - (bg s (ln s o) : Int)) = (o : Int) - (bg s (ln s o) : Int) := wrapIn (by have := bg_ln (s := s) (o := o); omega) (by omega)
      go_wp2_with fail
      go_region_with (go_at_call 23; refine (start_any s p (N s) c (ln s o) _ hs hl.out (hIx.out.below (Below.refl _ _).drew)).mono ?_; rintro e w2 ⟨rfl, b2⟩; obtain ⟨m0, m1, m2, ⟨m3, m4⟩, m5, m6⟩ := Keep.out _ (b1.trans (((Below.refl _ _).drew.trans b2).mono b1.size)))
      all_goals go_wp2
      all_goals (refine bodyPost_ret (v := .tuple #[.agg #[.int .i64 (ln s o), .int .i64 ((o : Int) - (bg s (ln s o) : Int))], .int .i64 0]) ?_ rfl ⟨rfl, ?_⟩; (· simp [results, Try.results17, go_sem, m3, m4]); (· refine Below.setCell ?_ (by first | (simp; done) | (simp; omega)) _; refine Below.setCell ?_ (by first | (simp; done) | (simp; omega)) _; exact bW.trans ((b1.trans (((Below.refl _ _).drew.trans b2).mono b1.size)).mono bW.size)))
    · rw [psv_no (by omega)]
      have h1' : ((s.size : Int) < (o : Int)) := by omega
      go_enter Try.func17, Try.ntmps17
      go_wp2
      refine bodyPost_ret (v := .tuple #[.agg #[.int .i64 0, .int .i64 0], .int .i64 2]) ?_ rfl ⟨rfl, ?_⟩
      · simp [results, Try.results17, go_sem]
      · rw [← HW.out]; exact bW
  · rw [psv_no (by omega)]
    have h1' : k < 0 := by omega
    go_enter Try.func17, Try.ntmps17
    go_wp2
    refine bodyPost_ret (v := .tuple #[.agg #[.int .i64 0, .int .i64 0], .int .i64 2]) ?_ rfl ⟨rfl, ?_⟩
    · simp [results, Try.results17, go_sem]
    · rw [← HW.out]; exact bW
end Go.Proofs.Ytcmoehjalgppmaa
