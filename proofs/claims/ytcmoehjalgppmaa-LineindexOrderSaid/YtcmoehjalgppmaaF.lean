/-
  Contracts: the reference's Offset.
-/
import Derived.Test.YtcmoehjalgppmaaE

namespace Go.Proofs.Ytcmoehjalgppmaa
open Go.RowKit Te Go.Frame

theorem bg_next {s : ByteArray} {i : Nat} (h : i < N s) : (bg s i : Int) + ((lineAt s i).size : Int) + 1 = bg s (i + 1) := by
  have h1 := en_bg h
  have h2 := bg_en (s := s) (n := i) (by omega)
  have h3 := lineAt_size (s := s) (n := i) (by omega)
  omega

set_option maxRecDepth 100000 in
set_option maxHeartbeats 4000000 in
theorem roffset_any (s : ByteArray) (l k : Int) (w : World) (hs : s.size ≤ 1000000) :
    Calls Try.prog 14 #[.string s, .agg #[.int .i64 l, .int .i64 k]] w fun e w' => e = .returned (ofv s l k) ∧ Below w.heap.size w w' := by
  have hN := N_le s
  obtain ⟨W, hW⟩ : ∃ W, W = w.alloc (.cells #[.int .i64 l, .int .i64 k] 30) := ⟨_, rfl⟩
  have bW : Below w.heap.size w W := by rw [hW]; exact (Below.refl _ _).alloc (Nat.le_refl _) _
  have hsz := hid (show W.heap.size = w.heap.size + 1 by rw [hW]; simp)
  have Keep := hid (show ∀ w', Below W.heap.size W w' → w'.cell? ⟨w.heap.size, 0, none⟩ = some (.int .i64 l) ∧ w'.cell? ⟨w.heap.size, 1, none⟩ = some (.int .i64 k) from fun w' h => by
    have g := hsz.out
    have x1 := (h.block w.heap.size (by omega)).trans (show W.heap[w.heap.size]? = some (.cells #[.int .i64 l, .int .i64 k] 30 (0, 0)) by rw [hW]; exact alloc_new _ _)
    exact cells2 x1)
  have HW := hid hW
  clear hW
  go_enter Try.func14, Try.ntmps14
  go_wp2_with fail
  rw [← HW.out]
  refine (rlines_any s W hs).mono ?_
  rintro e w1 ⟨⟨p, c, rfl, hr⟩, b1⟩
  obtain ⟨k0, k1⟩ := Keep.out _ b1
  have hb2 := bW.trans (b1.mono bW.size)
  by_cases h0 : 0 ≤ l ∧ l ≤ N s
  · obtain ⟨m, rfl⟩ : ∃ m : Nat, l = m := ⟨l.toNat, by omega⟩
    have h1 : m ≤ N s := by omega
    obtain ⟨b, off, rfl, hb, c0⟩ := hr.at h1
    have g1 : decide ((m : Int) < 0) = false := decide_eq_false (by omega)
    have g2 : decide ((N s : Int) + 1 ≤ (m : Int)) = false := decide_eq_false (by omega)
    have g3 : (m : Int) < (N s : Int) + 1 := by omega
    have g4 : (0 : Int) ≤ (m : Int) := by omega
    have HM := hid h1
    have HR := hid hr
    by_cases h2 : 0 ≤ k
    · obtain ⟨j, rfl⟩ : ∃ j : Nat, k = j := ⟨k.toNat, by omega⟩
      have g5 : decide ((j : Int) < 0) = false := decide_eq_false (by omega)
      by_cases h3 : j ≤ (lineAt s m).size
      · have V := hid (ofv_yes h1 h3)
        have g6 : decide (((lineAt s m).size : Int) < (j : Int)) = false := decide_eq_false (by omega)
        have g7 : ¬ ((lineAt s m).size : Int) < (j : Int) := by omega
        have hj := lineAt_size h1
        have hbe := bg_en h1
        have HJ := hid (show j + bg s m ≤ s.size by omega)
        clear h0 h1 h3 hr hbe hj
        go_wp2_with fail
        go_quiet (fail)
        have hbq := hid (below_drewN hb2 nq)
        have hbR := hid (below_drewN (Below.refl w1.heap.size w1) nq)
        obtain ⟨wq, hwq⟩ : ∃ wq, wq = w1.drewN nq := ⟨_, rfl⟩
        rw [← hwq]
        have hq0 : wq.cell? ⟨w.heap.size, 0, none⟩ = some (.int .i64 m) := by rw [hwq]; simpa using k0
        have hq1 : wq.cell? ⟨w.heap.size, 1, none⟩ = some (.int .i64 j) := by rw [hwq]; simpa using k1
        rw [← hwq] at hbq hbR
        have HR2 := hid (HR.out.below hbR.out)
        clear hwq k0 k1
        go_wp2_with fail
        go_loopg [7, 8] m (fun k s7 s8 wr => ∃ i : Nat, s8 = .int .i64 i ∧ i + k = m ∧ s7 = .int .i64 ((bg s i : Int) + (j : Int)) ∧ wq = wr)
        case atStart => exact ⟨0, rfl, by omega, by simp [bg_zero], rfl⟩
        case round =>
          obtain ⟨i, rfl, hk, rfl, rfl⟩ := hrel
          by_cases hlt : i < m
          · have hlt' : (i : Int) < (m : Int) := by omega
            have hi0 : (0 : Int) ≤ (i : Int) := by omega
            have hin : i < N s := by have := HM.out; omega
            obtain ⟨b', off', hp, hb', cc⟩ := HR2.out.at (i := i) (by omega)
            cases hp
            have nx := bg_next hin
            have nl1 := (en_bg hin).2.2
            have hj1 : (j : Int) ≤ 1000000 := by have := HJ.out; omega
            have nb : (bg s i : Int) + (j : Int) + ((lineAt s i).size : Int) + 1 ≤ 2000001 := by omega
            have NX := hid nx
            have i5 : (i : Int) < (N s : Int) + 1 := by omega
            clear nx nl1
            go_wp2
            go_roundg (gk - 1)
            case measure => omega
            case rel => exact ⟨i + 1, by go_num, by omega, by have := NX.out; go_num, rfl⟩
          · have hin : ¬ (i : Int) < (m : Int) := by omega
            obtain rfl : i = m := by omega
            go_wp2
            go_ret2
            exact ⟨by rw [V.out]; rfl, hbq.out⟩
      · have V := hid (ofv_not (s := s) (l := m) (c := (j : Int)) (by omega))
        have g6 : decide (((lineAt s m).size : Int) < (j : Int)) = true := decide_eq_true (by omega)
        have g7 : ((lineAt s m).size : Int) < (j : Int) := by omega
        clear h0 h1 h3 hr
        go_wp2_with fail
        go_quiet (fail)
        go_wp2
        go_ret2
        exact ⟨by rw [V.out]; rfl, below_drewN hb2 _⟩
    · have V := hid (ofv_not (s := s) (l := m) (c := k) (by omega))
      have g5 : decide (k < 0) = true := decide_eq_true (by omega)
      clear h0 h1 h2 hr
      go_wp2_with fail
      go_quiet (fail)
      go_wp2
      go_ret2
      exact ⟨by rw [V.out]; rfl, below_drewN hb2 _⟩
  · have V := hid (ofv_no (c := k) h0)
    clear hr
    by_cases h1 : l < 0
    · have g1 : decide (l < 0) = true := decide_eq_true h1
      clear h0 h1
      go_wp2_with fail
      go_quiet (fail)
      go_wp2
      go_ret2
      exact ⟨by rw [V.out]; rfl, below_drewN hb2 _⟩
    · have g1 : decide (l < 0) = false := decide_eq_false h1
      have g2 : decide ((N s : Int) + 1 ≤ l) = true := decide_eq_true (by omega)
      clear h0 h1
      go_wp2_with fail
      go_quiet (fail)
      go_wp2
      go_ret2
      exact ⟨by rw [V.out]; rfl, below_drewN hb2 _⟩
end Go.Proofs.Ytcmoehjalgppmaa
