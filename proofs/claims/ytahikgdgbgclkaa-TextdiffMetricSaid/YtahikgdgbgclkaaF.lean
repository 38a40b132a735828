/-
  Contracts: commonPrefix, commonSuffix, Hull.
-/
import Derived.Test.YtahikgdgbgclkaaA
set_option linter.unusedSimpArgs false
set_option linter.unusedVariables false
namespace Go.Proofs.Ytahikgdgbgclkaa
open Go.RowKit Te Go.Frame

set_option maxRecDepth 100000 in
set_option maxHeartbeats 4000000 in
theorem cp_any (a b : ByteArray) (w : World) (ha : a.size ≤ 10000) (hb : b.size ≤ 10000) :
    Calls Try.prog 27 #[.string a, .string b] w fun e w' => e = .returned (.int .i64 (cp a b : Int)) ∧ Below w.heap.size w w' := by
  go_enter Try.func27, Try.ntmps27
  go_wp2_with fail
  go_loopg [5] (a.size + b.size) (fun k p wr => ∃ n : Nat, p = .int .i64 n ∧ n + k = a.size + b.size ∧ Cp a b n ∧ Below w.heap.size w wr)
  case atStart => exact ⟨0, rfl, by omega, Cp.start a b, Below.refl _ _⟩
  case round =>
    obtain ⟨n, rfl, hk, hc, hbw⟩ := hrel
    have h0 : (0 : Int) ≤ (n : Int) := by omega
    have hn1 := hc.1
    have hn2 := hc.2.1
    have HC := hid hc
    have HB := hid hbw
    clear hc hbw
    have ends : ¬ (n < a.size ∧ n < b.size) → (n : Int) = (cp a b : Int) := fun h => by rw [HC.out.stop (.inl h)]
    have HN := hid ends
    clear ends
    by_cases hab : (b.size : Int) < (a.size : Int)
    · by_cases hn : n < b.size
      · have g1 : (n : Int) < (b.size : Int) := by omega
        have g2 : (n : Int) < (a.size : Int) := by omega
        have hA : n < a.size := by omega
        have hB : n < b.size := by omega
        by_cases he : (a[n]'(by omega)) = (b[n]'(by omega))
        · have hc := byte_eq.1 he
          have HE := hid (HC.out.step hA hB he)
          clear he
          go_wp2_with fail
          go_quiet (fail)
          go_wp2
          go_roundg (gk - 1)
          case measure => omega
          case rel => exact ⟨n + 1, by go_num, by omega, HE.out, below_drewN HB.out _⟩
        · have hc : ¬ ((a[n]'(by omega)).toNat : Int) = ((b[n]'(by omega)).toNat : Int) := fun e => he (byte_eq.2 e)
          have HE := hid (show (n : Int) = (cp a b : Int) by rw [HC.out.stop (.inr ⟨hA, hB, he⟩)])
          clear he
          go_wp2_with fail
          go_quiet (fail)
          go_wp2
          go_ret
          exact ⟨by rw [← HE.out]; rfl, below_drewN HB.out _⟩
      · have g1 : ¬ (n : Int) < (b.size : Int) := by omega
        have HE := hid (HN.out (by omega))
        have g3 : decide ((n : Int) < (b.size : Int)) = false := decide_eq_false g1
        go_wp2_with fail
        go_quiet (fail)
        go_wp2
        go_ret
        exact ⟨by rw [← HE.out]; rfl, below_drewN HB.out _⟩
    · have hab : (a.size : Int) ≤ (b.size : Int) := by omega
      by_cases hn : n < a.size
      · have g1 : (n : Int) < (a.size : Int) := by omega
        have g2 : (n : Int) < (b.size : Int) := by omega
        have hA : n < a.size := by omega
        have hB : n < b.size := by omega
        by_cases he : (a[n]'(by omega)) = (b[n]'(by omega))
        · have hc := byte_eq.1 he
          have HE := hid (HC.out.step hA hB he)
          clear he
          go_wp2_with fail
          go_quiet (fail)
          go_wp2
          go_roundg (gk - 1)
          case measure => omega
          case rel => exact ⟨n + 1, by go_num, by omega, HE.out, below_drewN HB.out _⟩
        · have hc : ¬ ((a[n]'(by omega)).toNat : Int) = ((b[n]'(by omega)).toNat : Int) := fun e => he (byte_eq.2 e)
          have HE := hid (show (n : Int) = (cp a b : Int) by rw [HC.out.stop (.inr ⟨hA, hB, he⟩)])
          clear he
          go_wp2_with fail
          go_quiet (fail)
          go_wp2
          go_ret
          exact ⟨by rw [← HE.out]; rfl, below_drewN HB.out _⟩
      · have g1 : ¬ (n : Int) < (a.size : Int) := by omega
        have HE := hid (HN.out (by omega))
        have g3 : decide ((n : Int) < (a.size : Int)) = false := decide_eq_false g1
        go_wp2_with fail
        go_quiet (fail)
        go_wp2
        go_ret
        exact ⟨by rw [← HE.out]; rfl, below_drewN HB.out _⟩
set_option maxRecDepth 100000 in
set_option maxHeartbeats 4000000 in
theorem cs_any (a b : ByteArray) (w : World) (ha : a.size ≤ 10000) (hb : b.size ≤ 10000) :
    Calls Try.prog 28 #[.string a, .string b] w fun e w' => e = .returned (.int .i64 (cs a b : Int)) ∧ Below w.heap.size w w' := by
  go_enter Try.func28, Try.ntmps28
  go_wp2_with fail
  go_loopg [5] (a.size + b.size) (fun k p wr => ∃ n : Nat, p = .int .i64 n ∧ n + k = a.size + b.size ∧ Cs a b n ∧ Below w.heap.size w wr)
  case atStart => exact ⟨0, rfl, by omega, Cs.start a b, Below.refl _ _⟩
  case round =>
    obtain ⟨n, rfl, hk, hc, hbw⟩ := hrel
    have h0 : (0 : Int) ≤ (n : Int) := by omega
    have hn1 := hc.1
    have hn2 := hc.2.1
    have HC := hid hc
    have HB := hid hbw
    clear hc hbw
    have ends : ¬ (n < a.size ∧ n < b.size) → (n : Int) = (cs a b : Int) := fun h => by rw [HC.out.stop (.inl h)]
    have HN := hid ends
    clear ends
    by_cases hab : (b.size : Int) < (a.size : Int)
    · by_cases hn : n < b.size
      · have g1 : (n : Int) < (b.size : Int) := by omega
        have g2 : (n : Int) < (a.size : Int) := by omega
        have hA : n < a.size := by omega
        have hB : n < b.size := by omega
        have ja : a.size - 1 - n < a.size := by omega
        have jb : b.size - 1 - n < b.size := by omega
        have w1 : IntKind.i64.wrap ((a.size : Int) - 1) = (a.size : Int) - 1 := wrapIn (by omega) (by omega)
        have w2 : IntKind.i64.wrap ((b.size : Int) - 1) = (b.size : Int) - 1 := wrapIn (by omega) (by omega)
        have w3 : IntKind.i64.wrap ((a.size : Int) - 1 - (n : Int)) = ((a.size - 1 - n : Nat) : Int) := by rw [wrapIn (by omega) (by omega)]; omega
        have w4 : IntKind.i64.wrap ((b.size : Int) - 1 - (n : Int)) = ((b.size - 1 - n : Nat) : Int) := by rw [wrapIn (by omega) (by omega)]; omega
        have p1 : (0 : Int) ≤ ((a.size - 1 - n : Nat) : Int) := by omega
        have p2 : (0 : Int) ≤ ((b.size - 1 - n : Nat) : Int) := by omega
        have p3 : ((a.size - 1 - n : Nat) : Int) < (a.size : Int) := by omega
        have p4 : ((b.size - 1 - n : Nat) : Int) < (b.size : Int) := by omega
        by_cases he : (a[a.size - 1 - n]'(by omega)) = (b[b.size - 1 - n]'(by omega))
        · have hc := byte_eq.1 he
          have HE := hid (HC.out.step hA hB he)
          clear he
          go_wp2_with fail
          go_quiet (fail)
          go_wp2
          go_roundg (gk - 1)
          case measure => omega
          case rel => exact ⟨n + 1, by go_num, by omega, HE.out, below_drewN HB.out _⟩
        · have hc : ¬ ((a[a.size - 1 - n]'(by omega)).toNat : Int) = ((b[b.size - 1 - n]'(by omega)).toNat : Int) := fun e => he (byte_eq.2 e)
          have HE := hid (show (n : Int) = (cs a b : Int) by rw [HC.out.stop (.inr ⟨hA, hB, he⟩)])
          clear he
          go_wp2_with fail
          go_quiet (fail)
          go_wp2
          go_ret
          exact ⟨by rw [← HE.out]; rfl, below_drewN HB.out _⟩
      · have g1 : ¬ (n : Int) < (b.size : Int) := by omega
        have HE := hid (HN.out (by omega))
        have g3 : decide ((n : Int) < (b.size : Int)) = false := decide_eq_false g1
        go_wp2_with fail
        go_quiet (fail)
        go_wp2
        go_ret
        exact ⟨by rw [← HE.out]; rfl, below_drewN HB.out _⟩
    · have hab : (a.size : Int) ≤ (b.size : Int) := by omega
      by_cases hn : n < a.size
      · have g1 : (n : Int) < (a.size : Int) := by omega
        have g2 : (n : Int) < (b.size : Int) := by omega
        have hA : n < a.size := by omega
        have hB : n < b.size := by omega
        have ja : a.size - 1 - n < a.size := by omega
        have jb : b.size - 1 - n < b.size := by omega
        have w1 : IntKind.i64.wrap ((a.size : Int) - 1) = (a.size : Int) - 1 := wrapIn (by omega) (by omega)
        have w2 : IntKind.i64.wrap ((b.size : Int) - 1) = (b.size : Int) - 1 := wrapIn (by omega) (by omega)
        have w3 : IntKind.i64.wrap ((a.size : Int) - 1 - (n : Int)) = ((a.size - 1 - n : Nat) : Int) := by rw [wrapIn (by omega) (by omega)]; omega
        have w4 : IntKind.i64.wrap ((b.size : Int) - 1 - (n : Int)) = ((b.size - 1 - n : Nat) : Int) := by rw [wrapIn (by omega) (by omega)]; omega
        have p1 : (0 : Int) ≤ ((a.size - 1 - n : Nat) : Int) := by omega
        have p2 : (0 : Int) ≤ ((b.size - 1 - n : Nat) : Int) := by omega
        have p3 : ((a.size - 1 - n : Nat) : Int) < (a.size : Int) := by omega
        have p4 : ((b.size - 1 - n : Nat) : Int) < (b.size : Int) := by omega
        by_cases he : (a[a.size - 1 - n]'(by omega)) = (b[b.size - 1 - n]'(by omega))
        · have hc := byte_eq.1 he
          have HE := hid (HC.out.step hA hB he)
          clear he
          go_wp2_with fail
          go_quiet (fail)
          go_wp2
          go_roundg (gk - 1)
          case measure => omega
          case rel => exact ⟨n + 1, by go_num, by omega, HE.out, below_drewN HB.out _⟩
        · have hc : ¬ ((a[a.size - 1 - n]'(by omega)).toNat : Int) = ((b[b.size - 1 - n]'(by omega)).toNat : Int) := fun e => he (byte_eq.2 e)
          have HE := hid (show (n : Int) = (cs a b : Int) by rw [HC.out.stop (.inr ⟨hA, hB, he⟩)])
          clear he
          go_wp2_with fail
          go_quiet (fail)
          go_wp2
          go_ret
          exact ⟨by rw [← HE.out]; rfl, below_drewN HB.out _⟩
      · have g1 : ¬ (n : Int) < (a.size : Int) := by omega
        have HE := hid (HN.out (by omega))
        have g3 : decide ((n : Int) < (a.size : Int)) = false := decide_eq_false g1
        go_wp2_with fail
        go_quiet (fail)
        go_wp2
        go_ret
        exact ⟨by rw [← HE.out]; rfl, below_drewN HB.out _⟩
/-- The value of an edit. -/
def edv (e : Ed) : Value := .agg #[.int .i64 e.1, .int .i64 e.2.1, .string e.2.2]
set_option maxRecDepth 100000 in
set_option maxHeartbeats 4000000 in
theorem Hull_any (a b : ByteArray) (w : World) (ha : a.size ≤ 10000) (hb : b.size ≤ 10000) :
    Calls Try.prog 18 #[.string a, .string b] w fun e w' => e = .returned (edv (hull a b)) ∧ Below w.heap.size w w' := by
  obtain ⟨W, hW⟩ : ∃ W, W = w.alloc (.cells #[.int .i64 0, .int .i64 0, .string { data := #[] }] 30) := ⟨_, rfl⟩
  have bW : Below w.heap.size w W := by rw [hW]; exact (Below.refl _ _).alloc (Nat.le_refl _) _
  have Z0 := hid (fun w' (h : Below W.heap.size W w') => (h.block w.heap.size (by rw [hW]; simp)).trans (show W.heap[w.heap.size]? = some (.cells #[.int .i64 0, .int .i64 0, .string { data := #[] }] 30 (0, 0)) by rw [hW]; exact alloc_new _ _))
  have HW := hid hW
  clear hW
  obtain ⟨h1, h2⟩ := cp_le a b
  obtain ⟨h3, h4⟩ := hs_le a b
  obtain ⟨p, hp⟩ : ∃ p, p = cp a b := ⟨_, rfl⟩
  obtain ⟨s, hs⟩ : ∃ s, s = hs a b := ⟨_, rfl⟩
  have HCP := hid (cp_any a b W ha hb)
  have hcs : cs (a.extract p a.size) (b.extract p b.size) = s := by rw [hp, hs]; rfl
  have hhull : hull a b = ((p : Int), ((a.size - p - s : Nat) : Int), (b.extract p b.size).extract 0 (b.size - p - s)) := by rw [ex_ex, hp, hs]; rfl
  rw [← hp] at h1 h2 h3 h4
  rw [← hs] at h3 h4
  rw [← hp] at HCP
  have sa : (a.extract p a.size).size = a.size - p := tail_size
  have sb : (b.extract p b.size).size = b.size - p := tail_size
  have HCS := hid (fun w' => cs_any (a.extract p a.size) (b.extract p b.size) w' (by omega) (by omega))
  rw [hcs] at HCS
  rw [hhull]
  clear hp hs hcs hhull
  have q0 : (0 : Int) ≤ (p : Int) := by omega
  have q1 : (p : Int) ≤ (a.size : Int) := by omega
  have q2 : (p : Int) ≤ (b.size : Int) := by omega
  have q3 : IntKind.i64.wrap (((a.extract p a.size).size : Int) - (s : Int)) = ((a.size - p - s : Nat) : Int) := by rw [sa, wrapIn (by omega) (by omega)]; omega
  have q4 : IntKind.i64.wrap (((b.extract p b.size).size : Int) - (s : Int)) = ((b.size - p - s : Nat) : Int) := by rw [sb, wrapIn (by omega) (by omega)]; omega
  have q5 : (0 : Int) ≤ ((b.size - p - s : Nat) : Int) := by omega
  have q6 : ((b.size - p - s : Nat) : Int) ≤ ((b.extract p b.size).size : Int) := by rw [sb]; omega
  obtain ⟨a', ha'⟩ : ∃ a', a' = a.extract p a.size := ⟨_, rfl⟩
  obtain ⟨b', hb'⟩ : ∃ b', b' = b.extract p b.size := ⟨_, rfl⟩
  rw [← ha'] at q3 HCS
  rw [← hb'] at q4 q6 HCS ⊢
  have HA := hid ha'
  have HB := hid hb'
  clear sa sb ha' hb'
  go_enter Try.func18, Try.ntmps18
  go_wp2_with fail
  rw [← HW.out]
  refine HCP.out.mono ?_
  rintro e w1 ⟨rfl, b1⟩
  go_wp2_with fail
  go_quiet (fail)
  rw [← HA.out, ← HB.out]
  go_wp2_with fail
  refine (HCS.out _).mono ?_
  rintro e w2 ⟨rfl, b2⟩
  have B2 := b1.trans ((below_drewN (Below.refl _ _) nq).trans (b2.mono b1.size))
  have hz := Z0.out _ B2
  obtain ⟨z0, z1, z2⟩ := cells3 hz
  obtain ⟨f0, f1, f2⟩ := frozen3 hz
  have HZ := hid hz
  have HB2 := hid B2
  clear hz B2 b2 b1
  go_wp2_with fail
  obtain ⟨r0, r1, r2⟩ := cells3 (three_set (x' := .int .i64 (p : Int)) (y' := .int .i64 ((a.size - p - s : Nat) : Int)) (z' := .string (b'.extract 0 (b.size - p - s))) HZ.out)
  refine bodyPost_ret (v := edv ((p : Int), ((a.size - p - s : Nat) : Int), b'.extract 0 (b.size - p - s))) ?_ rfl ⟨rfl, ?_⟩
  · unfold edv
    simp [results, Try.results18, go_sem, r0, r1, r2]
  · exact below_put (below_put (below_put (bW.trans (HB2.out.mono bW.size)) (Nat.le_refl _)) (Nat.le_refl _)) (Nat.le_refl _)
end Go.Proofs.Ytahikgdgbgclkaa
