/-
  Contracts: the reference's Has, With, Not, writable, Printable.
  Contract: the reference's Printable.
  Contracts: the reference's plain and written.
  The reference's parser: its state; contracts: next, letter, char.
-/
import Derived.Test.YtednoideboeehaaDoorZ06
import Derived.Test.YtednoideboeehaaDoorZ09
import Derived.Test.YtednoideboeehaaDoorZ10
import Derived.Test.YtednoideboeehaaDoorZ04
import Derived.Test.YtednoideboeehaaDoorZ03
import Derived.Laws.IdiomStrings
import Derived.Test.YtednoideboeehaaDoorZ05
import Derived.Deep.Cut
section
set_option linter.unusedSimpArgs false
set_option linter.unusedVariables false
namespace Go.Proofs.YtednoideboeehaaDoor
open Go.RowKit Bs Rg Go.Frame
attribute [local go_sem] eq_zero eq_set

set_option maxRecDepth 100000 in
set_option maxHeartbeats 2000000 in
theorem rHas_any (p : Nat → Bool) (b : Nat) (w : World) (hb : b < 256) :
    Calls Tryd.prog 57 #[sv p, .int .i64 (b : Int)] w fun e w' => e = .returned (.bool (p b)) ∧ Below w.heap.size w w' := by
  obtain ⟨k, j, hk, hj, rfl⟩ : ∃ k j, k < 4 ∧ j < 64 ∧ b = 64 * k + j := ⟨b / 64, b % 64, by omega, by omega, by omega⟩
  obtain ⟨b, hb'⟩ : ∃ b, b = 64 * k + j := ⟨_, rfl⟩
  have q1 : (b : Int) / 64 = (k : Int) := by omega
  have q2 : (b : Int) % 64 = (j : Int) := by omega
  have q3 : b / 64 = k := by omega
  have q4 : b % 64 = j := by omega
  have E := has_bit (p := p) (k := k) hj
  rw [← hb'] at E ⊢
  clear hb' hb
  unfold sv
  have hk4 : k = 0 ∨ k = 1 ∨ k = 2 ∨ k = 3 := by omega
  cases hp : p b
  all_goals (
    rw [hp] at E
    simp only [Bool.toNat_false, Bool.toNat_true, Int.natCast_zero, Int.natCast_one] at E
    clear hp
    rcases hk4 with rfl | rfl | rfl | rfl
    all_goals (
      go_enter Tryd.func57, Tryd.ntmps57
      go_wp2
      go_ret
      exact ⟨rfl, (Below.refl _ _).alloc (Nat.le_refl _) _⟩))
set_option maxRecDepth 100000 in
set_option maxHeartbeats 2000000 in
theorem rWith_any (p : Nat → Bool) (b : Nat) (w : World) (hb : b < 256) :
    Calls Tryd.prog 86 #[sv p, .int .i64 (b : Int)] w fun e w' => e = .returned (sv (add1 p b)) ∧ Below w.heap.size w w' := by
  obtain ⟨k, j, hk, hj, rfl⟩ : ∃ k j, k < 4 ∧ j < 64 ∧ b = 64 * k + j := ⟨b / 64, b % 64, by omega, by omega, by omega⟩
  obtain ⟨b, hb'⟩ : ∃ b, b = 64 * k + j := ⟨_, rfl⟩
  have q1 : (b : Int) / 64 = (k : Int) := by omega
  have q2 : (b : Int) % 64 = (j : Int) := by omega
  have q3 : b / 64 = k := by omega
  have q4 : b % 64 = j := by omega
  have H : ∀ k' : Nat, k' ≠ k → wd (add1 p b) k' = wd p k' := fun k' h => by rw [hb']; exact wd_add_other p hj h
  have E := or_pow (p := p) (k := k) hj
  rw [← hb'] at E ⊢
  clear hb' hb
  unfold sv
  have hk4 : k = 0 ∨ k = 1 ∨ k = 2 ∨ k = 3 := by omega
  rcases hk4 with rfl | rfl | rfl | rfl
  · rw [H 1 (by decide), H 2 (by decide), H 3 (by decide)]
    have H' := hid H; clear H
    go_enter Tryd.func86, Tryd.ntmps86
    go_wp2
    refine bodyPost_ret (v := .agg #[.int .u64 (wd (add1 p b) 0 : Int), .int .u64 (wd p 1 : Int), .int .u64 (wd p 2 : Int), .int .u64 (wd p 3 : Int)]) ?_ rfl ⟨rfl, ?_⟩
    · simp [results, Tryd.results86, go_sem]
    · exact ((Below.refl _ _).alloc (Nat.le_refl _) _).alloc (by simp) _
  · rw [H 0 (by decide), H 2 (by decide), H 3 (by decide)]
    have H' := hid H; clear H
    go_enter Tryd.func86, Tryd.ntmps86
    go_wp2
    refine bodyPost_ret (v := .agg #[.int .u64 (wd p 0 : Int), .int .u64 (wd (add1 p b) 1 : Int), .int .u64 (wd p 2 : Int), .int .u64 (wd p 3 : Int)]) ?_ rfl ⟨rfl, ?_⟩
    · simp [results, Tryd.results86, go_sem]
    · exact ((Below.refl _ _).alloc (Nat.le_refl _) _).alloc (by simp) _
  · rw [H 0 (by decide), H 1 (by decide), H 3 (by decide)]
    have H' := hid H; clear H
    go_enter Tryd.func86, Tryd.ntmps86
    go_wp2
    refine bodyPost_ret (v := .agg #[.int .u64 (wd p 0 : Int), .int .u64 (wd p 1 : Int), .int .u64 (wd (add1 p b) 2 : Int), .int .u64 (wd p 3 : Int)]) ?_ rfl ⟨rfl, ?_⟩
    · simp [results, Tryd.results86, go_sem]
    · exact ((Below.refl _ _).alloc (Nat.le_refl _) _).alloc (by simp) _
  · rw [H 0 (by decide), H 1 (by decide), H 2 (by decide)]
    have H' := hid H; clear H
    go_enter Tryd.func86, Tryd.ntmps86
    go_wp2
    refine bodyPost_ret (v := .agg #[.int .u64 (wd p 0 : Int), .int .u64 (wd p 1 : Int), .int .u64 (wd p 2 : Int), .int .u64 (wd (add1 p b) 3 : Int)]) ?_ rfl ⟨rfl, ?_⟩
    · simp [results, Tryd.results86, go_sem]
    · exact ((Below.refl _ _).alloc (Nat.le_refl _) _).alloc (by simp) _

set_option maxRecDepth 100000 in
set_option maxHeartbeats 4000000 in
theorem rNot_any (p : Nat → Bool) (w : World) :
    Calls Tryd.prog 38 #[sv p] w fun e w' => e = .returned (sv (fun x => !p x)) ∧ Below w.heap.size w w' := by
  obtain ⟨g, hg⟩ : ∃ g : Nat → Bool, g = fun x => !p x := ⟨_, rfl⟩
  have E := hid (show ∀ k, bits .xor .u64 IntKind.u64.max (wd p k : Int) = (wd g k : Int) from fun k => by rw [hg]; exact not_wd p k)
  rw [← hg]
  clear hg
  obtain ⟨W, hW⟩ : ∃ W, W = (w.alloc (.cells #[.int .u64 (wd (p) 0 : Int), .int .u64 (wd (p) 1 : Int), .int .u64 (wd (p) 2 : Int), .int .u64 (wd (p) 3 : Int)] 24)).alloc zset := ⟨_, rfl⟩
  have HX := hid (by have := Go.Frame.two w (.cells #[.int .u64 (wd (p) 0 : Int), .int .u64 (wd (p) 1 : Int), .int .u64 (wd (p) 2 : Int), .int .u64 (wd (p) 3 : Int)] 24) zset; rw [← hW] at this; exact this)
  have HW := hid hW
  unfold zset at hW
  unfold sv
  go_enter Tryd.func38, Tryd.ntmps38
  go_wp2_with fail
  rw [← hW]
  clear hW
  go_loopg [3] 4 (fun k sl wr => ∃ i : Nat, sl = .int .i64 i ∧ i + k = 4 ∧ SB wr w.heap.size (mix g p i) ∧ SB wr (w.heap.size + 1) (fun _ => false) ∧ Below w.heap.size w wr)
  case atStart => exact ⟨0, rfl, rfl, SB_congr (fun x _ => (mix_zero g p x).symm) HX.out.1, sb_zero HX.out.2.1, HX.out.2.2.1⟩
  case round =>
    obtain ⟨i, rfl, hk, hA, hC, hbw⟩ := hrel
    have hi5 : i = 0 ∨ i = 1 ∨ i = 2 ∨ i = 3 ∨ i = 4 := by omega
    rcases hi5 with rfl | rfl | rfl | rfl | rfl
    · have hA' : wr.heap[w.heap.size]? = some (.cells #[.int .u64 (wd (p) 0 : Int), .int .u64 (wd (p) 1 : Int), .int .u64 (wd (p) 2 : Int), .int .u64 (wd (p) 3 : Int)] 24 (0, 0)) := by
        have := hA
        unfold SB at this
        rw [wd_mix_ge g p (i := 0) (k := 0) (by decide), wd_mix_ge g p (i := 0) (k := 1) (by decide), wd_mix_ge g p (i := 0) (k := 2) (by decide), wd_mix_ge g p (i := 0) (k := 3) (by decide)] at this
        exact this
      have e0 := E.out 0
      have HH := hid (And.intro hA' (And.intro hC hbw))
      obtain ⟨c0, c1, c2, c3⟩ := cells4 hA'
      obtain ⟨f0, f1, f2, f3⟩ := frozen4 hA'
      clear hA hA' hC hbw
      go_wp2
      go_roundg (gk - 1)
      case measure => omega
      case rel =>
        obtain ⟨h1, h3, h4⟩ := HH.out
        have h5 := h4.size
        refine ⟨1, by go_num, by omega, ?_, ?_, ?_⟩
        · unfold SB
          rw [wd_mix_lt g p (i := 1) (k := 0) (by decide), wd_mix_ge g p (i := 1) (k := 1) (by decide), wd_mix_ge g p (i := 1) (k := 2) (by decide), wd_mix_ge g p (i := 1) (k := 3) (by decide)]
          exact blk_put h1
        · unfold SB; exact blk_set h3 (by show w.heap.size + 1 ≠ w.heap.size; omega)
        · exact below_put h4 (by omega)
    · have hA' : wr.heap[w.heap.size]? = some (.cells #[.int .u64 (wd (g) 0 : Int), .int .u64 (wd (p) 1 : Int), .int .u64 (wd (p) 2 : Int), .int .u64 (wd (p) 3 : Int)] 24 (0, 0)) := by
        have := hA
        unfold SB at this
        rw [wd_mix_lt g p (i := 1) (k := 0) (by decide), wd_mix_ge g p (i := 1) (k := 1) (by decide), wd_mix_ge g p (i := 1) (k := 2) (by decide), wd_mix_ge g p (i := 1) (k := 3) (by decide)] at this
        exact this
      have e0 := E.out 1
      have HH := hid (And.intro hA' (And.intro hC hbw))
      obtain ⟨c0, c1, c2, c3⟩ := cells4 hA'
      obtain ⟨f0, f1, f2, f3⟩ := frozen4 hA'
      clear hA hA' hC hbw
      go_wp2
      go_roundg (gk - 1)
      case measure => omega
      case rel =>
        obtain ⟨h1, h3, h4⟩ := HH.out
        have h5 := h4.size
        refine ⟨2, by go_num, by omega, ?_, ?_, ?_⟩
        · unfold SB
          rw [wd_mix_lt g p (i := 2) (k := 0) (by decide), wd_mix_lt g p (i := 2) (k := 1) (by decide), wd_mix_ge g p (i := 2) (k := 2) (by decide), wd_mix_ge g p (i := 2) (k := 3) (by decide)]
          exact blk_put h1
        · unfold SB; exact blk_set h3 (by show w.heap.size + 1 ≠ w.heap.size; omega)
        · exact below_put h4 (by omega)
    · have hA' : wr.heap[w.heap.size]? = some (.cells #[.int .u64 (wd (g) 0 : Int), .int .u64 (wd (g) 1 : Int), .int .u64 (wd (p) 2 : Int), .int .u64 (wd (p) 3 : Int)] 24 (0, 0)) := by
        have := hA
        unfold SB at this
        rw [wd_mix_lt g p (i := 2) (k := 0) (by decide), wd_mix_lt g p (i := 2) (k := 1) (by decide), wd_mix_ge g p (i := 2) (k := 2) (by decide), wd_mix_ge g p (i := 2) (k := 3) (by decide)] at this
        exact this
      have e0 := E.out 2
      have HH := hid (And.intro hA' (And.intro hC hbw))
      obtain ⟨c0, c1, c2, c3⟩ := cells4 hA'
      obtain ⟨f0, f1, f2, f3⟩ := frozen4 hA'
      clear hA hA' hC hbw
      go_wp2
      go_roundg (gk - 1)
      case measure => omega
      case rel =>
        obtain ⟨h1, h3, h4⟩ := HH.out
        have h5 := h4.size
        refine ⟨3, by go_num, by omega, ?_, ?_, ?_⟩
        · unfold SB
          rw [wd_mix_lt g p (i := 3) (k := 0) (by decide), wd_mix_lt g p (i := 3) (k := 1) (by decide), wd_mix_lt g p (i := 3) (k := 2) (by decide), wd_mix_ge g p (i := 3) (k := 3) (by decide)]
          exact blk_put h1
        · unfold SB; exact blk_set h3 (by show w.heap.size + 1 ≠ w.heap.size; omega)
        · exact below_put h4 (by omega)
    · have hA' : wr.heap[w.heap.size]? = some (.cells #[.int .u64 (wd (g) 0 : Int), .int .u64 (wd (g) 1 : Int), .int .u64 (wd (g) 2 : Int), .int .u64 (wd (p) 3 : Int)] 24 (0, 0)) := by
        have := hA
        unfold SB at this
        rw [wd_mix_lt g p (i := 3) (k := 0) (by decide), wd_mix_lt g p (i := 3) (k := 1) (by decide), wd_mix_lt g p (i := 3) (k := 2) (by decide), wd_mix_ge g p (i := 3) (k := 3) (by decide)] at this
        exact this
      have e0 := E.out 3
      have HH := hid (And.intro hA' (And.intro hC hbw))
      obtain ⟨c0, c1, c2, c3⟩ := cells4 hA'
      obtain ⟨f0, f1, f2, f3⟩ := frozen4 hA'
      clear hA hA' hC hbw
      go_wp2
      go_roundg (gk - 1)
      case measure => omega
      case rel =>
        obtain ⟨h1, h3, h4⟩ := HH.out
        have h5 := h4.size
        refine ⟨4, by go_num, by omega, ?_, ?_, ?_⟩
        · unfold SB
          rw [wd_mix_lt g p (i := 4) (k := 0) (by decide), wd_mix_lt g p (i := 4) (k := 1) (by decide), wd_mix_lt g p (i := 4) (k := 2) (by decide), wd_mix_lt g p (i := 4) (k := 3) (by decide)]
          exact blk_put h1
        · unfold SB; exact blk_set h3 (by show w.heap.size + 1 ≠ w.heap.size; omega)
        · exact below_put h4 (by omega)
    · have hA' : SB wr w.heap.size g := SB_congr (fun x hx => mix_four g p hx) hA
      obtain ⟨c0, c1, c2, c3⟩ := cells4 hA'
      obtain ⟨a0, a1, a2, a3⟩ := cells4 hC
      obtain ⟨f0, f1, f2, f3⟩ := frozen4 hC
      have HA := hid hC
      have HB := hid hbw
      clear hA hA' hC hbw
      go_wp2
      have z := four_set (x' := .int .u64 (wd g 0 : Int)) (y' := .int .u64 (wd g 1 : Int)) (z' := .int .u64 (wd g 2 : Int)) (u' := .int .u64 (wd g 3 : Int)) HA.out
      obtain ⟨r0, r1, r2, r3⟩ := cells4 z
      refine bodyPost_ret (v := sv g) ?_ rfl ⟨rfl, ?_⟩
      · unfold sv; simp [results, Tryd.results38, go_sem, r0, r1, r2, r3]
      · exact below_put (below_put (below_put (below_put HB.out (by omega)) (by omega)) (by omega)) (by omega)


theorem rNotB_any (s : BS) (w : World) : Calls Tryd.prog 38 #[.agg #[.int .u64 (ws s 0 : Int), .int .u64 (ws s 1 : Int), .int .u64 (ws s 2 : Int), .int .u64 (ws s 3 : Int)]] w fun e w' => e = .returned (.agg #[.int .u64 (ws (cpl s) 0 : Int), .int .u64 (ws (cpl s) 1 : Int), .int .u64 (ws (cpl s) 2 : Int), .int .u64 (ws (cpl s) 3 : Int)]) ∧ Below w.heap.size w w' :=
  rNot_any (lf s) w
theorem rHasB_any (s : BS) (b : Nat) (w : World) (hb : b < 256) : Calls Tryd.prog 57 #[.agg #[.int .u64 (ws s 0 : Int), .int .u64 (ws s 1 : Int), .int .u64 (ws s 2 : Int), .int .u64 (ws s 3 : Int)], .int .i64 (b : Int)] w fun e w' => e = .returned (.bool (nt s b)) ∧ Below w.heap.size w w' :=
  rHas_any (lf s) b w hb
theorem okb_nat {n : Nat} (h : n < 256) : okb (UInt8.ofNat n) = true ↔ (32 ≤ n ∧ n ≤ 126) ∨ n = 9 ∨ n = 10 := by
  unfold okb prn
  simp [UInt8.le_iff_toNat_le, ← UInt8.toNat_inj]
  omega
theorem wr_nat {s : BS} : wr s = true ↔ emp s = false ∧ ∀ n, n < 256 → nt s n = true → okb (UInt8.ofNat n) = true := by
  rw [wr_iff]
  refine and_congr ?_ ⟨fun h n hn hs => h _ hs, fun h b hb => ?_⟩
  · rw [Ne, ← emp_iff]; cases emp s <;> simp
  · have := h b.toNat b.toNat_lt (by rw [nt_nat]; exact hb)
    simpa using this

set_option maxRecDepth 100000 in
set_option maxHeartbeats 4000000 in
theorem rwritable_any (s : BS) (w : World) : Calls Tryd.prog 37 #[.agg #[.int .u64 (ws s 0 : Int), .int .u64 (ws s 1 : Int), .int .u64 (ws s 2 : Int), .int .u64 (ws s 3 : Int)]] w fun e w' => e = .returned (.bool (wr s)) ∧ Below w.heap.size w w' := by
  have CH := hid (fun (i : Nat) (hi : i < 256) V => rHasB_any s i V hi)
  obtain ⟨y, hy⟩ : ∃ y, y = wr s := ⟨_, rfl⟩
  have F := hid (show y = true ↔ _ from hy ▸ wr_nat (s := s))
  rw [← hy]
  clear hy
  obtain ⟨W, hW⟩ : ∃ W, W = w.alloc (.cells #[.int .u64 (ws s 0 : Int), .int .u64 (ws s 1 : Int), .int .u64 (ws s 2 : Int), .int .u64 (ws s 3 : Int)] 24) := ⟨_, rfl⟩
  have HX := hid (show W.heap[w.heap.size]? = some (.cells #[.int .u64 (ws s 0 : Int), .int .u64 (ws s 1 : Int), .int .u64 (ws s 2 : Int), .int .u64 (ws s 3 : Int)] 24 (0, 0)) ∧ Below w.heap.size w W from by rw [hW]; exact ⟨alloc_new _ _, bel1 _ _⟩)
  go_enter Tryd.func37, Tryd.ntmps37
  go_wp2_with fail
  rw [← hW]
  clear hW
  go_loopg [3] 256 (fun k sl wr => ∃ i : Nat, sl = .int .i64 (i : Int) ∧ i + k = 256 ∧ (∀ x, x < i → nt s x = true → okb (UInt8.ofNat x) = true) ∧ wr.heap[w.heap.size]? = some (.cells #[.int .u64 (ws s 0 : Int), .int .u64 (ws s 1 : Int), .int .u64 (ws s 2 : Int), .int .u64 (ws s 3 : Int)] 24 (0, 0)) ∧ Below w.heap.size w wr)
  case atStart => exact ⟨0, rfl, rfl, fun x hx => by omega, HX.out.1, HX.out.2⟩
  case round =>
    obtain ⟨i, rfl, hk, hall, hbx, hbw⟩ := hrel
    obtain ⟨p0, p1, p2, p3⟩ := cells4 hbx
    by_cases hlt : i < 256
    · have hlt' : (i : Int) < 256 := by omega
      have C := hid (CH.out i hlt)
      have HA := hid (And.intro hall (And.intro hbx (And.intro hbw hlt)))
      have HK := hid hk
      have OK := hid (okb_nat hlt)
      clear hall hbx hbw hlt hk
      cases hc : nt s i
      · rw [hc] at C
        go_wp2_with fail
        refine (C.out _).mono ?_
        rintro e V ⟨rfl, b1⟩
        have B1 := hid b1
        clear b1
        go_wp2
        go_roundg (gk - 1)
        case measure => have := HK.out; have := HA.out.2.2.2; omega
        case rel =>
          obtain ⟨h1, h2, h3, h4⟩ := HA.out
          refine ⟨i + 1, by go_num, by have := HK.out; omega, fun x hx hs => ?_, (B1.out.block _ (heap_lt h2)).trans h2, h3.trans (B1.out.mono h3.size)⟩
          by_cases e : x = i
          · subst e; rw [hc] at hs; cases hs
          · exact h1 x (by omega) hs
      · rw [hc] at C
        have h4 : (i < 32 ∧ i ≠ 9 ∧ i ≠ 10) ∨ i = 9 ∨ i = 10 ∨ (32 ≤ i ∧ i ≤ 126) ∨ 126 < i := by omega
        rcases h4 with h | rfl | rfl | h | h
        · have g1 : (i : Int) < 32 := by omega
          have g2 : ((i : Int) != 9) = true := by simp; omega
          have g3 : ((i : Int) != 10) = true := by simp; omega
          have HB := hid h
          clear h
          go_wp2_with fail
          refine (C.out _).mono ?_
          rintro e V ⟨rfl, b1⟩
          have B1 := hid b1
          clear b1
          go_wp2
          go_ret
          refine ⟨?_, HA.out.2.2.1.trans (B1.out.mono HA.out.2.2.1.size)⟩
          cases y
          · rfl
          · exact absurd (OK.out.1 ((F.out.1 rfl).2 i HA.out.2.2.2 hc)) (by have := HB.out; omega)
        · go_wp2_with fail
          refine (C.out _).mono ?_
          rintro e V ⟨rfl, b1⟩
          have B1 := hid b1
          clear b1
          go_wp2
          go_roundg (gk - 1)
          case measure => have := HK.out; omega
          case rel =>
            obtain ⟨h1, h2, h3, h4⟩ := HA.out
            refine ⟨9 + 1, by go_num, by have := HK.out; omega, fun x hx hs => ?_, (B1.out.block _ (heap_lt h2)).trans h2, h3.trans (B1.out.mono h3.size)⟩
            by_cases e : x = 9
            · subst e; decide
            · exact h1 x (by omega) hs
        · go_wp2_with fail
          refine (C.out _).mono ?_
          rintro e V ⟨rfl, b1⟩
          have B1 := hid b1
          clear b1
          go_wp2
          go_roundg (gk - 1)
          case measure => have := HK.out; omega
          case rel =>
            obtain ⟨h1, h2, h3, h4⟩ := HA.out
            refine ⟨10 + 1, by go_num, by have := HK.out; omega, fun x hx hs => ?_, (B1.out.block _ (heap_lt h2)).trans h2, h3.trans (B1.out.mono h3.size)⟩
            by_cases e : x = 10
            · subst e; decide
            · exact h1 x (by omega) hs
        · have g1 : ¬ (i : Int) < 32 := by omega
          have g2 : ¬ (126 : Int) < (i : Int) := by omega
          have HB := hid h
          clear h
          go_wp2_with fail
          refine (C.out _).mono ?_
          rintro e V ⟨rfl, b1⟩
          have B1 := hid b1
          clear b1
          go_wp2
          go_roundg (gk - 1)
          case measure => have := HK.out; have := HA.out.2.2.2; omega
          case rel =>
            obtain ⟨h1, h2, h3, h4⟩ := HA.out
            refine ⟨i + 1, by go_num, by have := HK.out; omega, fun x hx hs => ?_, (B1.out.block _ (heap_lt h2)).trans h2, h3.trans (B1.out.mono h3.size)⟩
            by_cases e : x = i
            · subst e; exact OK.out.2 (.inl HB.out)
            · exact h1 x (by omega) hs
        · have g1 : ¬ (i : Int) < 32 := by omega
          have g2 : (126 : Int) < (i : Int) := by omega
          have g3 : ((i : Int) != 9) = true := by simp; omega
          have g4 : ((i : Int) != 10) = true := by simp; omega
          have HB := hid h
          clear h
          go_wp2_with fail
          refine (C.out _).mono ?_
          rintro e V ⟨rfl, b1⟩
          have B1 := hid b1
          clear b1
          go_wp2
          go_ret
          refine ⟨?_, HA.out.2.2.1.trans (B1.out.mono HA.out.2.2.1.size)⟩
          cases y
          · rfl
          · exact absurd (OK.out.1 ((F.out.1 rfl).2 i HA.out.2.2.2 hc)) (by have := HB.out; omega)
    · have hin : ¬ (i : Int) < 256 := by omega
      have HA := hid (And.intro hall (And.intro hbw hlt))
      clear hall hbw hlt hbx
      go_wp2
      go_ret
      refine ⟨?_, HA.out.2.1⟩
      have : y = !emp s := by
        rw [Bool.eq_iff_iff, F.out]
        constructor
        · intro h; rw [h.1]; rfl
        · intro h
          refine ⟨by simpa using h, fun n hn hs => HA.out.1 n (by have := HA.out.2.2; omega) hs⟩
      rw [this]; rfl
end Go.Proofs.YtednoideboeehaaDoor
end
section
set_option linter.unusedSimpArgs false
set_option linter.unusedVariables false
namespace Go.Proofs.YtednoideboeehaaDoor
open Go.RowKit Bs Rg Go.Frame
attribute [local go_sem] eq_zero eq_set
set_option maxRecDepth 100000 in
set_option maxHeartbeats 4000000 in
theorem rPrintable_any (g : Nat → Prop) (r : Rx) : ∀ (w : World) (cs : List Value), Vd r → RC g w r cs →
    Calls Tryd.prog 20 #[.agg cs.toArray] w fun e w' => e = .returned (.bool (prt r)) ∧ Below w.heap.size w w' := by
  induction r using Rx.ind with
  | h k s l ih =>
  intro w cs hd h
  obtain ⟨a, n, c, rfl, hK⟩ := RC_mk.1 h
  clear h
  show Calls Tryd.prog 20 #[.agg #[.int .i64 k, .int .u64 (ws s 0 : Int), .int .u64 (ws s 1 : Int), .int .u64 (ws s 2 : Int), .int .u64 (ws s 3 : Int), .slice a n c]] w _
  obtain ⟨q, hq⟩ : ∃ q, q = prt (.mk k s l) := ⟨_, rfl⟩
  rw [← hq]
  rw [prt_mk] at hq
  have hln := hid hK.len
  have hnl := hK.lt
  have IH := hid fun x hx W cs hc => ih x hx W cs (hd.kid hx) hc
  obtain ⟨W, hW⟩ : ∃ W, W = w.alloc (.cells #[.int .i64 k, .int .u64 (ws s 0 : Int), .int .u64 (ws s 1 : Int), .int .u64 (ws s 2 : Int), .int .u64 (ws s 3 : Int), .slice a n c] 27) := ⟨_, rfl⟩
  have bW : Below w.heap.size w W := by rw [hW]; exact bel1 _ _
  have x0 : W.heap[w.heap.size]? = some (.cells #[.int .i64 k, .int .u64 (ws s 0 : Int), .int .u64 (ws s 1 : Int), .int .u64 (ws s 2 : Int), .int .u64 (ws s 3 : Int), .slice a n c] 27 (0, 0)) := by rw [hW]; exact alloc_new _ _
  have HK := hid (And.intro (hK.below bW) (And.intro bW x0))
  have hshp := hd.shaped
  rcases Int.decEq k 1 with n1 | rfl
  rotate_left
  · rw [if_pos rfl] at hq
    subst hq
    obtain ⟨c0, c1, c2, c3, c4, c5⟩ := cells6 (hW ▸ x0)
    clear hK ih x0 hd bW
    go_enter Tryd.func20, Tryd.ntmps20
    go_wp2
    go_ret
    exact ⟨rfl, hW ▸ HK.out.2.1⟩
  rw [if_neg n1] at hq
  have g1 : (k == 1) = false := by simpa using n1
  rcases Int.decEq k 3 with n3 | rfl
  · rw [if_neg n3] at hq
    have g3 : (k == 3) = false := by simpa using n3
    have F := hid hq
    obtain ⟨c0, c1, c2, c3, c4, c5⟩ := cells6 (hW ▸ x0)
    clear hK ih bW x0 hq hd n1 n3 hshp
    go_enter Tryd.func20, Tryd.ntmps20
    go_wp2_with fail
    clear c0 c1 c2 c3 c4 c5
    rw [← hW]
    go_loopg [3] n (fun k s3 wr => ∃ (i : Nat), s3 = .int .i64 (i : Int) ∧ i + k = n ∧ (∀ y ∈ l.take i, prt y = true) ∧ Below W.heap.size W wr)
    case atStart => exact ⟨0, rfl, by omega, by simp, Below.refl _ _⟩
    case round =>
      obtain ⟨i, rfl, hk, hsh, hbw⟩ := hrel
      by_cases hlt : i < n
      · have hlt' : (i : Int) < (n : Int) := by omega
        obtain ⟨b, off, k', s', l', a', n', c', rfl, _, hb, hx, hK', q0, q1, q2, q3, q4, q5⟩ := (HK.out.1.below hbw).get (i := i) hlt
        have c5 := (cells6 ((hbw.block _ (heap_lt HK.out.2.2)).trans HK.out.2.2)).2.2.2.2.2
        have HX := hid (And.intro hx (And.intro hK' (And.intro hbw hsh)))
        have CR := hid (IH.out _ (List.mem_of_getElem? HX.out.1) wr _ (RC_mk.2 ⟨a', n', c', rfl, HX.out.2.1⟩))
        clear hx hK' hbw hsh
        obtain ⟨z, hz⟩ : ∃ z, z = prt (.mk k' s' l') := ⟨_, rfl⟩
        rw [← hz] at CR
        have HZ := hid hz
        clear hz
        go_wp2_with fail
        refine CR.out.mono ?_
        rintro e W2 ⟨rfl, b2⟩
        have HB := hid (HX.out.2.2.1.trans (b2.mono HX.out.2.2.1.size))
        clear b2
        cases z
        · go_wp2
          go_ret
          refine ⟨?_, HK.out.2.1.trans (HB.out.mono HK.out.2.1.size)⟩
          have : q = false := by
            rw [F.out, ← Bool.not_eq_true, prtL_iff]
            intro hall
            have := hall _ (List.mem_of_getElem? HX.out.1)
            rw [← HZ.out] at this; cases this
          rw [this]; rfl
        · go_wp2
          go_roundg (gk - 1)
          case measure => omega
          case rel => exact ⟨i + 1, by go_num, by omega, take_all HX.out.2.2.2 HX.out.1 HZ.out.symm, HB.out⟩
      · have hin : ¬ (i : Int) < (n : Int) := by omega
        have HX := hid (And.intro hsh hbw)
        have c5 := (cells6 ((hbw.block _ (heap_lt HK.out.2.2)).trans HK.out.2.2)).2.2.2.2.2
        clear hsh hbw
        go_wp2
        go_ret
        refine ⟨?_, HK.out.2.1.trans (HX.out.2.mono HK.out.2.1.size)⟩
        have : q = true := by
          rw [F.out, prtL_iff]
          exact take_full HX.out.1 hln.out (by omega)
        rw [this]; rfl
  · rw [if_pos rfl] at hq
    have h0 : l.length = 0 := shaped_leaf hshp (.inr (.inr rfl))
    obtain rfl : n = 0 := by rw [← hln.out]; exact h0
    have F := hid hq
    obtain ⟨c0, c1, c2, c3, c4, c5⟩ := cells6 (hW ▸ x0)
    have C1 := hid (fun V => rwritable_any s V)
    have C2 := hid (fun V => rNotB_any s V)
    have C3 := hid (fun V => rwritable_any (cpl s) V)
    obtain ⟨b1, hb1⟩ : ∃ b, b = wr s := ⟨_, rfl⟩
    obtain ⟨b2, hb2⟩ : ∃ b, b = wr (cpl s) := ⟨_, rfl⟩
    rw [← hb1] at C1
    rw [← hb2] at C3
    have F2 := hid (show q = (b1 || b2) by rw [hb1, hb2]; exact hq)
    clear hK ih bW x0 hq hd n1 h0 hshp hb1 hb2
    go_enter Tryd.func20, Tryd.ntmps20
    go_wp2_with fail
    rw [← hW]
    refine (C1.out _).mono ?_
    rintro e W1 ⟨rfl, d1⟩
    have D1 := hid d1
    clear d1
    clear c0 c1 c2 c3 c4 c5
    cases b1
    · have x1 := hid ((D1.out.block _ (heap_lt HK.out.2.2)).trans HK.out.2.2)
      obtain ⟨c0, c1, c2, c3, c4, c5⟩ := cells6 x1.out
      go_wp2_with fail
      refine (C2.out _).mono ?_
      rintro e W2 ⟨rfl, d2⟩
      have D2 := hid (D1.out.trans (d2.mono D1.out.size))
      clear d2
      go_wp2_with fail
      refine (C3.out _).mono ?_
      rintro e W3 ⟨rfl, d3⟩
      have D3 := hid (D2.out.trans (d3.mono D2.out.size))
      clear d3 c0 c1 c2 c3 c4 c5
      have c5 := (cells6 ((D3.out.block _ (heap_lt HK.out.2.2)).trans HK.out.2.2)).2.2.2.2.2
      cases b2
      · go_wp2
        go_ret
        exact ⟨by rw [F2.out]; rfl, HK.out.2.1.trans (D3.out.mono HK.out.2.1.size)⟩
      · go_wp2_with fail
        go_loopg [3] 0 (fun k s3 wr => s3 = .int .i64 0 ∧ wr = W3)
        case atStart => exact ⟨rfl, rfl⟩
        case round =>
          obtain ⟨rfl, rfl⟩ := hrel
          go_wp2
          go_ret
          exact ⟨by rw [F2.out]; rfl, HK.out.2.1.trans (D3.out.mono HK.out.2.1.size)⟩
    · have c5 := (cells6 ((D1.out.block _ (heap_lt HK.out.2.2)).trans HK.out.2.2)).2.2.2.2.2
      go_wp2_with fail
      go_loopg [3] 0 (fun k s3 wr => s3 = .int .i64 0 ∧ wr = W1)
      case atStart => exact ⟨rfl, rfl⟩
      case round =>
        obtain ⟨rfl, rfl⟩ := hrel
        go_wp2
        go_ret
        exact ⟨by rw [F2.out]; rfl, HK.out.2.1.trans (D1.out.mono HK.out.2.1.size)⟩
end Go.Proofs.YtednoideboeehaaDoor
end
section
set_option linter.unusedSimpArgs false
set_option linter.unusedVariables false
namespace Go.Proofs.YtednoideboeehaaDoor
open Go.RowKit Bs Rg Go.Frame

/-- The signs that do not stand for themselves. -/
def spn : Bool → List Nat
  | false => [40, 41, 91, 93, 124, 42, 43, 63, 46, 92]
  | true => [93, 92, 45]
def pln (b : Nat) (br : Bool) : Bool := decide (32 ≤ b) && (decide (b ≤ 126) && !(spn br).contains b)
theorem pln_no {b : Nat} {br : Bool} {c : Nat} (hc : c ∈ spn br) (h : (c : Int) = (b : Int)) : pln b br = false := by
  obtain rfl : b = c := by omega
  have : (spn br).contains b = true := by simpa using hc
  unfold pln; rw [this]; simp
theorem pln_yes {b : Nat} {br : Bool} (h1 : 32 ≤ b) (h2 : b ≤ 126) (h : ∀ c ∈ spn br, ¬ (c : Int) = (b : Int)) : pln b br = true := by
  have : (spn br).contains b = false := by
    rw [← Bool.not_eq_true]
    intro hc
    exact h b (by simpa using hc) rfl
  unfold pln; rw [this]; simp [h1, h2]
set_option maxRecDepth 100000 in
set_option maxHeartbeats 4000000 in
theorem plain_false (b : Nat) (w : World) (h1 : 32 ≤ b) (h2 : b ≤ 126) :
    Calls Tryd.prog 87 #[.int .i64 (b : Int), .bool false] w fun e w' => e = .returned (.bool (pln b false)) ∧ w' = w := by
  have g1 : ¬ (b : Int) < 32 := by omega
  have g2 : ¬ (126 : Int) < (b : Int) := by omega
  have HB := hid (And.intro h1 h2)
  obtain ⟨q, hq⟩ : ∃ q, q = pln b false := ⟨_, rfl⟩
  rw [← hq]
  have HQ := hid hq
  clear hq h1 h2
  go_enter Tryd.func87, Tryd.ntmps87
  go_wp2_with fail
  go_loopg [6] 10 (fun k s6 wr => ∃ i : Nat, s6 = .int .i64 (i : Int) ∧ i + k = 10 ∧ (∀ c ∈ (spn false).take i, ¬ (c : Int) = (b : Int)) ∧ wr = w)
  case atStart => exact ⟨0, rfl, rfl, by simp, rfl⟩
  case round =>
    obtain ⟨i, rfl, hk, hall, rfl⟩ := hrel
    have HA := hid hall
    clear hall
    have hi : i = 0 ∨ i = 1 ∨ i = 2 ∨ i = 3 ∨ i = 4 ∨ i = 5 ∨ i = 6 ∨ i = 7 ∨ i = 8 ∨ i = 9 ∨ i = 10 := by omega
    rcases hi with rfl | rfl | rfl | rfl | rfl | rfl | rfl | rfl | rfl | rfl | rfl
    · have e0 : wrap64 (((({ data := #[40, 41, 91, 93, 124, 42, 43, 63, 46, 92] } : ByteArray)[0]'(by decide)).toNat : Nat) : Int) = 40 := by decide +kernel
      by_cases e : (40 : Int) = (b : Int)
      · have HE := hid e
        have e' : ((40 : Int) == (b : Int)) = true := by simpa using e
        clear e
        go_wp2
        go_ret
        exact ⟨by rw [HQ.out, pln_no (c := 40) (by decide) HE.out]; rfl, rfl⟩
      · have HE := hid e
        have e' : ((40 : Int) == (b : Int)) = false := by simpa using e
        clear e
        go_wp2
        go_roundg (gk - 1)
        case measure => omega
        case rel => exact ⟨1, rfl, by omega, fun c hc => by
          rw [List.take_add_one] at hc
          rcases List.mem_append.1 hc with hc | hc
          · exact HA.out c hc
          · obtain rfl : c = 40 := by simpa [spn] using hc
            exact HE.out, rfl⟩
    · have e0 : wrap64 (((({ data := #[40, 41, 91, 93, 124, 42, 43, 63, 46, 92] } : ByteArray)[1]'(by decide)).toNat : Nat) : Int) = 41 := by decide +kernel
      by_cases e : (41 : Int) = (b : Int)
      · have HE := hid e
        have e' : ((41 : Int) == (b : Int)) = true := by simpa using e
        clear e
        go_wp2
        go_ret
        exact ⟨by rw [HQ.out, pln_no (c := 41) (by decide) HE.out]; rfl, rfl⟩
      · have HE := hid e
        have e' : ((41 : Int) == (b : Int)) = false := by simpa using e
        clear e
        go_wp2
        go_roundg (gk - 1)
        case measure => omega
        case rel => exact ⟨2, rfl, by omega, fun c hc => by
          rw [List.take_add_one] at hc
          rcases List.mem_append.1 hc with hc | hc
          · exact HA.out c hc
          · obtain rfl : c = 41 := by simpa [spn] using hc
            exact HE.out, rfl⟩
    · have e0 : wrap64 (((({ data := #[40, 41, 91, 93, 124, 42, 43, 63, 46, 92] } : ByteArray)[2]'(by decide)).toNat : Nat) : Int) = 91 := by decide +kernel
      by_cases e : (91 : Int) = (b : Int)
      · have HE := hid e
        have e' : ((91 : Int) == (b : Int)) = true := by simpa using e
        clear e
        go_wp2
        go_ret
        exact ⟨by rw [HQ.out, pln_no (c := 91) (by decide) HE.out]; rfl, rfl⟩
      · have HE := hid e
        have e' : ((91 : Int) == (b : Int)) = false := by simpa using e
        clear e
        go_wp2
        go_roundg (gk - 1)
        case measure => omega
        case rel => exact ⟨3, rfl, by omega, fun c hc => by
          rw [List.take_add_one] at hc
          rcases List.mem_append.1 hc with hc | hc
          · exact HA.out c hc
          · obtain rfl : c = 91 := by simpa [spn] using hc
            exact HE.out, rfl⟩
    · have e0 : wrap64 (((({ data := #[40, 41, 91, 93, 124, 42, 43, 63, 46, 92] } : ByteArray)[3]'(by decide)).toNat : Nat) : Int) = 93 := by decide +kernel
      by_cases e : (93 : Int) = (b : Int)
      · have HE := hid e
        have e' : ((93 : Int) == (b : Int)) = true := by simpa using e
        clear e
        go_wp2
        go_ret
        exact ⟨by rw [HQ.out, pln_no (c := 93) (by decide) HE.out]; rfl, rfl⟩
      · have HE := hid e
        have e' : ((93 : Int) == (b : Int)) = false := by simpa using e
        clear e
        go_wp2
        go_roundg (gk - 1)
        case measure => omega
        case rel => exact ⟨4, rfl, by omega, fun c hc => by
          rw [List.take_add_one] at hc
          rcases List.mem_append.1 hc with hc | hc
          · exact HA.out c hc
          · obtain rfl : c = 93 := by simpa [spn] using hc
            exact HE.out, rfl⟩
    · have e0 : wrap64 (((({ data := #[40, 41, 91, 93, 124, 42, 43, 63, 46, 92] } : ByteArray)[4]'(by decide)).toNat : Nat) : Int) = 124 := by decide +kernel
      by_cases e : (124 : Int) = (b : Int)
      · have HE := hid e
        have e' : ((124 : Int) == (b : Int)) = true := by simpa using e
        clear e
        go_wp2
        go_ret
        exact ⟨by rw [HQ.out, pln_no (c := 124) (by decide) HE.out]; rfl, rfl⟩
      · have HE := hid e
        have e' : ((124 : Int) == (b : Int)) = false := by simpa using e
        clear e
        go_wp2
        go_roundg (gk - 1)
        case measure => omega
        case rel => exact ⟨5, rfl, by omega, fun c hc => by
          rw [List.take_add_one] at hc
          rcases List.mem_append.1 hc with hc | hc
          · exact HA.out c hc
          · obtain rfl : c = 124 := by simpa [spn] using hc
            exact HE.out, rfl⟩
    · have e0 : wrap64 (((({ data := #[40, 41, 91, 93, 124, 42, 43, 63, 46, 92] } : ByteArray)[5]'(by decide)).toNat : Nat) : Int) = 42 := by decide +kernel
      by_cases e : (42 : Int) = (b : Int)
      · have HE := hid e
        have e' : ((42 : Int) == (b : Int)) = true := by simpa using e
        clear e
        go_wp2
        go_ret
        exact ⟨by rw [HQ.out, pln_no (c := 42) (by decide) HE.out]; rfl, rfl⟩
      · have HE := hid e
        have e' : ((42 : Int) == (b : Int)) = false := by simpa using e
        clear e
        go_wp2
        go_roundg (gk - 1)
        case measure => omega
        case rel => exact ⟨6, rfl, by omega, fun c hc => by
          rw [List.take_add_one] at hc
          rcases List.mem_append.1 hc with hc | hc
          · exact HA.out c hc
          · obtain rfl : c = 42 := by simpa [spn] using hc
            exact HE.out, rfl⟩
    · have e0 : wrap64 (((({ data := #[40, 41, 91, 93, 124, 42, 43, 63, 46, 92] } : ByteArray)[6]'(by decide)).toNat : Nat) : Int) = 43 := by decide +kernel
      by_cases e : (43 : Int) = (b : Int)
      · have HE := hid e
        have e' : ((43 : Int) == (b : Int)) = true := by simpa using e
        clear e
        go_wp2
        go_ret
        exact ⟨by rw [HQ.out, pln_no (c := 43) (by decide) HE.out]; rfl, rfl⟩
      · have HE := hid e
        have e' : ((43 : Int) == (b : Int)) = false := by simpa using e
        clear e
        go_wp2
        go_roundg (gk - 1)
        case measure => omega
        case rel => exact ⟨7, rfl, by omega, fun c hc => by
          rw [List.take_add_one] at hc
          rcases List.mem_append.1 hc with hc | hc
          · exact HA.out c hc
          · obtain rfl : c = 43 := by simpa [spn] using hc
            exact HE.out, rfl⟩
    · have e0 : wrap64 (((({ data := #[40, 41, 91, 93, 124, 42, 43, 63, 46, 92] } : ByteArray)[7]'(by decide)).toNat : Nat) : Int) = 63 := by decide +kernel
      by_cases e : (63 : Int) = (b : Int)
      · have HE := hid e
        have e' : ((63 : Int) == (b : Int)) = true := by simpa using e
        clear e
        go_wp2
        go_ret
        exact ⟨by rw [HQ.out, pln_no (c := 63) (by decide) HE.out]; rfl, rfl⟩
      · have HE := hid e
        have e' : ((63 : Int) == (b : Int)) = false := by simpa using e
        clear e
        go_wp2
        go_roundg (gk - 1)
        case measure => omega
        case rel => exact ⟨8, rfl, by omega, fun c hc => by
          rw [List.take_add_one] at hc
          rcases List.mem_append.1 hc with hc | hc
          · exact HA.out c hc
          · obtain rfl : c = 63 := by simpa [spn] using hc
            exact HE.out, rfl⟩
    · have e0 : wrap64 (((({ data := #[40, 41, 91, 93, 124, 42, 43, 63, 46, 92] } : ByteArray)[8]'(by decide)).toNat : Nat) : Int) = 46 := by decide +kernel
      by_cases e : (46 : Int) = (b : Int)
      · have HE := hid e
        have e' : ((46 : Int) == (b : Int)) = true := by simpa using e
        clear e
        go_wp2
        go_ret
        exact ⟨by rw [HQ.out, pln_no (c := 46) (by decide) HE.out]; rfl, rfl⟩
      · have HE := hid e
        have e' : ((46 : Int) == (b : Int)) = false := by simpa using e
        clear e
        go_wp2
        go_roundg (gk - 1)
        case measure => omega
        case rel => exact ⟨9, rfl, by omega, fun c hc => by
          rw [List.take_add_one] at hc
          rcases List.mem_append.1 hc with hc | hc
          · exact HA.out c hc
          · obtain rfl : c = 46 := by simpa [spn] using hc
            exact HE.out, rfl⟩
    · have e0 : wrap64 (((({ data := #[40, 41, 91, 93, 124, 42, 43, 63, 46, 92] } : ByteArray)[9]'(by decide)).toNat : Nat) : Int) = 92 := by decide +kernel
      by_cases e : (92 : Int) = (b : Int)
      · have HE := hid e
        have e' : ((92 : Int) == (b : Int)) = true := by simpa using e
        clear e
        go_wp2
        go_ret
        exact ⟨by rw [HQ.out, pln_no (c := 92) (by decide) HE.out]; rfl, rfl⟩
      · have HE := hid e
        have e' : ((92 : Int) == (b : Int)) = false := by simpa using e
        clear e
        go_wp2
        go_roundg (gk - 1)
        case measure => omega
        case rel => exact ⟨10, rfl, by omega, fun c hc => by
          rw [List.take_add_one] at hc
          rcases List.mem_append.1 hc with hc | hc
          · exact HA.out c hc
          · obtain rfl : c = 92 := by simpa [spn] using hc
            exact HE.out, rfl⟩
    · go_wp2
      go_ret
      exact ⟨by rw [HQ.out, pln_yes HB.out.1 HB.out.2 (fun c hc => HA.out c (by rw [List.take_of_length_le (by decide)]; exact hc))]; rfl, rfl⟩
set_option maxRecDepth 100000 in
set_option maxHeartbeats 4000000 in
theorem plain_true (b : Nat) (w : World) (h1 : 32 ≤ b) (h2 : b ≤ 126) :
    Calls Tryd.prog 87 #[.int .i64 (b : Int), .bool true] w fun e w' => e = .returned (.bool (pln b true)) ∧ w' = w := by
  have g1 : ¬ (b : Int) < 32 := by omega
  have g2 : ¬ (126 : Int) < (b : Int) := by omega
  have HB := hid (And.intro h1 h2)
  obtain ⟨q, hq⟩ : ∃ q, q = pln b true := ⟨_, rfl⟩
  rw [← hq]
  have HQ := hid hq
  clear hq h1 h2
  go_enter Tryd.func87, Tryd.ntmps87
  go_wp2_with fail
  go_loopg [6] 3 (fun k s6 wr => ∃ i : Nat, s6 = .int .i64 (i : Int) ∧ i + k = 3 ∧ (∀ c ∈ (spn true).take i, ¬ (c : Int) = (b : Int)) ∧ wr = w)
  case atStart => exact ⟨0, rfl, rfl, by simp, rfl⟩
  case round =>
    obtain ⟨i, rfl, hk, hall, rfl⟩ := hrel
    have HA := hid hall
    clear hall
    have hi : i = 0 ∨ i = 1 ∨ i = 2 ∨ i = 3 := by omega
    rcases hi with rfl | rfl | rfl | rfl
    · have e0 : wrap64 (((({ data := #[93, 92, 45] } : ByteArray)[0]'(by decide)).toNat : Nat) : Int) = 93 := by decide +kernel
      by_cases e : (93 : Int) = (b : Int)
      · have HE := hid e
        have e' : ((93 : Int) == (b : Int)) = true := by simpa using e
        clear e
        go_wp2
        go_ret
        exact ⟨by rw [HQ.out, pln_no (c := 93) (by decide) HE.out]; rfl, rfl⟩
      · have HE := hid e
        have e' : ((93 : Int) == (b : Int)) = false := by simpa using e
        clear e
        go_wp2
        go_roundg (gk - 1)
        case measure => omega
        case rel => exact ⟨1, rfl, by omega, fun c hc => by
          rw [List.take_add_one] at hc
          rcases List.mem_append.1 hc with hc | hc
          · exact HA.out c hc
          · obtain rfl : c = 93 := by simpa [spn] using hc
            exact HE.out, rfl⟩
    · have e0 : wrap64 (((({ data := #[93, 92, 45] } : ByteArray)[1]'(by decide)).toNat : Nat) : Int) = 92 := by decide +kernel
      by_cases e : (92 : Int) = (b : Int)
      · have HE := hid e
        have e' : ((92 : Int) == (b : Int)) = true := by simpa using e
        clear e
        go_wp2
        go_ret
        exact ⟨by rw [HQ.out, pln_no (c := 92) (by decide) HE.out]; rfl, rfl⟩
      · have HE := hid e
        have e' : ((92 : Int) == (b : Int)) = false := by simpa using e
        clear e
        go_wp2
        go_roundg (gk - 1)
        case measure => omega
        case rel => exact ⟨2, rfl, by omega, fun c hc => by
          rw [List.take_add_one] at hc
          rcases List.mem_append.1 hc with hc | hc
          · exact HA.out c hc
          · obtain rfl : c = 92 := by simpa [spn] using hc
            exact HE.out, rfl⟩
    · have e0 : wrap64 (((({ data := #[93, 92, 45] } : ByteArray)[2]'(by decide)).toNat : Nat) : Int) = 45 := by decide +kernel
      by_cases e : (45 : Int) = (b : Int)
      · have HE := hid e
        have e' : ((45 : Int) == (b : Int)) = true := by simpa using e
        clear e
        go_wp2
        go_ret
        exact ⟨by rw [HQ.out, pln_no (c := 45) (by decide) HE.out]; rfl, rfl⟩
      · have HE := hid e
        have e' : ((45 : Int) == (b : Int)) = false := by simpa using e
        clear e
        go_wp2
        go_roundg (gk - 1)
        case measure => omega
        case rel => exact ⟨3, rfl, by omega, fun c hc => by
          rw [List.take_add_one] at hc
          rcases List.mem_append.1 hc with hc | hc
          · exact HA.out c hc
          · obtain rfl : c = 45 := by simpa [spn] using hc
            exact HE.out, rfl⟩
    · go_wp2
      go_ret
      exact ⟨by rw [HQ.out, pln_yes HB.out.1 HB.out.2 (fun c hc => HA.out c (by rw [List.take_of_length_le (by decide)]; exact hc))]; rfl, rfl⟩
set_option maxRecDepth 100000 in
set_option maxHeartbeats 4000000 in
theorem plain_out (b : Int) (br : Bool) (w : World) (h : b < 32 ∨ 126 < b) :
    Calls Tryd.prog 87 #[.int .i64 b, .bool br] w fun e w' => e = .returned (.bool false) ∧ w' = w := by
  by_cases h1 : b < 32
  · go_enter Tryd.func87, Tryd.ntmps87
    go_wp2
    go_ret
    exact ⟨rfl, rfl⟩
  · have h2 : 126 < b := by omega
    go_enter Tryd.func87, Tryd.ntmps87
    go_wp2
    go_ret
    exact ⟨rfl, rfl⟩
theorem plain_any (b : Nat) (br : Bool) (w : World) :
    Calls Tryd.prog 87 #[.int .i64 (b : Int), .bool br] w fun e w' => e = .returned (.bool (pln b br)) ∧ w' = w := by
  by_cases h : 32 ≤ b ∧ b ≤ 126
  · cases br
    · exact plain_false b w h.1 h.2
    · exact plain_true b w h.1 h.2
  · have : pln b br = false := by
      unfold pln
      by_cases h1 : 32 ≤ b
      · have : ¬ b ≤ 126 := fun h2 => h ⟨h1, h2⟩
        simp [this]
      · simp [h1]
    rw [this]
    exact plain_out _ br w (by omega)
theorem conv_byte {W : World} {p : Nat} {b : Nat} (hb : b < 256) (h : W.heap[p]? = some (.cells #[.int .u8 (b : Int)] 5 (0, 0))) : (convert 39 9 (.slice (some ⟨p, 0, none⟩) 1 1)).run Tryd.prog W = .ok (.string ⟨#[UInt8.ofNat b]⟩) W :=
  run_convert_bytes_back (P := Tryd.prog) W 39 9 5 ⟨p, 0, none⟩ 1 [UInt8.ofNat b] Tryd.underlying39 Tryd.underlying5 Tryd.underlying9 (fun j hj => by
    obtain rfl : j = 0 := by simpa using hj
    rw [add_at]
    simp [World.cell?, h]; omega)
/-- What written writes. -/
def wrn (b : Nat) (br : Bool) : List UInt8 := if b = 10 then [92, 110] else if b = 9 then [92, 116] else if pln b br = false ∨ (br = true ∧ b = 94) then [92, UInt8.ofNat b] else [UInt8.ofNat b]
set_option maxRecDepth 100000 in
set_option maxHeartbeats 4000000 in
theorem written_any (b : Nat) (br : Bool) (w : World) (hb : b < 256) :
    Calls Tryd.prog 65 #[.int .i64 (b : Int), .bool br] w fun e w' => e = .returned (.string ⟨(wrn b br).toArray⟩) ∧ Below w.heap.size w w' := by
  have CP := hid (fun V => plain_any b br V)
  by_cases h10 : b = 10
  · subst h10
    clear CP
    go_enter Tryd.func65, Tryd.ntmps65
    go_wp2
    go_ret
    exact ⟨rfl, Below.refl _ _⟩
  by_cases h9 : b = 9
  · subst h9
    clear CP
    go_enter Tryd.func65, Tryd.ntmps65
    go_wp2
    go_ret
    exact ⟨rfl, Below.refl _ _⟩
  have g10 : ((b : Int) == 10) = false := by simp; omega
  have g9 : ((b : Int) == 9) = false := by simp; omega
  have hw8 : IntKind.u8.wrap (b : Int) = (b : Int) := by rw [IntKind.wrap_u8]; omega
  have hcv := hid (conv_byte hb (alloc_new w (.cells #[.int .u8 (b : Int)] 5)))
  have HN := hid (And.intro h10 h9)
  by_cases h94 : b = 94 ∧ br = true
  · obtain ⟨rfl, rfl⟩ := h94
    rw [show pln 94 true = true by decide +kernel] at CP
    clear g10 g9 hw8 h10 h9 HN
    go_enter Tryd.func65, Tryd.ntmps65
    go_wp2_with fail
    refine (CP.out _).mono ?_
    rintro e W ⟨rfl, rfl⟩
    have hc : (convert 39 9 (.slice (some ⟨W.heap.size, 0, none⟩) 1 1)).run Tryd.prog (W.alloc (.cells #[.int .u8 94] 5)) = .ok (.string { data := #[94] }) (W.alloc (.cells #[.int .u8 94] 5)) := conv_byte (b := 94) (by decide) (alloc_new W (.cells #[.int .u8 94] 5))
    go_wp2
    go_ret
    exact ⟨rfl, bel1 _ _⟩
  obtain ⟨p, hp⟩ : ∃ p, p = pln b br := ⟨_, rfl⟩
  rw [← hp] at CP
  have HP := hid (And.intro hp h94)
  clear hp h10 h9 h94
  cases p
  · go_enter Tryd.func65, Tryd.ntmps65
    go_wp2_with fail
    refine (CP.out _).mono ?_
    rintro e W ⟨rfl, rfl⟩
    have hc := hcv.out
    go_wp2
    go_ret
    refine ⟨?_, bel1 _ _⟩
    have : wrn b br = [92, UInt8.ofNat b] := by
      unfold wrn
      rw [if_neg HN.out.1, if_neg HN.out.2, if_pos (.inl HP.out.1.symm)]
    rw [this]
    show Ending.returned (.string ({ data := #[92] } ++ { data := #[UInt8.ofNat b] })) = _
    congr 2
  · cases br
    · go_enter Tryd.func65, Tryd.ntmps65
      go_wp2_with fail
      refine (CP.out _).mono ?_
      rintro e W ⟨rfl, rfl⟩
      have hc := hcv.out
      go_wp2
      go_ret
      refine ⟨?_, bel1 _ _⟩
      have : wrn b false = [UInt8.ofNat b] := by
        unfold wrn
        rw [if_neg HN.out.1, if_neg HN.out.2, if_neg (by rw [← HP.out.1]; simp)]
      rw [this]; rfl
    · have g94 : ((b : Int) == 94) = false := by have := HP.out.2; simp at this ⊢; omega
      go_enter Tryd.func65, Tryd.ntmps65
      go_wp2_with fail
      refine (CP.out _).mono ?_
      rintro e W ⟨rfl, rfl⟩
      have hc := hcv.out
      go_wp2
      go_ret
      refine ⟨?_, bel1 _ _⟩
      have : wrn b true = [UInt8.ofNat b] := by
        unfold wrn
        rw [if_neg HN.out.1, if_neg HN.out.2, if_neg (by rw [← HP.out.1]; intro h; rcases h with h | h; exact absurd h (by simp); exact HP.out.2 ⟨h.2, by trivial⟩)]
      rw [this]; rfl
end Go.Proofs.YtednoideboeehaaDoor
end
section
set_option linter.unusedSimpArgs false
set_option linter.unusedVariables false
namespace Go.Proofs.YtednoideboeehaaDoor
open Go.RowKit Bs Rg Go.Frame

/-- The reference's parser: its text, what is left of it, whether it went wrong. -/
structure RS (pb : Nat) (s : ByteArray) (W : World) (l : List UInt8) (bad : Bool) : Prop where
  box : W.heap[pb]? = some (.cells #[.string s, .int .i64 ((s.size - l.length : Nat) : Int), .bool bad] 56 (0, 0))
  rest : s.data.toList.drop (s.size - l.length) = l
  le : l.length ≤ s.size
  sz : s.size ≤ 1000000
theorem RS.below {pb : Nat} {s : ByteArray} {W W' : World} {l : List UInt8} {bad : Bool} (h : RS pb s W l bad) (hb : Below W.heap.size W W') : RS pb s W' l bad := ⟨(hb.block _ (heap_lt h.box)).trans h.box, h.rest, h.le, h.sz⟩
theorem RS.head {pb : Nat} {s : ByteArray} {W : World} {b : UInt8} {t : List UInt8} {bad : Bool} (h : RS pb s W (b :: t) bad) : ∃ hp : s.size - (t.length + 1) < s.size, s[s.size - (t.length + 1)] = b := by
  have h1 := h.le
  simp only [List.length_cons] at h1
  have hp : s.size - (t.length + 1) < s.size := by omega
  refine ⟨hp, ?_⟩
  have h2 := congrArg (fun l => l[0]?) h.rest
  simp only [List.length_cons, List.getElem?_drop, Nat.add_zero, List.getElem?_cons_zero] at h2
  rw [List.getElem?_eq_getElem (show s.size - (t.length + 1) < s.data.toList.length from hp)] at h2
  exact Option.some.inj h2
/-- One byte further. -/
theorem RS.step {pb : Nat} {s : ByteArray} {W : World} {b : UInt8} {t : List UInt8} {bad : Bool} (h : RS pb s W (b :: t) bad) : RS pb s (W.setCell ⟨pb, 1, none⟩ (.int .i64 ((s.size - t.length : Nat) : Int))) t bad := by
  have h1 := h.le
  simp only [List.length_cons] at h1
  refine ⟨(blk_put h.box).trans rfl, ?_, by omega, h.sz⟩
  have h2 := h.rest
  simp only [List.length_cons] at h2
  rw [show s.size - t.length = s.size - (t.length + 1) + 1 by omega, ← List.drop_drop, h2]
  rfl
theorem RS.next {pb : Nat} {s : ByteArray} {W : World} {b : UInt8} {t : List UInt8} {bad : Bool} (h : RS pb s W (b :: t) bad) : ((s.size - (b :: t).length : Nat) : Int) + 1 = ((s.size - t.length : Nat) : Int) := by
  have h1 := h.le
  simp only [List.length_cons] at h1 ⊢
  omega
/-- It went wrong here. -/
theorem RS.fail {pb : Nat} {s : ByteArray} {W : World} {l : List UInt8} {bad : Bool} (h : RS pb s W l bad) : RS pb s (W.setCell ⟨pb, 2, none⟩ (.bool true)) l true :=
  ⟨(blk_put h.box).trans rfl, h.rest, h.le, h.sz⟩
theorem RS.cells {pb : Nat} {s : ByteArray} {W : World} {l : List UInt8} {bad : Bool} (h : RS pb s W l bad) : W.cell? ⟨pb, 0, none⟩ = some (.string s) ∧ W.cell? ⟨pb, 1, none⟩ = some (.int .i64 ((s.size - l.length : Nat) : Int)) ∧ W.cell? ⟨pb, 2, none⟩ = some (.bool bad) := Go.Frame.cells3 h.box
/-- The next byte, or -1. -/
def nx : List UInt8 → Int
  | [] => -1
  | b :: _ => (b.toNat : Int)
set_option maxRecDepth 100000 in
set_option maxHeartbeats 4000000 in
theorem next_any (pb : Nat) (s : ByteArray) (w : World) (l : List UInt8) (bad : Bool) (h : RS pb s w l bad) :
    Calls Tryd.prog 56 #[.pointer (some ⟨pb, 0, none⟩)] w fun e w' => e = .returned (.int .i64 (nx l)) ∧ Below w.heap.size w w' := by
  obtain ⟨p, hp⟩ : ∃ p, p = s.size - l.length := ⟨_, rfl⟩
  have hc := h.cells
  rw [← hp] at hc
  have HC := hid (And.intro (heap_lt h.box) hc)
  have hsz := h.sz
  cases l with
  | nil =>
    have hge : (s.size : Int) ≤ (p : Int) := by rw [hp]; simp
    clear h hc hp
    go_enter Tryd.func56, Tryd.ntmps56
    go_upto_region 1 with fail
    refine wp_region_below (by kernel_rfl) (by kernel_rfl) ?_
    intro X' f _ hf hs
    have k0 := fun x => (World.cell?_of_block (a := ⟨pb, 0, none⟩) ((hf.out x).block _ HC.out.1)).trans HC.out.2.1
    have k1 := fun x => (World.cell?_of_block (a := ⟨pb, 1, none⟩) ((hf.out x).block _ HC.out.1)).trans HC.out.2.2.1
    repeat (go_big_quiet_step (first | fail))
    refine wpQuiet_nil ?_
    intro w' hw'
    clear k0 k1 hf hs
    go_wp2
    go_ret
    exact ⟨rfl, hw'⟩
  | cons b t =>
    obtain ⟨hlt, hb⟩ := h.head
    simp only [List.length_cons] at hp
    have hlt2 : p < s.size := by rw [hp]; exact hlt
    have hb2 : s[p] = b := by subst hp; exact hb
    have hge : ¬ (s.size : Int) ≤ (p : Int) := by omega
    have hw64 : wrap64 (s[p].toNat : Int) = (s[p].toNat : Int) := by have := s[p].toNat_lt; unfold wrap64; omega
    have HB := hid hb2
    have hlt3 : (p : Int) < (s.size : Int) := by omega
    clear h hc hp hb hlt hb2
    go_enter Tryd.func56, Tryd.ntmps56
    go_upto_region 1 with fail
    refine wp_region_below (by kernel_rfl) (by kernel_rfl) ?_
    intro X' f _ hf hs
    have k0 := fun x => (World.cell?_of_block (a := ⟨pb, 0, none⟩) ((hf.out x).block _ HC.out.1)).trans HC.out.2.1
    have k1 := fun x => (World.cell?_of_block (a := ⟨pb, 1, none⟩) ((hf.out x).block _ HC.out.1)).trans HC.out.2.2.1
    repeat (go_big_quiet_step (first | fail))
    refine wpQuiet_nil ?_
    intro w2 hw2
    have H2 := hid hw2
    clear k0 k1 hf hs hw2
    go_wp2_with fail
    refine wp_region_below (by kernel_rfl) (by kernel_rfl) ?_
    intro X' f _ hf hs
    have k0 := fun x => (World.cell?_of_block (a := ⟨pb, 0, none⟩) ((H2.out.trans ((hf.out x).mono H2.out.size)).block _ HC.out.1)).trans HC.out.2.1
    have k1 := fun x => (World.cell?_of_block (a := ⟨pb, 1, none⟩) ((H2.out.trans ((hf.out x).mono H2.out.size)).block _ HC.out.1)).trans HC.out.2.2.1
    repeat (go_big_quiet_step (first | fail))
    refine wpQuiet_nil ?_
    intro w3 hw3
    have H3 := hid hw3
    clear k0 k1 hf hs hw3
    go_wp2
    go_ret
    exact ⟨by rw [nx, ← HB.out]; show Ending.returned (.int .i64 (wrap64 (s[p].toNat : Int))) = _; rw [hw64], H2.out.trans (H3.out.mono H2.out.size)⟩
set_option maxRecDepth 100000 in
set_option maxHeartbeats 4000000 in
theorem letter_any (b : UInt8) (w : World) : Calls Tryd.prog 115 #[.int .i64 (b.toNat : Int)] w fun e w' => e = .returned (.bool (letter b)) ∧ w' = w := by
  obtain ⟨n, hn⟩ : ∃ n, n = b.toNat := ⟨_, rfl⟩
  have hl : letter b = ((decide (48 ≤ n) && decide (n ≤ 57)) || ((decide (65 ≤ n) && decide (n ≤ 90)) || (decide (97 ≤ n) && decide (n ≤ 122)))) := by
    rw [hn]; unfold letter
    simp only [UInt8.le_iff_toNat_le]; rfl
  rw [← hn]
  obtain ⟨q, hq⟩ : ∃ q, q = letter b := ⟨_, rfl⟩
  rw [← hq]
  rw [hl] at hq
  clear hl hn
  have hc : n < 48 ∨ (48 ≤ n ∧ n ≤ 57) ∨ (57 < n ∧ n < 65) ∨ (65 ≤ n ∧ n ≤ 90) ∨ (90 < n ∧ n < 97) ∨ (97 ≤ n ∧ n ≤ 122) ∨ 122 < n := by omega
  rcases hc with h | h | h | h | h | h | h
  all_goals
    first | (have hq2 : q = true := by (rw [hq]; simp; omega)) | (have hq2 : q = false := by (rw [hq]; simp; omega))
    clear hq
    subst hq2
    have a1 : ((48 : Int) ≤ (n : Int)) = (48 ≤ n) := by simp; omega
    have a2 : ((n : Int) ≤ 57) = (n ≤ 57) := by simp; omega
    have a3 : ((65 : Int) ≤ (n : Int)) = (65 ≤ n) := by simp; omega
    have a4 : ((n : Int) ≤ 90) = (n ≤ 90) := by simp; omega
    have a5 : ((97 : Int) ≤ (n : Int)) = (97 ≤ n) := by simp; omega
    have a6 : ((n : Int) ≤ 122) = (n ≤ 122) := by simp; omega
    first | (have b1 : (48 : Int) ≤ (n : Int) := by omega) | (have b1 : ¬ (48 : Int) ≤ (n : Int) := by omega)
    first | (have b2 : (n : Int) ≤ 57 := by omega) | (have b2 : ¬ (n : Int) ≤ 57 := by omega)
    first | (have b3 : (65 : Int) ≤ (n : Int) := by omega) | (have b3 : ¬ (65 : Int) ≤ (n : Int) := by omega)
    first | (have b4 : (n : Int) ≤ 90 := by omega) | (have b4 : ¬ (n : Int) ≤ 90 := by omega)
    first | (have b5 : (97 : Int) ≤ (n : Int) := by omega) | (have b5 : ¬ (97 : Int) ≤ (n : Int) := by omega)
    first | (have b6 : (n : Int) ≤ 122 := by omega) | (have b6 : ¬ (n : Int) ≤ 122 := by omega)
    clear a1 a2 a3 a4 a5 a6 h
    go_enter Tryd.func115, Tryd.ntmps115
    go_wp2
    go_ret
    exact ⟨rfl, rfl⟩
end Go.Proofs.YtednoideboeehaaDoor
end
