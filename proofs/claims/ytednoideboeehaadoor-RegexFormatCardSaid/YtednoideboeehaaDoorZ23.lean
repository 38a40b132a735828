/-
  Nested groups; contract: nested.
  Contracts: the reference's Has, With, Not, writable, Printable.
  Contract: the reference's Printable.
  Plain maths: where a match may end (namespace Rg; no program).
  Rows of bools; contract: ends, but for kids.
-/
import Derived.Test.YtednoideboeehaaDoorZ22
import Derived.Test.YtednoideboeehaaDoorZ06
import Derived.Test.YtednoideboeehaaDoorZ09
import Derived.Test.YtednoideboeehaaDoorZ10
import Derived.Test.YtednoideboeehaaDoorZ04
import Derived.Test.YtednoideboeehaaDoorZ03
import Derived.Test.YtednoideboeehaaDoorZ01
import Derived.Test.YtednoideboeehaaDoorZ02
import Derived.Laws.CopyRow
import Derived.Laws.CopyOwn
section
set_option linter.unusedSimpArgs false
set_option linter.unusedVariables false
namespace Go.Proofs.YtednoideboeehaaDoor
open Go.RowKit Bs Rg Go.Frame

def nest : Nat → List UInt8
  | 0 => [97]
  | n + 1 => 40 :: (nest n ++ [41, 42])
def stn : Nat → Rx
  | 0 => setx (one 97)
  | n + 1 => star (stn n)
theorem nest_len : ∀ n, (nest n).length = 3 * n + 1
  | 0 => rfl
  | n + 1 => by rw [nest]; simp [nest_len n]; omega
theorem bs_next (n : Nat) : (⟨#[40]⟩ ++ ⟨(nest n).toArray⟩ ++ ⟨#[41, 42]⟩ : ByteArray) = ⟨(nest (n + 1)).toArray⟩ := by
  apply ByteArray.ext
  simp [nest]
theorem nest_size (n : Nat) : (⟨(nest n).toArray⟩ : ByteArray).size = 3 * n + 1 := by
  show (nest n).toArray.size = _
  simp [nest_len]
theorem stn_ok : ∀ k : Fin 30, fits (stn k) 30 = true ∧ mtc (stn k) [97] = true ∧ parts (stn k) ≤ 100 := by decide +kernel
def pn (k : Nat) : Rx × Nat × Nat := if k + 1 > 30 then (zr, 0, 11) else (stn k, 0, 0)
theorem pn0 : parseR (nest 0) = pn 0 := by kernel_rfl
theorem pn1 : parseR (nest 1) = pn 1 := by kernel_rfl
theorem pn2 : parseR (nest 2) = pn 2 := by kernel_rfl
theorem pn3 : parseR (nest 3) = pn 3 := by kernel_rfl
theorem pn4 : parseR (nest 4) = pn 4 := by kernel_rfl
theorem pn5 : parseR (nest 5) = pn 5 := by kernel_rfl
theorem pn6 : parseR (nest 6) = pn 6 := by kernel_rfl
theorem pn7 : parseR (nest 7) = pn 7 := by kernel_rfl
theorem pn8 : parseR (nest 8) = pn 8 := by kernel_rfl
theorem pn9 : parseR (nest 9) = pn 9 := by kernel_rfl
theorem pn10 : parseR (nest 10) = pn 10 := by kernel_rfl
theorem pn11 : parseR (nest 11) = pn 11 := by kernel_rfl
theorem pn12 : parseR (nest 12) = pn 12 := by kernel_rfl
theorem pn13 : parseR (nest 13) = pn 13 := by kernel_rfl
theorem pn14 : parseR (nest 14) = pn 14 := by kernel_rfl
theorem pn15 : parseR (nest 15) = pn 15 := by kernel_rfl
theorem pn16 : parseR (nest 16) = pn 16 := by kernel_rfl
theorem pn17 : parseR (nest 17) = pn 17 := by kernel_rfl
theorem pn18 : parseR (nest 18) = pn 18 := by kernel_rfl
theorem pn19 : parseR (nest 19) = pn 19 := by kernel_rfl
theorem pn20 : parseR (nest 20) = pn 20 := by kernel_rfl
theorem pn21 : parseR (nest 21) = pn 21 := by kernel_rfl
theorem pn22 : parseR (nest 22) = pn 22 := by kernel_rfl
theorem pn23 : parseR (nest 23) = pn 23 := by kernel_rfl
theorem pn24 : parseR (nest 24) = pn 24 := by kernel_rfl
theorem pn25 : parseR (nest 25) = pn 25 := by kernel_rfl
theorem pn26 : parseR (nest 26) = pn 26 := by kernel_rfl
theorem pn27 : parseR (nest 27) = pn 27 := by kernel_rfl
theorem pn28 : parseR (nest 28) = pn 28 := by kernel_rfl
theorem pn29 : parseR (nest 29) = pn 29 := by kernel_rfl
theorem pn30 : parseR (nest 30) = pn 30 := by kernel_rfl
theorem pn31 : parseR (nest 31) = pn 31 := by kernel_rfl
theorem pn32 : parseR (nest 32) = pn 32 := by kernel_rfl
theorem pn33 : parseR (nest 33) = pn 33 := by kernel_rfl
theorem pn34 : parseR (nest 34) = pn 34 := by kernel_rfl
theorem pn35 : parseR (nest 35) = pn 35 := by kernel_rfl
theorem pn36 : parseR (nest 36) = pn 36 := by kernel_rfl
theorem pn37 : parseR (nest 37) = pn 37 := by kernel_rfl
theorem pn38 : parseR (nest 38) = pn 38 := by kernel_rfl
theorem pn39 : parseR (nest 39) = pn 39 := by kernel_rfl
theorem parse_nest (k : Nat) (hk : k < 40) : parseR (nest k) = pn k := by
  have h : k = 0 ∨ k = 1 ∨ k = 2 ∨ k = 3 ∨ k = 4 ∨ k = 5 ∨ k = 6 ∨ k = 7 ∨ k = 8 ∨ k = 9 ∨ k = 10 ∨ k = 11 ∨ k = 12 ∨ k = 13 ∨ k = 14 ∨ k = 15 ∨ k = 16 ∨ k = 17 ∨ k = 18 ∨ k = 19 ∨ k = 20 ∨ k = 21 ∨ k = 22 ∨ k = 23 ∨ k = 24 ∨ k = 25 ∨ k = 26 ∨ k = 27 ∨ k = 28 ∨ k = 29 ∨ k = 30 ∨ k = 31 ∨ k = 32 ∨ k = 33 ∨ k = 34 ∨ k = 35 ∨ k = 36 ∨ k = 37 ∨ k = 38 ∨ k = 39 := by omega
  rcases h with rfl | rfl | rfl | rfl | rfl | rfl | rfl | rfl | rfl | rfl | rfl | rfl | rfl | rfl | rfl | rfl | rfl | rfl | rfl | rfl | rfl | rfl | rfl | rfl | rfl | rfl | rfl | rfl | rfl | rfl | rfl | rfl | rfl | rfl | rfl | rfl | rfl | rfl | rfl | rfl
  · exact pn0
  · exact pn1
  · exact pn2
  · exact pn3
  · exact pn4
  · exact pn5
  · exact pn6
  · exact pn7
  · exact pn8
  · exact pn9
  · exact pn10
  · exact pn11
  · exact pn12
  · exact pn13
  · exact pn14
  · exact pn15
  · exact pn16
  · exact pn17
  · exact pn18
  · exact pn19
  · exact pn20
  · exact pn21
  · exact pn22
  · exact pn23
  · exact pn24
  · exact pn25
  · exact pn26
  · exact pn27
  · exact pn28
  · exact pn29
  · exact pn30
  · exact pn31
  · exact pn32
  · exact pn33
  · exact pn34
  · exact pn35
  · exact pn36
  · exact pn37
  · exact pn38
  · exact pn39
set_option maxRecDepth 100000 in
set_option maxHeartbeats 4000000 in
theorem nested_any (n : Nat) (w : World) (hn : n < 40) :
    Calls Tryd.prog 27 #[.int .i64 (n : Int)] w fun e w' => e = .returned (.string ⟨(nest n).toArray⟩) ∧ Below w.heap.size w w' := by
  go_enter Tryd.func27, Tryd.ntmps27
  go_wp2_with fail
  go_loopg [3, 4] n (fun k s3 s4 wr => ∃ i : Nat, s3 = .string ⟨(nest i).toArray⟩ ∧ s4 = .int .i64 (i : Int) ∧ i + k = n ∧ wr = w)
  case atStart => exact ⟨0, rfl, rfl, by omega, rfl⟩
  case round =>
    obtain ⟨i, rfl, rfl, hk, rfl⟩ := hrel
    by_cases hlt : i < n
    · have hlt' : (i : Int) < (n : Int) := by omega
      have hsz := nest_size i
      have h1 : ¬ 9223372036854775807 < (⟨#[40]⟩ : ByteArray).size + (⟨(nest i).toArray⟩ : ByteArray).size := by rw [hsz]; show ¬ 9223372036854775807 < 1 + _; omega
      have h2 : ¬ 9223372036854775807 < ((⟨#[40]⟩ ++ ⟨(nest i).toArray⟩ : ByteArray)).size + (⟨#[41, 42]⟩ : ByteArray).size := by
        rw [ByteArray.size_append, hsz]; show ¬ 9223372036854775807 < 1 + _ + 2; omega
      have E := hid (bs_next i)
      go_wp2
      go_roundg (gk - 1)
      case measure => omega
      case rel => exact ⟨i + 1, by rw [← E.out], by go_num, by omega, rfl⟩
    · have hin : ¬ (i : Int) < (n : Int) := by omega
      obtain rfl : i = n := by omega
      go_wp2
      go_ret
      exact ⟨rfl, Below.refl _ _⟩
end Go.Proofs.YtednoideboeehaaDoor
end
section
set_option linter.unusedSimpArgs false
set_option linter.unusedVariables false
namespace Go.Proofs.YtednoideboeehaaDoor
open Go.RowKit Bs Rg Go.Frame
attribute [local go_sem] eq_zero eq_set

set_option maxRecDepth 100000 in
set_option maxHeartbeats 2000000 in
theorem rHas_any (p : Nat → Bool) (b : Nat) (w : World) (hb : b < 256) :
    Calls Tryd.prog 57 #[sv p, .int .i64 (b : Int)] w fun e w' => e = .returned (.bool (p b)) ∧ Below w.heap.size w w' := by
  obtain ⟨k, j, hk, hj, rfl⟩ : ∃ k j, k < 4 ∧ j < 64 ∧ b = 64 * k + j := ⟨b / 64, b % 64, by omega, by omega, by omega⟩
  obtain ⟨b, hb'⟩ : ∃ b, b = 64 * k + j := ⟨_, rfl⟩
  have q1 : (b : Int) / 64 = (k : Int) := by omega
  have q2 : (b : Int) % 64 = (j : Int) := by omega
  have q3 : b / 64 = k := by omega
  have q4 : b % 64 = j := by omega
  have E := has_bit (p := p) (k := k) hj
  rw [← hb'] at E ⊢
  clear hb' hb
  unfold sv
  have hk4 : k = 0 ∨ k = 1 ∨ k = 2 ∨ k = 3 := by omega
  cases hp : p b
  all_goals (
    rw [hp] at E
    simp only [Bool.toNat_false, Bool.toNat_true, Int.natCast_zero, Int.natCast_one] at E
    clear hp
    rcases hk4 with rfl | rfl | rfl | rfl
    all_goals (
      go_enter Tryd.func57, Tryd.ntmps57
      go_wp2
      go_ret
      exact ⟨rfl, (Below.refl _ _).alloc (Nat.le_refl _) _⟩))
set_option maxRecDepth 100000 in
set_option maxHeartbeats 2000000 in
theorem rWith_any (p : Nat → Bool) (b : Nat) (w : World) (hb : b < 256) :
    Calls Tryd.prog 86 #[sv p, .int .i64 (b : Int)] w fun e w' => e = .returned (sv (add1 p b)) ∧ Below w.heap.size w w' := by
  obtain ⟨k, j, hk, hj, rfl⟩ : ∃ k j, k < 4 ∧ j < 64 ∧ b = 64 * k + j := ⟨b / 64, b % 64, by omega, by omega, by omega⟩
  obtain ⟨b, hb'⟩ : ∃ b, b = 64 * k + j := ⟨_, rfl⟩
  have q1 : (b : Int) / 64 = (k : Int) := by omega
  have q2 : (b : Int) % 64 = (j : Int) := by omega
  have q3 : b / 64 = k := by omega
  have q4 : b % 64 = j := by omega
  have H : ∀ k' : Nat, k' ≠ k → wd (add1 p b) k' = wd p k' := fun k' h => by rw [hb']; exact wd_add_other p hj h
  have E := or_pow (p := p) (k := k) hj
  rw [← hb'] at E ⊢
  clear hb' hb
  unfold sv
  have hk4 : k = 0 ∨ k = 1 ∨ k = 2 ∨ k = 3 := by omega
  rcases hk4 with rfl | rfl | rfl | rfl
  · rw [H 1 (by decide), H 2 (by decide), H 3 (by decide)]
    have H' := hid H; clear H
    go_enter Tryd.func86, Tryd.ntmps86
    go_wp2
    refine bodyPost_ret (v := .agg #[.int .u64 (wd (add1 p b) 0 : Int), .int .u64 (wd p 1 : Int), .int .u64 (wd p 2 : Int), .int .u64 (wd p 3 : Int)]) ?_ rfl ⟨rfl, ?_⟩
    · simp [results, Tryd.results86, go_sem]
    · exact ((Below.refl _ _).alloc (Nat.le_refl _) _).alloc (by simp) _
  · rw [H 0 (by decide), H 2 (by decide), H 3 (by decide)]
    have H' := hid H; clear H
    go_enter Tryd.func86, Tryd.ntmps86
    go_wp2
    refine bodyPost_ret (v := .agg #[.int .u64 (wd p 0 : Int), .int .u64 (wd (add1 p b) 1 : Int), .int .u64 (wd p 2 : Int), .int .u64 (wd p 3 : Int)]) ?_ rfl ⟨rfl, ?_⟩
    · simp [results, Tryd.results86, go_sem]
    · exact ((Below.refl _ _).alloc (Nat.le_refl _) _).alloc (by simp) _
  · rw [H 0 (by decide), H 1 (by decide), H 3 (by decide)]
    have H' := hid H; clear H
    go_enter Tryd.func86, Tryd.ntmps86
    go_wp2
    refine bodyPost_ret (v := .agg #[.int .u64 (wd p 0 : Int), .int .u64 (wd p 1 : Int), .int .u64 (wd (add1 p b) 2 : Int), .int .u64 (wd p 3 : Int)]) ?_ rfl ⟨rfl, ?_⟩
    · simp [results, Tryd.results86, go_sem]
    · exact ((Below.refl _ _).alloc (Nat.le_refl _) _).alloc (by simp) _
  · rw [H 0 (by decide), H 1 (by decide), H 2 (by decide)]
    have H' := hid H; clear H
    go_enter Tryd.func86, Tryd.ntmps86
    go_wp2
    refine bodyPost_ret (v := .agg #[.int .u64 (wd p 0 : Int), .int .u64 (wd p 1 : Int), .int .u64 (wd p 2 : Int), .int .u64 (wd (add1 p b) 3 : Int)]) ?_ rfl ⟨rfl, ?_⟩
    · simp [results, Tryd.results86, go_sem]
    · exact ((Below.refl _ _).alloc (Nat.le_refl _) _).alloc (by simp) _

set_option maxRecDepth 100000 in
set_option maxHeartbeats 4000000 in
theorem rNot_any (p : Nat → Bool) (w : World) :
    Calls Tryd.prog 38 #[sv p] w fun e w' => e = .returned (sv (fun x => !p x)) ∧ Below w.heap.size w w' := by
  obtain ⟨g, hg⟩ : ∃ g : Nat → Bool, g = fun x => !p x := ⟨_, rfl⟩
  have E := hid (show ∀ k, bits .xor .u64 IntKind.u64.max (wd p k : Int) = (wd g k : Int) from fun k => by rw [hg]; exact not_wd p k)
  rw [← hg]
  clear hg
  obtain ⟨W, hW⟩ : ∃ W, W = (w.alloc (.cells #[.int .u64 (wd (p) 0 : Int), .int .u64 (wd (p) 1 : Int), .int .u64 (wd (p) 2 : Int), .int .u64 (wd (p) 3 : Int)] 24)).alloc zset := ⟨_, rfl⟩
  have HX := hid (by have := Go.Frame.two w (.cells #[.int .u64 (wd (p) 0 : Int), .int .u64 (wd (p) 1 : Int), .int .u64 (wd (p) 2 : Int), .int .u64 (wd (p) 3 : Int)] 24) zset; rw [← hW] at this; exact this)
  have HW := hid hW
  unfold zset at hW
  unfold sv
  go_enter Tryd.func38, Tryd.ntmps38
  go_wp2_with fail
  rw [← hW]
  clear hW
  go_loopg [3] 4 (fun k sl wr => ∃ i : Nat, sl = .int .i64 i ∧ i + k = 4 ∧ SB wr w.heap.size (mix g p i) ∧ SB wr (w.heap.size + 1) (fun _ => false) ∧ Below w.heap.size w wr)
  case atStart => exact ⟨0, rfl, rfl, SB_congr (fun x _ => (mix_zero g p x).symm) HX.out.1, sb_zero HX.out.2.1, HX.out.2.2.1⟩
  case round =>
    obtain ⟨i, rfl, hk, hA, hC, hbw⟩ := hrel
    have hi5 : i = 0 ∨ i = 1 ∨ i = 2 ∨ i = 3 ∨ i = 4 := by omega
    rcases hi5 with rfl | rfl | rfl | rfl | rfl
    · have hA' : wr.heap[w.heap.size]? = some (.cells #[.int .u64 (wd (p) 0 : Int), .int .u64 (wd (p) 1 : Int), .int .u64 (wd (p) 2 : Int), .int .u64 (wd (p) 3 : Int)] 24 (0, 0)) := by
        have := hA
        unfold SB at this
        rw [wd_mix_ge g p (i := 0) (k := 0) (by decide), wd_mix_ge g p (i := 0) (k := 1) (by decide), wd_mix_ge g p (i := 0) (k := 2) (by decide), wd_mix_ge g p (i := 0) (k := 3) (by decide)] at this
        exact this
      have e0 := E.out 0
      have HH := hid (And.intro hA' (And.intro hC hbw))
      obtain ⟨c0, c1, c2, c3⟩ := cells4 hA'
      obtain ⟨f0, f1, f2, f3⟩ := frozen4 hA'
      clear hA hA' hC hbw
      go_wp2
      go_roundg (gk - 1)
      case measure => omega
      case rel =>
        obtain ⟨h1, h3, h4⟩ := HH.out
        have h5 := h4.size
        refine ⟨1, by go_num, by omega, ?_, ?_, ?_⟩
        · unfold SB
          rw [wd_mix_lt g p (i := 1) (k := 0) (by decide), wd_mix_ge g p (i := 1) (k := 1) (by decide), wd_mix_ge g p (i := 1) (k := 2) (by decide), wd_mix_ge g p (i := 1) (k := 3) (by decide)]
          exact blk_put h1
        · unfold SB; exact blk_set h3 (by show w.heap.size + 1 ≠ w.heap.size; omega)
        · exact below_put h4 (by omega)
    · have hA' : wr.heap[w.heap.size]? = some (.cells #[.int .u64 (wd (g) 0 : Int), .int .u64 (wd (p) 1 : Int), .int .u64 (wd (p) 2 : Int), .int .u64 (wd (p) 3 : Int)] 24 (0, 0)) := by
        have := hA
        unfold SB at this
        rw [wd_mix_lt g p (i := 1) (k := 0) (by decide), wd_mix_ge g p (i := 1) (k := 1) (by decide), wd_mix_ge g p (i := 1) (k := 2) (by decide), wd_mix_ge g p (i := 1) (k := 3) (by decide)] at this
        exact this
      have e0 := E.out 1
      have HH := hid (And.intro hA' (And.intro hC hbw))
      obtain ⟨c0, c1, c2, c3⟩ := cells4 hA'
      obtain ⟨f0, f1, f2, f3⟩ := frozen4 hA'
      clear hA hA' hC hbw
      go_wp2
      go_roundg (gk - 1)
      case measure => omega
      case rel =>
        obtain ⟨h1, h3, h4⟩ := HH.out
        have h5 := h4.size
        refine ⟨2, by go_num, by omega, ?_, ?_, ?_⟩
        · unfold SB
          rw [wd_mix_lt g p (i := 2) (k := 0) (by decide), wd_mix_lt g p (i := 2) (k := 1) (by decide), wd_mix_ge g p (i := 2) (k := 2) (by decide), wd_mix_ge g p (i := 2) (k := 3) (by decide)]
          exact blk_put h1
        · unfold SB; exact blk_set h3 (by show w.heap.size + 1 ≠ w.heap.size; omega)
        · exact below_put h4 (by omega)
    · have hA' : wr.heap[w.heap.size]? = some (.cells #[.int .u64 (wd (g) 0 : Int), .int .u64 (wd (g) 1 : Int), .int .u64 (wd (p) 2 : Int), .int .u64 (wd (p) 3 : Int)] 24 (0, 0)) := by
        have := hA
        unfold SB at this
        rw [wd_mix_lt g p (i := 2) (k := 0) (by decide), wd_mix_lt g p (i := 2) (k := 1) (by decide), wd_mix_ge g p (i := 2) (k := 2) (by decide), wd_mix_ge g p (i := 2) (k := 3) (by decide)] at this
        exact this
      have e0 := E.out 2
      have HH := hid (And.intro hA' (And.intro hC hbw))
      obtain ⟨c0, c1, c2, c3⟩ := cells4 hA'
      obtain ⟨f0, f1, f2, f3⟩ := frozen4 hA'
      clear hA hA' hC hbw
      go_wp2
      go_roundg (gk - 1)
      case measure => omega
      case rel =>
        obtain ⟨h1, h3, h4⟩ := HH.out
        have h5 := h4.size
        refine ⟨3, by go_num, by omega, ?_, ?_, ?_⟩
        · unfold SB
          rw [wd_mix_lt g p (i := 3) (k := 0) (by decide), wd_mix_lt g p (i := 3) (k := 1) (by decide), wd_mix_lt g p (i := 3) (k := 2) (by decide), wd_mix_ge g p (i := 3) (k := 3) (by decide)]
          exact blk_put h1
        · unfold SB; exact blk_set h3 (by show w.heap.size + 1 ≠ w.heap.size; omega)
        · exact below_put h4 (by omega)
    · have hA' : wr.heap[w.heap.size]? = some (.cells #[.int .u64 (wd (g) 0 : Int), .int .u64 (wd (g) 1 : Int), .int .u64 (wd (g) 2 : Int), .int .u64 (wd (p) 3 : Int)] 24 (0, 0)) := by
        have := hA
        unfold SB at this
        rw [wd_mix_lt g p (i := 3) (k := 0) (by decide), wd_mix_lt g p (i := 3) (k := 1) (by decide), wd_mix_lt g p (i := 3) (k := 2) (by decide), wd_mix_ge g p (i := 3) (k := 3) (by decide)] at this
        exact this
      have e0 := E.out 3
      have HH := hid (And.intro hA' (And.intro hC hbw))
      obtain ⟨c0, c1, c2, c3⟩ := cells4 hA'
      obtain ⟨f0, f1, f2, f3⟩ := frozen4 hA'
      clear hA hA' hC hbw
      go_wp2
      go_roundg (gk - 1)
      case measure => omega
      case rel =>
        obtain ⟨h1, h3, h4⟩ := HH.out
        have h5 := h4.size
        refine ⟨4, by go_num, by omega, ?_, ?_, ?_⟩
        · unfold SB
          rw [wd_mix_lt g p (i := 4) (k := 0) (by decide), wd_mix_lt g p (i := 4) (k := 1) (by decide), wd_mix_lt g p (i := 4) (k := 2) (by decide), wd_mix_lt g p (i := 4) (k := 3) (by decide)]
          exact blk_put h1
        · unfold SB; exact blk_set h3 (by show w.heap.size + 1 ≠ w.heap.size; omega)
        · exact below_put h4 (by omega)
    · have hA' : SB wr w.heap.size g := SB_congr (fun x hx => mix_four g p hx) hA
      obtain ⟨c0, c1, c2, c3⟩ := cells4 hA'
      obtain ⟨a0, a1, a2, a3⟩ := cells4 hC
      obtain ⟨f0, f1, f2, f3⟩ := frozen4 hC
      have HA := hid hC
      have HB := hid hbw
      clear hA hA' hC hbw
      go_wp2
      have z := four_set (x' := .int .u64 (wd g 0 : Int)) (y' := .int .u64 (wd g 1 : Int)) (z' := .int .u64 (wd g 2 : Int)) (u' := .int .u64 (wd g 3 : Int)) HA.out
      obtain ⟨r0, r1, r2, r3⟩ := cells4 z
      refine bodyPost_ret (v := sv g) ?_ rfl ⟨rfl, ?_⟩
      · unfold sv; simp [results, Tryd.results38, go_sem, r0, r1, r2, r3]
      · exact below_put (below_put (below_put (below_put HB.out (by omega)) (by omega)) (by omega)) (by omega)


theorem rNotB_any (s : BS) (w : World) : Calls Tryd.prog 38 #[.agg #[.int .u64 (ws s 0 : Int), .int .u64 (ws s 1 : Int), .int .u64 (ws s 2 : Int), .int .u64 (ws s 3 : Int)]] w fun e w' => e = .returned (.agg #[.int .u64 (ws (cpl s) 0 : Int), .int .u64 (ws (cpl s) 1 : Int), .int .u64 (ws (cpl s) 2 : Int), .int .u64 (ws (cpl s) 3 : Int)]) ∧ Below w.heap.size w w' :=
  rNot_any (lf s) w
theorem rHasB_any (s : BS) (b : Nat) (w : World) (hb : b < 256) : Calls Tryd.prog 57 #[.agg #[.int .u64 (ws s 0 : Int), .int .u64 (ws s 1 : Int), .int .u64 (ws s 2 : Int), .int .u64 (ws s 3 : Int)], .int .i64 (b : Int)] w fun e w' => e = .returned (.bool (nt s b)) ∧ Below w.heap.size w w' :=
  rHas_any (lf s) b w hb
theorem okb_nat {n : Nat} (h : n < 256) : okb (UInt8.ofNat n) = true ↔ (32 ≤ n ∧ n ≤ 126) ∨ n = 9 ∨ n = 10 := by
  unfold okb prn
  simp [UInt8.le_iff_toNat_le, ← UInt8.toNat_inj]
  omega
theorem wr_nat {s : BS} : wr s = true ↔ emp s = false ∧ ∀ n, n < 256 → nt s n = true → okb (UInt8.ofNat n) = true := by
  rw [wr_iff]
  refine and_congr ?_ ⟨fun h n hn hs => h _ hs, fun h b hb => ?_⟩
  · rw [Ne, ← emp_iff]; cases emp s <;> simp
  · have := h b.toNat b.toNat_lt (by rw [nt_nat]; exact hb)
    simpa using this

set_option maxRecDepth 100000 in
set_option maxHeartbeats 4000000 in
theorem rwritable_any (s : BS) (w : World) : Calls Tryd.prog 37 #[.agg #[.int .u64 (ws s 0 : Int), .int .u64 (ws s 1 : Int), .int .u64 (ws s 2 : Int), .int .u64 (ws s 3 : Int)]] w fun e w' => e = .returned (.bool (wr s)) ∧ Below w.heap.size w w' := by
  have CH := hid (fun (i : Nat) (hi : i < 256) V => rHasB_any s i V hi)
  obtain ⟨y, hy⟩ : ∃ y, y = wr s := ⟨_, rfl⟩
  have F := hid (show y = true ↔ _ from hy ▸ wr_nat (s := s))
  rw [← hy]
  clear hy
  obtain ⟨W, hW⟩ : ∃ W, W = w.alloc (.cells #[.int .u64 (ws s 0 : Int), .int .u64 (ws s 1 : Int), .int .u64 (ws s 2 : Int), .int .u64 (ws s 3 : Int)] 24) := ⟨_, rfl⟩
  have HX := hid (show W.heap[w.heap.size]? = some (.cells #[.int .u64 (ws s 0 : Int), .int .u64 (ws s 1 : Int), .int .u64 (ws s 2 : Int), .int .u64 (ws s 3 : Int)] 24 (0, 0)) ∧ Below w.heap.size w W from by rw [hW]; exact ⟨alloc_new _ _, bel1 _ _⟩)
  go_enter Tryd.func37, Tryd.ntmps37
  go_wp2_with fail
  rw [← hW]
  clear hW
  go_loopg [3] 256 (fun k sl wr => ∃ i : Nat, sl = .int .i64 (i : Int) ∧ i + k = 256 ∧ (∀ x, x < i → nt s x = true → okb (UInt8.ofNat x) = true) ∧ wr.heap[w.heap.size]? = some (.cells #[.int .u64 (ws s 0 : Int), .int .u64 (ws s 1 : Int), .int .u64 (ws s 2 : Int), .int .u64 (ws s 3 : Int)] 24 (0, 0)) ∧ Below w.heap.size w wr)
  case atStart => exact ⟨0, rfl, rfl, fun x hx => by omega, HX.out.1, HX.out.2⟩
  case round =>
    obtain ⟨i, rfl, hk, hall, hbx, hbw⟩ := hrel
    obtain ⟨p0, p1, p2, p3⟩ := cells4 hbx
    by_cases hlt : i < 256
    · have hlt' : (i : Int) < 256 := by omega
      have C := hid (CH.out i hlt)
      have HA := hid (And.intro hall (And.intro hbx (And.intro hbw hlt)))
      have HK := hid hk
      have OK := hid (okb_nat hlt)
      clear hall hbx hbw hlt hk
      cases hc : nt s i
      · rw [hc] at C
        go_wp2_with fail
        refine (C.out _).mono ?_
        rintro e V ⟨rfl, b1⟩
        have B1 := hid b1
        clear b1
        go_wp2
        go_roundg (gk - 1)
        case measure => have := HK.out; have := HA.out.2.2.2; omega
        case rel =>
          obtain ⟨h1, h2, h3, h4⟩ := HA.out
          refine ⟨i + 1, by go_num, by have := HK.out; omega, fun x hx hs => ?_, (B1.out.block _ (heap_lt h2)).trans h2, h3.trans (B1.out.mono h3.size)⟩
          by_cases e : x = i
          · subst e; rw [hc] at hs; cases hs
          · exact h1 x (by omega) hs
      · rw [hc] at C
        have h4 : (i < 32 ∧ i ≠ 9 ∧ i ≠ 10) ∨ i = 9 ∨ i = 10 ∨ (32 ≤ i ∧ i ≤ 126) ∨ 126 < i := by omega
        rcases h4 with h | rfl | rfl | h | h
        · have g1 : (i : Int) < 32 := by omega
          have g2 : ((i : Int) != 9) = true := by simp; omega
          have g3 : ((i : Int) != 10) = true := by simp; omega
          have HB := hid h
          clear h
          go_wp2_with fail
          refine (C.out _).mono ?_
          rintro e V ⟨rfl, b1⟩
          have B1 := hid b1
          clear b1
          go_wp2
          go_ret
          refine ⟨?_, HA.out.2.2.1.trans (B1.out.mono HA.out.2.2.1.size)⟩
          cases y
          · rfl
          · exact absurd (OK.out.1 ((F.out.1 rfl).2 i HA.out.2.2.2 hc)) (by have := HB.out; omega)
        · go_wp2_with fail
          refine (C.out _).mono ?_
          rintro e V ⟨rfl, b1⟩
          have B1 := hid b1
          clear b1
          go_wp2
          go_roundg (gk - 1)
          case measure => have := HK.out; omega
          case rel =>
            obtain ⟨h1, h2, h3, h4⟩ := HA.out
            refine ⟨9 + 1, by go_num, by have := HK.out; omega, fun x hx hs => ?_, (B1.out.block _ (heap_lt h2)).trans h2, h3.trans (B1.out.mono h3.size)⟩
            by_cases e : x = 9
            · subst e; decide
            · exact h1 x (by omega) hs
        · go_wp2_with fail
          refine (C.out _).mono ?_
          rintro e V ⟨rfl, b1⟩
          have B1 := hid b1
          clear b1
          go_wp2
          go_roundg (gk - 1)
          case measure => have := HK.out; omega
          case rel =>
            obtain ⟨h1, h2, h3, h4⟩ := HA.out
            refine ⟨10 + 1, by go_num, by have := HK.out; omega, fun x hx hs => ?_, (B1.out.block _ (heap_lt h2)).trans h2, h3.trans (B1.out.mono h3.size)⟩
            by_cases e : x = 10
            · subst e; decide
            · exact h1 x (by omega) hs
        · have g1 : ¬ (i : Int) < 32 := by omega
          have g2 : ¬ (126 : Int) < (i : Int) := by omega
          have HB := hid h
          clear h
          go_wp2_with fail
          refine (C.out _).mono ?_
          rintro e V ⟨rfl, b1⟩
          have B1 := hid b1
          clear b1
          go_wp2
          go_roundg (gk - 1)
          case measure => have := HK.out; have := HA.out.2.2.2; omega
          case rel =>
            obtain ⟨h1, h2, h3, h4⟩ := HA.out
            refine ⟨i + 1, by go_num, by have := HK.out; omega, fun x hx hs => ?_, (B1.out.block _ (heap_lt h2)).trans h2, h3.trans (B1.out.mono h3.size)⟩
            by_cases e : x = i
            · subst e; exact OK.out.2 (.inl HB.out)
            · exact h1 x (by omega) hs
        · have g1 : ¬ (i : Int) < 32 := by omega
          have g2 : (126 : Int) < (i : Int) := by omega
          have g3 : ((i : Int) != 9) = true := by simp; omega
          have g4 : ((i : Int) != 10) = true := by simp; omega
          have HB := hid h
          clear h
          go_wp2_with fail
          refine (C.out _).mono ?_
          rintro e V ⟨rfl, b1⟩
          have B1 := hid b1
          clear b1
          go_wp2
          go_ret
          refine ⟨?_, HA.out.2.2.1.trans (B1.out.mono HA.out.2.2.1.size)⟩
          cases y
          · rfl
          · exact absurd (OK.out.1 ((F.out.1 rfl).2 i HA.out.2.2.2 hc)) (by have := HB.out; omega)
    · have hin : ¬ (i : Int) < 256 := by omega
      have HA := hid (And.intro hall (And.intro hbw hlt))
      clear hall hbw hlt hbx
      go_wp2
      go_ret
      refine ⟨?_, HA.out.2.1⟩
      have : y = !emp s := by
        rw [Bool.eq_iff_iff, F.out]
        constructor
        · intro h; rw [h.1]; rfl
        · intro h
          refine ⟨by simpa using h, fun n hn hs => HA.out.1 n (by have := HA.out.2.2; omega) hs⟩
      rw [this]; rfl
end Go.Proofs.YtednoideboeehaaDoor
end
section
set_option linter.unusedSimpArgs false
set_option linter.unusedVariables false
namespace Go.Proofs.YtednoideboeehaaDoor
open Go.RowKit Bs Rg Go.Frame
attribute [local go_sem] eq_zero eq_set
set_option maxRecDepth 100000 in
set_option maxHeartbeats 4000000 in
theorem rPrintable_any (g : Nat → Prop) (r : Rx) : ∀ (w : World) (cs : List Value), Vd r → RC g w r cs →
    Calls Tryd.prog 20 #[.agg cs.toArray] w fun e w' => e = .returned (.bool (prt r)) ∧ Below w.heap.size w w' := by
  induction r using Rx.ind with
  | h k s l ih =>
  intro w cs hd h
  obtain ⟨a, n, c, rfl, hK⟩ := RC_mk.1 h
  clear h
  show Calls Tryd.prog 20 #[.agg #[.int .i64 k, .int .u64 (ws s 0 : Int), .int .u64 (ws s 1 : Int), .int .u64 (ws s 2 : Int), .int .u64 (ws s 3 : Int), .slice a n c]] w _
  obtain ⟨q, hq⟩ : ∃ q, q = prt (.mk k s l) := ⟨_, rfl⟩
  rw [← hq]
  rw [prt_mk] at hq
  have hln := hid hK.len
  have hnl := hK.lt
  have IH := hid fun x hx W cs hc => ih x hx W cs (hd.kid hx) hc
  obtain ⟨W, hW⟩ : ∃ W, W = w.alloc (.cells #[.int .i64 k, .int .u64 (ws s 0 : Int), .int .u64 (ws s 1 : Int), .int .u64 (ws s 2 : Int), .int .u64 (ws s 3 : Int), .slice a n c] 27) := ⟨_, rfl⟩
  have bW : Below w.heap.size w W := by rw [hW]; exact bel1 _ _
  have x0 : W.heap[w.heap.size]? = some (.cells #[.int .i64 k, .int .u64 (ws s 0 : Int), .int .u64 (ws s 1 : Int), .int .u64 (ws s 2 : Int), .int .u64 (ws s 3 : Int), .slice a n c] 27 (0, 0)) := by rw [hW]; exact alloc_new _ _
  have HK := hid (And.intro (hK.below bW) (And.intro bW x0))
  have hshp := hd.shaped
  rcases Int.decEq k 1 with n1 | rfl
  rotate_left
  · rw [if_pos rfl] at hq
    subst hq
    obtain ⟨c0, c1, c2, c3, c4, c5⟩ := cells6 (hW ▸ x0)
    clear hK ih x0 hd bW
    go_enter Tryd.func20, Tryd.ntmps20
    go_wp2
    go_ret
    exact ⟨rfl, hW ▸ HK.out.2.1⟩
  rw [if_neg n1] at hq
  have g1 : (k == 1) = false := by simpa using n1
  rcases Int.decEq k 3 with n3 | rfl
  · rw [if_neg n3] at hq
    have g3 : (k == 3) = false := by simpa using n3
    have F := hid hq
    obtain ⟨c0, c1, c2, c3, c4, c5⟩ := cells6 (hW ▸ x0)
    clear hK ih bW x0 hq hd n1 n3 hshp
    go_enter Tryd.func20, Tryd.ntmps20
    go_wp2_with fail
    clear c0 c1 c2 c3 c4 c5
    rw [← hW]
    go_loopg [3] n (fun k s3 wr => ∃ (i : Nat), s3 = .int .i64 (i : Int) ∧ i + k = n ∧ (∀ y ∈ l.take i, prt y = true) ∧ Below W.heap.size W wr)
    case atStart => exact ⟨0, rfl, by omega, by simp, Below.refl _ _⟩
    case round =>
      obtain ⟨i, rfl, hk, hsh, hbw⟩ := hrel
      by_cases hlt : i < n
      · have hlt' : (i : Int) < (n : Int) := by omega
        obtain ⟨b, off, k', s', l', a', n', c', rfl, _, hb, hx, hK', q0, q1, q2, q3, q4, q5⟩ := (HK.out.1.below hbw).get (i := i) hlt
        have c5 := (cells6 ((hbw.block _ (heap_lt HK.out.2.2)).trans HK.out.2.2)).2.2.2.2.2
        have HX := hid (And.intro hx (And.intro hK' (And.intro hbw hsh)))
        have CR := hid (IH.out _ (List.mem_of_getElem? HX.out.1) wr _ (RC_mk.2 ⟨a', n', c', rfl, HX.out.2.1⟩))
        clear hx hK' hbw hsh
        obtain ⟨z, hz⟩ : ∃ z, z = prt (.mk k' s' l') := ⟨_, rfl⟩
        rw [← hz] at CR
        have HZ := hid hz
        clear hz
        go_wp2_with fail
        refine CR.out.mono ?_
        rintro e W2 ⟨rfl, b2⟩
        have HB := hid (HX.out.2.2.1.trans (b2.mono HX.out.2.2.1.size))
        clear b2
        cases z
        · go_wp2
          go_ret
          refine ⟨?_, HK.out.2.1.trans (HB.out.mono HK.out.2.1.size)⟩
          have : q = false := by
            rw [F.out, ← Bool.not_eq_true, prtL_iff]
            intro hall
            have := hall _ (List.mem_of_getElem? HX.out.1)
            rw [← HZ.out] at this; cases this
          rw [this]; rfl
        · go_wp2
          go_roundg (gk - 1)
          case measure => omega
          case rel => exact ⟨i + 1, by go_num, by omega, take_all HX.out.2.2.2 HX.out.1 HZ.out.symm, HB.out⟩
      · have hin : ¬ (i : Int) < (n : Int) := by omega
        have HX := hid (And.intro hsh hbw)
        have c5 := (cells6 ((hbw.block _ (heap_lt HK.out.2.2)).trans HK.out.2.2)).2.2.2.2.2
        clear hsh hbw
        go_wp2
        go_ret
        refine ⟨?_, HK.out.2.1.trans (HX.out.2.mono HK.out.2.1.size)⟩
        have : q = true := by
          rw [F.out, prtL_iff]
          exact take_full HX.out.1 hln.out (by omega)
        rw [this]; rfl
  · rw [if_pos rfl] at hq
    have h0 : l.length = 0 := shaped_leaf hshp (.inr (.inr rfl))
    obtain rfl : n = 0 := by rw [← hln.out]; exact h0
    have F := hid hq
    obtain ⟨c0, c1, c2, c3, c4, c5⟩ := cells6 (hW ▸ x0)
    have C1 := hid (fun V => rwritable_any s V)
    have C2 := hid (fun V => rNotB_any s V)
    have C3 := hid (fun V => rwritable_any (cpl s) V)
    obtain ⟨b1, hb1⟩ : ∃ b, b = wr s := ⟨_, rfl⟩
    obtain ⟨b2, hb2⟩ : ∃ b, b = wr (cpl s) := ⟨_, rfl⟩
    rw [← hb1] at C1
    rw [← hb2] at C3
    have F2 := hid (show q = (b1 || b2) by rw [hb1, hb2]; exact hq)
    clear hK ih bW x0 hq hd n1 h0 hshp hb1 hb2
    go_enter Tryd.func20, Tryd.ntmps20
    go_wp2_with fail
    rw [← hW]
    refine (C1.out _).mono ?_
    rintro e W1 ⟨rfl, d1⟩
    have D1 := hid d1
    clear d1
    clear c0 c1 c2 c3 c4 c5
    cases b1
    · have x1 := hid ((D1.out.block _ (heap_lt HK.out.2.2)).trans HK.out.2.2)
      obtain ⟨c0, c1, c2, c3, c4, c5⟩ := cells6 x1.out
      go_wp2_with fail
      refine (C2.out _).mono ?_
      rintro e W2 ⟨rfl, d2⟩
      have D2 := hid (D1.out.trans (d2.mono D1.out.size))
      clear d2
      go_wp2_with fail
      refine (C3.out _).mono ?_
      rintro e W3 ⟨rfl, d3⟩
      have D3 := hid (D2.out.trans (d3.mono D2.out.size))
      clear d3 c0 c1 c2 c3 c4 c5
      have c5 := (cells6 ((D3.out.block _ (heap_lt HK.out.2.2)).trans HK.out.2.2)).2.2.2.2.2
      cases b2
      · go_wp2
        go_ret
        exact ⟨by rw [F2.out]; rfl, HK.out.2.1.trans (D3.out.mono HK.out.2.1.size)⟩
      · go_wp2_with fail
        go_loopg [3] 0 (fun k s3 wr => s3 = .int .i64 0 ∧ wr = W3)
        case atStart => exact ⟨rfl, rfl⟩
        case round =>
          obtain ⟨rfl, rfl⟩ := hrel
          go_wp2
          go_ret
          exact ⟨by rw [F2.out]; rfl, HK.out.2.1.trans (D3.out.mono HK.out.2.1.size)⟩
    · have c5 := (cells6 ((D1.out.block _ (heap_lt HK.out.2.2)).trans HK.out.2.2)).2.2.2.2.2
      go_wp2_with fail
      go_loopg [3] 0 (fun k s3 wr => s3 = .int .i64 0 ∧ wr = W1)
      case atStart => exact ⟨rfl, rfl⟩
      case round =>
        obtain ⟨rfl, rfl⟩ := hrel
        go_wp2
        go_ret
        exact ⟨by rw [F2.out]; rfl, HK.out.2.1.trans (D1.out.mono HK.out.2.1.size)⟩
end Go.Proofs.YtednoideboeehaaDoor
end
section
set_option linter.unusedSimpArgs false
set_option linter.unusedVariables false
namespace Rg
section
variable (U : List UInt8)
/-- A match of A that began at a place of F ends at j. -/
def EW (A : List UInt8 → Prop) (F : Nat → Bool) (j : Nat) : Prop := ∃ i, i ≤ j ∧ F i = true ∧ A (seg U i j)
theorem EW_congr {A B : List UInt8 → Prop} {F : Nat → Bool} {j : Nat} (h : ∀ t, A t ↔ B t) : EW U A F j ↔ EW U B F j :=
  ⟨fun ⟨i, a, b, c⟩ => ⟨i, a, b, (h _).1 c⟩, fun ⟨i, a, b, c⟩ => ⟨i, a, b, (h _).2 c⟩⟩
theorem EW_eps {F : Nat → Bool} {j : Nat} (hj : j ≤ U.length) : EW U (fun t => t = []) F j ↔ F j = true := by
  constructor
  · rintro ⟨i, h1, h2, h3⟩
    have := seg_len U (i := i) hj
    rw [h3] at this
    simp at this
    rw [show j = i by omega]; exact h2
  · intro h; exact ⟨j, Nat.le_refl _, h, seg_self U j⟩
theorem EW_set_zero {s : BS} {F : Nat → Bool} : ¬ EW U (fun t => ∃ b, t = [b] ∧ s b = true) F 0 := by
  rintro ⟨i, h1, h2, b, h3, _⟩
  obtain rfl : i = 0 := by omega
  rw [seg_self] at h3; cases h3
theorem EW_set {s : BS} {F : Nat → Bool} {j : Nat} {b : UInt8} (hb : U[j]? = some b) : EW U (fun t => ∃ b, t = [b] ∧ s b = true) F (j + 1) ↔ F j = true ∧ s b = true := by
  have hj := (List.getElem?_eq_some_iff.1 hb).1
  constructor
  · rintro ⟨i, h1, h2, c, h3, h4⟩
    have := seg_len U (i := i) (n := j + 1) (by omega)
    rw [h3] at this
    simp at this
    obtain rfl : i = j := by omega
    rw [seg_one U hb] at h3
    injection h3 with h3 _
    subst h3
    exact ⟨h2, h4⟩
  · rintro ⟨h1, h2⟩
    exact ⟨j, by omega, h1, b, seg_one U hb, h2⟩
theorem EW_cons {x : Rx} {l : List Rx} {F G : Nat → Bool} {j : Nat} (hj : j ≤ U.length) (hG : ∀ i, i ≤ U.length → (G i = true ↔ EW U (L x) F i)) : EW U (LC (x :: l)) F j ↔ EW U (LC l) G j := by
  constructor
  · rintro ⟨i, h1, h2, h3⟩
    rw [LC_cons] at h3
    obtain ⟨u, v, h4, h5, h6⟩ := h3
    obtain ⟨k1, k2, k3⟩ := seg_split U h1 hj h4
    exact ⟨i + u.length, k1, (hG _ (by omega)).2 ⟨i, by omega, h2, by rw [k2]; exact h5⟩, by rw [k3]; exact h6⟩
  · rintro ⟨m, h1, h2, h3⟩
    obtain ⟨i, h4, h5, h6⟩ := (hG m (by omega)).1 h2
    exact ⟨i, by omega, h5, by rw [LC_cons]; exact ⟨_, _, (seg_app U h4 h1).symm, h6, h3⟩⟩
theorem EW_nil {F : Nat → Bool} {j : Nat} (hj : j ≤ U.length) : EW U (LC []) F j ↔ F j = true :=
  (EW_congr U fun t => LC_nil).trans (EW_eps U hj)
theorem EW_take {l : List Rx} {x : Rx} {n j : Nat} {F : Nat → Bool} (h : l[n]? = some x) : EW U (LU (l.take (n + 1))) F j ↔ EW U (LU (l.take n)) F j ∨ EW U (L x) F j := by
  rw [List.take_add_one, h]
  have : ∀ t, LU (l.take n ++ (some x).toList) t ↔ LU (l.take n) t ∨ L x t := by
    intro t
    rw [LU_iff, LU_iff]
    simp only [Option.toList_some, List.mem_append, List.mem_singleton]
    constructor
    · rintro ⟨y, h1 | rfl, h2⟩
      · exact .inl ⟨y, h1, h2⟩
      · exact .inr h2
    · rintro (⟨y, h1, h2⟩ | h2)
      · exact ⟨y, .inl h1, h2⟩
      · exact ⟨x, .inr rfl, h2⟩
  constructor
  · rintro ⟨i, a, b, c⟩
    rcases (this _).1 c with c | c
    · exact .inl ⟨i, a, b, c⟩
    · exact .inr ⟨i, a, b, c⟩
  · rintro (⟨i, a, b, c⟩ | ⟨i, a, b, c⟩)
    · exact ⟨i, a, b, (this _).2 (.inl c)⟩
    · exact ⟨i, a, b, (this _).2 (.inr c)⟩
theorem EW_none {F : Nat → Bool} {j : Nat} : ¬ EW U (LU []) F j := by
  rintro ⟨i, _, _, h⟩; rw [LU_nil] at h; exact h
/-- Closed under one more, so under many. -/
theorem EW_shut {A : List UInt8 → Prop} {G : Nat → Bool} (h : ∀ j, j ≤ U.length → EW U A G j → G j = true) : ∀ {t : List UInt8}, Rep A t → ∀ {i j : Nat}, i ≤ j → j ≤ U.length → seg U i j = t → G i = true → G j = true := by
  intro t ht
  induction ht with
  | nil =>
    intro i j h1 h2 h3 h4
    have := seg_len U (i := i) h2
    rw [h3] at this; simp at this
    rw [show j = i by omega]; exact h4
  | @cons u v h1 h2 h3 ih =>
    intro i j k1 k2 k3 k4
    obtain ⟨m1, m2, m3⟩ := seg_split U k1 k2 k3
    exact ih m1 k2 m3 (h _ (by omega) ⟨i, by omega, k4, by rw [m2]; exact h2⟩)
/-- The least set with F closed under one more. -/
theorem EW_star {A : List UInt8 → Prop} {F G : Nat → Bool} (h1 : ∀ j, j ≤ U.length → F j = true → G j = true) (h2 : ∀ j, j ≤ U.length → G j = true → EW U (Rep A) F j) (h3 : ∀ j, j ≤ U.length → EW U A G j → G j = true) {j : Nat} (hj : j ≤ U.length) : G j = true ↔ EW U (Rep A) F j :=
  ⟨h2 j hj, fun ⟨i, a, b, c⟩ => EW_shut U h3 c a hj rfl (h1 i (by omega) b)⟩
theorem EW_more {A : List UInt8 → Prop} {F G : Nat → Bool} (h2 : ∀ j, j ≤ U.length → G j = true → EW U (Rep A) F j) {j : Nat} (hj : j ≤ U.length) (h : EW U A G j) : EW U (Rep A) F j := by
  obtain ⟨m, a, b, c⟩ := h
  obtain ⟨i, d, e, f⟩ := h2 m (by omega) b
  exact ⟨i, by omega, e, by rw [← seg_app U d a]; exact f.app (.one c)⟩
theorem EW_refl {A : List UInt8 → Prop} {F : Nat → Bool} {j : Nat} (h : F j = true) : EW U (Rep A) F j := ⟨j, Nat.le_refl _, h, by rw [seg_self]; exact .nil⟩
/-- A match of the whole. -/
theorem EW_full {A : List UInt8 → Prop} : EW U A (fun j => j == 0) U.length ↔ A U := by
  have hs : seg U 0 U.length = U := by unfold seg; simp
  constructor
  · rintro ⟨i, _, h, k⟩
    have : i = 0 := by simpa using h
    rw [this, hs] at k; exact k
  · intro h; exact ⟨0, Nat.zero_le _, rfl, by rw [hs]; exact h⟩
end
/-- Marks laid up to i. -/
def lay (G H : Nat → Bool) (i j : Nat) : Bool := if j < i then G j || H j else G j
theorem lay_zero (G H : Nat → Bool) : lay G H 0 = G := by funext j; simp [lay]
theorem lay_full (G H : Nat → Bool) {n j : Nat} (h : j < n) : lay G H n j = (G j || H j) := by simp [lay, h]
theorem lay_step (G H : Nat → Bool) (i : Nat) : lay G H (i + 1) = fun j => if j = i then (lay G H i i || H i) else lay G H i j := by
  funext j
  unfold lay
  by_cases e : j = i
  · subst e; simp
  · simp only [e, if_false]
    by_cases h : j < i
    · simp [h, show j < i + 1 by omega]
    · simp [h, show ¬ j < i + 1 by omega]
theorem lay_at (G H : Nat → Bool) (i : Nat) : lay G H i i = G i := by simp [lay]
/-- Something new below i. -/
def new (G H : Nat → Bool) (i : Nat) : Bool := (List.range i).any fun j => H j && !G j
theorem new_step (G H : Nat → Bool) (i : Nat) : new G H (i + 1) = (new G H i || (H i && !G i)) := by
  unfold new; rw [List.range_succ, List.any_append]; simp
theorem new_no {G H : Nat → Bool} {n : Nat} (h : new G H n = false) {j : Nat} (hj : j < n) (hH : H j = true) : G j = true := by
  unfold new at h
  rw [List.any_eq_false] at h
  have := h j (by simpa using hj)
  simpa [hH] using this
theorem new_yes {G H : Nat → Bool} {n : Nat} (h : new G H n = true) : ∃ j, j < n ∧ H j = true ∧ G j = false := by
  unfold new at h
  rw [List.any_eq_true] at h
  obtain ⟨j, h1, h2⟩ := h
  exact ⟨j, by simpa using h1, by simpa using h2⟩
theorem cnt_mono {G H : Nat → Bool} : ∀ {n : Nat}, (∀ j, j < n → G j = true → H j = true) → Bs.cnt G n ≤ Bs.cnt H n
  | 0, _ => by simp [Bs.cnt]
  | n + 1, h => by
    rw [Bs.cnt, Bs.cnt]
    have h1 := cnt_mono (n := n) fun j hj => h j (by omega)
    have h2 := h n (by omega)
    cases hg : G n <;> cases hh : H n <;> simp_all <;> omega
theorem cnt_more {G H : Nat → Bool} {i : Nat} : ∀ {n : Nat}, (∀ j, j < n → G j = true → H j = true) → i < n → G i = false → H i = true → Bs.cnt G n < Bs.cnt H n
  | 0, _, h, _, _ => by omega
  | n + 1, h, hi, h1, h2 => by
    rw [Bs.cnt, Bs.cnt]
    have hm := h n (by omega)
    by_cases e : i = n
    · subst e
      have := cnt_mono (n := i) fun j hj => h j (by omega)
      rw [h1, h2]; simp; omega
    · have := cnt_more (n := n) (fun j hj => h j (by omega)) (by omega) h1 h2
      cases hg : G n <;> cases hh : H n <;> simp_all <;> omega
end Rg
end
section
set_option linter.unusedSimpArgs false
set_option linter.unusedVariables false
namespace Go.Proofs.YtednoideboeehaaDoor
open Go.RowKit Bs Rg Go.Frame

/-- A row of bools. -/
def bl (G : Nat → Bool) (N : Nat) : List Value := (List.range N).map fun j => .bool (G j)
theorem bl_len (G : Nat → Bool) (N : Nat) : (bl G N).length = N := by simp [bl]
theorem bl_get (G : Nat → Bool) {N j : Nat} (h : j < N) : (bl G N)[j]? = some (.bool (G j)) := by simp [bl, h]
theorem bl_congr {G H : Nat → Bool} {N : Nat} (h : ∀ j, j < N → G j = H j) : bl G N = bl H N := by
  unfold bl
  refine List.map_congr_left fun j hj => ?_
  rw [h j (by simpa using hj)]
def BR (W : World) (b N : Nat) (G : Nat → Bool) : Prop := W.heap[b]? = some (.cells (bl G N).toArray 4 (0, 0))
theorem BR.congr {W : World} {b N : Nat} {G H : Nat → Bool} (h : BR W b N G) (hg : ∀ j, j < N → G j = H j) : BR W b N H := by unfold BR at *; rw [← bl_congr hg]; exact h
theorem BR.below {W W' : World} {b N : Nat} {G : Nat → Bool} (h : BR W b N G) (hb : Below W.heap.size W W') : BR W' b N G := (hb.block _ (heap_lt h)).trans h
theorem BR.old {w W : World} {b N : Nat} {G : Nat → Bool} (h : BR w b N G) (hb : Below w.heap.size w W) : BR W b N G := h.below hb
theorem BR.cell {W : World} {b N j : Nat} {G : Nat → Bool} (h : BR W b N G) (hj : j < N) : W.cell? ⟨b, j, none⟩ = some (.bool (G j)) := by
  unfold BR at h
  simp only [World.cell?, h]
  rw [if_neg (by simp), List.getElem?_toArray, bl_get G hj]
theorem BR.free {W : World} {b N : Nat} {G : Nat → Bool} (h : BR W b N G) (j : Nat) : W.frozen? ⟨b, j, none⟩ = false := Go.Frame.free h j
theorem BR.put {W : World} {b N j : Nat} {G : Nat → Bool} (h : BR W b N G) (v : Bool) : BR (W.setCell ⟨b, j, none⟩ (.bool v)) b N (fun x => if x = j then v else G x) := by
  unfold BR at *
  rw [blk_put h]
  congr 2
  apply Array.ext_getElem?
  intro i
  rw [Array.getElem?_setIfInBounds, List.getElem?_toArray, List.getElem?_toArray]
  have hsz : (bl G N).toArray.size = N := by simp [bl_len]
  by_cases hi : i < N
  · rw [bl_get _ hi, bl_get _ hi]
    by_cases e : j = i
    · subst e; simp [hsz, hi]
    · rw [if_neg e, if_neg (fun h => e h.symm)]
  · have e1 : ∀ H : Nat → Bool, (bl H N)[i]? = none := fun H => by rw [List.getElem?_eq_none_iff, bl_len]; omega
    rw [e1, e1]
    by_cases e : j = i
    · subst e; simp [hsz, hi]
    · rw [if_neg e]
theorem BR.other {W : World} {b b' N j : Nat} {G : Nat → Bool} {v : Value} (h : BR W b N G) (hn : b ≠ b') : BR (W.setCell ⟨b', j, none⟩ v) b N G := blk_set h hn
theorem info4b : (Tryd.prog.info? 4).map (fun i => (i.zero, i.size, i.bytes)) = some (some (.bool false), 1, 1) := by kernel_rfl
theorem size4b : (Tryd.prog.info? 4).map (·.size) = some 1 := by kernel_rfl
theorem made_bl (N : Nat) : madeCells #[.bool false] (N * 1) = (bl (fun _ => false) N).toArray := by
  apply Array.ext_getElem?
  intro i
  simp only [madeCells, bl]
  by_cases h : i < N
  · simp [h, Nat.mod_one]
  · simp [h]
theorem make_bools (n : Nat) (hn : n ≤ 1000000) (w : World) :
    (Instr.makeSlice 72 (.int .i64 ((n : Int) + 1)) (.int .i64 ((n : Int) + 1))).run Tryd.prog w = .ok (.slice (some ⟨w.heap.size, 0, none⟩) (n + 1) (n + 1)) (w.alloc (.cells (bl (fun _ => false) (n + 1)).toArray 4)) := by
  obtain ⟨i, hi, h0, h1, h2⟩ := info_parts info4b
  have := run_make (P := Tryd.prog) w 72 4 i _ Tryd.underlying72 hi h0 .i64 .i64 ((n + 1 : Nat) : Int) ((n + 1 : Nat) : Int) (by omega) (Int.le_refl _) (by rw [h2]; omega) (by omega)
  rw [h1, show (Value.bool false).cells = #[.bool false] by kernel_rfl] at this
  rw [← made_bl]
  simpa using this
theorem copy_bools (W : World) (g fb N : Nat) (G F : Nat → Bool) (hg : BR W g N G) (hf : BR W fb N F) :
    (Builtin.copy_ #[72, 72] 3 #[.slice (some ⟨g, 0, none⟩) N N, .slice (some ⟨fb, 0, none⟩) N N]).run Tryd.prog W = .ok (goInt N) (W.setRow g (bl F N).toArray) := by
  have := run_copy_row (P := Tryd.prog) W 72 72 3 4 g 0 N N ⟨fb, 0, none⟩ N N _ 4 (bl F N) Tryd.underlying72 size4b hg (by rw [bl_len]; simp [Nat.min_self]) (fun j v hj => by
      have hlt := (List.getElem?_eq_some_iff.1 hj).1
      rw [bl_len] at hlt
      rw [bl_get F hlt] at hj
      rw [add_at, Nat.zero_add, hf.cell hlt]; exact hj) (by simp [bl_len]) (fun v hv => by
      unfold bl at hv
      obtain ⟨j, _, rfl⟩ := List.mem_map.1 hv
      rfl)
  have e : (bl G N).toArray.toList.take 0 ++ bl F N ++ (bl G N).toArray.toList.drop (0 + (bl F N).length) = bl F N := by
    rw [List.drop_eq_nil_of_le (by simp [bl_len])]; simp
  rw [this, e, bl_len]
theorem BR.row {W : World} {b N : Nat} {G F : Nat → Bool} (h : BR W b N G) : BR (W.setRow b (bl F N).toArray) b N F := setRow_heap _ _ _ _ _ _ h
theorem row_other {W : World} {b b' : Nat} {o : Obj} {cs : Array Value} (h : W.heap[b]? = some o) (hn : b ≠ b') : (W.setRow b' cs).heap[b]? = some o := (setRow_other _ _ _ _ hn).trans h

/-- What ends answers. -/
def EdR (s : ByteArray) (r : Rx) (F : Nat → Bool) (w : World) (e : Ending) (w' : World) : Prop :=
  (∃ G b, e = .returned (.slice (some ⟨b, 0, none⟩) (s.size + 1) (s.size + 1)) ∧ w.heap.size ≤ b ∧ BR w' b (s.size + 1) G ∧ ∀ j, j ≤ s.size → (G j = true ↔ EW s.data.toList (L r) F j)) ∧ Below w.heap.size w w'
/-- The places behind a byte of S. -/
def stp (U : List UInt8) (S : BS) (F : Nat → Bool) (i j : Nat) : Bool := decide (1 ≤ j ∧ j ≤ i) && (F (j - 1) && S (U.getD (j - 1) 0))
theorem stp_zero (U : List UInt8) (S : BS) (F : Nat → Bool) (j : Nat) : stp U S F 0 j = false := by unfold stp; simp; omega
theorem stp_next (U : List UInt8) (S : BS) (F : Nat → Bool) (i : Nat) : stp U S F (i + 1) = fun j => if j = i + 1 then F i && S (U.getD i 0) else stp U S F i j := by
  funext j
  unfold stp
  by_cases e : j = i + 1
  · subst e; simp
  · rw [if_neg e]
    congr 1
    rw [decide_eq_decide]; omega
theorem stp_ok (U : List UInt8) (S : BS) (F : Nat → Bool) {j : Nat} (hj : j ≤ U.length) : stp U S F U.length j = true ↔ EW U (fun t => ∃ b, t = [b] ∧ S b = true) F j := by
  cases j with
  | zero => exact ⟨fun h => (by simp [stp] at h), fun h => absurd h (EW_set_zero U)⟩
  | succ j =>
    have hb : U[j]? = some (U.getD j 0) := by rw [List.getD_eq_getElem?_getD, List.getElem?_eq_getElem (by omega)]; rfl
    rw [EW_set U hb]
    unfold stp
    simp
    omega
theorem size_len (s : ByteArray) : s.data.toList.length = s.size := rfl
/-- The two boxes of ends. -/
theorem ends_start (g : Nat → Prop) (w : World) (k : Int) (S : BS) (a : Option Addr) (n c : Nat) (l : List Rx) (m : Nat) (hK : Kd g w a n l) : ∀ W, W = (w.alloc (.cells #[.int .i64 k, .int .u64 (ws S 0 : Int), .int .u64 (ws S 1 : Int), .int .u64 (ws S 2 : Int), .int .u64 (ws S 3 : Int), .slice a n c] 27)).alloc (.cells (bl (fun _ => false) (m + 1)).toArray 4) →
    W.heap[w.heap.size]? = some (.cells #[.int .i64 k, .int .u64 (ws S 0 : Int), .int .u64 (ws S 1 : Int), .int .u64 (ws S 2 : Int), .int .u64 (ws S 3 : Int), .slice a n c] 27 (0, 0)) ∧ BR W (w.heap.size + 1) (m + 1) (fun _ => false) ∧ Below w.heap.size w W := by
  rintro W rfl
  obtain ⟨x0, x1, bV, hsz⟩ := Go.Frame.two w (.cells #[.int .i64 k, .int .u64 (ws S 0 : Int), .int .u64 (ws S 1 : Int), .int .u64 (ws S 2 : Int), .int .u64 (ws S 3 : Int), .slice a n c] 27) (.cells (bl (fun _ => false) (m + 1)).toArray 4)
  exact ⟨x0, x1, bV⟩
set_option maxRecDepth 100000 in
set_option maxHeartbeats 4000000 in
theorem ends_none (g : Nat → Prop) (S : BS) (l : List Rx) (s : ByteArray) (F : Nat → Bool) (fb : Nat) (w : World) (cs : List Value) (hs : s.size ≤ 1000000) (hF : BR w fb (s.size + 1) F) (h : RC g w (.mk 1 S l) cs) :
    Calls Tryd.prog 47 #[.agg cs.toArray, .string s, .slice (some ⟨fb, 0, none⟩) (s.size + 1) (s.size + 1)] w (EdR s (.mk 1 S l) F w) := by
  obtain ⟨a, n, c, rfl, hK⟩ := RC_mk.1 h
  show Calls Tryd.prog 47 #[.agg #[.int .i64 1, .int .u64 (ws S 0 : Int), .int .u64 (ws S 1 : Int), .int .u64 (ws S 2 : Int), .int .u64 (ws S 3 : Int), .slice a n c], .string s, .slice (some ⟨fb, 0, none⟩) (s.size + 1) (s.size + 1)] w _
  have hmk := make_bools s.size hs (w.alloc (.cells #[.int .i64 1, .int .u64 (ws S 0 : Int), .int .u64 (ws S 1 : Int), .int .u64 (ws S 2 : Int), .int .u64 (ws S 3 : Int), .slice a n c] 27))
  obtain ⟨W, hW⟩ : ∃ W, W = (w.alloc (.cells #[.int .i64 1, .int .u64 (ws S 0 : Int), .int .u64 (ws S 1 : Int), .int .u64 (ws S 2 : Int), .int .u64 (ws S 3 : Int), .slice a n c] 27)).alloc (.cells (bl (fun _ => false) (s.size + 1)).toArray 4) := ⟨_, rfl⟩
  have H0 := ends_start g w 1 S a n c l s.size hK W hW
  obtain ⟨c0, c1, c2, c3, c4, c5⟩ := cells6 (hW ▸ H0.1)
  have hadd : IntKind.i64.wrap ((s.size : Int) + 1) = (s.size : Int) + 1 := by rw [wrapIn] <;> omega
  have hnl := hK.lt
  have HX := hid H0
  have HF := hid (And.intro hF (And.intro hs hK))
  have HW := hid hW
  rw [← hW] at hmk
  clear H0 hF h hK
  go_enter Tryd.func47, Tryd.ntmps47
  go_wp2_with fail
  rw [← hW]
  go_ret
  refine ⟨⟨_, _, rfl, by omega, HX.out.2.1, fun j hj => ⟨fun h => (by cases h), ?_⟩⟩, HX.out.2.2⟩
  rintro ⟨i, _, _, h⟩
  rw [L_mk] at h
  simp at h
set_option maxRecDepth 100000 in
set_option maxHeartbeats 4000000 in
theorem ends_eps (g : Nat → Prop) (S : BS) (l : List Rx) (s : ByteArray) (F : Nat → Bool) (fb : Nat) (w : World) (cs : List Value) (hs : s.size ≤ 1000000) (hF : BR w fb (s.size + 1) F) (h : RC g w (.mk 2 S l) cs) :
    Calls Tryd.prog 47 #[.agg cs.toArray, .string s, .slice (some ⟨fb, 0, none⟩) (s.size + 1) (s.size + 1)] w (EdR s (.mk 2 S l) F w) := by
  obtain ⟨a, n, c, rfl, hK⟩ := RC_mk.1 h
  show Calls Tryd.prog 47 #[.agg #[.int .i64 2, .int .u64 (ws S 0 : Int), .int .u64 (ws S 1 : Int), .int .u64 (ws S 2 : Int), .int .u64 (ws S 3 : Int), .slice a n c], .string s, .slice (some ⟨fb, 0, none⟩) (s.size + 1) (s.size + 1)] w _
  have hmk := make_bools s.size hs (w.alloc (.cells #[.int .i64 2, .int .u64 (ws S 0 : Int), .int .u64 (ws S 1 : Int), .int .u64 (ws S 2 : Int), .int .u64 (ws S 3 : Int), .slice a n c] 27))
  obtain ⟨W, hW⟩ : ∃ W, W = (w.alloc (.cells #[.int .i64 2, .int .u64 (ws S 0 : Int), .int .u64 (ws S 1 : Int), .int .u64 (ws S 2 : Int), .int .u64 (ws S 3 : Int), .slice a n c] 27)).alloc (.cells (bl (fun _ => false) (s.size + 1)).toArray 4) := ⟨_, rfl⟩
  have H0 := ends_start g w 2 S a n c l s.size hK W hW
  obtain ⟨c0, c1, c2, c3, c4, c5⟩ := cells6 (hW ▸ H0.1)
  have hadd : IntKind.i64.wrap ((s.size : Int) + 1) = (s.size : Int) + 1 := by rw [wrapIn] <;> omega
  have hnl := hK.lt
  have HX := hid H0
  have HF := hid (And.intro hF (And.intro hs hK))
  have HW := hid hW
  rw [← hW] at hmk
  have hcp := copy_bools W (w.heap.size + 1) fb _ _ F H0.2.1 (hF.below H0.2.2)
  rw [hW] at hcp
  clear H0 hF h hK
  go_enter Tryd.func47, Tryd.ntmps47
  go_wp2_with fail
  rw [← hW]
  go_ret
  refine ⟨⟨_, _, rfl, by omega, HX.out.2.1.row, fun j hj => ?_⟩, below_setRow HX.out.2.2 (by omega) _⟩
  rw [← EW_eps s.data.toList (j := j) hj]
  exact EW_congr _ fun t => by rw [L_mk]; simp
set_option maxRecDepth 100000 in
set_option maxHeartbeats 4000000 in
theorem ends_set (g : Nat → Prop) (S : BS) (l : List Rx) (s : ByteArray) (F : Nat → Bool) (fb : Nat) (w : World) (cs : List Value) (hs : s.size ≤ 1000000) (hF : BR w fb (s.size + 1) F) (h : RC g w (.mk 3 S l) cs) :
    Calls Tryd.prog 47 #[.agg cs.toArray, .string s, .slice (some ⟨fb, 0, none⟩) (s.size + 1) (s.size + 1)] w (EdR s (.mk 3 S l) F w) := by
  obtain ⟨a, n, c, rfl, hK⟩ := RC_mk.1 h
  show Calls Tryd.prog 47 #[.agg #[.int .i64 3, .int .u64 (ws S 0 : Int), .int .u64 (ws S 1 : Int), .int .u64 (ws S 2 : Int), .int .u64 (ws S 3 : Int), .slice a n c], .string s, .slice (some ⟨fb, 0, none⟩) (s.size + 1) (s.size + 1)] w _
  have hmk := make_bools s.size hs (w.alloc (.cells #[.int .i64 3, .int .u64 (ws S 0 : Int), .int .u64 (ws S 1 : Int), .int .u64 (ws S 2 : Int), .int .u64 (ws S 3 : Int), .slice a n c] 27))
  obtain ⟨W, hW⟩ : ∃ W, W = (w.alloc (.cells #[.int .i64 3, .int .u64 (ws S 0 : Int), .int .u64 (ws S 1 : Int), .int .u64 (ws S 2 : Int), .int .u64 (ws S 3 : Int), .slice a n c] 27)).alloc (.cells (bl (fun _ => false) (s.size + 1)).toArray 4) := ⟨_, rfl⟩
  have H0 := ends_start g w 3 S a n c l s.size hK W hW
  obtain ⟨c0, c1, c2, c3, c4, c5⟩ := cells6 (hW ▸ H0.1)
  have hadd : IntKind.i64.wrap ((s.size : Int) + 1) = (s.size : Int) + 1 := by rw [wrapIn] <;> omega
  have hnl := hK.lt
  have HX := hid H0
  have HF := hid (And.intro hF (And.intro hs hK))
  have HW := hid hW
  rw [← hW] at hmk
  clear H0 hF h hK
  go_enter Tryd.func47, Tryd.ntmps47
  go_wp2_with fail
  rw [← hW]
  go_loopg [8] s.size (fun k sl wr => ∃ i : Nat, sl = .int .i64 (i : Int) ∧ i + k = s.size ∧ BR wr (w.heap.size + 1) (s.size + 1) (stp s.data.toList S F i) ∧ wr.heap[w.heap.size]? = some (.cells #[.int .i64 3, .int .u64 (ws S 0 : Int), .int .u64 (ws S 1 : Int), .int .u64 (ws S 2 : Int), .int .u64 (ws S 3 : Int), .slice a n c] 27 (0, 0)) ∧ Below w.heap.size w wr)
  case atStart => exact ⟨0, rfl, by omega, HX.out.2.1.congr fun j _ => (stp_zero _ _ _ _).symm, HX.out.1, HX.out.2.2⟩
  case round =>
    obtain ⟨i, rfl, hk, hG, hbx, hbw⟩ := hrel
    by_cases hlt : i < s.size
    · have hlt' : (i : Int) < (s.size : Int) := by omega
      have HR := hid (And.intro hG (And.intro hbx hbw))
      have CH := hid (fun V => show Calls Tryd.prog 57 #[.agg #[.int .u64 (ws S 0 : Int), .int .u64 (ws S 1 : Int), .int .u64 (ws S 2 : Int), .int .u64 (ws S 3 : Int)], .int .i64 (s[i].toNat : Int)] V fun e w' => e = .returned (.bool (S s[i])) ∧ Below V.heap.size V w' from by have := rHasB_any S s[i].toNat V s[i].toNat_lt; rw [nt_nat] at this; exact this)
      have hF' : ∀ V, Below wr.heap.size wr V → V.cell? ⟨fb, i, none⟩ = some (.bool (F i)) := fun V hV => (HF.out.1.below (hbw.trans (hV.mono hbw.size))).cell (by omega)
      have hv1 : IntKind.i64.wrap ((i : Int) + 1) = (i : Int) + 1 := by rw [wrapIn] <;> have := HF.out.2.1 <;> omega
      have hfr := fun V (hV : Below wr.heap.size wr V) => (hG.below hV).free (i + 1)
      have hcc := fun V (hV : Below wr.heap.size wr V) => (hG.below hV).cell (j := i + 1) (by omega)
      have hw64 : wrap64 (s[i].toNat : Int) = (s[i].toNat : Int) := by have := s[i].toNat_lt; unfold wrap64; omega
      clear hG hbw
      obtain ⟨x, hx⟩ : ∃ x, F i = x := ⟨_, rfl⟩
      rw [hx] at hF'
      cases x
      all_goals
        go_wp2_with fail
        refine (wpIn_wide (n := 0)).1 (wpIn_region_below_tail 17 free_wide (by kernel_rfl) (by kernel_rfl) (by kernel_rfl) ?_)
        intro X f _ hf hs'
        have lA := heap_lt hbx
        have k1 := fun x => (cells6 (((hf.out x).block _ lA).trans hbx)).2.1
        have k2 := fun x => (cells6 (((hf.out x).block _ lA).trans hbx)).2.2.1
        have k3 := fun x => (cells6 (((hf.out x).block _ lA).trans hbx)).2.2.2.1
        have k4 := fun x => (cells6 (((hf.out x).block _ lA).trans hbx)).2.2.2.2.1
        have kF := fun x => hF' _ (hf.out x)
        simp only [List.take_succ_cons, List.take_zero, List.drop_succ_cons, List.drop_zero]
        repeat (go_big_quiet_step (first | (go_at_call 57; with_reducible exact calls_below hf hs' (CH.out _))))
        refine wpQuiet_nil ?_
        intro Y hY
        have kc := hcc Y hY
        have kf := hfr Y hY
        have HY := hid hY
        clear hY k1 k2 k3 k4 kF hf hs' hcc hfr hF' hbx lA
        gi_wp2
        go_wp2
        go_roundg (gk - 1)
        case measure => omega
        case rel =>
          obtain ⟨h1, h2, h3⟩ := HR.out
          refine ⟨i + 1, by go_num, by omega, ?_, blk_set (HY.out.block _ (heap_lt h2) |>.trans h2) (by show w.heap.size ≠ w.heap.size + 1; omega), below_put (h3.trans (HY.out.mono h3.size)) (by omega)⟩
          rw [stp_next]
          have hU : s.data.toList.getD i 0 = s[i] := by rw [List.getD_eq_getElem?_getD, List.getElem?_eq_getElem (show i < s.data.toList.length from hlt)]; rfl
          rw [hU, hx]
          exact (h1.below HY.out).put _
    · have hin : ¬ (i : Int) < (s.size : Int) := by omega
      have HR := hid (And.intro hG hbw)
      clear hG hbx hbw
      go_wp2
      go_ret
      refine ⟨⟨_, _, rfl, by omega, HR.out.1, fun j hj => ?_⟩, HR.out.2⟩
      obtain rfl : i = s.size := by omega
      refine (stp_ok s.data.toList S F (j := j) hj).trans (EW_congr _ fun t => ?_)
      rw [L_mk]; simp
end Go.Proofs.YtednoideboeehaaDoor
end
