/-
  Contracts: endsWithin, Apply; the reference's Fits, Replace.
-/
import Derived.Test.YtblcjjhjgoccgaaXg
import Derived.BigQuiet
set_option linter.unusedSimpArgs false
set_option linter.unusedVariables false
namespace Go.Proofs.Ytblcjjhjgoccgaa
open Go.RowKit Lx Go.Frame

/-- The results of Apply. -/
def apv (s : ByteArray) (e : Te.Ed) : Value := if Te.Fit s.size e then .tuple #[.string (Te.ap s e), .int .i64 0] else .tuple #[.string .empty, .int .i64 2]
theorem apv_yes {s : ByteArray} {e : Te.Ed} (h : Te.Fit s.size e) : apv s e = .tuple #[.string (Te.ap s e), .int .i64 0] := if_pos h
theorem apv_no {s : ByteArray} {e : Te.Ed} (h : ¬ Te.Fit s.size e) : apv s e = .tuple #[.string .empty, .int .i64 2] := if_neg h
theorem ap_def (s t : ByteArray) (a d : Nat) : s.extract 0 a ++ t ++ s.extract (a + d) s.size = Te.ap s ((a : Int), (d : Int), t) := by
  unfold Te.ap; simp only [Int.toNat_natCast]
set_option maxRecDepth 100000 in
set_option maxHeartbeats 2000000 in
theorem ends_yes (a d n : Int) (t : ByteArray) (w : World) (h0 : 0 ≤ n) (hn : n ≤ 1000000000000000) (ha : a ≤ 9223372036854775807) (h : Te.Fit n (a, d, t)) :
    Calls Try.prog 35 #[.agg #[.int .i64 a, .int .i64 d, .string t], .int .i64 n] w fun e w' => e = .returned (.bool true) ∧ Below w.heap.size w w' := by
  obtain ⟨h1, h2, h3⟩ := h
  have h1 : 0 ≤ a := h1
  have h2 : 0 ≤ d := h2
  have h3 : d ≤ n - a := h3
  have h4 : a ≤ n := by omega
  go_enter Try.func35, Try.ntmps35
  go_wp2
  go_ret
  exact ⟨rfl, (Below.refl _ _).alloc (Nat.le_refl _) _⟩
set_option maxRecDepth 100000 in
set_option maxHeartbeats 2000000 in
theorem ends_no (a d n : Int) (t : ByteArray) (w : World) (h0 : 0 ≤ n) (hn : n ≤ 1000000000000000) (ha : a ≤ 9223372036854775807) (h : ¬ Te.Fit n (a, d, t)) :
    Calls Try.prog 35 #[.agg #[.int .i64 a, .int .i64 d, .string t], .int .i64 n] w fun e w' => e = .returned (.bool false) ∧ Below w.heap.size w w' := by
  have H : Hid (¬ (0 ≤ a ∧ 0 ≤ d ∧ d ≤ n - a)) := h
  clear h
  go_enter Try.func35, Try.ntmps35
  go_wp2
  all_goals
    go_ret
    refine ⟨?_, (Below.refl _ _).alloc (Nat.le_refl _) _⟩
    first
      | rfl
      | (have : ¬ d ≤ n - a := fun h' => H.out ⟨by assumption, by assumption, h'⟩
         simp [this])
set_option maxRecDepth 100000 in
set_option maxHeartbeats 2000000 in
theorem fits_yes (a d n : Int) (t : ByteArray) (w : World) (h0 : 0 ≤ n) (hn : n ≤ 1000000000000000) (ha : a ≤ 9223372036854775807) (h : Te.Fit n (a, d, t)) :
    Calls Try.prog 17 #[.int .i64 n, .agg #[.int .i64 a, .int .i64 d, .string t]] w fun e w' => e = .returned (.bool true) ∧ Below w.heap.size w w' := by
  obtain ⟨h1, h2, h3⟩ := h
  have h1 : 0 ≤ a := h1
  have h2 : 0 ≤ d := h2
  have h3 : d ≤ n - a := h3
  have h4 : a ≤ n := by omega
  go_enter Try.func17, Try.ntmps17
  go_wp2
  go_ret
  exact ⟨rfl, (Below.refl _ _).alloc (Nat.le_refl _) _⟩
set_option maxRecDepth 100000 in
set_option maxHeartbeats 2000000 in
theorem fits_no (a d n : Int) (t : ByteArray) (w : World) (h0 : 0 ≤ n) (hn : n ≤ 1000000000000000) (ha : a ≤ 9223372036854775807) (h : ¬ Te.Fit n (a, d, t)) :
    Calls Try.prog 17 #[.int .i64 n, .agg #[.int .i64 a, .int .i64 d, .string t]] w fun e w' => e = .returned (.bool false) ∧ Below w.heap.size w w' := by
  have H : Hid (¬ (0 ≤ a ∧ 0 ≤ d ∧ d ≤ n - a)) := h
  clear h
  go_enter Try.func17, Try.ntmps17
  go_wp2
  all_goals
    go_ret
    refine ⟨?_, (Below.refl _ _).alloc (Nat.le_refl _) _⟩
    first
      | rfl
      | (have : ¬ d ≤ n - a := fun h' => H.out ⟨by assumption, by assumption, h'⟩
         simp [this])
set_option maxRecDepth 100000 in
set_option maxHeartbeats 2000000 in
theorem Apply_any (s t : ByteArray) (a d : Int) (w : World) (hs : s.size ≤ 1000000) (ht : t.size ≤ 140737488351232) (ha : a ≤ 9223372036854775807) :
    Calls Try.prog 21 #[.string s, .agg #[.int .i64 a, .int .i64 d, .string t]] w fun e w' => e = .returned (apv s (a, d, t)) ∧ Below w.heap.size w w' := by
  have b1 : Below w.heap.size w (w.alloc (.cells #[.int .i64 a, .int .i64 d, .string t] 27)) := (Below.refl _ _).alloc (Nat.le_refl _) _
  by_cases hf : Te.Fit s.size (a, d, t)
  · have HF := hid hf
    obtain ⟨x, y, t', he, hl⟩ := hf.nat
    simp only [Prod.mk.injEq] at he
    obtain ⟨rfl, rfl, rfl⟩ := he
    have a0 : (0 : Int) ≤ (x : Int) := by omega
    have d0 : (0 : Int) ≤ (y : Int) := by omega
    have a1 : (x : Int) ≤ (s.size : Int) := by omega
    have a2 : (x : Int) + (y : Int) ≤ (s.size : Int) := by omega
    have e4 : IntKind.i64.wrap (↑x + ↑y) = (x : Int) + (y : Int) := wrapIn (by omega) (by omega)
    have CY := hid (fun V => ends_yes (x : Int) (y : Int) (s.size : Int) t V (by omega) (by omega) (by omega) HF.out)
    clear hf
    go_enter Try.func21, Try.ntmps21
    go_wp2_with (go_at_call 35; refine (CY.out _).mono ?_; rintro e w1 ⟨rfl, hbl⟩)
    obtain ⟨c0, c1, c2⟩ := cells3 ((hbl.block _ (by simp)).trans (alloc_new w (.cells #[.int .i64 x, .int .i64 y, .string t] 27)))
    have z1 : (s.extract 0 x).size ≤ 140737488351232 := by rw [ByteArray.size_extract]; omega
    have z2 : (s.extract (x + y) s.size).size ≤ 140737488351232 := by rw [ByteArray.size_extract]; omega
    have z3 : (s.extract 0 x ++ t).size ≤ 281474976702464 := by rw [ByteArray.size_append]; omega
    go_quiet (fail)
    go_wp2
    go_ret2
    rw [apv_yes HF.out, ← ap_def]
    exact ⟨rfl, ⟨hbl.os, hbl.tape, hbl.output, Nat.le_trans b1.size hbl.size, fun k hk => (hbl.block k (by simp; omega)).trans (b1.block k hk)⟩⟩
  · have HF := hid hf
    have CN := hid (fun V => ends_no a d (s.size : Int) t V (by omega) (by omega) ha HF.out)
    clear hf
    go_enter Try.func21, Try.ntmps21
    go_wp2_with (go_at_call 35; refine (CN.out _).mono ?_; rintro e w1 ⟨rfl, hbl⟩)
    go_ret2
    rw [apv_no HF.out]
    exact ⟨rfl, b1.trans (hbl.mono (by simp))⟩
set_option maxRecDepth 100000 in
set_option maxHeartbeats 2000000 in
theorem Replace_any (s t : ByteArray) (a d : Int) (w : World) (hs : s.size ≤ 1000000) (ht : t.size ≤ 140737488351232) (ha : a ≤ 9223372036854775807) :
    Calls Try.prog 16 #[.string s, .agg #[.int .i64 a, .int .i64 d, .string t]] w fun e w' => e = .returned (apv s (a, d, t)) ∧ Below w.heap.size w w' := by
  have b1 : Below w.heap.size w (w.alloc (.cells #[.int .i64 a, .int .i64 d, .string t] 27)) := (Below.refl _ _).alloc (Nat.le_refl _) _
  by_cases hf : Te.Fit s.size (a, d, t)
  · have HF := hid hf
    obtain ⟨x, y, t', he, hl⟩ := hf.nat
    simp only [Prod.mk.injEq] at he
    obtain ⟨rfl, rfl, rfl⟩ := he
    have a0 : (0 : Int) ≤ (x : Int) := by omega
    have d0 : (0 : Int) ≤ (y : Int) := by omega
    have a1 : (x : Int) ≤ (s.size : Int) := by omega
    have a2 : (x : Int) + (y : Int) ≤ (s.size : Int) := by omega
    have e4 : IntKind.i64.wrap (↑x + ↑y) = (x : Int) + (y : Int) := wrapIn (by omega) (by omega)
    have CY := hid (fun V => fits_yes (x : Int) (y : Int) (s.size : Int) t V (by omega) (by omega) (by omega) HF.out)
    clear hf
    go_enter Try.func16, Try.ntmps16
    go_wp2_with (go_at_call 17; refine (CY.out _).mono ?_; rintro e w1 ⟨rfl, hbl⟩)
    obtain ⟨c0, c1, c2⟩ := cells3 ((hbl.block _ (by simp)).trans (alloc_new w (.cells #[.int .i64 x, .int .i64 y, .string t] 27)))
    have z1 : (s.extract 0 x).size ≤ 140737488351232 := by rw [ByteArray.size_extract]; omega
    have z2 : (s.extract (x + y) s.size).size ≤ 140737488351232 := by rw [ByteArray.size_extract]; omega
    have z3 : (s.extract 0 x ++ t).size ≤ 281474976702464 := by rw [ByteArray.size_append]; omega
    go_quiet (fail)
    go_wp2
    go_ret2
    rw [apv_yes HF.out, ← ap_def]
    exact ⟨rfl, ⟨hbl.os, hbl.tape, hbl.output, Nat.le_trans b1.size hbl.size, fun k hk => (hbl.block k (by simp; omega)).trans (b1.block k hk)⟩⟩
  · have HF := hid hf
    have CN := hid (fun V => fits_no a d (s.size : Int) t V (by omega) (by omega) ha HF.out)
    clear hf
    go_enter Try.func16, Try.ntmps16
    go_wp2_with (go_at_call 17; refine (CN.out _).mono ?_; rintro e w1 ⟨rfl, hbl⟩)
    go_ret2
    rw [apv_no HF.out]
    exact ⟨rfl, b1.trans (hbl.mono (by simp))⟩
end Go.Proofs.Ytblcjjhjgoccgaa
