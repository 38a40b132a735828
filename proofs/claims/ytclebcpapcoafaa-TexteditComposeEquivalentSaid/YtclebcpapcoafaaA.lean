/-
  Contracts: endsWithin, Fits, small, Apply and its reference, Invert.
-/
import Derived.Test.YtclebcpapcoafaaProg
import Derived.Test.YtclebcpapcoafaaM
import Derived.WalkKit
import Derived.Below
import Derived.OneCell
import Derived.BigQuiet
import Derived.Deep.RegionHeld3
import Derived.Deep.LoopGhost
import Derived.Outline

namespace Go.Proofs.Ytclebcpapcoafaa
open Go.RowKit Te

theorem hid {p : Prop} (h : p) : Hid p := h
def edv (e : Ed) : Value := .agg #[.int .i64 e.1, .int .i64 e.2.1, .string e.2.2]

set_option maxRecDepth 100000 in
set_option maxHeartbeats 2000000 in
theorem ends_yes (a d : Int) (s : ByteArray) (n : Int) (w : World) (h0 : 0 ≤ n) (hn : n ≤ 1000000000000000) (h : Fit n (a, d, s)) :
    Calls Try.prog 27 #[.agg #[.int .i64 a, .int .i64 d, .string s], .int .i64 n] w fun e w' => e = .returned (.bool true) ∧ Below w.heap.size w w' := by
  obtain ⟨h1, h2, h3⟩ := h
  have h1 : 0 ≤ a := h1
  have h2 : 0 ≤ d := h2
  have h3 : d ≤ n - a := h3
  go_enter Try.func27, Try.ntmps27
  go_wp2
  go_ret
  exact ⟨rfl, (Below.refl _ _).alloc (Nat.le_refl _) _⟩
set_option maxRecDepth 100000 in
set_option maxHeartbeats 2000000 in
theorem ends_no (a d : Int) (s : ByteArray) (n : Int) (w : World) (h0 : 0 ≤ n) (hn : n ≤ 1000000000000000) (ha : a ≤ 9223372036854775807) (h : ¬ Fit n (a, d, s)) :
    Calls Try.prog 27 #[.agg #[.int .i64 a, .int .i64 d, .string s], .int .i64 n] w fun e w' => e = .returned (.bool false) ∧ Below w.heap.size w w' := by
  have H : Hid (¬ (0 ≤ a ∧ 0 ≤ d ∧ d ≤ n - a)) := h
  clear h
  go_enter Try.func27, Try.ntmps27
  go_wp2
  all_goals
    go_ret
    refine ⟨?_, (Below.refl _ _).alloc (Nat.le_refl _) _⟩
    first
      | rfl
      | (have : ¬ d ≤ n - a := fun h' => H.out ⟨by assumption, by assumption, h'⟩
         simp [this])
set_option maxRecDepth 100000 in
set_option maxHeartbeats 2000000 in
theorem fits_yes (a d : Int) (s t : ByteArray) (w : World) (hn : s.size ≤ 1000000) (h : Fit s.size (a, d, t)) :
    Calls Try.prog 25 #[.string s, .agg #[.int .i64 a, .int .i64 d, .string t]] w fun e w' => e = .returned (.bool true) ∧ Below w.heap.size w w' := by
  obtain ⟨h1, h2, h3⟩ := h
  have h1 : 0 ≤ a := h1
  have h2 : 0 ≤ d := h2
  have h3 : d ≤ s.size - a := h3
  have h4 : a ≤ s.size := by omega
  have h5 : (s.size : Int) ≤ 1000000000000000 := by omega
  go_enter Try.func25, Try.ntmps25
  go_wp2
  go_ret
  exact ⟨rfl, (Below.refl _ _).alloc (Nat.le_refl _) _⟩
set_option maxRecDepth 100000 in
set_option maxHeartbeats 2000000 in
theorem fits_no (a d : Int) (s t : ByteArray) (w : World) (hn : s.size ≤ 1000000) (h : ¬ Fit s.size (a, d, t)) :
    Calls Try.prog 25 #[.string s, .agg #[.int .i64 a, .int .i64 d, .string t]] w fun e w' => e = .returned (.bool false) ∧ Below w.heap.size w w' := by
  have H : Hid (¬ (0 ≤ a ∧ 0 ≤ d ∧ d ≤ s.size - a)) := h
  have h5 : (s.size : Int) ≤ 1000000000000000 := by omega
  clear h
  go_enter Try.func25, Try.ntmps25
  go_wp2
  all_goals
    go_ret
    refine ⟨?_, (Below.refl _ _).alloc (Nat.le_refl _) _⟩
    first
      | rfl
      | (have : ¬ d ≤ s.size - a := fun h' => H.out ⟨by assumption, by assumption, h'⟩
         simp [this])
set_option maxRecDepth 100000 in
set_option maxHeartbeats 2000000 in
theorem small_yes (a d : Int) (t : ByteArray) (w : World) (h : Ok (a, d, t)) :
    Calls Try.prog 30 #[.agg #[.int .i64 a, .int .i64 d, .string t]] w fun e w' => e = .returned (.bool true) ∧ Below w.heap.size w w' := by
  obtain ⟨h1, h2, h3⟩ := h
  have h1 : 0 ≤ a := h1
  have h2 : 0 ≤ d := h2
  have h3 : d ≤ 2147483647 - a := h3
  have h4 : a ≤ 2147483647 := by omega
  go_enter Try.func30, Try.ntmps30
  go_wp2
  go_ret
  exact ⟨rfl, (Below.refl _ _).alloc (Nat.le_refl _) _⟩
set_option maxRecDepth 100000 in
set_option maxHeartbeats 2000000 in
theorem small_no (a d : Int) (t : ByteArray) (w : World) (h : ¬ Ok (a, d, t)) :
    Calls Try.prog 30 #[.agg #[.int .i64 a, .int .i64 d, .string t]] w fun e w' => e = .returned (.bool false) ∧ Below w.heap.size w w' := by
  have H : Hid (¬ (0 ≤ a ∧ 0 ≤ d ∧ d ≤ 2147483647 - a)) := h
  clear h
  go_enter Try.func30, Try.ntmps30
  go_wp2
  all_goals
    go_ret
    refine ⟨?_, (Below.refl _ _).alloc (Nat.le_refl _) _⟩
    first
      | rfl
      | (have : ¬ d ≤ 2147483647 - a := fun h' => H.out ⟨by assumption, by assumption, h'⟩
         simp [this])


theorem alloc_new (w : World) (o : Obj) : (w.alloc o).heap[w.heap.size]? = some o := by
  show (w.heap.push o)[w.heap.size]? = some o
  exact Array.getElem?_push_size
theorem alloc_at (w : World) (o : Obj) {b : Nat} (h : w.heap.size = b) : (w.alloc o).heap[b]? = some o := by subst h; exact alloc_new _ _
theorem heap_lt {W : World} {b : Nat} {o : Obj} (h : W.heap[b]? = some o) : b < W.heap.size := (Array.getElem?_eq_some_iff.1 h).1
theorem blk_alloc {W : World} {b : Nat} {o o' : Obj} (h : W.heap[b]? = some o) : (W.alloc o').heap[b]? = some o := by
  have hb := heap_lt h
  show (W.heap.push o')[b]? = some o
  rw [Array.getElem?_push_lt hb]
  rw [Array.getElem?_eq_getElem hb] at h
  exact h
theorem cells3 {W : World} {b : Nat} {x y z : Value} {t : TypeId} (h : W.heap[b]? = some (.cells #[x, y, z] t (0, 0))) : W.cell? ⟨b, 0, none⟩ = some x ∧ W.cell? ⟨b, 1, none⟩ = some y ∧ W.cell? ⟨b, 2, none⟩ = some z := by
  refine ⟨?_, ?_, ?_⟩ <;> simp [World.cell?, h]
theorem cells4 {W : World} {b : Nat} {x y z v : Value} {t : TypeId} (h : W.heap[b]? = some (.cells #[x, y, z, v] t (0, 0))) : W.cell? ⟨b, 0, none⟩ = some x ∧ W.cell? ⟨b, 1, none⟩ = some y ∧ W.cell? ⟨b, 2, none⟩ = some z ∧ W.cell? ⟨b, 3, none⟩ = some v := by
  refine ⟨?_, ?_, ?_, ?_⟩ <;> simp [World.cell?, h]

/-- The results of Apply. -/
def apv (s : ByteArray) (e : Ed) : Value := if Fit s.size e then .tuple #[.string (ap s e), .int .i64 0] else .tuple #[.string .empty, .int .i64 2]
theorem apv_yes {s : ByteArray} {e : Ed} (h : Fit s.size e) : apv s e = .tuple #[.string (ap s e), .int .i64 0] := if_pos h
theorem apv_no {s : ByteArray} {e : Ed} (h : ¬ Fit s.size e) : apv s e = .tuple #[.string .empty, .int .i64 2] := if_neg h
theorem ap_def (s t : ByteArray) (a d : Nat) : s.extract 0 a ++ t ++ s.extract (a + d) s.size = ap s ((a : Int), (d : Int), t) := by
  unfold ap; simp only [Int.toNat_natCast]
theorem wrapIn {a : Int} (h1 : -9223372036854775808 ≤ a) (h2 : a ≤ 9223372036854775807) : IntKind.i64.wrap a = a := IntWalk.i64_in _ (by omega)

set_option maxRecDepth 100000 in
set_option maxHeartbeats 2000000 in
theorem apply_any (s t : ByteArray) (a d : Int) (w : World) (hs : s.size ≤ 1000000) (ht : t.size ≤ 1000000) (ha : a ≤ 9223372036854775807) :
    Calls Try.prog 14 #[.string s, .agg #[.int .i64 a, .int .i64 d, .string t]] w fun e w' => e = .returned (apv s (a, d, t)) ∧ Below w.heap.size w w' := by
  have b1 : Below w.heap.size w (w.alloc (.cells #[.int .i64 a, .int .i64 d, .string t] 23)) := (Below.refl _ _).alloc (Nat.le_refl _) _
  have s1 : (s.size : Int) ≤ 1000000000000000 := by omega
  have s0 : (0 : Int) ≤ (s.size : Int) := by omega
  by_cases hf : Fit s.size (a, d, t)
  · have HF := hid hf
    obtain ⟨x, y, t', he, hl⟩ := hf.nat
    simp only [Prod.mk.injEq] at he
    obtain ⟨rfl, rfl, rfl⟩ := he
    have a0 : (0 : Int) ≤ (x : Int) := by omega
    have d0 : (0 : Int) ≤ (y : Int) := by omega
    have a1 : (x : Int) ≤ (s.size : Int) := by omega
    have a2 : (x : Int) + (y : Int) ≤ (s.size : Int) := by omega
    have e4 : IntKind.i64.wrap (↑x + ↑y) = (x : Int) + (y : Int) := wrapIn (by omega) (by omega)
    clear hf
    go_enter Try.func14, Try.ntmps14
    go_wp2_with (go_at_call 27; refine (ends_yes _ _ _ _ _ s0 s1 HF.out).mono ?_; rintro e w1 ⟨rfl, hbl⟩)
    obtain ⟨c0, c1, c2⟩ := cells3 ((hbl.block _ (by simp)).trans (alloc_new w (.cells #[.int .i64 x, .int .i64 y, .string t] 23)))
    have z1 : (s.extract 0 x).size ≤ 1000000 := by rw [ByteArray.size_extract]; omega
    have z2 : (s.extract (x + y) s.size).size ≤ 1000000 := by rw [ByteArray.size_extract]; omega
    have z3 : (s.extract 0 x ++ t).size ≤ 2000000 := by rw [ByteArray.size_append]; omega
    go_quiet (fail)
    go_wp2
    go_ret2
    rw [apv_yes HF.out, ← ap_def]
    exact ⟨rfl, ⟨hbl.os, hbl.tape, hbl.output, Nat.le_trans b1.size hbl.size, fun k hk => (hbl.block k (by simp; omega)).trans (b1.block k hk)⟩⟩
  · have HF := hid hf
    clear hf
    go_enter Try.func14, Try.ntmps14
    go_wp2_with (go_at_call 27; refine (ends_no _ _ _ _ _ s0 s1 ha HF.out).mono ?_; rintro e w1 ⟨rfl, hbl⟩)
    go_ret2
    rw [apv_no HF.out]
    exact ⟨rfl, b1.trans (hbl.mono (by simp))⟩
set_option maxRecDepth 100000 in
set_option maxHeartbeats 2000000 in
theorem rapply_any (s t : ByteArray) (a d : Int) (w : World) (hs : s.size ≤ 1000000) (ht : t.size ≤ 1000000) :
    Calls Try.prog 15 #[.string s, .agg #[.int .i64 a, .int .i64 d, .string t]] w fun e w' => e = .returned (apv s (a, d, t)) ∧ Below w.heap.size w w' := by
  have b1 : Below w.heap.size w (w.alloc (.cells #[.int .i64 a, .int .i64 d, .string t] 23)) := (Below.refl _ _).alloc (Nat.le_refl _) _
  by_cases hf : Fit s.size (a, d, t)
  · have HF := hid hf
    obtain ⟨x, y, t', he, hl⟩ := hf.nat
    simp only [Prod.mk.injEq] at he
    obtain ⟨rfl, rfl, rfl⟩ := he
    have a0 : (0 : Int) ≤ (x : Int) := by omega
    have d0 : (0 : Int) ≤ (y : Int) := by omega
    have a1 : (x : Int) ≤ (s.size : Int) := by omega
    have a2 : (x : Int) + (y : Int) ≤ (s.size : Int) := by omega
    have e4 : IntKind.i64.wrap (↑x + ↑y) = (x : Int) + (y : Int) := wrapIn (by omega) (by omega)
    clear hf
    go_enter Try.func15, Try.ntmps15
    go_wp2_with (go_at_call 25; refine (fits_yes _ _ _ _ _ hs HF.out).mono ?_; rintro e w1 ⟨rfl, hbl⟩)
    obtain ⟨c0, c1, c2⟩ := cells3 ((hbl.block _ (by simp)).trans (alloc_new w (.cells #[.int .i64 x, .int .i64 y, .string t] 23)))
    have z1 : (s.extract 0 x).size ≤ 1000000 := by rw [ByteArray.size_extract]; omega
    have z2 : (s.extract (x + y) s.size).size ≤ 1000000 := by rw [ByteArray.size_extract]; omega
    have z3 : (s.extract 0 x ++ t).size ≤ 2000000 := by rw [ByteArray.size_append]; omega
    go_quiet (fail)
    go_wp2
    go_ret2
    rw [apv_yes HF.out, ← ap_def]
    exact ⟨rfl, ⟨hbl.os, hbl.tape, hbl.output, Nat.le_trans b1.size hbl.size, fun k hk => (hbl.block k (by simp; omega)).trans (b1.block k hk)⟩⟩
  · have HF := hid hf
    clear hf
    go_enter Try.func15, Try.ntmps15
    go_wp2_with (go_at_call 25; refine (fits_no _ _ _ _ _ hs HF.out).mono ?_; rintro e w1 ⟨rfl, hbl⟩)
    go_ret2
    rw [apv_no HF.out]
    exact ⟨rfl, b1.trans (hbl.mono (by simp))⟩

end Go.Proofs.Ytclebcpapcoafaa
