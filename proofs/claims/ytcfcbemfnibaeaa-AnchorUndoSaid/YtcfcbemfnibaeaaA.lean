/-
  Contracts: Small, Fits, at, right, Move and its reference.
-/
import Derived.Test.YtcfcbemfnibaeaaProg
import Derived.WalkKit
import Derived.Below
import Derived.OneCell
import Derived.Deep.RegionHeld3
import Derived.Deep.LoopGhost
import Derived.Outline

namespace Go.Proofs.Ytcfcbemfnibaeaa
open Go.RowKit

theorem hid {p : Prop} (h : p) : Hid p := h

/-- Where an anchor goes. -/
def mv (o : Int) (r : Bool) (a d n : Int) : Int := if o < a then o else if a + d < o then o + (n - d) else if r = true then a + n else a

def SmallP (o a d : Int) (n : Nat) : Prop := 0 ≤ o ∧ o ≤ 1000 ∧ 0 ≤ a ∧ a ≤ 1000 ∧ 0 ≤ d ∧ d ≤ 1000 ∧ n ≤ 1000

set_option maxHeartbeats 1000000 in
theorem small_yes (o a d : Int) (r : Bool) (s : ByteArray) (w : World) (h : SmallP o a d s.size) :
    Calls Try.prog 8 #[.agg #[.int .i64 o, .bool r], .agg #[.int .i64 a, .int .i64 d, .string s]] w fun e w' => e = .returned (.bool true) ∧ Below w.heap.size w w' := by
  obtain ⟨h1, h2, h3, h4, h5, h6, h7⟩ := h
  have h7' : (s.size : Int) ≤ 1000 := by omega
  go_enter Try.func8, Try.ntmps8
  go_wp2
  go_ret
  exact ⟨rfl, ((Below.refl _ _).alloc (Nat.le_refl _) _).alloc (by simp) _⟩

set_option maxHeartbeats 1000000 in
theorem small_no (o a d : Int) (r : Bool) (s : ByteArray) (w : World) (h : ¬ SmallP o a d s.size) :
    Calls Try.prog 8 #[.agg #[.int .i64 o, .bool r], .agg #[.int .i64 a, .int .i64 d, .string s]] w fun e w' => e = .returned (.bool false) ∧ Below w.heap.size w w' := by
  have h := hid h
  go_enter Try.func8, Try.ntmps8
  go_wp2
  all_goals
    go_ret
    refine ⟨?_, ((Below.refl _ _).alloc (Nat.le_refl _) _).alloc (by simp) _⟩
    first
      | rfl
      | (have : ¬ (s.size : Int) ≤ 1000 := fun h' => h.out ⟨by assumption, by assumption, by assumption, by assumption, by assumption, by assumption, by omega⟩
         simp [this])

theorem mv_a {o a d n : Int} {r : Bool} (h : o < a) : o = mv o r a d n := by unfold mv; rw [if_pos h]
theorem mv_b {o a d n x : Int} {r : Bool} (h : a ≤ o) (h' : a + d < o) (hx : x = o + (n - d)) : x = mv o r a d n := by unfold mv; rw [if_neg (by omega), if_pos h']; exact hx
theorem mv_c {o a d n : Int} (h : a ≤ o) (h' : o ≤ a + d) : a + n = mv o true a d n := by unfold mv; rw [if_neg (by omega), if_neg (by omega), if_pos rfl]
theorem mv_d {o a d n : Int} (h : a ≤ o) (h' : o ≤ a + d) : a = mv o false a d n := by unfold mv; rw [if_neg (by omega), if_neg (by omega)]; rfl
theorem ret_agg {a b : Int} {r : Bool} (h : a = b) : Ending.returned (.agg #[.int .i64 a, .bool r]) = .returned (.agg #[.int .i64 b, .bool r]) := by rw [h]

/-- Numbers that the walk can add without a wrap. -/
def Mid (o a d : Int) (n : Nat) : Prop := 0 ≤ o ∧ o ≤ 1000000 ∧ 0 ≤ a ∧ a ≤ 1000000 ∧ 0 ≤ d ∧ d ≤ 1000000 ∧ n ≤ 1000000

set_option maxHeartbeats 1000000 in
theorem move_any (o a d : Int) (r : Bool) (s : ByteArray) (w : World) (h : Mid o a d s.size) :
    Calls Try.prog 10 #[.agg #[.int .i64 o, .bool r], .agg #[.int .i64 a, .int .i64 d, .string s]] w fun e w' => e = .returned (.agg #[.int .i64 (mv o r a d s.size), .bool r]) ∧ Below w.heap.size w w' := by
  obtain ⟨h1, h2, h3, h4, h5, h6, h7⟩ := h
  have h7' : (s.size : Int) ≤ 1000000 := by omega
  have h0 : (0 : Int) ≤ (s.size : Int) := by omega
  go_enter Try.func10, Try.ntmps10
  go_wp2
  · refine bodyPost_ret (v := .agg #[.int .i64 o, .bool r]) (by simp [results, Try.results10, go_sem]) rfl ⟨ret_agg (mv_a (by assumption)), ?_⟩
    repeat (first | exact Below.refl _ _ | refine Below.alloc ?_ (by first | (simp; done) | (simp; omega)) _ | refine Below.setCell ?_ (by first | (simp; done) | (simp; omega)) _)
  · refine bodyPost_ret (v := .agg #[.int .i64 (o + (s.size - d)), .bool r]) (by simp [results, Try.results10, go_sem]) rfl ⟨ret_agg (mv_b (by assumption) (by assumption) (by omega)), ?_⟩
    repeat (first | exact Below.refl _ _ | refine Below.alloc ?_ (by first | (simp; done) | (simp; omega)) _ | refine Below.setCell ?_ (by first | (simp; done) | (simp; omega)) _)
  · have hr : r = true := by assumption
    subst hr
    refine bodyPost_ret (v := .agg #[.int .i64 (a + s.size), .bool true]) (by simp [results, Try.results10, go_sem]) rfl ⟨ret_agg (mv_c (by assumption) (by assumption)), ?_⟩
    repeat (first | exact Below.refl _ _ | refine Below.alloc ?_ (by first | (simp; done) | (simp; omega)) _ | refine Below.setCell ?_ (by first | (simp; done) | (simp; omega)) _)
  · have hr : r = false := by assumption
    subst hr
    refine bodyPost_ret (v := .agg #[.int .i64 a, .bool false]) (by simp [results, Try.results10, go_sem]) rfl ⟨ret_agg (mv_d (by assumption) (by assumption)), ?_⟩
    repeat (first | exact Below.refl _ _ | refine Below.alloc ?_ (by first | (simp; done) | (simp; omega)) _ | refine Below.setCell ?_ (by first | (simp; done) | (simp; omega)) _)

set_option maxHeartbeats 1000000 in
theorem rmove_any (o a d : Int) (r : Bool) (s : ByteArray) (w : World) (h : Mid o a d s.size) :
    Calls Try.prog 11 #[.agg #[.int .i64 o, .bool r], .agg #[.int .i64 a, .int .i64 d, .string s]] w fun e w' => e = .returned (.agg #[.int .i64 (mv o r a d s.size), .bool r]) ∧ Below w.heap.size w w' := by
  obtain ⟨h1, h2, h3, h4, h5, h6, h7⟩ := h
  have h7' : (s.size : Int) ≤ 1000000 := by omega
  have h0 : (0 : Int) ≤ (s.size : Int) := by omega
  go_enter Try.func11, Try.ntmps11
  go_wp2
  · refine bodyPost_ret (v := .agg #[.int .i64 o, .bool r]) (by simp [results, Try.results11, go_sem]) rfl ⟨ret_agg (mv_a (by assumption)), ?_⟩
    repeat (first | exact Below.refl _ _ | refine Below.alloc ?_ (by first | (simp; done) | (simp; omega)) _ | refine Below.setCell ?_ (by first | (simp; done) | (simp; omega)) _)
  · refine bodyPost_ret (v := .agg #[.int .i64 (o + s.size - d), .bool r]) (by simp [results, Try.results11, go_sem]) rfl ⟨ret_agg (mv_b (by assumption) (by assumption) (by omega)), ?_⟩
    repeat (first | exact Below.refl _ _ | refine Below.alloc ?_ (by first | (simp; done) | (simp; omega)) _ | refine Below.setCell ?_ (by first | (simp; done) | (simp; omega)) _)
  · have hr : r = true := by assumption
    subst hr
    refine bodyPost_ret (v := .agg #[.int .i64 (a + s.size), .bool true]) (by simp [results, Try.results11, go_sem]) rfl ⟨ret_agg (mv_c (by assumption) (by assumption)), ?_⟩
    repeat (first | exact Below.refl _ _ | refine Below.alloc ?_ (by first | (simp; done) | (simp; omega)) _ | refine Below.setCell ?_ (by first | (simp; done) | (simp; omega)) _)
  · have hr : r = false := by assumption
    subst hr
    refine bodyPost_ret (v := .agg #[.int .i64 a, .bool false]) (by simp [results, Try.results11, go_sem]) rfl ⟨ret_agg (mv_d (by assumption) (by assumption)), ?_⟩
    repeat (first | exact Below.refl _ _ | refine Below.alloc ?_ (by first | (simp; done) | (simp; omega)) _ | refine Below.setCell ?_ (by first | (simp; done) | (simp; omega)) _)

end Go.Proofs.Ytcfcbemfnibaeaa
