/-
  Contracts: the reference's functions.
-/
import Derived.Test.YtaafnodabjbakaaG
import Derived.Laws.ShiftsVarLaws
namespace Go.Proofs.Ytaafnodabjbakaa
open Go.RowKit Rp

set_option maxRecDepth 100000 in
set_option maxHeartbeats 2000000 in
theorem Bound_any (n : Nat) (hn : n ≤ 1000000000) (w : World) :
    Calls Try.prog 27 #[.int .i64 n] w fun e w' => e = .returned (.int .i64 (hb n)) ∧ w = w' := by
  by_cases h : n ≤ 64
  · have h' : (n : Int) ≤ 64 := by omega
    go_enter Try.func27, Try.ntmps27
    go_wp2
    go_ret
    exact ⟨ret_int (by unfold hb; rw [if_pos h]; rfl), rfl⟩
  · have h' : (64 : Int) < (n : Int) := by omega
    obtain ⟨m, hm⟩ : ∃ m, m = (n - 1) / 64 := ⟨_, rfl⟩
    have hd : ((n : Int) + 63) / 64 = (m : Int) + 1 := by omega
    have hm1 : (m : Int) ≤ 100000000 := by omega
    have hbl : bl m ≤ 30 := bl_le (by omega)
    have HF := hid (show (hb n : Int) = 2 * (bl m : Int) + 2 by unfold hb; rw [if_neg h, ← hm]; omega)
    have HL := hid (lt_bl m)
    clear hm
    go_enter Try.func27, Try.ntmps27
    go_wp2
    go_loopg [4] (bl m) (fun g kv wr => ∃ k : Nat, kv = .int .i64 k ∧ k + g = bl m ∧ w = wr)
    case atStart => exact ⟨0, rfl, by omega, rfl⟩
    case round =>
      obtain ⟨k, rfl, hk, rfl⟩ := hrel
      have HK := hid hk
      have hk1 : k ≤ 30 := by omega
      have hk0 : (0 : Int) ≤ (k : Int) := by omega
      have hk2 : (k : Int) ≤ 30 := by omega
      have hkb : k ≤ bl m := by omega
      have hkg : bl m ≤ k + gk := by omega
      obtain ⟨p, hp⟩ : ∃ p : Nat, p = 2 ^ k := ⟨_, rfl⟩
      have hp30 : p ≤ 1073741824 := by rw [hp]; exact Nat.pow_le_pow_right (by omega) hk1
      have hw : wrap64 (2 ^ k) = (p : Int) := by
        have e : ((2 : Int) ^ k) = (p : Int) := by rw [hp]; simp
        rw [e]; exact IntWalk.wrap64_in _ ⟨by omega, by omega⟩
      have HP := hid hp
      clear hk hp
      by_cases hlt : p < m + 1
      · have hlt' : (p : Int) < (m : Int) + 1 := by omega
        have hg0 : k < bl m := by
          have h1 := HL.out
          have h2 := HP.out
          rcases Nat.lt_or_ge k (bl m) with h3 | h3
          · exact h3
          · have := Nat.pow_le_pow_right (n := 2) (by omega) h3
            omega
        go_wp2
        go_roundg (gk - 1)
        case measure => omega
        case rel => exact ⟨k + 1, by go_num, by have := HK.out; omega, rfl⟩
      · have hlt' : (m : Int) + 1 ≤ (p : Int) := by omega
        have hkm : bl m ≤ k := bl_le (by rw [← HP.out]; omega)
        go_wp2
        go_ret
        exact ⟨ret_int (by rw [HF.out]; omega), rfl⟩

set_option maxHeartbeats 400000 in
theorem Fits_any (n : Nat) (a d : Int) (s : ByteArray) (w : World) (hn : n ≤ 1000000000) (h1 : 0 ≤ a) (h2 : 0 ≤ d) (h3 : a ≤ n) (h4 : d ≤ (n : Int) - a) :
    Calls Try.prog 22 #[.int .i64 n, .agg #[.int .i64 a, .int .i64 d, .string s]] w fun e w' => e = .returned (.bool true) ∧ Below w.heap.size w w' := by
  go_enter Try.func22, Try.ntmps22
  go_wp2
  go_ret
  exact ⟨rfl, (Below.refl _ _).alloc (Nat.le_refl _) _⟩

set_option maxHeartbeats 400000 in
theorem Fits_no (n : Nat) (a d : Int) (s : ByteArray) (w : World) (hn : n ≤ 1000000000) (hx : a < 0 ∨ (0 ≤ a ∧ d < 0) ∨ (0 ≤ a ∧ 0 ≤ d ∧ (n : Int) < a) ∨ (0 ≤ a ∧ 0 ≤ d ∧ a ≤ (n : Int) ∧ (n : Int) - a < d)) :
    Calls Try.prog 22 #[.int .i64 n, .agg #[.int .i64 a, .int .i64 d, .string s]] w fun e w' => e = .returned (.bool false) ∧ Below w.heap.size w w' := by
  rcases hx with h1 | ⟨h1, h2⟩ | ⟨h1, h2, h3⟩ | ⟨h1, h2, h3, h4⟩
  · go_enter Try.func22, Try.ntmps22
    go_wp2
    go_ret
    exact ⟨rfl, (Below.refl _ _).alloc (Nat.le_refl _) _⟩
  · go_enter Try.func22, Try.ntmps22
    go_wp2
    go_ret
    exact ⟨rfl, (Below.refl _ _).alloc (Nat.le_refl _) _⟩
  · go_enter Try.func22, Try.ntmps22
    go_wp2
    go_ret
    exact ⟨rfl, (Below.refl _ _).alloc (Nat.le_refl _) _⟩
  · have hd := hid (show decide (d ≤ (n : Int) - a) = false by simp; omega)
    go_enter Try.func22, Try.ntmps22
    go_wp2
    go_ret
    refine ⟨?_, (Below.refl _ _).alloc (Nat.le_refl _) _⟩
    show Ending.returned (.bool (decide (d ≤ (n : Int) - a))) = _
    rw [hd.out]

set_option maxHeartbeats 400000 in
theorem refByte_ok (s : ByteArray) (k : Nat) (c : UInt8) (hc : s.data.toList[k]? = some c) (w : World) :
    Calls Try.prog 20 #[.string s, .int .i64 k] w fun e w' => e = .returned (.tuple #[.int .u8 c.toNat, .int .i64 0]) ∧ w = w' := by
  have hk : k < s.size := by have := (List.getElem?_eq_some_iff.1 hc).1; simpa using this
  have hki : (k : Int) < (s.size : Int) := by omega
  have hk0 : (0 : Int) ≤ (k : Int) := by omega
  have HC := hid hc
  clear hc
  go_enter Try.func20, Try.ntmps20
  go_wp2
  go_ret2
  refine ⟨?_, rfl⟩
  have := byte_eq hk HC.out
  show Ending.returned (.tuple #[.int .u8 ↑s[k].toNat, .int .i64 0]) = _
  rw [this]

set_option maxHeartbeats 400000 in
theorem refByte_no (s : ByteArray) (k : Int) (w : World) (hk : k < 0 ∨ (0 ≤ k ∧ (s.size : Int) ≤ k)) :
    Calls Try.prog 20 #[.string s, .int .i64 k] w fun e w' => e = .returned (.tuple #[.int .u8 0, .int .i64 2]) ∧ w = w' := by
  rcases hk with hk | ⟨h1, h2⟩
  all_goals
    go_enter Try.func20, Try.ntmps20
    go_wp2
    go_ret2
    exact ⟨rfl, rfl⟩

set_option maxHeartbeats 400000 in
theorem refSlice_ok (s : ByteArray) (a b : Nat) (hab : a ≤ b) (hb : b ≤ s.size) (w : World) :
    Calls Try.prog 18 #[.string s, .int .i64 a, .int .i64 b] w fun e w' => e = .returned (.tuple #[.string (s.extract a b), .int .i64 0]) ∧ w = w' := by
  have a0 : (0 : Int) ≤ (a : Int) := by omega
  have a1 : (a : Int) ≤ (b : Int) := by omega
  have a2 : (b : Int) ≤ (s.size : Int) := by omega
  go_enter Try.func18, Try.ntmps18
  go_wp2
  go_ret2
  exact ⟨rfl, rfl⟩

set_option maxHeartbeats 400000 in
theorem refSlice_no (s : ByteArray) (a b : Int) (w : World) (hx : a < 0 ∨ (0 ≤ a ∧ b < a) ∨ (0 ≤ a ∧ a ≤ b ∧ (s.size : Int) < b)) :
    Calls Try.prog 18 #[.string s, .int .i64 a, .int .i64 b] w fun e w' => e = .returned (.tuple #[.string .empty, .int .i64 2]) ∧ w = w' := by
  rcases hx with h1 | ⟨h1, h2⟩ | ⟨h1, h2, h3⟩
  all_goals
    go_enter Try.func18, Try.ntmps18
    go_wp2
    go_ret2
    exact ⟨rfl, rfl⟩

set_option maxRecDepth 100000 in
set_option maxHeartbeats 2000000 in
theorem refReplace_ok (s : ByteArray) (a d : Nat) (ins : ByteArray) (w : World) (hs : s.size ≤ 100000000) (hi : ins.size ≤ 100000000) (h : a + d ≤ s.size) :
    Calls Try.prog 16 #[.string s, .agg #[.int .i64 a, .int .i64 d, .string ins]] w fun e w' => e = .returned (.tuple #[.string (s.extract 0 a ++ ins ++ s.extract (a + d) s.size), .int .i64 0]) ∧ Below w.heap.size w w' := by
  have b1 : Below w.heap.size w (w.alloc (.cells #[.int .i64 a, .int .i64 d, .string ins] 32)) := (Below.refl _ _).alloc (Nat.le_refl _) _
  have a0 : (0 : Int) ≤ (a : Int) := by omega
  have d0 : (0 : Int) ≤ (d : Int) := by omega
  have a1 : (a : Int) ≤ (s.size : Int) := by omega
  have a2 : (a : Int) + (d : Int) ≤ (s.size : Int) := by omega
  have a3 : (d : Int) ≤ (s.size : Int) - (a : Int) := by omega
  have e4 : IntKind.i64.wrap (↑a + ↑d) = (a : Int) + (d : Int) := wrapIn (by omega) (by omega)
  go_enter Try.func16, Try.ntmps16
  go_wp2_with (go_at_call 22; refine (Fits_any s.size a d ins _ (by omega) a0 d0 a1 a3).mono ?_; rintro e w1 ⟨rfl, hbl⟩)
  have hbx : w1.heap[w.heap.size]? = some (.cells #[.int .i64 a, .int .i64 d, .string ins] 32 (0, 0)) := (hbl.block _ (by simp)).trans (alloc_new _ _)
  have c0 : w1.cell? ⟨w.heap.size, 0, none⟩ = some (.int .i64 a) := by show World.cell? w1 ⟨w.heap.size, 0, none⟩ = _; unfold World.cell?; rw [hbx]; rfl
  have c1 : w1.cell? ⟨w.heap.size, 1, none⟩ = some (.int .i64 d) := by show World.cell? w1 ⟨w.heap.size, 1, none⟩ = _; unfold World.cell?; rw [hbx]; rfl
  have c2 : w1.cell? ⟨w.heap.size, 2, none⟩ = some (.string ins) := by show World.cell? w1 ⟨w.heap.size, 2, none⟩ = _; unfold World.cell?; rw [hbx]; rfl
  clear hbx
  have z1 : (s.extract 0 a).size ≤ 100000000 := by rw [ByteArray.size_extract]; omega
  have z2 : (s.extract (a + d) s.size).size ≤ 100000000 := by rw [ByteArray.size_extract]; omega
  have z3 : (s.extract 0 a ++ ins).size ≤ 200000000 := by rw [ByteArray.size_append]; omega
  go_quiet (fail)
  go_wp2
  go_ret2
  exact ⟨rfl, ⟨hbl.os, hbl.tape, hbl.output, Nat.le_trans b1.size hbl.size, fun k hk => (hbl.block k (by simp; omega)).trans (b1.block k hk)⟩⟩

theorem refReplace_no (s : ByteArray) (a d : Int) (ins : ByteArray) (w : World) (hs : s.size ≤ 100000000)
    (hx : a < 0 ∨ (0 ≤ a ∧ d < 0) ∨ (0 ≤ a ∧ 0 ≤ d ∧ (s.size : Int) < a) ∨ (0 ≤ a ∧ 0 ≤ d ∧ a ≤ (s.size : Int) ∧ (s.size : Int) - a < d)) :
    Calls Try.prog 16 #[.string s, .agg #[.int .i64 a, .int .i64 d, .string ins]] w fun e w' => e = .returned (.tuple #[.string .empty, .int .i64 2]) ∧ Below w.heap.size w w' := by
  have b1 : Below w.heap.size w (w.alloc (.cells #[.int .i64 a, .int .i64 d, .string ins] 32)) := (Below.refl _ _).alloc (Nat.le_refl _) _
  go_enter Try.func16, Try.ntmps16
  go_wp2_with (go_at_call 22; refine (Fits_no s.size a d ins _ (by omega) hx).mono ?_; rintro e w1 ⟨rfl, hbl⟩)
  go_ret2
  exact ⟨rfl, b1.trans (hbl.mono (by simp))⟩

end Go.Proofs.Ytaafnodabjbakaa
