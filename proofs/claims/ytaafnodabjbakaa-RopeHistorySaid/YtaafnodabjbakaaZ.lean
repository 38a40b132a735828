/-
  Each answer of the rope and of the reference, side by side: one and the same value.
-/
import Derived.Test.YtaafnodabjbakaaY
namespace Go.Proofs.Ytaafnodabjbakaa
open Go.RowKit Rp

/-- Slice and the reference's Slice answer alike. -/
theorem slice_pair (s : ByteArray) (a b : Int) (hs : s.size ≤ 100000000) : ∃ (v : ByteArray) (n : Int),
    (∀ p w, Rope w p s.data.toList → Calls Try.prog 17 #[.agg #[.pointer p], .int .i64 a, .int .i64 b] w fun e w' => e = .returned (.tuple #[.string v, .int .i64 n]) ∧ Below w.heap.size w w') ∧
    (∀ w, Calls Try.prog 18 #[.string s, .int .i64 a, .int .i64 b] w fun e w' => e = .returned (.tuple #[.string v, .int .i64 n]) ∧ w = w') := by
  have hl : s.data.toList.length = s.size := by simp
  by_cases hx : a < 0 ∨ (0 ≤ a ∧ b < a) ∨ (0 ≤ a ∧ a ≤ b ∧ (s.size : Int) < b)
  · exact ⟨.empty, 2, fun p w h => Slice_no p _ w h a b (by rw [hl]; exact hx), fun w => refSlice_no s a b w hx⟩
  · obtain ⟨i, rfl⟩ : ∃ i : Nat, a = i := ⟨a.toNat, by omega⟩
    obtain ⟨j, rfl⟩ : ∃ j : Nat, b = j := ⟨b.toNat, by omega⟩
    refine ⟨s.extract i j, 0, fun p w h => ?_, fun w => refSlice_ok s i j (by omega) (by omega) w⟩
    refine (Slice_ok p _ w h i j (by omega) (by omega) (by omega)).mono ?_
    rintro e w' ⟨rfl, hb⟩
    exact ⟨by rw [← extract_toList, mk_toList], hb⟩

/-- Byte and the reference's Byte answer alike. -/
theorem byte_pair (s : ByteArray) (a : Int) (hs : s.size ≤ 100000000) : ∃ (c n : Int),
    (∀ p w, Rope w p s.data.toList → Calls Try.prog 19 #[.agg #[.pointer p], .int .i64 a] w fun e w' => e = .returned (.tuple #[.int .u8 c, .int .i64 n]) ∧ Below w.heap.size w w') ∧
    (∀ w, Calls Try.prog 20 #[.string s, .int .i64 a] w fun e w' => e = .returned (.tuple #[.int .u8 c, .int .i64 n]) ∧ w = w') := by
  have hl : s.data.toList.length = s.size := by simp
  by_cases hx : a < 0 ∨ (s.size : Int) ≤ a
  · exact ⟨0, 2, fun p w h => Byte_no p _ w h a (by rw [hl]; exact hx), fun w => refByte_no s a w (by omega)⟩
  · obtain ⟨i, rfl⟩ : ∃ i : Nat, a = i := ⟨a.toNat, by omega⟩
    have hi : i < s.data.toList.length := by omega
    have hc : s.data.toList[i]? = some s.data.toList[i] := List.getElem?_eq_getElem hi
    exact ⟨_, 0, fun p w h => Byte_ok p _ w h i _ hc (by omega), fun w => refByte_ok s i _ hc w⟩

theorem rope_none (w : World) : Rope w none (ByteArray.empty).data.toList := by
  refine ⟨none, ⟨?_, ?_, ?_⟩, rfl⟩
  · rfl
  · trivial
  · trivial

/-- Replace and the reference's Replace answer alike. -/
theorem replace_pair (s : ByteArray) (a d : Int) (ins : ByteArray) (hs : s.size ≤ 100000000) (hi : ins.size ≤ 100000000) : ∃ (t : ByteArray) (n : Int), t.size ≤ s.size + ins.size ∧ (n = 0 ∨ n = 2) ∧
    (∀ p w, Rope w p s.data.toList → Calls Try.prog 15 #[.agg #[.pointer p], .agg #[.int .i64 a, .int .i64 d, .string ins]] w fun e w' => ∃ r : Option Addr, e = .returned (.tuple #[.agg #[.pointer r], .int .i64 n]) ∧ Rope w' r t.data.toList ∧ Below w.heap.size w w') ∧
    (∀ w, Calls Try.prog 16 #[.string s, .agg #[.int .i64 a, .int .i64 d, .string ins]] w fun e w' => e = .returned (.tuple #[.string t, .int .i64 n]) ∧ Below w.heap.size w w') := by
  have hl : s.data.toList.length = s.size := by simp
  by_cases hx : a < 0 ∨ (0 ≤ a ∧ d < 0) ∨ (0 ≤ a ∧ 0 ≤ d ∧ (s.size : Int) < a) ∨ (0 ≤ a ∧ 0 ≤ d ∧ a ≤ (s.size : Int) ∧ (s.size : Int) - a < d)
  · refine ⟨.empty, 2, by simp, .inr rfl, fun p w h => ?_, fun w => refReplace_no s a d ins w hs hx⟩
    refine (Replace_no p _ w h a d ins (by omega) (by rw [hl]; exact hx)).mono ?_
    rintro e w' ⟨rfl, hb⟩
    exact ⟨none, rfl, rope_none w', hb⟩
  · obtain ⟨i, rfl⟩ : ∃ i : Nat, a = i := ⟨a.toNat, by omega⟩
    obtain ⟨j, rfl⟩ : ∃ j : Nat, d = j := ⟨d.toNat, by omega⟩
    refine ⟨s.extract 0 i ++ ins ++ s.extract (i + j) s.size, 0, ?_, .inl rfl, fun p w h => ?_, fun w => refReplace_ok s i j ins w hs hi (by omega)⟩
    · simp only [ByteArray.size_append, ByteArray.size_extract]; omega
    · refine (Replace_ok p _ w h i j ins (by omega) (by omega) hi).mono ?_
      rintro e w' ⟨r, rfl, hr, hb⟩
      refine ⟨r, rfl, ?_, hb⟩
      have key : (s.extract 0 i ++ ins ++ s.extract (i + j) s.size).data.toList = s.data.toList.take i ++ ins.data.toList ++ s.data.toList.drop (i + j) := by
        simp only [ByteArray.data_append, Array.toList_append, extract_toList, List.drop_zero, Nat.sub_zero]
        congr 1
        exact List.take_of_length_le (by simp)
      rw [key]; exact hr

theorem setCell_box {W : World} {B : Nat} {u v : Value} (h : W.heap[B]? = some (.cells #[v] 26 (0, 0))) : (W.setCell ⟨B, 0, none⟩ u).heap[B]? = some (.cells #[u] 26 (0, 0)) := by
  simp [World.setCell, Array.getElem?_modify, h]

end Go.Proofs.Ytaafnodabjbakaa
