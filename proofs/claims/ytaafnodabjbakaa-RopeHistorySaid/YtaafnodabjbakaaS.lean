/-
  Contracts: Slice and its function.
-/
import Derived.Test.YtaafnodabjbakaaVS
namespace Go.Proofs.Ytaafnodabjbakaa
open Go.RowKit Rp

theorem builder_grow0 {B b : Nat} {bs : List Value} {w w' : World} (h : Lib.IsBuilderF 66 5 B b bs w) (hg : w.grownBy w' none) : Lib.IsBuilderF 66 5 B b bs w' := by
  have key : ∀ p, Lib.BuilderAtF 66 5 B b p bs w → Lib.BuilderAtF 66 5 B b p bs w' := by
    rintro p ⟨hB, v, hb, hown, hne⟩
    exact ⟨hB, v, (hg.block b (heap_lt hb) (by simp)).trans hb, hown.kept hg (Decidable.em _), hne⟩
  exact h.imp (key _) (key _)

set_option maxHeartbeats 400000 in
theorem fn33_any (Bb : Nat) (pre : List Pc) (x : Pc) (W : World) (h : Lib.IsBuilderF 66 5 Bb Bb (Lib.byteCells (px pre)) W) (hl : pre.length ≤ 1000000000) (hB : Bb ≤ W.heap.size) :
    Calls Try.prog 33 #[.string x.1, .pointer (some ⟨Bb, 0, none⟩)] W fun e W' =>
      e = .returned (.bool true) ∧ Lib.IsBuilderF 66 5 Bb Bb (Lib.byteCells (px (pre ++ [x]))) W' ∧ Below Bb W W' := by
  have h1 := (px_len pre).2
  have h2 := x.2.2
  obtain ⟨s, hs⟩ : ∃ s, s = x.1 := ⟨_, rfl⟩
  have hs2 : s.size ≤ 64 := by rw [hs]; exact h2
  have HS := hid (show px (pre ++ [x]) = px pre ++ s.data.toList by rw [px_snoc, hs])
  rw [← hs]
  clear hs h2
  go_enter Try.func33, Try.ntmps33
  go_wp2_with (go_at_call 34; refine (Try.Builder_WriteString_k Bb Bb _ s W h (by rw [Lib.byteCells_length]; omega) hB).mono ?_; rintro e W' ⟨rfl, hb, hbl, hk⟩)
  go_ret
  refine ⟨rfl, ?_, hbl⟩
  rw [HS.out, Lib.byteCells_append]
  exact Or.inr hb

set_option maxHeartbeats 400000 in
theorem visit_nil (f t : Int) (y : Value) (w : World) :
    Calls Try.prog 32 #[.pointer none, .int .i64 f, .int .i64 t, y] w fun e w' => e = .returned (.bool true) ∧ w = w' := by
  go_enter Try.func32, Try.ntmps32
  go_wp2
  go_ret
  exact ⟨rfl, rfl⟩

set_option maxRecDepth 100000 in
set_option maxHeartbeats 2000000 in
theorem Slice_ok (p : Option Addr) (l : List UInt8) (w : World) (h : Rope w p l) (a b : Nat) (hab : a ≤ b) (hb : b ≤ l.length) (hs : l.length ≤ 100000000) :
    Calls Try.prog 17 #[.agg #[.pointer p], .int .i64 a, .int .i64 b] w fun e w' => e = .returned (.tuple #[.string ⟨((l.drop a).take (b - a)).toArray⟩, .int .i64 0]) ∧ Below w.heap.size w w' := by
  have b1 : Below w.heap.size w (w.alloc (.cells #[.pointer p] 26)) := (Below.refl _ _).alloc (Nat.le_refl _) _
  have a0 : (0 : Int) ≤ (a : Int) := by omega
  have a1 : (a : Int) ≤ (b : Int) := by omega
  have a2 : (b : Int) ≤ (l.length : Int) := by omega
  obtain ⟨m, hm⟩ : ∃ m, m = b - a := ⟨_, rfl⟩
  have hdm : (b : Int) - (a : Int) = (m : Int) := by omega
  have hm1 : m ≤ 100000000 := by omega
  have HM := hid hm
  clear hm
  go_enter Try.func17, Try.ntmps17
  go_wp2_with (first
    | (go_at_call 25; refine (Len_any p l _ (h.below b1)).mono ?_; rintro e w1 ⟨rfl, hbl⟩; have hbx := box_after w _ _ hbl; have hb1 := b1.trans (hbl.mono (by simp)))
    | fail)
  refine (Try.Builder_Grow_fresh w1.heap.size w1.heap.size m _ (Nat.le_refl _) (alloc_new _ _) (by simp) (by omega)).mono ?_
  rintro e w2 ⟨rfl, hB2, hb2⟩
  have hb12 : Below w1.heap.size w1 w2 := ((Below.refl _ _).alloc (Nat.le_refl _) _).trans hb2
  have c0 : w2.cell? ⟨w.heap.size, 0, none⟩ = some (.pointer p) := cell_of_one ((hb12.block _ (heap_lt hbx)).trans hbx)
  obtain ⟨O, hO, ht⟩ := (h.below hb1).ex
  have hJ0 : Lib.IsBuilderF 66 5 w1.heap.size w1.heap.size (Lib.byteCells (px [])) w2 := Lib.IsBuilderF.of (Or.inr hB2)
  have HT := hid ht
  have HX := hid hbx
  clear ht hbx hB2
  have key : Calls Try.prog 32 #[.pointer p, .int .i64 a, .int .i64 b, .func (.func 33) #[] #[.pointer (some ⟨w1.heap.size, 0, none⟩)]] w2 fun e W' =>
      e = .returned (.bool true) ∧ Lib.IsBuilderF 66 5 w1.heap.size w1.heap.size (Lib.byteCells ((l.drop a).take m)) W' ∧ Below w1.heap.size w2 W' := by
    cases O with
    | none =>
      obtain rfl : p = none := hO.rep
      have hl : l = [] := HT.out.symm
      refine (visit_nil _ _ _ w2).mono ?_
      rintro e W' ⟨rfl, rfl⟩
      refine ⟨rfl, ?_, Below.refl _ _⟩
      rw [hl]; simpa [px, tx] using hJ0
    | some T =>
      have hT : T.text = l := by rw [T.text_lv]; exact HT.out
      have hTs : T.size = l.length := by rw [← T.text_length, hT]
      obtain ⟨vs, hvs⟩ := lift_pc _ (vis_size T a b hO.tight)
      have hpx : px vs = (l.drop a).take m := by
        unfold px
        rw [hvs, vis_tx, hT, hTs]
        have e1 : (max (a : Int) 0).toNat = a := by omega
        have e2 : (min (b : Int) (l.length : Int) - max (a : Int) 0).toNat = m := by have := HM.out; omega
        rw [e1, e2]
      have hvl : vs.length ≤ 100000000 := by
        have h1 := (px_len vs).1
        rw [hpx, List.length_take] at h1; omega
      refine (visit_fn w1.heap.size w1.heap.size vs.length w1 rfl (fun pre W => Lib.IsBuilderF 66 5 w1.heap.size w1.heap.size (Lib.byteCells (px pre)) W ∧ w1.heap.size ≤ W.heap.size)
        (fun pre W W' hj hg => ⟨builder_grow0 hj.1 hg, Nat.le_trans hj.2 hg.size⟩)
        (fun pre x W hj hl => (fn33_any w1.heap.size pre x W hj.1 (by omega) hj.2).mono fun e W' ⟨h1, h2, h3⟩ => ⟨h1, ⟨h2, Nat.le_trans hj.2 h3.size⟩, h3⟩)
        T p a b vs [] w2 hO.rep hb12 hO.tight (by rw [hTs]; omega) (by omega) (by omega) (by omega) (by omega) hvs ⟨hJ0, hb12.size⟩ (by simp)).mono ?_
      rintro e W' ⟨rfl, hj, hbl'⟩
      refine ⟨rfl, ?_, hbl'⟩
      rw [← hpx]; exact hj.1
  have KEY := hid key
  clear key
  go_wp2_with (first
    | (go_at_call 32; refine KEY.out.mono ?_; rintro e w3 ⟨rfl, hJ3, hb3⟩; have hsz3 : w1.heap.size ≤ w3.heap.size := Nat.le_trans hb12.size hb3.size)
    | (go_at_call 35; refine (Try.Builder_String_any_k w1.heap.size w1.heap.size _ w3 hJ3 hsz3).mono ?_; rintro e w4 ⟨rfl, _, hb4, _⟩))
  go_ret2
  obtain rfl := HM.out
  exact ⟨rfl, hb1.trans ((hb12.trans (hb3.trans hb4)).mono hb1.size)⟩

set_option maxRecDepth 100000 in
set_option maxHeartbeats 2000000 in
theorem Slice_no (p : Option Addr) (l : List UInt8) (w : World) (h : Rope w p l) (a b : Int) (hx : a < 0 ∨ (0 ≤ a ∧ b < a) ∨ (0 ≤ a ∧ a ≤ b ∧ (l.length : Int) < b)) :
    Calls Try.prog 17 #[.agg #[.pointer p], .int .i64 a, .int .i64 b] w fun e w' => e = .returned (.tuple #[.string .empty, .int .i64 2]) ∧ Below w.heap.size w w' := by
  have b1 : Below w.heap.size w (w.alloc (.cells #[.pointer p] 26)) := (Below.refl _ _).alloc (Nat.le_refl _) _
  rcases hx with h1 | ⟨h1, h2⟩ | ⟨h1, h2, h3⟩
  · go_enter Try.func17, Try.ntmps17
    go_wp2
    go_ret2
    exact ⟨rfl, b1⟩
  · go_enter Try.func17, Try.ntmps17
    go_wp2
    go_ret2
    exact ⟨rfl, b1⟩
  · go_enter Try.func17, Try.ntmps17
    go_wp2_with (go_at_call 25; refine (Len_any p l _ (h.below b1)).mono ?_; rintro e w1 ⟨rfl, hbl⟩; have hb1 := b1.trans (hbl.mono (by simp)))
    go_ret2
    exact ⟨rfl, hb1⟩

end Go.Proofs.Ytaafnodabjbakaa
