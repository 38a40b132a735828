/-
  Contracts: the helpers of the statements (holds, awake).
-/
import Derived.Test.YtaafnodabjbakaaX
import Derived.Test.YtaafnodabjbakaaR
import Derived.Test.YtaafnodabjbakaaH
namespace Go.Proofs.Ytaafnodabjbakaa
open Go.RowKit Rp

theorem mk_toList (s : ByteArray) : (⟨s.data.toList.toArray⟩ : ByteArray) = s := by rw [Array.toArray_toList]

theorem String_s (p : Option Addr) (s : ByteArray) (w : World) (h : Rope w p s.data.toList) (hs : s.size ≤ 100000000) :
    Calls Try.prog 23 #[.agg #[.pointer p]] w fun e w' => e = .returned (.string s) ∧ Below w.heap.size w w' := by
  refine (String_any p _ w h (by simpa using hs)).mono ?_
  rintro e w' ⟨rfl, hb⟩
  exact ⟨by rw [mk_toList], hb⟩
theorem Len_s (p : Option Addr) (s : ByteArray) (w : World) (h : Rope w p s.data.toList) :
    Calls Try.prog 25 #[.agg #[.pointer p]] w fun e w' => e = .returned (.int .i64 s.size) ∧ Below w.heap.size w w' := by
  refine (Len_any p _ w h).mono ?_
  rintro e w' ⟨rfl, hb⟩
  exact ⟨by simp, hb⟩
theorem Height_s (p : Option Addr) (s : ByteArray) (w : World) (h : Rope w p s.data.toList) :
    Calls Try.prog 26 #[.agg #[.pointer p]] w fun e w' => ∃ n : Nat, e = .returned (.int .i64 n) ∧ n ≤ hb s.size ∧ Below w.heap.size w w' := by
  refine (Height_any p _ w h).mono ?_
  rintro e w' ⟨n, rfl, hn, hb⟩
  exact ⟨n, rfl, by simpa using hn, hb⟩

set_option maxRecDepth 100000 in
set_option maxHeartbeats 2000000 in
theorem holds_ok (p : Option Addr) (s : ByteArray) (w : World) (h : Rope w p s.data.toList) (hs : s.size ≤ 100000000) :
    Calls Try.prog 12 #[.agg #[.pointer p], .string s] w fun e w' => e = .returned (.bool true) ∧ Below w.heap.size w w' := by
  obtain ⟨W, hW⟩ : ∃ W, W = w.alloc (.cells #[.pointer p] 26) := ⟨_, rfl⟩
  have bW : Below w.heap.size w W := by rw [hW]; exact (Below.refl _ _).alloc (Nat.le_refl _) _
  have hbx : W.heap[w.heap.size]? = some (.cells #[.pointer p] 26 (0, 0)) := by rw [hW]; exact alloc_new _ _
  have Keep := hid (show ∀ W', Below W.heap.size W W' → W'.cell? ⟨w.heap.size, 0, none⟩ = some (.pointer p) from fun W' hb => cell_of_one ((hb.block _ (heap_lt hbx)).trans hbx))
  have hR := h.below bW
  have HW := hid hW
  have k0 := Keep.out _ (Below.refl _ W)
  have hle := bW.size
  clear hbx hW h
  go_enter Try.func12, Try.ntmps12
  go_wp2_with fail
  rw [← HW.out]
  refine (Len_s p s W hR).mono ?_
  rintro e w1 ⟨rfl, hb1⟩
  have k1 := Keep.out _ hb1
  go_wp2_with fail
  refine (String_s p s w1 (hR.below hb1) hs).mono ?_
  rintro e w2 ⟨rfl, hb2'⟩
  have hb2 := hb1.trans (hb2'.mono hb1.size)
  have k2 := Keep.out _ hb2
  go_wp2_with fail
  refine (Height_s p s w2 (hR.below hb2)).mono ?_
  rintro e w3 ⟨n, rfl, hn, hb3'⟩
  have hb3 := hb2.trans (hb3'.mono hb2.size)
  have k3 := Keep.out _ hb3
  have n0 : (0 : Int) ≤ (n : Int) := by omega
  go_wp2_with fail
  refine (Height_s p s w3 (hR.below hb3)).mono ?_
  rintro e w4 ⟨m, rfl, hm, hb4'⟩
  have hb4 := hb3.trans (hb4'.mono hb3.size)
  go_wp2_with fail
  refine (Bound_any s.size (by omega) w4).mono ?_
  rintro e w5 ⟨rfl, rfl⟩
  go_wp2
  go_ret
  exact ⟨rfl, bW.trans (hb4.mono hle)⟩

def sHello : ByteArray := ⟨#[104, 101, 108, 108, 111]⟩
def sHalo : ByteArray := ⟨#[104, 97, 108, 111]⟩
def sHalo2 : ByteArray := ⟨#[104, 97, 108, 111, 104, 97, 108, 111]⟩
def sA : ByteArray := ⟨#[97]⟩

set_option maxRecDepth 100000 in
set_option maxHeartbeats 4000000 in
theorem awake_any (w : World) : Calls Try.prog 11 #[] w fun e w' => e = .returned (.bool true) ∧ Below w.heap.size w w' := by
  go_enter Try.func11, Try.ntmps11
  go_wp2_with fail
  refine (New_any sHello w (by decide)).mono ?_
  rintro e w1 ⟨p, rfl, hp, hb1⟩
  go_wp2_with fail
  refine (Replace_ok p sHello.data.toList w1 hp 1 2 sA (by decide) (by decide) (by decide)).mono ?_
  rintro e w2 ⟨r, rfl, hr, hb2'⟩
  have hb2 := hb1.trans (hb2'.mono hb1.size)
  have hR0 : Rope w2 r sHalo.data.toList := hr
  clear hr hp hb1 hb2'
  obtain ⟨W, hW⟩ : ∃ W, W = w2.alloc (.cells #[.pointer r] 26) := ⟨_, rfl⟩
  have bW : Below w2.heap.size w2 W := by rw [hW]; exact (Below.refl _ _).alloc (Nat.le_refl _) _
  have hbx : W.heap[w2.heap.size]? = some (.cells #[.pointer r] 26 (0, 0)) := by rw [hW]; exact alloc_new _ _
  have Keep := hid (show ∀ W', Below W.heap.size W W' → W'.cell? ⟨w2.heap.size, 0, none⟩ = some (.pointer r) from fun W' hb => cell_of_one ((hb.block _ (heap_lt hbx)).trans hbx))
  have hR := hR0.below bW
  have HW := hid hW
  have bwW := hb2.trans (bW.mono hb2.size)
  have hle := bwW.size
  have k0 := Keep.out _ (Below.refl _ W)
  clear hbx hW hR0 bW hb2
  have t1 : sHalo.toList = [104, 97, 108, 111] := by rw [ByteArray.toList_eq]; rfl
  have t2 : sHalo2.toList = [104, 97, 108, 111, 104, 97, 108, 111] := by rw [ByteArray.toList_eq]; rfl
  go_wp2_with fail
  rw [← HW.out]
  refine (Slice_ok r sHalo.data.toList W hR 1 3 (by decide) (by decide) (by decide)).mono ?_
  rintro e w3 ⟨rfl, hb3⟩
  have k3 := Keep.out _ hb3
  go_wp2_with fail
  refine (Byte_no r sHalo.data.toList w3 (hR.below hb3) 4 (.inr (by decide))).mono ?_
  rintro e w4 ⟨rfl, hb4'⟩
  have hb4 := hb3.trans (hb4'.mono hb3.size)
  have k4 := Keep.out _ hb4
  go_wp2_with fail
  refine (String_s r sHalo w4 (hR.below hb4) (by decide)).mono ?_
  rintro e w5 ⟨rfl, hb5'⟩
  have hb5 := hb4.trans (hb5'.mono hb4.size)
  have k5 := Keep.out _ hb5
  go_wp2_with fail
  refine (Len_s r sHalo w5 (hR.below hb5)).mono ?_
  rintro e w6 ⟨rfl, hb6'⟩
  have hb6 := hb5.trans (hb6'.mono hb5.size)
  have k6 := Keep.out _ hb6
  go_wp2_with fail
  refine (Height_s r sHalo w6 (hR.below hb6)).mono ?_
  rintro e w7 ⟨n, rfl, hn, hb7'⟩
  have hb7 := hb6.trans (hb7'.mono hb6.size)
  have k7 := Keep.out _ hb7
  obtain rfl : n = 0 := by
    have : hb sHalo.size = 0 := by decide
    omega
  go_wp2_with fail
  refine (Concat_any r r sHalo.data.toList sHalo.data.toList w7 (hR.below hb7) (hR.below hb7) (by decide)).mono ?_
  rintro e w8 ⟨q, rfl, hq, hb8'⟩
  have hb8 := hb7.trans (hb8'.mono hb7.size)
  have hq2 : Rope w8 q sHalo2.data.toList := hq
  go_wp2_with fail
  refine (String_s q sHalo2 w8 hq2 (by decide)).mono ?_
  rintro e w9 ⟨rfl, hb9'⟩
  have hb9 := hb8.trans (hb9'.mono hb8.size)
  go_wp2
  go_ret
  exact ⟨rfl, bwW.trans (hb9.mono hle)⟩

end Go.Proofs.Ytaafnodabjbakaa
