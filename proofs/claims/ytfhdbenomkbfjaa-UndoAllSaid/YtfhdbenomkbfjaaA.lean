/-
  Contracts: endsWithin, Fits, Apply and Invert with their references.
-/
import Derived.Test.YtfhdbenomkbfjaaProg
import Derived.Test.YtfhdbenomkbfjaaM
import Derived.Test.YtfhdbenomkbfjaaBa
import Derived.WalkKit
import Derived.Below
import Derived.OneCell
import Derived.BigQuiet
import Derived.BigRegion
import Derived.Deep.RegionHeld3
import Derived.Deep.LoopGhost
import Derived.Outline
import Derived.OwnWalk

namespace Go.Proofs.Ytfhdbenomkbfjaa
open Go.RowKit Te Go.Frame

def edv (e : Ed) : Value := .agg #[.int .i64 e.1, .int .i64 e.2.1, .string e.2.2]
theorem frozen3 {W : World} {b : Nat} {x y z : Value} {t : TypeId} (h : W.heap[b]? = some (.cells #[x, y, z] t (0, 0))) : W.frozen? ⟨b, 0, none⟩ = false ∧ W.frozen? ⟨b, 1, none⟩ = false ∧ W.frozen? ⟨b, 2, none⟩ = false := by
  refine ⟨?_, ?_, ?_⟩ <;> simp [World.frozen?, h]
set_option maxRecDepth 100000 in
set_option maxHeartbeats 2000000 in
theorem ends_yes (a d : Int) (s : ByteArray) (n : Int) (w : World) (h0 : 0 ≤ n) (hn : n ≤ 1000000000000000) (h : Fit n (a, d, s)) :
    Calls Try.prog 32 #[.agg #[.int .i64 a, .int .i64 d, .string s], .int .i64 n] w fun e w' => e = .returned (.bool true) ∧ Below w.heap.size w w' := by
  obtain ⟨h1, h2, h3⟩ := h
  have h1 : 0 ≤ a := h1
  have h2 : 0 ≤ d := h2
  have h3 : d ≤ n - a := h3
  go_enter Try.func32, Try.ntmps32
  go_wp2
  go_ret
  exact ⟨rfl, (Below.refl _ _).alloc (Nat.le_refl _) _⟩
set_option maxRecDepth 100000 in
set_option maxHeartbeats 2000000 in
theorem ends_no (a d : Int) (s : ByteArray) (n : Int) (w : World) (h0 : 0 ≤ n) (hn : n ≤ 1000000000000000) (ha : a ≤ 9223372036854775807) (h : ¬ Fit n (a, d, s)) :
    Calls Try.prog 32 #[.agg #[.int .i64 a, .int .i64 d, .string s], .int .i64 n] w fun e w' => e = .returned (.bool false) ∧ Below w.heap.size w w' := by
  have H : Hid (¬ (0 ≤ a ∧ 0 ≤ d ∧ d ≤ n - a)) := h
  clear h
  go_enter Try.func32, Try.ntmps32
  go_wp2
  all_goals
    go_ret
    refine ⟨?_, (Below.refl _ _).alloc (Nat.le_refl _) _⟩
    first
      | rfl
      | (have : ¬ d ≤ n - a := fun h' => H.out ⟨by assumption, by assumption, h'⟩
         simp [this])
set_option maxRecDepth 100000 in
set_option maxHeartbeats 2000000 in
theorem fits_yes (a d : Int) (s t : ByteArray) (w : World) (hn : s.size ≤ 1000000) (h : Fit s.size (a, d, t)) :
    Calls Try.prog 26 #[.string s, .agg #[.int .i64 a, .int .i64 d, .string t]] w fun e w' => e = .returned (.bool true) ∧ Below w.heap.size w w' := by
  obtain ⟨h1, h2, h3⟩ := h
  have h1 : 0 ≤ a := h1
  have h2 : 0 ≤ d := h2
  have h3 : d ≤ s.size - a := h3
  have h4 : a ≤ s.size := by omega
  have h5 : (s.size : Int) ≤ 1000000000000000 := by omega
  go_enter Try.func26, Try.ntmps26
  go_wp2
  go_ret
  exact ⟨rfl, (Below.refl _ _).alloc (Nat.le_refl _) _⟩
set_option maxRecDepth 100000 in
set_option maxHeartbeats 2000000 in
theorem fits_no (a d : Int) (s t : ByteArray) (w : World) (hn : s.size ≤ 1000000) (h : ¬ Fit s.size (a, d, t)) :
    Calls Try.prog 26 #[.string s, .agg #[.int .i64 a, .int .i64 d, .string t]] w fun e w' => e = .returned (.bool false) ∧ Below w.heap.size w w' := by
  have H : Hid (¬ (0 ≤ a ∧ 0 ≤ d ∧ d ≤ s.size - a)) := h
  have h5 : (s.size : Int) ≤ 1000000000000000 := by omega
  clear h
  go_enter Try.func26, Try.ntmps26
  go_wp2
  all_goals
    go_ret
    refine ⟨?_, (Below.refl _ _).alloc (Nat.le_refl _) _⟩
    first
      | rfl
      | (have : ¬ d ≤ s.size - a := fun h' => H.out ⟨by assumption, by assumption, h'⟩
         simp [this])
/-- The results of Apply. -/
def apv (s : ByteArray) (e : Ed) : Value := if Fit s.size e then .tuple #[.string (ap s e), .int .i64 0] else .tuple #[.string .empty, .int .i64 2]
theorem apv_yes {s : ByteArray} {e : Ed} (h : Fit s.size e) : apv s e = .tuple #[.string (ap s e), .int .i64 0] := if_pos h
theorem apv_no {s : ByteArray} {e : Ed} (h : ¬ Fit s.size e) : apv s e = .tuple #[.string .empty, .int .i64 2] := if_neg h
theorem ap_def (s t : ByteArray) (a d : Nat) : s.extract 0 a ++ t ++ s.extract (a + d) s.size = ap s ((a : Int), (d : Int), t) := by
  unfold ap; simp only [Int.toNat_natCast]
set_option maxRecDepth 100000 in
set_option maxHeartbeats 2000000 in
theorem apply_any (s t : ByteArray) (a d : Int) (w : World) (hs : s.size ≤ 1000000) (ht : t.size ≤ 1000000) (ha : a ≤ 9223372036854775807) :
    Calls Try.prog 27 #[.string s, .agg #[.int .i64 a, .int .i64 d, .string t]] w fun e w' => e = .returned (apv s (a, d, t)) ∧ Below w.heap.size w w' := by
  have b1 : Below w.heap.size w (w.alloc (.cells #[.int .i64 a, .int .i64 d, .string t] 31)) := (Below.refl _ _).alloc (Nat.le_refl _) _
  have s1 : (s.size : Int) ≤ 1000000000000000 := by omega
  have s0 : (0 : Int) ≤ (s.size : Int) := by omega
  by_cases hf : Fit s.size (a, d, t)
  · have HF := hid hf
    obtain ⟨x, y, t', he, hl⟩ := hf.nat
    simp only [Prod.mk.injEq] at he
    obtain ⟨rfl, rfl, rfl⟩ := he
    have a0 : (0 : Int) ≤ (x : Int) := by omega
    have d0 : (0 : Int) ≤ (y : Int) := by omega
    have a1 : (x : Int) ≤ (s.size : Int) := by omega
    have a2 : (x : Int) + (y : Int) ≤ (s.size : Int) := by omega
    have e4 : IntKind.i64.wrap (↑x + ↑y) = (x : Int) + (y : Int) := wrapIn (by omega) (by omega)
    clear hf
    go_enter Try.func27, Try.ntmps27
    go_wp2_with (go_at_call 32; refine (ends_yes _ _ _ _ _ s0 s1 HF.out).mono ?_; rintro e w1 ⟨rfl, hbl⟩)
    obtain ⟨c0, c1, c2⟩ := cells3 ((hbl.block _ (by simp)).trans (alloc_new w (.cells #[.int .i64 x, .int .i64 y, .string t] 31)))
    have z1 : (s.extract 0 x).size ≤ 1000000 := by rw [ByteArray.size_extract]; omega
    have z2 : (s.extract (x + y) s.size).size ≤ 1000000 := by rw [ByteArray.size_extract]; omega
    have z3 : (s.extract 0 x ++ t).size ≤ 2000000 := by rw [ByteArray.size_append]; omega
    go_quiet (fail)
    go_wp2
    go_ret2
    rw [apv_yes HF.out, ← ap_def]
    exact ⟨rfl, ⟨hbl.os, hbl.tape, hbl.output, Nat.le_trans b1.size hbl.size, fun k hk => (hbl.block k (by simp; omega)).trans (b1.block k hk)⟩⟩
  · have HF := hid hf
    clear hf
    go_enter Try.func27, Try.ntmps27
    go_wp2_with (go_at_call 32; refine (ends_no _ _ _ _ _ s0 s1 ha HF.out).mono ?_; rintro e w1 ⟨rfl, hbl⟩)
    go_ret2
    rw [apv_no HF.out]
    exact ⟨rfl, b1.trans (hbl.mono (by simp))⟩
set_option maxRecDepth 100000 in
set_option maxHeartbeats 2000000 in
theorem rapply_any (s t : ByteArray) (a d : Int) (w : World) (hs : s.size ≤ 1000000) (ht : t.size ≤ 1000000) :
    Calls Try.prog 18 #[.string s, .agg #[.int .i64 a, .int .i64 d, .string t]] w fun e w' => e = .returned (apv s (a, d, t)) ∧ Below w.heap.size w w' := by
  have b1 : Below w.heap.size w (w.alloc (.cells #[.int .i64 a, .int .i64 d, .string t] 31)) := (Below.refl _ _).alloc (Nat.le_refl _) _
  by_cases hf : Fit s.size (a, d, t)
  · have HF := hid hf
    obtain ⟨x, y, t', he, hl⟩ := hf.nat
    simp only [Prod.mk.injEq] at he
    obtain ⟨rfl, rfl, rfl⟩ := he
    have a0 : (0 : Int) ≤ (x : Int) := by omega
    have d0 : (0 : Int) ≤ (y : Int) := by omega
    have a1 : (x : Int) ≤ (s.size : Int) := by omega
    have a2 : (x : Int) + (y : Int) ≤ (s.size : Int) := by omega
    have e4 : IntKind.i64.wrap (↑x + ↑y) = (x : Int) + (y : Int) := wrapIn (by omega) (by omega)
    clear hf
    go_enter Try.func18, Try.ntmps18
    go_wp2_with (go_at_call 26; refine (fits_yes _ _ _ _ _ hs HF.out).mono ?_; rintro e w1 ⟨rfl, hbl⟩)
    obtain ⟨c0, c1, c2⟩ := cells3 ((hbl.block _ (by simp)).trans (alloc_new w (.cells #[.int .i64 x, .int .i64 y, .string t] 31)))
    have z1 : (s.extract 0 x).size ≤ 1000000 := by rw [ByteArray.size_extract]; omega
    have z2 : (s.extract (x + y) s.size).size ≤ 1000000 := by rw [ByteArray.size_extract]; omega
    have z3 : (s.extract 0 x ++ t).size ≤ 2000000 := by rw [ByteArray.size_append]; omega
    go_quiet (fail)
    go_wp2
    go_ret2
    rw [apv_yes HF.out, ← ap_def]
    exact ⟨rfl, ⟨hbl.os, hbl.tape, hbl.output, Nat.le_trans b1.size hbl.size, fun k hk => (hbl.block k (by simp; omega)).trans (b1.block k hk)⟩⟩
  · have HF := hid hf
    clear hf
    go_enter Try.func18, Try.ntmps18
    go_wp2_with (go_at_call 26; refine (fits_no _ _ _ _ _ hs HF.out).mono ?_; rintro e w1 ⟨rfl, hbl⟩)
    go_ret2
    rw [apv_no HF.out]
    exact ⟨rfl, b1.trans (hbl.mono (by simp))⟩


def zcell : Obj := .cells #[.int .i64 0, .int .i64 0, .string { data := #[] }] 31

def inv' (s : ByteArray) (e : Ed) : Value := if Fit s.size e then .tuple #[edv (inv s e), .int .i64 0] else .tuple #[edv (0, 0, .empty), .int .i64 2]
theorem inv_def (s t : ByteArray) (a d : Nat) : edv (inv s ((a : Int), (d : Int), t)) = .agg #[.int .i64 a, .int .i64 t.size, .string (s.extract a (a + d))] := by rw [L_inv]; rfl

set_option maxRecDepth 100000 in
set_option maxHeartbeats 4000000 in
theorem invert_any (s t : ByteArray) (a d : Int) (w : World) (hs : s.size ≤ 1000000) (ht : t.size ≤ 1000000) (ha : a ≤ 9223372036854775807) :
    Calls Try.prog 33 #[.string s, .agg #[.int .i64 a, .int .i64 d, .string t]] w fun e w' => e = .returned (inv' s (a, d, t)) ∧ Below w.heap.size w w' := by
  have s1 : (s.size : Int) ≤ 1000000000000000 := by omega
  have s0 : (0 : Int) ≤ (s.size : Int) := by omega
  have t1 : (t.size : Int) ≤ 1000000 := by omega
  by_cases hf : Fit s.size (a, d, t)
  · have HF := hid hf
    obtain ⟨x, y, t', he, hl⟩ := hf.nat
    simp only [Prod.mk.injEq] at he
    obtain ⟨rfl, rfl, rfl⟩ := he
    have a0 : (0 : Int) ≤ (x : Int) := by omega
    have d0 : (0 : Int) ≤ (y : Int) := by omega
    have a1 : (x : Int) ≤ (s.size : Int) := by omega
    have a2 : (x : Int) + (y : Int) ≤ (s.size : Int) := by omega
    have a3 : (x : Int) ≤ (x : Int) + (y : Int) := by omega
    have a5 : (0 : Int) ≤ (x : Int) + (y : Int) := by omega
    have e4 : IntKind.i64.wrap (↑x + ↑y) = (x : Int) + (y : Int) := wrapIn (by omega) (by omega)
    clear hf
    go_enter Try.func33, Try.ntmps33
    go_wp2_with (go_at_call 32; refine (ends_yes _ _ _ _ _ s0 s1 HF.out).mono ?_; rintro e w1 ⟨rfl, hbl⟩)
    obtain ⟨W, hW⟩ : ∃ W, W = ((w.alloc (.cells #[.int .i64 x, .int .i64 y, .string t] 31)).alloc zcell) := ⟨_, rfl⟩
    have hbl : Below W.heap.size W w1 := by rw [hW]; exact hbl
    have bW : Below w.heap.size w W := by rw [hW]; exact ((Below.refl _ _).alloc (Nat.le_refl _) _).alloc (by simp) _
    have hs : W.heap.size = w.heap.size + 1 + 1 := by rw [hW]; simp
    obtain ⟨c0, c1, c2⟩ := cells3 ((hbl.block _ (by omega)).trans (show W.heap[w.heap.size]? = some (.cells #[.int .i64 x, .int .i64 y, .string t] 31 (0, 0)) by rw [hW]; exact blk_alloc (alloc_new _ _)))
    have hz := (hbl.block (w.heap.size + 1) (by omega)).trans (show W.heap[w.heap.size + 1]? = some zcell by rw [hW]; exact alloc_at _ _ (by simp; done))
    obtain ⟨r0, r1, r2⟩ := cells3 hz
    obtain ⟨f0, f1, f2⟩ := frozen3 hz
    clear hz
    go_region
    all_goals go_wp2
    refine bodyPost_ret (v := .tuple #[.agg #[.int .i64 x, .int .i64 t.size, .string (s.extract x (x + y))], .int .i64 0]) ?_ rfl ⟨?_, ?_⟩
    · simp [results, Try.results33, go_sem, r0, r1, r2]
    · rw [inv', if_pos HF.out, inv_def]
    · exact (((((bW.trans (hbl.mono (by omega))).setCell (by simp) _).setCell (by simp) _).setCell (by simp) _)).drew
  · have HF := hid hf
    clear hf
    go_enter Try.func33, Try.ntmps33
    go_wp2_with (go_at_call 32; refine (ends_no _ _ _ _ _ s0 s1 ha HF.out).mono ?_; rintro e w1 ⟨rfl, hbl⟩; have bW := (((Below.refl _ w).alloc (Nat.le_refl _) (.cells #[.int .i64 a, .int .i64 d, .string t] 31)).alloc (by simp) zcell).trans (hbl.mono (by simp; omega)); have hz := (hbl.block (w.heap.size + 1) (by simp)).trans (alloc_at _ zcell (by simp; done)); obtain ⟨r0, r1, r2⟩ := cells3 hz; obtain ⟨f0, f1, f2⟩ := frozen3 hz)
    refine bodyPost_ret (v := .tuple #[.agg #[.int .i64 0, .int .i64 0, .string .empty], .int .i64 2]) ?_ rfl ⟨?_, ?_⟩
    · simp [results, Try.results33, go_sem, r0, r1, r2]
      rfl
    · rw [inv', if_neg HF.out]; rfl
    · exact (((bW.setCell (by simp) _).setCell (by simp) _).setCell (by simp) _)

set_option maxRecDepth 100000 in
set_option maxHeartbeats 4000000 in
theorem rinvert_any (s t : ByteArray) (a d : Int) (w : World) (hn : s.size ≤ 1000000) (ht : t.size ≤ 1000000) (ha : a ≤ 9223172036854775807) :
    Calls Try.prog 31 #[.string s, .agg #[.int .i64 a, .int .i64 d, .string t]] w fun e w' => e = .returned (inv' s (a, d, t)) ∧ Below w.heap.size w w' := by
  have s1 : (s.size : Int) ≤ 1000000000000000 := by omega
  have s0 : (0 : Int) ≤ (s.size : Int) := by omega
  have t1 : (t.size : Int) ≤ 1000000 := by omega
  by_cases hf : Fit s.size (a, d, t)
  · have HF := hid hf
    obtain ⟨x, y, t', he, hl⟩ := hf.nat
    simp only [Prod.mk.injEq] at he
    obtain ⟨rfl, rfl, rfl⟩ := he
    have a0 : (0 : Int) ≤ (x : Int) := by omega
    have d0 : (0 : Int) ≤ (y : Int) := by omega
    have a1 : (x : Int) ≤ (s.size : Int) := by omega
    have a2 : (x : Int) + (y : Int) ≤ (s.size : Int) := by omega
    have a3 : (x : Int) ≤ (x : Int) + (y : Int) := by omega
    have a5 : (0 : Int) ≤ (x : Int) + (y : Int) := by omega
    have e4 : IntKind.i64.wrap (↑x + ↑y) = (x : Int) + (y : Int) := wrapIn (by omega) (by omega)
    clear hf
    go_enter Try.func31, Try.ntmps31
    go_wp2_with (go_at_call 26; refine (fits_yes _ _ _ _ _ hn HF.out).mono ?_; rintro e w1 ⟨rfl, hbl⟩)
    obtain ⟨W, hW⟩ : ∃ W, W = ((w.alloc (.cells #[.int .i64 x, .int .i64 y, .string t] 31)).alloc zcell) := ⟨_, rfl⟩
    have hbl : Below W.heap.size W w1 := by rw [hW]; exact hbl
    have bW : Below w.heap.size w W := by rw [hW]; exact ((Below.refl _ _).alloc (Nat.le_refl _) _).alloc (by simp) _
    have hs : W.heap.size = w.heap.size + 1 + 1 := by rw [hW]; simp
    obtain ⟨c0, c1, c2⟩ := cells3 ((hbl.block _ (by omega)).trans (show W.heap[w.heap.size]? = some (.cells #[.int .i64 x, .int .i64 y, .string t] 31 (0, 0)) by rw [hW]; exact blk_alloc (alloc_new _ _)))
    have hz := (hbl.block (w.heap.size + 1) (by omega)).trans (show W.heap[w.heap.size + 1]? = some zcell by rw [hW]; exact alloc_at _ _ (by simp; done))
    obtain ⟨r0, r1, r2⟩ := cells3 hz
    obtain ⟨f0, f1, f2⟩ := frozen3 hz
    clear hz
    go_region
    all_goals go_wp2
    refine bodyPost_ret (v := .tuple #[.agg #[.int .i64 x, .int .i64 t.size, .string (s.extract x (x + y))], .int .i64 0]) ?_ rfl ⟨?_, ?_⟩
    · simp [results, Try.results31, go_sem, r0, r1, r2]
    · rw [inv', if_pos HF.out, inv_def]
    · exact (((((bW.trans (hbl.mono (by omega))).setCell (by simp) _).setCell (by simp) _).setCell (by simp) _)).drew
  · have HF := hid hf
    clear hf
    go_enter Try.func31, Try.ntmps31
    go_wp2_with (go_at_call 26; refine (fits_no _ _ _ _ _ hn HF.out).mono ?_; rintro e w1 ⟨rfl, hbl⟩; have bW := (((Below.refl _ w).alloc (Nat.le_refl _) (.cells #[.int .i64 a, .int .i64 d, .string t] 31)).alloc (by simp) zcell).trans (hbl.mono (by simp; omega)); have hz := (hbl.block (w.heap.size + 1) (by simp)).trans (alloc_at _ zcell (by simp; done)); obtain ⟨r0, r1, r2⟩ := cells3 hz; obtain ⟨f0, f1, f2⟩ := frozen3 hz)
    refine bodyPost_ret (v := .tuple #[.agg #[.int .i64 0, .int .i64 0, .string .empty], .int .i64 2]) ?_ rfl ⟨?_, ?_⟩
    · simp [results, Try.results31, go_sem, r0, r1, r2]
      rfl
    · rw [inv', if_neg HF.out]; rfl
    · exact (((bW.setCell (by simp) _).setCell (by simp) _).setCell (by simp) _)

end Go.Proofs.Ytfhdbenomkbfjaa
