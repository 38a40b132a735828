/-
  Contracts: Lines, start, end, Line; New.
-/
import Derived.Test.YtcmoehjalgppmaaProg
import Derived.Test.YtcmoehjalgppmaaM
import Derived.WalkKit
import Derived.Below
import Derived.OneCell
import Derived.BigQuiet
import Derived.Deep.RegionHeld3
import Derived.Deep.LoopGhost
import Derived.Outline
import Derived.OwnWalk
import Derived.Test.YtcmoehjalgppmaaFr

namespace Go.Proofs.Ytcmoehjalgppmaa
open Go.RowKit Te Go.Frame

theorem hid {p : Prop} (h : p) : Hid p := h
theorem alloc_new (w : World) (o : Obj) : (w.alloc o).heap[w.heap.size]? = some o := by
  show (w.heap.push o)[w.heap.size]? = some o
  exact Array.getElem?_push_size
theorem alloc_at (w : World) (o : Obj) {b : Nat} (h : w.heap.size = b) : (w.alloc o).heap[b]? = some o := by subst h; exact alloc_new _ _
theorem heap_lt {W : World} {b : Nat} {o : Obj} (h : W.heap[b]? = some o) : b < W.heap.size := (Array.getElem?_eq_some_iff.1 h).1
theorem blk_alloc {W : World} {b : Nat} {o o' : Obj} (h : W.heap[b]? = some o) : (W.alloc o').heap[b]? = some o := by
  have hb := heap_lt h
  show (W.heap.push o')[b]? = some o
  rw [Array.getElem?_push_lt hb]
  rw [Array.getElem?_eq_getElem hb] at h
  exact h
theorem cells2 {W : World} {b : Nat} {x y : Value} {t : TypeId} (h : W.heap[b]? = some (.cells #[x, y] t (0, 0))) : W.cell? ⟨b, 0, none⟩ = some x ∧ W.cell? ⟨b, 1, none⟩ = some y := by
  refine ⟨?_, ?_⟩ <;> simp [World.cell?, h]
theorem wrapIn {a : Int} (h1 : -9223372036854775808 ≤ a) (h2 : a ≤ 9223372036854775807) : IntKind.i64.wrap a = a := IntWalk.i64_in _ (by omega)

/-- A slice of one-cell elements in memory. -/
def Row (W : World) (p : Option Addr) (n : Nat) (l : List Value) : Prop :=
  l.length = n ∧ (n = 0 ∨ ∃ b off, p = some ⟨b, off, none⟩ ∧ b < W.heap.size ∧ ∀ i (x : Value), l[i]? = some x → W.cell? ⟨b, off + i, none⟩ = some x)
theorem Row.below {W W' : World} {p : Option Addr} {n : Nat} {l : List Value} (h : Row W p n l) (hb : Below W.heap.size W W') : Row W' p n l := by
  refine ⟨h.1, h.2.imp id ?_⟩
  rintro ⟨b, off, rfl, hlt, hx⟩
  exact ⟨b, off, rfl, Nat.lt_of_lt_of_le hlt hb.size, fun i x hi => (hb.cell (p := ⟨b, _, none⟩) hlt).trans (hx i x hi)⟩
def ints (l : List Nat) : List Value := l.map fun (x : Nat) => Value.int .i64 (x : Int)
def strs (l : List ByteArray) : List Value := l.map .string
theorem ints_at {l : List Nat} {i x : Nat} (h : l[i]? = some x) : (ints l)[i]? = some (.int .i64 (x : Int)) := by unfold ints; rw [List.getElem?_map, h]; rfl
theorem strs_at {l : List ByteArray} {i : Nat} {x : ByteArray} (h : l[i]? = some x) : (strs l)[i]? = some (.string x) := by unfold strs; rw [List.getElem?_map, h]; rfl
/-- What lies in memory of an index: the starts. -/
def Ix (W : World) (p : Option Addr) (n : Nat) (s : ByteArray) : Prop := Row W p n (ints (S s))
theorem Ix.len {W : World} {p : Option Addr} {n : Nat} {s : ByteArray} (h : Ix W p n s) : n = N s := by
  have := h.1
  unfold ints at this
  rw [List.length_map] at this
  exact this.symm
theorem Ix.below {W W' : World} {p : Option Addr} {n : Nat} {s : ByteArray} (h : Ix W p n s) (hb : Below W.heap.size W W') : Ix W' p n s := Row.below h hb
/-- The cell of a start. -/
theorem Ix.at {W : World} {p : Option Addr} {n : Nat} {s : ByteArray} (h : Ix W p n s) {i : Nat} (hi : i < N s) : ∃ b off, p = some ⟨b, off, none⟩ ∧ b < W.heap.size ∧ W.cell? ⟨b, off + i, none⟩ = some (.int .i64 (bg s (i + 1) : Int)) := by
  have hn := h.len
  rcases h.2 with h0 | ⟨b, off, rfl, hb, hx⟩
  · omega
  · exact ⟨b, off, rfl, hb, hx _ _ (ints_at (bg_succ hi))⟩

set_option maxRecDepth 100000 in
set_option maxHeartbeats 2000000 in
theorem lines_any (s : ByteArray) (p : Option Addr) (n c : Nat) (w : World) (hs : s.size ≤ 1000000) (h : Ix w p n s) :
    Calls Try.prog 19 #[.agg #[.string s, .slice p n c]] w fun e w' => e = .returned (.int .i64 ((N s : Int) + 1)) ∧ Below w.heap.size w w' := by
  obtain rfl := h.len
  have hN := N_le s
  go_enter Try.func19, Try.ntmps19
  go_wp2
  go_ret
  exact ⟨rfl, (Below.refl _ _).alloc (Nat.le_refl _) _⟩

set_option maxRecDepth 100000 in
set_option maxHeartbeats 2000000 in
theorem start_any (s : ByteArray) (p : Option Addr) (n c k : Nat) (w : World) (hs : s.size ≤ 1000000) (hk : k ≤ N s) (h : Ix w p n s) :
    Calls Try.prog 23 #[.agg #[.string s, .slice p n c], .int .i64 k] w fun e w' => e = .returned (.int .i64 (bg s k : Int)) ∧ Below w.heap.size w w' := by
  obtain rfl := h.len
  have hN := N_le s
  by_cases h0 : k = 0
  · subst h0
    go_enter Try.func23, Try.ntmps23
    go_wp2
    go_ret
    exact ⟨rfl, (Below.refl _ _).alloc (Nat.le_refl _) _⟩
  · obtain ⟨i, rfl⟩ : ∃ i, k = i + 1 := ⟨k - 1, by omega⟩
    obtain ⟨b, off, rfl, hb, c0⟩ := (h.below ((Below.refl _ _).alloc (Nat.le_refl _) (.cells #[.string s, .slice p (N s) c] 26))).at (i := i) (by omega)
    have k0 : ¬ ((i + 1 : Nat) : Int) = 0 := by omega
    have k1 : IntKind.i64.wrap (((i + 1 : Nat) : Int) - 1) = (i : Int) := by rw [wrapIn (by omega) (by omega)]; omega
    go_enter Try.func23, Try.ntmps23
    go_wp2
    go_ret
    exact ⟨rfl, (Below.refl _ _).alloc (Nat.le_refl _) _⟩
set_option maxRecDepth 100000 in
set_option maxHeartbeats 2000000 in
theorem end_any (s : ByteArray) (p : Option Addr) (n c k : Nat) (w : World) (hs : s.size ≤ 1000000) (hk : k ≤ N s) (h : Ix w p n s) :
    Calls Try.prog 24 #[.agg #[.string s, .slice p n c], .int .i64 k] w fun e w' => e = .returned (.int .i64 (en s k : Int)) ∧ Below w.heap.size w w' := by
  obtain rfl := h.len
  have hN := N_le s
  by_cases h0 : k = N s
  · subst h0
    go_enter Try.func24, Try.ntmps24
    go_wp2
    go_ret
    rw [en_last]
    exact ⟨rfl, (Below.refl _ _).alloc (Nat.le_refl _) _⟩
  · obtain ⟨b, off, rfl, hb, c0⟩ := (h.below ((Below.refl _ _).alloc (Nat.le_refl _) (.cells #[.string s, .slice p (N s) c] 26))).at (i := k) (by omega)
    have k0 : ¬ (k : Int) = (N s : Int) := by omega
    obtain ⟨e1, e2, e3⟩ := en_bg (s := s) (n := k) (by omega)
    have k1 : IntKind.i64.wrap (((bg s (k + 1) : Nat) : Int) - 1) = (en s k : Int) := by rw [wrapIn (by omega) (by omega)]; omega
    clear e1 e2 e3
    go_enter Try.func24, Try.ntmps24
    go_wp2
    go_ret
    exact ⟨rfl, (Below.refl _ _).alloc (Nat.le_refl _) _⟩

/-- The results of Line. -/
def lnv (s : ByteArray) (n : Int) : Value := if 0 ≤ n ∧ n ≤ N s then .tuple #[.string (lineAt s n.toNat), .int .i64 0] else .tuple #[.string .empty, .int .i64 2]
theorem lnv_yes {s : ByteArray} {n : Nat} (h : n ≤ N s) : lnv s n = .tuple #[.string (lineAt s n), .int .i64 0] := by
  unfold lnv; rw [if_pos ⟨by omega, by omega⟩, Int.toNat_natCast]
theorem lnv_no {s : ByteArray} {n : Int} (h : ¬ (0 ≤ n ∧ n ≤ N s)) : lnv s n = .tuple #[.string .empty, .int .i64 2] := if_neg h
set_option maxRecDepth 100000 in
set_option maxHeartbeats 2000000 in
theorem line_any (s : ByteArray) (p : Option Addr) (n c : Nat) (k : Int) (w : World) (hs : s.size ≤ 1000000) (h : Ix w p n s) :
    Calls Try.prog 15 #[.agg #[.string s, .slice p n c], .int .i64 k] w fun e w' => e = .returned (lnv s k) ∧ Below w.heap.size w w' := by
  have hN := N_le s
  have hb1 : Below w.heap.size w (w.alloc (.cells #[.string s, .slice p n c] 26)) := (Below.refl _ _).alloc (Nat.le_refl _) _
  have H := hid (h.below hb1)
  by_cases h0 : 0 ≤ k
  · obtain ⟨m, rfl⟩ : ∃ m : Nat, k = m := ⟨k.toNat, by omega⟩
    by_cases h1 : m ≤ N s
    · rw [lnv_yes h1]
      have hbe := bg_en h1
      have B0 := hid (alloc_new w (.cells #[.string s, .slice p n c] 26))
      have q1 : ¬ ((N s : Int) + 1 ≤ (m : Int)) := by omega
      have q2 : ((bg s m : Nat) : Int) ≤ ((en s m : Nat) : Int) := by omega
      have q3 : ((en s m : Nat) : Int) ≤ (s.size : Int) := by omega
      have q0 : (0 : Int) ≤ ((bg s m : Nat) : Int) := by omega
      have q4 : (0 : Int) ≤ ((en s m : Nat) : Int) := by omega
      have h1' := hid h1
      clear hbe h
      go_enter Try.func15, Try.ntmps15
      go_wp2_with fail
      refine (lines_any s p n c _ hs H.out).mono ?_
      rintro e w1 ⟨rfl, b1⟩
      have Hx := hid (fun w' (hb : Below w1.heap.size w1 w') => H.out.below (b1.trans (hb.mono b1.size)))
      have Cx := hid (fun w' (hb : Below w1.heap.size w1 w') => cells2 (((b1.trans (hb.mono b1.size)).block _ (by simp)).trans B0.out))
      go_wp2_with fail
      refine wp_region_below (by kernel_rfl) (by kernel_rfl) ?_
      intro X f _ hf hs'
      have k0 := fun x => (Cx.out _ (hf.out x)).1
      have k1 := fun x => (Cx.out _ (hf.out x)).2
      have q5 : (bg s m : Int) ≤ (en s m : Int) := q2
      repeat (go_big_quiet_step (first
        | (go_at_call 23; exact calls_below hf hs' (start_any s p n c m _ hs h1'.out (Hx.out _ (hf.out _))))
        | (go_at_call 24; exact calls_below hf hs' (end_any s p n c m _ hs h1'.out (Hx.out _ (hf.out _))))))
      refine wpQuiet_nil ?_
      intro w' hw'
      go_wp2
      go_ret2
      exact ⟨rfl, hb1.trans ((b1.trans (hw'.mono b1.size)).mono (by simp))⟩
    · rw [lnv_no (by omega)]
      have q1 : ((N s : Int) + 1 ≤ (m : Int)) := by omega
      clear h
      go_enter Try.func15, Try.ntmps15
      go_wp2_with fail
      refine (lines_any s p n c _ hs H.out).mono ?_
      rintro e w1 ⟨rfl, b1⟩
      go_wp2
      go_ret2
      exact ⟨rfl, hb1.trans (b1.mono (by simp))⟩
  · rw [lnv_no (by omega)]
    have q1 : k < 0 := by omega
    go_enter Try.func15, Try.ntmps15
    go_wp2
    go_ret2
    exact ⟨rfl, hb1⟩
end Go.Proofs.Ytcmoehjalgppmaa
