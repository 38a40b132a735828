/-
  Contracts of the small functions on nodes.
-/
import Derived.Test.YtaafnodabjbakaaTree
import Derived.Test.YtaafnodabjbakaaProg
import Derived.WalkKit
import Derived.Deep.RegionHeld3
import Derived.Deep.LoopGhost

namespace Go.Proofs.Ytaafnodabjbakaa
open Go.RowKit Rp

theorem hid {p : Prop} (h : p) : Hid p := h

/-- The tree T lies in W at p. -/
def Rep (W : World) : Option Addr → BT → Prop
  | p, .leaf s => ∃ b : Nat, p = some ⟨b, 0, none⟩ ∧ W.heap[b]? = some (.cells #[.pointer none, .pointer none, .string s, .int .i64 s.size, .int .i64 0] 79 (0, 0))
  | p, .node l r => ∃ (b : Nat) (pl pr : Option Addr), p = some ⟨b, 0, none⟩ ∧
      W.heap[b]? = some (.cells #[.pointer pl, .pointer pr, .string .empty, .int .i64 (l.size + r.size : Nat), .int .i64 ((1 + max l.ht r.ht : Nat))] 79 (0, 0)) ∧ Rep W pl l ∧ Rep W pr r
def ORep (W : World) : Option Addr → Option BT → Prop
  | p, none => p = none
  | p, some T => Rep W p T

theorem heap_lt {W : World} {b : Nat} {o : Obj} (h : W.heap[b]? = some o) : b < W.heap.size := (Array.getElem?_eq_some_iff.1 h).1
theorem Rep.later {A B : World} {n : Nat} (hn : A.heap.size ≤ n) (h : Below n A B) : ∀ {p : Option Addr} {T : BT}, Rep A p T → Rep B p T
  | _, .leaf _, ⟨b, hp, hb⟩ => ⟨b, hp, (h.block b (Nat.lt_of_lt_of_le (heap_lt hb) hn)).trans hb⟩
  | _, .node _ _, ⟨b, pl, pr, hp, hb, hl, hr⟩ => ⟨b, pl, pr, hp, (h.block b (Nat.lt_of_lt_of_le (heap_lt hb) hn)).trans hb, Rep.later hn h hl, Rep.later hn h hr⟩
theorem Rep.below {A B : World} (h : Below A.heap.size A B) {p : Option Addr} {T : BT} (r : Rep A p T) : Rep B p T := Rep.later (Nat.le_refl _) h r
theorem ORep.below {A B : World} (h : Below A.heap.size A B) {p : Option Addr} {T : Option BT} (r : ORep A p T) : ORep B p T := by
  cases T with
  | none => exact r
  | some T => exact Rep.below h r

/-- What the walk wants of a node: its five cells. -/
structure Cells (W : World) (b : Nat) (l r : Option Addr) (s : ByteArray) (n h : Nat) : Prop where
  c0 : W.cell? ⟨b, 0, none⟩ = some (.pointer l)
  c1 : W.cell? ⟨b, 1, none⟩ = some (.pointer r)
  c2 : W.cell? ⟨b, 2, none⟩ = some (.string s)
  c3 : W.cell? ⟨b, 3, none⟩ = some (.int .i64 n)
  c4 : W.cell? ⟨b, 4, none⟩ = some (.int .i64 h)
theorem cells_of {W : World} {b : Nat} {l r : Option Addr} {s : ByteArray} {n h : Nat} (hb : W.heap[b]? = some (.cells #[.pointer l, .pointer r, .string s, .int .i64 n, .int .i64 h] 79 (0, 0))) : Cells W b l r s n h := by
  constructor <;> simp [World.cell?, hb]
theorem Rep.some {W : World} {p : Option Addr} {T : BT} (h : Rep W p T) : ∃ (b : Nat) (l r : Option Addr) (s : ByteArray), p = .some ⟨b, 0, none⟩ ∧ b < W.heap.size ∧ Cells W b l r s T.size T.ht := by
  cases T with
  | leaf s => obtain ⟨b, hp, hb⟩ := h; exact ⟨b, _, _, _, hp, heap_lt hb, cells_of (h := 0) hb⟩
  | node x y => obtain ⟨b, pl, pr, hp, hb, _, _⟩ := h; exact ⟨b, _, _, _, hp, heap_lt hb, cells_of hb⟩

theorem ret_int {k : IntKind} {a b : Int} (h : a = b) : Ending.returned (.int k a) = .returned (.int k b) := by rw [h]

set_option maxHeartbeats 400000 in
theorem length_any (p : Option Addr) (T : Option BT) (w : World) (h : ORep w p T) :
    Calls Try.prog 38 #[.pointer p] w fun e w' => e = .returned (.int .i64 (osz T)) ∧ w = w' := by
  cases T with
  | none =>
    obtain rfl : p = none := h
    go_enter Try.func38, Try.ntmps38
    go_wp2
    go_ret
    exact ⟨rfl, rfl⟩
  | some T =>
    obtain ⟨b, l, r, s, rfl, _, hc⟩ := Rep.some h
    have c3 := hc.c3
    go_enter Try.func38, Try.ntmps38
    go_wp2
    go_ret
    exact ⟨rfl, rfl⟩

set_option maxHeartbeats 400000 in
theorem depth_any (p : Option Addr) (T : Option BT) (w : World) (h : ORep w p T) :
    Calls Try.prog 39 #[.pointer p] w fun e w' => e = .returned (.int .i64 (oht T)) ∧ w = w' := by
  cases T with
  | none =>
    obtain rfl : p = none := h
    go_enter Try.func39, Try.ntmps39
    go_wp2
    go_ret
    exact ⟨rfl, rfl⟩
  | some T =>
    obtain ⟨b, l, r, s, rfl, _, hc⟩ := Rep.some h
    have c4 := hc.c4
    go_enter Try.func39, Try.ntmps39
    go_wp2
    go_ret
    exact ⟨rfl, rfl⟩

set_option maxHeartbeats 400000 in
theorem isLeaf_leaf (p : Option Addr) (s : ByteArray) (w : World) (h : Rep w p (.leaf s)) :
    Calls Try.prog 47 #[.pointer p] w fun e w' => e = .returned (.bool true) ∧ w = w' := by
  obtain ⟨b, rfl, hb⟩ := h
  have c0 := (cells_of (h := 0) hb).c0
  go_enter Try.func47, Try.ntmps47
  go_wp2
  go_ret
  exact ⟨rfl, rfl⟩

set_option maxHeartbeats 400000 in
theorem isLeaf_node (p : Option Addr) (l r : BT) (w : World) (h : Rep w p (.node l r)) :
    Calls Try.prog 47 #[.pointer p] w fun e w' => e = .returned (.bool false) ∧ w = w' := by
  obtain ⟨b, pl, pr, rfl, hb, hl, hr⟩ := h
  obtain ⟨bl, _, _, _, rfl, _, _⟩ := Rep.some hl
  have c0 := (cells_of hb).c0
  go_enter Try.func47, Try.ntmps47
  go_wp2
  go_ret
  exact ⟨rfl, rfl⟩

set_option maxHeartbeats 400000 in
theorem leaf_empty (w : World) :
    Calls Try.prog 40 #[.string .empty] w fun e w' => e = .returned (.pointer none) ∧ w = w' := by
  go_enter Try.func40, Try.ntmps40
  go_wp2
  go_ret
  exact ⟨rfl, rfl⟩

theorem alloc_new (w : World) (o : Obj) : (w.alloc o).heap[w.heap.size]? = some o := by
  show (w.heap.push o)[w.heap.size]? = some o
  exact Array.getElem?_push_size
theorem isEmpty_toList {s : ByteArray} (h : s.size ≠ 0) : s.toList.isEmpty = false := by
  rw [ByteArray.toList_eq, List.isEmpty_eq_false_iff]
  intro h2
  apply h
  have : s.data.size = 0 := by rw [← Array.length_toList, h2]; rfl
  exact this
theorem isEmpty_toList' {s : ByteArray} (h : s.size = 0) : s.toList.isEmpty = true := by
  rw [ByteArray.toList_eq, List.isEmpty_iff]
  have h1 : s.data.size = 0 := h
  rw [← Array.length_toList] at h1
  exact List.length_eq_zero_iff.1 h1

set_option maxHeartbeats 400000 in
theorem leaf_empty' (s : ByteArray) (hs : s.size = 0) (w : World) :
    Calls Try.prog 40 #[.string s] w fun e w' => e = .returned (.pointer none) ∧ w = w' := by
  have he := isEmpty_toList' hs
  go_enter Try.func40, Try.ntmps40
  go_wp2
  go_ret
  exact ⟨rfl, rfl⟩

set_option maxHeartbeats 400000 in
theorem leaf_some (s : ByteArray) (hs : s.size ≠ 0) (w : World) :
    Calls Try.prog 40 #[.string s] w fun e w' => e = .returned (.pointer (some ⟨w.heap.size, 0, none⟩)) ∧ w' = w.alloc (.cells #[.pointer none, .pointer none, .string s, .int .i64 s.size, .int .i64 0] 79) := by
  have he := isEmpty_toList hs
  go_enter Try.func40, Try.ntmps40
  go_wp2
  go_ret
  exact ⟨rfl, rfl⟩

/-- leaf: a block's node, or nil for the empty string. -/
def otree (s : ByteArray) : Option BT := if s.size = 0 then none else some (.leaf s)
theorem leaf_any (s : ByteArray) (w : World) :
    Calls Try.prog 40 #[.string s] w fun e w' => ∃ p, e = .returned (.pointer p) ∧ ORep w' p (otree s) ∧ Below w.heap.size w w' := by
  by_cases hs : s.size = 0
  · refine (leaf_empty' s hs w).mono ?_
    rintro e w' ⟨rfl, rfl⟩
    exact ⟨none, rfl, by simp [otree, hs, ORep], Below.refl _ _⟩
  · refine (leaf_some s hs w).mono ?_
    rintro e w' ⟨rfl, rfl⟩
    refine ⟨_, rfl, ?_, (Below.refl _ _).alloc (Nat.le_refl _) _⟩
    simp only [otree, if_neg hs]
    exact ⟨_, rfl, alloc_new _ _⟩

theorem wrapIn {x : Int} (h1 : 0 ≤ x) (h2 : x ≤ 9000000000000000000) : IntKind.i64.wrap x = x := IntWalk.i64_in _ (by omega)

set_option maxHeartbeats 1000000 in
theorem inner_any (pl pr : Option Addr) (l r : BT) (w : World) (hl : Rep w pl l) (hr : Rep w pr r) (h1 : l.size + r.size ≤ 1000000000) (h2 : l.ht ≤ 1000) (h3 : r.ht ≤ 1000) :
    Calls Try.prog 50 #[.pointer pl, .pointer pr] w fun e w' => ∃ p, e = .returned (.pointer p) ∧ Rep w' p (.node l r) ∧ Below w.heap.size w w' := by
  obtain ⟨b, l1, l2, s, rfl, hb, cl⟩ := Rep.some hl
  obtain ⟨c, r1, r2, t, rfl, hc, cr⟩ := Rep.some hr
  have x1 := cl.c3; have x2 := cl.c4; have y1 := cr.c3; have y2 := cr.c4
  clear cl cr
  have e1 : IntKind.i64.wrap (↑l.size + ↑r.size) = ↑l.size + ↑r.size := wrapIn (by omega) (by omega)
  have e2 : IntKind.i64.wrap (1 + ↑l.ht) = 1 + ↑l.ht := wrapIn (by omega) (by omega)
  have e3 : IntKind.i64.wrap (1 + ↑r.ht) = 1 + ↑r.ht := wrapIn (by omega) (by omega)
  have fin : ∀ (w' : World) (m : Nat), m = max l.ht r.ht → w' = (w.alloc (.cells #[.pointer (some ⟨b, 0, none⟩), .pointer (some ⟨c, 0, none⟩), .string .empty, .int .i64 (↑l.size + ↑r.size), .int .i64 (1 + ↑m)] 79)).drew →
      Rep w' (some ⟨w.heap.size, 0, none⟩) (.node l r) ∧ Below w.heap.size w w' := by
    rintro w' m rfl rfl
    have hbl := ((Below.refl w.heap.size w).alloc (Nat.le_refl _) (.cells #[.pointer (some ⟨b, 0, none⟩), .pointer (some ⟨c, 0, none⟩), .string .empty, .int .i64 (↑l.size + ↑r.size), .int .i64 (1 + ↑(max l.ht r.ht))] 79)).drew
    exact ⟨⟨w.heap.size, _, _, rfl, alloc_new _ _, hl.below hbl, hr.below hbl⟩, hbl⟩
  have Fin := hid fin
  clear fin hl hr
  by_cases hx : l.ht < r.ht
  all_goals
    go_enter Try.func50, Try.ntmps50
    go_wp2
    go_region_held3 (fun w' => w'.cell? ⟨b, 3, none⟩ = some (.int .i64 l.size) ∧ w'.cell? ⟨b, 4, none⟩ = some (.int .i64 l.ht) ∧ w'.cell? ⟨c, 3, none⟩ = some (.int .i64 r.size) ∧ w'.cell? ⟨c, 4, none⟩ = some (.int .i64 r.ht)) (go_keep) (fail)
    go_wp2
    go_ret
    first
      | exact ⟨_, rfl, Fin.out _ r.ht (by omega) rfl⟩
      | exact ⟨_, rfl, Fin.out _ l.ht (by omega) rfl⟩

set_option maxHeartbeats 400000 in
theorem lastBlock_any (T : BT) (p : Option Addr) (w : World) (h : Rep w p T) :
    Calls Try.prog 42 #[.pointer p] w fun e w' => e = .returned (.string T.last) ∧ w = w' := by
  go_enter Try.func42, Try.ntmps42
  go_wp2
  go_loopg [0] T.ht (fun k v wr => ∃ (q : Option Addr) (U : BT), v = .pointer q ∧ Rep w q U ∧ U.last = T.last ∧ U.ht ≤ k ∧ w = wr)
  case atStart => exact ⟨p, T, rfl, h, rfl, Nat.le_refl _, rfl⟩
  case round =>
    obtain ⟨q, U, rfl, hU, hlast, hk, rfl⟩ := hrel
    have A : Hid (U.last = T.last) := hlast
    clear hlast
    cases U with
    | leaf s =>
      have hU' := hU
      obtain ⟨b, rfl, hb⟩ := hU
      have c2 := (cells_of (h := 0) hb).c2
      clear hb
      go_wp2_with (go_at_call 47; refine (isLeaf_leaf _ s _ hU').mono ?_; rintro e w' ⟨rfl, rfl⟩)
      go_ret
      exact ⟨by rw [← A.out]; rfl, rfl⟩
    | node x y =>
      have hU' := hU
      obtain ⟨b, pl, pr, rfl, hb, hl, hr⟩ := hU
      have c0 := (cells_of hb).c0
      have c1 := (cells_of hb).c1
      clear hb
      go_wp2_with (go_at_call 47; refine (isLeaf_node _ _ _ _ hU').mono ?_; rintro e w' ⟨rfl, rfl⟩)
      have hk2 : 1 + max x.ht y.ht ≤ gk := hk
      go_roundg (gk - 1)
      case measure => omega
      case rel => exact ⟨_, _, rfl, hr, A.out, by omega, rfl⟩

set_option maxHeartbeats 400000 in
theorem firstBlock_any (T : BT) (p : Option Addr) (w : World) (h : Rep w p T) :
    Calls Try.prog 43 #[.pointer p] w fun e w' => e = .returned (.string T.first) ∧ w = w' := by
  go_enter Try.func43, Try.ntmps43
  go_wp2
  go_loopg [0] T.ht (fun k v wr => ∃ (q : Option Addr) (U : BT), v = .pointer q ∧ Rep w q U ∧ U.first = T.first ∧ U.ht ≤ k ∧ w = wr)
  case atStart => exact ⟨p, T, rfl, h, rfl, Nat.le_refl _, rfl⟩
  case round =>
    obtain ⟨q, U, rfl, hU, hlast, hk, rfl⟩ := hrel
    have A : Hid (U.first = T.first) := hlast
    clear hlast
    cases U with
    | leaf s =>
      have hU' := hU
      obtain ⟨b, rfl, hb⟩ := hU
      have c2 := (cells_of (h := 0) hb).c2
      clear hb
      go_wp2_with (go_at_call 47; refine (isLeaf_leaf _ s _ hU').mono ?_; rintro e w' ⟨rfl, rfl⟩)
      go_ret
      exact ⟨by rw [← A.out]; rfl, rfl⟩
    | node x y =>
      have hU' := hU
      obtain ⟨b, pl, pr, rfl, hb, hl, hr⟩ := hU
      have c0 := (cells_of hb).c0
      have c1 := (cells_of hb).c1
      clear hb
      go_wp2_with (go_at_call 47; refine (isLeaf_node _ _ _ _ hU').mono ?_; rintro e w' ⟨rfl, rfl⟩)
      have hk2 : 1 + max x.ht y.ht ≤ gk := hk
      go_roundg (gk - 1)
      case measure => omega
      case rel => exact ⟨_, _, rfl, hl, A.out, by omega, rfl⟩


end Go.Proofs.Ytaafnodabjbakaa
