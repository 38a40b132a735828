/-
  Lemmas of every seat, without its program: blocks, cells, rows in memory, rows of the call's own (namespace Go.Frame; lies as <Seat>Ba).
-/
import Derived.Test.YtelbagaiijffdaaFr
import Derived.WalkKit
import Derived.Below
import Derived.OneCell
import Derived.OwnWalk
import Derived.Laws.OwnMore
import Derived.Outline
namespace Go.Frame
open Go.RowKit
theorem hid {p : Prop} (h : p) : Hid p := h
theorem alloc_new (w : World) (o : Obj) : (w.alloc o).heap[w.heap.size]? = some o := by
  show (w.heap.push o)[w.heap.size]? = some o
  exact Array.getElem?_push_size
theorem alloc_at (w : World) (o : Obj) {b : Nat} (h : w.heap.size = b) : (w.alloc o).heap[b]? = some o := by subst h; exact alloc_new _ _
theorem heap_lt {W : World} {b : Nat} {o : Obj} (h : W.heap[b]? = some o) : b < W.heap.size := (Array.getElem?_eq_some_iff.1 h).1
theorem blk_alloc {W : World} {b : Nat} {o o' : Obj} (h : W.heap[b]? = some o) : (W.alloc o').heap[b]? = some o := by
  have hb := heap_lt h
  show (W.heap.push o')[b]? = some o
  rw [Array.getElem?_push_lt hb]
  rw [Array.getElem?_eq_getElem hb] at h
  exact h
theorem cells1 {W : World} {b : Nat} {x : Value} {t : TypeId} (h : W.heap[b]? = some (.cells #[x] t (0, 0))) : W.cell? ⟨b, 0, none⟩ = some x := by simp [World.cell?, h]
theorem cells2 {W : World} {b : Nat} {x y : Value} {t : TypeId} (h : W.heap[b]? = some (.cells #[x, y] t (0, 0))) : W.cell? ⟨b, 0, none⟩ = some x ∧ W.cell? ⟨b, 1, none⟩ = some y := by
  refine ⟨?_, ?_⟩ <;> simp [World.cell?, h]
theorem cells3 {W : World} {b : Nat} {x y z : Value} {t : TypeId} (h : W.heap[b]? = some (.cells #[x, y, z] t (0, 0))) : W.cell? ⟨b, 0, none⟩ = some x ∧ W.cell? ⟨b, 1, none⟩ = some y ∧ W.cell? ⟨b, 2, none⟩ = some z := by
  refine ⟨?_, ?_, ?_⟩ <;> simp [World.cell?, h]
theorem cells4 {W : World} {b : Nat} {x y z v : Value} {t : TypeId} (h : W.heap[b]? = some (.cells #[x, y, z, v] t (0, 0))) : W.cell? ⟨b, 0, none⟩ = some x ∧ W.cell? ⟨b, 1, none⟩ = some y ∧ W.cell? ⟨b, 2, none⟩ = some z ∧ W.cell? ⟨b, 3, none⟩ = some v := by
  refine ⟨?_, ?_, ?_, ?_⟩ <;> simp [World.cell?, h]
/-- No cell of a block whose frozen range is empty is frozen. -/
theorem free {W : World} {b : Nat} {c : Array Value} {t : TypeId} (h : W.heap[b]? = some (.cells c t (0, 0))) (k : Nat) : W.frozen? ⟨b, k, none⟩ = false := by simp [World.frozen?, h]
/-- A store into a cell of a block. -/
theorem blk_put {W : World} {b k : Nat} {c : Array Value} {v : Value} {t : TypeId} (h : W.heap[b]? = some (.cells c t (0, 0))) : (W.setCell ⟨b, k, none⟩ v).heap[b]? = some (.cells (c.setIfInBounds k v) t (0, 0)) := by
  have hlt := heap_lt h
  have h' : W.heap[b] = .cells c t (0, 0) := by simpa [Array.getElem?_eq_getElem hlt] using h
  show (W.heap.modify b _)[b]? = _
  rw [Array.getElem?_eq_getElem (by simpa using hlt), Array.getElem_modify_self, h']
  rfl
theorem blk_set {W : World} {b : Nat} {o : Obj} {a : Addr} {v : Value} (h : W.heap[b]? = some o) (hn : b ≠ a.block) : (W.setCell a v).heap[b]? = some o := (heap_setCell_other W a b v hn).trans h
theorem wrapIn {a : Int} (h1 : -9223372036854775808 ≤ a) (h2 : a ≤ 9223372036854775807) : IntKind.i64.wrap a = a := IntWalk.i64_in _ (by omega)
theorem below_drewN {n : Nat} {A B : World} (h : Below n A B) (k : Nat) : Below n A (B.drewN k) := by
  induction k with
  | zero => exact h
  | succ k ih => exact ih.drew
/-- A slice of one-cell elements in memory. -/
def Row (W : World) (p : Option Addr) (n : Nat) (l : List Value) : Prop :=
  l.length = n ∧ (n = 0 ∨ ∃ b off, p = some ⟨b, off, none⟩ ∧ b < W.heap.size ∧ ∀ i (x : Value), l[i]? = some x → W.cell? ⟨b, off + i, none⟩ = some x)
theorem Row.below {W W' : World} {p : Option Addr} {n : Nat} {l : List Value} (h : Row W p n l) (hb : Below W.heap.size W W') : Row W' p n l := by
  refine ⟨h.1, h.2.imp id ?_⟩
  rintro ⟨b, off, rfl, hlt, hx⟩
  exact ⟨b, off, rfl, Nat.lt_of_lt_of_le hlt hb.size, fun i x hi => (hb.cell (p := ⟨b, _, none⟩) hlt).trans (hx i x hi)⟩
def ints (l : List Nat) : List Value := l.map fun (x : Nat) => Value.int .i64 (x : Int)
def strs (l : List ByteArray) : List Value := l.map .string
theorem ints_at {l : List Nat} {i x : Nat} (h : l[i]? = some x) : (ints l)[i]? = some (.int .i64 (x : Int)) := by unfold ints; rw [List.getElem?_map, h]; rfl
theorem strs_at {l : List ByteArray} {i : Nat} {x : ByteArray} (h : l[i]? = some x) : (strs l)[i]? = some (.string x) := by unfold strs; rw [List.getElem?_map, h]; rfl
theorem one_cell (w : World) (t : TypeId) (v u : Value) (j : Nat) (hj : ([v] : List Value)[j]? = some u) : (w.alloc (.cells #[v] t)).cell? ((⟨w.heap.size, 0, none⟩ : Addr).add j) = some u := by
  match j, hj with
  | 0, hj =>
    simp only [List.getElem?_cons_zero, Option.some.injEq] at hj
    subst hj
    show World.cell? _ ⟨w.heap.size, 0 + 0, none⟩ = _
    unfold World.cell?
    rw [alloc_new]
    rfl
  | j + 1, hj => simp at hj
theorem own_row {W : World} {base : Nat} {e : TypeId} {v : Value} {n : Nat} {l : List Value} (h : W.ownsRow base e 1 v n l) : ∃ p c, v = .slice p n c ∧ Row W p n l := by
  have hl : l.length = n := by have := h.1; omega
  rcases h.2 with ⟨rfl, rfl⟩ | ⟨g, cap, cur, rfl, hb, hg, hn, _, hc, ht⟩
  · exact ⟨none, 0, rfl, hl, .inl rfl⟩
  · refine ⟨_, cap, rfl, hl, .inr ⟨g, 0, rfl, heap_lt hg, fun i x hx => ?_⟩⟩
    have hi := (List.getElem?_eq_some_iff.1 hx).1
    rw [← ht, List.getElem?_take] at hx
    split at hx
    · simp [World.cell?, hg]
      simpa using hx
    · cases hx
theorem own_row' {W : World} {base : Nat} {e : TypeId} {p : Option Addr} {n c : Nat} {l : List Value} (h : W.ownsRow base e 1 (.slice p n c) n l) : Row W p n l := by
  obtain ⟨p', c', he, hr⟩ := own_row h
  simp only [Value.slice.injEq, true_and] at he
  rw [he.1]
  exact hr
theorem own_base {W : World} {base : Nat} {e : TypeId} {p : Option Addr} {n c : Nat} {l : List Value} (h : W.ownsRow base e 1 (.slice p n c) n l) : ∀ a, p = some a → base ≤ a.block := by
  intro a ha
  subst ha
  rcases h.2 with ⟨h1, _⟩ | ⟨g, cap, cur, h1, hb, _⟩
  · simp at h1
  · simp only [Value.slice.injEq, Option.some.injEq] at h1
    rw [h1.1]; exact hb
theorem Row.set {W : World} {p : Option Addr} {n : Nat} {l : List Value} (h : Row W p n l) {x : Addr} {v : Value} (hp : ∀ a, p = some a → a.block ≠ x.block) : Row (W.setCell x v) p n l := by
  refine ⟨h.1, h.2.imp id ?_⟩
  rintro ⟨b, off, rfl, hb, hx⟩
  refine ⟨b, off, rfl, by simpa using hb, fun i y hy => ?_⟩
  rw [World.cell?_setCell_other _ _ _ _ (fun e => hp _ rfl (by rw [e]))]
  exact hx i y hy
theorem weightsAll_mem {H : Type} {P : Program} {e : TypeId} : ∀ {l : List (DataW H)} {d : DataW H}, d ∈ l → ∀ n ∈ d.weights P e, n ∈ DataW.weightsAll P e l
  | d' :: r, d, hd, n, hn => by
    simp only [DataW.weightsAll, List.mem_append]
    rcases List.mem_cons.1 hd with rfl | h
    · exact Or.inl hn
    · exact Or.inr (weightsAll_mem h n hn)
theorem add_at (b off k : Nat) : (⟨b, off, none⟩ : Addr).add k = ⟨b, off + k, none⟩ := by
  unfold Addr.add
  split <;> simp_all
/-- A slice of edits in memory. -/
def ERow (W : World) (p : Option Addr) (n : Nat) (E : List (Int × Int × ByteArray)) : Prop :=
  E.length = n ∧ (n = 0 ∨ ∃ b off, p = some ⟨b, off, none⟩ ∧ b < W.heap.size ∧ ∀ i (x : Int × Int × ByteArray), E[i]? = some x →
    W.cell? ⟨b, off + i * 3, none⟩ = some (.int .i64 x.1) ∧ W.cell? ⟨b, off + i * 3 + 1, none⟩ = some (.int .i64 x.2.1) ∧ W.cell? ⟨b, off + i * 3 + 2, none⟩ = some (.string x.2.2))
theorem ERow.below {W W' : World} {p : Option Addr} {n : Nat} {E : List (Int × Int × ByteArray)} (h : ERow W p n E) (hb : Below W.heap.size W W') : ERow W' p n E := by
  refine ⟨h.1, h.2.imp id ?_⟩
  rintro ⟨b, off, rfl, hlt, hx⟩
  refine ⟨b, off, rfl, Nat.lt_of_lt_of_le hlt hb.size, fun i x hi => ?_⟩
  obtain ⟨h1, h2, h3⟩ := hx i x hi
  exact ⟨(hb.cell (p := ⟨b, _, none⟩) hlt).trans h1, (hb.cell (p := ⟨b, _, none⟩) hlt).trans h2, (hb.cell (p := ⟨b, _, none⟩) hlt).trans h3⟩
end Go.Frame
