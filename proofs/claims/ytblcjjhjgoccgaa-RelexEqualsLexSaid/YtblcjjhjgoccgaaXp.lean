/-
  Rows beside a change that is written; an edit taken back.
-/
import Derived.Test.YtblcjjhjgoccgaaXl
import Derived.Test.YtblcjjhjgoccgaaIw
set_option linter.unusedSimpArgs false
set_option linter.unusedVariables false
namespace Go.Proofs.Ytblcjjhjgoccgaa
open Go.RowKit Lx Go.Frame

theorem up_ne {b : Nat → Bool} {i k : Nat} (hk : (k == i) = false) (h : (b k || k == i) = true) : b k = true := by rw [hk, Bool.or_false] at h; exact h
theorem up_of {b : Nat → Bool} {i k : Nat} (h : b k = true) : (b k || k == i) = true := by rw [h]; rfl
theorem trow_far3 {W : World} {p : Option Addr} {n : Nat} {l : List TQ} {T : Nat} {x y z : Int} {ty : TypeId} (hT : W.heap[T]? = some (.cells #[.int .i64 x, .int .i64 y, .int .i64 z] ty (0, 0))) (h : TRow W p n l) : ∀ b off, p = some ⟨b, off, none⟩ → 0 < n → b ≠ T := by
  intro b off e h0
  subst e
  obtain ⟨b', o', tk, e', hbl, _, _, _, z2, _⟩ := trow_at h h0
  simp only [Option.some.injEq, Addr.mk.injEq] at e'
  obtain ⟨rfl, rfl, _⟩ := e'
  intro e
  subst e
  simp only [World.cell?, hT] at z2
  have : ∀ k : Nat, (#[Value.int .i64 x, .int .i64 y, .int .i64 z] : Array Value)[k]? ≠ some (.string tk.2.2.1) := fun k => by
    match k with
    | 0 => simp
    | 1 => simp
    | 2 => simp
    | k + 3 => simp
  exact this _ z2
theorem trow_put3 {W : World} {p : Option Addr} {n : Nat} {l : List TQ} {T : Nat} {x y z : Int} {ty : TypeId} (hT : W.heap[T]? = some (.cells #[.int .i64 x, .int .i64 y, .int .i64 z] ty (0, 0))) (h : TRow W p n l) {u v q : Value} :
    TRow (((W.setCell ⟨T, 0, none⟩ u).setCell ⟨T, 1, none⟩ v).setCell ⟨T, 2, none⟩ q) p n l := by
  have far := trow_far3 hT h
  exact trow_put (x := ⟨T, 2, none⟩) (trow_put (x := ⟨T, 1, none⟩) (trow_put (x := ⟨T, 0, none⟩) h far) far) far
/-- An edit and its inverse. -/
theorem nt_back {s ins : ByteArray} {x y : Nat} (h : x + y ≤ s.size) : nt (nt s x y ins) x ins.size (s.extract x (x + y)) = s := by
  have h1 := (Te.ap_inv (e := ((x : Int), (y : Int), ins)) (Te.fit_nat.2 h)).2.1
  rw [Te.L_inv] at h1
  exact h1
theorem nt_back_fit {s ins : ByteArray} {x y : Nat} (h : x + y ≤ s.size) : x + ins.size ≤ (nt s x y ins).size := by
  have := nt_size (ins := ins) h
  omega
/-- An edit that changes nothing. -/
theorem nt_same {s : ByteArray} {x y : Nat} (h : x + y ≤ s.size) : nt s x y (s.extract x (x + y)) = s := by
  apply ByteArray.ext
  apply Array.toList_inj.1
  rw [nt_list, ex_list, List.drop_take, show x + y - x = y by omega, ← List.drop_drop, List.append_assoc, List.take_append_drop, List.take_append_drop]
theorem nt_none {s : ByteArray} {x : Nat} (h : x ≤ s.size) : nt s x 0 ByteArray.empty = s := by
  apply ByteArray.ext
  apply Array.toList_inj.1
  rw [nt_list, Nat.add_zero]
  have : ByteArray.empty.data.toList = [] := rfl
  rw [this, List.append_nil, List.take_append_drop]
end Go.Proofs.Ytblcjjhjgoccgaa
