/-
  What a call that may write to blocks of a set leaves alone; boxes made and written; appends into rows of the call's own (no program; lies as <Seat>Kt, behind <Seat>Ba).
-/
import Derived.Test.YtelbagaiijffdaaBa
import Derived.Deep.AppendLies
import Derived.Deep.Upon
namespace Go.Frame
open Go.RowKit
/-- The blocks outside F are as they were. -/
structure Kept (F : Nat → Prop) (w w' : World) : Prop where
  os : w'.os = w.os
  tape : w'.tape = w.tape
  output : w'.output = w.output
  size : w.heap.size ≤ w'.heap.size
  block : ∀ k, ¬ F k → w'.heap[k]? = w.heap[k]?
/-- F bears all blocks that are not there yet. -/
def Up (F : Nat → Prop) (w : World) : Prop := ∀ b, w.heap.size ≤ b → F b
theorem Up.mono {F : Nat → Prop} {w w' : World} (h : Up F w) (hs : w.heap.size ≤ w'.heap.size) : Up F w' := fun b hb => h b (Nat.le_trans hs hb)
theorem Kept.refl (F : Nat → Prop) (w : World) : Kept F w w := ⟨rfl, rfl, rfl, Nat.le_refl _, fun _ _ => rfl⟩
theorem Kept.trans {F : Nat → Prop} {a b c : World} (h : Kept F a b) (k : Kept F b c) : Kept F a c :=
  ⟨k.os.trans h.os, k.tape.trans h.tape, k.output.trans h.output, Nat.le_trans h.size k.size, fun i hi => (k.block i hi).trans (h.block i hi)⟩
theorem Kept.mono {F G : Nat → Prop} {w w' : World} (h : Kept F w w') (hF : ∀ b, F b → G b) : Kept G w w' := ⟨h.os, h.tape, h.output, h.size, fun k hk => h.block k (fun hf => hk (hF k hf))⟩
theorem Kept.below {n : Nat} {F : Nat → Prop} {w w' : World} (h : Below n w w') (hF : ∀ b, n ≤ b → F b) : Kept F w w' :=
  ⟨h.os, h.tape, h.output, h.size, fun k hk => h.block k (by by_cases hn : n ≤ k; exact absurd (hF k hn) hk; omega)⟩
theorem Kept.toBelow {n : Nat} {F : Nat → Prop} {w w' : World} (h : Kept F w w') (hF : ∀ b, F b → n ≤ b) : Below n w w' :=
  ⟨h.os, h.tape, h.output, h.size, fun k hk => h.block k (fun hf => by have := hF k hf; omega)⟩
theorem Kept.alloc {F : Nat → Prop} {a w : World} (h : Kept F a w) (hu : Up F w) (o : Obj) : Kept F a (w.alloc o) :=
  h.trans (Kept.below ((Below.refl _ w).alloc (Nat.le_refl _) o) hu)
theorem Kept.drew {F : Nat → Prop} {a w : World} (h : Kept F a w) : Kept F a w.drew := ⟨h.os, h.tape, h.output, h.size, h.block⟩
theorem Kept.setCell {F : Nat → Prop} {a w : World} (h : Kept F a w) {p : Addr} (hp : F p.block) (u : Value) : Kept F a (w.setCell p u) :=
  h.trans ⟨rfl, rfl, rfl, by simp [World.setCell], fun k hk => heap_setCell_other _ _ _ _ (fun e => hk (e ▸ hp))⟩
theorem Kept.grown {F : Nat → Prop} {a w w' : World} {row : Option Nat} (h : Kept F a w) (hg : w.grownBy w' row) (hu : Up F w) (hr : ∀ k, row = some k → F k) : Kept F a w' :=
  h.trans ⟨hg.os, hg.tape, hg.output, hg.size, fun k hk => hg.block k (by by_cases hn : w.heap.size ≤ k; exact absurd (hu k hn) hk; omega) (fun e => hk (hr k e.symm))⟩
theorem below_grown {n : Nat} {a w w' : World} {row : Option Nat} (h : Below n a w) (hg : w.grownBy w' row) (hn : n ≤ w.heap.size) (hr : ∀ k, row = some k → n ≤ k) : Below n a w' :=
  h.trans ⟨hg.os, hg.tape, hg.output, hg.size, fun k hk => hg.block k (by omega) (fun e => by have := hr k e.symm; omega)⟩
/-! 'Below' step by step, for 'repeat (first | with_reducible refine ..)'. -/
theorem below_put {n : Nat} {a w : World} {b j : Nat} {u : Value} (h : Below n a w) (hb : n ≤ b) : Below n a (w.setCell ⟨b, j, none⟩ u) := h.setCell hb u
theorem below_made {n : Nat} {a w : World} {o : Obj} (h : Below n a w) (hb : n ≤ w.heap.size) : Below n a (w.alloc o) := h.alloc hb o
/-! Rows of the call's own. -/
theorem ownsRow_keep {w w' : World} {base : Nat} {e : TypeId} {size : Nat} {v : Value} {n : Nat} {xs : List Value} (h : w.ownsRow base e size v n xs) (hk : ∀ k, v.ownBlock = some k → w'.heap[k]? = w.heap[k]?) : w'.ownsRow base e size v n xs := by
  refine ⟨h.1, ?_⟩
  rcases h.2 with hn | ⟨g, cap, cur, rfl, hb, hg, rest⟩
  · exact .inl hn
  · exact .inr ⟨g, cap, cur, rfl, hb, (hk g rfl).trans hg, rest⟩
theorem own_alloc {W : World} {base e s : Nat} {v : Value} {n : Nat} {xs : List Value} (h : W.ownsRow base e s v n xs) (o : Obj) : (W.alloc o).ownsRow base e s v n xs := ownsRow_keep h fun k hk => ((Below.refl _ W).alloc (Nat.le_refl _) o).block k (h.lt k hk).2
theorem own_form {w : World} {base : Nat} {e : TypeId} {size : Nat} {v : Value} {n : Nat} {xs : List Value} (h : w.ownsRow base e size v n xs) : ∃ p c, v = .slice p n c := by
  rcases h.2 with ⟨rfl, h0⟩ | ⟨g, cap, cur, rfl, _⟩
  · exact ⟨none, 0, by rw [h0]⟩
  · exact ⟨_, cap, rfl⟩
/-- append of nothing, at a step of a drawn region. -/
theorem step_append_none {P : Program} {w : World} {ops : Array Oper} {o : Oper} {a : Act} {K : Act → World → Prop} {Q : Exit → Act → World → Prop} {E : Prop} (hgd : o.guard = none) (s x : Operand) (t : TypeId)
    (ho : o.op = .call { callee := .builtin .append, args := #[s, x], argTypes := #[t, t] }) (v u : Value) (hs : a.eval s = v) (hx : a.eval x = u)
    (hr : (Builtin.append_ #[t, t] o.type #[v, u]).run P w = .ok v w) (h : K (a.put o.dst v) w) : if Region.wanted o (yielded ops a.tmps) = true then Oper.wp P o a w K Q else E := by
  rw [if_pos (by unfold Region.wanted; rw [hgd])]
  unfold Oper.wp execOp
  simp only [ho, resolve, invoke, builtin, Sem.run_bind, Sem.run_pure, Result.andThen_ok, List.map_toArray, List.map_cons, List.map_nil, hs, hx, hr]
  exact h
/-! Boxes made one behind the other, written, kept. -/
theorem two (w : World) (o1 o2 : Obj) : ((w.alloc o1).alloc o2).heap[w.heap.size]? = some o1 ∧ ((w.alloc o1).alloc o2).heap[w.heap.size + 1]? = some o2 ∧ Below w.heap.size w ((w.alloc o1).alloc o2) ∧ ((w.alloc o1).alloc o2).heap.size = w.heap.size + 2 :=
  ⟨blk_alloc (alloc_new _ _), alloc_at _ _ (by simp), ((Below.refl _ _).alloc (Nat.le_refl _) _).alloc (by simp) _, by simp⟩
theorem three (w : World) (o1 o2 o3 : Obj) : (((w.alloc o1).alloc o2).alloc o3).heap[w.heap.size]? = some o1 ∧ (((w.alloc o1).alloc o2).alloc o3).heap[w.heap.size + 1]? = some o2 ∧ (((w.alloc o1).alloc o2).alloc o3).heap[w.heap.size + 1 + 1]? = some o3 ∧
    Below w.heap.size w (((w.alloc o1).alloc o2).alloc o3) ∧ (((w.alloc o1).alloc o2).alloc o3).heap.size = w.heap.size + 3 :=
  ⟨blk_alloc (blk_alloc (alloc_new _ _)), blk_alloc (alloc_at _ _ (by simp)), alloc_at _ _ (by simp), (((Below.refl _ _).alloc (Nat.le_refl _) _).alloc (by simp) _).alloc (by simp; omega) _, by simp⟩
theorem four (w : World) (o1 o2 o3 o4 : Obj) : ((((w.alloc o1).alloc o2).alloc o3).alloc o4).heap[w.heap.size]? = some o1 ∧ ((((w.alloc o1).alloc o2).alloc o3).alloc o4).heap[w.heap.size + 1]? = some o2 ∧ ((((w.alloc o1).alloc o2).alloc o3).alloc o4).heap[w.heap.size + 1 + 1]? = some o3 ∧ ((((w.alloc o1).alloc o2).alloc o3).alloc o4).heap[w.heap.size + 1 + 1 + 1]? = some o4 ∧
    Below w.heap.size w ((((w.alloc o1).alloc o2).alloc o3).alloc o4) ∧ ((((w.alloc o1).alloc o2).alloc o3).alloc o4).heap.size = w.heap.size + 4 := by
  obtain ⟨h1, h2, h3, h4, h5⟩ := three w o1 o2 o3
  exact ⟨blk_alloc h1, blk_alloc h2, blk_alloc h3, alloc_at _ _ (by rw [h5]), h4.alloc h4.size _, by simp⟩
theorem frozen3 {W : World} {b : Nat} {x y z : Value} {t : TypeId} (h : W.heap[b]? = some (.cells #[x, y, z] t (0, 0))) : W.frozen? ⟨b, 0, none⟩ = false ∧ W.frozen? ⟨b, 1, none⟩ = false ∧ W.frozen? ⟨b, 2, none⟩ = false := ⟨free h 0, free h 1, free h 2⟩
theorem frozen4 {W : World} {b : Nat} {x y z v : Value} {t : TypeId} (h : W.heap[b]? = some (.cells #[x, y, z, v] t (0, 0))) : W.frozen? ⟨b, 0, none⟩ = false ∧ W.frozen? ⟨b, 1, none⟩ = false ∧ W.frozen? ⟨b, 2, none⟩ = false ∧ W.frozen? ⟨b, 3, none⟩ = false :=
  ⟨free h 0, free h 1, free h 2, free h 3⟩
theorem three_set {W : World} {b : Nat} {x y z x' y' z' : Value} {t : TypeId} (h : W.heap[b]? = some (.cells #[x, y, z] t (0, 0))) : (((W.setCell ⟨b, 0, none⟩ x').setCell ⟨b, 1, none⟩ y').setCell ⟨b, 2, none⟩ z').heap[b]? = some (.cells #[x', y', z'] t (0, 0)) := by
  rw [blk_put (blk_put (blk_put h))]; rfl
theorem four_set {W : World} {b : Nat} {x y z u x' y' z' u' : Value} {t : TypeId} (h : W.heap[b]? = some (.cells #[x, y, z, u] t (0, 0))) : ((((W.setCell ⟨b, 0, none⟩ x').setCell ⟨b, 1, none⟩ y').setCell ⟨b, 2, none⟩ z').setCell ⟨b, 3, none⟩ u').heap[b]? = some (.cells #[x', y', z', u'] t (0, 0)) := by
  rw [blk_put (blk_put (blk_put (blk_put h)))]; rfl
theorem far3 {W : World} {b B : Nat} {o : Obj} {x' y' z' : Value} (h : W.heap[b]? = some o) (hn : b ≠ B) : (((W.setCell ⟨B, 0, none⟩ x').setCell ⟨B, 1, none⟩ y').setCell ⟨B, 2, none⟩ z').heap[b]? = some o := blk_set (blk_set (blk_set h hn) hn) hn
theorem far4 {W : World} {b B : Nat} {o : Obj} {x' y' z' u' : Value} (h : W.heap[b]? = some o) (hn : b ≠ B) : ((((W.setCell ⟨B, 0, none⟩ x').setCell ⟨B, 1, none⟩ y').setCell ⟨B, 2, none⟩ z').setCell ⟨B, 3, none⟩ u').heap[b]? = some o := blk_set (far3 h hn) hn
end Go.Frame
