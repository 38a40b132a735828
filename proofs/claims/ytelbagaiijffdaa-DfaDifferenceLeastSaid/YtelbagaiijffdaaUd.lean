/-
  A growing slice of rows of numbers, each row in a block of its own.
-/
import Derived.Test.YtelbagaiijffdaaUc
set_option linter.unusedSimpArgs false
set_option linter.unusedVariables false
namespace Go.Proofs.Ytelbagaiijffdaa
open Go.RowKit Lx Go.Frame

theorem info22 : (Try.prog.info? 22).map (fun i => (i.zero, i.size, i.bytes)) = some (some (.slice none 0 0), 1, 24) := by kernel_rfl
/-- The value of a row in a block. -/
def rvv (p : Nat × List Int) : Value := .slice (some ⟨p.1, 0, none⟩) p.2.length p.2.length
/-- A growing slice of rows. -/
def OR (W : World) (base : Nat) (s : Value) (rv : List (Nat × List Int)) : Prop := W.ownsRow base 22 1 s rv.length (rv.map rvv) ∧ ∀ p ∈ rv, IB W p.1 p.2 ∧ base ≤ p.1
theorem OR.nil (W : World) (base : Nat) : OR W base (.slice none 0 0) [] := ⟨World.ownsRow_nil _ _ _ _, fun p hp => by cases hp⟩
theorem OR.keepF {W W' : World} {base : Nat} {s : Value} {rv : List (Nat × List Int)} (h : OR W base s rv) (h1 : ∀ k, s.ownBlock = some k → W'.heap[k]? = W.heap[k]?) (h2 : ∀ p ∈ rv, W'.heap[p.1]? = W.heap[p.1]?) : OR W' base s rv :=
  ⟨ownsRow_keep h.1 h1, fun p hp => ⟨(h2 p hp).trans (h.2 p hp).1, (h.2 p hp).2⟩⟩
theorem OR.keep {W W' : World} {base : Nat} {s : Value} {rv : List (Nat × List Int)} (h : OR W base s rv) (hb : Below W.heap.size W W') : OR W' base s rv :=
  h.keepF (fun k hk => hb.block k (h.1.lt k hk).2) fun p hp => hb.block _ (heap_lt (h.2 p hp).1)
theorem OR.form {W : World} {base : Nat} {s : Value} {rv : List (Nat × List Int)} (h : OR W base s rv) : ∃ a c, s = .slice a rv.length c := own_form h.1
theorem ib_ne {W : World} {b B t : Nat} {l : List Int} {c : Array Value} (h : IB W b l) (h2 : W.heap[B]? = some (.cells c t (0, 0))) (ht : t ≠ 3) : b ≠ B := by
  intro e
  subst e
  unfold IB at h
  rw [h2] at h
  simp at h
  exact ht h.2
theorem own_ne_block {W : World} {b e s n B t : Nat} {v : Value} {x : List Value} {c : Array Value} (h1 : W.ownsRow b e s v n x) (h2 : W.heap[B]? = some (.cells c t (0, 0))) (he : e ≠ t) : v.ownBlock ≠ some B := by
  intro hk
  rcases h1.2 with ⟨e', _⟩ | ⟨g, cap, cur, e', _, hg, _⟩
  · rw [e'] at hk; cases hk
  · rw [e'] at hk
    simp [Value.ownBlock] at hk
    subst hk
    rw [h2] at hg
    simp at hg
    exact he hg.2.symm
/-- A store into a block that is none of its own. -/
theorem OR.put {W : World} {base B j t : Nat} {s u : Value} {rv : List (Nat × List Int)} {c : Array Value} (h : OR W base s rv) (h2 : W.heap[B]? = some (.cells c t (0, 0))) (h3 : t ≠ 22) (h4 : t ≠ 3 ∨ ∀ p ∈ rv, p.1 ≠ B) : OR (W.setCell ⟨B, j, none⟩ u) base s rv :=
  h.keepF (fun k hk => heap_setCell_other _ _ _ _ fun e => own_ne_block h.1 h2 (fun e => h3 e.symm) ((show k = B from e) ▸ hk)) fun p hp => heap_setCell_other _ _ _ _ fun e => by
    rcases h4 with h4 | h4
    · exact ib_ne (h.2 p hp).1 h2 h4 e
    · exact h4 p hp e
/-- One row more, behind an append. -/
theorem OR.snoc {W w1 : World} {base b : Nat} {s v' : Value} {rv : List (Nat × List Int)} {r : List Int} {o : Obj} (h : OR W base s rv) (hI : IB W b r) (hb : base ≤ b) (hgrow : (W.alloc o).grownBy w1 s.ownBlock)
    (hown' : w1.ownsRow base 22 1 v' (rv.length + 1) (rv.map rvv ++ [rvv (b, r)])) : OR w1 base v' (rv ++ [(b, r)]) := by
  have hne : ∀ k l, IB W k l → w1.heap[k]? = W.heap[k]? := fun k l hk => by
    have hlt := heap_lt hk
    rw [hgrow.block k (by simp; omega) (fun e => own_ne_block h.1 hk (by decide) e.symm)]
    exact (bel1 W o).block k hlt
  refine ⟨by rw [List.length_append, List.map_append]; exact hown', fun p hp => ?_⟩
  rcases List.mem_append.1 hp with hp | hp
  · exact ⟨(hne _ _ (h.2 p hp).1).trans (h.2 p hp).1, (h.2 p hp).2⟩
  · simp only [List.mem_singleton] at hp
    subst hp
    exact ⟨(hne _ _ hI).trans hI, hb⟩
theorem OR.rows2 {W : World} {base : Nat} {s : Value} {rv : List (Nat × List Int)} (h : OR W base s rv) (hl : ∀ p ∈ rv, p.2.length ≤ 1000000) : ∃ a c, s = .slice a rv.length c ∧ Rows2 W a rv.length (rv.map (·.2)) := by
  obtain ⟨p, c, rfl, hr⟩ := own_row h.1
  refine ⟨p, c, rfl, by simp, ?_⟩
  rcases hr.2 with h0 | ⟨b, off, rfl, hb, hx⟩
  · exact .inl h0
  · refine .inr ⟨b, off, rfl, hb, fun i r hi => ?_⟩
    rw [List.getElem?_map] at hi
    obtain ⟨q, hq, rfl⟩ := Option.map_eq_some_iff.1 hi
    have := hl q (List.mem_of_getElem? hq)
    exact ⟨_, _, hx i (rvv q) (by rw [List.getElem?_map, hq]; rfl), (h.2 q (List.mem_of_getElem? hq)).1.row, by omega⟩
/-- A run of blocks that may change: the call's own. -/
theorem below_grown2 {n : Nat} {a W w1 : World} {o : Obj} {s : Value} {base e m : Nat} {xs : List Value} (hb : Below n a W) (h : W.ownsRow base e 1 s m xs) (hn : n ≤ base) (hgrow : (W.alloc o).grownBy w1 s.ownBlock) (hw : n ≤ W.heap.size) : Below n a w1 :=
  (hb.alloc hw o).grown hgrow (by simp; omega) (fun k hk => Nat.le_trans hn (h.lt k hk).1)
end Go.Proofs.Ytelbagaiijffdaa
