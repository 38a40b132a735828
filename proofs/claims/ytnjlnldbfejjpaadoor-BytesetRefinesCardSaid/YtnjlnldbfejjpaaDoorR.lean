/-
  Rows of sets of the call's own; the facts that stand while 'append(append(.., l..), more)' and two calls of Classes come up in whatever order.
-/
import Derived.Test.YtnjlnldbfejjpaaDoorQ
import Derived.Test.YtnjlnldbfejjpaaDoorIv
import Derived.Deep.AppendLies
import Derived.Deep.CutRange
import Derived.Deep.CutBlock
set_option linter.unusedSimpArgs false
set_option linter.unusedVariables false
namespace Go.Proofs.YtnjlnldbfejjpaaDoor
open Go.RowKit Bs Go.Frame
attribute [local irreducible] nb cnt pc els cf fs

/-- The cells of sets. -/
def fl (E : List (Nat → Bool)) : List Value := E.flatMap sl
theorem fl_length : ∀ E : List (Nat → Bool), (fl E).length = E.length * 4
  | [] => rfl
  | p :: E => by
    have := fl_length E
    unfold fl at this ⊢
    rw [List.flatMap_cons, List.length_append, this]
    simp only [sl, List.length_cons, List.length_nil]; omega
theorem fl_app (A B : List (Nat → Bool)) : fl (A ++ B) = fl A ++ fl B := by simp [fl]
theorem fl_one (p : Nat → Bool) : fl [p] = sl p := by simp [fl]
theorem fl_at : ∀ {E : List (Nat → Bool)} {i : Nat} {p : Nat → Bool}, E[i]? = some p → ∀ j, j < 4 → (fl E)[i * 4 + j]? = (sl p)[j]?
  | q :: E, 0, p, h, j, hj => by
    simp at h; subst h
    have e : fl (q :: E) = sl q ++ fl E := by simp [fl]
    rw [e, Nat.zero_mul, Nat.zero_add, List.getElem?_append_left (by simpa [sl] using hj)]
  | q :: E, i + 1, p, h, j, hj => by
    have ih := fl_at (E := E) (i := i) (p := p) (by simpa using h) j hj
    have e : fl (q :: E) = sl q ++ fl E := by simp [fl]
    rw [e, show (i + 1) * 4 + j = (i * 4 + j) + 4 by omega, List.getElem?_append_right (by simp [sl])]
    simpa [sl] using ih
theorem fl_one_cell {E : List (Nat → Bool)} : ∀ u ∈ fl E, u.oneCell' = true := by
  intro u hu
  unfold fl at hu
  rw [List.mem_flatMap] at hu
  obtain ⟨p, _, hp⟩ := hu
  simp [sl] at hp
  rcases hp with rfl | rfl | rfl | rfl <;> rfl
theorem sets_news {W : World} {b off n : Nat} {E : List (Nat → Bool)} (h : Sets W (some ⟨b, off, none⟩) n E) : ∀ j u, (fl E)[j]? = some u → W.cell? ((⟨b, off, none⟩ : Addr).add j) = some u := by
  intro j u hj
  rw [add_at]
  have hl := (List.getElem?_eq_some_iff.1 hj).1
  rw [fl_length, h.length] at hl
  obtain ⟨q, r, hr, rfl⟩ : ∃ q r, r < 4 ∧ j = q * 4 + r := ⟨j / 4, j % 4, Nat.mod_lt _ (by omega), by omega⟩
  obtain ⟨p, hp⟩ : ∃ p, E[q]? = some p := ⟨E[q]'(by rw [h.length]; omega), List.getElem?_eq_getElem _⟩
  rw [fl_at hp r hr] at hj
  rcases h.2 with h0 | ⟨b', off', he, _, hrow⟩
  · omega
  · simp only [Option.some.injEq, Addr.mk.injEq, and_true] at he
    obtain ⟨rfl, rfl⟩ := he
    have := hrow q (sl p) (by rw [List.getElem?_map, hp]; rfl) r u hj
    rw [← Nat.add_assoc]; exact this
theorem own_sets {W : World} {base : Nat} {v : Value} {n : Nat} {E : List (Nat → Bool)} (h : W.ownsRow base 25 4 v n (fl E)) : ∃ a c, v = .slice a n c ∧ Sets W a n E := by
  have hl : E.length = n := by have := h.1; rw [fl_length] at this; omega
  rcases h.2 with ⟨rfl, h0⟩ | ⟨g, cap, cur, rfl, hb, hg, hn, _, hc, ht⟩
  · exact ⟨none, 0, by rw [h0], by simpa using hl, .inl h0⟩
  · refine ⟨_, cap, rfl, by simpa using hl, .inr ⟨g, 0, rfl, heap_lt hg, fun i cs hi j v hj => ?_⟩⟩
    rw [List.getElem?_map] at hi
    cases hp : E[i]? with
    | none => rw [hp] at hi; cases hi
    | some p =>
      rw [hp] at hi
      simp at hi; subst hi
      have hj4 : j < 4 := by have := (List.getElem?_eq_some_iff.1 hj).1; simpa [sl] using this
      have h1 := fl_at hp j hj4
      rw [hj, ← ht, List.getElem?_take] at h1
      split at h1
      · simp only [World.cell?, hg, Nat.zero_add]
        simpa using h1
      · cases h1
theorem own_nil {W : World} {base g : Nat} (hb : base ≤ g) (h : W.heap[g]? = some (.cells #[] 25 (0, 0))) : W.ownsRow base 25 4 (.slice (some ⟨g, 0, none⟩) 0 0) 0 (fl []) :=
  ⟨rfl, .inr ⟨g, 0, #[], rfl, hb, h, Nat.le_refl _, by unfold maxLen; omega, rfl, by simp [fl]⟩⟩
/-- The block of a row of sets is none of another make. -/
theorem own_ne {W : World} {base : Nat} {v : Value} {n g : Nat} {xs : List Value} {c : Array Value} (h : W.ownsRow base 25 4 v n xs) (hg : W.heap[g]? = some (.cells c 3 (0, 0))) : v.ownBlock ≠ some g := by
  intro e
  rcases h.2 with ⟨hn, _⟩ | ⟨g', cap, cur, hv, _, hgc, _⟩
  · rw [hn] at e; simp [Value.ownBlock] at e
  · rw [hv] at e
    simp only [Value.ownBlock, Option.some.injEq] at e
    rw [e, hg] at hgc
    cases hgc
theorem Tryd.info25 : (Tryd.prog.info? 25).map (fun i => (i.zero, i.size, i.bytes)) = some (some (.agg #[.int .u64 0, .int .u64 0, .int .u64 0, .int .u64 0]), 4, 32) := by kernel_rfl
theorem append_none (W : World) (g : Nat) (q : Option Addr) (c' : Nat) (ty : TypeId) : (Builtin.append_ #[41, 41] ty #[.slice (some ⟨g, 0, none⟩) 0 0, .slice q 0 c']).run Tryd.prog W = .ok (.slice (some ⟨g, 0, none⟩) 0 0) W := by
  obtain ⟨i0, hi, hz0, hz1, hz2⟩ := info_parts Tryd.info25
  refine run_append_nothing W 41 41 ty 25 i0 Tryd.underlying41 hi (some ⟨g, 0, none⟩) 0 0 (by omega) _ ?_
  cases q with
  | none => exact Src.ofNil W Tryd.underlying41 c'
  | some q => exact Src.ofSlice W Tryd.underlying41 q 0 c' [] (by simp) (by simp) (by simp)

/-- What stands when the operations b have come up. -/
structure Fc (N : Nat) (E : List (Nat → Bool)) (q : Nat → Bool) (W : World) (b : Nat → Bool) (v20 v21 v23 v25 v26 v27 : Value) (w : World) : Prop where
  f1 : b 1 = true → ∃ g, v20 = .slice (some ⟨g, 0, none⟩) 256 256 ∧ w.heap[g]? = some (.cells (ic 256 fun t => (num (Em E) t : Int)) 3 (0, 0)) ∧ N ≤ g
  f2 : b 2 = true → b 4 = false → ∃ g, v21 = .slice (some ⟨g, 0, none⟩) 0 0 ∧ w.heap[g]? = some (.cells #[] 25 (0, 0)) ∧ N ≤ g
  f4 : b 4 = true → b 7 = false → w.ownsRow N 25 4 v23 E.length (fl E)
  f6 : b 6 = true → b 7 = false → ∃ g, v25 = .slice (some ⟨g, 0, none⟩) 1 1 ∧ w.heap[g]? = some (.cells #[.int .u64 (wd (q) 0 : Int), .int .u64 (wd (q) 1 : Int), .int .u64 (wd (q) 2 : Int), .int .u64 (wd (q) 3 : Int)] 25 (0, 0)) ∧ N ≤ g ∧ (b 4 = true → v23.ownBlock ≠ some g)
  f7 : b 7 = true → b 8 = false → w.ownsRow N 25 4 v26 (E ++ [q]).length (fl (E ++ [q]))
  f8 : b 8 = true → ∃ g, v27 = .slice (some ⟨g, 0, none⟩) 256 256 ∧ w.heap[g]? = some (.cells (ic 256 fun t => (num (Em (E ++ [q])) t : Int)) 3 (0, 0)) ∧ N ≤ g
  fb : Below N W w
theorem Fc.below {N : Nat} {E : List (Nat → Bool)} {q : Nat → Bool} {W : World} {b : Nat → Bool} {v20 v21 v23 v25 v26 v27 : Value} {w w' : World} (h : Fc N E q W b v20 v21 v23 v25 v26 v27 w) (hN : N ≤ w.heap.size) (hb : Below w.heap.size w w') : Fc N E q W b v20 v21 v23 v25 v26 v27 w' := by
  refine ⟨fun h1 => ?_, fun h1 h2 => ?_, fun h1 h2 => ?_, fun h1 h2 => ?_, fun h1 h2 => ?_, fun h1 => ?_, h.fb.trans (hb.mono hN)⟩
  · obtain ⟨g, e, hg, hn⟩ := h.f1 h1; exact ⟨g, e, (hb.block _ (heap_lt hg)).trans hg, hn⟩
  · obtain ⟨g, e, hg, hn⟩ := h.f2 h1 h2; exact ⟨g, e, (hb.block _ (heap_lt hg)).trans hg, hn⟩
  · exact ownsRow_keep (h.f4 h1 h2) fun k hk => hb.block k ((h.f4 h1 h2).lt k hk).2
  · obtain ⟨g, e, hg, hn⟩ := h.f6 h1 h2; exact ⟨g, e, (hb.block _ (heap_lt hg)).trans hg, hn⟩
  · exact ownsRow_keep (h.f7 h1 h2) fun k hk => hb.block k ((h.f7 h1 h2).lt k hk).2
  · obtain ⟨g, e, hg, hn⟩ := h.f8 h1; exact ⟨g, e, (hb.block _ (heap_lt hg)).trans hg, hn⟩
/-- The same facts, at a set of operations that differs in nothing they speak of. -/
theorem Fc.at {N : Nat} {E : List (Nat → Bool)} {q : Nat → Bool} {W : World} {b b' : Nat → Bool} {v20 v21 v23 v25 v26 v27 : Value} {w : World} (h : Fc N E q W b v20 v21 v23 v25 v26 v27 w) (e : ∀ k, (k = 1 ∨ k = 2 ∨ k = 4 ∨ k = 6 ∨ k = 7 ∨ k = 8) → b' k = b k) : Fc N E q W b' v20 v21 v23 v25 v26 v27 w := by
  refine ⟨fun h1 => h.f1 ((e 1 (by simp)).symm.trans h1), fun h1 h2 => h.f2 ((e 2 (by simp)).symm.trans h1) ((e 4 (by simp)).symm.trans h2), fun h1 h2 => h.f4 ((e 4 (by simp)).symm.trans h1) ((e 7 (by simp)).symm.trans h2),
    fun h1 h2 => ?_, fun h1 h2 => h.f7 ((e 7 (by simp)).symm.trans h1) ((e 8 (by simp)).symm.trans h2), fun h1 => h.f8 ((e 8 (by simp)).symm.trans h1), h.fb⟩
  obtain ⟨g, e1, e2, e3, e4⟩ := h.f6 ((e 6 (by simp)).symm.trans h1) ((e 7 (by simp)).symm.trans h2)
  exact ⟨g, e1, e2, e3, fun h4 => e4 ((e 4 (by simp)).symm.trans h4)⟩
end Go.Proofs.YtnjlnldbfejjpaaDoor
