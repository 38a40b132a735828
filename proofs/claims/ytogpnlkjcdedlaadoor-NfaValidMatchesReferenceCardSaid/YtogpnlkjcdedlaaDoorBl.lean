/-
  Contract: translate, of every valid expression; numbers written to the builder.
-/
import Derived.Test.YtogpnlkjcdedlaaDoorBk
set_option linter.unusedSimpArgs false
set_option linter.unusedVariables false
namespace Go.Proofs.YtogpnlkjcdedlaaDoor
open Go.RowKit Bs Rg Nf Go.Frame
attribute [local go_sem] eq_zero eq_set

theorem trans_any (r : Rx) : Vd r → TS 64 r := by
  induction r using Rx.ind with
  | h k s l ih =>
    intro hv
    have hs := hv.shaped
    have hk := fun x hx => ih x hx (hv.kid hx)
    rcases shaped_kind hs with rfl | rfl | rfl | rfl | rfl | rfl
    · obtain rfl : l = [] := List.length_eq_zero_iff.1 (shaped_leaf hs (by simp))
      exact translate_1 s [] (none_any s)
    · obtain rfl : l = [] := List.length_eq_zero_iff.1 (shaped_leaf hs (by simp))
      exact translate_2 s [] (empty_any s)
    · obtain rfl : l = [] := List.length_eq_zero_iff.1 (shaped_leaf hs (by simp))
      exact translate_3 s [] (set_any s)
    · exact translate_4 s l (concat_any s l hk)
    · exact translate_5 s l (union_any s l hk)
    · obtain ⟨x, rfl⟩ := List.length_eq_one_iff.1 (shaped_star hs)
      exact translate_6 s [x] (star_any s x (hk x (by simp)))
theorem own_set {W : World} {base e n c g q : Nat} {xs : List Value} (h : W.ownsRow base e 1 (.slice (some ⟨g, 0, none⟩) n c) n xs) (v : Value) : (W.setCell ⟨g, q, none⟩ v).ownsRow base e 1 (.slice (some ⟨g, 0, none⟩) n c) n (xs.set q v) := by
  refine ⟨by have := h.1; simpa using this, ?_⟩
  rcases h.2 with ⟨e1, h0⟩ | ⟨g', cap, cur, e1, hb, hgg, hn2, hcm, hc2, ht⟩
  · cases e1
  · simp only [Value.slice.injEq, Option.some.injEq, Addr.mk.injEq] at e1
    obtain ⟨⟨rfl, _, _⟩, _, rfl⟩ := e1
    refine .inr ⟨g, c, cur.setIfInBounds q v, rfl, hb, blk_put hgg, hn2, hcm, by simpa using hc2, ?_⟩
    rw [Array.toList_setIfInBounds, ← ht, List.take_set]
theorem iv_set (A : List Int) (q : Nat) (x : Int) : (A.map iv).set q (.int .i64 x) = (A.set q x).map iv := by rw [List.map_set]; rfl
/-- A number written. -/
theorem BD.num {G : Nat → Prop} {W : World} {base bb most : Nat} {S : List BS} {M : Nat → Nat → Bool} {A : List Int} {sv av : Value} {g n c : Nat} {rb : Nat → Nat} (h : BD G W base bb most S M A sv av (.slice (some ⟨g, 0, none⟩) n c) rb) (hn : n = S.length) (q : Nat) (x : Int) : BD G (W.setCell ⟨g, q, none⟩ (.int .i64 x)) base bb most S M (A.set q x) sv av (.slice (some ⟨g, 0, none⟩) n c) rb ∧ Kept G W (W.setCell ⟨g, q, none⟩ (.int .i64 x)) := by
  subst hn
  have ho : ∀ k, k ≠ g → (W.setCell ⟨g, q, none⟩ (.int .i64 x)).heap[k]? = W.heap[k]? := fun k hk => heap_setCell_other _ _ _ _ hk
  have hown : (Value.slice (some ⟨g, 0, none⟩) S.length c).ownBlock = some g := rfl
  have hG : G g := h.gc g hown
  refine ⟨⟨(ho _ fun e => own_ne_block h.acc h.box (by decide) (by rw [hown, e])).trans h.box, ownsRow_keep h.sets fun k hk => ho k fun e => own_ne h.sets h.acc (by decide) hk (by rw [hown, e]), ownsRow_keep h.arcs fun k hk => ho k fun e => own_ne h.arcs h.acc (by decide) hk (by rw [hown, e]), ?_, fun i hi => ⟨?_, (h.rows i hi).2⟩, h.inj, h.gb, h.gs, h.ga, h.gc, fun b hb => by simpa using h.lt b hb, h.sup, h.most_le, h.len⟩, (Kept.refl G W).setCell (p := ⟨g, q, none⟩) hG _⟩
  · have := own_set (q := q) h.acc (.int .i64 x)
    rwa [iv_set] at this
  · have h1 : W.heap[rb i]? = some (.cells (bl (M i) most).toArray 4 (0, 0)) := (h.rows i hi).1
    exact (ho _ fun e => own_ne_block h.acc h1 (by decide) (by rw [hown, e])).trans h1
/-- The numbers behind one expression: nl and the last occurrences L. -/
def acl (nl : Bool) (L : List Nat) (x : Int) (A : List Int) : List Int := L.foldl (fun A q => A.set q x) (if nl = true ∧ A.getD 0 (-1) < 0 then A.set 0 x else A)
end Go.Proofs.YtogpnlkjcdedlaaDoor
