/-
  Rows of edits of the call's own: their cells, what lies in memory (no program; lies as <Seat>Ev, behind <Seat>Kt).
-/
import Derived.Test.YtahikgdgbgclkaaKt
import Derived.Deep.AppendLies
namespace Go.Frame
open Go.RowKit
/-- The cells of edits. -/
def ev (l : List (Int × Int × ByteArray)) : List Value := l.flatMap fun e => [.int .i64 e.1, .int .i64 e.2.1, .string e.2.2]
theorem ev_app (a b : List (Int × Int × ByteArray)) : ev (a ++ b) = ev a ++ ev b := by simp [ev]
theorem ev_one (e : Int × Int × ByteArray) : ev [e] = [.int .i64 e.1, .int .i64 e.2.1, .string e.2.2] := by simp [ev]
theorem ev_length : ∀ l : List (Int × Int × ByteArray), (ev l).length = l.length * 3
  | [] => rfl
  | e :: l => by
    have := ev_length l
    unfold ev at this ⊢
    rw [List.flatMap_cons, List.length_append, this]
    simp only [List.length_cons, List.length_nil]; omega
theorem ev_at : ∀ {l : List (Int × Int × ByteArray)} {i : Nat} {e : Int × Int × ByteArray}, l[i]? = some e → (ev l)[i * 3]? = some (.int .i64 e.1) ∧ (ev l)[i * 3 + 1]? = some (.int .i64 e.2.1) ∧ (ev l)[i * 3 + 2]? = some (.string e.2.2)
  | x :: l, 0, e, h => by
    simp at h; subst h
    refine ⟨?_, ?_, ?_⟩ <;> simp [ev]
  | x :: l, i + 1, e, h => by
    have ih := ev_at (l := l) (i := i) (e := e) (by simpa using h)
    have e1 : ev (x :: l) = [.int .i64 x.1, .int .i64 x.2.1, .string x.2.2] ++ ev l := by simp [ev]
    rw [e1, show (i + 1) * 3 = i * 3 + 3 by omega]
    refine ⟨?_, ?_, ?_⟩
    · rw [List.getElem?_append_right (by simp)]; simpa using ih.1
    · rw [List.getElem?_append_right (by simp)]; simpa using ih.2.1
    · rw [List.getElem?_append_right (by simp)]; simpa using ih.2.2
theorem ev_one_cell {l : List (Int × Int × ByteArray)} : ∀ u ∈ ev l, u.oneCell' = true := by
  intro u hu
  unfold ev at hu
  rw [List.mem_flatMap] at hu
  obtain ⟨e, _, he⟩ := hu
  simp at he
  rcases he with rfl | rfl | rfl <;> rfl
/-- A row of the call's own lies in memory. -/
theorem own_erow {W : World} {base : Nat} {e : TypeId} {v : Value} {l : List (Int × Int × ByteArray)} (h : W.ownsRow base e 3 v l.length (ev l)) : ∃ p c, v = .slice p l.length c ∧ ERow W p l.length l := by
  rcases h.2 with ⟨rfl, h0⟩ | ⟨g, cap, cur, rfl, hb, hg, hn, _, hc, ht⟩
  · exact ⟨none, 0, by rw [h0], rfl, .inl h0⟩
  · refine ⟨_, cap, rfl, rfl, .inr ⟨g, 0, rfl, heap_lt hg, fun i x hx => ?_⟩⟩
    obtain ⟨h1, h2, h3⟩ := ev_at hx
    have at_ : ∀ k u, (ev l)[k]? = some u → W.cell? ⟨g, k, none⟩ = some u := fun k u hu => by
      rw [← ht, List.getElem?_take] at hu
      split at hu
      · simp only [World.cell?, hg]
        simpa using hu
      · cases hu
    simp only [Nat.zero_add]
    exact ⟨at_ _ _ h1, at_ _ _ h2, at_ _ _ h3⟩
/-- A row of one edit in a block. -/
theorem erow_one {W : World} {b : Nat} {x : Int × Int × ByteArray} {t : TypeId} (h : W.heap[b]? = some (.cells #[.int .i64 x.1, .int .i64 x.2.1, .string x.2.2] t (0, 0))) : ERow W (some ⟨b, 0, none⟩) 1 [x] := by
  refine ⟨rfl, .inr ⟨b, 0, rfl, heap_lt h, fun i y hy => ?_⟩⟩
  obtain ⟨hl, he⟩ := List.getElem?_eq_some_iff.1 hy
  have hi : i = 0 := by simp at hl; omega
  subst hi
  simp at he
  subst he
  exact cells3 h
end Go.Frame
