/-
  Rows of tokens; contract: Lex.
-/
import Derived.Test.YtblcjjhjgoccgaaD
import Derived.Deep.AppendLies
set_option linter.unusedSimpArgs false
set_option linter.unusedVariables false
namespace Go.Proofs.Ytblcjjhjgoccgaa
open Go.RowKit Lx Go.Frame

/-- A token as it stands in memory: kind, offset, text, look. -/
abbrev TQ := Int × Int × ByteArray × Int
def tqv (t : TQ) : List Value := [.int .i64 t.1, .int .i64 t.2.1, .string t.2.2.1, .int .i64 t.2.2.2]
def tq (t : Tk) : TQ := (t.kind, (t.pos : Int), t.txt, (t.look : Int))
def tl (l : List TQ) : List Value := l.flatMap tqv
theorem tl_app (a b : List TQ) : tl (a ++ b) = tl a ++ tl b := by simp [tl]
theorem tl_one (t : TQ) : tl [t] = tqv t := by simp [tl]
theorem tl_length : ∀ l : List TQ, (tl l).length = l.length * 4
  | [] => rfl
  | e :: l => by
    have := tl_length l
    unfold tl at this ⊢
    rw [List.flatMap_cons, List.length_append, this]
    simp only [tqv, List.length_cons, List.length_nil]; omega
theorem tl_at : ∀ {l : List TQ} {i j : Nat} {t : TQ} {v : Value}, l[i]? = some t → (tqv t)[j]? = some v → (tl l)[i * 4 + j]? = some v
  | x :: l, 0, j, t, v, h, hv => by
    simp at h; subst h
    have hj := (List.getElem?_eq_some_iff.1 hv).1
    have e1 : tl (x :: l) = tqv x ++ tl l := by simp [tl]
    rw [e1, List.getElem?_append_left (by omega), Nat.zero_mul, Nat.zero_add]; exact hv
  | x :: l, i + 1, j, t, v, h, hv => by
    have ih := tl_at (l := l) (i := i) (t := t) (by simpa using h) hv
    have e1 : tl (x :: l) = tqv x ++ tl l := by simp [tl]
    have e2 : (tqv x).length = 4 := rfl
    rw [e1, List.getElem?_append_right (by rw [e2]; omega), e2, show (i + 1) * 4 + j - 4 = i * 4 + j by omega]; exact ih
/-- A slice of tokens in memory. -/
def TRow (W : World) (p : Option Addr) (n : Nat) (l : List TQ) : Prop := CRow 4 W p n (l.map tqv)
theorem TRow.below {W W' : World} {p : Option Addr} {n : Nat} {l : List TQ} (h : TRow W p n l) (hb : Below W.heap.size W W') : TRow W' p n l := CRow.below h hb
theorem TRow.len {W : World} {p : Option Addr} {n : Nat} {l : List TQ} (h : TRow W p n l) : l.length = n := by have := h.1; simpa using this
theorem trow_at {W : World} {p : Option Addr} {n i : Nat} {l : List TQ} (h : TRow W p n l) (hi : i < n) : ∃ b off t, p = some ⟨b, off, none⟩ ∧ b < W.heap.size ∧ l[i]? = some t ∧ W.cell? ⟨b, off + i * 4, none⟩ = some (.int .i64 t.1) ∧ W.cell? ⟨b, off + i * 4 + 1, none⟩ = some (.int .i64 t.2.1) ∧ W.cell? ⟨b, off + i * 4 + 2, none⟩ = some (.string t.2.2.1) ∧ W.cell? ⟨b, off + i * 4 + 3, none⟩ = some (.int .i64 t.2.2.2) := by
  have hl := h.len
  rcases h.2 with h0 | ⟨b, off, rfl, hb, hx⟩
  · omega
  · have hil : i < l.length := by omega
    have hc : (l.map tqv)[i]? = some (tqv l[i]) := by rw [List.getElem?_map, List.getElem?_eq_getElem hil]; rfl
    exact ⟨b, off, l[i], rfl, hb, List.getElem?_eq_getElem hil, hx i _ hc 0 _ rfl, hx i _ hc 1 _ rfl, hx i _ hc 2 _ rfl, hx i _ hc 3 _ rfl⟩
/-- A row of the call's own lies in memory. -/
theorem own_trow {W : World} {base : Nat} {e : TypeId} {v : Value} {l : List TQ} (h : W.ownsRow base e 4 v l.length (tl l)) : ∃ p c, v = .slice p l.length c ∧ TRow W p l.length l := by
  rcases h.2 with ⟨rfl, h0⟩ | ⟨g, cap, cur, rfl, hb, hg, hn, _, hc, ht⟩
  · exact ⟨none, 0, by rw [h0], by simp, .inl h0⟩
  · refine ⟨_, cap, rfl, by simp, .inr ⟨g, 0, rfl, heap_lt hg, fun i cs hi j u hj => ?_⟩⟩
    rw [List.getElem?_map] at hi
    obtain ⟨t, ht2, rfl⟩ := Option.map_eq_some_iff.1 hi
    have hu := tl_at ht2 hj
    rw [← ht, List.getElem?_take] at hu
    split at hu
    · simp only [World.cell?, hg]
      simpa using hu
    · cases hu
theorem own_le {W : World} {base e s n c : Nat} {a : Option Addr} {xs : List Value} (h : W.ownsRow base e s (.slice a n c) n xs) : n ≤ c := by
  rcases h.2 with ⟨e1, h0⟩ | ⟨g, cap, cur, e1, _, _, h1, _⟩
  · omega
  · simp only [Value.slice.injEq] at e1; omega
/-- A slice of tokens is the result. -/
def TRes (w : World) (l : List TQ) (e : Ending) (w' : World) : Prop := (∃ p c, e = .returned (.slice p l.length c) ∧ TRow w' p l.length l ∧ l.length ≤ c) ∧ Below w.heap.size w w'
theorem tqv_one {t : TQ} : ∀ u ∈ tqv t, u.oneCell' = true := by
  intro u hu
  simp [tqv] at hu
  rcases hu with rfl | rfl | rfl | rfl <;> rfl
/-- The tokens of a text. -/
def lexT (D : Df) (s : ByteArray) : List TQ := (lexAt D s 0).map tq
theorem lexT_len (D : Df) (s : ByteArray) : (lexT D s).length ≤ s.size := by
  unfold lexT; rw [List.length_map]; exact lexAt_len D s s.size 0 (by omega)
theorem info47 : (Try.prog.info? 47).map (fun i => (i.zero, i.size, i.bytes)) = some (some (.agg #[.int .i64 0, .int .i64 0, .string { data := #[] }, .int .i64 0]), 4, 40) := by kernel_rfl
end Go.Proofs.Ytblcjjhjgoccgaa
