/-
  What a history is in memory; what a call that may write to it leaves alone (no program).
-/
import Derived.Test.YtfhdbenomkbfjaaM
import Derived.Test.YtfhdbenomkbfjaaBa
import Derived.Maps.AppendAt
import Derived.Deep.AppendLies
import Derived.Deep.Upon
namespace Go.Proofs.Ytfhdbenomkbfjaa
open Go.RowKit Te Go.Frame

/-- The blocks outside F are as they were. -/
structure Kept (F : Nat → Prop) (w w' : World) : Prop where
  os : w'.os = w.os
  tape : w'.tape = w.tape
  output : w'.output = w.output
  size : w.heap.size ≤ w'.heap.size
  block : ∀ k, ¬ F k → w'.heap[k]? = w.heap[k]?
/-- F bears all blocks that are not there yet. -/
def Up (F : Nat → Prop) (w : World) : Prop := ∀ b, w.heap.size ≤ b → F b
theorem Up.mono {F : Nat → Prop} {w w' : World} (h : Up F w) (hs : w.heap.size ≤ w'.heap.size) : Up F w' := fun b hb => h b (Nat.le_trans hs hb)
theorem Kept.refl (F : Nat → Prop) (w : World) : Kept F w w := ⟨rfl, rfl, rfl, Nat.le_refl _, fun _ _ => rfl⟩
theorem Kept.trans {F : Nat → Prop} {a b c : World} (h : Kept F a b) (k : Kept F b c) : Kept F a c :=
  ⟨k.os.trans h.os, k.tape.trans h.tape, k.output.trans h.output, Nat.le_trans h.size k.size, fun i hi => (k.block i hi).trans (h.block i hi)⟩
theorem Kept.mono {F G : Nat → Prop} {w w' : World} (h : Kept F w w') (hF : ∀ b, F b → G b) : Kept G w w' := ⟨h.os, h.tape, h.output, h.size, fun k hk => h.block k (fun hf => hk (hF k hf))⟩
theorem Kept.below {n : Nat} {F : Nat → Prop} {w w' : World} (h : Below n w w') (hF : ∀ b, n ≤ b → F b) : Kept F w w' :=
  ⟨h.os, h.tape, h.output, h.size, fun k hk => h.block k (by by_cases hn : n ≤ k; exact absurd (hF k hn) hk; omega)⟩
theorem Kept.toBelow {n : Nat} {F : Nat → Prop} {w w' : World} (h : Kept F w w') (hF : ∀ b, F b → n ≤ b) : Below n w w' :=
  ⟨h.os, h.tape, h.output, h.size, fun k hk => h.block k (fun hf => by have := hF k hf; omega)⟩
theorem Kept.alloc {F : Nat → Prop} {a w : World} (h : Kept F a w) (hu : Up F w) (o : Obj) : Kept F a (w.alloc o) :=
  h.trans (Kept.below ((Below.refl _ w).alloc (Nat.le_refl _) o) hu)
theorem Kept.drew {F : Nat → Prop} {a w : World} (h : Kept F a w) : Kept F a w.drew := ⟨h.os, h.tape, h.output, h.size, h.block⟩
theorem Kept.setCell {F : Nat → Prop} {a w : World} (h : Kept F a w) {p : Addr} (hp : F p.block) (u : Value) : Kept F a (w.setCell p u) :=
  h.trans ⟨rfl, rfl, rfl, by simp [World.setCell], fun k hk => heap_setCell_other _ _ _ _ (fun e => hk (e ▸ hp))⟩
theorem Kept.grown {F : Nat → Prop} {a w w' : World} {row : Option Nat} (h : Kept F a w) (hg : w.grownBy w' row) (hu : Up F w) (hr : ∀ k, row = some k → F k) : Kept F a w' :=
  h.trans ⟨hg.os, hg.tape, hg.output, hg.size, fun k hk => hg.block k (by by_cases hn : w.heap.size ≤ k; exact absurd (hu k hn) hk; omega) (fun e => hk (hr k e.symm))⟩

/-- The cells of edits. -/
def ev (l : List Ed) : List Value := l.flatMap fun e => [.int .i64 e.1, .int .i64 e.2.1, .string e.2.2]
theorem ev_app (a b : List Ed) : ev (a ++ b) = ev a ++ ev b := by simp [ev]
theorem ev_one (e : Ed) : ev [e] = [.int .i64 e.1, .int .i64 e.2.1, .string e.2.2] := by simp [ev]
theorem ev_length : ∀ l : List Ed, (ev l).length = l.length * 3
  | [] => rfl
  | e :: l => by
    have := ev_length l
    unfold ev at this ⊢
    rw [List.flatMap_cons, List.length_append, this]
    simp only [List.length_cons, List.length_nil]; omega
theorem ev_at : ∀ {l : List Ed} {i : Nat} {e : Ed}, l[i]? = some e → (ev l)[i * 3]? = some (.int .i64 e.1) ∧ (ev l)[i * 3 + 1]? = some (.int .i64 e.2.1) ∧ (ev l)[i * 3 + 2]? = some (.string e.2.2)
  | x :: l, 0, e, h => by
    simp at h; subst h
    refine ⟨?_, ?_, ?_⟩ <;> simp [ev]
  | x :: l, i + 1, e, h => by
    have ih := ev_at (l := l) (i := i) (e := e) (by simpa using h)
    have e1 : ev (x :: l) = [.int .i64 x.1, .int .i64 x.2.1, .string x.2.2] ++ ev l := by simp [ev]
    rw [e1, show (i + 1) * 3 = i * 3 + 3 by omega]
    refine ⟨?_, ?_, ?_⟩
    · rw [List.getElem?_append_right (by simp)]; simpa using ih.1
    · rw [List.getElem?_append_right (by simp)]; simpa using ih.2.1
    · rw [List.getElem?_append_right (by simp)]; simpa using ih.2.2
theorem ev_one_cell {l : List Ed} : ∀ u ∈ ev l, u.oneCell' = true := by
  intro u hu
  unfold ev at hu
  rw [List.mem_flatMap] at hu
  obtain ⟨e, _, he⟩ := hu
  simp at he
  rcases he with rfl | rfl | rfl <;> rfl
theorem ownsRow_keep {w w' : World} {base : Nat} {e : TypeId} {size : Nat} {v : Value} {n : Nat} {xs : List Value} (h : w.ownsRow base e size v n xs) (hk : ∀ k, v.ownBlock = some k → w'.heap[k]? = w.heap[k]?) : w'.ownsRow base e size v n xs := by
  refine ⟨h.1, ?_⟩
  rcases h.2 with hn | ⟨g, cap, cur, rfl, hb, hg, rest⟩
  · exact .inl hn
  · exact .inr ⟨g, cap, cur, rfl, hb, (hk g rfl).trans hg, rest⟩
/-- A history at block B, its blocks in F. -/
def Hist (F : Nat → Prop) (w : World) (B : Nat) (s : ByteArray) (U R : List Ed) (v : Nat) : Prop :=
  ∃ vu vr, w.heap[B]? = some (.cells #[.string s, vu, vr, .int .i64 (v : Int)] 53 (0, 0)) ∧ w.ownsRow 0 31 3 vu U.length (ev U.reverse) ∧ w.ownsRow 0 31 3 vr R.length (ev R.reverse) ∧
    F B ∧ (∀ k, vu.ownBlock = some k → F k ∧ k ≠ B) ∧ (∀ k, vr.ownBlock = some k → F k ∧ k ≠ B) ∧ (∀ k, vu.ownBlock = some k → vr.ownBlock ≠ some k)
theorem Hist.keep {F G : Nat → Prop} {w w' : World} {B : Nat} {s : ByteArray} {U R : List Ed} {v : Nat} (h : Hist F w B s U R v) (hk : Kept G w w') (hd : ∀ b, F b → ¬ G b) : Hist F w' B s U R v := by
  obtain ⟨vu, vr, h1, h2, h3, h4, h5, h6, h7⟩ := h
  exact ⟨vu, vr, (hk.block _ (hd _ h4)).trans h1, ownsRow_keep h2 fun k hk' => hk.block _ (hd _ (h5 k hk').1), ownsRow_keep h3 fun k hk' => hk.block _ (hd _ (h6 k hk').1), h4, h5, h6, h7⟩
theorem Hist.mono {F G : Nat → Prop} {w : World} {B : Nat} {s : ByteArray} {U R : List Ed} {v : Nat} (h : Hist F w B s U R v) (hF : ∀ b, F b → b < w.heap.size → G b) : Hist G w B s U R v := by
  obtain ⟨vu, vr, h1, h2, h3, h4, h5, h6, h7⟩ := h
  exact ⟨vu, vr, h1, h2, h3, hF _ h4 (heap_lt h1), fun k hk => ⟨hF _ (h5 k hk).1 (h2.lt k hk).2, (h5 k hk).2⟩, fun k hk => ⟨hF _ (h6 k hk).1 (h3.lt k hk).2, (h6 k hk).2⟩, h7⟩
/-- What happens behind the blocks that are there leaves a history alone. -/
theorem Hist.below {F : Nat → Prop} {w w' : World} {B : Nat} {s : ByteArray} {U R : List Ed} {v : Nat} (h : Hist F w B s U R v) (hb : Below w.heap.size w w') : Hist F w' B s U R v := by
  obtain ⟨vu, vr, h1, h2, h3, h4, h5, h6, h7⟩ := h
  exact ⟨vu, vr, (hb.block _ (heap_lt h1)).trans h1, ownsRow_keep h2 fun k hk' => hb.block _ (h2.lt k hk').2, ownsRow_keep h3 fun k hk' => hb.block _ (h3.lt k hk').2, h4, h5, h6, h7⟩
/-- The form of a row that is owned. -/
theorem own_form {w : World} {base : Nat} {e : TypeId} {size : Nat} {v : Value} {n : Nat} {xs : List Value} (h : w.ownsRow base e size v n xs) : ∃ p c, v = .slice p n c := by
  rcases h.2 with ⟨rfl, rfl⟩ | ⟨g, cap, cur, rfl, _⟩
  · exact ⟨none, 0, rfl⟩
  · exact ⟨_, cap, rfl⟩
end Go.Proofs.Ytfhdbenomkbfjaa
