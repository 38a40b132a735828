/-
  What a call of Do, Undo, Redo comes to, as a plain function (no program).
-/
import Derived.Test.YtfhdbenomkbfjaaK
set_option linter.unusedSimpArgs false
set_option linter.unusedVariables false
namespace Te
structure St where
  s : ByteArray
  U : List Ed
  R : List Ed
  v : Nat
def zed : Ed := (0, 0, { data := #[] })
def undoR (x : St) : St × Ed × Int := match x.U with
  | [] => (x, zed, 15)
  | a :: U => (⟨ap x.s a, U, inv x.s a :: x.R, x.v + 1⟩, a, 0)
def redoR (x : St) : St × Ed × Int := match x.R with
  | [] => (x, zed, 15)
  | a :: R => (⟨ap x.s a, inv x.s a :: x.U, R, x.v + 1⟩, a, 0)
def doR (x : St) (e : Ed) : St × Ed × Int :=
  if Fit x.s.size e then (if (ap x.s e).size ≤ 4000 then (⟨ap x.s e, inv x.s e :: x.U, [], x.v + 1⟩, e, 0) else (x, zed, 11)) else (x, zed, 2)
def runR (x : St) (k : Nat) (e : Ed) : St × Ed × Int := if k % 3 = 1 then undoR x else if k % 3 = 2 then redoR x else doR x e
/-- The texts on the way are small, each edit of a stack fits; the numbers are small. -/
structure Ok (K n : Nat) (x : St) : Prop where
  U : Ch K x.s x.U
  R : Ch K x.s x.R
  v : x.v ≤ n
  len : x.U.length + x.R.length ≤ n
theorem Ok.size {K n : Nat} {x : St} (h : Ok K n x) : x.s.size ≤ K := h.U.size
theorem Ok.mono {K n m : Nat} {x : St} (h : Ok K n x) (hm : n ≤ m) : Ok K m x := ⟨h.U, h.R, Nat.le_trans h.v hm, Nat.le_trans h.len hm⟩
theorem Ok.undo {K n : Nat} {x : St} (h : Ok K n x) : Ok K (n + 1) (undoR x).1 := by
  obtain ⟨s, U, R, v⟩ := x
  obtain ⟨hU, hR, hv, hl⟩ := h
  cases U with
  | nil => exact ⟨hU, hR, by simp only [undoR] at *; omega, by simp only [undoR] at *; omega⟩
  | cons a U => exact ⟨hU.pop, Ch.push hR hU.fit hU.pop.size, by simp only [undoR] at *; omega, by simp only [undoR, List.length_cons] at *; omega⟩
theorem Ok.redo {K n : Nat} {x : St} (h : Ok K n x) : Ok K (n + 1) (redoR x).1 := by
  obtain ⟨s, U, R, v⟩ := x
  obtain ⟨hU, hR, hv, hl⟩ := h
  cases R with
  | nil => exact ⟨hU, hR, by simp only [redoR] at *; omega, by simp only [redoR] at *; omega⟩
  | cons a R => exact ⟨Ch.push hU hR.fit hR.pop.size, hR.pop, by simp only [redoR] at *; omega, by simp only [redoR, List.length_cons] at *; omega⟩
theorem Ok.do {K n : Nat} {x : St} {e : Ed} (h : Ok K n x) (hK : 4000 ≤ K) : Ok K (n + 1) (doR x e).1 := by
  unfold doR
  split
  · rename_i hf
    split
    · rename_i hs
      exact ⟨h.U.push hf (by omega), show (ap x.s e).size ≤ K by omega, Nat.succ_le_succ h.v, by have := h.len; simp only [List.length_cons, List.length_nil]; omega⟩
    · exact h.mono (by omega)
  · exact h.mono (by omega)
theorem Ok.run {K n : Nat} {x : St} {k : Nat} {e : Ed} (h : Ok K n x) (hK : 4000 ≤ K) : Ok K (n + 1) (runR x k e).1 := by
  unfold runR
  split
  · exact h.undo
  · split
    · exact h.redo
    · exact h.do hK
theorem undo_out {K n : Nat} {x x' : St} {a : Ed} {er : Int} (h : Ok K n x) (hr : undoR x = (x', a, er)) : (er = 0 → Fit x.s.size a ∧ ap x.s a = x'.s ∧ a.2.2.size ≤ K) ∧ (er ≠ 0 → x' = x) := by
  obtain ⟨s, U, R, v⟩ := x
  cases U with
  | nil =>
    simp only [undoR, Prod.mk.injEq] at hr
    obtain ⟨rfl, rfl, rfl⟩ := hr
    exact ⟨fun h => by simp at h, fun _ => rfl⟩
  | cons b U =>
    simp only [undoR, Prod.mk.injEq] at hr
    obtain ⟨rfl, rfl, rfl⟩ := hr
    exact ⟨fun _ => ⟨h.U.fit, rfl, h.U.ins⟩, fun h => by simp at h⟩
theorem redo_out {K n : Nat} {x x' : St} {a : Ed} {er : Int} (h : Ok K n x) (hr : redoR x = (x', a, er)) : (er = 0 → Fit x.s.size a ∧ ap x.s a = x'.s ∧ a.2.2.size ≤ K) ∧ (er ≠ 0 → x' = x) := by
  obtain ⟨s, U, R, v⟩ := x
  cases R with
  | nil =>
    simp only [redoR, Prod.mk.injEq] at hr
    obtain ⟨rfl, rfl, rfl⟩ := hr
    exact ⟨fun h => by simp at h, fun _ => rfl⟩
  | cons b R =>
    simp only [redoR, Prod.mk.injEq] at hr
    obtain ⟨rfl, rfl, rfl⟩ := hr
    exact ⟨fun _ => ⟨h.R.fit, rfl, h.R.ins⟩, fun h => by simp at h⟩
theorem do_out {K : Nat} {x x' : St} {a e : Ed} {er : Int} (he : e.2.2.size ≤ K) (hr : doR x e = (x', a, er)) : (er = 0 → Fit x.s.size a ∧ ap x.s a = x'.s ∧ a.2.2.size ≤ K) ∧ (er ≠ 0 → x' = x) := by
  unfold doR at hr
  by_cases hf : Fit x.s.size e
  · rw [if_pos hf] at hr
    by_cases hs : (ap x.s e).size ≤ 4000
    · rw [if_pos hs] at hr
      simp only [Prod.mk.injEq] at hr
      obtain ⟨rfl, rfl, rfl⟩ := hr
      exact ⟨fun _ => ⟨hf, rfl, he⟩, fun h => by simp at h⟩
    · rw [if_neg hs] at hr
      simp only [Prod.mk.injEq] at hr
      obtain ⟨rfl, rfl, rfl⟩ := hr
      exact ⟨fun h => by simp at h, fun _ => rfl⟩
  · rw [if_neg hf] at hr
    simp only [Prod.mk.injEq] at hr
    obtain ⟨rfl, rfl, rfl⟩ := hr
    exact ⟨fun h => by simp at h, fun _ => rfl⟩
theorem run_out {K n : Nat} {x x' : St} {k : Nat} {a e : Ed} {er : Int} (h : Ok K n x) (he : e.2.2.size ≤ K) (hr : runR x k e = (x', a, er)) : (er = 0 → Fit x.s.size a ∧ ap x.s a = x'.s ∧ a.2.2.size ≤ K) ∧ (er ≠ 0 → x' = x) := by
  unfold runR at hr
  split at hr
  · exact undo_out h hr
  · split at hr
    · exact redo_out h hr
    · exact do_out he hr
theorem do_ok {x x' : St} {e z : Ed} (h : doR x e = (x', z, 0)) : Fit x.s.size e ∧ x' = ⟨ap x.s e, inv x.s e :: x.U, [], x.v + 1⟩ ∧ z = e := by
  unfold doR at h
  by_cases hf : Fit x.s.size e
  · rw [if_pos hf] at h
    by_cases hs : (ap x.s e).size ≤ 4000
    · rw [if_pos hs] at h
      simp only [Prod.mk.injEq] at h
      exact ⟨hf, h.1.symm, h.2.1.symm⟩
    · rw [if_neg hs] at h
      simp at h
  · rw [if_neg hf] at h
    simp at h
theorem undo_do {x x' : St} {e : Ed} (hf : Fit x.s.size e) (hx : x' = ⟨ap x.s e, inv x.s e :: x.U, [], x.v + 1⟩) : ∃ y, undoR x' = (y, inv x.s e, 0) ∧ y.s = x.s := by
  subst hx
  exact ⟨_, rfl, (ap_inv hf).2.1⟩
theorem redo_undo {x x' y : St} {e z : Ed} (hf : Fit x.s.size e) (hx : x' = ⟨ap x.s e, inv x.s e :: x.U, [], x.v + 1⟩) (_ : z = e) {i : Ed} (hy : undoR x' = (y, i, 0)) : ∃ y', redoR y = (y', e, 0) ∧ y'.s = x'.s := by
  subst hx
  simp only [undoR, Prod.mk.injEq] at hy
  obtain ⟨rfl, rfl, _⟩ := hy
  obtain ⟨_, h1, h2⟩ := ap_inv hf
  simp only [redoR]
  rw [h1, h2]
  exact ⟨_, rfl, rfl⟩
/-- The history of the document. -/
abbrev Ta (K : Nat) (S0 : ByteArray) (E : List Ed) (k : Nat) (x : St) : Prop := Tale K S0 E k x.s x.U x.R
theorem ta_undo {K : Nat} {S0 : ByteArray} {E : List Ed} {k : Nat} {x : St} (h : Ta K S0 E (k + 1) x) : ∃ x' i, undoR x = (x', i, 0) ∧ Ta K S0 E k x' := by
  obtain ⟨s, U, R, v⟩ := x
  obtain ⟨t, e, h1, h2, h3, h4, h5, h6, h7, h8⟩ := Tale.undo h
  simp only at h4 h5 h6 h7
  subst h5
  refine ⟨⟨t, ivs S0 (E.take k), e :: R, v + 1⟩, inv t e, ?_, h8⟩
  simp only [undoR, h6, h7]
theorem ta_undo0 {K : Nat} {S0 : ByteArray} {E : List Ed} {x : St} (h : Ta K S0 E 0 x) : undoR x = (x, zed, 15) ∧ x.s = S0 := by
  obtain ⟨s, U, R, v⟩ := x
  have h1 := h.undos
  have h2 := h.now
  simp only [List.take_zero, ivs, apAll] at h1 h2
  simp only [Option.some.injEq] at h2
  subst h1
  exact ⟨rfl, h2.symm⟩
theorem ta_redo {K : Nat} {S0 : ByteArray} {E : List Ed} {k : Nat} {x : St} (h : Ta K S0 E k x) (hk : k < E.length) : ∃ x' i, redoR x = (x', i, 0) ∧ Ta K S0 E (k + 1) x' := by
  obtain ⟨s, U, R, v⟩ := x
  obtain ⟨e, R', h1, h2, h3, h4⟩ := Tale.redo h hk
  simp only at h2 h3 h4
  subst h2
  exact ⟨⟨ap s e, inv s e :: U, R', v + 1⟩, e, rfl, h4⟩
theorem ta_redo0 {K : Nat} {S0 : ByteArray} {E : List Ed} {k : Nat} {x : St} (h : Ta K S0 E k x) (hk : ¬ k < E.length) : redoR x = (x, zed, 15) := by
  obtain ⟨s, U, R, v⟩ := x
  have h1 := h.redos
  simp only at h1
  rw [List.drop_eq_nil_of_le (by omega)] at h1
  subst h1
  rfl
theorem ta_run {K : Nat} {S0 : ByteArray} {E : List Ed} {k : Nat} {x : St} (h : Ta K S0 E k x) (hK : 4000 ≤ K) (kd : Nat) (e : Ed) : ∃ E' k', Ta K S0 E' k' (runR x kd e).1 := by
  unfold runR
  split
  · cases k with
    | zero => rw [(ta_undo0 h).1]; exact ⟨E, 0, h⟩
    | succ k => obtain ⟨x', i, h1, h2⟩ := ta_undo h; rw [h1]; exact ⟨E, k, h2⟩
  · split
    · by_cases hk : k < E.length
      · obtain ⟨x', i, h1, h2⟩ := ta_redo h hk
        rw [h1]; exact ⟨E, k + 1, h2⟩
      · rw [ta_redo0 h hk]; exact ⟨E, k, h⟩
    · unfold doR
      split
      · rename_i hf
        split
        · rename_i hs
          exact ⟨_, _, Tale.do h hf (by omega)⟩
        · exact ⟨E, k, h⟩
      · exact ⟨E, k, h⟩
theorem ta_same {K : Nat} {S0 : ByteArray} {E : List Ed} {k : Nat} {x y : St} (h : Ta K S0 E k x) (h' : Ta K S0 E k y) : x.s = y.s := by
  have := h.now
  rw [h'.now] at this
  simpa using this.symm
theorem Ok.new {K : Nat} {s : ByteArray} (h : s.size ≤ K) : Ok K 0 ⟨s, [], [], 0⟩ := ⟨h, h, Nat.le_refl _, Nat.le_refl _⟩
end Te
namespace Go.Proofs.Ytfhdbenomkbfjaa
open Go.RowKit Te Go.Frame
abbrev Hi (F : Nat → Prop) (w : World) (B : Nat) (x : St) : Prop := Hist F w B x.s x.U x.R x.v
/-- Blocks that are no older than w and were made before W are taken out. -/
def sans (F : Nat → Prop) (a b : Nat) (k : Nat) : Prop := F k ∧ ¬ (a ≤ k ∧ k < b)
theorem Up.but {F : Nat → Prop} {w W : World} (h : Up F w) (hw : w.heap.size ≤ W.heap.size) (a : Nat) : Up (sans F a W.heap.size) W := fun b hb => ⟨h b (by omega), by omega⟩
theorem Hist.but {F : Nat → Prop} {w W : World} {B : Nat} {s : ByteArray} {U R : List Ed} {v : Nat} (h : Hist F w B s U R v) (hb : Below w.heap.size w W) (c : Nat) : Hist (sans F w.heap.size c) W B s U R v :=
  (h.mono (G := sans F w.heap.size c) fun b hb hl => ⟨hb, by omega⟩).below hb
theorem Hist.unbut {F : Nat → Prop} {w : World} {a c B : Nat} {s : ByteArray} {U R : List Ed} {v : Nat} (h : Hist (sans F a c) w B s U R v) : Hist F w B s U R v := h.mono fun _ hb _ => hb.1
end Go.Proofs.Ytfhdbenomkbfjaa
