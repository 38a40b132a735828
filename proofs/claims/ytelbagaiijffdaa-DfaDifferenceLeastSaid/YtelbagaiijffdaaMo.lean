/-
  Plain maths: blocks of states that no string tells apart, by refinement (namespace Mo; no program).
-/
import Derived.Test.YtelbagaiijffdaaR
set_option linter.unusedVariables false
set_option linter.unusedSimpArgs false
namespace Mo
open Rk

/-- A table: each state's successors by columns, each state's number. -/
structure Tb where
  nx : List (List Nat)
  ac : List Int
/-- n states, k columns. -/
structure Vt (T : Tb) (n k : Nat) : Prop where
  hn : T.nx.length = n
  ha : T.ac.length = n
  row : ∀ (q : Nat) (r : List Nat), T.nx[q]? = some r → r.length = k ∧ ∀ (c x : Nat), r[c]? = some x → x < n
def to (T : Tb) (q c : Nat) : Nat := (T.nx.getD q []).getD c 0
theorem to_lt {T : Tb} {n k : Nat} (h : Vt T n k) {q c : Nat} (hq : q < n) (hc : c < k) : to T q c < n := by
  have hr : T.nx[q]? = some (T.nx[q]'(by rw [h.hn]; exact hq)) := List.getElem?_eq_getElem _
  obtain ⟨hl, hx⟩ := h.row q _ hr
  unfold to
  rw [List.getD_eq_getElem?_getD, List.getD_eq_getElem?_getD, hr]
  simp only [Option.getD_some]
  rw [List.getElem?_eq_getElem (by rw [hl]; exact hc)]
  exact hx c _ (List.getElem?_eq_getElem _)
def acc (T : Tb) (q : Nat) : Option Int := T.ac[q]?
def run (T : Tb) (q : Nat) (w : List Nat) : Nat := w.foldl (to T) q
/-- No string tells them apart. -/
def Eqv (T : Tb) (k q r : Nat) : Prop := ∀ w : List Nat, (∀ c ∈ w, c < k) → acc T (run T q w) = acc T (run T r w)
theorem Eqv.step {T : Tb} {k q r c : Nat} (h : Eqv T k q r) (hc : c < k) : Eqv T k (to T q c) (to T r c) := fun w hw => h (c :: w) (by intro x hx; rcases List.mem_cons.1 hx with rfl | hx; exact hc; exact hw x hx)
/-- What a block's state looks like at the blocks B. -/
def sig (T : Tb) (B : List Nat) (q : Nat) : List (Option Nat) := ((T.nx.getD q []).map fun x => B[x]?) ++ [B[q]?]
theorem sig_iff {T : Tb} {n k : Nat} (h : Vt T n k) {B : List Nat} {q r : Nat} (hq : q < n) (hr : r < n) : sig T B q = sig T B r ↔ B[q]? = B[r]? ∧ ∀ c, c < k → B[to T q c]? = B[to T r c]? := by
  have eq : ∀ q, q < n → ∃ rq, T.nx[q]? = some rq ∧ rq.length = k ∧ T.nx.getD q [] = rq := fun q hq => by
    have hr : T.nx[q]? = some (T.nx[q]'(by rw [h.hn]; exact hq)) := List.getElem?_eq_getElem _
    exact ⟨_, hr, (h.row q _ hr).1, by rw [List.getD_eq_getElem?_getD, hr]; rfl⟩
  obtain ⟨rq, q1, q2, q3⟩ := eq q hq
  obtain ⟨rr, r1, r2, r3⟩ := eq r hr
  have tq : ∀ c, c < k → ∃ x, rq[c]? = some x ∧ to T q c = x := fun c hc => ⟨rq[c]'(by omega), List.getElem?_eq_getElem _, by unfold to; rw [q3, List.getD_eq_getElem?_getD, List.getElem?_eq_getElem (by omega)]; rfl⟩
  have tr : ∀ c, c < k → ∃ x, rr[c]? = some x ∧ to T r c = x := fun c hc => ⟨rr[c]'(by omega), List.getElem?_eq_getElem _, by unfold to; rw [r3, List.getD_eq_getElem?_getD, List.getElem?_eq_getElem (by omega)]; rfl⟩
  unfold sig
  rw [q3, r3]
  constructor
  · intro e
    obtain ⟨e1, e2⟩ := List.append_inj e (by simp [q2, r2])
    refine ⟨by simpa using e2, fun c hc => ?_⟩
    obtain ⟨x, hx, ex⟩ := tq c hc
    obtain ⟨y, hy, ey⟩ := tr c hc
    have := congrArg (fun l => l[c]?) e1
    simp only [List.getElem?_map, hx, hy, Option.map_some, Option.some.injEq] at this
    rw [ex, ey, this]
  · rintro ⟨e1, e2⟩
    rw [e1]
    congr 1
    apply List.ext_getElem?
    intro c
    by_cases hc : c < k
    · obtain ⟨x, hx, ex⟩ := tq c hc
      obtain ⟨y, hy, ey⟩ := tr c hc
      have := e2 c hc
      rw [ex, ey] at this
      rw [List.getElem?_map, List.getElem?_map, hx, hy, Option.map_some, Option.map_some, this]
    · rw [List.getElem?_eq_none (by simp; omega), List.getElem?_eq_none (by simp; omega)]
def sigs (T : Tb) (B : List Nat) (n : Nat) : List (List (Option Nat)) := (List.range n).map (sig T B)
theorem ranks_ker {α : Type} [DecidableEq α] {l : List α} {i j : Nat} (hi : i < l.length) (hj : j < l.length) : (ranks l)[i]? = (ranks l)[j]? ↔ l[i]? = l[j]? := by
  have h1 : (ranks l)[i]? = some ((ranks l)[i]'(by rw [ranks_length]; exact hi)) := List.getElem?_eq_getElem _
  have h2 : (ranks l)[j]? = some ((ranks l)[j]'(by rw [ranks_length]; exact hj)) := List.getElem?_eq_getElem _
  rw [← ranks_eq h1 h2, h1, h2, Option.some.injEq]
/-- What holds of the blocks all along. -/
structure Good (T : Tb) (n k : Nat) (B : List Nat) : Prop where
  len : B.length = n
  acc : ∀ (q r : Nat), q < n → r < n → B[q]? = B[r]? → Mo.acc T q = Mo.acc T r
  eqv : ∀ (q r : Nat), q < n → r < n → Eqv T k q r → B[q]? = B[r]?
theorem good_start {T : Tb} {n k : Nat} (h : Vt T n k) : Good T n k (ranks T.ac) :=
  ⟨by rw [ranks_length, h.ha], fun q r hq hr e => (ranks_ker (by rw [h.ha]; exact hq) (by rw [h.ha]; exact hr)).1 e, fun q r hq hr e => (ranks_ker (by rw [h.ha]; exact hq) (by rw [h.ha]; exact hr)).2 (e [] (by simp))⟩
theorem sigs_at {T : Tb} {B : List Nat} {n q : Nat} (hq : q < n) : (sigs T B n)[q]? = some (sig T B q) := by
  unfold sigs; rw [List.getElem?_map, List.getElem?_range hq]; rfl
theorem sigs_ker {T : Tb} {n k : Nat} (h : Vt T n k) {B : List Nat} {q r : Nat} (hq : q < n) (hr : r < n) : (ranks (sigs T B n))[q]? = (ranks (sigs T B n))[r]? ↔ B[q]? = B[r]? ∧ ∀ c, c < k → B[to T q c]? = B[to T r c]? := by
  rw [ranks_ker (by simp [sigs]; exact hq) (by simp [sigs]; exact hr), sigs_at hq, sigs_at hr, Option.some.injEq, sig_iff h hq hr]
theorem good_step {T : Tb} {n k : Nat} (h : Vt T n k) {B : List Nat} (g : Good T n k B) : Good T n k (ranks (sigs T B n)) :=
  ⟨by rw [ranks_length]; simp [sigs], fun q r hq hr e => g.acc q r hq hr ((sigs_ker h hq hr).1 e).1,
   fun q r hq hr e => (sigs_ker h hq hr).2 ⟨g.eqv q r hq hr e, fun c hc => g.eqv _ _ (to_lt h hq hc) (to_lt h hr hc) (e.step hc)⟩⟩
/-- Behind the last refinement the blocks are just the states that no string tells apart. -/
theorem good_end {T : Tb} {n k : Nat} (h : Vt T n k) {B : List Nat} (g : Good T n k B) (hc : (known [] (ranks (sigs T B n))).length ≤ (known [] B).length) {q r : Nat} (hq : q < n) (hr : r < n) : B[q]? = B[r]? ↔ Eqv T k q r := by
  refine ⟨?_, g.eqv q r hq hr⟩
  have hl : (ranks (sigs T B n)).length = n := by rw [ranks_length]; simp [sigs]
  have hs : ∀ q r, q < n → r < n → B[q]? = B[r]? → ∀ c, c < k → B[to T q c]? = B[to T r c]? := fun q r hq hr e =>
    ((sigs_ker h hq hr).1 (same_kernel (l := B) (m := ranks (sigs T B n)) (by rw [hl, g.len]) (fun i j hi hj e => ((sigs_ker h (by omega) (by omega)).1 e).1) hc q r (by rw [g.len]; exact hq) (by rw [g.len]; exact hr) e)).2
  intro e w
  induction w generalizing q r with
  | nil => intro _; exact g.acc q r hq hr e
  | cons c w ih =>
    intro hw
    exact ih (to_lt h hq (hw c (by simp))) (to_lt h hr (hw c (by simp))) (hs q r hq hr e c (hw c (by simp))) (fun x hx => hw x (List.mem_cons_of_mem _ hx))
end Mo
