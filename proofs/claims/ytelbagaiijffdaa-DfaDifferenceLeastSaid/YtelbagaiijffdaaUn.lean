/-
  Maths: the visits of a search are breadth-first.
-/
import Derived.Test.YtelbagaiijffdaaUm
import Derived.Test.YtelbagaiijffdaaBf
set_option linter.unusedSimpArgs false
set_option linter.unusedVariables false
namespace Go.Proofs.Ytelbagaiijffdaa
open Go.RowKit Lx Go.Frame
attribute [-instance] instBEqProd

/-- The string (of columns) that leads to each visit. -/
def strs (V : List Vis) : List (List Nat) := V.foldl (fun acc v => acc ++ [if acc = [] then [] else acc.getD v.2.2.1 [] ++ [v.2.2.2]]) []
theorem strs_snoc (V : List Vis) (v : Vis) : strs (V ++ [v]) = strs V ++ [if strs V = [] then [] else (strs V).getD v.2.2.1 [] ++ [v.2.2.2]] := by
  unfold strs; rw [List.foldl_append]; rfl
theorem strs_len (V : List Vis) : (strs V).length = V.length := by
  have : ∀ n (V : List Vis), V.length = n → (strs V).length = n := by
    intro n
    induction n with
    | zero => intro V h; rw [List.length_eq_zero_iff.1 h]; rfl
    | succ n ih =>
      intro V h
      obtain ⟨U, v, rfl⟩ : ∃ U v, V = U ++ [v] := ⟨V.dropLast, V.getLast (by intro e; rw [e] at h; simp at h), (List.dropLast_concat_getLast _).symm⟩
      rw [strs_snoc, List.length_append, ih U (by simpa using h)]
      rfl
  exact this _ V rfl
/-- Pairs and their strings. -/
def vb (V : List Vis) : List ((Nat × Nat) × List Nat) := (V.map fun v => (v.1, v.2.1)).zip (strs V)
theorem vb_len (V : List Vis) : (vb V).length = V.length := by unfold vb; simp [strs_len]
theorem vb_fst (V : List Vis) : (vb V).map Prod.fst = V.map fun v => (v.1, v.2.1) := by
  unfold vb; rw [List.map_fst_zip]; simp [strs_len]
theorem vb_at {V : List Vis} {i : Nat} {v : Vis} (h : V[i]? = some v) : ∃ s, (strs V)[i]? = some s ∧ (vb V)[i]? = some ((v.1, v.2.1), s) := by
  have hl := (List.getElem?_eq_some_iff.1 h).1
  have hs : (strs V)[i]? = some ((strs V)[i]'(by rw [strs_len]; exact hl)) := List.getElem?_eq_getElem _
  refine ⟨_, hs, ?_⟩
  unfold vb
  rw [List.getElem?_zip_eq_some]
  exact ⟨by rw [List.getElem?_map, h]; rfl, hs⟩
theorem vb_snoc (V : List Vis) (v : Vis) : vb (V ++ [v]) = vb V ++ [((v.1, v.2.1), if strs V = [] then [] else (strs V).getD v.2.2.1 [] ++ [v.2.2.2])] := by
  unfold vb
  rw [List.map_append, strs_snoc, List.zip_append (by simp [strs_len])]
  rfl
/-- What holds of the visits. -/
structure Okv (N P : Nat) (V : List Vis) : Prop where
  rg : ∀ v ∈ V, v.1 < N ∧ v.2.1 < P
  nod : (V.map fun v => v.1 * P + v.2.1).Nodup
  bef : ∀ (j : Nat) (v : Vis), V[j]? = some v → j = 0 ∨ v.2.2.1 < j
theorem pair_inj {P a b c d : Nat} (hb : b < P) (hd : d < P) (h : a * P + b = c * P + d) : a = c ∧ b = d := by
  have h1 : (a * P + b) / P = a := by rw [Nat.mul_comm, Nat.mul_add_div (by omega), Nat.div_eq_of_lt hb]; rfl
  have h2 : (c * P + d) / P = c := by rw [Nat.mul_comm, Nat.mul_add_div (by omega), Nat.div_eq_of_lt hd]; rfl
  have : a = c := by rw [← h1, ← h2, h]
  subst this
  exact ⟨rfl, by omega⟩
theorem pair_lt {N P a b : Nat} (ha : a < N) (hb : b < P) : a * P + b < N * P := by
  have : (a + 1) * P ≤ N * P := Nat.mul_le_mul_right P ha
  rw [Nat.succ_mul] at this
  omega
theorem Okv.len {N P : Nat} {V : List Vis} (h : Okv N P V) : V.length ≤ N * P := by
  have := Mi.nod_len h.nod (n := N * P) fun x hx => by
    obtain ⟨v, hv, rfl⟩ := List.mem_map.1 hx
    exact pair_lt (h.rg v hv).1 (h.rg v hv).2
  simpa using this
theorem any_iff {N P : Nat} {V : List Vis} (h : Okv N P V) {v : Vis} (hv : v.2.1 < P) : (V.any fun u => u.1 * P + u.2.1 == v.1 * P + v.2.1) = true ↔ (v.1, v.2.1) ∈ (vb V).map Prod.fst := by
  rw [vb_fst, List.any_eq_true]
  constructor
  · rintro ⟨u, hu, he⟩
    obtain ⟨e1, e2⟩ := pair_inj (h.rg u hu).2 hv (by simpa using he)
    exact List.mem_map.2 ⟨u, hu, by rw [e1, e2]⟩
  · intro hm
    obtain ⟨u, hu, he⟩ := List.mem_map.1 hm
    simp only [Prod.mk.injEq] at he
    exact ⟨u, hu, by rw [he.1, he.2]; simp⟩
theorem Okv.add {N P : Nat} {V : List Vis} (h : Okv N P V) {v : Vis} (h1 : v.1 < N) (h2 : v.2.1 < P) (h3 : V = [] ∨ v.2.2.1 < V.length) : Okv N P (addV P V v) := by
  unfold addV
  split
  · exact h
  · rename_i hn
    refine ⟨fun u hu => ?_, ?_, fun j u hj => ?_⟩
    · rcases List.mem_append.1 hu with hu | hu
      · exact h.rg u hu
      · simp only [List.mem_singleton] at hu; subst hu; exact ⟨h1, h2⟩
    · rw [List.map_append, List.nodup_append]
      refine ⟨h.nod, by simp, fun a ha b hb => ?_⟩
      simp only [List.map_cons, List.map_nil, List.mem_singleton] at hb
      subst hb
      intro e
      subst e
      obtain ⟨u, hu, he⟩ := List.mem_map.1 ha
      exact hn (List.any_eq_true.2 ⟨u, hu, by simpa using he⟩)
    · by_cases e : j < V.length
      · rw [List.getElem?_append_left e] at hj
        exact h.bef j u hj
      · rw [List.getElem?_append_right (by omega)] at hj
        have hj0 : j - V.length = 0 := by have := (List.getElem?_eq_some_iff.1 hj).1; simp at this; omega
        rw [hj0] at hj
        simp only [List.getElem?_cons_zero, Option.some.injEq] at hj
        subst hj
        rcases h3 with h3 | h3
        · subst h3; left; simp at hj0 ⊢; omega
        · right; omega
theorem addV_pre (P : Nat) (V : List Vis) (v : Vis) : ∃ E, addV P V v = V ++ E := by
  unfold addV
  split
  · exact ⟨[], by simp⟩
  · exact ⟨_, rfl⟩
theorem addV_at {P i : Nat} {V : List Vis} {v u : Vis} (h : V[i]? = some u) : (addV P V v)[i]? = some u := by
  obtain ⟨E, e⟩ := addV_pre P V v
  rw [e, List.getElem?_append_left (List.getElem?_eq_some_iff.1 h).1, h]
def stpP (TA TB : Mo.Tb) (p : Nat × Nat) (c : Nat) : Nat × Nat := (Mo.to TA p.1 c, Mo.to TB p.2 c)
/-- One letter tried, in both forms. -/
theorem vb_addV {N P : Nat} {V : List Vis} (h : Okv N P V) {i a b c : Nat} (hb : b < P) {s : List Nat} (hs : (strs V)[i]? = some s) : vb (addV P V (a, b, i, c)) = Bf.add1 (fun _ => false) (vb V) (a, b) (s ++ [c]) := by
  have hi := any_iff h (v := (a, b, i, c)) hb
  dsimp only at hi
  unfold addV Bf.add1
  dsimp only
  by_cases hin : (V.any fun u => u.1 * P + u.2.1 == a * P + b) = true
  · rw [if_pos hin, if_pos (.inr (hi.1 hin))]
  · rw [if_neg hin, if_neg (by rintro (e | e); · cases e
                               · exact hin (hi.2 e)), vb_snoc]
    have hne : strs V ≠ [] := fun e => by rw [e] at hs; simp at hs
    simp only
    rw [if_neg hne, List.getD_eq_getElem?_getD, hs]
    rfl
end Go.Proofs.Ytelbagaiijffdaa
