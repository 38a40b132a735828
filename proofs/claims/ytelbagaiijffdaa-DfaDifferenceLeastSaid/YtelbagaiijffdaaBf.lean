/-
  Plain maths: breadth-first search finds the least string (no program).
-/
set_option linter.unusedVariables false
set_option linter.unusedSectionVars false
namespace Bf
/-- The place of a string in the order of the shortest and least (letters below 256). -/
def vl : List Nat → Nat := fun u => u.foldl (fun x c => 256 * x + c + 1) 0
theorem vl_nil : vl [] = 0 := rfl
theorem vl_snoc (u : List Nat) (c : Nat) : vl (u ++ [c]) = 256 * vl u + c + 1 := by unfold vl; rw [List.foldl_append]; rfl
section
variable {S : Type} [DecidableEq S] (step : S → Nat → S) (dead : S → Bool) (s0 : S) (m : Nat)
def run (u : List Nat) : S := u.foldl step s0
theorem run_snoc (u : List Nat) (c : Nat) : run step s0 (u ++ [c]) = step (run step s0 u) c := by unfold run; rw [List.foldl_append]; rfl
/-- One letter tried. -/
def add1 (V : List (S × List Nat)) (x : S) (w : List Nat) : List (S × List Nat) := if dead x = true ∨ x ∈ V.map Prod.fst then V else V ++ [(x, w)]
/-- Letters c, c + 1, .. of a node. -/
def adds (V : List (S × List Nat)) (s : S) (u : List Nat) : Nat → List (S × List Nat)
  | 0 => V
  | c + 1 => add1 dead (adds V s u c) (step s c) (u ++ [c])
/-- What holds while the letters below c of node i have been tried. -/
structure Inv (V : List (S × List Nat)) (i c : Nat) : Prop where
  here : i < V.length ∨ c = 0
  first : ∃ r, V = (s0, []) :: r
  inc : ∀ (j k : Nat) (a b : S × List Nat), V[j]? = some a → V[k]? = some b → j < k → vl a.2 < vl b.2
  reach : ∀ a ∈ V, run step s0 a.2 = a.1 ∧ (∀ x ∈ a.2, x < m) ∧ (a.2 = [] ∨ dead a.1 = false)
  top : ∀ a ∈ V, ∀ b, V[i]? = some b → vl a.2 ≤ 256 * vl b.2 + c
  closed : ∀ (k d : Nat) (b : S × List Nat), V[k]? = some b → d < m → (k < i ∨ (k = i ∧ d < c)) → dead (step b.1 d) = true ∨ ∃ a ∈ V, a.1 = step b.1 d ∧ vl a.2 ≤ 256 * vl b.2 + d + 1
variable {step dead s0 m}
theorem Inv.start : Inv step dead s0 m [(s0, [])] 0 0 where
  here := .inl (by simp)
  first := ⟨[], rfl⟩
  inc := fun j k a b hj hk h => by
    have h1 := (List.getElem?_eq_some_iff.1 hk).1
    simp at h1; omega
  reach := fun a ha => by
    simp at ha; subst ha
    exact ⟨rfl, fun x hx => by simp at hx, .inl rfl⟩
  top := fun a ha b hb => by
    simp at ha hb; subst ha hb
    exact Nat.zero_le _
  closed := fun k d b hk hd h => by omega
theorem Inv.letter {V : List (S × List Nat)} {i c : Nat} (h : Inv step dead s0 m V i c) {b : S × List Nat} (hb : V[i]? = some b) (hc : c < m) (hm : m ≤ 256) : Inv step dead s0 m (add1 dead V (step b.1 c) (b.2 ++ [c])) i (c + 1) := by
  have hil := (List.getElem?_eq_some_iff.1 hb).1
  unfold add1
  by_cases hx : dead (step b.1 c) = true ∨ step b.1 c ∈ V.map Prod.fst
  · rw [if_pos hx]
    refine ⟨.inl hil, h.first, h.inc, h.reach, fun a ha b' hb' => Nat.le_succ_of_le (h.top a ha b' hb'), fun k d b' hk hd hkd => ?_⟩
    by_cases e : k = i ∧ d = c
    · obtain ⟨rfl, rfl⟩ := e
      rw [hb] at hk; cases hk
      rcases hx with hx | hx
      · exact .inl hx
      · obtain ⟨a, ha, he⟩ := List.mem_map.1 hx
        have := h.top a ha b hb
        exact .inr ⟨a, ha, he, by omega⟩
    · exact h.closed k d b' hk hd (by omega)
  · rw [if_neg hx]
    have hd0 : dead (step b.1 c) = false := by
      cases hq : dead (step b.1 c)
      · rfl
      · exact absurd (.inl hq) hx
    obtain ⟨r, hr⟩ := h.first
    have old : ∀ {k : Nat} {a : S × List Nat}, k < V.length → (V ++ [(step b.1 c, b.2 ++ [c])])[k]? = some a → V[k]? = some a := fun hk ha => by
      rwa [List.getElem?_append_left hk] at ha
    have hbm := List.mem_of_getElem? hb
    obtain ⟨rb1, rb2, rb3⟩ := h.reach b hbm
    refine ⟨.inl (by simp; omega), ⟨r ++ [(step b.1 c, b.2 ++ [c])], by rw [hr]; rfl⟩, fun j k x y hj hk hjk => ?_, fun a ha => ?_, fun a ha b' hb' => ?_, fun k d b' hk hd hkd => ?_⟩
    · have hkl := (List.getElem?_eq_some_iff.1 hk).1
      simp at hkl
      by_cases e : k = V.length
      · subst e
        have hj' := old (by omega) hj
        rw [List.getElem?_append_right (Nat.le_refl _), Nat.sub_self] at hk
        simp at hk; subst hk
        have := h.top x (List.mem_of_getElem? hj') b hb
        simp only [vl_snoc]; omega
      · exact h.inc j k x y (old (by omega) hj) (old (by omega) hk) hjk
    · rcases List.mem_append.1 ha with ha | ha
      · exact h.reach a ha
      · simp at ha; subst ha
        refine ⟨by rw [run_snoc, rb1], fun x hx => ?_, .inr hd0⟩
        rcases List.mem_append.1 hx with hx | hx
        · exact rb2 x hx
        · simp at hx; omega
    · rw [List.getElem?_append_left hil, hb] at hb'
      cases hb'
      rcases List.mem_append.1 ha with ha | ha
      · exact Nat.le_succ_of_le (h.top a ha b hb)
      · simp at ha; subst ha
        simp only [vl_snoc]; omega
    · by_cases e : k = i ∧ d = c
      · obtain ⟨rfl, rfl⟩ := e
        rw [List.getElem?_append_left hil, hb] at hk
        cases hk
        exact .inr ⟨(step b.1 d, b.2 ++ [d]), List.mem_append.2 (.inr (List.mem_singleton.2 rfl)), rfl, by simp only [vl_snoc]; omega⟩
      · have hki : k ≤ i := by omega
        have hk' := old (by omega) hk
        rcases h.closed k d b' hk' hd (by omega) with hq | ⟨a, ha, h1, h2⟩
        · exact .inl hq
        · exact .inr ⟨a, List.mem_append.2 (.inl ha), h1, h2⟩
theorem Inv.node {V : List (S × List Nat)} {i : Nat} (h : Inv step dead s0 m V i m) (hm : m ≤ 256) : Inv step dead s0 m V (i + 1) 0 := by
  refine ⟨.inr rfl, h.first, h.inc, h.reach, fun a ha b hb => ?_, fun k d b hk hd hkd => h.closed k d b hk hd (by omega)⟩
  have hl := (List.getElem?_eq_some_iff.1 hb).1
  have hi : i < V.length := by omega
  have h1 := h.inc i (i + 1) V[i] b (List.getElem?_eq_getElem hi) hb (by omega)
  have h2 := h.top a ha V[i] (List.getElem?_eq_getElem hi)
  omega
/-- Where a string leads: dead, or among the nodes with a string no later, as long as all nodes up to that string have been tried. -/
theorem Inv.found {V : List (S × List Nat)} {i : Nat} (h : Inv step dead s0 m V i 0) (hm : m ≤ 256) (hd : ∀ s c, dead s = true → dead (step s c) = true) :
    ∀ (n : Nat) (w : List Nat), w.length = n → (∀ x ∈ w, x < m) → (∀ b, V[i]? = some b → vl w < vl b.2) → dead (run step s0 w) = true ∨ ∃ (k : Nat) (a : S × List Nat), V[k]? = some a ∧ k < i ∧ a.1 = run step s0 w ∧ vl a.2 ≤ vl w
  | 0, w, hw, hx, hb => by
    obtain rfl : w = [] := List.length_eq_zero_iff.1 hw
    obtain ⟨r, hr⟩ := h.first
    by_cases h0 : i = 0
    · have := hb (s0, []) (by rw [hr, h0]; rfl)
      rw [vl_nil] at this; omega
    · exact .inr ⟨0, (s0, []), by rw [hr]; rfl, by omega, rfl, Nat.le_refl _⟩
  | n + 1, w, hw, hx, hb => by
    obtain ⟨u, c, rfl⟩ : ∃ u c, w = u ++ [c] := by
      refine ⟨w.dropLast, w.getLast (by intro e; rw [e] at hw; simp at hw), (List.dropLast_concat_getLast _).symm⟩
    have hul : u.length = n := by simpa using hw
    have hc : c < m := hx c (by simp)
    have hux : ∀ x ∈ u, x < m := fun x hxu => hx x (by simp [hxu])
    rcases found h hm hd n u hul hux (fun b hb' => by have := hb b hb'; rw [vl_snoc] at this; omega) with hq | ⟨k, a, h1, h2, h3, h4⟩
    · exact .inl (by rw [run_snoc]; exact hd _ _ hq)
    · rcases h.closed k c a h1 hc (.inl h2) with hq | ⟨a', ha', e1, e2⟩
      · exact .inl (by rw [run_snoc, ← h3]; exact hq)
      · obtain ⟨k', hk'⟩ := List.mem_iff_getElem?.1 ha'
        refine .inr ⟨k', a', hk', ?_, by rw [run_snoc, ← h3]; exact e1, by rw [vl_snoc]; omega⟩
        apply Nat.lt_of_not_le
        intro hle
        have hkl := (List.getElem?_eq_some_iff.1 hk').1
        have hil : i < V.length := by omega
        have h5 := hb V[i] (List.getElem?_eq_getElem hil)
        rw [vl_snoc] at h5
        by_cases e : k' = i
        · subst e
          have : V[k'] = a' := by rw [List.getElem?_eq_getElem hil] at hk'; exact Option.some.inj hk'
          rw [this] at h5
          omega
        · have := h.inc i k' V[i] a' (List.getElem?_eq_getElem hil) hk' (by omega)
          omega
end
end Bf
