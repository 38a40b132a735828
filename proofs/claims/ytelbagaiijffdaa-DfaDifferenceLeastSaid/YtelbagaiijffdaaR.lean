/-
  Plain maths: numbers by first appearance (namespace Rk; no program).
-/
import Derived.Test.YtelbagaiijffdaaFr
set_option linter.unusedVariables false
set_option linter.unusedSimpArgs false
namespace Rk
variable {α : Type} [DecidableEq α]

/-- What is known behind a list. -/
def known : List α → List α → List α
  | k, [] => k
  | k, x :: r => if x ∈ k then known k r else known (k ++ [x]) r
def ranksF : List α → List α → List Nat
  | _, [] => []
  | k, x :: r => if x ∈ k then k.idxOf x :: ranksF k r else k.length :: ranksF (k ++ [x]) r
def ranks (l : List α) : List Nat := ranksF [] l
theorem known_pre : ∀ (l k : List α), ∃ e, known k l = k ++ e
  | [], k => ⟨[], by simp [known]⟩
  | x :: r, k => by
    unfold known
    split
    · exact known_pre r k
    · obtain ⟨e, he⟩ := known_pre r (k ++ [x])
      exact ⟨[x] ++ e, by rw [he, List.append_assoc]⟩
theorem mem_known : ∀ (l k : List α) (x : α), x ∈ known k l ↔ x ∈ k ∨ x ∈ l
  | [], k, x => by simp [known]
  | y :: r, k, x => by
    unfold known
    split
    · rename_i h
      rw [mem_known r k x]
      constructor
      · rintro (h1 | h1)
        · exact .inl h1
        · exact .inr (List.mem_cons_of_mem _ h1)
      · rintro (h1 | h1)
        · exact .inl h1
        · rcases List.mem_cons.1 h1 with rfl | h1
          · exact .inl h
          · exact .inr h1
    · rw [mem_known r _ x]
      simp [or_assoc]
theorem nodup_known : ∀ (l k : List α), k.Nodup → (known k l).Nodup
  | [], k, h => h
  | x :: r, k, h => by
    unfold known
    split
    · exact nodup_known r k h
    · rename_i hx
      refine nodup_known r _ ?_
      rw [List.nodup_append]
      exact ⟨h, by simp, by intro a ha b hb; simp at hb; subst hb; intro e; subst e; exact hx ha⟩
theorem idx_pre {k e : List α} {x : α} (h : x ∈ k) : (k ++ e).idxOf x = k.idxOf x := by
  rw [List.idxOf_append]; rw [if_pos h]
theorem ranksF_eq : ∀ (l k : List α), ranksF k l = l.map fun x => (known k l).idxOf x
  | [], k => by simp [ranksF]
  | x :: r, k => by
    unfold ranksF known
    split
    · rename_i h
      rw [List.map_cons, ranksF_eq r k]
      obtain ⟨e, he⟩ := known_pre r k
      rw [he, idx_pre h]
    · rename_i h
      rw [List.map_cons, ranksF_eq r (k ++ [x])]
      obtain ⟨e, he⟩ := known_pre r (k ++ [x])
      have h1 : (k ++ [x] ++ e).idxOf x = k.length := by
        rw [idx_pre (by simp), List.idxOf_append, if_neg h]; simp
      rw [he, h1]
/-- Equal numbers, equal elements. -/
theorem ranks_eq {l : List α} {i j a b : Nat} (hi : (ranks l)[i]? = some a) (hj : (ranks l)[j]? = some b) : a = b ↔ l[i]? = l[j]? := by
  unfold ranks at hi hj
  rw [ranksF_eq, List.getElem?_map] at hi hj
  obtain ⟨x, hx, rfl⟩ := Option.map_eq_some_iff.1 hi
  obtain ⟨y, hy, rfl⟩ := Option.map_eq_some_iff.1 hj
  rw [hx, hy]
  have mx : x ∈ known [] l := (mem_known _ _ _).2 (.inr (List.mem_of_getElem? hx))
  constructor
  · intro h
    have h1 := List.getElem_idxOf (List.idxOf_lt_length_of_mem mx)
    have my : y ∈ known [] l := (mem_known _ _ _).2 (.inr (List.mem_of_getElem? hy))
    have h2 := List.getElem_idxOf (List.idxOf_lt_length_of_mem my)
    rw [← h1, ← h2]
    congr 1
    simp only [h]
  · intro h
    cases h
    rfl
theorem ranks_length (l : List α) : (ranks l).length = l.length := by unfold ranks; rw [ranksF_eq, List.length_map]
theorem ranks_lt {l : List α} {i a : Nat} (h : (ranks l)[i]? = some a) : a < (known [] l).length := by
  unfold ranks at h
  rw [ranksF_eq, List.getElem?_map] at h
  obtain ⟨x, hx, rfl⟩ := Option.map_eq_some_iff.1 h
  exact List.idxOf_lt_length_of_mem ((mem_known _ _ _).2 (.inr (List.mem_of_getElem? hx)))
/-- A list without repetitions, inside one that is not longer, is all of it. -/
theorem full : ∀ {P K : List α}, P.Nodup → (∀ x ∈ P, x ∈ K) → K.length ≤ P.length → ∀ x ∈ K, x ∈ P
  | [], K, _, _, hl, x, hx => by
    have : K = [] := List.eq_nil_of_length_eq_zero (by simpa using hl)
    rw [this] at hx; cases hx
  | a :: P, K, hP, hs, hl, x, hx => by
    obtain ⟨ha, hP'⟩ := List.nodup_cons.1 hP
    have hK : a ∈ K := hs a (by simp)
    by_cases e : x = a
    · rw [e]; simp
    · refine List.mem_cons_of_mem _ (full (K := K.erase a) hP' (fun y hy => ?_) ?_ x ?_)
      · exact (List.mem_erase_of_ne (fun h => by subst h; exact ha hy)).2 (hs y (List.mem_cons_of_mem _ hy))
      · rw [List.length_erase_of_mem hK]; simp at hl; omega
      · exact (List.mem_erase_of_ne e).2 hx
/-- A refinement with as many blocks is none. -/
theorem same_kernel {β : Type} [DecidableEq β] {l : List α} {m : List β} (hlen : l.length = m.length) (href : ∀ i j : Nat, i < m.length → j < m.length → m[i]? = m[j]? → l[i]? = l[j]?) (hcard : (known [] m).length ≤ (known [] l).length) :
    ∀ i j : Nat, i < l.length → j < l.length → l[i]? = l[j]? → m[i]? = m[j]? := by
  intro i j hi hj hij
  have pick : ∀ x, x ∈ known [] l → ∃ b, l.idxOf x < l.length ∧ l[l.idxOf x]? = some x ∧ m[l.idxOf x]? = some b := fun x hx => by
    have hm := ((mem_known l [] x).1 hx).resolve_left (by simp)
    have hl := List.idxOf_lt_length_of_mem hm
    exact ⟨m[l.idxOf x]'(by omega), hl, by rw [List.getElem?_eq_getElem hl, List.getElem_idxOf], List.getElem?_eq_getElem _⟩
  have key : ∀ L : List α, L.Nodup → (∀ x ∈ L, x ∈ known [] l) → ∃ P : List β, P.length = L.length ∧ P.Nodup ∧ ∀ b ∈ P, ∃ x ∈ L, l.idxOf x < l.length ∧ l[l.idxOf x]? = some x ∧ m[l.idxOf x]? = some b := by
    intro L
    induction L with
    | nil => intro _ _; exact ⟨[], rfl, by simp, by simp⟩
    | cons x L ih =>
      intro hn hm
      obtain ⟨hx, hn'⟩ := List.nodup_cons.1 hn
      obtain ⟨P, p1, p2, p3⟩ := ih hn' (fun y hy => hm y (List.mem_cons_of_mem _ hy))
      obtain ⟨b, hz, hzl, hzm⟩ := pick x (hm x (by simp))
      refine ⟨b :: P, by simp [p1], List.nodup_cons.2 ⟨fun hb => ?_, p2⟩, fun c hc => ?_⟩
      · obtain ⟨y, hy, hz', hl', hm'⟩ := p3 b hb
        have := href (l.idxOf x) (l.idxOf y) (by omega) (by omega) (by rw [hzm, hm'])
        rw [hzl, hl'] at this
        simp only [Option.some.injEq] at this
        exact hx (this ▸ hy)
      · rcases List.mem_cons.1 hc with rfl | hc
        · exact ⟨x, by simp, hz, hzl, hzm⟩
        · obtain ⟨y, hy, r⟩ := p3 c hc
          exact ⟨y, List.mem_cons_of_mem _ hy, r⟩
  obtain ⟨P, p1, p2, p3⟩ := key (known [] l) (nodup_known l [] (by simp)) (fun x h => h)
  have hfull := full (K := known [] m) p2 (fun b hb => by
    obtain ⟨x, _, hz, _, hzm⟩ := p3 b hb
    exact (mem_known _ _ _).2 (.inr (List.mem_of_getElem? hzm))) (by omega)
  have hmi : m[i]? = some (m[i]'(by omega)) := List.getElem?_eq_getElem _
  have hmj : m[j]? = some (m[j]'(by omega)) := List.getElem?_eq_getElem _
  obtain ⟨x, _, hz, hzl, hzm⟩ := p3 _ (hfull _ ((mem_known m [] _).2 (.inr (List.mem_of_getElem? hmi))))
  obtain ⟨x', _, hz', hzl', hzm'⟩ := p3 _ (hfull _ ((mem_known m [] _).2 (.inr (List.mem_of_getElem? hmj))))
  have e1 := href (l.idxOf x) i (by omega) (by omega) (by rw [hzm, hmi])
  have e2 := href (l.idxOf x') j (by omega) (by omega) (by rw [hzm', hmj])
  have e3 : x = x' := by
    have : l[l.idxOf x]? = l[l.idxOf x']? := by rw [e1, hij, e2]
    rw [hzl, hzl'] at this
    simpa using this
  rw [hmi, hmj, ← hzm, ← hzm', e3]
end Rk
