/-
  Plain maths: numbers by first appearance depend on equality alone; the merge of a table, breadth-first (no program).
-/
import Derived.Test.YtelbagaiijffdaaMo
set_option linter.unusedVariables false
set_option linter.unusedSimpArgs false
namespace Rk
theorem known_app' {α : Type} [DecidableEq α] : ∀ (l m k : List α), known k (l ++ m) = known (known k l) m
  | [], m, k => rfl
  | x :: r, m, k => by
    simp only [List.cons_append, known]
    split
    · exact known_app' r m k
    · exact known_app' r m _
theorem ranks_snoc {α : Type} [DecidableEq α] (l : List α) (x : α) : ranks (l ++ [x]) = ranks l ++ [if x ∈ known [] l then (known [] l).idxOf x else (known [] l).length] := by
  unfold ranks
  rw [ranksF_eq, ranksF_eq, List.map_append, known_app']
  have hm : ∀ y ∈ l, y ∈ known [] l := fun y hy => (mem_known l [] y).2 (.inr hy)
  by_cases h : x ∈ known [] l
  · simp [known, h]
  · simp only [known, if_neg h, List.map_cons, List.map_nil]
    congr 1
    · apply List.map_congr_left
      intro y hy
      exact idx_pre (hm y hy)
    · rw [List.idxOf_append, if_neg h]; simp
theorem known_snoc {α : Type} [DecidableEq α] (l : List α) (x : α) : known [] (l ++ [x]) = if x ∈ known [] l then known [] l else known [] l ++ [x] := by
  rw [known_app']; simp [known]
theorem mem_known' {α : Type} [DecidableEq α] {l : List α} {x : α} : x ∈ known [] l ↔ x ∈ l := by rw [mem_known]; simp
/-- Two lists that agree on what is equal have the same numbers. -/
theorem ranks_kernel {α β : Type} [DecidableEq α] [DecidableEq β] : ∀ (n : Nat) (l : List α) (m : List β), l.length = n → m.length = n → (∀ i j : Nat, i < n → j < n → (l[i]? = l[j]? ↔ m[i]? = m[j]?)) → ranks l = ranks m ∧ (known [] l).length = (known [] m).length
  | 0, l, m, hl, hm, _ => by
    rw [List.length_eq_zero_iff.1 hl, List.length_eq_zero_iff.1 hm]; exact ⟨rfl, rfl⟩
  | n + 1, l, m, hl, hm, h => by
    obtain ⟨l', x, rfl⟩ : ∃ l' x, l = l' ++ [x] := ⟨l.dropLast, l.getLast (by intro e; rw [e] at hl; simp at hl), (List.dropLast_concat_getLast _).symm⟩
    obtain ⟨m', y, rfl⟩ : ∃ m' y, m = m' ++ [y] := ⟨m.dropLast, m.getLast (by intro e; rw [e] at hm; simp at hm), (List.dropLast_concat_getLast _).symm⟩
    have hl' : l'.length = n := by simpa using hl
    have hm' : m'.length = n := by simpa using hm
    have hold : ∀ i j : Nat, i < n → j < n → (l'[i]? = l'[j]? ↔ m'[i]? = m'[j]?) := fun i j hi hj => by
      have := h i j (by omega) (by omega)
      rwa [List.getElem?_append_left (by omega), List.getElem?_append_left (by omega), List.getElem?_append_left (by omega), List.getElem?_append_left (by omega)] at this
    obtain ⟨h1, h2⟩ := ranks_kernel n l' m' hl' hm' hold
    have hnew : ∀ i, i < n → (l'[i]? = some x ↔ m'[i]? = some y) := fun i hi => by
      have := h i n (by omega) (by omega)
      rw [List.getElem?_append_left (l₁ := l') (i := i) (by omega), List.getElem?_append_left (l₁ := m') (i := i) (by omega), List.getElem?_append_right (l₁ := l') (i := n) (by omega), List.getElem?_append_right (l₁ := m') (i := n) (by omega), hl', hm', Nat.sub_self] at this
      simpa using this
    have hmem : x ∈ l' ↔ y ∈ m' := by
      constructor
      · intro hx
        obtain ⟨i, hi⟩ := List.getElem?_of_mem hx
        have hil : i < n := by have := (List.getElem?_eq_some_iff.1 hi).1; omega
        exact List.mem_of_getElem? ((hnew i hil).1 hi)
      · intro hy
        obtain ⟨i, hi⟩ := List.getElem?_of_mem hy
        have hil : i < n := by have := (List.getElem?_eq_some_iff.1 hi).1; omega
        exact List.mem_of_getElem? ((hnew i hil).2 hi)
    rw [ranks_snoc, ranks_snoc, known_snoc, known_snoc, h1]
    by_cases hx : x ∈ l'
    · have hy := hmem.1 hx
      rw [if_pos (mem_known'.2 hx), if_pos (mem_known'.2 hy), if_pos (mem_known'.2 hx), if_pos (mem_known'.2 hy)]
      refine ⟨?_, h2⟩
      obtain ⟨i, hi⟩ := List.getElem?_of_mem hx
      have hil : i < n := by have := (List.getElem?_eq_some_iff.1 hi).1; omega
      have hi' := (hnew i hil).1 hi
      have e1 : (ranks l')[i]? = some ((known [] l').idxOf x) := by unfold ranks; rw [ranksF_eq, List.getElem?_map, hi]; rfl
      have e2 : (ranks m')[i]? = some ((known [] m').idxOf y) := by unfold ranks; rw [ranksF_eq, List.getElem?_map, hi']; rfl
      rw [h1, e2] at e1
      rw [Option.some.inj e1]
    · have hy : y ∉ m' := fun e => hx (hmem.2 e)
      rw [if_neg (fun e => hx (mem_known'.1 e)), if_neg (fun e => hy (mem_known'.1 e)), if_neg (fun e => hx (mem_known'.1 e)), if_neg (fun e => hy (mem_known'.1 e)), h2]
      exact ⟨rfl, by simp [h2]⟩
theorem ranks_map {α β : Type} [DecidableEq α] [DecidableEq β] (f : α → β) (l : List α) (hf : ∀ x ∈ l, ∀ y ∈ l, f x = f y → x = y) : ranks (l.map f) = ranks l ∧ (known [] (l.map f)).length = (known [] l).length := by
  refine ranks_kernel l.length _ _ (by simp) rfl fun i j hi hj => ?_
  rw [List.getElem?_map, List.getElem?_map, List.getElem?_eq_getElem hi, List.getElem?_eq_getElem hj]
  simp only [Option.map_some, Option.some.injEq]
  exact ⟨fun e => hf _ (List.getElem_mem _) _ (List.getElem_mem _) e, fun e => by rw [e]⟩
theorem ranks_ker' {α : Type} [DecidableEq α] {l : List α} {i j : Nat} (hi : i < l.length) (hj : j < l.length) : (ranks l)[i]? = (ranks l)[j]? ↔ l[i]? = l[j]? := Mo.ranks_ker hi hj
/-- Numbers of numbers. -/
theorem ranks_idem {α : Type} [DecidableEq α] (l : List α) : ranks (ranks l) = ranks l ∧ (known [] (ranks l)).length = (known [] l).length :=
  ranks_kernel l.length _ _ (ranks_length l) rfl fun i j hi hj => ranks_ker' hi hj
end Rk
namespace Mi
open Rk
/-- One successor looked at: the row so far and the states found. -/
def st1 (B : Nat → Nat) (dead : Nat) (s : List Int × List Nat) (t : Nat) : List Int × List Nat :=
  if B t = dead then (s.1 ++ [-1], s.2) else if B t ∈ s.2.map B then (s.1 ++ [((s.2.map B).idxOf (B t) : Int)], s.2) else (s.1 ++ [(s.2.length : Int)], s.2 ++ [t])
def rowF (B : Nat → Nat) (dead : Nat) (F : List Nat) (ts : List Nat) : List Int × List Nat := ts.foldl (st1 B dead) ([], F)
def mergeF (succ : Nat → List Nat) (B : Nat → Nat) (dead : Nat) : Nat → Nat → List Nat → List (List Int) → List (List Int) × List Nat
  | 0, _, F, rows => (rows, F)
  | fuel + 1, i, F, rows => match F[i]? with
    | none => (rows, F)
    | some q => mergeF succ B dead fuel (i + 1) (rowF B dead F (succ q)).2 (rows ++ [(rowF B dead F (succ q)).1])
/-- The number of a state. -/
def num (B : Nat → Nat) (dead : Nat) (F : List Nat) (t : Nat) : Int := if B t = dead then -1 else ((F.map B).idxOf (B t) : Int)
theorem rowF_snoc (B : Nat → Nat) (dead : Nat) (F ts : List Nat) (t : Nat) : rowF B dead F (ts ++ [t]) = st1 B dead (rowF B dead F ts) t := by unfold rowF; rw [List.foldl_append]; rfl
theorem num_pre {B : Nat → Nat} {dead : Nat} {F E : List Nat} {t : Nat} (h : B t = dead ∨ B t ∈ F.map B) : num B dead (F ++ E) t = num B dead F t := by
  unfold num
  split
  · rfl
  · rename_i hd
    rw [List.map_append, idx_pre (h.resolve_left hd)]
/-- What a row comes to. -/
structure Rw (B : Nat → Nat) (dead : Nat) (F ts : List Nat) (r : List Int) (F' : List Nat) : Prop where
  pre : ∃ E, F' = F ++ E ∧ (∀ x ∈ E, x ∈ ts ∧ B x ≠ dead)
  nod : (F'.map B).Nodup
  row : r = ts.map (num B dead F')
  all : ∀ t ∈ ts, B t = dead ∨ B t ∈ F'.map B
theorem rowF_ok {B : Nat → Nat} {dead : Nat} {F : List Nat} (hF : (F.map B).Nodup) : ∀ (n : Nat) (ts : List Nat), ts.length = n → Rw B dead F ts (rowF B dead F ts).1 (rowF B dead F ts).2
  | 0, ts, h => by
    rw [List.length_eq_zero_iff.1 h]
    exact ⟨⟨[], by simp [rowF], by simp⟩, hF, rfl, by simp⟩
  | n + 1, ts, h => by
    obtain ⟨us, t, rfl⟩ : ∃ us t, ts = us ++ [t] := ⟨ts.dropLast, ts.getLast (by intro e; rw [e] at h; simp at h), (List.dropLast_concat_getLast _).symm⟩
    have ih := rowF_ok (dead := dead) hF n us (by simpa using h)
    rw [rowF_snoc]
    obtain ⟨r, F', hrf⟩ : ∃ r F', rowF B dead F us = (r, F') := ⟨_, _, rfl⟩
    rw [hrf] at ih ⊢
    obtain ⟨⟨E, p1, p2⟩, nod, row, all⟩ := ih
    simp only at p1 nod row all
    unfold st1
    by_cases hd : B t = dead
    · rw [if_pos hd]
      refine ⟨⟨E, p1, fun x hx => ⟨List.mem_append.2 (.inl (p2 x hx).1), (p2 x hx).2⟩⟩, nod, ?_, fun x hx => ?_⟩
      · simp only [List.map_append, row]; simp [num, hd]
      · rcases List.mem_append.1 hx with hx | hx
        · exact all x hx
        · simp at hx; subst hx; exact .inl hd
    · rw [if_neg hd]
      by_cases hin : B t ∈ F'.map B
      · rw [if_pos hin]
        refine ⟨⟨E, p1, fun x hx => ⟨List.mem_append.2 (.inl (p2 x hx).1), (p2 x hx).2⟩⟩, nod, ?_, fun x hx => ?_⟩
        · simp only [List.map_append, row]; simp [num, hd]
        · rcases List.mem_append.1 hx with hx | hx
          · exact all x hx
          · simp at hx; subst hx; exact .inr hin
      · rw [if_neg hin]
        refine ⟨⟨E ++ [t], by simp only [p1, List.append_assoc], fun x hx => ?_⟩, ?_, ?_, fun x hx => ?_⟩
        · rcases List.mem_append.1 hx with hx | hx
          · exact ⟨List.mem_append.2 (.inl (p2 x hx).1), (p2 x hx).2⟩
          · simp at hx; subst hx; exact ⟨by simp, hd⟩
        · simp only [List.map_append, List.map_cons, List.map_nil]
          rw [List.nodup_append]
          exact ⟨nod, by simp, fun a ha b hb => by simp at hb; subst hb; intro e; subst e; exact hin ha⟩
        · simp only [List.map_append, List.map_cons, List.map_nil, row]
          congr 1
          · apply List.map_congr_left
            intro x hx
            exact (num_pre (all x hx)).symm
          · unfold num
            rw [if_neg hd, List.map_append, List.idxOf_append, if_neg hin]; simp
        · rcases List.mem_append.1 hx with hx | hx
          · rcases all x hx with h1 | h1
            · exact .inl h1
            · exact .inr (by simp only [List.map_append]; exact List.mem_append.2 (.inl h1))
          · simp at hx; subst hx; exact .inr (by simp)
/-- What holds all along: the states found, the rows of the first i. -/
structure Mg (succ : Nat → List Nat) (B : Nat → Nat) (dead : Nat) (i : Nat) (F : List Nat) (rows : List (List Int)) : Prop where
  start : ∃ E, F = 0 :: E ∧ ∀ x ∈ E, B x ≠ dead ∧ ∃ q ∈ F, x ∈ succ q
  nod : (F.map B).Nodup
  len : rows.length = i
  le : i ≤ F.length
  row : ∀ (j q : Nat), j < i → F[j]? = some q → rows[j]? = some ((succ q).map (num B dead F)) ∧ ∀ t ∈ succ q, B t = dead ∨ B t ∈ F.map B
theorem Mg.init (succ : Nat → List Nat) (B : Nat → Nat) (dead : Nat) : Mg succ B dead 0 [0] [] := ⟨⟨[], rfl, by simp⟩, by simp, rfl, by simp, fun j q h => by omega⟩
theorem Mg.step {succ : Nat → List Nat} {B : Nat → Nat} {dead i : Nat} {F : List Nat} {rows : List (List Int)} (h : Mg succ B dead i F rows) {q : Nat} (hq : F[i]? = some q) :
    Mg succ B dead (i + 1) (rowF B dead F (succ q)).2 (rows ++ [(rowF B dead F (succ q)).1]) := by
  have hr := rowF_ok (dead := dead) h.nod _ (succ q) rfl
  obtain ⟨E, e1, e2⟩ := hr.pre
  obtain ⟨E0, s1, s2⟩ := h.start
  have hil := (List.getElem?_eq_some_iff.1 hq).1
  have hsub : ∀ x ∈ F, x ∈ (rowF B dead F (succ q)).2 := fun x hx => by rw [e1]; exact List.mem_append.2 (.inl hx)
  refine ⟨⟨E0 ++ E, by rw [e1, s1]; rfl, fun x hx => ?_⟩, hr.nod, by simp [h.len], by rw [e1]; simp; omega, fun j p hj hp => ?_⟩
  · rcases List.mem_append.1 hx with hx | hx
    · obtain ⟨a, p, hp, hps⟩ := s2 x hx
      exact ⟨a, p, hsub p hp, hps⟩
    · exact ⟨(e2 x hx).2, q, hsub q (List.mem_of_getElem? hq), (e2 x hx).1⟩
  · by_cases hji : j < i
    · have hp' : F[j]? = some p := by rw [e1, List.getElem?_append_left (by omega)] at hp; exact hp
      obtain ⟨r1, r2⟩ := h.row j p hji hp'
      refine ⟨?_, fun t ht => ?_⟩
      · rw [List.getElem?_append_left (by rw [h.len]; exact hji), r1, e1]
        congr 1
        apply List.map_congr_left
        intro t ht
        exact (num_pre (r2 t ht)).symm
      · rcases r2 t ht with a | a
        · exact .inl a
        · exact .inr (by rw [e1, List.map_append]; exact List.mem_append.2 (.inl a))
    · obtain rfl : j = i := by omega
      have hp' : p = q := by rw [e1, List.getElem?_append_left hil, hq] at hp; exact (Option.some.inj hp).symm
      subst hp'
      have hl := h.len
      exact ⟨by rw [List.getElem?_append_right (by omega), h.len, Nat.sub_self, hr.row]; rfl, hr.all⟩
theorem nod_sub : ∀ (P K : List Nat), P.Nodup → (∀ x ∈ P, x ∈ K) → P.length ≤ K.length
  | [], K, _, _ => Nat.zero_le _
  | a :: P, K, h, hs => by
    obtain ⟨ha, hP⟩ := List.nodup_cons.1 h
    have hK : a ∈ K := hs a (by simp)
    have := nod_sub P (K.erase a) hP fun y hy => (List.mem_erase_of_ne (fun e => by subst e; exact ha hy)).2 (hs y (List.mem_cons_of_mem _ hy))
    rw [List.length_erase_of_mem hK] at this
    have : 0 < K.length := List.length_pos_of_mem hK
    simp; omega
/-- No two equal, all below n: at most n. -/
theorem nod_len {l : List Nat} {n : Nat} (h : l.Nodup) (hl : ∀ x ∈ l, x < n) : l.length ≤ n := by
  have := nod_sub l (List.range n) h fun x hx => List.mem_range.2 (hl x hx)
  simpa using this
end Mi
