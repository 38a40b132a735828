/-
  The builder holds the position automaton of what it has seen (plain maths).
-/
import Derived.Test.YtogpnlkjcdedlaaDoorBm
set_option linter.unusedSimpArgs false
set_option linter.unusedVariables false
namespace Go.Proofs.YtogpnlkjcdedlaaDoor
open Go.RowKit Bs Rg Nf Go.Frame
attribute [local go_sem] eq_zero eq_set

theorem prW_snoc (l : List Rx) (x : Rx) : addM (orM (prW l) (pr x (1 + npL l))) [0] (fst x (1 + npL l)) = prW (l ++ [x]) := by
  funext i j
  simp only [addM, orM, prW, prU_append, prU_cons, prU_nil, fstU_append, fstU_cons, fstU_nil, List.append_nil, cont_append, Bool.or_false]
  have h0 : ([0] : List Nat).contains i = decide (i = 0) := by simp
  rw [h0]
  cases decide (i = 0) <;> cases prU l 1 i j <;> cases pr x (1 + npL l) i j <;> cases (fstU l 1).contains j <;> cases (fst x (1 + npL l)).contains j <;> rfl
theorem accW_snoc : ∀ (l : List Rx) (x : Rx) (i o : Nat) (A : Nat → Int), accW (l ++ [x]) i o A = acc1 x (i + l.length) (o + npL l) (accW l i o A)
  | [], x, i, o, A => by simp [accW, npL]
  | y :: l, x, i, o, A => by
    rw [List.cons_append, accW, accW_snoc l x, accW, npL, List.length_cons]
    rw [show i + 1 + l.length = i + (l.length + 1) by omega, show o + np y + npL l = o + (np y + npL l) by omega]
theorem acc1_far {x : Rx} {i o q : Nat} {A : Nat → Int} (hq : q ≠ 0) (h : o + np x ≤ q) : acc1 x i o A q = A q := by
  unfold acc1
  rw [if_neg hq, if_neg]
  intro hm
  have := (las_ok x o).2 q hm
  omega
theorem accW_far : ∀ (l : List Rx) (i o q : Nat) (A : Nat → Int), q ≠ 0 → o + npL l ≤ q → accW l i o A q = A q
  | [], i, o, q, A, _, _ => rfl
  | y :: l, i, o, q, A, hq, h => by
    rw [npL] at h
    rw [accW, accW_far l (i + 1) (o + np y) q _ hq (by omega), acc1_far hq (by omega)]
/-- The numbers of the first expressions. -/
def accL (l : List Rx) : List Int := (List.range (npL l + 1)).map (accW l 0 1 fun _ => -1)
theorem set_map {n q : Nat} {f : Nat → Int} {x : Int} : ((List.range n).map f).set q x = (List.range n).map fun p => if p = q then x else f p := by
  apply List.ext_getElem?
  intro i
  rw [List.getElem?_set]
  by_cases hi : i < n
  · by_cases e : q = i
    · subst e; simp [hi]
    · have e' : ¬ i = q := fun h => e h.symm
      simp [hi, e, e']
  · by_cases e : q = i
    · subst e; simp [hi]
    · simp [hi, e]
theorem fold_map {n : Nat} {x : Int} : ∀ (L : List Nat) (f : Nat → Int), L.foldl (fun A q => A.set q x) ((List.range n).map f) = (List.range n).map fun p => if p ∈ L then x else f p
  | [], f => by simp
  | q :: L, f => by
    rw [List.foldl_cons, set_map, fold_map L]
    congr 1
    funext p
    by_cases h1 : p ∈ L
    · simp [h1]
    · by_cases h2 : p = q
      · subst h2; simp [h1]
      · simp [h1, h2]
theorem acl_map {n i : Nat} {x : Rx} {o : Nat} {f : Nat → Int} (hn : 0 < n) (ho : 0 < o) : acl (nul x) (las x o) (i : Int) ((List.range n).map f) = (List.range n).map (acc1 x i o f) := by
  have h0 : ((List.range n).map f).getD 0 (-1) = f 0 := by simp [List.getD, hn]
  have hL : 0 ∉ las x o := fun h => by have := (las_ok x o).2 0 h; omega
  unfold acl
  rw [h0]
  split
  · rename_i hc
    rw [set_map, fold_map]
    congr 1
    funext p
    unfold acc1
    by_cases hp : p = 0
    · subst hp; simp [hL, hc]
    · simp [hp]
  · rename_i hc
    rw [fold_map]
    congr 1
    funext p
    unfold acc1
    by_cases hp : p = 0
    · subst hp; simp [hL, hc]
    · simp [hp]
theorem accL_nil : accL [] = [-1] := rfl
theorem accL_snoc (l : List Rx) (x : Rx) : acl (nul x) (las x (1 + npL l)) (l.length : Int) (accL l ++ List.replicate (np x) (-1)) = accL (l ++ [x]) := by
  have h1 : accL l ++ List.replicate (np x) (-1) = (List.range (npL l + 1 + np x)).map (accW l 0 1 fun _ => -1) := by
    unfold accL
    obtain ⟨n, hn⟩ : ∃ n, n = npL l + 1 := ⟨_, rfl⟩
    rw [← hn, List.range_add, List.map_append]
    congr 1
    rw [List.map_map]
    apply List.ext_getElem?
    intro i
    by_cases hi : i < np x
    · simp only [List.getElem?_replicate, hi, if_true, List.getElem?_map, List.getElem?_range hi, Option.map_some, Function.comp]
      rw [accW_far _ _ _ _ _ (by omega) (by omega)]
    · rw [List.getElem?_eq_none (by simpa using hi), List.getElem?_eq_none (by simpa using hi)]
  rw [h1, acl_map (by omega) (by omega)]
  unfold accL
  rw [accW_snoc, npL_append, npL, npL, Nat.add_zero, Nat.zero_add]
  congr 1
  congr 1
  omega
theorem setsW_snoc (l : List Rx) (x : Rx) : setsW l ++ os x = setsW (l ++ [x]) := by unfold setsW; rw [osL_append]; simp [osL]
theorem setsW_length (l : List Rx) : (setsW l).length = npL l + 1 := by unfold setsW; rw [List.length_cons, osL_length]
theorem prW_nil : prW [] = fun _ _ => false := by funext i j; simp [prW, prU_nil, fstU_nil]
end Go.Proofs.YtogpnlkjcdedlaaDoor
