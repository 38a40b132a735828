/-
  A drawn region by an invariant: what has come up so far is a set b of operations; each operation, whenever it may come up, takes the invariant at b to the invariant at b with itself; behind all of them the invariant gives the rest. One proof an operation, whatever the number of orders (no program; lies as <Seat>Iv).
-/
import Derived.WalkKit
import Derived.Deep.RegionHeld3
set_option linter.unusedSimpArgs false
namespace Go.Frame
section
variable {P : Program} {ops : Array Oper} {Q : Exit → Act → World → Prop} {md : Region.Mode}

/-- How many of the first n have not come up. -/
def left (listed : Array Bool) : Nat → Nat
  | 0 => 0
  | n + 1 => left listed n + (if listed.getD n true = false then 1 else 0)
theorem getD_put (listed : Array Bool) (i j : Nat) : (listed.setIfInBounds i true).getD j true = (listed.getD j true || j == i) := by
  simp only [Array.getD_eq_getD_getElem?]
  rw [Array.getElem?_setIfInBounds]
  by_cases e : i = j
  · subst e
    by_cases h : i < listed.size
    · simp [h]
    · simp [h, Array.getElem?_eq_none (Nat.le_of_not_lt h)]
  · have e' : ¬ j = i := fun h => e h.symm
    simp [e, e']
theorem left_put {listed : Array Bool} {i : Nat} (h : listed.getD i true = false) : ∀ n, left (listed.setIfInBounds i true) n + (if i < n then 1 else 0) = left listed n
  | 0 => by simp [left]
  | n + 1 => by
    have ih := left_put h n
    rw [left, left, getD_put]
    by_cases e : n = i
    · subst e
      simp [h] at ih ⊢
      omega
    · have e1 : (n == i) = false := by simp [e]
      rw [e1, Bool.or_false]
      by_cases hi : i < n
      · have h1 : (if i < n + 1 then 1 else 0) = 1 := if_pos (by omega)
        rw [if_pos hi] at ih; rw [h1]; omega
      · have h1 : (if i < n + 1 then 1 else 0) = 0 := if_neg (by omega)
        rw [if_neg hi] at ih; rw [h1]; omega
theorem left_zero {listed : Array Bool} : ∀ {n : Nat}, left listed n = 0 → ∀ i, i < n → listed.getD i true = true
  | 0, _, i, hi => by omega
  | n + 1, h, i, hi => by
    rw [left] at h
    by_cases e : i = n
    · subst e
      cases hb : listed.getD i true
      · rw [hb] at h; simp at h
      · rfl
    · exact left_zero (n := n) (by omega) i (by omega)
theorem getD_in {listed : Array Bool} {i : Nat} (h : listed.getD i false = true) : listed.getD i true = true := by
  rw [Array.getD_eq_getD_getElem?] at h ⊢
  cases hb : listed[i]? with
  | none => rfl
  | some x => rw [hb] at h; exact h
theorem getD_out {listed : Array Bool} {i : Nat} (hi : i < listed.size) (h : listed.getD i true = true) : listed.getD i false = true := by
  rw [Array.getD_eq_getD_getElem?, Array.getElem?_eq_getElem hi] at h ⊢
  exact h
/-- The least that has not come up may come up. -/
theorem all_up {listed : Array Bool} (hsize : listed.size = ops.size) (hback : ∀ (i : Nat) (o : Oper), ops[i]? = some o → ∀ e ∈ o.after, e.on < i) (hr : Region.ready md ops listed = []) : ∀ i, listed.getD i true = true := by
  intro i
  induction i using Nat.strongRecOn with
  | _ i ih =>
    cases hb : listed.getD i true
    · have hi : i < ops.size := by
        apply Nat.lt_of_not_le
        intro h
        rw [Array.getD_eq_getD_getElem?, Array.getElem?_eq_none (by omega)] at hb
        cases hb
      have : i ∈ Region.ready md ops listed := mem_ready.2 ⟨hb, ops[i], Array.getElem?_eq_getElem hi, fun e he _ => getD_out (by have := hback i _ (Array.getElem?_eq_getElem hi) e he; omega) (ih e.on (hback i _ (Array.getElem?_eq_getElem hi) e he))⟩
      rw [hr] at this; cases this
    · rfl
theorem wpAny_inv (J : (Nat → Bool) → Act → World → Prop) (hback : ∀ (i : Nat) (o : Oper), ops[i]? = some o → ∀ e ∈ o.after, e.on < i)
    (hstep : ∀ (b : Nat → Bool) (a : Act) (w : World) (i : Nat) (o : Oper), ops[i]? = some o → J b a w → b i = false → (∀ e ∈ o.after, Region.binds md e = true → b e.on = true) →
      ∀ K : Act → World → Prop, Shut (∀ a w, J (fun j => b j || j == i) a w → K a w) → if Region.wanted o (yielded ops a.tmps) = true then Oper.wp P o a w K Q else K (a.put o.dst undef) w)
    (hdone : ∀ (b : Nat → Bool) (a : Act) (w : World), J b a w → (∀ i, b i = true) → Q .normal a w) :
    ∀ (fuel : Nat) (listed : Array Bool) (a : Act) (w : World), listed.size = ops.size → left listed ops.size ≤ fuel → J (fun i => listed.getD i true) a w → wpAny P md ops Q fuel listed a w
  | 0, listed, a, w, hs, hl, hJ => by
    have hall : ∀ i, listed.getD i true = true := fun i => by
      by_cases h : i < ops.size
      · exact left_zero (by omega) i h
      · rw [Array.getD_eq_getD_getElem?, Array.getElem?_eq_none (by omega)]; rfl
    refine ⟨?_, hdone _ a w hJ hall⟩
    apply List.eq_nil_iff_forall_not_mem.2
    intro i hi
    have := (mem_ready.1 hi).1
    rw [hall i] at this; cases this
  | fuel + 1, listed, a, w, hs, hl, hJ => by
    refine ⟨fun hr => hdone _ a w hJ (all_up hs hback hr), fun i hi => ?_⟩
    obtain ⟨hb, o, ho, hall⟩ := mem_ready.1 hi
    have hlt : i < ops.size := (Array.getElem?_eq_some_iff.1 ho).1
    refine wpOp_step ho fun K hK => hstep _ a w i o ho hJ hb (fun e he hbe => getD_in (hall e he hbe)) K fun a' w' hJ' => hK a' w' ?_
    refine wpAny_inv J hback hstep hdone fuel _ a' w' (by simpa using hs) ?_ ?_
    · have := left_put hb ops.size
      rw [if_pos hlt] at this
      omega
    · have e : (fun j => (listed.setIfInBounds i true).getD j true) = fun j => listed.getD j true || j == i := funext fun j => getD_put listed i j
      rw [e]; exact hJ'
theorem left_new (n : Nat) : ∀ m, left (Array.replicate n false) m ≤ m
  | 0 => Nat.le_refl _
  | m + 1 => by
    have := left_new n m
    rw [left]; split <;> omega
def backwardB (ops : Array Oper) : Bool := (List.range ops.size).all fun i => match ops[i]? with
  | some o => o.after.all fun e => decide (e.on < i)
  | none => true
theorem back_of (h : backwardB ops = true) : ∀ (i : Nat) (o : Oper), ops[i]? = some o → ∀ e ∈ o.after, e.on < i := by
  intro i o ho e he
  have hi := (Array.getElem?_eq_some_iff.1 ho).1
  have h1 := List.all_eq_true.1 h i (List.mem_range.2 hi)
  rw [ho] at h1
  simpa using (Array.all_eq_true_iff_forall_mem.1 h1) e he
/-- The beginning. -/
theorem region_inv {id : Nat} {a : Act} {w : World} (J : (Nat → Bool) → Act → World → Prop) (hm : P.follows .mixedOrders = true) (hback : ∀ (i : Nat) (o : Oper), ops[i]? = some o → ∀ e ∈ o.after, e.on < i)
    (hstep : ∀ (b : Nat → Bool) (a : Act) (w : World) (i : Nat) (o : Oper), ops[i]? = some o → J b a w → b i = false → (∀ e ∈ o.after, Region.binds .any e = true → b e.on = true) →
      ∀ K : Act → World → Prop, Shut (∀ a w, J (fun j => b j || j == i) a w → K a w) → if Region.wanted o (yielded ops a.tmps) = true then Oper.wp P o a w K Q else K (a.put o.dst undef) w)
    (hdone : ∀ (b : Nat → Bool) (a : Act) (w : World), J b a w → (∀ i, b i = true) → Q .normal a w)
    (h0 : J (fun i => decide (ops.size ≤ i)) a w.drew) : (Code.region id ops true).wp P Q a w := by
  refine wp_region_any hm (wpAny_inv J hback hstep hdone _ _ _ _ (by simp) (left_new _ _) ?_)
  have e : (fun i => (Array.replicate ops.size false).getD i true) = fun i => decide (ops.size ≤ i) := funext fun i => by
    by_cases h : ops.size ≤ i
    · rw [Array.getD_eq_getD_getElem?, Array.getElem?_eq_none (by simpa using h)]; simp [h]
    · simp [Array.getD_eq_getD_getElem?, Array.getElem?_replicate, h, Nat.lt_of_not_le h]
  rw [e]; exact h0
end
end Go.Frame
