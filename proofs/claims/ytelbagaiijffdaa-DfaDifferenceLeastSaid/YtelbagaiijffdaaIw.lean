/-
  A drawn region by an invariant, where only the edges that bind need lead back (an append in place: a store may come before or behind it; lies as <Seat>Iw).
-/
import Derived.Test.YtelbagaiijffdaaIv
set_option linter.unusedSimpArgs false
namespace Go.Frame
section
variable {P : Program} {ops : Array Oper} {Q : Exit → Act → World → Prop} {md : Region.Mode}

/-- The least that has not come up may come up. -/
theorem all_upB {listed : Array Bool} (hsize : listed.size = ops.size) (hback : ∀ (i : Nat) (o : Oper), ops[i]? = some o → ∀ e ∈ o.after, Region.binds md e = true → e.on < i) (hr : Region.ready md ops listed = []) : ∀ i, listed.getD i true = true := by
  intro i
  induction i using Nat.strongRecOn with
  | _ i ih =>
    cases hb : listed.getD i true
    · have hi : i < ops.size := by
        apply Nat.lt_of_not_le
        intro h
        rw [Array.getD_eq_getD_getElem?, Array.getElem?_eq_none (by omega)] at hb
        cases hb
      have : i ∈ Region.ready md ops listed := mem_ready.2 ⟨hb, ops[i], Array.getElem?_eq_getElem hi, fun e he hbe => getD_out (by have := hback i _ (Array.getElem?_eq_getElem hi) e he hbe; omega) (ih e.on (hback i _ (Array.getElem?_eq_getElem hi) e he hbe))⟩
      rw [hr] at this; cases this
    · rfl
theorem wpAny_invB (J : (Nat → Bool) → Act → World → Prop) (hback : ∀ (i : Nat) (o : Oper), ops[i]? = some o → ∀ e ∈ o.after, Region.binds md e = true → e.on < i)
    (hstep : ∀ (b : Nat → Bool) (a : Act) (w : World) (i : Nat) (o : Oper), ops[i]? = some o → J b a w → b i = false → (∀ e ∈ o.after, Region.binds md e = true → b e.on = true) →
      ∀ K : Act → World → Prop, Shut (∀ a w, J (fun j => b j || j == i) a w → K a w) → if Region.wanted o (yielded ops a.tmps) = true then Oper.wp P o a w K Q else K (a.put o.dst undef) w)
    (hdone : ∀ (b : Nat → Bool) (a : Act) (w : World), J b a w → (∀ i, b i = true) → Q .normal a w) :
    ∀ (fuel : Nat) (listed : Array Bool) (a : Act) (w : World), listed.size = ops.size → left listed ops.size ≤ fuel → J (fun i => listed.getD i true) a w → wpAny P md ops Q fuel listed a w
  | 0, listed, a, w, hs, hl, hJ => by
    have hall : ∀ i, listed.getD i true = true := fun i => by
      by_cases h : i < ops.size
      · exact left_zero (by omega) i h
      · rw [Array.getD_eq_getD_getElem?, Array.getElem?_eq_none (by omega)]; rfl
    refine ⟨?_, hdone _ a w hJ hall⟩
    apply List.eq_nil_iff_forall_not_mem.2
    intro i hi
    have := (mem_ready.1 hi).1
    rw [hall i] at this; cases this
  | fuel + 1, listed, a, w, hs, hl, hJ => by
    refine ⟨fun hr => hdone _ a w hJ (all_upB hs hback hr), fun i hi => ?_⟩
    obtain ⟨hb, o, ho, hall⟩ := mem_ready.1 hi
    have hlt : i < ops.size := (Array.getElem?_eq_some_iff.1 ho).1
    refine wpOp_step ho fun K hK => hstep _ a w i o ho hJ hb (fun e he hbe => getD_in (hall e he hbe)) K fun a' w' hJ' => hK a' w' ?_
    refine wpAny_invB J hback hstep hdone fuel _ a' w' (by simpa using hs) ?_ ?_
    · have := left_put hb ops.size
      rw [if_pos hlt] at this
      omega
    · have e : (fun j => (listed.setIfInBounds i true).getD j true) = fun j => listed.getD j true || j == i := funext fun j => getD_put listed i j
      rw [e]; exact hJ'
def bindB (ops : Array Oper) : Bool := (List.range ops.size).all fun i => match ops[i]? with
  | some o => o.after.all fun e => !Region.binds .any e || decide (e.on < i)
  | none => true
theorem bindB_of (h : bindB ops = true) : ∀ (i : Nat) (o : Oper), ops[i]? = some o → ∀ e ∈ o.after, Region.binds .any e = true → e.on < i := by
  intro i o ho e he hbe
  have hi := (Array.getElem?_eq_some_iff.1 ho).1
  have h1 := List.all_eq_true.1 h i (List.mem_range.2 hi)
  rw [ho] at h1
  have h2 := (Array.all_eq_true_iff_forall_mem.1 h1) e he
  rw [hbe] at h2
  simpa using h2
/-- The beginning. -/
theorem region_invB {id : Nat} {a : Act} {w : World} (J : (Nat → Bool) → Act → World → Prop) (hm : P.follows .mixedOrders = true) (hback : ∀ (i : Nat) (o : Oper), ops[i]? = some o → ∀ e ∈ o.after, Region.binds .any e = true → e.on < i)
    (hstep : ∀ (b : Nat → Bool) (a : Act) (w : World) (i : Nat) (o : Oper), ops[i]? = some o → J b a w → b i = false → (∀ e ∈ o.after, Region.binds .any e = true → b e.on = true) →
      ∀ K : Act → World → Prop, Shut (∀ a w, J (fun j => b j || j == i) a w → K a w) → if Region.wanted o (yielded ops a.tmps) = true then Oper.wp P o a w K Q else K (a.put o.dst undef) w)
    (hdone : ∀ (b : Nat → Bool) (a : Act) (w : World), J b a w → (∀ i, b i = true) → Q .normal a w)
    (h0 : J (fun i => decide (ops.size ≤ i)) a w.drew) : (Code.region id ops true).wp P Q a w := by
  refine wp_region_any hm (wpAny_invB J hback hstep hdone _ _ _ _ (by simp) (left_new _ _) ?_)
  have e : (fun i => (Array.replicate ops.size false).getD i true) = fun i => decide (ops.size ≤ i) := funext fun i => by
    by_cases h : ops.size ≤ i
    · rw [Array.getD_eq_getD_getElem?, Array.getElem?_eq_none (by simpa using h)]; simp [h]
    · simp [Array.getD_eq_getD_getElem?, Array.getElem?_replicate, h, Nat.lt_of_not_le h]
  rw [e]; exact h0
end
end Go.Frame
