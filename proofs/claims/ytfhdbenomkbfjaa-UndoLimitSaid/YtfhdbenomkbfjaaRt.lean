/-
  A drawn region with a load whose cell is written at its end: the condition T on the world holds till operation number k comes up, S0 throughout (no program; lies as <Seat>Rt).
-/
import Derived.WalkKit
import Derived.Deep.RegionHeld3
namespace Go.Frame

section
variable {P : Program} {ops : Array Oper} {Q : Exit → Act → World → Prop} {md : Region.Mode} {S0 T : World → Prop} {k : Nat}

/-- S0 at all times, T as long as number k has not come up. -/
def Till (S0 T : World → Prop) (k : Nat) (listed : Array Bool) (w : World) : Prop := S0 w ∧ (listed.getD k true = false → T w)
def wpAnyT (P : Program) (md : Region.Mode) (ops : Array Oper) (Q : Exit → Act → World → Prop) (S0 T : World → Prop) (k : Nat) : Nat → Array Bool → Act → World → Prop
  | 0, listed, a, w => Region.ready md ops listed = [] ∧ Q .normal a w
  | fuel + 1, listed, a, w =>
    (Region.ready md ops listed = [] → Q .normal a w) ∧
    ∀ i ∈ Region.ready md ops listed, wpOp P ops Q i (fun a' w' => Till S0 T k (listed.setIfInBounds i true) w' ∧ wpAnyT P md ops Q S0 T k fuel (listed.setIfInBounds i true) a' w') a w
theorem wpAny_of_till : ∀ (fuel : Nat) (listed : Array Bool) (a : Act) (w : World), wpAnyT P md ops Q S0 T k fuel listed a w → wpAny P md ops Q fuel listed a w
  | 0, _, _, _, h => h
  | fuel + 1, _, _, _, h => ⟨h.1, fun i hi => wpOp_mono (fun a' w' h' => wpAny_of_till fuel _ a' w' h'.2) (h.2 i hi)⟩
/-- Number k waits for number i. -/
def waits (md : Region.Mode) (ops : Array Oper) (k i : Nat) : Bool := match ops[k]? with
  | some o => o.after.any fun e => Region.binds md e && e.on == i
  | none => false
theorem wpAnyT_first {i : Nat} {oi : Oper} {v : Value} (Y : World → Prop) (b : Bool) (hY : ∀ w, S0 w → (b = true → T w) → Y w) (hb : b = true → waits md ops k i = true) (hik : i ≠ k) (hi : ops[i]? = some oi)
    (hsel : ∀ (j : Nat) (o : Oper) cs b, ops[j]? = some o → o.op ≠ .select cs b)
    (hQ : ∀ c a w, Q (.panic c) (a.put oi.dst v) w → Q (.panic c) a w) :
    ∀ (fuel : Nat) (listed : Array Bool) (a : Act) (w : World),
      (∀ j oj, ops[j]? = some oj → j ≠ i → listed.getD j true = false → (∀ e ∈ oj.after, Region.binds md e = true → e.on ≠ i) → oi.apart ops oj = true) →
      i ∈ Region.ready md ops listed → (b = true → listed.getD k true = false) → YieldsIf P ops Y oi v a → Till S0 T k listed w →
      wpAnyT P md ops Q S0 T k fuel (listed.setIfInBounds i true) (a.put oi.dst v) w → wpAnyT P md ops Q S0 T k (fuel + 1) listed a w := by
  intro fuel
  have same : ∀ {listed : Array Bool} {w : World}, Till S0 T k (listed.setIfInBounds i true) w ↔ Till S0 T k listed w := by
    intro listed w; unfold Till; rw [getD_set_ne true hik]
  induction fuel with
  | zero =>
    intro listed a w _ hr hk hy hS H
    refine ⟨fun h => (by rw [h] at hr; cases hr), fun j hj => ?_⟩
    by_cases hji : j = i
    · subst hji; exact hy.wpOp hi (hY w hS.1 fun hb' => hS.2 (hk hb')) ⟨same.2 hS, H⟩
    · have := ready_mono hj hji
      rw [H.1] at this
      cases this
  | succ fuel ih =>
    intro listed a w hfree hr hk hy hS H
    refine ⟨fun h => (by rw [h] at hr; cases hr), fun j hj => ?_⟩
    by_cases hji : j = i
    · subst hji; exact hy.wpOp hi (hY w hS.1 fun hb' => hS.2 (hk hb')) ⟨same.2 hS, H⟩
    · have h1 := H.2 j (ready_mono hj hji)
      obtain ⟨hjun, oj, hoj, hall⟩ := mem_ready.1 hj
      have hnot : ∀ e ∈ oj.after, Region.binds md e = true → e.on ≠ i := fun e he hb heq => by
        have h1 := hall e he hb
        have h0 := (mem_ready.1 hr).1
        rw [heq] at h1
        rcases Nat.lt_or_ge i listed.size with h' | h'
        · simp [h'] at h0 h1; rw [h0] at h1; cases h1
        · simp [Array.getElem?_eq_none h'] at h1
      have hjk : b = true → j ≠ k := fun hb' e => by
        have hw := hb hb'
        rw [← e] at hw
        unfold waits at hw
        rw [hoj] at hw
        obtain ⟨x, hx, hx'⟩ := Array.any_eq_true'.1 hw
        simp only [Bool.and_eq_true, beq_iff_eq] at hx'
        exact hnot x hx hx'.1 hx'.2
      have h2 := wpOp_putIf hoj (hfree j oj hoj hji hjun hnot) (fun cs b => hsel i oi cs b hi) (fun cs b => hsel j oj cs b hoj) hQ hy h1
      have hfree' : ∀ k ok, ops[k]? = some ok → k ≠ i → (listed.setIfInBounds j true).getD k true = false →
          (∀ e ∈ ok.after, Region.binds md e = true → e.on ≠ i) → oi.apart ops ok = true := fun k ok hk hki hun hno => by
        refine hfree k ok hk hki ?_ hno
        by_cases hjk : j = k
        · subst hjk; exact hjun
        · rw [getD_set_ne true hjk] at hun; exact hun
      refine wpOp_mono (fun a' w' h3 => ?_) h2
      have h4 : Till S0 T k (listed.setIfInBounds j true) w' := by
        have := h3.2.1
        rw [Array.setIfInBounds_comm _ _ (Ne.symm hji)] at this
        exact same.1 this
      refine ⟨h4, ih (listed.setIfInBounds j true) a' w' hfree' (ready_mono hr (Ne.symm hji)) (fun hb' => by rw [getD_set_ne true (hjk hb')]; exact hk hb') h3.1 h4 ?_⟩
      rw [Array.setIfInBounds_comm _ _ hji]
      exact h3.2.2
/-- The beginning. -/
theorem region_till {id : Nat} {a : Act} {w : World} (k : Nat) (S0 T : World → Prop) (hm : P.follows .mixedOrders = true)
    (h : wpAnyT P .any ops Q S0 T k ops.size (Array.replicate ops.size false) a w.drew) : (Code.region id ops true).wp P Q a w :=
  wp_region_any hm (wpAny_of_till _ _ _ _ h)
/-- An operation that yields its value in every world that meets S0 is taken. -/
theorem takeS {i d : Nat} {oi : Oper} {v : Value} {fuel : Nat} {listed : Array Bool} {tmps : Array Value} {w : World} (hi : ops[i]? = some oi) (hd : oi.dst = some d) (hik : (i == k) = false)
    (hs : Region.noSelect ops = true) (hf : Region.free md ops listed i = true) (hr : (Region.ready md ops listed).contains i = true)
    (hQ : ∀ c a w, Q (.panic c) (a.put oi.dst v) w → Q (.panic c) a w) (hy : YieldsIf P ops S0 oi v { tmps := tmps, defers := [] }) (h0 : S0 w) (h1 : listed.getD k true = false → T w)
    (h : wpAnyT P md ops Q S0 T k fuel (listed.setIfInBounds i true) { tmps := tmps.setIfInBounds d v, defers := [] } w) : wpAnyT P md ops Q S0 T k (fuel + 1) listed { tmps := tmps, defers := [] } w := by
  refine wpAnyT_first S0 false (fun _ h _ => h) (by simp) (by simpa using hik) hi (Region.noSelect_spec hs) hQ fuel listed _ w (Region.free_spec hi hf) (by simpa using hr) (by simp) hy ⟨h0, h1⟩ ?_
  rw [hd]
  exact h
/-- One whose value hangs on T, for which number k waits. -/
theorem takeT {i d : Nat} {oi : Oper} {v : Value} {fuel : Nat} {listed : Array Bool} {tmps : Array Value} {w : World} (hi : ops[i]? = some oi) (hd : oi.dst = some d) (hik : (i == k) = false) (hw : waits md ops k i = true)
    (hs : Region.noSelect ops = true) (hf : Region.free md ops listed i = true) (hr : (Region.ready md ops listed).contains i = true) (hk : listed.getD k true = false)
    (hQ : ∀ c a w, Q (.panic c) (a.put oi.dst v) w → Q (.panic c) a w) (hy : YieldsIf P ops (fun w => S0 w ∧ T w) oi v { tmps := tmps, defers := [] }) (h0 : S0 w) (h1 : T w)
    (h : wpAnyT P md ops Q S0 T k fuel (listed.setIfInBounds i true) { tmps := tmps.setIfInBounds d v, defers := [] } w) : wpAnyT P md ops Q S0 T k (fuel + 1) listed { tmps := tmps, defers := [] } w := by
  refine wpAnyT_first (fun w => S0 w ∧ T w) true (fun _ h h' => ⟨h, h' rfl⟩) (fun _ => hw) (by simpa using hik) hi (Region.noSelect_spec hs) hQ fuel listed _ w (Region.free_spec hi hf) (by simpa using hr) (fun _ => hk) hy ⟨h0, fun _ => h1⟩ ?_
  rw [hd]
  exact h
/-- The one that alone may come up is carried out. -/
theorem carryT {i : Nat} {oi : Oper} {fuel : Nat} {listed : Array Bool} {a : Act} {w : World} (hi : ops[i]? = some oi) (hr : Region.ready md ops listed = [i])
    (h : ∀ K' : Act → World → Prop, Shut (∀ a w, Till S0 T k (listed.setIfInBounds i true) w → wpAnyT P md ops Q S0 T k fuel (listed.setIfInBounds i true) a w → K' a w) →
      if Region.wanted oi (yielded ops a.tmps) = true then Oper.wp P oi a w K' Q else K' (a.put oi.dst undef) w) :
    wpAnyT P md ops Q S0 T k (fuel + 1) listed a w :=
  ⟨fun h0 => absurd (hr ▸ h0) (by simp), hr ▸ fun j hj => by
    rw [List.mem_singleton.1 hj]
    exact wpOp_step hi (fun K' hK => h K' (fun a w h1 h2 => hK a w ⟨h1, h2⟩))⟩
/-- One of two comes up. -/
theorem pickT {i j : Nat} {oi oj : Oper} {fuel : Nat} {listed : Array Bool} {a : Act} {w : World} (hi : ops[i]? = some oi) (hj : ops[j]? = some oj) (hr : Region.ready md ops listed = [i, j])
    (h1 : ∀ K' : Act → World → Prop, Shut (∀ a w, Till S0 T k (listed.setIfInBounds i true) w → wpAnyT P md ops Q S0 T k fuel (listed.setIfInBounds i true) a w → K' a w) →
      if Region.wanted oi (yielded ops a.tmps) = true then Oper.wp P oi a w K' Q else K' (a.put oi.dst undef) w)
    (h2 : ∀ K' : Act → World → Prop, Shut (∀ a w, Till S0 T k (listed.setIfInBounds j true) w → wpAnyT P md ops Q S0 T k fuel (listed.setIfInBounds j true) a w → K' a w) →
      if Region.wanted oj (yielded ops a.tmps) = true then Oper.wp P oj a w K' Q else K' (a.put oj.dst undef) w) :
    wpAnyT P md ops Q S0 T k (fuel + 1) listed a w :=
  ⟨fun h0 => absurd (hr ▸ h0) (by simp), hr ▸ fun x hx => by
    rcases List.mem_cons.1 hx with rfl | hx
    · exact wpOp_step hi (fun K' hK => h1 K' (fun a w h1 h2 => hK a w ⟨h1, h2⟩))
    · rw [List.mem_singleton.1 hx]
      exact wpOp_step hj (fun K' hK => h2 K' (fun a w h1 h2 => hK a w ⟨h1, h2⟩))⟩
theorem wpAnyT_done {listed : Array Bool} {a : Act} {w : World} (hr : Region.ready md ops listed = []) (h : Q .normal a w) : ∀ fuel, wpAnyT P md ops Q S0 T k fuel listed a w
  | 0 => ⟨hr, h⟩
  | _ + 1 => ⟨fun _ => h, by rw [hr]; simp⟩
end
end Go.Frame
