/-
  A drawn region whose operations read and call, and that ends in operations that wait for all others (a store): one walk in the order of the text serves every order; plain and in a round of a range over a function (no program; lies as <Seat>Rq). The way: the tail is thought idle; the quiet walk's theorem speaks of that region; its orders are then followed in the real one.
-/
import Derived.BigQuiet
import Derived.StillTail
import Derived.RangeFuncCalls
import Derived.OrdersIn
import Derived.TacticsIn
import Derived.Below
namespace Go.Frame
open Go.RowKit

/-- A fence that lets every call through. -/
structure Free (F : Fence) : Prop where
  fn : ∀ f, F.fn f
  depth : F.depth = none
  calls : ∀ {P : Program} {n : Nat} {f : FuncId} {args : Array Value} {w : World} {R : Ending → World → Prop}, Calls P f args w R → CallsIn F n P f args w R
theorem free_wide : Free Fence.wide := ⟨fun _ => trivial, rfl, fun h => callsIn_wide.2 h⟩
theorem free_round (l : Nat) : Free (Fence.wide.inRound l) := ⟨fun _ => trivial, rfl, fun h => CallsIn.inRound l (callsIn_wide.2 h)⟩
/-- An operation that comes to nothing, where another stood. -/
def idle (o : Oper) : Oper := { o with dst := none, op := .move (.const undef), guard := none }
/-- The tail from n on idle. -/
def mask (n : Nat) (l : List Oper) : List Oper := l.take n ++ (l.drop n).map idle
theorem mask_len (n : Nat) (l : List Oper) : (mask n l).length = l.length := by
  unfold mask
  rw [List.length_append, List.length_map, List.length_take, List.length_drop]
  omega
theorem mask_at (n : Nat) (l : List Oper) (i : Nat) : (mask n l)[i]? = (l[i]?).map fun o => if i < n then o else idle o := by
  by_cases hl : i < l.length
  · unfold mask
    by_cases h : i < n
    · rw [List.getElem?_append_left (by rw [List.length_take]; omega), List.getElem?_take, if_pos h]
      simp [h]
    · rw [List.getElem?_append_right (by rw [List.length_take]; omega), List.getElem?_map, List.getElem?_drop, List.length_take, Nat.min_eq_left (by omega), show n + (i - n) = i by omega]
      simp [h]
  · rw [List.getElem?_eq_none (by rw [mask_len]; omega), List.getElem?_eq_none (by omega)]
    rfl
theorem mask_head {n i : Nat} (l : List Oper) (h : i < n) : (mask n l)[i]? = l[i]? := by
  rw [mask_at]
  simp [h]
theorem mask_ready (md : Region.Mode) (n : Nat) (l : List Oper) (listed : Array Bool) : Region.ready md (mask n l).toArray listed = Region.ready md l.toArray listed := by
  have hs : (mask n l).toArray.size = l.toArray.size := mask_len n l
  unfold Region.ready
  rw [hs]
  refine List.filter_congr fun i _ => ?_
  have : ((mask n l).toArray[i]?).map (·.after.all fun e => !Region.binds md e || listed.getD e.on false) = (l.toArray[i]?).map (·.after.all fun e => !Region.binds md e || listed.getD e.on false) := by
    rw [List.getElem?_toArray, List.getElem?_toArray, mask_at]
    cases l[i]? with
    | none => rfl
    | some o =>
      simp only [Option.map_some]
      split <;> rfl
  rw [this]
theorem mask_yielded {n j : Nat} (l : List Oper) (h : j < n) (tmps : Array Value) : yielded (mask n l).toArray tmps j = yielded l.toArray tmps j := by
  unfold yielded
  rw [List.getElem?_toArray, List.getElem?_toArray, mask_head l h]
/-- The guards of the head look at the head. -/
def guardsB (n : Nat) (l : List Oper) : Bool := (l.take n).all fun o => match o.guard with
  | some (j, _) => decide (j < n)
  | none => true
theorem mask_wanted {n : Nat} {l : List Oper} (h : guardsB n l = true) {o : Oper} (ho : o ∈ l.take n) (tmps : Array Value) : Region.wanted o (yielded (mask n l).toArray tmps) = Region.wanted o (yielded l.toArray tmps) := by
  have := List.all_eq_true.1 h o ho
  unfold Region.wanted
  cases hg : o.guard with
  | none => rfl
  | some g =>
    obtain ⟨j, b⟩ := g
    rw [hg] at this
    simp only at this ⊢
    rw [mask_yielded l (of_decide_eq_true this)]
section
variable {P : Program} {C : World → Prop}
theorem idle_quiet (o : Oper) (a : Act) : (idle o).quiet P a C fun a' => a' = a := by
  refine ⟨undef, fun w _ => ?_, rfl⟩
  unfold Oper.quietAt idle execOp
  simp [go_sem, Oper.quietUpon]
/-- The quiet walk of the head is one of the masked region. -/
theorem quiet_idle (ops : Array Oper) (Q : Act → Prop) {a : Act} (h : Q a) : ∀ R : List Oper, wpQuiet P ops C Q (R.map idle) a
  | [] => h
  | o :: R => by
    have hw : Region.wanted (idle o) (yielded ops a.tmps) = true := rfl
    show if Region.wanted (idle o) (yielded ops a.tmps) then (idle o).quiet P a C (wpQuiet P ops C Q (R.map idle)) else _
    rw [if_pos hw]
    obtain ⟨v, hv, hn⟩ := idle_quiet (P := P) (C := C) o a
    exact ⟨v, hv, by rw [hn]; exact quiet_idle ops Q h R⟩
theorem quiet_mask {n : Nat} {l : List Oper} {Q : Act → Prop} : ∀ (L : List Oper), (∀ o ∈ L, ∀ tmps, Region.wanted o (yielded (mask n l).toArray tmps) = Region.wanted o (yielded l.toArray tmps)) → ∀ (R : List Oper) (a : Act),
    wpQuiet P l.toArray C Q L a → wpQuiet P (mask n l).toArray C Q (L ++ R.map idle) a
  | [], _, R, a, h => quiet_idle _ Q h R
  | o :: L, hL, R, a, h => by
    have ih := quiet_mask (n := n) (l := l) (Q := Q) L (fun o' ho' => hL o' (List.mem_cons_of_mem _ ho')) R
    simp only [List.cons_append, wpQuiet] at h ⊢
    rw [hL o (by simp)]
    split at h
    · rename_i hw
      rw [if_pos hw]
      obtain ⟨v, hv, hn⟩ := h
      exact ⟨v, hv, ih _ hn⟩
    · rename_i hw
      rw [if_neg hw]
      exact ih _ h
/-- No statement 'defer' is among the operations. -/
def noDefer (l : List Oper) : Bool := l.all fun o => match o.op with
  | .defer _ => false
  | _ => true
theorem semAt_any {l : List Oper} (h : noDefer l = true) {o : Oper} (ho : o ∈ l) (r : Option Nat) (ρ : Operand → Value) : o.semAt r ρ = execOp ρ o := by
  cases r with
  | none => rfl
  | some k =>
    refine Oper.semAt_some k ρ o fun c hc => ?_
    have := List.all_eq_true.1 h o ho
    rw [hc] at this
    cases this
variable {F : Fence} {m : Nat}
/-- A quiet operation, in a fence that lets every call through. -/
theorem quiet_in {l : List Oper} {o : Oper} {a : Act} {w : World} {K : Act → Prop} {K' : Act → World → Prop} {Q : Exit → Act → World → Prop} (hF : Free F) (hd : noDefer l = true) (ho : o ∈ l) (hw : C w)
    (hK : ∀ a' w', C w' → K a' → K' a' w') (h : o.quiet P a C K) : o.wpIn F m P a w K' Q := by
  obtain ⟨v, hv, hn⟩ := h
  refine ⟨fun f _ => hF.fn f, ?_⟩
  rw [semAt_any hd ho]
  have hq : Oper.quietUpon P C w v ((execOp a.eval o).run P w) := hv w hw
  match hr : (execOp a.eval o).run P w, hq with
  | .ok (.value u) w1, hq =>
    obtain ⟨rfl, rfl⟩ := hq
    exact hK _ _ hw hn
  | .ok .skip w1, hq =>
    obtain ⟨rfl, rfl⟩ := hq
    exact hK _ _ hw hn
  | .ok (.enter f args) w1, hq =>
    obtain ⟨rfl, hc⟩ := hq
    refine ⟨fun hs => ?_, (hF.calls hc).mono ?_⟩
    · rw [hF.depth] at hs; cases hs
    · rintro e w2 ⟨rfl, hw2⟩
      exact hK _ _ hw2 hn
theorem comes_up {l : List Oper} {o : Oper} {i : Nat} {a : Act} {w : World} {K : Act → Prop} {K' : Act → World → Prop} {Q : Exit → Act → World → Prop} (hF : Free F) (hd : noDefer l = true) (hi : l[i]? = some o) (hw : C w)
    (hK : ∀ a' w', C w' → K a' → K' a' w') (h : if Region.wanted o (yielded l.toArray a.tmps) then o.quiet P a C K else K (a.put o.dst undef)) : wpOpIn F m P l.toArray Q i K' a w := by
  unfold wpOpIn
  rw [List.getElem?_toArray, hi]
  show if _ then _ else _
  split
  · rename_i hq
    rw [if_pos hq] at h
    exact quiet_in hF hd (List.mem_of_getElem? hi) hw hK h
  · rename_i hq
    rw [if_neg hq] at h
    exact ⟨fun f _ => hF.fn f, hK _ _ hw h⟩
variable {md : Region.Mode}
/-- The tail alone is left: what the masked region's walk says there. -/
theorem tail_ends {n : Nat} {l : List Oper} {Q : Act → Prop} : ∀ (g k fuel : Nat) (listed : Array Bool) (a : Act), n ≤ k → k + g = l.length → Region.seqB md l.toArray g k listed = true →
    wpAnyQ P md (mask n l).toArray C Q fuel listed a → g ≤ fuel ∧ Q a
  | 0, k, fuel, listed, a, _, _, hB, h => by
    have he : Region.ready md (mask n l).toArray listed = [] := by rw [mask_ready]; simpa [Region.seqB] using hB
    cases fuel with
    | zero => exact ⟨Nat.le_refl _, h.2⟩
    | succ f => exact ⟨Nat.zero_le _, h.1 he⟩
  | g + 1, k, fuel, listed, a, hn, hk, hB, h => by
    simp only [Region.seqB, Bool.and_eq_true, decide_eq_true_eq] at hB
    have hr : Region.ready md (mask n l).toArray listed = [k] := by rw [mask_ready]; exact hB.1
    cases fuel with
    | zero => have := h.1; rw [hr] at this; cases this
    | succ f =>
      have h1 := h.2 k (by rw [hr]; simp)
      obtain ⟨o, ho⟩ : ∃ o, l[k]? = some o := ⟨_, List.getElem?_eq_getElem (by omega)⟩
      have hm : (mask n l).toArray[k]? = some (idle o) := by
        rw [List.getElem?_toArray, mask_at, ho]
        simp [show ¬ k < n by omega]
      unfold qOp at h1
      rw [hm] at h1
      have hw : Region.wanted (idle o) (yielded (mask n l).toArray a.tmps) = true := rfl
      simp only [hw, if_true] at h1
      obtain ⟨v, _, h2⟩ := h1
      have := tail_ends g (k + 1) f _ _ (by omega) (by omega) hB.2 h2
      exact ⟨by omega, this.2⟩
/-- The tail, carried out: each of its operations comes up alone. -/
theorem tail_runs {ops : Array Oper} {Q : Exit → Act → World → Prop} : ∀ (t : List Oper) (k fuel : Nat) (listed : Array Bool) (a : Act) (w : World), (∀ j, t[j]? = ops[k + j]?) → t.length ≤ fuel → Region.seqB md ops t.length k listed = true →
    wpListIn F m P ops Q t a w → wpAnyIn F m P md ops Q fuel listed a w
  | [], k, fuel, listed, a, w, _, _, hB, h => by
    have he : Region.ready md ops listed = [] := by simpa [Region.seqB] using hB
    cases fuel with
    | zero => exact ⟨he, h⟩
    | succ f => exact ⟨fun _ => h, fun i hi => by rw [he] at hi; cases hi⟩
  | o :: t, k, 0, listed, a, w, _, hf, _, _ => by simp at hf
  | o :: t, k, f + 1, listed, a, w, ht, hf, hB, h => by
    have h0 : ops[k]? = some o := by rw [← Nat.add_zero k, ← ht 0]; rfl
    simp only [List.length_cons, Region.seqB, Bool.and_eq_true, decide_eq_true_eq] at hB
    have hlen : t.length ≤ f := by simpa using hf
    refine ⟨fun he => (by rw [hB.1] at he; cases he), fun i hi => ?_⟩
    rw [hB.1, List.mem_singleton] at hi
    subst hi
    refine wpOpIn_mono (K := wpListIn F m P ops Q t) (fun a' w' h' => tail_runs t (i + 1) f _ a' w' (fun j => ?_) hlen hB.2 h') ?_
    · have := ht (j + 1)
      rw [List.getElem?_cons_succ] at this
      rw [this]
      congr 1
      omega
    · unfold wpOpIn
      rw [h0]
      exact h
/-- Every dependence of the head points back. -/
def backB (md : Region.Mode) (n : Nat) (l : List Oper) : Bool := (List.range n).all fun i => match l[i]? with
  | some o => o.after.all fun e => !Region.binds md e || decide (e.on < i)
  | none => true
/-- As long as one of the head has not come up, one of the head may. -/
theorem some_ready {n : Nat} {l : List Oper} (hb : backB md n l = true) (hn : n ≤ l.length) {listed : Array Bool} (hs : listed.size = l.length) : ∀ i, i < n → listed.getD i true = false → ∃ j, j < n ∧ j ∈ Region.ready md l.toArray listed := by
  intro i
  induction i using Nat.strongRecOn with
  | _ i ih =>
    intro hi hun
    obtain ⟨o, ho⟩ : ∃ o, l[i]? = some o := ⟨_, List.getElem?_eq_getElem (by omega)⟩
    by_cases hall : ∀ e ∈ o.after, Region.binds md e = true → listed.getD e.on false = true
    · exact ⟨i, hi, mem_ready.2 ⟨hun, o, by rw [List.getElem?_toArray]; exact ho, hall⟩⟩
    · obtain ⟨e, he⟩ := Classical.not_forall.1 hall
      simp only [Classical.not_imp] at he
      obtain ⟨he, hbi, hno⟩ := he
      have h1 := List.all_eq_true.1 hb i (List.mem_range.2 hi)
      rw [ho] at h1
      have h2 := Array.all_eq_true'.1 h1 e he
      rw [hbi] at h2
      have h3 : e.on < i := by simpa using h2
      exact ih e.on h3 (by omega) (getD_in (by omega) (by simpa using hno))
/-- The head has come up, the tail has not. -/
def lit (n : Nat) (l : List Oper) : Array Bool := (List.replicate n true ++ List.replicate (l.length - n) false).toArray
theorem is_lit {n : Nat} {l : List Oper} {listed : Array Bool} (hn : n ≤ l.length) (hs : listed.size = l.length) (h1 : ∀ i, i < n → listed.getD i true = true) (h2 : ∀ i, n ≤ i → i < l.length → listed.getD i true = false) : listed = lit n l := by
  have hz : (lit n l).size = l.length := by unfold lit; simp; omega
  apply Array.ext (by rw [hs, hz])
  intro i hi hi'
  have hil : i < l.length := by omega
  have hg : listed.getD i true = listed[i] := by simp [hi]
  rw [← hg]
  by_cases h : i < n
  · rw [h1 i h]
    simp [lit, h]
  · rw [h2 i (by omega) hil]
    simp [lit, List.getElem_append, h]
variable {Q : Exit → Act → World → Prop} {Q' : Act → Prop}
/-- Whatever order the head takes. -/
theorem head_runs {n : Nat} {l : List Oper} (hF : Free F) (hd : noDefer l = true) (hg : guardsB n l = true) (hn : n < l.length) (hs : Region.sinkB md l.toArray n = true) (hc : Region.chainB md l.toArray n = true) (hb : backB md n l = true)
    (ht : Region.seqB md l.toArray (l.length - n) n (lit n l) = true) (hQ : ∀ a w, C w → Q' a → wpListIn F m P l.toArray Q (l.drop n) a w) :
    ∀ (fuel : Nat) (listed : Array Bool) (a : Act) (w : World), HeadInv md l.toArray n listed → C w → wpAnyQ P md (mask n l).toArray C Q' fuel listed a → wpAnyIn F m P md l.toArray Q fuel listed a w := by
  intro fuel
  induction fuel with
  | zero =>
    intro listed a w inv hw h
    by_cases hex : ∃ i, i < n ∧ listed.getD i true = false
    · obtain ⟨i, hi, hun⟩ := hex
      obtain ⟨j, _, hj⟩ := some_ready hb (by omega) inv.size i hi hun
      rw [← mask_ready md n, h.1] at hj
      cases hj
    · have he := is_lit (Nat.le_of_lt hn) inv.size (fun i hi => by by_cases e : listed.getD i true = false; exact absurd ⟨i, hi, e⟩ hex; simpa using e) inv.tail
      obtain ⟨h1, h2⟩ := tail_ends (l.length - n) n 0 listed a (Nat.le_refl _) (by omega) (by rw [he]; exact ht) h
      exact tail_runs (l.drop n) n 0 listed a w (fun j => by rw [List.getElem?_drop, List.getElem?_toArray]) (by rw [List.length_drop]; exact h1) (by rw [List.length_drop, he]; exact ht) (hQ a w hw h2)
  | succ f ih =>
    intro listed a w inv hw h
    by_cases hex : ∃ i, i < n ∧ listed.getD i true = false
    · obtain ⟨i, hi, hun⟩ := hex
      obtain ⟨j, _, hj⟩ := some_ready hb (by omega) inv.size i hi hun
      refine ⟨fun h0 => (by rw [h0] at hj; cases hj), fun k hk => ?_⟩
      have hkn : k < n := by
        by_cases e : k < n
        · exact e
        · exact absurd hk (tail_waits hs hc hn inv _ i rfl hi hun k (by omega))
      obtain ⟨o, ho⟩ : ∃ o, l[k]? = some o := ⟨_, List.getElem?_eq_getElem (by omega)⟩
      have hot : o ∈ l.take n := List.mem_of_getElem? (i := k) (by rw [List.getElem?_take, if_pos hkn]; exact ho)
      have h1 := h.2 k (by rw [mask_ready]; exact hk)
      unfold qOp at h1
      rw [List.getElem?_toArray, mask_head l hkn, ho] at h1
      simp only [mask_wanted hg hot] at h1
      exact comes_up hF hd ho hw (fun a' w' hw' h' => ih _ a' w' (inv.set hk hkn) hw' h') h1
    · have he := is_lit (Nat.le_of_lt hn) inv.size (fun i hi => by by_cases e : listed.getD i true = false; exact absurd ⟨i, hi, e⟩ hex; simpa using e) inv.tail
      obtain ⟨h1, h2⟩ := tail_ends (l.length - n) n (f + 1) listed a (Nat.le_refl _) (by omega) (by rw [he]; exact ht) h
      exact tail_runs (l.drop n) n (f + 1) listed a w (fun j => by rw [List.getElem?_drop, List.getElem?_toArray]) (by rw [List.length_drop]; exact h1) (by rw [List.length_drop, he]; exact ht) (hQ a w hw h2)
end
/-- What the kernel is asked of a region. -/
def tailB (n : Nat) (l : List Oper) : Bool :=
  Region.lexB .any (mask n l).toArray && (guardsB n l && (decide (n < l.length) && (Region.sinkB .any l.toArray n && (Region.chainB .any l.toArray n && (backB .any n l && Region.seqB .any l.toArray (l.length - n) n (lit n l))))))
section
variable {P : Program} {F : Fence} {m : Nat} {C : World → Prop}
theorem wpIn_region_quiet_tail {id : Nat} {Q : Exit → Act → World → Prop} {a : Act} {w : World} {l : List Oper} (n : Nat) (hF : Free F) (hm : P.follows .mixedOrders = true) (hd : noDefer l = true) (hB : tailB n l = true)
    (hC : C { w with drawn := w.drawn + 1 }) (h : wpQuiet P l.toArray C (fun a' => ∀ w', C w' → wpListIn F m P l.toArray Q (l.drop n) a' w') (l.take n) a) : (Code.region id l.toArray true).wpIn F m P Q a w := by
  unfold tailB at hB
  simp only [Bool.and_eq_true, decide_eq_true_eq] at hB
  obtain ⟨hlex, hg, hn, hs, hc, hb, ht⟩ := hB
  unfold Region.lexB at hlex
  rw [Bool.and_eq_true] at hlex
  have hq := quiet_mask (n := n) (l := l) (l.take n) (fun o ho tmps => mask_wanted hg ho tmps) (l.drop n) a h
  have hsz : (mask n l).toArray.size = (mask n l).length := rfl
  have hany := wpAnyQ_lex (md := .any) hlex.1 (mask n l) 0 (Array.replicate (mask n l).length false) a (fun j => by rw [Nat.zero_add, List.getElem?_toArray]) hlex.2 hq
  rw [mask_len] at hany
  have inv : HeadInv .any l.toArray n (Array.replicate l.length false) := by
    refine ⟨by simp, fun j oj _ hl => ?_, fun t _ ht' => getD_in (by simpa using ht') (getD_replicate_false _ _)⟩
    rw [getD_replicate_false] at hl
    cases hl
  exact wpIn_region_any hm (head_runs hF hd hg hn hs hc hb ht (fun a' w' hw' hq' => hq' w' hw') _ _ _ _ inv hC hany)
/-- The class 'Below', every world of it as f x. -/
theorem wpIn_region_below_tail {id : Nat} {Q : Exit → Act → World → Prop} {a : Act} {w : World} {l : List Oper} (n : Nat) (hF : Free F) (hm : P.follows .mixedOrders = true) (hd : noDefer l = true) (hB : tailB n l = true)
    (h : ∀ (X : Type) (f : X → World), Nonempty X → Hid (∀ x, Below w.heap.size w (f x)) → Hid (∀ w', Below w.heap.size w w' → ∃ x, w' = f x) →
      wpQuiet P l.toArray (fun w' => ∃ x, w' = f x) (fun a' => ∀ w', Below w.heap.size w w' → wpListIn F m P l.toArray Q (l.drop n) a' w') (l.take n) a) : (Code.region id l.toArray true).wpIn F m P Q a w := by
  have hdr : Below w.heap.size w { w with drawn := w.drawn + 1 } := (Below.refl w.heap.size w).drew
  refine wpIn_region_quiet_tail (C := fun w' => ∃ x : {w' : World // Below w.heap.size w w'}, w' = x.1) n hF hm hd hB ⟨⟨_, hdr⟩, rfl⟩ ?_
  have := h {w' : World // Below w.heap.size w w'} Subtype.val ⟨⟨_, hdr⟩⟩ (fun x => x.2) (fun w' h' => ⟨⟨w', h'⟩, rfl⟩)
  have e : (fun a' => ∀ w', (∃ x : {w' : World // Below w.heap.size w w'}, w' = x.1) → wpListIn F m P l.toArray Q (l.drop n) a' w') = fun a' => ∀ w', Below w.heap.size w w' → wpListIn F m P l.toArray Q (l.drop n) a' w' := by
    funext a'
    refine propext ⟨fun h w' hw => h w' ⟨⟨w', hw⟩, rfl⟩, fun h w' ⟨x, hx⟩ => h w' (hx ▸ x.2)⟩
  rw [e]
  exact this
end
end Go.Frame
