/-
  A drawn region by an invariant: what has come up so far is a set b of operations; each operation, whenever it may come up, takes the invariant at b to the invariant at b with itself; behind all of them the invariant gives the rest. One proof an operation, whatever the number of orders (no program; lies as <Seat>Iv).
  Contract: newMachine (no silent moves, arcs in order).
  Contracts: leastAccepted, Run, Closure, Step, where newMachine keeps its contract.
-/
import Derived.WalkKit
import Derived.Deep.RegionHeld3
import Derived.Test.YtogpnlkjcdedlaaDoorZ06
section
set_option linter.unusedSimpArgs false
namespace Go.Frame
section
variable {P : Program} {ops : Array Oper} {Q : Exit → Act → World → Prop} {md : Region.Mode}

/-- How many of the first n have not come up. -/
def left (listed : Array Bool) : Nat → Nat
  | 0 => 0
  | n + 1 => left listed n + (if listed.getD n true = false then 1 else 0)
theorem getD_put (listed : Array Bool) (i j : Nat) : (listed.setIfInBounds i true).getD j true = (listed.getD j true || j == i) := by
  simp only [Array.getD_eq_getD_getElem?]
  rw [Array.getElem?_setIfInBounds]
  by_cases e : i = j
  · subst e
    by_cases h : i < listed.size
    · simp [h]
    · simp [h, Array.getElem?_eq_none (Nat.le_of_not_lt h)]
  · have e' : ¬ j = i := fun h => e h.symm
    simp [e, e']
theorem left_put {listed : Array Bool} {i : Nat} (h : listed.getD i true = false) : ∀ n, left (listed.setIfInBounds i true) n + (if i < n then 1 else 0) = left listed n
  | 0 => by simp [left]
  | n + 1 => by
    have ih := left_put h n
    rw [left, left, getD_put]
    by_cases e : n = i
    · subst e
      simp [h] at ih ⊢
      omega
    · have e1 : (n == i) = false := by simp [e]
      rw [e1, Bool.or_false]
      by_cases hi : i < n
      · have h1 : (if i < n + 1 then 1 else 0) = 1 := if_pos (by omega)
        rw [if_pos hi] at ih; rw [h1]; omega
      · have h1 : (if i < n + 1 then 1 else 0) = 0 := if_neg (by omega)
        rw [if_neg hi] at ih; rw [h1]; omega
theorem left_zero {listed : Array Bool} : ∀ {n : Nat}, left listed n = 0 → ∀ i, i < n → listed.getD i true = true
  | 0, _, i, hi => by omega
  | n + 1, h, i, hi => by
    rw [left] at h
    by_cases e : i = n
    · subst e
      cases hb : listed.getD i true
      · rw [hb] at h; simp at h
      · rfl
    · exact left_zero (n := n) (by omega) i (by omega)
theorem getD_in {listed : Array Bool} {i : Nat} (h : listed.getD i false = true) : listed.getD i true = true := by
  rw [Array.getD_eq_getD_getElem?] at h ⊢
  cases hb : listed[i]? with
  | none => rfl
  | some x => rw [hb] at h; exact h
theorem getD_out {listed : Array Bool} {i : Nat} (hi : i < listed.size) (h : listed.getD i true = true) : listed.getD i false = true := by
  rw [Array.getD_eq_getD_getElem?, Array.getElem?_eq_getElem hi] at h ⊢
  exact h
/-- The least that has not come up may come up. -/
theorem all_up {listed : Array Bool} (hsize : listed.size = ops.size) (hback : ∀ (i : Nat) (o : Oper), ops[i]? = some o → ∀ e ∈ o.after, e.on < i) (hr : Region.ready md ops listed = []) : ∀ i, listed.getD i true = true := by
  intro i
  induction i using Nat.strongRecOn with
  | _ i ih =>
    cases hb : listed.getD i true
    · have hi : i < ops.size := by
        apply Nat.lt_of_not_le
        intro h
        rw [Array.getD_eq_getD_getElem?, Array.getElem?_eq_none (by omega)] at hb
        cases hb
      have : i ∈ Region.ready md ops listed := mem_ready.2 ⟨hb, ops[i], Array.getElem?_eq_getElem hi, fun e he _ => getD_out (by have := hback i _ (Array.getElem?_eq_getElem hi) e he; omega) (ih e.on (hback i _ (Array.getElem?_eq_getElem hi) e he))⟩
      rw [hr] at this; cases this
    · rfl
theorem wpAny_inv (J : (Nat → Bool) → Act → World → Prop) (hback : ∀ (i : Nat) (o : Oper), ops[i]? = some o → ∀ e ∈ o.after, e.on < i)
    (hstep : ∀ (b : Nat → Bool) (a : Act) (w : World) (i : Nat) (o : Oper), ops[i]? = some o → J b a w → b i = false → (∀ e ∈ o.after, Region.binds md e = true → b e.on = true) →
      ∀ K : Act → World → Prop, Shut (∀ a w, J (fun j => b j || j == i) a w → K a w) → if Region.wanted o (yielded ops a.tmps) = true then Oper.wp P o a w K Q else K (a.put o.dst undef) w)
    (hdone : ∀ (b : Nat → Bool) (a : Act) (w : World), J b a w → (∀ i, b i = true) → Q .normal a w) :
    ∀ (fuel : Nat) (listed : Array Bool) (a : Act) (w : World), listed.size = ops.size → left listed ops.size ≤ fuel → J (fun i => listed.getD i true) a w → wpAny P md ops Q fuel listed a w
  | 0, listed, a, w, hs, hl, hJ => by
    have hall : ∀ i, listed.getD i true = true := fun i => by
      by_cases h : i < ops.size
      · exact left_zero (by omega) i h
      · rw [Array.getD_eq_getD_getElem?, Array.getElem?_eq_none (by omega)]; rfl
    refine ⟨?_, hdone _ a w hJ hall⟩
    apply List.eq_nil_iff_forall_not_mem.2
    intro i hi
    have := (mem_ready.1 hi).1
    rw [hall i] at this; cases this
  | fuel + 1, listed, a, w, hs, hl, hJ => by
    refine ⟨fun hr => hdone _ a w hJ (all_up hs hback hr), fun i hi => ?_⟩
    obtain ⟨hb, o, ho, hall⟩ := mem_ready.1 hi
    have hlt : i < ops.size := (Array.getElem?_eq_some_iff.1 ho).1
    refine wpOp_step ho fun K hK => hstep _ a w i o ho hJ hb (fun e he hbe => getD_in (hall e he hbe)) K fun a' w' hJ' => hK a' w' ?_
    refine wpAny_inv J hback hstep hdone fuel _ a' w' (by simpa using hs) ?_ ?_
    · have := left_put hb ops.size
      rw [if_pos hlt] at this
      omega
    · have e : (fun j => (listed.setIfInBounds i true).getD j true) = fun j => listed.getD j true || j == i := funext fun j => getD_put listed i j
      rw [e]; exact hJ'
theorem left_new (n : Nat) : ∀ m, left (Array.replicate n false) m ≤ m
  | 0 => Nat.le_refl _
  | m + 1 => by
    have := left_new n m
    rw [left]; split <;> omega
def backwardB (ops : Array Oper) : Bool := (List.range ops.size).all fun i => match ops[i]? with
  | some o => o.after.all fun e => decide (e.on < i)
  | none => true
theorem back_of (h : backwardB ops = true) : ∀ (i : Nat) (o : Oper), ops[i]? = some o → ∀ e ∈ o.after, e.on < i := by
  intro i o ho e he
  have hi := (Array.getElem?_eq_some_iff.1 ho).1
  have h1 := List.all_eq_true.1 h i (List.mem_range.2 hi)
  rw [ho] at h1
  simpa using (Array.all_eq_true_iff_forall_mem.1 h1) e he
/-- The beginning. -/
theorem region_inv {id : Nat} {a : Act} {w : World} (J : (Nat → Bool) → Act → World → Prop) (hm : P.follows .mixedOrders = true) (hback : ∀ (i : Nat) (o : Oper), ops[i]? = some o → ∀ e ∈ o.after, e.on < i)
    (hstep : ∀ (b : Nat → Bool) (a : Act) (w : World) (i : Nat) (o : Oper), ops[i]? = some o → J b a w → b i = false → (∀ e ∈ o.after, Region.binds .any e = true → b e.on = true) →
      ∀ K : Act → World → Prop, Shut (∀ a w, J (fun j => b j || j == i) a w → K a w) → if Region.wanted o (yielded ops a.tmps) = true then Oper.wp P o a w K Q else K (a.put o.dst undef) w)
    (hdone : ∀ (b : Nat → Bool) (a : Act) (w : World), J b a w → (∀ i, b i = true) → Q .normal a w)
    (h0 : J (fun i => decide (ops.size ≤ i)) a w.drew) : (Code.region id ops true).wp P Q a w := by
  refine wp_region_any hm (wpAny_inv J hback hstep hdone _ _ _ _ (by simp) (left_new _ _) ?_)
  have e : (fun i => (Array.replicate ops.size false).getD i true) = fun i => decide (ops.size ≤ i) := funext fun i => by
    by_cases h : ops.size ≤ i
    · rw [Array.getD_eq_getD_getElem?, Array.getElem?_eq_none (by simpa using h)]; simp [h]
    · simp [Array.getD_eq_getD_getElem?, Array.getElem?_replicate, h, Nat.lt_of_not_le h]
  rw [e]; exact h0
end
end Go.Frame
end
section
set_option linter.unusedSimpArgs false
set_option linter.unusedVariables false
namespace Go.Proofs.YtogpnlkjcdedlaaDoor
open Go.RowKit Bs Rg Nf Go.Frame
attribute [local go_sem] eq_zero eq_set

theorem info23 : (Tryd.prog.info? 23).map (fun i => (i.zero, i.size, i.bytes)) = some (some (.slice none 0 0), 1, 24) := by kernel_rfl
set_option maxRecDepth 100000 in
theorem make_sil (n : Nat) (hn : n ≤ 1000000) (w : World) :
    (Instr.makeSlice 95 (.int .i64 (n : Int)) (.int .i64 (n : Int))).run Tryd.prog w = .ok (.slice (some ⟨w.heap.size, 0, none⟩) n n) (w.alloc (.cells (List.replicate n (.slice none 0 0)).toArray 23)) := by
  obtain ⟨i, hi, h0, h1, h2⟩ := info_parts info23
  have := run_make (P := Tryd.prog) w 95 23 i _ Tryd.underlying95 hi h0 .i64 .i64 n n (by omega) (Int.le_refl _) (by rw [h2]; omega) (by omega)
  rw [h1, show (Value.slice none 0 0).cells = #[.slice none 0 0] by kernel_rfl] at this
  rw [← made_one]
  simpa using this
/-- What arcsByFrom answers. -/
def BF (w : World) (N : Nfa) (n : Nat) (v : Value) (w' : World) : Prop := ∃ AB, v = .slice (some ⟨AB, 0, none⟩) n n ∧ w.heap.size ≤ AB ∧ (∃ vs : List Value, w'.heap[AB]? = some (.cells vs.toArray 22 (0, 0))) ∧ ∀ x, x < n → ∃ v, w'.cell? ⟨AB, x, none⟩ = some v ∧ RW w' v N.arcs x fun b => b < w'.heap.size
theorem BF.below {w W W' : World} {N : Nfa} {n : Nat} {v : Value} (h : BF w N n v W) (hb : Below W.heap.size W W') : BF w N n v W' := by
  obtain ⟨AB, h1, h2, ⟨vs, h3⟩, h4⟩ := h
  refine ⟨AB, h1, h2, ⟨vs, (hb.block _ (heap_lt h3)).trans h3⟩, fun x hx => ?_⟩
  obtain ⟨u, h5, h6⟩ := h4 x hx
  exact ⟨u, (World.cell?_of_block (hb.block AB (heap_lt h3))).trans h5, (h6.below hb).more fun b hb' => Nat.lt_of_lt_of_le hb' hb.size⟩
/-- What newMachine answers. -/
def NMO (w : World) (N : Nfa) (n : Nat) (v : Value) (w' : World) : Prop := ∃ mb ab sb K ca cs, v = .pointer (some ⟨mb, 0, none⟩) ∧ MC (fun _ => True) w' mb ab sb K ca cs N n ∧ w.heap.size ≤ K
theorem cell_cells {W : World} {b j : Nat} {v : Value} {es : Array MapEntry} {ck : Nat} (h : W.cell? ⟨b, j, none⟩ = some v) : W.heap[b]? ≠ some (.map es ck) := by
  intro e
  simp [World.cell?, e] at h
set_option maxRecDepth 100000 in
set_option maxHeartbeats 4000000 in
theorem newMachine_plain (w : World) (N : Nfa) (n : Nat) (hv : Vn N n) (a1 a2 : Option Addr) (m c1 k c2 : Nat) (hmc : m ≤ c1) (hcc : c1 ≤ 9223372036854775807) (hnil : a1 = none → c1 = 0) (h : NA w N a1 m a2 k) (hs : Srt N.arcs) (hpl : ∀ a ∈ N.arcs, a.e = false) :
    Calls Tryd.prog 36 #[.agg #[.int .i64 N.n, .int .i64 N.st, .slice a1 m c1, .slice a2 k c2]] w fun e w' => (∃ v, e = .returned v ∧ NMO w N n v w') ∧ Below w.heap.size w w' := by
  obtain ⟨nn, st, arcs, acc⟩ := N
  obtain rfl : nn = (n : Int) := hv.hn
  have hn := hv.le
  have CBF := hid (fun V (hV : Below w.heap.size w V) => byFrom_sorted V ⟨(n : Int), st, arcs, acc⟩ n hv a1 a2 m c1 k c2 hmc hcc hnil (h.below hV) hs)
  obtain ⟨W, hW⟩ : ∃ W, W = w.alloc (.cells #[.int .i64 (n : Int), .int .i64 st, .slice a1 m c1, .slice a2 k c2] 25) := ⟨_, rfl⟩
  have HB := hid (show Below w.heap.size w W from by rw [hW]; exact bel1 _ _)
  have HW := hid (show W.heap[w.heap.size]? = some (.cells #[.int .i64 (n : Int), .int .i64 st, .slice a1 m c1, .slice a2 k c2] 25 (0, 0)) from by rw [hW]; exact alloc_new _ _)
  have HA := hid (And.intro h.arcs (And.intro h.hm (And.intro hv (And.intro hs hpl))))
  have hm := h.hm
  clear h hv hs hpl
  go_enter Tryd.func36, Tryd.ntmps36
  go_upto_region 1 with fail
  rw [← hW]
  clear hW
  refine region_inv (fun b a' w' => ∃ (v3 v6 v7 v8 v9 v10 v11 v12 v13 : Value) (sb km mb : Nat), a' = { tmps := #[.agg #[.int .i64 (n : Int), .int .i64 st, .slice a1 m c1, .slice a2 k c2], .pointer (some ⟨w.heap.size, 0, none⟩), .pointer none, v3, undef, undef, v6, v7, v8, v9, v10, v11, v12, v13, undef, undef, undef, undef, undef, undef, undef, undef, undef, undef, undef, undef, undef, undef, undef, undef, undef, undef, undef, undef, undef, undef, undef, undef, undef, undef, undef, undef, undef, undef], defers := [] } ∧ Below w.heap.size w w' ∧ w'.heap[w.heap.size]? = some (.cells #[.int .i64 (n : Int), .int .i64 st, .slice a1 m c1, .slice a2 k c2] 25 (0, 0)) ∧ (b 0 = true → v6 = .agg #[.int .i64 (n : Int), .int .i64 st, .slice a1 m c1, .slice a2 k c2]) ∧ (b 1 = true → BF w ⟨(n : Int), st, arcs, acc⟩ n v7 w') ∧ (b 2 = true → v8 = .pointer (some ⟨w.heap.size, 0, none⟩)) ∧ (b 3 = true → v9 = .int .i64 (n : Int)) ∧ (b 4 = true → v10 = .slice (some ⟨sb, 0, none⟩) n n ∧ w'.heap[sb]? = some (.cells (List.replicate n (.slice none 0 0)).toArray 23 (0, 0))) ∧ (b 5 = true → v11 = .map (some km) ∧ w'.heap[km]? = some (.map #[] 0) ∧ w.heap.size ≤ km) ∧ (b 6 = true → ∃ AB, v7 = .slice (some ⟨AB, 0, none⟩) n n ∧ v12 = .agg #[.slice (some ⟨AB, 0, none⟩) n n, .slice (some ⟨sb, 0, none⟩) n n, .map (some km)]) ∧ (b 7 = true → v13 = .pointer (some ⟨mb, 0, none⟩) ∧ ∃ AB, v7 = .slice (some ⟨AB, 0, none⟩) n n ∧ w'.heap[mb]? = some (.cells #[.slice (some ⟨AB, 0, none⟩) n n, .slice (some ⟨sb, 0, none⟩) n n, .map (some km)] 98 (0, 0))) ∧ (b 8 = true → v3 = .pointer (some ⟨mb, 0, none⟩)) ∧ (b 6 = true → b 1 = true) ∧ (b 6 = true → b 4 = true) ∧ (b 6 = true → b 5 = true) ∧ (b 7 = true → b 6 = true) ∧ (b 8 = true → b 7 = true)) (by kernel_rfl) (back_of (by kernel_rfl)) ?step ?done ?init
  case step =>
    rintro b a' w' i o ho ⟨v3, v6, v7, v8, v9, v10, v11, v12, v13, sb, km, mb, rfl, hb, hx, h0, h1, h2, h3, h4, h5, h6, h7, h8, q61, q64, q65, q76, q87⟩ hbi hd K hK
    have hlt : i < 9 := by have := (Array.getElem?_eq_some_iff.1 ho).1; simpa using this
    have dep : ∀ k, (o.after.any fun e => Region.binds .any e && e.on == k) = true → b k = true := fun k hk => by
      obtain ⟨e, he, h⟩ := Array.any_eq_true'.1 hk
      simp only [Bool.and_eq_true, beq_iff_eq] at h
      rw [← h.2]; exact hd e he h.1
    clear hd
    have hi : i = 0 ∨ i = 1 ∨ i = 2 ∨ i = 3 ∨ i = 4 ∨ i = 5 ∨ i = 6 ∨ i = 7 ∨ i = 8 := by omega
    clear hlt
    rcases hi with rfl | rfl | rfl | rfl | rfl | rfl | rfl | rfl | rfl
    · simp only [List.getElem?_toArray, List.getElem?_cons_zero, List.getElem?_cons_succ, Option.some.injEq] at ho
      subst ho
      obtain ⟨d0, d1, d2, d3⟩ := cells4 hx
      go_simp
      refine hK.out _ _ ⟨_, _, _, _, _, _, _, _, _, sb, km, mb, rfl, hb, hx, fun _ => rfl, fun h => h1 (by simpa using h), fun h => h2 (by simpa using h), fun h => h3 (by simpa using h), fun h => h4 (by simpa using h), fun h => h5 (by simpa using h), fun h => h6 (by simpa using h), fun h => h7 (by simpa using h), fun h => h8 (by simpa using h), fun h => by simp [q61 (by simpa using h)], fun h => by simp [q64 (by simpa using h)], fun h => by simp [q65 (by simpa using h)], fun h => by simp [q76 (by simpa using h)], fun h => by simp [q87 (by simpa using h)]⟩
    · simp only [List.getElem?_toArray, List.getElem?_cons_zero, List.getElem?_cons_succ, Option.some.injEq] at ho
      subst ho
      obtain rfl := h0 (dep 0 (by kernel_rfl))
      have CB := hid (CBF.out w' hb)
      go_simp
      refine CB.out.mono ?_
      rintro e W5 ⟨⟨AB, rfl, g1, g2, g3, g4⟩, b5⟩
      refine hK.out _ _ ⟨_, _, _, _, _, _, _, _, _, sb, km, mb, rfl, hb.trans (b5.mono hb.size), (b5.block _ (heap_lt hx)).trans hx, fun _ => rfl, fun _ => ⟨AB, rfl, Nat.le_trans hb.size g1, g3, g4⟩, fun h => h2 (by simpa using h), fun h => h3 (by simpa using h), fun h => ⟨(h4 (by simpa using h)).1, (b5.block _ (heap_lt (h4 (by simpa using h)).2)).trans (h4 (by simpa using h)).2⟩, fun h => ⟨(h5 (by simpa using h)).1, (b5.block _ (heap_lt (h5 (by simpa using h)).2.1)).trans (h5 (by simpa using h)).2.1, (h5 (by simpa using h)).2.2⟩, fun h => (by have := q61 (by simpa using h); rw [hbi] at this; cases this), fun h => (by have := q61 (q76 (by simpa using h)); rw [hbi] at this; cases this), fun h => h8 (by simpa using h), fun _ => by simp, fun h => by simp [q64 (by simpa using h)], fun h => by simp [q65 (by simpa using h)], fun h => by simp [q76 (by simpa using h)], fun h => by simp [q87 (by simpa using h)]⟩
    · simp only [List.getElem?_toArray, List.getElem?_cons_zero, List.getElem?_cons_succ, Option.some.injEq] at ho
      subst ho
      go_simp
      refine hK.out _ _ ⟨_, _, _, _, _, _, _, _, _, sb, km, mb, rfl, hb, hx, fun h => h0 (by simpa using h), fun h => h1 (by simpa using h), fun _ => rfl, fun h => h3 (by simpa using h), fun h => h4 (by simpa using h), fun h => h5 (by simpa using h), fun h => h6 (by simpa using h), fun h => h7 (by simpa using h), fun h => h8 (by simpa using h), fun h => by simp [q61 (by simpa using h)], fun h => by simp [q64 (by simpa using h)], fun h => by simp [q65 (by simpa using h)], fun h => by simp [q76 (by simpa using h)], fun h => by simp [q87 (by simpa using h)]⟩
    · simp only [List.getElem?_toArray, List.getElem?_cons_zero, List.getElem?_cons_succ, Option.some.injEq] at ho
      subst ho
      obtain rfl := h2 (dep 2 (by kernel_rfl))
      obtain ⟨d0, d1, d2, d3⟩ := cells4 hx
      go_simp
      refine hK.out _ _ ⟨_, _, _, _, _, _, _, _, _, sb, km, mb, rfl, hb, hx, fun h => h0 (by simpa using h), fun h => h1 (by simpa using h), fun _ => rfl, fun _ => rfl, fun h => h4 (by simpa using h), fun h => h5 (by simpa using h), fun h => h6 (by simpa using h), fun h => h7 (by simpa using h), fun h => h8 (by simpa using h), fun h => by simp [q61 (by simpa using h)], fun h => by simp [q64 (by simpa using h)], fun h => by simp [q65 (by simpa using h)], fun h => by simp [q76 (by simpa using h)], fun h => by simp [q87 (by simpa using h)]⟩
    · simp only [List.getElem?_toArray, List.getElem?_cons_zero, List.getElem?_cons_succ, Option.some.injEq] at ho
      subst ho
      obtain rfl := h3 (dep 3 (by kernel_rfl))
      have mk := make_sil n (by have := hn; omega) w'
      have b5 := bel1 w' (.cells (List.replicate n (.slice none 0 0)).toArray 23)
      go_simp
      refine hK.out _ _ ⟨_, _, _, _, _, _, _, _, _, w'.heap.size, km, mb, rfl, hb.trans (b5.mono hb.size), (b5.block _ (heap_lt hx)).trans hx, fun h => h0 (by simpa using h), fun h => (h1 (by simpa using h)).below b5, fun h => h2 (by simpa using h), fun _ => rfl, fun _ => ⟨rfl, alloc_new _ _⟩, fun h => ⟨(h5 (by simpa using h)).1, (b5.block _ (heap_lt (h5 (by simpa using h)).2.1)).trans (h5 (by simpa using h)).2.1, (h5 (by simpa using h)).2.2⟩, fun h => (by have := q64 (by simpa using h); rw [hbi] at this; cases this), fun h => (by have := q64 (q76 (by simpa using h)); rw [hbi] at this; cases this), fun h => h8 (by simpa using h), fun h => by simp [q61 (by simpa using h)], fun _ => by simp, fun h => by simp [q65 (by simpa using h)], fun h => by simp [q76 (by simpa using h)], fun h => by simp [q87 (by simpa using h)]⟩
    · simp only [List.getElem?_toArray, List.getElem?_cons_zero, List.getElem?_cons_succ, Option.some.injEq] at ho
      subst ho
      have b5 := bel1 w' (.map #[] 0)
      go_simp
      refine hK.out _ _ ⟨_, _, _, _, _, _, _, _, _, sb, w'.heap.size, mb, rfl, hb.trans (b5.mono hb.size), (b5.block _ (heap_lt hx)).trans hx, fun h => h0 (by simpa using h), fun h => (h1 (by simpa using h)).below b5, fun h => h2 (by simpa using h), fun h => h3 (by simpa using h), fun h => ⟨(h4 (by simpa using h)).1, (b5.block _ (heap_lt (h4 (by simpa using h)).2)).trans (h4 (by simpa using h)).2⟩, fun _ => ⟨rfl, alloc_new _ _, hb.size⟩, fun h => (by have := q65 (by simpa using h); rw [hbi] at this; cases this), fun h => (by have := q65 (q76 (by simpa using h)); rw [hbi] at this; cases this), fun h => h8 (by simpa using h), fun h => by simp [q61 (by simpa using h)], fun h => by simp [q64 (by simpa using h)], fun _ => by simp, fun h => by simp [q76 (by simpa using h)], fun h => by simp [q87 (by simpa using h)]⟩
    · simp only [List.getElem?_toArray, List.getElem?_cons_zero, List.getElem?_cons_succ, Option.some.injEq] at ho
      subst ho
      obtain ⟨AB, rfl, g2, g3, g4⟩ := h1 (dep 1 (by kernel_rfl))
      obtain ⟨rfl, u4⟩ := h4 (dep 4 (by kernel_rfl))
      obtain ⟨rfl, u5, u6⟩ := h5 (dep 5 (by kernel_rfl))
      have e1 := dep 1 (by kernel_rfl)
      have e4 := dep 4 (by kernel_rfl)
      have e5 := dep 5 (by kernel_rfl)
      go_simp
      refine hK.out _ _ ⟨_, _, _, _, _, _, _, _, _, sb, km, mb, rfl, hb, hx, fun h => h0 (by simpa using h), fun _ => ⟨AB, rfl, g2, g3, g4⟩, fun h => h2 (by simpa using h), fun h => h3 (by simpa using h), fun _ => ⟨rfl, u4⟩, fun _ => ⟨rfl, u5, u6⟩, fun _ => ⟨AB, rfl, rfl⟩, fun h => h7 (by simpa using h), fun h => h8 (by simpa using h), fun _ => by simp [e1], fun _ => by simp [e4], fun _ => by simp [e5], fun _ => by simp, fun h => by simp [q87 (by simpa using h)]⟩
    · simp only [List.getElem?_toArray, List.getElem?_cons_zero, List.getElem?_cons_succ, Option.some.injEq] at ho
      subst ho
      have e6 := dep 6 (by kernel_rfl)
      obtain ⟨AB, rfl, rfl⟩ := h6 e6
      obtain ⟨rfl, u4⟩ := h4 (q64 e6)
      obtain ⟨rfl, u5, u6⟩ := h5 (q65 e6)
      have HH1 := h1 (q61 e6)
      have b5 := bel1 w' (.cells #[.slice (some ⟨AB, 0, none⟩) n n, .slice (some ⟨sb, 0, none⟩) n n, .map (some km)] 98)
      go_simp
      refine hK.out _ _ ⟨_, _, _, _, _, _, _, _, _, sb, km, w'.heap.size, rfl, hb.trans (b5.mono hb.size), (b5.block _ (heap_lt hx)).trans hx, fun h => h0 (by simpa using h), fun _ => HH1.below b5, fun h => h2 (by simpa using h), fun h => h3 (by simpa using h), fun _ => ⟨rfl, (b5.block _ (heap_lt u4)).trans u4⟩, fun _ => ⟨rfl, (b5.block _ (heap_lt u5)).trans u5, u6⟩, fun _ => ⟨AB, rfl, rfl⟩, fun _ => ⟨rfl, AB, rfl, alloc_new _ _⟩, fun h => (by have := q87 (by simpa using h); rw [hbi] at this; cases this), fun h => by simp [q61 (by simpa using h)], fun h => by simp [q64 (by simpa using h)], fun h => by simp [q65 (by simpa using h)], fun _ => by simp [e6], fun _ => by simp⟩
    · simp only [List.getElem?_toArray, List.getElem?_cons_zero, List.getElem?_cons_succ, Option.some.injEq] at ho
      subst ho
      have e7 := dep 7 (by kernel_rfl)
      obtain ⟨rfl, g7⟩ := h7 e7
      go_simp
      refine hK.out _ _ ⟨_, _, _, _, _, _, _, _, _, sb, km, mb, rfl, hb, hx, fun h => h0 (by simpa using h), fun h => h1 (by simpa using h), fun h => h2 (by simpa using h), fun h => h3 (by simpa using h), fun h => h4 (by simpa using h), fun h => h5 (by simpa using h), fun h => h6 (by simpa using h), fun _ => ⟨rfl, g7⟩, fun _ => rfl, fun h => by simp [q61 (by simpa using h)], fun h => by simp [q64 (by simpa using h)], fun h => by simp [q65 (by simpa using h)], fun h => by simp [q76 (by simpa using h)], fun _ => by simp [e7]⟩
  case done =>
    rintro b a' w' ⟨v3, v6, v7, v8, v9, v10, v11, v12, v13, sb, km, mb, rfl, hb, hx, h0, h1, h2, h3, h4, h5, h6, h7, h8, q61, q64, q65, q76, q87⟩ hall
    obtain rfl := h0 (hall 0)
    obtain ⟨AB, rfl, g2, g3, g4⟩ := h1 (hall 1)
    obtain rfl := h2 (hall 2)
    obtain rfl := h3 (hall 3)
    obtain ⟨rfl, u4⟩ := h4 (hall 4)
    obtain ⟨rfl, u5, u6⟩ := h5 (hall 5)
    obtain ⟨AB', e9, rfl⟩ := h6 (hall 6)
    simp only [Value.slice.injEq, Option.some.injEq, Addr.mk.injEq, and_true] at e9
    subst e9
    obtain ⟨rfl, AB', e9, u7⟩ := h7 (hall 7)
    simp only [Value.slice.injEq, Option.some.injEq, Addr.mk.injEq, and_true] at e9
    subst e9
    obtain rfl := h8 (hall 8)
    obtain ⟨vsA, g3⟩ := g3
    have nk : ∀ {B : Nat} {c : Array Value} {t : TypeId}, w'.heap[B]? = some (.cells c t (0, 0)) → B ≠ km := fun hB e => by rw [e, u5] at hB; simp at hB
    have hvn := HA.out.2.2.1
    have hMC : MC (fun _ => True) w' mb AB sb km n n ⟨(n : Int), st, arcs, acc⟩ n := by
      refine ⟨u7, fun x hx => ?_, fun x hx => ?_, ⟨[], [], ⟨rfl, #[], 0, u5, rfl, rfl⟩, fun j p hj => by simp at hj⟩, ⟨trivial, nk u7⟩, ⟨trivial, nk g3, heap_lt g3⟩, ⟨trivial, nk u4, heap_lt u4⟩, heap_lt u5, hvn⟩
      · obtain ⟨v, p1, a, kk, c, r, rfl, p2, p3, p4, p5⟩ := g4 x hx
        refine ⟨a, kk, c, r, p1, p2, p3, p4, fun h0 b9 off e => ⟨trivial, ?_⟩⟩
        rcases p2.2 with h | ⟨b', off', e', hb', hc'⟩
        · exact absurd h h0
        · rw [e] at e'
          simp at e'
          obtain ⟨rfl, rfl⟩ := e'
          have hr : r.length = kk := by have := p2.1; simpa using this
          obtain ⟨z, hz⟩ : ∃ z, r[0]? = some z := ⟨r[0]'(by omega), List.getElem?_eq_getElem _⟩
          have := hc' 0 (acs z) (by rw [List.getElem?_map, hz]; rfl) 0 _ rfl
          exact fun e2 => cell_cells this (e2 ▸ u5)
      · refine ⟨none, 0, 0, [], ?_, ⟨rfl, .inl rfl⟩, by omega, fun y => ⟨fun h => by simp at h, fun ⟨z, hz, he, _⟩ => by have := HA.out.2.2.2.2 z hz; rw [this] at he; cases he⟩, fun h0 => absurd rfl h0⟩
        simp only [World.cell?, u4]
        simp [hx]
    have HMC := hid (And.intro hMC (And.intro u6 (And.intro hb hx)))
    have HR := hid (HA.out.1.below hb)
    clear hMC u6 g2 g3 g4 u4 u5 u7 h1 h4 h5 h6 h7 q61 q64 q65 q76 q87 nk hb
    obtain ⟨d0, d1, d2, d3⟩ := cells4 hx
    clear hx
    dsimp only
    go_wp2_with fail
    obtain ⟨w5, hw5⟩ : ∃ w5, w5 = w' := ⟨_, rfl⟩
    rw [← hw5] at HMC HR ⊢
    clear hw5
    go_loopg [17] m (fun kk s17 wr => ∃ i : Nat, s17 = .int .i64 (i : Int) ∧ i + kk = m ∧ Below w5.heap.size w5 wr)
    case atStart => exact ⟨0, rfl, by omega, Below.refl _ _⟩
    case round =>
      obtain ⟨i, rfl, hik, hbw⟩ := hrel
      by_cases hlt : i < m
      · have hlt' : (i : Int) < (m : Int) := by omega
        obtain ⟨b0, off, f, t, ee, s, rfl, hbl, ha, q0, q1, q2, q3, q4, q5, q6⟩ := arc_at (HR.out.below hbw) hlt
        obtain rfl : ee = false := HA.out.2.2.2.2 _ (List.mem_of_getElem? ha)
        obtain ⟨V, hV⟩ : ∃ V, V = wr.alloc (.cells #[.int .i64 f, .int .i64 t, .bool false, .int .u64 (ws s 0 : Int), .int .u64 (ws s 1 : Int), .int .u64 (ws s 2 : Int), .int .u64 (ws s 3 : Int)] 55) := ⟨_, rfl⟩
        have HV := hid (show V.heap[wr.heap.size]? = some (.cells #[.int .i64 f, .int .i64 t, .bool false, .int .u64 (ws s 0 : Int), .int .u64 (ws s 1 : Int), .int .u64 (ws s 2 : Int), .int .u64 (ws s 3 : Int)] 55 (0, 0)) ∧ Below w5.heap.size w5 V from ⟨by rw [hV]; exact alloc_new _ _, hbw.trans ((by rw [hV]; exact bel1 _ _ : Below wr.heap.size wr V).mono hbw.size)⟩)
        clear hbw hbl ha
        go_upto_region 5 with fail
        rw [← hV]
        clear hV q0 q1 q2 q3 q4 q5 q6
        obtain ⟨e0, e1, e2, e3, e4, e5, e6⟩ := cells7a HV.out.1
        go_wp2
        go_roundg (gk - 1)
        case measure => omega
        case rel => exact ⟨i + 1, by go_num, by omega, HV.out.2⟩
      · have hlt' : ¬ (i : Int) < (m : Int) := by omega
        have HX := hid hbw
        clear hbw
        go_wp2
        go_ret
        exact ⟨⟨_, rfl, mb, AB, sb, km, n, n, rfl, HMC.out.1.below HX.out, HMC.out.2.1⟩, HMC.out.2.2.1.trans (HX.out.mono HMC.out.2.2.1.size)⟩
  case init =>
    exact ⟨_, _, _, _, _, _, _, _, _, 0, 0, 0, rfl, HB.out.drew, HW.out, fun h => absurd h (by simp), fun h => absurd h (by simp), fun h => absurd h (by simp), fun h => absurd h (by simp), fun h => absurd h (by simp), fun h => absurd h (by simp), fun h => absurd h (by simp), fun h => absurd h (by simp), fun h => absurd h (by simp), fun h => absurd h (by simp), fun h => absurd h (by simp), fun h => absurd h (by simp), fun h => absurd h (by simp), fun h => absurd h (by simp)⟩
end Go.Proofs.YtogpnlkjcdedlaaDoor
end
section
set_option linter.unusedSimpArgs false
set_option linter.unusedVariables false
namespace Go.Proofs.YtogpnlkjcdedlaaDoor
open Go.RowKit Bs Rg Nf Go.Frame
attribute [local go_sem] eq_zero eq_set

/-- One step of the least number. -/
def l1 (acc : List Int) (b : Int) (x : Nat) : Int := if 0 ≤ acc.getD x (-1) ∧ (b < 0 ∨ acc.getD x (-1) < b) then acc.getD x (-1) else b
theorem least_snoc (acc : List Int) (l : List Nat) (x : Nat) : least acc (l ++ [x]) = l1 acc (least acc l) x := by unfold least; rw [List.foldl_append]; rfl
set_option maxRecDepth 100000 in
set_option maxHeartbeats 4000000 in
theorem leastA_any (w : World) (n : Nat) (st : Int) (acc : List Int) (a1 a2 : Option Addr) (m c1 k c2 : Nat) (hacc : Row w a2 k (acc.map iv)) (hk : k ≤ 140737488355328) (a : Option Addr) (q c : Nat) (l : List Nat) (hl : Row w a q (ints l)) (hq : q ≤ 140737488355328) (hlk : ∀ x ∈ l, x < k) :
    Calls Tryd.prog 42 #[.agg #[.int .i64 (n : Int), .int .i64 st, .slice a1 m c1, .slice a2 k c2], .slice a q c] w fun e w' => e = .returned (.int .i64 (least acc l)) ∧ Below w.heap.size w w' := by
  obtain ⟨W, hW⟩ : ∃ W, W = w.alloc (.cells #[.int .i64 (n : Int), .int .i64 st, .slice a1 m c1, .slice a2 k c2] 25) := ⟨_, rfl⟩
  have HB := hid (show Below w.heap.size w W from by rw [hW]; exact bel1 _ _)
  have HW := hid (show W.heap[w.heap.size]? = some (.cells #[.int .i64 (n : Int), .int .i64 st, .slice a1 m c1, .slice a2 k c2] 25 (0, 0)) from by rw [hW]; exact alloc_new _ _)
  have H0 := hid (And.intro (hacc.below HB.out) (And.intro (hl.below HB.out) hlk))
  have hlq : l.length = q := by have := hl.1; simpa [ints] using this
  have HLQ := hid hlq
  clear hacc hl hlk hlq
  go_enter Tryd.func42, Tryd.ntmps42
  go_upto_region 1 with fail
  rw [← hW]
  clear hW
  go_wp2_with fail
  go_loopg [5, 11] q (fun kk s5 s11 wr => ∃ i : Nat, s11 = .int .i64 (i : Int) ∧ i + kk = q ∧ s5 = .int .i64 (least acc (l.take i)) ∧ wr = W)
  case atStart => exact ⟨0, rfl, by omega, rfl, rfl⟩
  case round =>
    obtain ⟨i, rfl, hik, rfl, rfl⟩ := hrel
    by_cases hlt : i < q
    · have hlt' : (i : Int) < (q : Int) := by omega
      have hi0 : (0 : Int) ≤ (i : Int) := by omega
      obtain ⟨x, hx⟩ : ∃ x, l[i]? = some x := ⟨l[i]'(by have := HLQ.out; omega), List.getElem?_eq_getElem _⟩
      have hxk := H0.out.2.2 x (List.mem_of_getElem? hx)
      obtain ⟨rb, ro, rfl, q0⟩ : ∃ rb ro, a = some ⟨rb, ro, none⟩ ∧ wr.cell? ⟨rb, ro + i, none⟩ = some (.int .i64 (x : Int)) := by
        rcases H0.out.2.1.2 with h0 | ⟨rb, ro, e, hb', hc⟩
        · omega
        · exact ⟨rb, ro, e, hc i _ (Go.Frame.ints_at hx)⟩
      obtain ⟨b2, o2, v, rfl, _, hv, p0⟩ := int_at H0.out.1 hxk
      have hvd : acc.getD x (-1) = v := by rw [List.getD_eq_getElem?_getD, hv]; rfl
      have hnext : least acc (l.take (i + 1)) = l1 acc (least acc (l.take i)) x := by rw [List.take_add_one, hx]; exact least_snoc _ _ _
      obtain ⟨d0, d1, d2, d3⟩ := cells4 HW.out
      have hx0 : (0 : Int) ≤ (x : Int) := by omega
      have hxk' : (x : Int) < (k : Int) := by omega
      obtain ⟨bst, hb⟩ : ∃ z, z = least acc (l.take i) := ⟨_, rfl⟩
      rw [← hb] at hnext ⊢
      unfold l1 at hnext
      rw [hvd] at hnext
      have HN := hid hnext
      clear hnext hb hvd hv hx hxk hlt
      by_cases g1 : 0 ≤ v
      · by_cases g2 : bst < 0
        · have g4 : (0 ≤ v ∧ (bst < 0 ∨ v < bst)) := ⟨g1, .inl g2⟩
          go_wp2
          go_roundg (gk - 1)
          case measure => omega
          case rel => exact ⟨i + 1, by go_num, by omega, by rw [HN.out, if_pos g4], rfl⟩
        · by_cases g3 : v < bst
          · have g4 : (0 ≤ v ∧ (bst < 0 ∨ v < bst)) := ⟨g1, .inr g3⟩
            go_wp2
            go_roundg (gk - 1)
            case measure => omega
            case rel => exact ⟨i + 1, by go_num, by omega, by rw [HN.out, if_pos g4], rfl⟩
          · have g4 : ¬ (0 ≤ v ∧ (bst < 0 ∨ v < bst)) := fun h => h.2.elim (fun h => by omega) (fun h => by omega)
            go_wp2
            go_roundg (gk - 1)
            case measure => omega
            case rel => exact ⟨i + 1, by go_num, by omega, by rw [HN.out, if_neg g4], rfl⟩
      · have g4 : ¬ (0 ≤ v ∧ (bst < 0 ∨ v < bst)) := fun h => g1 h.1
        go_wp2
        go_roundg (gk - 1)
        case measure => omega
        case rel => exact ⟨i + 1, by go_num, by omega, by rw [HN.out, if_neg g4], rfl⟩
    · have hlt' : ¬ (i : Int) < (q : Int) := by omega
      have htk : l.take i = l := List.take_of_length_le (by have := HLQ.out; omega)
      rw [htk]
      go_wp2
      go_ret
      exact ⟨rfl, HB.out⟩
/-- newMachine keeps its contract for an automaton. -/
def NMS (w : World) (N : Nfa) (n : Nat) (a1 : Option Addr) (m c1 : Nat) (a2 : Option Addr) (k c2 : Nat) : Prop := ∀ V, Below w.heap.size w V → Calls Tryd.prog 36 #[.agg #[.int .i64 N.n, .int .i64 N.st, .slice a1 m c1, .slice a2 k c2]] V fun e w' => (∃ v, e = .returned v ∧ NMO V N n v w') ∧ Below V.heap.size V w'
set_option maxRecDepth 100000 in
set_option maxHeartbeats 4000000 in
theorem NRun_any (w : World) (N : Nfa) (n : Nat) (hv : Vn N n) (a1 a2 : Option Addr) (m c1 k c2 : Nat) (h : NA w N a1 m a2 k) (hnm : NMS w N n a1 m c1 a2 k c2) (s : ByteArray) (hs : s.size ≤ 1000000) (hT : Tb w) :
    Calls Tryd.prog 20 #[.agg #[.int .i64 N.n, .int .i64 N.st, .slice a1 m c1, .slice a2 k c2], .string s] w fun e w' => e = .returned (.int .i64 (run N n s.data.toList)) ∧ Below w.heap.size w w' := by
  have hval := valid_iff.2 ⟨n, hv⟩
  have HNM := hid hnm
  have HV := hid hv
  obtain ⟨nn, st, arcs, acc⟩ := N
  obtain rfl : nn = (n : Int) := hv.hn
  obtain ⟨N, hN⟩ : ∃ N, N = Nfa.mk (n : Int) st arcs acc := ⟨_, rfl⟩
  obtain ⟨W, hW⟩ : ∃ W, W = w.alloc (.cells #[.int .i64 (n : Int), .int .i64 st, .slice a1 m c1, .slice a2 k c2] 25) := ⟨_, rfl⟩
  have HB := hid (show Below w.heap.size w W from by rw [hW]; exact bel1 _ _)
  have HW := hid (show W.heap[w.heap.size]? = some (.cells #[.int .i64 (n : Int), .int .i64 st, .slice a1 m c1, .slice a2 k c2] 25 (0, 0)) from by rw [hW]; exact alloc_new _ _)
  have HA := hid (And.intro h hT)
  have CV := hid (show Calls Tryd.prog 12 #[.agg #[.int .i64 (n : Int), .int .i64 st, .slice a1 m c1, .slice a2 k c2]] W fun r w' => r = .returned (.bool true) ∧ Below W.heap.size W w' from by have := NValid_any W ⟨(n : Int), st, arcs, acc⟩ a1 a2 m c1 k c2 (h.below HB.out); rw [hval] at this; exact this)
  have hn := hv.le
  have hn1 := hv.pos
  have HKN := hid (show k = n from by have := h.lk; have := hv.acc; simp at *; omega)
  have CM := hid (fun V (hV : Below w.heap.size w V) => show Calls Tryd.prog 36 #[.agg #[.int .i64 (n : Int), .int .i64 st, .slice a1 m c1, .slice a2 k c2]] V fun e w' => (∃ v, e = .returned v ∧ NMO V N n v w') ∧ Below V.heap.size V w' from by rw [hN]; exact hnm V hV)
  have HN := hid hN
  clear h hv hnm hT hval
  obtain ⟨d0, d1, d2, d3⟩ := cells4 HW.out
  show Calls Tryd.prog 20 #[.agg #[.int .i64 (n : Int), .int .i64 st, .slice a1 m c1, .slice a2 k c2], .string s] w fun e w' => e = .returned (.int .i64 (run (Nfa.mk (n : Int) st arcs acc) n s.data.toList)) ∧ Below w.heap.size w w'
  rw [← hN]
  clear hN
  show Calls Tryd.prog 20 #[.agg #[.int .i64 (n : Int), .int .i64 st, .slice a1 m c1, .slice a2 k c2], .string s] w _
  go_enter Tryd.func20, Tryd.ntmps20
  go_upto_region 1 with fail
  rw [← hW]
  clear hW
  go_wp2_with fail
  refine CV.out.mono ?_
  rintro r V1 ⟨rfl, b1⟩
  have H1 := hid (show Below w.heap.size w V1 ∧ V1.heap[w.heap.size]? = some (.cells #[.int .i64 (n : Int), .int .i64 st, .slice a1 m c1, .slice a2 k c2] 25 (0, 0)) from ⟨HB.out.trans (b1.mono HB.out.size), (b1.block _ (heap_lt HW.out)).trans HW.out⟩)
  clear b1 d0 d1 d2 d3
  obtain ⟨d0, d1, d2, d3⟩ := cells4 H1.out.2
  go_wp2_with fail
  refine (CM.out V1 H1.out.1).mono ?_
  rintro r V2 ⟨⟨v, rfl, mb, ab, sb, km, ca, cs, rfl, hmc, hkm⟩, b1⟩
  have H2 := hid (show Below w.heap.size w V2 ∧ V2.heap[w.heap.size]? = some (.cells #[.int .i64 (n : Int), .int .i64 st, .slice a1 m c1, .slice a2 k c2] 25 (0, 0)) from ⟨H1.out.1.trans (b1.mono H1.out.1.size), (b1.block _ (heap_lt H1.out.2)).trans H1.out.2⟩)
  have hwk : w.heap.size < km := by have := heap_lt H1.out.2; omega
  obtain ⟨V3, hV3⟩ : ∃ V3, V3 = V2.alloc (.cells #[.int .i64 st] 3) := ⟨_, rfl⟩
  have b3 : Below V2.heap.size V2 V3 := by rw [hV3]; exact bel1 _ _
  have H3 := hid (show Below w.heap.size w V3 ∧ V3.heap[w.heap.size]? = some (.cells #[.int .i64 (n : Int), .int .i64 st, .slice a1 m c1, .slice a2 k c2] 25 (0, 0)) ∧ MC (fun _ => True) V3 mb ab sb km ca cs N n ∧ Row V3 (some ⟨V2.heap.size, 0, none⟩) 1 ([st].map iv) ∧ w.heap.size < km from
    ⟨H2.out.1.trans (b3.mono H2.out.1.size), (b3.block _ (heap_lt H2.out.2)).trans H2.out.2, hmc.below b3, ⟨rfl, .inr ⟨V2.heap.size, 0, rfl, by rw [hV3]; simp, fun i x hi => by
      have hi0 : i = 0 := by have := (List.getElem?_eq_some_iff.1 hi).1; simp at this; exact this
      subst hi0
      simp at hi
      subst hi
      have := alloc_new V2 (.cells #[.int .i64 st] 3)
      rw [← hV3] at this
      simp [World.cell?, this, iv]⟩⟩, hwk⟩)
  have CC := hid (closure_any _ V3 mb ab sb km ca cs n N H3.out.2.2.1 _ 1 1 [st] H3.out.2.2.2.1 (by omega) (HA.out.2.below H3.out.1) (by omega))
  clear b1 b3 hmc hkm d0 d1 d2 d3
  obtain ⟨d0, d1, d2, d3⟩ := cells4 H2.out.2
  go_wp2_with fail
  rw [← hV3]
  clear hV3
  refine CC.out.mono ?_
  rintro r V4 ⟨rfl, hmb, b4⟩
  have hst : clo (Ep N) (ini n [st]) = after N n [] := by rw [HN.out]; rfl
  rw [hst] at hmb
  have H4 := hid (show Below w.heap.size w V4 ∧ V4.heap[w.heap.size]? = some (.cells #[.int .i64 (n : Int), .int .i64 st, .slice a1 m c1, .slice a2 k c2] 25 (0, 0)) ∧ MC (fun _ => True) V4 mb ab sb km ca cs N n ∧ MB V4 V3.heap.size (after N n []) (mw n) ∧ V3.heap.size ≠ km from
    ⟨H3.out.1.trans (b4.mono H3.out.1.size), (b4.block _ (heap_lt H3.out.2.1)).trans H3.out.2.1, H3.out.2.2.1.below b4, hmb, by have := H3.out.2.2.1.gk; omega⟩)
  clear b4 hmb hst CC d0 d1 d2 d3 CM CV hwk
  go_wp2_with fail
  go_loopg [6, 20] s.size (fun kk s6 s20 wr => ∃ i blk : Nat, s20 = .int .i64 (i : Int) ∧ i + kk = s.size ∧ s6 = .slice (some ⟨blk, 0, none⟩) (mw n) (mw n) ∧ MB wr blk (after N n (s.data.toList.take i)) (mw n) ∧ blk ≠ km ∧ MC (fun _ => True) wr mb ab sb km ca cs N n ∧ Below w.heap.size w wr ∧ wr.heap[w.heap.size]? = some (.cells #[.int .i64 (n : Int), .int .i64 st, .slice a1 m c1, .slice a2 k c2] 25 (0, 0)))
  case atStart => exact ⟨0, _, rfl, by omega, rfl, H4.out.2.2.2.1, H4.out.2.2.2.2, H4.out.2.2.1, H4.out.1, H4.out.2.1⟩
  case round =>
    obtain ⟨i, blk, rfl, hik, rfl, hmb, hbk, hmc, hbw, hbx⟩ := hrel
    by_cases hlt : i < s.size
    · have hlt' : (i : Int) < (s.size : Int) := by omega
      have hi0 : (0 : Int) ≤ (i : Int) := by omega
      have hkm := H3.out.2.2.2.2
      have CS := hid (step_any _ wr mb ab sb km ca cs n N hmc blk _ s[i].toNat s[i].toNat_lt hmb (fun x hx => after_lt (by have := HV.out; rw [← HN.out] at this; exact this) hx) (HA.out.2.below hbw) (by omega))
      have HX := hid (And.intro hbw hbx)
      have e9 : s.data.toList[i]? = some s[i] := by rw [List.getElem?_eq_getElem (show i < s.data.toList.length from hlt)]; rfl
      have HE := hid e9
      clear hmb hbk hmc hbw hbx e9
      go_wp2_with fail
      refine CS.out.mono ?_
      rintro e V5 ⟨b2, rfl, hle, hmb, hbk, hmc, hkp⟩
      rw [show UInt8.ofNat s[i].toNat = s[i] from UInt8.ofNat_toNat] at hmb
      have H5 := hid (show MB V5 b2 (after N n (s.data.toList.take (i + 1))) (mw n) ∧ b2 ≠ km ∧ MC (fun _ => True) V5 mb ab sb km ca cs N n ∧ Below w.heap.size w V5 ∧ V5.heap[w.heap.size]? = some (.cells #[.int .i64 (n : Int), .int .i64 st, .slice a1 m c1, .slice a2 k c2] 25 (0, 0)) from
        ⟨by rw [List.take_add_one, HE.out]; show MB V5 b2 (after N n (s.data.toList.take i ++ [s[i]])) _; rw [after_snoc]; exact hmb, hbk, hmc.more fun _ _ _ => trivial, HX.out.1.trans (Kept.toBelow hkp fun b hb => by have := HX.out.1.size; rcases hb with h | h <;> omega), (hkp.block _ (by have := heap_lt HX.out.2; rintro (h | h) <;> omega)).trans HX.out.2⟩)
      clear hle hmb hbk hmc hkp CS
      go_wp2
      go_roundg (gk - 1)
      case measure => omega
      case rel => exact ⟨i + 1, b2, by go_num, by omega, rfl, H5.out.1, H5.out.2.1, H5.out.2.2.1, H5.out.2.2.2.1, H5.out.2.2.2.2⟩
    · have hlt' : ¬ (i : Int) < (s.size : Int) := by omega
      rw [List.take_of_length_le (show s.data.toList.length ≤ i from by have : s.data.toList.length = s.size := rfl; omega)] at hmb
      have HX := hid (And.intro hmb (And.intro hbw hbx))
      clear hmb hbk hmc hbw hbx
      obtain ⟨V, hV⟩ : ∃ V, V = wr := ⟨_, rfl⟩
      rw [← hV] at HX
      go_wp2_with fail
      rw [← hV]
      clear hV
      refine region_inv (fun b a' w' => ∃ (v4 v30 v31 v32 v33 : Value), a' = { tmps := #[.agg #[.int .i64 (n : Int), .int .i64 st, .slice a1 m c1, .slice a2 k c2], .string s, .pointer (some ⟨w.heap.size, 0, none⟩), undef, v4, .pointer (some ⟨mb, 0, none⟩), .slice (some ⟨blk, 0, none⟩) (mw n) (mw n), u7, .agg #[.int .i64 (n : Int), .int .i64 st, .slice a1 m c1, .slice a2 k c2], .bool true, .bool false, .agg #[.int .i64 (n : Int), .int .i64 st, .slice a1 m c1, .slice a2 k c2], .pointer (some ⟨mb, 0, none⟩), .pointer (some ⟨mb, 0, none⟩), .pointer (some ⟨w.heap.size, 1, none⟩), .int .i64 st, .slice (some ⟨V2.heap.size, 0, none⟩) 1 1, .slice (some ⟨V3.heap.size, 0, none⟩) (mw n) (mw n), .string s, .int .i64 (s.size : Int), .int .i64 (i : Int), .bool false, u22, u23, u24, u25, u26, u27, u28, u29, v30, v31, v32, v33], defers := [] } ∧ Below V.heap.size V w' ∧ (b 0 = true → v30 = .agg #[.int .i64 (n : Int), .int .i64 st, .slice a1 m c1, .slice a2 k c2]) ∧ (b 1 = true → v31 = .slice (some ⟨blk, 0, none⟩) (mw n) (mw n)) ∧ (b 2 = true → ∃ (a : Option Addr) (c : Nat), v32 = .slice a (elx n (after N n s.data.toList)).length c ∧ Row w' a (elx n (after N n s.data.toList)).length (ints (elx n (after N n s.data.toList)))) ∧ (b 3 = true → v33 = .int .i64 (least acc (elx n (after N n s.data.toList)))) ∧ (b 4 = true → v4 = .int .i64 (least acc (elx n (after N n s.data.toList))))) (by kernel_rfl) (back_of (by kernel_rfl)) ?step ?done ?init
      case step =>
        rintro b a' w' i o ho ⟨v4, v30, v31, v32, v33, rfl, hb, h0, h1, h2, h3, h4⟩ hbi hd K hK
        have hlt : i < 5 := by have := (Array.getElem?_eq_some_iff.1 ho).1; simpa using this
        have dep : ∀ k, (o.after.any fun e => Region.binds .any e && e.on == k) = true → b k = true := fun k hk => by
          obtain ⟨e, he, h⟩ := Array.any_eq_true'.1 hk
          simp only [Bool.and_eq_true, beq_iff_eq] at h
          rw [← h.2]; exact hd e he h.1
        clear hd
        have hi : i = 0 ∨ i = 1 ∨ i = 2 ∨ i = 3 ∨ i = 4 := by omega
        clear hlt
        rcases hi with rfl | rfl | rfl | rfl | rfl
        · simp only [List.getElem?_toArray, List.getElem?_cons_zero, List.getElem?_cons_succ, Option.some.injEq] at ho
          subst ho
          obtain ⟨d0, d1, d2, d3⟩ := cells4 ((hb.block _ (heap_lt HX.out.2.2)).trans HX.out.2.2)
          go_simp
          refine hK.out _ _ ⟨_, _, _, _, _, rfl, hb, fun _ => rfl, fun h => h1 (by simpa using h), fun h => h2 (by simpa using h), fun h => h3 (by simpa using h), fun h => h4 (by simpa using h)⟩
        · simp only [List.getElem?_toArray, List.getElem?_cons_zero, List.getElem?_cons_succ, Option.some.injEq] at ho
          subst ho
          go_simp
          refine hK.out _ _ ⟨_, _, _, _, _, rfl, hb, fun h => h0 (by simpa using h), fun _ => rfl, fun h => h2 (by simpa using h), fun h => h3 (by simpa using h), fun h => h4 (by simpa using h)⟩
        · simp only [List.getElem?_toArray, List.getElem?_cons_zero, List.getElem?_cons_succ, Option.some.injEq] at ho
          subst ho
          obtain rfl := h1 (dep 1 (by kernel_rfl))
          have CL := hid (list_any w' blk (mw n) _ (HX.out.1.below hb) (mw_le hn) (HA.out.2.below (HX.out.2.1.trans (hb.mono HX.out.2.1.size))))
          have hel : elx (64 * mw n) (after N n s.data.toList) = elx n (after N n s.data.toList) := elx_more (by unfold mw; omega) fun x hx => after_lt (by have := HV.out; rw [← HN.out] at this; exact this) hx
          go_simp
          refine CL.out.mono ?_
          rintro e W5 ⟨⟨v, rfl, hown⟩, b5⟩
          rw [hel] at hown
          obtain ⟨a9, c9, rfl⟩ := own_form hown
          refine hK.out _ _ ⟨_, _, _, _, _, rfl, hb.trans (b5.mono hb.size), fun h => h0 (by simpa using h), fun _ => rfl, fun _ => ⟨a9, c9, rfl, own_row' hown⟩, fun h => h3 (by simpa using h), fun h => h4 (by simpa using h)⟩
        · simp only [List.getElem?_toArray, List.getElem?_cons_zero, List.getElem?_cons_succ, Option.some.injEq] at ho
          subst ho
          obtain rfl := h0 (dep 0 (by kernel_rfl))
          obtain ⟨a9, c9, rfl, hrow⟩ := h2 (dep 2 (by kernel_rfl))
          have CA := hid (leastA_any w' n st acc a1 a2 m c1 k c2 (HA.out.1.acc.below (HX.out.2.1.trans (hb.mono HX.out.2.1.size))) HA.out.1.hk a9 _ c9 (elx n (after N n s.data.toList)) hrow (Nat.le_trans (elx_length _ _) (by have := hn; omega)) fun x hx => by rw [HKN.out]; exact (mem_elx.1 hx).1)
          go_simp
          refine CA.out.mono ?_
          rintro e W5 ⟨rfl, b5⟩
          refine hK.out _ _ ⟨_, _, _, _, _, rfl, hb.trans (b5.mono hb.size), fun _ => rfl, fun h => h1 (by simpa using h), fun _ => ⟨a9, c9, rfl, hrow.below b5⟩, fun _ => rfl, fun h => h4 (by simpa using h)⟩
        · simp only [List.getElem?_toArray, List.getElem?_cons_zero, List.getElem?_cons_succ, Option.some.injEq] at ho
          subst ho
          obtain rfl := h3 (dep 3 (by kernel_rfl))
          go_simp
          refine hK.out _ _ ⟨_, _, _, _, _, rfl, hb, fun h => h0 (by simpa using h), fun h => h1 (by simpa using h), fun h => h2 (by simpa using h), fun _ => rfl, fun _ => rfl⟩
      case done =>
        rintro b a' w' ⟨v4, v30, v31, v32, v33, rfl, hb, h0, h1, h2, h3, h4⟩ hall
        obtain rfl := h4 (hall 4)
        obtain rfl := h0 (hall 0)
        obtain rfl := h1 (hall 1)
        obtain rfl := h3 (hall 3)
        obtain ⟨a9, c9, rfl, -⟩ := h2 (hall 2)
        have HB9 := hid (HX.out.2.1.trans (hb.mono HX.out.2.1.size))
        clear h0 h1 h2 h3 h4 hb
        dsimp only
        go_wp2
        go_ret
        exact ⟨by rw [HN.out]; rfl, HB9.out⟩
      case init =>
        exact ⟨_, _, _, _, _, rfl, (Below.refl _ _).drew, fun h => absurd h (by simp), fun h => absurd h (by simp), fun h => absurd h (by simp), fun h => absurd h (by simp), fun h => absurd h (by simp)⟩
end Go.Proofs.YtogpnlkjcdedlaaDoor
end
