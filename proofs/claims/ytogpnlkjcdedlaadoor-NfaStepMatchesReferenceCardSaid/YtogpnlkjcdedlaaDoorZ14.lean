/-
  Contract: automaton.
-/
import Derived.Test.YtogpnlkjcdedlaaDoorZ12
import Derived.Test.YtogpnlkjcdedlaaDoorZ13
section
set_option linter.unusedSimpArgs false
set_option linter.unusedVariables false
namespace Go.Proofs.YtogpnlkjcdedlaaDoor
open Go.RowKit Bs Rg Nf Go.Frame
attribute [local go_sem] eq_zero eq_set

theorem flat_get {α : Type} (f : α → List Value) (k : Nat) (hf : ∀ x, (f x).length = k) : ∀ (l : List α) (i t : Nat) (x : α), l[i]? = some x → t < k → (l.flatMap f)[i * k + t]? = (f x)[t]?
  | [], i, t, x, h, _ => by simp at h
  | y :: l, 0, t, x, h, ht => by
    simp at h; subst h
    rw [List.flatMap_cons, Nat.zero_mul, Nat.zero_add, List.getElem?_append_left (by rw [hf]; exact ht)]
  | y :: l, i + 1, t, x, h, ht => by
    rw [List.flatMap_cons, List.getElem?_append_right (by rw [hf, Nat.succ_mul]; omega), hf, show (i + 1) * k + t - k = i * k + t by rw [Nat.succ_mul]; omega]
    exact flat_get f k hf l i t x (by simpa using h) ht
theorem own_cellN {W : World} {base e s n c i : Nat} {a : Option Addr} {xs : List Value} {x : Value} (h : W.ownsRow base e s (.slice a n c) n xs) (hx : xs[i]? = some x) : ∃ g, a = some ⟨g, 0, none⟩ ∧ g < W.heap.size ∧ W.cell? ⟨g, i, none⟩ = some x := by
  have hi := (List.getElem?_eq_some_iff.1 hx).1
  rcases h.2 with ⟨e, h0⟩ | ⟨g, cap, cur, e, hb, hgg, hn2, _, hc2, ht⟩
  · have := h.1; rw [h0, Nat.zero_mul] at this; omega
  · simp only [Value.slice.injEq] at e
    obtain ⟨rfl, _, _⟩ := e
    refine ⟨g, rfl, heap_lt hgg, ?_⟩
    have h2 := hx
    rw [← ht, List.getElem?_take] at h2
    split at h2
    · simp only [World.cell?, hgg]; simpa using h2
    · cases h2
theorem own_crow {W : World} {base e n c : Nat} {a : Option Addr} {l : List Arc} (h : W.ownsRow base e 7 (.slice a n c) n (l.flatMap acs)) (hn : l.length = n) : CRow 7 W a n (l.map acs) := by
  refine ⟨by simpa using hn, ?_⟩
  rcases h.2 with ⟨e, h0⟩ | ⟨g, cap, cur, e, hb, hgg, hn2, _, hc2, ht⟩
  · exact .inl h0
  · simp only [Value.slice.injEq] at e
    obtain ⟨rfl, _, _⟩ := e
    refine .inr ⟨g, 0, rfl, heap_lt hgg, fun i cs hi j v hj => ?_⟩
    rw [List.getElem?_map] at hi
    cases hl : l[i]? with
    | none => rw [hl] at hi; cases hi
    | some x =>
      rw [hl] at hi
      simp at hi
      subst hi
      have hj7 : j < 7 := by have := (List.getElem?_eq_some_iff.1 hj).1; simpa [acs] using this
      have h2 := flat_get acs 7 (fun x => rfl) l i j x hl hj7
      rw [hj] at h2
      obtain ⟨g', e', _, h3⟩ := own_cellN h h2
      simp only [Option.some.injEq, Addr.mk.injEq] at e'
      rw [← e'.1] at h3
      rw [Nat.zero_add]; exact h3
/-- The arc of a pair. -/
def arcI (S : List BS) (i j : Nat) : Arc := ⟨(i : Int), (j : Int), false, S.getD j none8⟩
def arcsTo (S : List BS) (M : Nat → Nat → Bool) (n i : Nat) : List Arc := (List.range i).flatMap fun i => (elx n (M i)).map (arcI S i)
theorem arcsTo_succ (S : List BS) (M : Nat → Nat → Bool) (n i : Nat) : arcsTo S M n (i + 1) = arcsTo S M n i ++ (elx n (M i)).map (arcI S i) := by
  unfold arcsTo; rw [List.range_succ, List.flatMap_append]; simp
theorem arcsTo_more {S : List BS} {M : Nat → Nat → Bool} {n m : Nat} (h : n ≤ m) (hM : ∀ i j, i < n → M i j = true → j < n) : arcsTo S M m n = arcsTo S M n n := by
  unfold arcsTo
  have hc : ∀ l : List Nat, (∀ i ∈ l, (elx m (M i)).map (arcI S i) = (elx n (M i)).map (arcI S i)) → l.flatMap (fun i => (elx m (M i)).map (arcI S i)) = l.flatMap fun i => (elx n (M i)).map (arcI S i) := by
    intro l
    induction l with
    | nil => intro _; rfl
    | cons y l ih => intro hl; rw [List.flatMap_cons, List.flatMap_cons, hl y (by simp), ih fun i hi => hl i (by simp [hi])]
  exact hc _ fun i hi => by rw [elx_more h fun x hx => hM i x (List.mem_range.1 hi) hx]
theorem info55b : (Tryd.prog.info? 55).map (fun i => (i.zero, i.size, i.bytes)) = some (some (.agg #[.int .i64 0, .int .i64 0, .bool false, .int .u64 0, .int .u64 0, .int .u64 0, .int .u64 0]), 7, 56) := by kernel_rfl
/-- The automaton under way in its box. -/
structure AI (W wr : World) (P base N : Nat) (ca : Option Addr) (cc : Nat) (l : List Arc) (ax : Option Addr) (cx : Nat) : Prop where
  box : wr.heap[P]? = some (.cells #[.int .i64 (N : Int), .int .i64 0, .slice ax l.length cx, .slice ca N cc] 25 (0, 0))
  own : wr.ownsRow base 55 7 (.slice ax l.length cx) l.length (l.flatMap acs)
  res : wr.heap[W.heap.size]? = some (.cells #[.int .i64 0, .int .i64 0, .slice none 0 0, .slice none 0 0] 25 (0, 0))
  bel : Below W.heap.size W wr
  hb : base ≤ wr.heap.size
  hP : W.heap.size < P ∧ P < base
theorem AI.below {W wr w' : World} {P base N : Nat} {ca : Option Addr} {cc : Nat} {l : List Arc} {ax : Option Addr} {cx : Nat} (h : AI W wr P base N ca cc l ax cx) (hb : Below wr.heap.size wr w') : AI W w' P base N ca cc l ax cx :=
  ⟨(hb.block _ (heap_lt h.box)).trans h.box, ownsRow_keep h.own fun k hk => hb.block k (h.own.lt k hk).2, (hb.block _ (heap_lt h.res)).trans h.res, h.bel.trans (hb.mono h.bel.size), Nat.le_trans h.hb hb.size, h.hP⟩
set_option maxRecDepth 100000 in
set_option maxHeartbeats 4000000 in
theorem automaton_any (base bb most : Nat) (S : List BS) (M : Nat → Nat → Bool) (A : List Int) (G : Nat → Prop) (W : World) (h : BX G W base bb most S M A) (hSm : S.length ≤ most) (hM : ∀ i j, i < S.length → M i j = true → j < S.length) :
    Calls Tryd.prog 49 #[.pointer (some ⟨bb, 0, none⟩)] W fun e w' => (∃ a1 m c1 a2 c2, e = .returned (.agg #[.int .i64 (S.length : Int), .int .i64 0, .slice a1 m c1, .slice a2 S.length c2]) ∧ NA w' ⟨(S.length : Int), 0, arcsTo S M S.length S.length, A⟩ a1 m a2 S.length ∧ (∀ x, a1 = some x → base ≤ x.block) ∧ (∀ x, a2 = some x → base ≤ x.block) ∧ m ≤ c1 ∧ c1 ≤ maxLen ∧ (a1 = none → c1 = 0)) ∧ Below W.heap.size W w' := by
  obtain ⟨sv, av, cv, rb, h⟩ := h
  obtain ⟨i5, hi5, hz5, hz51, hz52⟩ := info_parts info55b
  obtain ⟨N, hN⟩ : ∃ N, N = S.length := ⟨_, rfl⟩
  obtain ⟨W0, hW0⟩ : ∃ W0, W0 = W.alloc (.cells #[.int .i64 0, .int .i64 0, .slice none 0 0, .slice none 0 0] 25) := ⟨_, rfl⟩
  have BW0 := hid (show Below W.heap.size W W0 ∧ W0.heap.size = W.heap.size + 1 from by rw [hW0]; exact ⟨bel1 _ _, by simp⟩)
  have HZ0 := hid (show W0.heap[W.heap.size]? = some (.cells #[.int .i64 0, .int .i64 0, .slice none 0 0, .slice none 0 0] 25 (0, 0)) from by rw [hW0]; exact alloc_new _ _)
  have HGB := hid (h.lt bb h.gb).2
  have hNl : N ≤ 1000 := by rw [hN]; exact h.len
  have hml := h.most_le
  obtain ⟨sa, sc, rfl⟩ := own_form h.sets
  obtain ⟨aa, ac, rfl⟩ := own_form h.arcs
  obtain ⟨ca, cc, rfl⟩ := own_form h.acc
  have HDW := hid h
  have HB0 := hid (show W0.heap[bb]? = some (.cells #[.int .i64 (most : Int), .slice sa N sc, .slice aa N ac, .slice ca N cc] 77 (0, 0)) from by have h9 := (HDW.out.below BW0.out.1).box; rw [← hN] at h9; exact h9)
  have HBW := hid (show W.heap[bb]? = some (.cells #[.int .i64 (most : Int), .slice sa N sc, .slice aa N ac, .slice ca N cc] 77 (0, 0)) from by have h9 := HDW.out.box; rw [← hN] at h9; exact h9)
  have HN := hid hN
  have HM := hid (And.intro hSm hM)
  rw [← hN]
  clear h hN hSm hM
  go_enter Tryd.func49, Tryd.ntmps49
  go_upto_region 1 with fail
  rw [← hW0]
  clear hW0
  refine region_inv (fun b a' w' => ∃ (v8 v9 v10 v11 v12 v13 v14 v15 v16 v17 v3 : Value), a' = { tmps := #[.pointer (some ⟨bb, 0, none⟩), undef, .pointer (some ⟨W.heap.size, 0, none⟩), v3, undef, undef, undef, undef, v8, v9, v10, v11, v12, v13, v14, v15, v16, v17, undef, undef, undef, undef, undef, undef, undef, undef, undef, undef, undef, undef, undef, undef, undef, undef, undef, undef, undef, undef, undef, undef, undef, undef, undef, undef, undef, undef, undef, undef, undef, undef, undef, undef, undef, undef], defers := [] } ∧ Below W0.heap.size W0 w' ∧ (b 0 = true → v8 = .pointer (some ⟨bb, 0, none⟩)) ∧ (b 1 = true → v9 = .pointer (some ⟨bb, 0, none⟩)) ∧ (b 2 = true → v10 = .pointer (some ⟨bb, 1, none⟩)) ∧ (b 3 = true → v11 = .slice sa N sc) ∧ (b 4 = true → v12 = .int .i64 (N : Int)) ∧ (b 5 = true → v13 = .pointer (some ⟨bb, 0, none⟩)) ∧ (b 6 = true → v14 = .pointer (some ⟨bb, 0, none⟩)) ∧ (b 7 = true → v15 = .pointer (some ⟨bb, 3, none⟩)) ∧ (b 8 = true → v16 = .slice ca N cc) ∧ (b 9 = true → v17 = .agg #[.int .i64 (N : Int), .int .i64 0, .slice none 0 0, .slice ca N cc]) ∧ (b 10 = true → v3 = .pointer (some ⟨W0.heap.size, 0, none⟩)) ∧ (b 10 = false → w'.heap.size = W0.heap.size) ∧ (b 10 = true ∧ b 11 = false → w'.heap[W0.heap.size]? = some (.cells #[.int .i64 0, .int .i64 0, .slice none 0 0, .slice none 0 0] 25 (0, 0))) ∧ (b 11 = true → w'.heap[W0.heap.size]? = some (.cells #[.int .i64 (N : Int), .int .i64 0, .slice none 0 0, .slice ca N cc] 25 (0, 0))) ∧ (b 1 = true → b 0 = true) ∧ (b 2 = true → b 1 = true) ∧ (b 3 = true → b 2 = true) ∧ (b 4 = true → b 3 = true) ∧ (b 6 = true → b 5 = true) ∧ (b 7 = true → b 6 = true) ∧ (b 8 = true → b 7 = true) ∧ (b 9 = true → b 4 = true) ∧ (b 9 = true → b 8 = true) ∧ (b 11 = true → b 10 = true) ∧ (b 11 = true → b 9 = true)) (by kernel_rfl) (back_of (by kernel_rfl)) ?step ?done ?init
  case step =>
    rintro b a' w' i o ho ⟨v8, v9, v10, v11, v12, v13, v14, v15, v16, v17, v3, rfl, hk, h0, h1, h2, h3, h4, h5, h6, h7, h8, h9, h10, ha, hb0, hc, q1_0, q2_1, q3_2, q4_3, q6_5, q7_6, q8_7, q9_4, q9_8, q11_10, q11_9⟩ hbi hd K hK
    have hlt : i < 12 := by have := (Array.getElem?_eq_some_iff.1 ho).1; simpa using this
    have dep : ∀ k, (o.after.any fun e => Region.binds .any e && e.on == k) = true → b k = true := fun k hk => by
      obtain ⟨e, he, h⟩ := Array.any_eq_true'.1 hk
      simp only [Bool.and_eq_true, beq_iff_eq] at h
      rw [← h.2]; exact hd e he h.1
    clear hd
    have hi : i = 0 ∨ i = 1 ∨ i = 2 ∨ i = 3 ∨ i = 4 ∨ i = 5 ∨ i = 6 ∨ i = 7 ∨ i = 8 ∨ i = 9 ∨ i = 10 ∨ i = 11 := by omega
    clear hlt
    rcases hi with rfl | rfl | rfl | rfl | rfl | rfl | rfl | rfl | rfl | rfl | rfl | rfl
    · simp only [List.getElem?_toArray, List.getElem?_cons_zero, List.getElem?_cons_succ, Option.some.injEq] at ho
      subst ho
      go_simp
      refine hK.out _ _ ⟨_, _, _, _, _, _, _, _, _, _, _, rfl, hk, fun _ => rfl, fun h => h1 (by simpa using h), fun h => h2 (by simpa using h), fun h => h3 (by simpa using h), fun h => h4 (by simpa using h), fun h => h5 (by simpa using h), fun h => h6 (by simpa using h), fun h => h7 (by simpa using h), fun h => h8 (by simpa using h), fun h => h9 (by simpa using h), fun h => h10 (by simpa using h), fun h => ha (by simpa using h), fun h => hb0 (by simpa using h), fun h => hc (by simpa using h), fun h => by simp [q1_0 (by simpa using h)], fun h => by simp [q2_1 (by simpa using h)], fun h => by simp [q3_2 (by simpa using h)], fun h => by simp [q4_3 (by simpa using h)], fun h => by simp [q6_5 (by simpa using h)], fun h => by simp [q7_6 (by simpa using h)], fun h => by simp [q8_7 (by simpa using h)], fun h => by simp [q9_4 (by simpa using h)], fun h => by simp [q9_8 (by simpa using h)], fun h => by simp [q11_10 (by simpa using h)], fun h => by simp [q11_9 (by simpa using h)]⟩
    · simp only [List.getElem?_toArray, List.getElem?_cons_zero, List.getElem?_cons_succ, Option.some.injEq] at ho
      subst ho
      have e_0 := dep 0 (by kernel_rfl)
      obtain rfl := h0 e_0
      go_simp
      refine hK.out _ _ ⟨_, _, _, _, _, _, _, _, _, _, _, rfl, hk, fun _ => rfl, fun _ => rfl, fun h => h2 (by simpa using h), fun h => h3 (by simpa using h), fun h => h4 (by simpa using h), fun h => h5 (by simpa using h), fun h => h6 (by simpa using h), fun h => h7 (by simpa using h), fun h => h8 (by simpa using h), fun h => h9 (by simpa using h), fun h => h10 (by simpa using h), fun h => ha (by simpa using h), fun h => hb0 (by simpa using h), fun h => hc (by simpa using h), fun _ => by simp [e_0], fun h => by simp [q2_1 (by simpa using h)], fun h => by simp [q3_2 (by simpa using h)], fun h => by simp [q4_3 (by simpa using h)], fun h => by simp [q6_5 (by simpa using h)], fun h => by simp [q7_6 (by simpa using h)], fun h => by simp [q8_7 (by simpa using h)], fun h => by simp [q9_4 (by simpa using h)], fun h => by simp [q9_8 (by simpa using h)], fun h => by simp [q11_10 (by simpa using h)], fun h => by simp [q11_9 (by simpa using h)]⟩
    · simp only [List.getElem?_toArray, List.getElem?_cons_zero, List.getElem?_cons_succ, Option.some.injEq] at ho
      subst ho
      have e_1 := dep 1 (by kernel_rfl)
      have e_0 := q1_0 e_1
      obtain rfl := h0 e_0
      obtain rfl := h1 e_1
      go_simp
      refine hK.out _ _ ⟨_, _, _, _, _, _, _, _, _, _, _, rfl, hk, fun _ => rfl, fun _ => rfl, fun _ => rfl, fun h => h3 (by simpa using h), fun h => h4 (by simpa using h), fun h => h5 (by simpa using h), fun h => h6 (by simpa using h), fun h => h7 (by simpa using h), fun h => h8 (by simpa using h), fun h => h9 (by simpa using h), fun h => h10 (by simpa using h), fun h => ha (by simpa using h), fun h => hb0 (by simpa using h), fun h => hc (by simpa using h), fun h => by simp [q1_0 (by simpa using h)], fun _ => by simp [e_1], fun h => by simp [q3_2 (by simpa using h)], fun h => by simp [q4_3 (by simpa using h)], fun h => by simp [q6_5 (by simpa using h)], fun h => by simp [q7_6 (by simpa using h)], fun h => by simp [q8_7 (by simpa using h)], fun h => by simp [q9_4 (by simpa using h)], fun h => by simp [q9_8 (by simpa using h)], fun h => by simp [q11_10 (by simpa using h)], fun h => by simp [q11_9 (by simpa using h)]⟩
    · simp only [List.getElem?_toArray, List.getElem?_cons_zero, List.getElem?_cons_succ, Option.some.injEq] at ho
      subst ho
      have e_2 := dep 2 (by kernel_rfl)
      have e_1 := q2_1 e_2
      have e_0 := q1_0 e_1
      obtain rfl := h0 e_0
      obtain rfl := h1 e_1
      obtain rfl := h2 e_2
      obtain ⟨d0, d1, d2, d3⟩ := cells4 ((hk.block bb (heap_lt HB0.out)).trans HB0.out)
      go_simp
      refine hK.out _ _ ⟨_, _, _, _, _, _, _, _, _, _, _, rfl, hk, fun _ => rfl, fun _ => rfl, fun _ => rfl, fun _ => rfl, fun h => h4 (by simpa using h), fun h => h5 (by simpa using h), fun h => h6 (by simpa using h), fun h => h7 (by simpa using h), fun h => h8 (by simpa using h), fun h => h9 (by simpa using h), fun h => h10 (by simpa using h), fun h => ha (by simpa using h), fun h => hb0 (by simpa using h), fun h => hc (by simpa using h), fun h => by simp [q1_0 (by simpa using h)], fun h => by simp [q2_1 (by simpa using h)], fun _ => by simp [e_2], fun h => by simp [q4_3 (by simpa using h)], fun h => by simp [q6_5 (by simpa using h)], fun h => by simp [q7_6 (by simpa using h)], fun h => by simp [q8_7 (by simpa using h)], fun h => by simp [q9_4 (by simpa using h)], fun h => by simp [q9_8 (by simpa using h)], fun h => by simp [q11_10 (by simpa using h)], fun h => by simp [q11_9 (by simpa using h)]⟩
    · simp only [List.getElem?_toArray, List.getElem?_cons_zero, List.getElem?_cons_succ, Option.some.injEq] at ho
      subst ho
      have e_3 := dep 3 (by kernel_rfl)
      have e_2 := q3_2 e_3
      have e_1 := q2_1 e_2
      have e_0 := q1_0 e_1
      obtain rfl := h0 e_0
      obtain rfl := h1 e_1
      obtain rfl := h2 e_2
      obtain rfl := h3 e_3
      go_simp
      refine hK.out _ _ ⟨_, _, _, _, _, _, _, _, _, _, _, rfl, hk, fun _ => rfl, fun _ => rfl, fun _ => rfl, fun _ => rfl, fun _ => rfl, fun h => h5 (by simpa using h), fun h => h6 (by simpa using h), fun h => h7 (by simpa using h), fun h => h8 (by simpa using h), fun h => h9 (by simpa using h), fun h => h10 (by simpa using h), fun h => ha (by simpa using h), fun h => hb0 (by simpa using h), fun h => hc (by simpa using h), fun h => by simp [q1_0 (by simpa using h)], fun h => by simp [q2_1 (by simpa using h)], fun h => by simp [q3_2 (by simpa using h)], fun _ => by simp [e_3], fun h => by simp [q6_5 (by simpa using h)], fun h => by simp [q7_6 (by simpa using h)], fun h => by simp [q8_7 (by simpa using h)], fun h => by simp [q9_4 (by simpa using h)], fun h => by simp [q9_8 (by simpa using h)], fun h => by simp [q11_10 (by simpa using h)], fun h => by simp [q11_9 (by simpa using h)]⟩
    · simp only [List.getElem?_toArray, List.getElem?_cons_zero, List.getElem?_cons_succ, Option.some.injEq] at ho
      subst ho
      go_simp
      refine hK.out _ _ ⟨_, _, _, _, _, _, _, _, _, _, _, rfl, hk, fun h => h0 (by simpa using h), fun h => h1 (by simpa using h), fun h => h2 (by simpa using h), fun h => h3 (by simpa using h), fun h => h4 (by simpa using h), fun _ => rfl, fun h => h6 (by simpa using h), fun h => h7 (by simpa using h), fun h => h8 (by simpa using h), fun h => h9 (by simpa using h), fun h => h10 (by simpa using h), fun h => ha (by simpa using h), fun h => hb0 (by simpa using h), fun h => hc (by simpa using h), fun h => by simp [q1_0 (by simpa using h)], fun h => by simp [q2_1 (by simpa using h)], fun h => by simp [q3_2 (by simpa using h)], fun h => by simp [q4_3 (by simpa using h)], fun h => by simp [q6_5 (by simpa using h)], fun h => by simp [q7_6 (by simpa using h)], fun h => by simp [q8_7 (by simpa using h)], fun h => by simp [q9_4 (by simpa using h)], fun h => by simp [q9_8 (by simpa using h)], fun h => by simp [q11_10 (by simpa using h)], fun h => by simp [q11_9 (by simpa using h)]⟩
    · simp only [List.getElem?_toArray, List.getElem?_cons_zero, List.getElem?_cons_succ, Option.some.injEq] at ho
      subst ho
      have e_5 := dep 5 (by kernel_rfl)
      obtain rfl := h5 e_5
      go_simp
      refine hK.out _ _ ⟨_, _, _, _, _, _, _, _, _, _, _, rfl, hk, fun h => h0 (by simpa using h), fun h => h1 (by simpa using h), fun h => h2 (by simpa using h), fun h => h3 (by simpa using h), fun h => h4 (by simpa using h), fun _ => rfl, fun _ => rfl, fun h => h7 (by simpa using h), fun h => h8 (by simpa using h), fun h => h9 (by simpa using h), fun h => h10 (by simpa using h), fun h => ha (by simpa using h), fun h => hb0 (by simpa using h), fun h => hc (by simpa using h), fun h => by simp [q1_0 (by simpa using h)], fun h => by simp [q2_1 (by simpa using h)], fun h => by simp [q3_2 (by simpa using h)], fun h => by simp [q4_3 (by simpa using h)], fun _ => by simp [e_5], fun h => by simp [q7_6 (by simpa using h)], fun h => by simp [q8_7 (by simpa using h)], fun h => by simp [q9_4 (by simpa using h)], fun h => by simp [q9_8 (by simpa using h)], fun h => by simp [q11_10 (by simpa using h)], fun h => by simp [q11_9 (by simpa using h)]⟩
    · simp only [List.getElem?_toArray, List.getElem?_cons_zero, List.getElem?_cons_succ, Option.some.injEq] at ho
      subst ho
      have e_6 := dep 6 (by kernel_rfl)
      have e_5 := q6_5 e_6
      obtain rfl := h5 e_5
      obtain rfl := h6 e_6
      go_simp
      refine hK.out _ _ ⟨_, _, _, _, _, _, _, _, _, _, _, rfl, hk, fun h => h0 (by simpa using h), fun h => h1 (by simpa using h), fun h => h2 (by simpa using h), fun h => h3 (by simpa using h), fun h => h4 (by simpa using h), fun _ => rfl, fun _ => rfl, fun _ => rfl, fun h => h8 (by simpa using h), fun h => h9 (by simpa using h), fun h => h10 (by simpa using h), fun h => ha (by simpa using h), fun h => hb0 (by simpa using h), fun h => hc (by simpa using h), fun h => by simp [q1_0 (by simpa using h)], fun h => by simp [q2_1 (by simpa using h)], fun h => by simp [q3_2 (by simpa using h)], fun h => by simp [q4_3 (by simpa using h)], fun h => by simp [q6_5 (by simpa using h)], fun _ => by simp [e_6], fun h => by simp [q8_7 (by simpa using h)], fun h => by simp [q9_4 (by simpa using h)], fun h => by simp [q9_8 (by simpa using h)], fun h => by simp [q11_10 (by simpa using h)], fun h => by simp [q11_9 (by simpa using h)]⟩
    · simp only [List.getElem?_toArray, List.getElem?_cons_zero, List.getElem?_cons_succ, Option.some.injEq] at ho
      subst ho
      have e_7 := dep 7 (by kernel_rfl)
      have e_6 := q7_6 e_7
      have e_5 := q6_5 e_6
      obtain rfl := h5 e_5
      obtain rfl := h6 e_6
      obtain rfl := h7 e_7
      obtain ⟨d0, d1, d2, d3⟩ := cells4 ((hk.block bb (heap_lt HB0.out)).trans HB0.out)
      go_simp
      refine hK.out _ _ ⟨_, _, _, _, _, _, _, _, _, _, _, rfl, hk, fun h => h0 (by simpa using h), fun h => h1 (by simpa using h), fun h => h2 (by simpa using h), fun h => h3 (by simpa using h), fun h => h4 (by simpa using h), fun _ => rfl, fun _ => rfl, fun _ => rfl, fun _ => rfl, fun h => h9 (by simpa using h), fun h => h10 (by simpa using h), fun h => ha (by simpa using h), fun h => hb0 (by simpa using h), fun h => hc (by simpa using h), fun h => by simp [q1_0 (by simpa using h)], fun h => by simp [q2_1 (by simpa using h)], fun h => by simp [q3_2 (by simpa using h)], fun h => by simp [q4_3 (by simpa using h)], fun h => by simp [q6_5 (by simpa using h)], fun h => by simp [q7_6 (by simpa using h)], fun _ => by simp [e_7], fun h => by simp [q9_4 (by simpa using h)], fun h => by simp [q9_8 (by simpa using h)], fun h => by simp [q11_10 (by simpa using h)], fun h => by simp [q11_9 (by simpa using h)]⟩
    · simp only [List.getElem?_toArray, List.getElem?_cons_zero, List.getElem?_cons_succ, Option.some.injEq] at ho
      subst ho
      have e_4 := dep 4 (by kernel_rfl)
      have e_8 := dep 8 (by kernel_rfl)
      have e_3 := q4_3 e_4
      have e_7 := q8_7 e_8
      have e_2 := q3_2 e_3
      have e_6 := q7_6 e_7
      have e_1 := q2_1 e_2
      have e_5 := q6_5 e_6
      have e_0 := q1_0 e_1
      obtain rfl := h0 e_0
      obtain rfl := h1 e_1
      obtain rfl := h2 e_2
      obtain rfl := h3 e_3
      obtain rfl := h4 e_4
      obtain rfl := h5 e_5
      obtain rfl := h6 e_6
      obtain rfl := h7 e_7
      obtain rfl := h8 e_8
      go_simp
      refine hK.out _ _ ⟨_, _, _, _, _, _, _, _, _, _, _, rfl, hk, fun _ => rfl, fun _ => rfl, fun _ => rfl, fun _ => rfl, fun _ => rfl, fun _ => rfl, fun _ => rfl, fun _ => rfl, fun _ => rfl, fun _ => rfl, fun h => h10 (by simpa using h), fun h => ha (by simpa using h), fun h => hb0 (by simpa using h), fun h => hc (by simpa using h), fun h => by simp [q1_0 (by simpa using h)], fun h => by simp [q2_1 (by simpa using h)], fun h => by simp [q3_2 (by simpa using h)], fun h => by simp [q4_3 (by simpa using h)], fun h => by simp [q6_5 (by simpa using h)], fun h => by simp [q7_6 (by simpa using h)], fun h => by simp [q8_7 (by simpa using h)], fun _ => by simp [e_4], fun _ => by simp [e_8], fun h => by simp [q11_10 (by simpa using h)], fun h => by simp [q11_9 (by simpa using h)]⟩
    · simp only [List.getElem?_toArray, List.getElem?_cons_zero, List.getElem?_cons_succ, Option.some.injEq] at ho
      subst ho
      have n11 : b 11 = false := by
        cases hb : b 11
        · rfl
        · have := q11_10 hb; rw [hbi] at this; cases this
      have hs9 := ha hbi
      go_simp
      refine hK.out _ _ ⟨_, _, _, _, _, _, _, _, _, _, _, rfl, hk.trans ((bel1 w' (.cells #[.int .i64 0, .int .i64 0, .slice none 0 0, .slice none 0 0] 25)).mono hk.size), fun h => h0 (by simpa using h), fun h => h1 (by simpa using h), fun h => h2 (by simpa using h), fun h => h3 (by simpa using h), fun h => h4 (by simpa using h), fun h => h5 (by simpa using h), fun h => h6 (by simpa using h), fun h => h7 (by simpa using h), fun h => h8 (by simpa using h), fun h => h9 (by simpa using h), fun _ => rfl, fun h => absurd h (by simp), fun _ => alloc_at w' (.cells #[.int .i64 0, .int .i64 0, .slice none 0 0, .slice none 0 0] 25) hs9, fun h => absurd h (by simp [n11]), fun h => by simp [q1_0 (by simpa using h)], fun h => by simp [q2_1 (by simpa using h)], fun h => by simp [q3_2 (by simpa using h)], fun h => by simp [q4_3 (by simpa using h)], fun h => by simp [q6_5 (by simpa using h)], fun h => by simp [q7_6 (by simpa using h)], fun h => by simp [q8_7 (by simpa using h)], fun h => by simp [q9_4 (by simpa using h)], fun h => by simp [q9_8 (by simpa using h)], fun h => by simp [q11_10 (by simpa using h)], fun h => by simp [q11_9 (by simpa using h)]⟩
    · simp only [List.getElem?_toArray, List.getElem?_cons_zero, List.getElem?_cons_succ, Option.some.injEq] at ho
      subst ho
      have e_10 := dep 10 (by kernel_rfl)
      have e_9 := dep 9 (by kernel_rfl)
      have e_4 := q9_4 e_9
      have e_8 := q9_8 e_9
      have e_3 := q4_3 e_4
      have e_7 := q8_7 e_8
      have e_2 := q3_2 e_3
      have e_6 := q7_6 e_7
      have e_1 := q2_1 e_2
      have e_5 := q6_5 e_6
      have e_0 := q1_0 e_1
      obtain rfl := h0 e_0
      obtain rfl := h1 e_1
      obtain rfl := h2 e_2
      obtain rfl := h3 e_3
      obtain rfl := h4 e_4
      obtain rfl := h5 e_5
      obtain rfl := h6 e_6
      obtain rfl := h7 e_7
      obtain rfl := h8 e_8
      obtain rfl := h9 e_9
      obtain rfl := h10 e_10
      have hz9 := hb0 ⟨e_10, hbi⟩
      obtain ⟨z0, z1, z2, z3⟩ := cells4 hz9
      obtain ⟨f0, f1, f2, f3⟩ := frozen4 hz9
      go_simp
      refine hK.out _ _ ⟨_, _, _, _, _, _, _, _, _, _, _, rfl, below_put (below_put (below_put (below_put hk (Nat.le_refl _)) (Nat.le_refl _)) (Nat.le_refl _)) (Nat.le_refl _), fun _ => rfl, fun _ => rfl, fun _ => rfl, fun _ => rfl, fun _ => rfl, fun _ => rfl, fun _ => rfl, fun _ => rfl, fun _ => rfl, fun _ => rfl, fun _ => rfl, fun h => absurd h (by simp [e_10]), fun h => absurd h.2 (by simp), fun _ => four_set hz9, fun h => by simp [q1_0 (by simpa using h)], fun h => by simp [q2_1 (by simpa using h)], fun h => by simp [q3_2 (by simpa using h)], fun h => by simp [q4_3 (by simpa using h)], fun h => by simp [q6_5 (by simpa using h)], fun h => by simp [q7_6 (by simpa using h)], fun h => by simp [q8_7 (by simpa using h)], fun h => by simp [q9_4 (by simpa using h)], fun h => by simp [q9_8 (by simpa using h)], fun _ => by simp [e_10], fun _ => by simp [e_9]⟩
  case done =>
    rintro b a' w' ⟨v8, v9, v10, v11, v12, v13, v14, v15, v16, v17, v3, rfl, hk, h0, h1, h2, h3, h4, h5, h6, h7, h8, h9, h10, ha, hb0, hc, q1_0, q2_1, q3_2, q4_3, q6_5, q7_6, q8_7, q9_4, q9_8, q11_10, q11_9⟩ hall
    obtain rfl := h0 (hall 0)
    obtain rfl := h1 (hall 1)
    obtain rfl := h2 (hall 2)
    obtain rfl := h3 (hall 3)
    obtain rfl := h4 (hall 4)
    obtain rfl := h5 (hall 5)
    obtain rfl := h6 (hall 6)
    obtain rfl := h7 (hall 7)
    obtain rfl := h8 (hall 8)
    obtain rfl := h9 (hall 9)
    obtain rfl := h10 (hall 10)
    have HC1 := hid (And.intro (hc (hall 11)) hk)
    clear h0 h1 h2 h3 h4 h5 h6 h7 h8 h9 h10 ha hb0 hc hk hall
    dsimp only
    obtain ⟨W1, hW1⟩ : ∃ W1, W1 = w' := ⟨_, rfl⟩
    rw [← hW1] at HC1 ⊢
    clear hW1
    have BW1 := hid (BW0.out.1.trans (HC1.out.2.mono BW0.out.1.size))
    have hbx1 := (HC1.out.2.block _ (heap_lt HB0.out)).trans HB0.out
    obtain ⟨d0, d1, d2, d3⟩ := cells4 hbx1
    clear hbx1
    have HA0 := hid (show AI W W1 W0.heap.size W1.heap.size N ca cc [] none 0 from ⟨HC1.out.1, ⟨rfl, .inl ⟨rfl, rfl⟩⟩, (HC1.out.2.block _ (by have := BW0.out.2; omega)).trans HZ0.out, BW1.out, Nat.le_refl _, by have := BW0.out.2; omega, heap_lt HC1.out.1⟩)
    go_wp2_with fail
    go_loopg [23] N (fun kk s23 wr => ∃ (i : Nat) (ax : Option Addr) (cx : Nat), s23 = .int .i64 (i : Int) ∧ i + kk = N ∧ AI W wr W0.heap.size W1.heap.size N ca cc (arcsTo S M most i) ax cx ∧ (arcsTo S M most i).length ≤ i * 1000)
    case atStart => exact ⟨0, none, 0, rfl, by omega, HA0.out, by simp [arcsTo]⟩
    case round =>
      obtain ⟨i, ax, cx, rfl, hik, hai, hlen⟩ := hrel
      by_cases hlt : i < N
      · have hlt' : (i : Int) < (N : Int) := by omega
        have hi0 : (0 : Int) ≤ (i : Int) := by omega
        have hbd := HDW.out.below hai.bel
        have harc := hbd.arcs
        rw [← HN.out] at harc
        obtain ⟨g3, e3, hg3l, hg3c, _⟩ := own_cell (i := i) (x := .slice (some ⟨rb i, 0, none⟩) most most) harc (by simp [mrows, hlt])
        subst e3
        have HE := hid (And.intro hai (And.intro hlen hik))
        clear hai hlen hbd harc hg3l
        go_wp2_with fail
        obtain ⟨go, rfl⟩ : ∃ go, go = gk := ⟨_, rfl⟩
        go_loopg [30] most (fun k3 s30 wr2 => ∃ (j : Nat) (ax : Option Addr) (cx : Nat), s30 = .int .i64 (j : Int) ∧ j + k3 = most ∧ AI W wr2 W0.heap.size W1.heap.size N ca cc (arcsTo S M most i ++ (elx j (M i)).map (arcI S i)) ax cx)
        case atStart => exact ⟨0, ax, cx, rfl, by omega, by simpa [elx] using HE.out.1⟩
        case round =>
          obtain ⟨j, ax, cx, rfl, hjk, hai⟩ := hrel
          by_cases hlt2 : j < most
          · have hlt2' : (j : Int) < (most : Int) := by omega
            have hj0 : (0 : Int) ≤ (j : Int) := by omega
            obtain ⟨z, hz⟩ : ∃ z, z = M i j := ⟨_, rfl⟩
            have hrow : wr.cell? ⟨rb i, j, none⟩ = some (.bool z) := by rw [hz]; exact BR.cell ((HDW.out.below hai.bel).rows i (by rw [← HN.out]; exact hlt)).1 hlt2
            have HZ := hid hz
            have HF := hid (And.intro hai hjk)
            clear hai hz
            cases z with
            | true =>
              have hjN : j < N := by rw [HN.out]; exact HM.out.2 i j (by rw [← HN.out]; exact hlt) HZ.out.symm
              have hjN' : (j : Int) < (N : Int) := by omega
              obtain ⟨s9, hs9⟩ : ∃ s9, S[j]? = some s9 := ⟨S[j]'(by rw [← HN.out]; exact hjN), List.getElem?_eq_getElem _⟩
              have hw9 : ∀ t v, t < 4 → (swl s9)[t]? = some v → ∃ sg, sa = some ⟨sg, 0, none⟩ ∧ sg < W.heap.size ∧ W.cell? ⟨sg, j * 4 + t, none⟩ = some v := fun t v ht hv => by
                have h9 := HDW.out.sets
                obtain ⟨sg, e, h1, h2⟩ := own_cellN h9 ((flat_get swl 4 (fun x => rfl) S j t s9 hs9 ht).trans hv)
                exact ⟨sg, e, h1, h2⟩
              obtain ⟨sg, rfl, hsg, hc0⟩ := hw9 0 _ (by decide) rfl
              have hw8 : ∀ t v, t < 4 → (swl s9)[t]? = some v → W.cell? ⟨sg, j * 4 + t, none⟩ = some v := fun t v ht hv => by
                obtain ⟨sg', e, _, h2⟩ := hw9 t v ht hv
                simp only [Option.some.injEq, Addr.mk.injEq] at e
                rw [← e.1] at h2; exact h2
              have HW9 := hid (And.intro hsg (And.intro hc0 (And.intro (hw8 1 _ (by decide) rfl) (And.intro (hw8 2 _ (by decide) rfl) (hw8 3 _ (by decide) rfl)))))
              have HS9 := hid hs9
              obtain ⟨ls, hls⟩ : ∃ ls, ls = arcsTo S M most i ++ (elx j (M i)).map (arcI S i) := ⟨_, rfl⟩
              obtain ⟨m, hm⟩ : ∃ m, m = ls.length := ⟨_, rfl⟩
              have hm9 : m ≤ 1001000 := by
                rw [hm, hls, List.length_append, List.length_map]
                have := HE.out.2.1
                have := elx_length j (M i)
                omega
              have HLS := hid (And.intro hls hm)
              have HF2 := hid (show AI W wr W0.heap.size W1.heap.size N ca cc ls ax cx from by rw [hls]; exact HF.out.1)
              have HBOX := hid (show wr.heap[W0.heap.size]? = some (.cells #[.int .i64 (N : Int), .int .i64 0, .slice ax m cx, .slice ca N cc] 25 (0, 0)) from by rw [hm]; exact HF2.out.box)
              have HOWN := hid (show wr.ownsRow W1.heap.size 55 7 (.slice ax m cx) m (ls.flatMap acs) from by rw [hm]; exact HF2.out.own)
              clear hw9 hw8 hc0 hs9 hls hm hsg
              go_upto_region 9 with fail
              clear hrow
              refine region_inv (fun b a' w' => ∃ (v36 v37 v38 v39 v40 v41 v42 v43 v44 v45 v46 v47 v48 v49 v50 : Value), a' = { tmps := #[.pointer (some ⟨bb, 0, none⟩), undef, .pointer (some ⟨W.heap.size, 0, none⟩), .pointer (some ⟨W0.heap.size, 0, none⟩), .int .i64 (i : Int), .slice (some ⟨rb i, 0, none⟩) most most, .int .i64 (j : Int), .bool true, .pointer (some ⟨bb, 0, none⟩), .pointer (some ⟨bb, 0, none⟩), .pointer (some ⟨bb, 1, none⟩), .slice (some ⟨sg, 0, none⟩) N sc, .int .i64 (N : Int), .pointer (some ⟨bb, 0, none⟩), .pointer (some ⟨bb, 0, none⟩), .pointer (some ⟨bb, 3, none⟩), .slice ca N cc, .agg #[.int .i64 (N : Int), .int .i64 0, .slice none 0 0, .slice ca N cc], .pointer (some ⟨bb, 0, none⟩), .pointer (some ⟨bb, 0, none⟩), .pointer (some ⟨bb, 2, none⟩), .slice (some ⟨g3, 0, none⟩) N ac, .int .i64 (N : Int), .int .i64 (i : Int), .bool true, .int .i64 (i : Int), .pointer (some ⟨g3, i, none⟩), .slice (some ⟨rb i, 0, none⟩) most most, .slice (some ⟨rb i, 0, none⟩) most most, .int .i64 (most : Int), .int .i64 (j : Int), .bool true, .int .i64 (j : Int), .pointer (some ⟨rb i, j, none⟩), .bool true, .bool true, v36, v37, v38, v39, v40, v41, v42, v43, v44, v45, v46, v47, v48, v49, v50, u51, u52, undef], defers := [] } ∧ Below W.heap.size W w' ∧ w'.heap[W.heap.size]? = some (.cells #[.int .i64 0, .int .i64 0, .slice none 0 0, .slice none 0 0] 25 (0, 0)) ∧ W1.heap.size ≤ w'.heap.size ∧ (b 0 = true → v36 = .pointer (some ⟨W0.heap.size, 2, none⟩)) ∧ (b 1 = true → v37 = .slice ax m cx) ∧ (b 2 = true → v38 = .int .i64 (i : Int)) ∧ (b 3 = true → v39 = .int .i64 (j : Int)) ∧ (b 4 = true → v40 = .pointer (some ⟨bb, 0, none⟩)) ∧ (b 5 = true → v41 = .pointer (some ⟨bb, 0, none⟩)) ∧ (b 6 = true → v42 = .pointer (some ⟨bb, 1, none⟩)) ∧ (b 7 = true → v43 = .slice (some ⟨sg, 0, none⟩) N sc) ∧ (b 8 = true → v44 = .int .i64 (j : Int)) ∧ (b 9 = true → v45 = .pointer (some ⟨sg, j * 4, none⟩)) ∧ (b 10 = true → v46 = .agg #[.int .u64 (ws s9 0 : Int), .int .u64 (ws s9 1 : Int), .int .u64 (ws s9 2 : Int), .int .u64 (ws s9 3 : Int)]) ∧ (b 11 = true → v47 = .agg #[.int .i64 (i : Int), .int .i64 (j : Int), .bool false, .int .u64 (ws s9 0 : Int), .int .u64 (ws s9 1 : Int), .int .u64 (ws s9 2 : Int), .int .u64 (ws s9 3 : Int)]) ∧ (b 12 = true → b 13 = false → ∃ g : Nat, v48 = .slice (some ⟨g, 0, none⟩) 1 1 ∧ w'.heap[g]? = some (.cells #[.int .i64 (i : Int), .int .i64 (j : Int), .bool false, .int .u64 (ws s9 0 : Int), .int .u64 (ws s9 1 : Int), .int .u64 (ws s9 2 : Int), .int .u64 (ws s9 3 : Int)] 55 (0, 0))) ∧ (b 13 = true → ∃ (a : Option Addr) (c : Nat), v49 = .slice a (m + 1) c) ∧ (b 14 = true → v50 = .pointer (some ⟨W0.heap.size, 2, none⟩)) ∧ (b 15 = false → w'.heap[W0.heap.size]? = some (.cells #[.int .i64 (N : Int), .int .i64 0, .slice ax m cx, .slice ca N cc] 25 (0, 0))) ∧ (b 15 = true → w'.heap[W0.heap.size]? = some (.cells #[.int .i64 (N : Int), .int .i64 0, v49, .slice ca N cc] 25 (0, 0))) ∧ (b 13 = false → w'.ownsRow W1.heap.size 55 7 (.slice ax m cx) m (ls.flatMap acs)) ∧ (b 13 = true → w'.ownsRow W1.heap.size 55 7 v49 (m + 1) (ls.flatMap acs ++ #[.int .i64 (i : Int), .int .i64 (j : Int), .bool false, .int .u64 (ws s9 0 : Int), .int .u64 (ws s9 1 : Int), .int .u64 (ws s9 2 : Int), .int .u64 (ws s9 3 : Int)].toList)) ∧ (b 1 = true → b 0 = true) ∧ (b 5 = true → b 4 = true) ∧ (b 6 = true → b 5 = true) ∧ (b 7 = true → b 6 = true) ∧ (b 9 = true → b 7 = true) ∧ (b 9 = true → b 8 = true) ∧ (b 10 = true → b 9 = true) ∧ (b 11 = true → b 2 = true) ∧ (b 11 = true → b 3 = true) ∧ (b 11 = true → b 10 = true) ∧ (b 12 = true → b 11 = true) ∧ (b 13 = true → b 1 = true) ∧ (b 13 = true → b 12 = true) ∧ (b 15 = true → b 14 = true) ∧ (b 15 = true → b 13 = true)) (by kernel_rfl) (back_of (by kernel_rfl)) ?step9 ?done9 ?init9
              case step9 =>
                rintro b a' w' i o ho ⟨v36, v37, v38, v39, v40, v41, v42, v43, v44, v45, v46, v47, v48, v49, v50, rfl, hk, hz, hsz, h0, h1, h2, h3, h4, h5, h6, h7, h8, h9, h10, h11, h12, h13, h14, bo, bn, ro, rn, q1_0, q5_4, q6_5, q7_6, q9_7, q9_8, q10_9, q11_2, q11_3, q11_10, q12_11, q13_1, q13_12, q15_14, q15_13⟩ hbi hd K hK
                have hlt : i < 16 := by have := (Array.getElem?_eq_some_iff.1 ho).1; simpa using this
                have dep : ∀ k, (o.after.any fun e => Region.binds .any e && e.on == k) = true → b k = true := fun k hk => by
                  obtain ⟨e, he, h⟩ := Array.any_eq_true'.1 hk
                  simp only [Bool.and_eq_true, beq_iff_eq] at h
                  rw [← h.2]; exact hd e he h.1
                clear hd
                have hi : i = 0 ∨ i = 1 ∨ i = 2 ∨ i = 3 ∨ i = 4 ∨ i = 5 ∨ i = 6 ∨ i = 7 ∨ i = 8 ∨ i = 9 ∨ i = 10 ∨ i = 11 ∨ i = 12 ∨ i = 13 ∨ i = 14 ∨ i = 15 := by omega
                clear hlt
                rcases hi with rfl | rfl | rfl | rfl | rfl | rfl | rfl | rfl | rfl | rfl | rfl | rfl | rfl | rfl | rfl | rfl
                · simp only [List.getElem?_toArray, List.getElem?_cons_zero, List.getElem?_cons_succ, Option.some.injEq] at ho
                  subst ho
                  go_simp
                  refine hK.out _ _ ⟨_, _, _, _, _, _, _, _, _, _, _, _, _, _, _, rfl, hk, hz, hsz, fun _ => rfl, fun h => h1 (by simpa using h), fun h => h2 (by simpa using h), fun h => h3 (by simpa using h), fun h => h4 (by simpa using h), fun h => h5 (by simpa using h), fun h => h6 (by simpa using h), fun h => h7 (by simpa using h), fun h => h8 (by simpa using h), fun h => h9 (by simpa using h), fun h => h10 (by simpa using h), fun h => h11 (by simpa using h), fun h h9 => h12 (by simpa using h) (by simpa using h9), fun h => h13 (by simpa using h), fun h => h14 (by simpa using h), fun h => bo (by simpa using h), fun h => bn (by simpa using h), fun h => ro (by simpa using h), fun h => rn (by simpa using h), fun h => by simp [q1_0 (by simpa using h)], fun h => by simp [q5_4 (by simpa using h)], fun h => by simp [q6_5 (by simpa using h)], fun h => by simp [q7_6 (by simpa using h)], fun h => by simp [q9_7 (by simpa using h)], fun h => by simp [q9_8 (by simpa using h)], fun h => by simp [q10_9 (by simpa using h)], fun h => by simp [q11_2 (by simpa using h)], fun h => by simp [q11_3 (by simpa using h)], fun h => by simp [q11_10 (by simpa using h)], fun h => by simp [q12_11 (by simpa using h)], fun h => by simp [q13_1 (by simpa using h)], fun h => by simp [q13_12 (by simpa using h)], fun h => by simp [q15_14 (by simpa using h)], fun h => by simp [q15_13 (by simpa using h)]⟩
                · simp only [List.getElem?_toArray, List.getElem?_cons_zero, List.getElem?_cons_succ, Option.some.injEq] at ho
                  subst ho
                  have e_0 := dep 0 (by kernel_rfl)
                  obtain rfl := h0 e_0
                  have n15 : b 15 = false := by
                    cases hb : b 15
                    · rfl
                    · have := q13_1 (q15_13 hb); rw [hbi] at this; cases this
                  obtain ⟨d0, d1, d2, d3⟩ := cells4 (bo n15)
                  go_simp
                  refine hK.out _ _ ⟨_, _, _, _, _, _, _, _, _, _, _, _, _, _, _, rfl, hk, hz, hsz, fun _ => rfl, fun _ => rfl, fun h => h2 (by simpa using h), fun h => h3 (by simpa using h), fun h => h4 (by simpa using h), fun h => h5 (by simpa using h), fun h => h6 (by simpa using h), fun h => h7 (by simpa using h), fun h => h8 (by simpa using h), fun h => h9 (by simpa using h), fun h => h10 (by simpa using h), fun h => h11 (by simpa using h), fun h h9 => h12 (by simpa using h) (by simpa using h9), fun h => h13 (by simpa using h), fun h => h14 (by simpa using h), fun h => bo (by simpa using h), fun h => bn (by simpa using h), fun h => ro (by simpa using h), fun h => rn (by simpa using h), fun _ => by simp [e_0], fun h => by simp [q5_4 (by simpa using h)], fun h => by simp [q6_5 (by simpa using h)], fun h => by simp [q7_6 (by simpa using h)], fun h => by simp [q9_7 (by simpa using h)], fun h => by simp [q9_8 (by simpa using h)], fun h => by simp [q10_9 (by simpa using h)], fun h => by simp [q11_2 (by simpa using h)], fun h => by simp [q11_3 (by simpa using h)], fun h => by simp [q11_10 (by simpa using h)], fun h => by simp [q12_11 (by simpa using h)], fun h => by simp [q13_1 (by simpa using h)], fun h => by simp [q13_12 (by simpa using h)], fun h => by simp [q15_14 (by simpa using h)], fun h => by simp [q15_13 (by simpa using h)]⟩
                · simp only [List.getElem?_toArray, List.getElem?_cons_zero, List.getElem?_cons_succ, Option.some.injEq] at ho
                  subst ho
                  go_simp
                  refine hK.out _ _ ⟨_, _, _, _, _, _, _, _, _, _, _, _, _, _, _, rfl, hk, hz, hsz, fun h => h0 (by simpa using h), fun h => h1 (by simpa using h), fun _ => rfl, fun h => h3 (by simpa using h), fun h => h4 (by simpa using h), fun h => h5 (by simpa using h), fun h => h6 (by simpa using h), fun h => h7 (by simpa using h), fun h => h8 (by simpa using h), fun h => h9 (by simpa using h), fun h => h10 (by simpa using h), fun h => h11 (by simpa using h), fun h h9 => h12 (by simpa using h) (by simpa using h9), fun h => h13 (by simpa using h), fun h => h14 (by simpa using h), fun h => bo (by simpa using h), fun h => bn (by simpa using h), fun h => ro (by simpa using h), fun h => rn (by simpa using h), fun h => by simp [q1_0 (by simpa using h)], fun h => by simp [q5_4 (by simpa using h)], fun h => by simp [q6_5 (by simpa using h)], fun h => by simp [q7_6 (by simpa using h)], fun h => by simp [q9_7 (by simpa using h)], fun h => by simp [q9_8 (by simpa using h)], fun h => by simp [q10_9 (by simpa using h)], fun h => by simp [q11_2 (by simpa using h)], fun h => by simp [q11_3 (by simpa using h)], fun h => by simp [q11_10 (by simpa using h)], fun h => by simp [q12_11 (by simpa using h)], fun h => by simp [q13_1 (by simpa using h)], fun h => by simp [q13_12 (by simpa using h)], fun h => by simp [q15_14 (by simpa using h)], fun h => by simp [q15_13 (by simpa using h)]⟩
                · simp only [List.getElem?_toArray, List.getElem?_cons_zero, List.getElem?_cons_succ, Option.some.injEq] at ho
                  subst ho
                  go_simp
                  refine hK.out _ _ ⟨_, _, _, _, _, _, _, _, _, _, _, _, _, _, _, rfl, hk, hz, hsz, fun h => h0 (by simpa using h), fun h => h1 (by simpa using h), fun h => h2 (by simpa using h), fun _ => rfl, fun h => h4 (by simpa using h), fun h => h5 (by simpa using h), fun h => h6 (by simpa using h), fun h => h7 (by simpa using h), fun h => h8 (by simpa using h), fun h => h9 (by simpa using h), fun h => h10 (by simpa using h), fun h => h11 (by simpa using h), fun h h9 => h12 (by simpa using h) (by simpa using h9), fun h => h13 (by simpa using h), fun h => h14 (by simpa using h), fun h => bo (by simpa using h), fun h => bn (by simpa using h), fun h => ro (by simpa using h), fun h => rn (by simpa using h), fun h => by simp [q1_0 (by simpa using h)], fun h => by simp [q5_4 (by simpa using h)], fun h => by simp [q6_5 (by simpa using h)], fun h => by simp [q7_6 (by simpa using h)], fun h => by simp [q9_7 (by simpa using h)], fun h => by simp [q9_8 (by simpa using h)], fun h => by simp [q10_9 (by simpa using h)], fun h => by simp [q11_2 (by simpa using h)], fun h => by simp [q11_3 (by simpa using h)], fun h => by simp [q11_10 (by simpa using h)], fun h => by simp [q12_11 (by simpa using h)], fun h => by simp [q13_1 (by simpa using h)], fun h => by simp [q13_12 (by simpa using h)], fun h => by simp [q15_14 (by simpa using h)], fun h => by simp [q15_13 (by simpa using h)]⟩
                · simp only [List.getElem?_toArray, List.getElem?_cons_zero, List.getElem?_cons_succ, Option.some.injEq] at ho
                  subst ho
                  go_simp
                  refine hK.out _ _ ⟨_, _, _, _, _, _, _, _, _, _, _, _, _, _, _, rfl, hk, hz, hsz, fun h => h0 (by simpa using h), fun h => h1 (by simpa using h), fun h => h2 (by simpa using h), fun h => h3 (by simpa using h), fun _ => rfl, fun h => h5 (by simpa using h), fun h => h6 (by simpa using h), fun h => h7 (by simpa using h), fun h => h8 (by simpa using h), fun h => h9 (by simpa using h), fun h => h10 (by simpa using h), fun h => h11 (by simpa using h), fun h h9 => h12 (by simpa using h) (by simpa using h9), fun h => h13 (by simpa using h), fun h => h14 (by simpa using h), fun h => bo (by simpa using h), fun h => bn (by simpa using h), fun h => ro (by simpa using h), fun h => rn (by simpa using h), fun h => by simp [q1_0 (by simpa using h)], fun h => by simp [q5_4 (by simpa using h)], fun h => by simp [q6_5 (by simpa using h)], fun h => by simp [q7_6 (by simpa using h)], fun h => by simp [q9_7 (by simpa using h)], fun h => by simp [q9_8 (by simpa using h)], fun h => by simp [q10_9 (by simpa using h)], fun h => by simp [q11_2 (by simpa using h)], fun h => by simp [q11_3 (by simpa using h)], fun h => by simp [q11_10 (by simpa using h)], fun h => by simp [q12_11 (by simpa using h)], fun h => by simp [q13_1 (by simpa using h)], fun h => by simp [q13_12 (by simpa using h)], fun h => by simp [q15_14 (by simpa using h)], fun h => by simp [q15_13 (by simpa using h)]⟩
                · simp only [List.getElem?_toArray, List.getElem?_cons_zero, List.getElem?_cons_succ, Option.some.injEq] at ho
                  subst ho
                  have e_4 := dep 4 (by kernel_rfl)
                  obtain rfl := h4 e_4
                  go_simp
                  refine hK.out _ _ ⟨_, _, _, _, _, _, _, _, _, _, _, _, _, _, _, rfl, hk, hz, hsz, fun h => h0 (by simpa using h), fun h => h1 (by simpa using h), fun h => h2 (by simpa using h), fun h => h3 (by simpa using h), fun _ => rfl, fun _ => rfl, fun h => h6 (by simpa using h), fun h => h7 (by simpa using h), fun h => h8 (by simpa using h), fun h => h9 (by simpa using h), fun h => h10 (by simpa using h), fun h => h11 (by simpa using h), fun h h9 => h12 (by simpa using h) (by simpa using h9), fun h => h13 (by simpa using h), fun h => h14 (by simpa using h), fun h => bo (by simpa using h), fun h => bn (by simpa using h), fun h => ro (by simpa using h), fun h => rn (by simpa using h), fun h => by simp [q1_0 (by simpa using h)], fun _ => by simp [e_4], fun h => by simp [q6_5 (by simpa using h)], fun h => by simp [q7_6 (by simpa using h)], fun h => by simp [q9_7 (by simpa using h)], fun h => by simp [q9_8 (by simpa using h)], fun h => by simp [q10_9 (by simpa using h)], fun h => by simp [q11_2 (by simpa using h)], fun h => by simp [q11_3 (by simpa using h)], fun h => by simp [q11_10 (by simpa using h)], fun h => by simp [q12_11 (by simpa using h)], fun h => by simp [q13_1 (by simpa using h)], fun h => by simp [q13_12 (by simpa using h)], fun h => by simp [q15_14 (by simpa using h)], fun h => by simp [q15_13 (by simpa using h)]⟩
                · simp only [List.getElem?_toArray, List.getElem?_cons_zero, List.getElem?_cons_succ, Option.some.injEq] at ho
                  subst ho
                  have e_5 := dep 5 (by kernel_rfl)
                  have e_4 := q5_4 e_5
                  obtain rfl := h4 e_4
                  obtain rfl := h5 e_5
                  go_simp
                  refine hK.out _ _ ⟨_, _, _, _, _, _, _, _, _, _, _, _, _, _, _, rfl, hk, hz, hsz, fun h => h0 (by simpa using h), fun h => h1 (by simpa using h), fun h => h2 (by simpa using h), fun h => h3 (by simpa using h), fun _ => rfl, fun _ => rfl, fun _ => rfl, fun h => h7 (by simpa using h), fun h => h8 (by simpa using h), fun h => h9 (by simpa using h), fun h => h10 (by simpa using h), fun h => h11 (by simpa using h), fun h h9 => h12 (by simpa using h) (by simpa using h9), fun h => h13 (by simpa using h), fun h => h14 (by simpa using h), fun h => bo (by simpa using h), fun h => bn (by simpa using h), fun h => ro (by simpa using h), fun h => rn (by simpa using h), fun h => by simp [q1_0 (by simpa using h)], fun h => by simp [q5_4 (by simpa using h)], fun _ => by simp [e_5], fun h => by simp [q7_6 (by simpa using h)], fun h => by simp [q9_7 (by simpa using h)], fun h => by simp [q9_8 (by simpa using h)], fun h => by simp [q10_9 (by simpa using h)], fun h => by simp [q11_2 (by simpa using h)], fun h => by simp [q11_3 (by simpa using h)], fun h => by simp [q11_10 (by simpa using h)], fun h => by simp [q12_11 (by simpa using h)], fun h => by simp [q13_1 (by simpa using h)], fun h => by simp [q13_12 (by simpa using h)], fun h => by simp [q15_14 (by simpa using h)], fun h => by simp [q15_13 (by simpa using h)]⟩
                · simp only [List.getElem?_toArray, List.getElem?_cons_zero, List.getElem?_cons_succ, Option.some.injEq] at ho
                  subst ho
                  have e_6 := dep 6 (by kernel_rfl)
                  have e_5 := q6_5 e_6
                  have e_4 := q5_4 e_5
                  obtain rfl := h4 e_4
                  obtain rfl := h5 e_5
                  obtain rfl := h6 e_6
                  obtain ⟨d0, d1, d2, d3⟩ := cells4 ((hk.block bb HGB.out).trans HBW.out)
                  go_simp
                  refine hK.out _ _ ⟨_, _, _, _, _, _, _, _, _, _, _, _, _, _, _, rfl, hk, hz, hsz, fun h => h0 (by simpa using h), fun h => h1 (by simpa using h), fun h => h2 (by simpa using h), fun h => h3 (by simpa using h), fun _ => rfl, fun _ => rfl, fun _ => rfl, fun _ => rfl, fun h => h8 (by simpa using h), fun h => h9 (by simpa using h), fun h => h10 (by simpa using h), fun h => h11 (by simpa using h), fun h h9 => h12 (by simpa using h) (by simpa using h9), fun h => h13 (by simpa using h), fun h => h14 (by simpa using h), fun h => bo (by simpa using h), fun h => bn (by simpa using h), fun h => ro (by simpa using h), fun h => rn (by simpa using h), fun h => by simp [q1_0 (by simpa using h)], fun h => by simp [q5_4 (by simpa using h)], fun h => by simp [q6_5 (by simpa using h)], fun _ => by simp [e_6], fun h => by simp [q9_7 (by simpa using h)], fun h => by simp [q9_8 (by simpa using h)], fun h => by simp [q10_9 (by simpa using h)], fun h => by simp [q11_2 (by simpa using h)], fun h => by simp [q11_3 (by simpa using h)], fun h => by simp [q11_10 (by simpa using h)], fun h => by simp [q12_11 (by simpa using h)], fun h => by simp [q13_1 (by simpa using h)], fun h => by simp [q13_12 (by simpa using h)], fun h => by simp [q15_14 (by simpa using h)], fun h => by simp [q15_13 (by simpa using h)]⟩
                · simp only [List.getElem?_toArray, List.getElem?_cons_zero, List.getElem?_cons_succ, Option.some.injEq] at ho
                  subst ho
                  go_simp
                  refine hK.out _ _ ⟨_, _, _, _, _, _, _, _, _, _, _, _, _, _, _, rfl, hk, hz, hsz, fun h => h0 (by simpa using h), fun h => h1 (by simpa using h), fun h => h2 (by simpa using h), fun h => h3 (by simpa using h), fun h => h4 (by simpa using h), fun h => h5 (by simpa using h), fun h => h6 (by simpa using h), fun h => h7 (by simpa using h), fun _ => rfl, fun h => h9 (by simpa using h), fun h => h10 (by simpa using h), fun h => h11 (by simpa using h), fun h h9 => h12 (by simpa using h) (by simpa using h9), fun h => h13 (by simpa using h), fun h => h14 (by simpa using h), fun h => bo (by simpa using h), fun h => bn (by simpa using h), fun h => ro (by simpa using h), fun h => rn (by simpa using h), fun h => by simp [q1_0 (by simpa using h)], fun h => by simp [q5_4 (by simpa using h)], fun h => by simp [q6_5 (by simpa using h)], fun h => by simp [q7_6 (by simpa using h)], fun h => by simp [q9_7 (by simpa using h)], fun h => by simp [q9_8 (by simpa using h)], fun h => by simp [q10_9 (by simpa using h)], fun h => by simp [q11_2 (by simpa using h)], fun h => by simp [q11_3 (by simpa using h)], fun h => by simp [q11_10 (by simpa using h)], fun h => by simp [q12_11 (by simpa using h)], fun h => by simp [q13_1 (by simpa using h)], fun h => by simp [q13_12 (by simpa using h)], fun h => by simp [q15_14 (by simpa using h)], fun h => by simp [q15_13 (by simpa using h)]⟩
                · simp only [List.getElem?_toArray, List.getElem?_cons_zero, List.getElem?_cons_succ, Option.some.injEq] at ho
                  subst ho
                  have e_7 := dep 7 (by kernel_rfl)
                  have e_8 := dep 8 (by kernel_rfl)
                  have e_6 := q7_6 e_7
                  have e_5 := q6_5 e_6
                  have e_4 := q5_4 e_5
                  obtain rfl := h4 e_4
                  obtain rfl := h5 e_5
                  obtain rfl := h6 e_6
                  obtain rfl := h7 e_7
                  obtain rfl := h8 e_8
                  go_simp
                  refine hK.out _ _ ⟨_, _, _, _, _, _, _, _, _, _, _, _, _, _, _, rfl, hk, hz, hsz, fun h => h0 (by simpa using h), fun h => h1 (by simpa using h), fun h => h2 (by simpa using h), fun h => h3 (by simpa using h), fun _ => rfl, fun _ => rfl, fun _ => rfl, fun _ => rfl, fun _ => rfl, fun _ => rfl, fun h => h10 (by simpa using h), fun h => h11 (by simpa using h), fun h h9 => h12 (by simpa using h) (by simpa using h9), fun h => h13 (by simpa using h), fun h => h14 (by simpa using h), fun h => bo (by simpa using h), fun h => bn (by simpa using h), fun h => ro (by simpa using h), fun h => rn (by simpa using h), fun h => by simp [q1_0 (by simpa using h)], fun h => by simp [q5_4 (by simpa using h)], fun h => by simp [q6_5 (by simpa using h)], fun h => by simp [q7_6 (by simpa using h)], fun _ => by simp [e_7], fun _ => by simp [e_8], fun h => by simp [q10_9 (by simpa using h)], fun h => by simp [q11_2 (by simpa using h)], fun h => by simp [q11_3 (by simpa using h)], fun h => by simp [q11_10 (by simpa using h)], fun h => by simp [q12_11 (by simpa using h)], fun h => by simp [q13_1 (by simpa using h)], fun h => by simp [q13_12 (by simpa using h)], fun h => by simp [q15_14 (by simpa using h)], fun h => by simp [q15_13 (by simpa using h)]⟩
                · simp only [List.getElem?_toArray, List.getElem?_cons_zero, List.getElem?_cons_succ, Option.some.injEq] at ho
                  subst ho
                  have e_9 := dep 9 (by kernel_rfl)
                  have e_7 := q9_7 e_9
                  have e_8 := q9_8 e_9
                  have e_6 := q7_6 e_7
                  have e_5 := q6_5 e_6
                  have e_4 := q5_4 e_5
                  obtain rfl := h4 e_4
                  obtain rfl := h5 e_5
                  obtain rfl := h6 e_6
                  obtain rfl := h7 e_7
                  obtain rfl := h8 e_8
                  obtain rfl := h9 e_9
                  have y0 := (hk.cell (p := ⟨sg, j * 4, none⟩) HW9.out.1).trans HW9.out.2.1
                  have y1 := (hk.cell (p := ⟨sg, j * 4 + 1, none⟩) HW9.out.1).trans HW9.out.2.2.1
                  have y2 := (hk.cell (p := ⟨sg, j * 4 + 2, none⟩) HW9.out.1).trans HW9.out.2.2.2.1
                  have y3 := (hk.cell (p := ⟨sg, j * 4 + 3, none⟩) HW9.out.1).trans HW9.out.2.2.2.2
                  go_simp
                  refine hK.out _ _ ⟨_, _, _, _, _, _, _, _, _, _, _, _, _, _, _, rfl, hk, hz, hsz, fun h => h0 (by simpa using h), fun h => h1 (by simpa using h), fun h => h2 (by simpa using h), fun h => h3 (by simpa using h), fun _ => rfl, fun _ => rfl, fun _ => rfl, fun _ => rfl, fun _ => rfl, fun _ => rfl, fun _ => rfl, fun h => h11 (by simpa using h), fun h h9 => h12 (by simpa using h) (by simpa using h9), fun h => h13 (by simpa using h), fun h => h14 (by simpa using h), fun h => bo (by simpa using h), fun h => bn (by simpa using h), fun h => ro (by simpa using h), fun h => rn (by simpa using h), fun h => by simp [q1_0 (by simpa using h)], fun h => by simp [q5_4 (by simpa using h)], fun h => by simp [q6_5 (by simpa using h)], fun h => by simp [q7_6 (by simpa using h)], fun h => by simp [q9_7 (by simpa using h)], fun h => by simp [q9_8 (by simpa using h)], fun _ => by simp [e_9], fun h => by simp [q11_2 (by simpa using h)], fun h => by simp [q11_3 (by simpa using h)], fun h => by simp [q11_10 (by simpa using h)], fun h => by simp [q12_11 (by simpa using h)], fun h => by simp [q13_1 (by simpa using h)], fun h => by simp [q13_12 (by simpa using h)], fun h => by simp [q15_14 (by simpa using h)], fun h => by simp [q15_13 (by simpa using h)]⟩
                · simp only [List.getElem?_toArray, List.getElem?_cons_zero, List.getElem?_cons_succ, Option.some.injEq] at ho
                  subst ho
                  have e_2 := dep 2 (by kernel_rfl)
                  have e_3 := dep 3 (by kernel_rfl)
                  have e_10 := dep 10 (by kernel_rfl)
                  have e_9 := q10_9 e_10
                  have e_7 := q9_7 e_9
                  have e_8 := q9_8 e_9
                  have e_6 := q7_6 e_7
                  have e_5 := q6_5 e_6
                  have e_4 := q5_4 e_5
                  obtain rfl := h2 e_2
                  obtain rfl := h3 e_3
                  obtain rfl := h4 e_4
                  obtain rfl := h5 e_5
                  obtain rfl := h6 e_6
                  obtain rfl := h7 e_7
                  obtain rfl := h8 e_8
                  obtain rfl := h9 e_9
                  obtain rfl := h10 e_10
                  go_simp
                  refine hK.out _ _ ⟨_, _, _, _, _, _, _, _, _, _, _, _, _, _, _, rfl, hk, hz, hsz, fun h => h0 (by simpa using h), fun h => h1 (by simpa using h), fun _ => rfl, fun _ => rfl, fun _ => rfl, fun _ => rfl, fun _ => rfl, fun _ => rfl, fun _ => rfl, fun _ => rfl, fun _ => rfl, fun _ => rfl, fun h h9 => h12 (by simpa using h) (by simpa using h9), fun h => h13 (by simpa using h), fun h => h14 (by simpa using h), fun h => bo (by simpa using h), fun h => bn (by simpa using h), fun h => ro (by simpa using h), fun h => rn (by simpa using h), fun h => by simp [q1_0 (by simpa using h)], fun h => by simp [q5_4 (by simpa using h)], fun h => by simp [q6_5 (by simpa using h)], fun h => by simp [q7_6 (by simpa using h)], fun h => by simp [q9_7 (by simpa using h)], fun h => by simp [q9_8 (by simpa using h)], fun h => by simp [q10_9 (by simpa using h)], fun _ => by simp [e_2], fun _ => by simp [e_3], fun _ => by simp [e_10], fun h => by simp [q12_11 (by simpa using h)], fun h => by simp [q13_1 (by simpa using h)], fun h => by simp [q13_12 (by simpa using h)], fun h => by simp [q15_14 (by simpa using h)], fun h => by simp [q15_13 (by simpa using h)]⟩
                · simp only [List.getElem?_toArray, List.getElem?_cons_zero, List.getElem?_cons_succ, Option.some.injEq] at ho
                  subst ho
                  have e_11 := dep 11 (by kernel_rfl)
                  have e_2 := q11_2 e_11
                  have e_3 := q11_3 e_11
                  have e_10 := q11_10 e_11
                  have e_9 := q10_9 e_10
                  have e_7 := q9_7 e_9
                  have e_8 := q9_8 e_9
                  have e_6 := q7_6 e_7
                  have e_5 := q6_5 e_6
                  have e_4 := q5_4 e_5
                  obtain rfl := h2 e_2
                  obtain rfl := h3 e_3
                  obtain rfl := h4 e_4
                  obtain rfl := h5 e_5
                  obtain rfl := h6 e_6
                  obtain rfl := h7 e_7
                  obtain rfl := h8 e_8
                  obtain rfl := h9 e_9
                  obtain rfl := h10 e_10
                  obtain rfl := h11 e_11
                  have n13 : b 13 = false := by
                    cases hb : b 13
                    · rfl
                    · have := q13_12 hb; rw [hbi] at this; cases this
                  have b5 := bel1 w' (.cells #[.int .i64 (i : Int), .int .i64 (j : Int), .bool false, .int .u64 (ws s9 0 : Int), .int .u64 (ws s9 1 : Int), .int .u64 (ws s9 2 : Int), .int .u64 (ws s9 3 : Int)] 55)
                  go_simp
                  refine hK.out _ _ ⟨_, _, _, _, _, _, _, _, _, _, _, _, _, _, _, rfl, hk.trans (b5.mono hk.size), (b5.block _ (heap_lt hz)).trans hz, Nat.le_trans hsz b5.size, fun h => h0 (by simpa using h), fun h => h1 (by simpa using h), fun _ => rfl, fun _ => rfl, fun _ => rfl, fun _ => rfl, fun _ => rfl, fun _ => rfl, fun _ => rfl, fun _ => rfl, fun _ => rfl, fun _ => rfl, fun _ _ => ⟨w'.heap.size, rfl, alloc_new _ _⟩, fun h => h13 (by simpa using h), fun h => h14 (by simpa using h), fun h => (b5.block _ (heap_lt (bo (by simpa using h)))).trans (bo (by simpa using h)), fun h => (b5.block _ (heap_lt (bn (by simpa using h)))).trans (bn (by simpa using h)), fun h => ownsRow_keep (ro (by simpa using h)) fun k hk9 => b5.block k ((ro (by simpa using h)).lt k hk9).2, fun h => ownsRow_keep (rn (by simpa using h)) fun k hk9 => b5.block k ((rn (by simpa using h)).lt k hk9).2, fun h => by simp [q1_0 (by simpa using h)], fun h => by simp [q5_4 (by simpa using h)], fun h => by simp [q6_5 (by simpa using h)], fun h => by simp [q7_6 (by simpa using h)], fun h => by simp [q9_7 (by simpa using h)], fun h => by simp [q9_8 (by simpa using h)], fun h => by simp [q10_9 (by simpa using h)], fun h => by simp [q11_2 (by simpa using h)], fun h => by simp [q11_3 (by simpa using h)], fun h => by simp [q11_10 (by simpa using h)], fun _ => by simp [e_11], fun h => by simp [q13_1 (by simpa using h)], fun h => by simp [q13_12 (by simpa using h)], fun h => by simp [q15_14 (by simpa using h)], fun h => by simp [q15_13 (by simpa using h)]⟩
                · simp only [List.getElem?_toArray, List.getElem?_cons_zero, List.getElem?_cons_succ, Option.some.injEq] at ho
                  subst ho
                  have e_1 := dep 1 (by kernel_rfl)
                  have e_12 := dep 12 (by kernel_rfl)
                  have e_0 := q1_0 e_1
                  have e_11 := q12_11 e_12
                  have e_2 := q11_2 e_11
                  have e_3 := q11_3 e_11
                  have e_10 := q11_10 e_11
                  have e_9 := q10_9 e_10
                  have e_7 := q9_7 e_9
                  have e_8 := q9_8 e_9
                  have e_6 := q7_6 e_7
                  have e_5 := q6_5 e_6
                  have e_4 := q5_4 e_5
                  obtain rfl := h0 e_0
                  obtain rfl := h1 e_1
                  obtain rfl := h2 e_2
                  obtain rfl := h3 e_3
                  obtain rfl := h4 e_4
                  obtain rfl := h5 e_5
                  obtain rfl := h6 e_6
                  obtain rfl := h7 e_7
                  obtain rfl := h8 e_8
                  obtain rfl := h9 e_9
                  obtain rfl := h10 e_10
                  obtain rfl := h11 e_11
                  have n15 : b 15 = false := by
                    cases hb : b 15
                    · rfl
                    · have := q15_13 hb; rw [hbi] at this; cases this
                  obtain ⟨g4, rfl, hg4⟩ := h12 e_12 hbi
                  have hro := ro hbi
                  refine step_append_lies _ (by rfl) (.tmp 37) (.tmp 48) 22 (by rfl) W1.heap.size 55 i5 _ 7 56 Tryd.underlying22 hi5 hz5 hz51 hz52 (by rfl) (by decide) (.slice ax m cx) m _ (by rfl) hro ⟨g4, 0, none⟩ 1 1 #[.int .i64 (i : Int), .int .i64 (j : Int), .bool false, .int .u64 (ws s9 0 : Int), .int .u64 (ws s9 1 : Int), .int .u64 (ws s9 2 : Int), .int .u64 (ws s9 3 : Int)].toList (by rfl) (by rfl) (World.news_of_block hg4) (by intro u hu; simp at hu; rcases hu with rfl | rfl | rfl | rfl | rfl | rfl | rfl <;> rfl) (by decide) (by unfold maxLen; omega) (by omega) hsz _ rfl ?_
                  intro g5 cap5 w5 hown' hgrow hat _
                  have hkeep : ∀ k, (Value.slice ax m cx).ownBlock ≠ some k → k < w'.heap.size → w5.heap[k]? = w'.heap[k]? := fun k hne hl => hgrow.block k hl (fun e => hne e.symm)
                  have hbo := bo n15
                  have hPb := HF2.out.hP
                  have hWs := hk.size
                  have kk : Kept (fun b => W.heap.size ≤ b) w' w5 := ⟨hgrow.os, hgrow.tape, hgrow.output, hgrow.size, fun k hF => hkeep k (fun e => by have := (hro.lt k e).1; omega) (by omega)⟩
                  refine hK.out _ _ ⟨_, _, _, _, _, _, _, _, _, _, _, _, _, _, _, rfl, hk.trans (kk.toBelow fun b hb => hb), (hkeep _ (fun e => by have := (hro.lt _ e).1; omega) (heap_lt hz)).trans hz, Nat.le_trans hsz hgrow.size, fun _ => rfl, fun _ => rfl, fun _ => rfl, fun _ => rfl, fun _ => rfl, fun _ => rfl, fun _ => rfl, fun _ => rfl, fun _ => rfl, fun _ => rfl, fun _ => rfl, fun _ => rfl, fun _ h => absurd h (by simp), fun _ => ⟨_, _, rfl⟩, fun h => h14 (by simpa using h), fun _ => (hkeep _ (own_ne_block hro hbo (by decide)) (heap_lt hbo)).trans hbo, fun h => absurd h (by simp [n15]), fun h => absurd h (by simp), fun _ => hown', fun h => by simp [q1_0 (by simpa using h)], fun h => by simp [q5_4 (by simpa using h)], fun h => by simp [q6_5 (by simpa using h)], fun h => by simp [q7_6 (by simpa using h)], fun h => by simp [q9_7 (by simpa using h)], fun h => by simp [q9_8 (by simpa using h)], fun h => by simp [q10_9 (by simpa using h)], fun h => by simp [q11_2 (by simpa using h)], fun h => by simp [q11_3 (by simpa using h)], fun h => by simp [q11_10 (by simpa using h)], fun h => by simp [q12_11 (by simpa using h)], fun _ => by simp [e_1], fun _ => by simp [e_12], fun h => by simp [q15_14 (by simpa using h)], fun h => by simp [q15_13 (by simpa using h)]⟩
                · simp only [List.getElem?_toArray, List.getElem?_cons_zero, List.getElem?_cons_succ, Option.some.injEq] at ho
                  subst ho
                  go_simp
                  refine hK.out _ _ ⟨_, _, _, _, _, _, _, _, _, _, _, _, _, _, _, rfl, hk, hz, hsz, fun h => h0 (by simpa using h), fun h => h1 (by simpa using h), fun h => h2 (by simpa using h), fun h => h3 (by simpa using h), fun h => h4 (by simpa using h), fun h => h5 (by simpa using h), fun h => h6 (by simpa using h), fun h => h7 (by simpa using h), fun h => h8 (by simpa using h), fun h => h9 (by simpa using h), fun h => h10 (by simpa using h), fun h => h11 (by simpa using h), fun h h9 => h12 (by simpa using h) (by simpa using h9), fun h => h13 (by simpa using h), fun _ => rfl, fun h => bo (by simpa using h), fun h => bn (by simpa using h), fun h => ro (by simpa using h), fun h => rn (by simpa using h), fun h => by simp [q1_0 (by simpa using h)], fun h => by simp [q5_4 (by simpa using h)], fun h => by simp [q6_5 (by simpa using h)], fun h => by simp [q7_6 (by simpa using h)], fun h => by simp [q9_7 (by simpa using h)], fun h => by simp [q9_8 (by simpa using h)], fun h => by simp [q10_9 (by simpa using h)], fun h => by simp [q11_2 (by simpa using h)], fun h => by simp [q11_3 (by simpa using h)], fun h => by simp [q11_10 (by simpa using h)], fun h => by simp [q12_11 (by simpa using h)], fun h => by simp [q13_1 (by simpa using h)], fun h => by simp [q13_12 (by simpa using h)], fun h => by simp [q15_14 (by simpa using h)], fun h => by simp [q15_13 (by simpa using h)]⟩
                · simp only [List.getElem?_toArray, List.getElem?_cons_zero, List.getElem?_cons_succ, Option.some.injEq] at ho
                  subst ho
                  have e_14 := dep 14 (by kernel_rfl)
                  have e_13 := dep 13 (by kernel_rfl)
                  have e_1 := q13_1 e_13
                  have e_12 := q13_12 e_13
                  have e_0 := q1_0 e_1
                  have e_11 := q12_11 e_12
                  have e_2 := q11_2 e_11
                  have e_3 := q11_3 e_11
                  have e_10 := q11_10 e_11
                  have e_9 := q10_9 e_10
                  have e_7 := q9_7 e_9
                  have e_8 := q9_8 e_9
                  have e_6 := q7_6 e_7
                  have e_5 := q6_5 e_6
                  have e_4 := q5_4 e_5
                  obtain rfl := h0 e_0
                  obtain rfl := h1 e_1
                  obtain rfl := h2 e_2
                  obtain rfl := h3 e_3
                  obtain rfl := h4 e_4
                  obtain rfl := h5 e_5
                  obtain rfl := h6 e_6
                  obtain rfl := h7 e_7
                  obtain rfl := h8 e_8
                  obtain rfl := h9 e_9
                  obtain rfl := h10 e_10
                  obtain rfl := h11 e_11
                  obtain rfl := h14 e_14
                  have hbo := bo hbi
                  obtain ⟨d0, d1, d2, d3⟩ := cells4 hbo
                  have f1 := Go.Frame.free hbo 2
                  obtain ⟨a7, c7, rfl⟩ := h13 e_13
                  have hrn := rn e_13
                  have hPb := HF2.out.hP
                  go_simp
                  refine hK.out _ _ ⟨_, _, _, _, _, _, _, _, _, _, _, _, _, _, _, rfl, below_put hk (Nat.le_of_lt hPb.1), blk_set hz (show W.heap.size ≠ W0.heap.size from by have := hPb.1; omega), by simpa using hsz, fun _ => rfl, fun _ => rfl, fun _ => rfl, fun _ => rfl, fun _ => rfl, fun _ => rfl, fun _ => rfl, fun _ => rfl, fun _ => rfl, fun _ => rfl, fun _ => rfl, fun _ => rfl, fun _ h => absurd h (by simp [e_13]), fun _ => ⟨_, _, rfl⟩, fun _ => rfl, fun h => absurd h (by simp), fun _ => (blk_put hbo).trans rfl, fun h => absurd h (by simp [e_13]), fun _ => ownsRow_keep hrn fun k hk9 => heap_setCell_other _ _ _ _ (fun e => own_ne_block hrn hbo (by decide) ((show k = W0.heap.size from e) ▸ hk9)), fun h => by simp [q1_0 (by simpa using h)], fun h => by simp [q5_4 (by simpa using h)], fun h => by simp [q6_5 (by simpa using h)], fun h => by simp [q7_6 (by simpa using h)], fun h => by simp [q9_7 (by simpa using h)], fun h => by simp [q9_8 (by simpa using h)], fun h => by simp [q10_9 (by simpa using h)], fun h => by simp [q11_2 (by simpa using h)], fun h => by simp [q11_3 (by simpa using h)], fun h => by simp [q11_10 (by simpa using h)], fun h => by simp [q12_11 (by simpa using h)], fun h => by simp [q13_1 (by simpa using h)], fun h => by simp [q13_12 (by simpa using h)], fun _ => by simp [e_14], fun _ => by simp [e_13]⟩
              case done9 =>
                rintro b a' w' ⟨v36, v37, v38, v39, v40, v41, v42, v43, v44, v45, v46, v47, v48, v49, v50, rfl, hk, hz, hsz, h0, h1, h2, h3, h4, h5, h6, h7, h8, h9, h10, h11, h12, h13, h14, bo, bn, ro, rn, q1_0, q5_4, q6_5, q7_6, q9_7, q9_8, q10_9, q11_2, q11_3, q11_10, q12_11, q13_1, q13_12, q15_14, q15_13⟩ hall
                obtain rfl := h0 (hall 0)
                obtain rfl := h1 (hall 1)
                obtain rfl := h2 (hall 2)
                obtain rfl := h3 (hall 3)
                obtain rfl := h4 (hall 4)
                obtain rfl := h5 (hall 5)
                obtain rfl := h6 (hall 6)
                obtain rfl := h7 (hall 7)
                obtain rfl := h8 (hall 8)
                obtain rfl := h9 (hall 9)
                obtain rfl := h10 (hall 10)
                obtain rfl := h11 (hall 11)
                obtain rfl := h14 (hall 14)
                obtain ⟨a7, c7, rfl⟩ := h13 (hall 13)
                have HR9 := hid (And.intro (bn (hall 15)) (And.intro (rn (hall 13)) (And.intro hk (And.intro hz hsz))))
                clear h0 h1 h2 h3 h4 h5 h6 h7 h8 h9 h10 h11 h12 h13 h14 bo bn ro rn hk hz hsz hall
                dsimp only
                obtain ⟨w9, hw9⟩ : ∃ w9, w9 = w' := ⟨_, rfl⟩
                rw [← hw9] at HR9 ⊢
                clear hw9
                go_wp2
                go_roundg (gk - 1)
                case measure => omega
                case rel =>
                  obtain ⟨hls, hm⟩ := HLS.out
                  refine ⟨j + 1, a7, c7, by go_num, by have := HF.out.2; omega, ?_⟩
                  have hl9 : arcsTo S M most i ++ (elx (j + 1) (M i)).map (arcI S i) = ls ++ [⟨(i : Int), (j : Int), false, s9⟩] := by
                    rw [hls, elx_succ, if_pos HZ.out.symm, List.map_append, ← List.append_assoc]
                    simp [arcI, List.getD, HS9.out]
                  have hl8 : (ls ++ [(⟨(i : Int), (j : Int), false, s9⟩ : Arc)]).length = m + 1 := by simp [hm]
                  rw [hl9]
                  exact ⟨by rw [hl8]; exact HR9.out.1, by rw [hl8, List.flatMap_append]; exact HR9.out.2.1, HR9.out.2.2.2.1, HR9.out.2.2.1, HR9.out.2.2.2.2, HF2.out.hP⟩
              case init9 =>
                exact ⟨_, _, _, _, _, _, _, _, _, _, _, _, _, _, _, rfl, HF2.out.bel.drew, HF2.out.res, HF2.out.hb, fun h => absurd h (by simp), fun h => absurd h (by simp), fun h => absurd h (by simp), fun h => absurd h (by simp), fun h => absurd h (by simp), fun h => absurd h (by simp), fun h => absurd h (by simp), fun h => absurd h (by simp), fun h => absurd h (by simp), fun h => absurd h (by simp), fun h => absurd h (by simp), fun h => absurd h (by simp), fun h => absurd h (by simp), fun h => absurd h (by simp), fun h => absurd h (by simp), fun _ => HBOX.out, fun h => absurd h (by simp), fun _ => HOWN.out, fun h => absurd h (by simp), fun h => absurd h (by simp), fun h => absurd h (by simp), fun h => absurd h (by simp), fun h => absurd h (by simp), fun h => absurd h (by simp), fun h => absurd h (by simp), fun h => absurd h (by simp), fun h => absurd h (by simp), fun h => absurd h (by simp), fun h => absurd h (by simp), fun h => absurd h (by simp), fun h => absurd h (by simp), fun h => absurd h (by simp), fun h => absurd h (by simp), fun h => absurd h (by simp)⟩
            | false =>
              go_wp2
              go_roundg (gk - 1)
              case measure => omega
              case rel =>
                refine ⟨j + 1, ax, cx, by go_num, by have := HF.out.2; omega, ?_⟩
                rw [elx_succ, if_neg (by rw [← HZ.out]; decide), List.append_nil]
                exact HF.out.1
          · have hlt2' : ¬ (j : Int) < (most : Int) := by omega
            have HF := hid (And.intro hai hjk)
            clear hai
            go_wp2
            go_roundg (go - 1)
            case measure => have := HE.out.2.2; omega
            case rel =>
              obtain rfl : j = most := by omega
              have h9 := HF.out.1
              rw [← arcsTo_succ] at h9
              refine ⟨i + 1, ax, cx, by go_num, by have := HE.out.2.2; omega, h9, ?_⟩
              rw [arcsTo_succ, List.length_append, List.length_map]
              have := elx_length j (M i)
              have := HE.out.2.1
              omega
      · have hlt' : ¬ (i : Int) < (N : Int) := by omega
        obtain rfl : i = N := by omega
        have HE := hid hai
        have HLE := hid hlen
        have hbox := hai.box
        have hres := hai.res
        obtain ⟨ls, hls⟩ : ∃ ls, ls = arcsTo S M most i := ⟨_, rfl⟩
        rw [← hls] at hbox
        have HLS := hid hls
        obtain ⟨m, hm⟩ : ∃ m, m = ls.length := ⟨_, rfl⟩
        rw [← hm] at hbox
        have HMM := hid hm
        obtain ⟨z0, z1, z2, z3⟩ := cells4 hbox
        obtain ⟨r0, r1, r2, r3⟩ := cells4 hres
        obtain ⟨f0, f1, f2, f3⟩ := frozen4 hres
        have hR := four_set (x' := .int .i64 (i : Int)) (y' := .int .i64 0) (z' := .slice ax m cx) (u' := .slice ca i cc) hres
        obtain ⟨t0, t1, t2, t3⟩ := cells4 hR
        clear hai hbox hres hR hls hm
        go_wp2
        refine bodyPost_ret (v := .agg #[.int .i64 (i : Int), .int .i64 0, .slice ax m cx, .slice ca i cc]) ?_ rfl ?_
        · simp [results, Tryd.results49, go_sem, t0, t1, t2, t3]
        · obtain ⟨hbox, hown, hres, hbel, hb, hP⟩ := HE.out
          rw [← HLS.out, ← HMM.out] at hown
          have hS := HN.out
          have hls : ls = arcsTo S M i i := by rw [HLS.out]; exact arcsTo_more (by rw [hS]; exact HM.out.1) (fun p q hp hq => by rw [hS] at hp ⊢; exact HM.out.2 p q hp hq)
          have hBZ : Below W.heap.size W ((((wr.setCell ⟨W.heap.size, 0, none⟩ (.int .i64 (i : Int))).setCell ⟨W.heap.size, 1, none⟩ (.int .i64 0)).setCell ⟨W.heap.size, 2, none⟩ (.slice ax m cx)).setCell ⟨W.heap.size, 3, none⟩ (.slice ca i cc)) := below_put (below_put (below_put (below_put hbel (Nat.le_refl _)) (Nat.le_refl _)) (Nat.le_refl _)) (Nat.le_refl _)
          have hacc := HDW.out.acc
          have hb0 := hacc.1
          have hA9 : W.ownsRow base 3 1 (.slice ca i cc) i (A.map iv) := by rw [← hS] at hacc; exact hacc
          have hAZ := own_row' (ownsRow_keep hA9 fun k hk => hBZ.block k (hA9.lt k hk).2)
          have k4 : Kept (fun b => b = W.heap.size) wr ((((wr.setCell ⟨W.heap.size, 0, none⟩ (.int .i64 (i : Int))).setCell ⟨W.heap.size, 1, none⟩ (.int .i64 0)).setCell ⟨W.heap.size, 2, none⟩ (.slice ax m cx)).setCell ⟨W.heap.size, 3, none⟩ (.slice ca i cc)) := ((((Kept.refl (fun b => b = W.heap.size) wr).setCell (p := ⟨W.heap.size, 0, none⟩) rfl _).setCell (p := ⟨W.heap.size, 1, none⟩) rfl _).setCell (p := ⟨W.heap.size, 2, none⟩) rfl _).setCell (p := ⟨W.heap.size, 3, none⟩) rfl _
          have hoZ := own_crow (own_kept hown k4 fun k hk e => by have := (hown.lt k hk).1; omega) HMM.out.symm
          have hm9 : m ≤ 140737488355328 := by rw [HMM.out, HLS.out]; have := HLE.out; omega
          have hbl : ∀ x : Addr, ax = some x → base ≤ x.block := fun x hx => by
            rcases hown.2 with ⟨e, _⟩ | ⟨g, cap, cur, e, hb9, _⟩
            · simp only [Value.slice.injEq] at e; rw [e.1] at hx; cases hx
            · simp only [Value.slice.injEq] at e
              rw [e.1] at hx
              simp at hx
              subst hx
              have h1 := HDW.out.lt bb HDW.out.gb
              have h2 := BW1.out.size
              show base ≤ g
              omega
          have hcap : m ≤ cx ∧ cx ≤ maxLen ∧ (ax = none → cx = 0) := by
            rcases hown.2 with ⟨e, e0⟩ | ⟨g, cap, cur, e, hb9, hg9, hn9, hc9, _⟩
            · simp only [Value.slice.injEq] at e
              obtain ⟨e1, _, e3⟩ := e
              rw [e0, e3]
              exact ⟨Nat.le_refl _, Nat.zero_le _, fun _ => rfl⟩
            · simp only [Value.slice.injEq] at e
              obtain ⟨e1, _, e3⟩ := e
              rw [e3, e1]
              exact ⟨hn9, hc9, fun h => by cases h⟩
          exact ⟨⟨ax, m, cx, ca, ⟨cc, rfl⟩, ⟨by rw [← hls]; exact hoZ, hAZ, hm9, by omega⟩, hbl, own_base hA9, hcap⟩, hBZ⟩
  case init =>
    exact ⟨_, _, _, _, _, _, _, _, _, _, _, rfl, (Below.refl _ _).drew, fun h => absurd h (by simp), fun h => absurd h (by simp), fun h => absurd h (by simp), fun h => absurd h (by simp), fun h => absurd h (by simp), fun h => absurd h (by simp), fun h => absurd h (by simp), fun h => absurd h (by simp), fun h => absurd h (by simp), fun h => absurd h (by simp), fun h => absurd h (by simp), fun _ => rfl, fun h => absurd h (by simp), fun h => absurd h (by simp), fun h => absurd h (by simp), fun h => absurd h (by simp), fun h => absurd h (by simp), fun h => absurd h (by simp), fun h => absurd h (by simp), fun h => absurd h (by simp), fun h => absurd h (by simp), fun h => absurd h (by simp), fun h => absurd h (by simp), fun h => absurd h (by simp), fun h => absurd h (by simp)⟩
end Go.Proofs.YtogpnlkjcdedlaaDoor
end
