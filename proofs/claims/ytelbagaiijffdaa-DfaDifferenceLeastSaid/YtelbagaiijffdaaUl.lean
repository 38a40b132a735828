/-
  A search in memory; contract: newSearch.
-/
import Derived.Test.YtelbagaiijffdaaUk
set_option linter.unusedSimpArgs false
set_option linter.unusedVariables false
namespace Go.Proofs.Ytelbagaiijffdaa
open Go.RowKit Lx Go.Frame
attribute [-instance] instBEqProd

/-- A visit: a pair of states, the visit before, the column. -/
abbrev Vis := Nat × Nat × Nat × Nat
def vcs (v : Vis) : List Value := [.int .i64 (v.1 : Int), .int .i64 (v.2.1 : Int), .int .i64 (v.2.2.1 : Int), .int .i64 (v.2.2.2 : Int)]
/-- Which pairs have been found. -/
def snl (N P : Nat) (V : List Vis) : List Bool := (List.range (N * P)).map fun p => V.any fun u => u.1 * P + u.2.1 == p
theorem snl_len (N P : Nat) (V : List Vis) : (snl N P V).length = N * P := by simp [snl]
theorem snl_nil (N P : Nat) : snl N P [] = List.replicate (N * P) false := by
  unfold snl
  apply List.ext_getElem?
  intro i
  rw [List.getElem?_map, List.getElem?_replicate]
  by_cases h : i < N * P
  · rw [List.getElem?_range h, if_pos h]; rfl
  · rw [List.getElem?_eq_none (by simp; omega), if_neg h]; rfl
theorem snl_at {N P p : Nat} (h : p < N * P) (V : List Vis) : (snl N P V)[p]? = some (V.any fun u => u.1 * P + u.2.1 == p) := by
  unfold snl; rw [List.getElem?_map, List.getElem?_range h]; rfl
theorem snl_push {N P : Nat} (V : List Vis) (v : Vis) : (snl N P V).set (v.1 * P + v.2.1) true = snl N P (V ++ [v]) := by
  apply List.ext_getElem?
  intro i
  by_cases hi : i < N * P
  · rw [snl_at hi]
    by_cases e : v.1 * P + v.2.1 = i
    · subst e
      rw [List.getElem?_set_self (by rw [snl_len]; exact hi)]
      simp
    · rw [List.getElem?_set_ne e, snl_at hi]
      simp [e]
  · rw [List.getElem?_eq_none (by rw [List.length_set, snl_len]; omega), List.getElem?_eq_none (by rw [snl_len]; omega)]
/-- A block of bools. -/
def LB (W : World) (b : Nat) (l : List Bool) : Prop := W.heap[b]? = some (.cells (l.map Value.bool).toArray 4 (0, 0))
theorem LB.set {W : World} {b i : Nat} {l : List Bool} (h : LB W b l) (x : Bool) : LB (W.setCell ⟨b, i, none⟩ (.bool x)) b (l.set i x) := by
  unfold LB at h ⊢
  rw [blk_put h]
  congr 2
  apply Array.ext'
  simp [List.map_set]
theorem LB.at_ {W : World} {b i : Nat} {l : List Bool} (h : LB W b l) {x : Bool} (hx : l[i]? = some x) : W.cell? ⟨b, i, none⟩ = some (.bool x) := by
  unfold LB at h
  simp only [World.cell?, h]
  simp [hx]
theorem info4 : (Try.prog.info? 4).map (fun i => (i.zero, i.size, i.bytes)) = some (some (.bool false), 1, 1) := by kernel_rfl
theorem und79 : Try.prog.underlying 79 = some (.slice 4) := by kernel_rfl
theorem made_bools (n : Nat) : madeCells #[Value.bool false] n = ((List.replicate n false).map Value.bool).toArray := by
  apply Array.ext_getElem?
  intro i
  unfold madeCells
  simp only [List.map_replicate, List.getElem?_toArray, Array.getElem?_map]
  by_cases h : i < n
  · simp [h, Nat.mod_one]
  · simp [h]
def zb (n : Nat) : Array Value := ((List.replicate n false).map Value.bool).toArray
theorem make_b (w : World) (n : Nat) (hn : n ≤ 1000000) : (Instr.makeSlice 79 (.int .i64 (n : Int)) (.int .i64 (n : Int))).run Try.prog w = .ok (.slice (some ⟨w.heap.size, 0, none⟩) n n) (w.alloc (.cells (zb n) 4)) := by
  obtain ⟨i, hi, h0, h1, h2⟩ := info_parts info4
  have := run_make (P := Try.prog) w 79 4 i _ und79 hi h0 .i64 .i64 (n : Int) (n : Int) (by omega) (Int.le_refl _) (by rw [h2]; omega) (by omega)
  rw [h1, show (Value.bool false).cells = #[.bool false] by kernel_rfl] at this
  rw [made_bools] at this
  simpa [zb] using this
/-- The slices of a search's tables. -/
structure TbS where
  x1 : Option Addr
  y1 : Nat
  x2 : Option Addr
  y2 : Nat
  u1 : Option Addr
  v1 : Nat
  u2 : Option Addr
  v2 : Nat
/-- A search in memory. -/
structure SS (base : Nat) (W : World) (sb se N P : Nat) (t : TbS) (V : List Vis) (vis : Value) : Prop where
  sbx : W.heap[sb]? = some (.cells #[.slice t.x1 N t.y1, .slice t.x2 N t.y2, .slice t.u1 P t.v1, .slice t.u2 P t.v2, vis, .slice (some ⟨se, 0, none⟩) (N * P) (N * P)] 82 (0, 0))
  own : W.ownsRow base 85 4 vis V.length (V.flatMap vcs)
  seen : LB W se (snl N P V)
  osb : base ≤ sb
  ose : base ≤ se
theorem SS.keepF {base : Nat} {W W' : World} {sb se N P : Nat} {t : TbS} {V : List Vis} {vis : Value} (h : SS base W sb se N P t V vis) (h1 : ∀ k, k = sb ∨ k = se ∨ vis.ownBlock = some k → W'.heap[k]? = W.heap[k]?) : SS base W' sb se N P t V vis :=
  ⟨(h1 _ (.inl rfl)).trans h.sbx, ownsRow_keep h.own fun k hk => h1 k (.inr (.inr hk)), (h1 _ (.inr (.inl rfl))).trans h.seen, h.osb, h.ose⟩
theorem SS.keep {base : Nat} {W W' : World} {sb se N P : Nat} {t : TbS} {V : List Vis} {vis : Value} (h : SS base W sb se N P t V vis) (hb : Below W.heap.size W W') : SS base W' sb se N P t V vis :=
  h.keepF fun k hk => hb.block k (by
    rcases hk with rfl | rfl | hk
    · exact heap_lt h.sbx
    · exact heap_lt h.seen
    · exact (h.own.lt k hk).2)
set_option maxRecDepth 100000 in
set_option maxHeartbeats 8000000 in
theorem newSearch_any (w : World) (N P : Nat) (t : TbS) (hN : N ≤ 501) (hP : P ≤ 501) :
    Calls Try.prog 35 #[.agg #[.slice t.x1 N t.y1, .slice t.x2 N t.y2], .agg #[.slice t.u1 P t.v1, .slice t.u2 P t.v2]] w fun e w' => (∃ sb se, e = .returned (.pointer (some ⟨sb, 0, none⟩)) ∧ SS w.heap.size w' sb se N P t [] (.slice none 0 0)) ∧ Below w.heap.size w w' := by
  obtain ⟨x1, y1, x2, y2, u1, v1, u2, v2⟩ := t
  have hNP : N * P ≤ 501 * 501 := Nat.mul_le_mul hN hP
  have hmk : ∀ V : World, (Instr.makeSlice 79 (.int .i64 ((N : Int) * (P : Int))) (.int .i64 ((N : Int) * (P : Int)))).run Try.prog V = .ok (.slice (some ⟨V.heap.size, 0, none⟩) (N * P) (N * P)) (V.alloc (.cells (zb (N * P)) 4)) := fun V => by
    have := make_b V (N * P) (by omega)
    rwa [Int.natCast_mul] at this
  have hmul : IntKind.i64.wrap ((N : Int) * (P : Int)) = (N : Int) * (P : Int) := by rw [← Int.natCast_mul, wrapIn (by omega) (by omega)]
  obtain ⟨W, hW⟩ : ∃ W, W = (w.alloc (.cells #[.slice x1 N y1, .slice x2 N y2] 50)).alloc (.cells #[.slice u1 P v1, .slice u2 P v2] 50) := ⟨_, rfl⟩
  have hWx : W.heap[w.heap.size]? = some (.cells #[.slice x1 N y1, .slice x2 N y2] 50 (0, 0)) ∧ W.heap[w.heap.size + 1]? = some (.cells #[.slice u1 P v1, .slice u2 P v2] 50 (0, 0)) ∧ Below w.heap.size w W ∧ W.heap.size = w.heap.size + 2 := by
    have x1' := alloc_new w (.cells #[.slice x1 N y1, .slice x2 N y2] 50)
    rw [hW]
    refine ⟨blk_alloc x1', ?_, (bel1 _ _).alloc (by simp) _, by simp⟩
    have := alloc_new (w.alloc (.cells #[.slice x1 N y1, .slice x2 N y2] 50)) (.cells #[.slice u1 P v1, .slice u2 P v2] 50)
    rw [World.size_alloc] at this
    exact this
  have HW := hid hWx
  obtain ⟨d0, d1⟩ := cells2 hWx.1
  obtain ⟨e0, e1⟩ := cells2 hWx.2.1
  clear hWx
  dsimp only
  go_enter Try.func35, Try.ntmps35
  go_upto_region 1 with fail
  rw [← hW]
  clear hW
  refine region_inv (fun b a' w' => ∃ (x5 x6 x7 x8 x9 x10 x11 x12 x13 x14 x15 x16 x4 : Value), a' = { tmps := #[.agg #[.slice x1 N y1, .slice x2 N y2], .agg #[.slice u1 P v1, .slice u2 P v2], .pointer (some ⟨w.heap.size, 0, none⟩), .pointer (some ⟨w.heap.size + 1, 0, none⟩), x4, x5, x6, x7, x8, x9, x10, x11, x12, x13, x14, x15, x16], defers := [] } ∧ Below W.heap.size W w' ∧ (b 0 = true → x5 = .agg #[.slice x1 N y1, .slice x2 N y2]) ∧ (b 1 = true → x6 = .agg #[.slice u1 P v1, .slice u2 P v2]) ∧ (b 2 = true → x7 = .pointer (some ⟨w.heap.size, 0, none⟩)) ∧ (b 3 = true → x8 = .slice x1 N y1) ∧ (b 4 = true → x9 = .int .i64 (N : Int)) ∧ (b 5 = true → x10 = .pointer (some ⟨w.heap.size + 1, 0, none⟩)) ∧ (b 6 = true → x11 = .slice u1 P v1) ∧ (b 7 = true → x12 = .int .i64 (P : Int)) ∧ (b 8 = true → x13 = .int .i64 ((N : Int) * (P : Int))) ∧ (b 9 = true → ∃ se : Nat, x14 = .slice (some ⟨se, 0, none⟩) (N * P) (N * P) ∧ LB w' se (snl N P []) ∧ w.heap.size ≤ se) ∧ (b 10 = true → ∃ se : Nat, x15 = .agg #[.slice x1 N y1, .slice x2 N y2, .slice u1 P v1, .slice u2 P v2, .slice none 0 0, .slice (some ⟨se, 0, none⟩) (N * P) (N * P)] ∧ LB w' se (snl N P []) ∧ w.heap.size ≤ se) ∧ (b 11 = true → ∃ sb se : Nat, x16 = .pointer (some ⟨sb, 0, none⟩) ∧ SS w.heap.size w' sb se N P ⟨x1, y1, x2, y2, u1, v1, u2, v2⟩ [] (.slice none 0 0)) ∧ (b 12 = true → ∃ sb se : Nat, x4 = .pointer (some ⟨sb, 0, none⟩) ∧ SS w.heap.size w' sb se N P ⟨x1, y1, x2, y2, u1, v1, u2, v2⟩ [] (.slice none 0 0)) ∧ (b 3 = true → b 2 = true) ∧ (b 4 = true → b 3 = true) ∧ (b 6 = true → b 5 = true) ∧ (b 7 = true → b 6 = true) ∧ (b 8 = true → b 4 = true) ∧ (b 8 = true → b 7 = true) ∧ (b 9 = true → b 8 = true) ∧ (b 10 = true → b 0 = true) ∧ (b 10 = true → b 1 = true) ∧ (b 10 = true → b 9 = true) ∧ (b 11 = true → b 10 = true) ∧ (b 12 = true → b 11 = true)) (by kernel_rfl) (back_of (by kernel_rfl)) ?step ?done ?init
  case step =>
    rintro b a' w' i o ho ⟨x5, x6, x7, x8, x9, x10, x11, x12, x13, x14, x15, x16, x4, rfl, hk, h0, h1, h2, h3, h4, h5, h6, h7, h8, h9, h10, h11, h12, q3_2, q4_3, q6_5, q7_6, q8_4, q8_7, q9_8, q10_0, q10_1, q10_9, q11_10, q12_11⟩ hbi hd K hK
    have hlt : i < 13 := by have := (Array.getElem?_eq_some_iff.1 ho).1; simpa using this
    have dep : ∀ k, (o.after.any fun e => Region.binds .any e && e.on == k) = true → b k = true := fun k hk => by
      obtain ⟨e, he, h⟩ := Array.any_eq_true'.1 hk
      simp only [Bool.and_eq_true, beq_iff_eq] at h
      rw [← h.2]; exact hd e he h.1
    clear hd
    have hi : i = 0 ∨ i = 1 ∨ i = 2 ∨ i = 3 ∨ i = 4 ∨ i = 5 ∨ i = 6 ∨ i = 7 ∨ i = 8 ∨ i = 9 ∨ i = 10 ∨ i = 11 ∨ i = 12 := by omega
    clear hlt
    rcases hi with rfl | rfl | rfl | rfl | rfl | rfl | rfl | rfl | rfl | rfl | rfl | rfl | rfl
    · simp only [List.getElem?_toArray, List.getElem?_cons_zero, List.getElem?_cons_succ, Option.some.injEq] at ho
      subst ho
      obtain ⟨d0, d1⟩ := cells2 ((hk.block _ (heap_lt HW.out.1)).trans HW.out.1)
      go_simp
      refine hK.out _ _ ⟨_, _, _, _, _, _, _, _, _, _, _, _, _, rfl, hk, fun _ => rfl, fun h => h1 (by simpa using h), fun h => h2 (by simpa using h), fun h => h3 (by simpa using h), fun h => h4 (by simpa using h), fun h => h5 (by simpa using h), fun h => h6 (by simpa using h), fun h => h7 (by simpa using h), fun h => h8 (by simpa using h), fun h => h9 (by simpa using h), fun h => h10 (by simpa using h), fun h => h11 (by simpa using h), fun h => h12 (by simpa using h), fun h => by simp [q3_2 (by simpa using h)], fun h => by simp [q4_3 (by simpa using h)], fun h => by simp [q6_5 (by simpa using h)], fun h => by simp [q7_6 (by simpa using h)], fun h => by simp [q8_4 (by simpa using h)], fun h => by simp [q8_7 (by simpa using h)], fun h => by simp [q9_8 (by simpa using h)], fun h => by simp [q10_0 (by simpa using h)], fun h => by simp [q10_1 (by simpa using h)], fun h => by simp [q10_9 (by simpa using h)], fun h => by simp [q11_10 (by simpa using h)], fun h => by simp [q12_11 (by simpa using h)]⟩
    · simp only [List.getElem?_toArray, List.getElem?_cons_zero, List.getElem?_cons_succ, Option.some.injEq] at ho
      subst ho
      obtain ⟨e0, e1⟩ := cells2 ((hk.block _ (heap_lt HW.out.2.1)).trans HW.out.2.1)
      go_simp
      refine hK.out _ _ ⟨_, _, _, _, _, _, _, _, _, _, _, _, _, rfl, hk, fun h => h0 (by simpa using h), fun _ => rfl, fun h => h2 (by simpa using h), fun h => h3 (by simpa using h), fun h => h4 (by simpa using h), fun h => h5 (by simpa using h), fun h => h6 (by simpa using h), fun h => h7 (by simpa using h), fun h => h8 (by simpa using h), fun h => h9 (by simpa using h), fun h => h10 (by simpa using h), fun h => h11 (by simpa using h), fun h => h12 (by simpa using h), fun h => by simp [q3_2 (by simpa using h)], fun h => by simp [q4_3 (by simpa using h)], fun h => by simp [q6_5 (by simpa using h)], fun h => by simp [q7_6 (by simpa using h)], fun h => by simp [q8_4 (by simpa using h)], fun h => by simp [q8_7 (by simpa using h)], fun h => by simp [q9_8 (by simpa using h)], fun h => by simp [q10_0 (by simpa using h)], fun h => by simp [q10_1 (by simpa using h)], fun h => by simp [q10_9 (by simpa using h)], fun h => by simp [q11_10 (by simpa using h)], fun h => by simp [q12_11 (by simpa using h)]⟩
    · simp only [List.getElem?_toArray, List.getElem?_cons_zero, List.getElem?_cons_succ, Option.some.injEq] at ho
      subst ho
      go_simp
      refine hK.out _ _ ⟨_, _, _, _, _, _, _, _, _, _, _, _, _, rfl, hk, fun h => h0 (by simpa using h), fun h => h1 (by simpa using h), fun _ => rfl, fun h => h3 (by simpa using h), fun h => h4 (by simpa using h), fun h => h5 (by simpa using h), fun h => h6 (by simpa using h), fun h => h7 (by simpa using h), fun h => h8 (by simpa using h), fun h => h9 (by simpa using h), fun h => h10 (by simpa using h), fun h => h11 (by simpa using h), fun h => h12 (by simpa using h), fun h => by simp [q3_2 (by simpa using h)], fun h => by simp [q4_3 (by simpa using h)], fun h => by simp [q6_5 (by simpa using h)], fun h => by simp [q7_6 (by simpa using h)], fun h => by simp [q8_4 (by simpa using h)], fun h => by simp [q8_7 (by simpa using h)], fun h => by simp [q9_8 (by simpa using h)], fun h => by simp [q10_0 (by simpa using h)], fun h => by simp [q10_1 (by simpa using h)], fun h => by simp [q10_9 (by simpa using h)], fun h => by simp [q11_10 (by simpa using h)], fun h => by simp [q12_11 (by simpa using h)]⟩
    · simp only [List.getElem?_toArray, List.getElem?_cons_zero, List.getElem?_cons_succ, Option.some.injEq] at ho
      subst ho
      have e_2 := dep 2 (by kernel_rfl)
      obtain rfl := h2 e_2
      obtain ⟨d0, d1⟩ := cells2 ((hk.block _ (heap_lt HW.out.1)).trans HW.out.1)
      go_simp
      refine hK.out _ _ ⟨_, _, _, _, _, _, _, _, _, _, _, _, _, rfl, hk, fun h => h0 (by simpa using h), fun h => h1 (by simpa using h), fun _ => rfl, fun _ => rfl, fun h => h4 (by simpa using h), fun h => h5 (by simpa using h), fun h => h6 (by simpa using h), fun h => h7 (by simpa using h), fun h => h8 (by simpa using h), fun h => h9 (by simpa using h), fun h => h10 (by simpa using h), fun h => h11 (by simpa using h), fun h => h12 (by simpa using h), fun _ => by simp [e_2], fun h => by simp [q4_3 (by simpa using h)], fun h => by simp [q6_5 (by simpa using h)], fun h => by simp [q7_6 (by simpa using h)], fun h => by simp [q8_4 (by simpa using h)], fun h => by simp [q8_7 (by simpa using h)], fun h => by simp [q9_8 (by simpa using h)], fun h => by simp [q10_0 (by simpa using h)], fun h => by simp [q10_1 (by simpa using h)], fun h => by simp [q10_9 (by simpa using h)], fun h => by simp [q11_10 (by simpa using h)], fun h => by simp [q12_11 (by simpa using h)]⟩
    · simp only [List.getElem?_toArray, List.getElem?_cons_zero, List.getElem?_cons_succ, Option.some.injEq] at ho
      subst ho
      have e_3 := dep 3 (by kernel_rfl)
      have e_2 := q3_2 e_3
      obtain rfl := h2 e_2
      obtain rfl := h3 e_3
      go_simp
      refine hK.out _ _ ⟨_, _, _, _, _, _, _, _, _, _, _, _, _, rfl, hk, fun h => h0 (by simpa using h), fun h => h1 (by simpa using h), fun _ => rfl, fun _ => rfl, fun _ => rfl, fun h => h5 (by simpa using h), fun h => h6 (by simpa using h), fun h => h7 (by simpa using h), fun h => h8 (by simpa using h), fun h => h9 (by simpa using h), fun h => h10 (by simpa using h), fun h => h11 (by simpa using h), fun h => h12 (by simpa using h), fun h => by simp [q3_2 (by simpa using h)], fun _ => by simp [e_3], fun h => by simp [q6_5 (by simpa using h)], fun h => by simp [q7_6 (by simpa using h)], fun h => by simp [q8_4 (by simpa using h)], fun h => by simp [q8_7 (by simpa using h)], fun h => by simp [q9_8 (by simpa using h)], fun h => by simp [q10_0 (by simpa using h)], fun h => by simp [q10_1 (by simpa using h)], fun h => by simp [q10_9 (by simpa using h)], fun h => by simp [q11_10 (by simpa using h)], fun h => by simp [q12_11 (by simpa using h)]⟩
    · simp only [List.getElem?_toArray, List.getElem?_cons_zero, List.getElem?_cons_succ, Option.some.injEq] at ho
      subst ho
      go_simp
      refine hK.out _ _ ⟨_, _, _, _, _, _, _, _, _, _, _, _, _, rfl, hk, fun h => h0 (by simpa using h), fun h => h1 (by simpa using h), fun h => h2 (by simpa using h), fun h => h3 (by simpa using h), fun h => h4 (by simpa using h), fun _ => rfl, fun h => h6 (by simpa using h), fun h => h7 (by simpa using h), fun h => h8 (by simpa using h), fun h => h9 (by simpa using h), fun h => h10 (by simpa using h), fun h => h11 (by simpa using h), fun h => h12 (by simpa using h), fun h => by simp [q3_2 (by simpa using h)], fun h => by simp [q4_3 (by simpa using h)], fun h => by simp [q6_5 (by simpa using h)], fun h => by simp [q7_6 (by simpa using h)], fun h => by simp [q8_4 (by simpa using h)], fun h => by simp [q8_7 (by simpa using h)], fun h => by simp [q9_8 (by simpa using h)], fun h => by simp [q10_0 (by simpa using h)], fun h => by simp [q10_1 (by simpa using h)], fun h => by simp [q10_9 (by simpa using h)], fun h => by simp [q11_10 (by simpa using h)], fun h => by simp [q12_11 (by simpa using h)]⟩
    · simp only [List.getElem?_toArray, List.getElem?_cons_zero, List.getElem?_cons_succ, Option.some.injEq] at ho
      subst ho
      have e_5 := dep 5 (by kernel_rfl)
      obtain rfl := h5 e_5
      obtain ⟨e0, e1⟩ := cells2 ((hk.block _ (heap_lt HW.out.2.1)).trans HW.out.2.1)
      go_simp
      refine hK.out _ _ ⟨_, _, _, _, _, _, _, _, _, _, _, _, _, rfl, hk, fun h => h0 (by simpa using h), fun h => h1 (by simpa using h), fun h => h2 (by simpa using h), fun h => h3 (by simpa using h), fun h => h4 (by simpa using h), fun _ => rfl, fun _ => rfl, fun h => h7 (by simpa using h), fun h => h8 (by simpa using h), fun h => h9 (by simpa using h), fun h => h10 (by simpa using h), fun h => h11 (by simpa using h), fun h => h12 (by simpa using h), fun h => by simp [q3_2 (by simpa using h)], fun h => by simp [q4_3 (by simpa using h)], fun _ => by simp [e_5], fun h => by simp [q7_6 (by simpa using h)], fun h => by simp [q8_4 (by simpa using h)], fun h => by simp [q8_7 (by simpa using h)], fun h => by simp [q9_8 (by simpa using h)], fun h => by simp [q10_0 (by simpa using h)], fun h => by simp [q10_1 (by simpa using h)], fun h => by simp [q10_9 (by simpa using h)], fun h => by simp [q11_10 (by simpa using h)], fun h => by simp [q12_11 (by simpa using h)]⟩
    · simp only [List.getElem?_toArray, List.getElem?_cons_zero, List.getElem?_cons_succ, Option.some.injEq] at ho
      subst ho
      have e_6 := dep 6 (by kernel_rfl)
      have e_5 := q6_5 e_6
      obtain rfl := h5 e_5
      obtain rfl := h6 e_6
      go_simp
      refine hK.out _ _ ⟨_, _, _, _, _, _, _, _, _, _, _, _, _, rfl, hk, fun h => h0 (by simpa using h), fun h => h1 (by simpa using h), fun h => h2 (by simpa using h), fun h => h3 (by simpa using h), fun h => h4 (by simpa using h), fun _ => rfl, fun _ => rfl, fun _ => rfl, fun h => h8 (by simpa using h), fun h => h9 (by simpa using h), fun h => h10 (by simpa using h), fun h => h11 (by simpa using h), fun h => h12 (by simpa using h), fun h => by simp [q3_2 (by simpa using h)], fun h => by simp [q4_3 (by simpa using h)], fun h => by simp [q6_5 (by simpa using h)], fun _ => by simp [e_6], fun h => by simp [q8_4 (by simpa using h)], fun h => by simp [q8_7 (by simpa using h)], fun h => by simp [q9_8 (by simpa using h)], fun h => by simp [q10_0 (by simpa using h)], fun h => by simp [q10_1 (by simpa using h)], fun h => by simp [q10_9 (by simpa using h)], fun h => by simp [q11_10 (by simpa using h)], fun h => by simp [q12_11 (by simpa using h)]⟩
    · simp only [List.getElem?_toArray, List.getElem?_cons_zero, List.getElem?_cons_succ, Option.some.injEq] at ho
      subst ho
      have e_4 := dep 4 (by kernel_rfl)
      have e_7 := dep 7 (by kernel_rfl)
      have e_3 := q4_3 e_4
      have e_6 := q7_6 e_7
      have e_2 := q3_2 e_3
      have e_5 := q6_5 e_6
      obtain rfl := h2 e_2
      obtain rfl := h3 e_3
      obtain rfl := h4 e_4
      obtain rfl := h5 e_5
      obtain rfl := h6 e_6
      obtain rfl := h7 e_7
      go_simp
      refine hK.out _ _ ⟨_, _, _, _, _, _, _, _, _, _, _, _, _, rfl, hk, fun h => h0 (by simpa using h), fun h => h1 (by simpa using h), fun _ => rfl, fun _ => rfl, fun _ => rfl, fun _ => rfl, fun _ => rfl, fun _ => rfl, fun _ => rfl, fun h => h9 (by simpa using h), fun h => h10 (by simpa using h), fun h => h11 (by simpa using h), fun h => h12 (by simpa using h), fun h => by simp [q3_2 (by simpa using h)], fun h => by simp [q4_3 (by simpa using h)], fun h => by simp [q6_5 (by simpa using h)], fun h => by simp [q7_6 (by simpa using h)], fun _ => by simp [e_4], fun _ => by simp [e_7], fun h => by simp [q9_8 (by simpa using h)], fun h => by simp [q10_0 (by simpa using h)], fun h => by simp [q10_1 (by simpa using h)], fun h => by simp [q10_9 (by simpa using h)], fun h => by simp [q11_10 (by simpa using h)], fun h => by simp [q12_11 (by simpa using h)]⟩
    · simp only [List.getElem?_toArray, List.getElem?_cons_zero, List.getElem?_cons_succ, Option.some.injEq] at ho
      subst ho
      have e_8 := dep 8 (by kernel_rfl)
      have e_4 := q8_4 e_8
      have e_7 := q8_7 e_8
      have e_3 := q4_3 e_4
      have e_6 := q7_6 e_7
      have e_2 := q3_2 e_3
      have e_5 := q6_5 e_6
      obtain rfl := h2 e_2
      obtain rfl := h3 e_3
      obtain rfl := h4 e_4
      obtain rfl := h5 e_5
      obtain rfl := h6 e_6
      obtain rfl := h7 e_7
      obtain rfl := h8 e_8
      have b5 := bel1 w' (.cells (zb (N * P)) 4)
      go_simp
      refine hK.out _ _ ⟨_, _, _, _, _, _, _, _, _, _, _, _, _, rfl, hk.trans (b5.mono hk.size), fun h => h0 (by simpa using h), fun h => h1 (by simpa using h), fun _ => rfl, fun _ => rfl, fun _ => rfl, fun _ => rfl, fun _ => rfl, fun _ => rfl, fun _ => rfl, fun _ => ⟨w'.heap.size, rfl, by rw [snl_nil]; exact alloc_new _ _, Nat.le_trans HW.out.2.2.1.size hk.size⟩, fun h => (by obtain ⟨se, g1, g2, g3⟩ := (h10 (by simpa using h)); exact ⟨se, g1, (b5.block _ (heap_lt g2)).trans g2, g3⟩), fun h => (by obtain ⟨sb, se, g1, g2⟩ := (h11 (by simpa using h)); exact ⟨sb, se, g1, g2.keep b5⟩), fun h => (by obtain ⟨sb, se, g1, g2⟩ := (h12 (by simpa using h)); exact ⟨sb, se, g1, g2.keep b5⟩), fun h => by simp [q3_2 (by simpa using h)], fun h => by simp [q4_3 (by simpa using h)], fun h => by simp [q6_5 (by simpa using h)], fun h => by simp [q7_6 (by simpa using h)], fun h => by simp [q8_4 (by simpa using h)], fun h => by simp [q8_7 (by simpa using h)], fun _ => by simp [e_8], fun h => by simp [q10_0 (by simpa using h)], fun h => by simp [q10_1 (by simpa using h)], fun h => by simp [q10_9 (by simpa using h)], fun h => by simp [q11_10 (by simpa using h)], fun h => by simp [q12_11 (by simpa using h)]⟩
    · simp only [List.getElem?_toArray, List.getElem?_cons_zero, List.getElem?_cons_succ, Option.some.injEq] at ho
      subst ho
      have e_0 := dep 0 (by kernel_rfl)
      have e_1 := dep 1 (by kernel_rfl)
      have e_9 := dep 9 (by kernel_rfl)
      have e_8 := q9_8 e_9
      have e_4 := q8_4 e_8
      have e_7 := q8_7 e_8
      have e_3 := q4_3 e_4
      have e_6 := q7_6 e_7
      have e_2 := q3_2 e_3
      have e_5 := q6_5 e_6
      obtain rfl := h0 e_0
      obtain rfl := h1 e_1
      obtain rfl := h2 e_2
      obtain rfl := h3 e_3
      obtain rfl := h4 e_4
      obtain rfl := h5 e_5
      obtain rfl := h6 e_6
      obtain rfl := h7 e_7
      obtain rfl := h8 e_8
      obtain ⟨se, rfl, g2, g3⟩ := h9 e_9
      have H9 := hid (And.intro g2 g3)
      go_simp
      refine hK.out _ _ ⟨_, _, _, _, _, _, _, _, _, _, _, _, _, rfl, hk, fun _ => rfl, fun _ => rfl, fun _ => rfl, fun _ => rfl, fun _ => rfl, fun _ => rfl, fun _ => rfl, fun _ => rfl, fun _ => rfl, fun _ => ⟨se, rfl, g2, g3⟩, fun _ => ⟨se, rfl, g2, g3⟩, fun h => h11 (by simpa using h), fun h => h12 (by simpa using h), fun h => by simp [q3_2 (by simpa using h)], fun h => by simp [q4_3 (by simpa using h)], fun h => by simp [q6_5 (by simpa using h)], fun h => by simp [q7_6 (by simpa using h)], fun h => by simp [q8_4 (by simpa using h)], fun h => by simp [q8_7 (by simpa using h)], fun h => by simp [q9_8 (by simpa using h)], fun _ => by simp [e_0], fun _ => by simp [e_1], fun _ => by simp [e_9], fun h => by simp [q11_10 (by simpa using h)], fun h => by simp [q12_11 (by simpa using h)]⟩
    · simp only [List.getElem?_toArray, List.getElem?_cons_zero, List.getElem?_cons_succ, Option.some.injEq] at ho
      subst ho
      have e_10 := dep 10 (by kernel_rfl)
      have e_0 := q10_0 e_10
      have e_1 := q10_1 e_10
      have e_9 := q10_9 e_10
      have e_8 := q9_8 e_9
      have e_4 := q8_4 e_8
      have e_7 := q8_7 e_8
      have e_3 := q4_3 e_4
      have e_6 := q7_6 e_7
      have e_2 := q3_2 e_3
      have e_5 := q6_5 e_6
      obtain rfl := h0 e_0
      obtain rfl := h1 e_1
      obtain rfl := h2 e_2
      obtain rfl := h3 e_3
      obtain rfl := h4 e_4
      obtain rfl := h5 e_5
      obtain rfl := h6 e_6
      obtain rfl := h7 e_7
      obtain rfl := h8 e_8
      obtain ⟨se, rfl, g2, g3⟩ := h10 e_10
      have b5 := bel1 w' (.cells #[.slice x1 N y1, .slice x2 N y2, .slice u1 P v1, .slice u2 P v2, .slice none 0 0, .slice (some ⟨se, 0, none⟩) (N * P) (N * P)] 82)
      go_simp
      refine hK.out _ _ ⟨_, _, _, _, _, _, _, _, _, _, _, _, _, rfl, hk.trans (b5.mono hk.size), fun _ => rfl, fun _ => rfl, fun _ => rfl, fun _ => rfl, fun _ => rfl, fun _ => rfl, fun _ => rfl, fun _ => rfl, fun _ => rfl, fun h => (by obtain ⟨se, g1, g2, g3⟩ := (h9 (by simpa using h)); exact ⟨se, g1, (b5.block _ (heap_lt g2)).trans g2, g3⟩), fun _ => ⟨se, rfl, (b5.block _ (heap_lt g2)).trans g2, g3⟩, fun _ => ⟨w'.heap.size, se, rfl, ⟨alloc_new _ _, World.ownsRow_nil _ _ _ _, (b5.block _ (heap_lt g2)).trans g2, Nat.le_trans HW.out.2.2.1.size hk.size, g3⟩⟩, fun h => (by obtain ⟨sb, se, g1, g2⟩ := (h12 (by simpa using h)); exact ⟨sb, se, g1, g2.keep b5⟩), fun h => by simp [q3_2 (by simpa using h)], fun h => by simp [q4_3 (by simpa using h)], fun h => by simp [q6_5 (by simpa using h)], fun h => by simp [q7_6 (by simpa using h)], fun h => by simp [q8_4 (by simpa using h)], fun h => by simp [q8_7 (by simpa using h)], fun h => by simp [q9_8 (by simpa using h)], fun h => by simp [q10_0 (by simpa using h)], fun h => by simp [q10_1 (by simpa using h)], fun h => by simp [q10_9 (by simpa using h)], fun _ => by simp [e_10], fun h => by simp [q12_11 (by simpa using h)]⟩
    · simp only [List.getElem?_toArray, List.getElem?_cons_zero, List.getElem?_cons_succ, Option.some.injEq] at ho
      subst ho
      have e_11 := dep 11 (by kernel_rfl)
      have e_10 := q11_10 e_11
      have e_0 := q10_0 e_10
      have e_1 := q10_1 e_10
      have e_9 := q10_9 e_10
      have e_8 := q9_8 e_9
      have e_4 := q8_4 e_8
      have e_7 := q8_7 e_8
      have e_3 := q4_3 e_4
      have e_6 := q7_6 e_7
      have e_2 := q3_2 e_3
      have e_5 := q6_5 e_6
      obtain rfl := h0 e_0
      obtain rfl := h1 e_1
      obtain rfl := h2 e_2
      obtain rfl := h3 e_3
      obtain rfl := h4 e_4
      obtain rfl := h5 e_5
      obtain rfl := h6 e_6
      obtain rfl := h7 e_7
      obtain rfl := h8 e_8
      obtain ⟨sb, se, rfl, g2⟩ := h11 e_11
      go_simp
      refine hK.out _ _ ⟨_, _, _, _, _, _, _, _, _, _, _, _, _, rfl, hk, fun _ => rfl, fun _ => rfl, fun _ => rfl, fun _ => rfl, fun _ => rfl, fun _ => rfl, fun _ => rfl, fun _ => rfl, fun _ => rfl, fun h => h9 (by simpa using h), fun h => h10 (by simpa using h), fun _ => ⟨sb, se, rfl, g2⟩, fun _ => ⟨sb, se, rfl, g2⟩, fun h => by simp [q3_2 (by simpa using h)], fun h => by simp [q4_3 (by simpa using h)], fun h => by simp [q6_5 (by simpa using h)], fun h => by simp [q7_6 (by simpa using h)], fun h => by simp [q8_4 (by simpa using h)], fun h => by simp [q8_7 (by simpa using h)], fun h => by simp [q9_8 (by simpa using h)], fun h => by simp [q10_0 (by simpa using h)], fun h => by simp [q10_1 (by simpa using h)], fun h => by simp [q10_9 (by simpa using h)], fun h => by simp [q11_10 (by simpa using h)], fun _ => by simp [e_11]⟩
  case done =>
    rintro b a' w' ⟨x5, x6, x7, x8, x9, x10, x11, x12, x13, x14, x15, x16, x4, rfl, hk, h0, h1, h2, h3, h4, h5, h6, h7, h8, h9, h10, h11, h12, q3_2, q4_3, q6_5, q7_6, q8_4, q8_7, q9_8, q10_0, q10_1, q10_9, q11_10, q12_11⟩ hall
    obtain ⟨sb, se, rfl, g2⟩ := h12 (hall 12)
    have HD := hid (And.intro g2 hk)
    clear h0 h1 h2 h3 h4 h5 h6 h7 h8 h9 h10 h11 h12 g2 hk hall
    go_wp2
    go_ret
    exact ⟨⟨sb, se, rfl, HD.out.1⟩, HW.out.2.2.1.trans (HD.out.2.mono HW.out.2.2.1.size)⟩
  case init =>
    exact ⟨_, _, _, _, _, _, _, _, _, _, _, _, _, rfl, (Below.refl _ _).drew, fun h => absurd h (by simp), fun h => absurd h (by simp), fun h => absurd h (by simp), fun h => absurd h (by simp), fun h => absurd h (by simp), fun h => absurd h (by simp), fun h => absurd h (by simp), fun h => absurd h (by simp), fun h => absurd h (by simp), fun h => absurd h (by simp), fun h => absurd h (by simp), fun h => absurd h (by simp), fun h => absurd h (by simp), fun h => absurd h (by simp), fun h => absurd h (by simp), fun h => absurd h (by simp), fun h => absurd h (by simp), fun h => absurd h (by simp), fun h => absurd h (by simp), fun h => absurd h (by simp), fun h => absurd h (by simp), fun h => absurd h (by simp), fun h => absurd h (by simp), fun h => absurd h (by simp), fun h => absurd h (by simp)⟩
end Go.Proofs.Ytelbagaiijffdaa
