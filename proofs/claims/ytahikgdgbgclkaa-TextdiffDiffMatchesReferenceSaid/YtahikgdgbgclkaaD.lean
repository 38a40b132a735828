/-
  Contract: newTable.
-/
import Derived.Test.YtahikgdgbgclkaaC
import Derived.Shelf.Abstract
set_option linter.unusedSimpArgs false
set_option linter.unusedVariables false
namespace Go.Proofs.Ytahikgdgbgclkaa
open Go.RowKit Te Go.Frame Go.Shelf

attribute [local go_sem] Oper.semAt_some

theorem info21 : (Try.prog.info? 21).map (fun i => (i.zero, i.size, i.bytes)) = some (some (.int .i32 0), 1, 4) := by kernel_rfl
/-- The cells of a table. -/
def tc (N : Nat) (T : Nat → Int) : Array Value := (Array.range N).map fun t => .int .i32 (T t)
theorem make_tab (n : Nat) (hn : n ≤ 1000000000) (w : World) :
    (Instr.makeSlice 38 (.int .i64 (n : Int)) (.int .i64 (n : Int))).run Try.prog w = .ok (.slice (some ⟨w.heap.size, 0, none⟩) n n) (w.alloc (.cells (tc n fun _ => 0) 21)) := by
  obtain ⟨i, hi, h0, h1, h2⟩ := info_parts info21
  have := run_make (P := Try.prog) w 38 21 i _ Try.underlying38 hi h0 .i64 .i64 n n (by omega) (Int.le_refl _) (by rw [h2]; omega) (by omega)
  rw [h1, show (Value.int .i32 0).cells = #[.int .i32 0] by kernel_rfl] at this
  have e : madeCells #[Value.int .i32 0] n = tc n fun _ => 0 := by
    unfold madeCells tc
    congr 1
    funext t
    rw [show (#[Value.int .i32 0] : Array Value).size = 1 from rfl, Nat.mod_one]
    rfl
  simpa [e] using this
theorem tc_at {N t : Nat} (T : Nat → Int) (h : t < N) : (tc N T)[t]? = some (.int .i32 (T t)) := by
  unfold tc
  rw [Array.getElem?_map, Array.getElem?_eq_getElem (by simpa using h)]
  simp
theorem tc_upd {N k : Nat} (T : Nat → Int) (z : Int) : (tc N T).setIfInBounds k (.int .i32 z) = tc N (upd T k z) := by
  apply Array.ext_getElem?
  intro i
  rw [Array.getElem?_setIfInBounds]
  have hs : ∀ T, (tc N T).size = N := fun T => by simp [tc]
  by_cases hi : i < N
  · rw [tc_at _ hi, tc_at _ hi]
    by_cases e : k = i
    · rw [if_pos e, if_pos (by rw [hs]; omega)]
      simp [upd, e]
    · rw [if_neg e]
      have e' : ¬ i = k := fun h => e h.symm
      simp [upd, e']
  · rw [Array.getElem?_eq_none (by rw [hs]; omega), Array.getElem?_eq_none (by rw [hs]; omega)]
    by_cases e : k = i
    · rw [if_pos e, if_neg (by rw [hs]; omega)]
    · rw [if_neg e]
theorem tb_of {W : World} {g N : Nat} {T : Nat → Int} (h : W.heap[g]? = some (.cells (tc N T) 21 (0, 0))) (hT : ∀ t, -2147483648 ≤ T t ∧ T t ≤ 2147483647) : Tb W g N T :=
  ⟨heap_lt h, fun t ht => by simp only [World.cell?, h]; exact tc_at T ht, hT⟩
theorem own_block {A B : World} {row : Option Nat} {b : Nat} {c : Array Value} {t : TypeId} {f : Nat × Nat} (h : A.heap[b]? = some (.cells c t f)) (hg : A.grownBy B row) (hr : ∀ r, row = some r → ∃ o : Obj, A.heap[r]? = some o ∧ o.isCells = false) : B.heap[b]? = some (.cells c t f) := by
  refine (hg.block b (heap_lt h) ?_).trans h
  intro e
  obtain ⟨o, ho, hc⟩ := hr b e.symm
  rw [h] at ho; cases ho; cases hc
theorem keeps_below {W W' : World} (h : Below W.heap.size W W') : KeepsOthers W W' := ⟨h.size, fun k o hk _ => (h.block k (heap_lt hk)).trans hk⟩
/-- What newTable comes to. -/
def NtRes (a b : ByteArray) (w : World) (e : Ending) (w' : World) : Prop :=
  (∃ g T, e = .returned (tbv a b g (nn a b)) ∧ Tb w' g (nn a b) T ∧ (∀ i j, i ≤ a.size → j ≤ b.size → T (ix b i j) = (D a b i j : Int)) ∧ w.heap.size ≤ g) ∧ Below w.heap.size w w'

set_option maxRecDepth 100000 in
set_option maxHeartbeats 4000000 in
theorem newTable_any (a b : ByteArray) (w : World) (ha : a.size ≤ 10000) (hb : b.size ≤ 10000) : Calls Try.prog 21 #[.string a, .string b] w fun e w' => NtRes a b w e w' := by
  have hn := nn_le ha hb
  have hmk := make_tab (nn a b) (by omega)
  have e1 : IntKind.i64.wrap (((a.size : Int) + 1) * ((b.size : Int) + 1)) = (nn a b : Int) := by
    have : ((a.size : Int) + 1) * ((b.size : Int) + 1) = (nn a b : Int) := by unfold nn; push_cast; rfl
    rw [this]; exact wrapIn (by omega) (by omega)
  have a1 : (a.size : Int) ≤ 10000 := by omega
  have b1 : (b.size : Int) ≤ 10000 := by omega
  refine (callsIn_wide (n := 6)).1 ?_
  refine callsIn_of_wp_marks Try.func21 rfl trivial ?_ rfl
  simp only [Try.ntmps21, List.size_toArray, List.length_cons, List.length_nil, Nat.reduceAdd, Nat.reduceSub, Array.replicate_succ, Array.replicate_zero, List.push_toArray, List.append_toArray, List.nil_append, List.cons_append]
  refine wpIn_wide.2 ?_
  go_wp2_with (go_at_call 30; refine (suffixPairs_any a b _).mono ?_; rintro e w3 ⟨rfl, rfl⟩)
  have ne : ¬ w.heap.size + 1 + 1 = w.heap.size + 1 + 1 + 1 := by omega
  obtain ⟨W, hW⟩ : ∃ W : World, W = (((((w.alloc (.cells #[.string { data := #[] }, .string { data := #[] }, .slice none 0 0] 40)).alloc (.cells (tc (nn a b) fun _ => 0) 21)).alloc (.cells #[.string a, .string b, .slice (some ⟨w.heap.size + 1, 0, none⟩) (nn a b) (nn a b)] 40)).alloc (.cells #[.string a] 9)).alloc (.cells #[.string b] 9)) := ⟨_, rfl⟩
  have bW : Below w.heap.size w W := by rw [hW]; exact (((((Below.refl _ _).alloc (Nat.le_refl _) _).alloc (by simp) _).alloc (by simp; omega) _).alloc (by simp; omega) _).alloc (by simp; omega) _
  have hsz : W.heap.size = w.heap.size + 5 := by rw [hW]; simp
  have xZ : W.heap[w.heap.size]? = some (.cells #[.string { data := #[] }, .string { data := #[] }, .slice none 0 0] 40 (0, 0)) := by rw [hW]; exact blk_alloc (blk_alloc (blk_alloc (blk_alloc (alloc_new _ _))))
  have xG : W.heap[w.heap.size + 1]? = some (.cells (tc (nn a b) fun _ => 0) 21 (0, 0)) := by rw [hW]; exact blk_alloc (blk_alloc (blk_alloc (alloc_at _ _ (by simp))))
  have xX : W.heap[w.heap.size + 1 + 1]? = some (.cells #[.string a, .string b, .slice (some ⟨w.heap.size + 1, 0, none⟩) (nn a b) (nn a b)] 40 (0, 0)) := by rw [hW]; exact blk_alloc (blk_alloc (alloc_at _ _ (by simp)))
  have xA : W.heap[w.heap.size + 1 + 1 + 1]? = some (.cells #[.string a] 9 (0, 0)) := by rw [hW]; exact blk_alloc (alloc_at _ _ (by simp))
  have xB : W.heap[w.heap.size + 1 + 1 + 1 + 1]? = some (.cells #[.string b] 9 (0, 0)) := by rw [hW]; exact alloc_at _ _ (by simp)
  have HW := hid hW
  rw [← HW.out]
  clear hW
  refine (wpIn_wide (n := 6)).1 ?_
  refine wpIn_rangeFunc_ownF (n := 6) rfl (by omega) (gf := 34) (lb := #[.pointer (some ⟨w.heap.size + 1 + 1 + 1, 0, none⟩), .pointer (some ⟨w.heap.size + 1 + 1 + 1 + 1, 0, none⟩)]) rfl trivial (enters_of Try.func34 (by kernel_rfl) rfl)
    (pairs_stops 5 (w.heap.size + 1 + 1 + 1) (w.heap.size + 1 + 1 + 1 + 1) (by omega) W a b ha hb (by omega) (by omega) (cells1 xA) (cells1 xB)) Two.trans
    (fun X l o o' hl h _ _ => ⟨World.putObj_heap_other (by omega), World.putObj_heap_other (by omega)⟩) (Below.refl _ _) (fun _ => rfl)
    (fun pre W' => (W'.heap[w.heap.size]? = some (.cells #[.string { data := #[] }, .string { data := #[] }, .slice none 0 0] 40 (0, 0)) ∧ W'.heap[w.heap.size + 1]? = some (.cells (tc (nn a b) (tabf a b pre)) 21 (0, 0)) ∧
      W'.heap[w.heap.size + 1 + 1]? = some (.cells #[.string a, .string b, .slice (some ⟨w.heap.size + 1, 0, none⟩) (nn a b) (nn a b)] 40 (0, 0)) ∧ w.heap.size + 5 ≤ W'.heap.size) ∧ Below w.heap.size w W')
    (fun _ _ _ => False)
    (OwnFrom.and (fun s A B row hs hg hr => ⟨own_block hs.1 hg (fun r e => (hr r e).2), own_block hs.2.1 hg (fun r e => (hr r e).2), own_block hs.2.2.1 hg (fun r e => (hr r e).2), Nat.le_trans hs.2.2.2 hg.size⟩) (ownFrom_below (Nat.le_refl _) (by omega)))
    (fun _ _ _ _ _ hs _ _ => hs)
    ⟨⟨xZ, xG, xX, by omega⟩, bW⟩
    (fun x => { tmps := #[.string a, .string b, undef, undef, .pointer (some ⟨w.heap.size, 0, none⟩), .pointer (some ⟨w.heap.size + 1 + 1, 0, none⟩), .int .i64 (x.1.1 : Int), .int .i64 (x.1.2 : Int), .string a, .string b,
      .string a, .int .i64 (a.size : Int), .int .i64 ((a.size : Int) + 1), .string b, .int .i64 (b.size : Int), .int .i64 ((b.size : Int) + 1), .int .i64 (nn a b : Int),
      .slice (some ⟨w.heap.size + 1, 0, none⟩) (nn a b) (nn a b), .agg #[.string a, .string b, .slice (some ⟨w.heap.size + 1, 0, none⟩) (nn a b) (nn a b)], .string a, .string b,
      .func (.func 34) #[] #[.pointer (some ⟨w.heap.size + 1 + 1 + 1, 0, none⟩), .pointer (some ⟨w.heap.size + 1 + 1 + 1 + 1, 0, none⟩)],
      .int .i64 (x.1.1 : Int), .int .i64 (x.1.2 : Int), undef, undef, undef, undef, undef, undef, undef, undef, undef, undef, undef, undef, undef], defers := [] }) ?assign ?body ?done ?stop
  case assign =>
    intro l x W K hK
    unfold encP
    gi_wp2
    exact hK
  case body =>
    rintro l pre ⟨⟨i, j⟩, hi, hj⟩ W' ⟨⟨gZ, gG, gX, hS⟩, hB⟩ hpl
    simp only at hi hj
    have hx := ix_lt (a := a) (b := b) hi hj
    have x0 : (0 : Int) ≤ (ix b i j : Int) := by omega
    have x1 : ((ix b i j : Nat) : Int) < ((nn a b : Nat) : Int) := by omega
    have KX := hid (fun V (hV : Below W'.heap.size W' V) => cells3 ((hV.block _ (heap_lt gX)).trans gX))
    have KG := hid (fun V (hV : Below W'.heap.size W' V) => (hV.block _ (heap_lt gG)).trans gG)
    have CA := hid (show ∀ V, Below W'.heap.size W' V → Calls Try.prog 32 #[.agg #[.string a, .string b, .slice (some ⟨w.heap.size + 1, 0, none⟩) (nn a b) (nn a b)], .int .i64 (i : Int), .int .i64 (j : Int)] V fun e w'' => e = .returned (.int .i64 (ix b i j : Int)) ∧ Below V.heap.size V w'' from
      fun V hV => index_any a b _ _ i j V ha hb hi hj)
    have CB := hid (show ∀ V, Below W'.heap.size W' V → Calls Try.prog 31 #[.agg #[.string a, .string b, .slice (some ⟨w.heap.size + 1, 0, none⟩) (nn a b) (nn a b)], .int .i64 (i : Int), .int .i64 (j : Int)] V fun e w'' => e = .returned (.int .i64 (cmpv a b (tabf a b pre) i j)) ∧ Below V.heap.size V w'' from
      fun V hV => compute_any a b _ i j (tabf a b pre) V ha hb hi hj (tb_of (KG.out V hV) (tabf_in a b pre)))
    have HH := hid (And.intro gZ (And.intro gG (And.intro gX (And.intro hS hB))))
    have lG := heap_lt gG
    clear gZ gG gX hB hpl hS
    refine wpIn_block ?_
    refine wpIn_region_below_tail 12 (free_round l) (by kernel_rfl) (by kernel_rfl) (by kernel_rfl) ?_
    intro X f _ hf hs
    have k0 := fun x => (KX.out _ (hf.out x)).1
    have k1 := fun x => (KX.out _ (hf.out x)).2.1
    have k2 := fun x => (KX.out _ (hf.out x)).2.2
    simp only [List.take_succ_cons, List.take_zero, List.drop_succ_cons, List.drop_zero]
    repeat (go_big_quiet_step (first
      | (go_at_call 32; with_reducible exact calls_below hf hs (CA.out _ (hf.out _)))
      | (go_at_call 31; with_reducible exact calls_below hf hs (CB.out _ (hf.out _)))))
    refine wpQuiet_nil ?_
    intro V hV
    have hg := KG.out V hV
    have c0 : V.cell? ⟨w.heap.size + 1, ix b i j, none⟩ = some (.int .i32 (tabf a b pre (ix b i j))) := by simp only [World.cell?, hg]; exact tc_at _ hx
    have f0 := free hg (ix b i j)
    have HV := hid hV
    have HG := hid hg
    clear hg hV
    gi_wp2
    rw [← IntWalk.i32_left]
    obtain ⟨gZ, gG, gX, hS, hB⟩ := HH.out
    have hV := HV.out
    have hVs := hV.size
    have old : ∀ k, k < W'.heap.size → k ≠ w.heap.size + 1 → (V.setCell ⟨w.heap.size + 1, ix b i j, none⟩ (.int .i32 (IntKind.i32.wrap (cmpv a b (tabf a b pre) i j)))).heap[k]? = W'.heap[k]? :=
      fun k hk hne => (heap_setCell_other _ _ _ _ hne).trans (hV.block k hk)
    refine ⟨(keeps_below hV).trans (KeepsOthers.setCell _ _ _), ⟨old _ (by omega) (by omega), old _ (by omega) (by omega)⟩, ⟨(old _ (by omega) (by omega)).trans gZ, ?_, (old _ (by omega) (by omega)).trans gX, by simp; omega⟩, ?_⟩
    · rw [tabf_snoc, ← tc_upd]
      exact blk_put HG.out
    · exact (hB.trans (hV.mono hB.size)).setCell (by simp) _
  case done =>
    rintro D ys W' hD rfl ⟨⟨gZ, gG, gX, hS⟩, hB⟩ hK
    obtain ⟨k0, k1, k2⟩ := cells3 gX
    obtain ⟨z0, z1, z2⟩ := cells3 gZ
    obtain ⟨f0, f1, f2⟩ := frozen3 gZ
    have HK := hid hK
    have HH := hid (And.intro gZ (And.intro gG hB))
    clear gZ gG gX hB hK
    go_wp2_with fail
    obtain ⟨gZ, gG, hB⟩ := HH.out
    obtain ⟨Y, hY⟩ : ∃ Y, Y = (((W'.setCell ⟨w.heap.size, 0, none⟩ (.string a)).setCell ⟨w.heap.size, 1, none⟩ (.string b)).setCell ⟨w.heap.size, 2, none⟩ (.slice (some ⟨w.heap.size + 1, 0, none⟩) (nn a b) (nn a b))) := ⟨_, rfl⟩
    have yZ : Y.heap[w.heap.size]? = some (.cells #[.string a, .string b, .slice (some ⟨w.heap.size + 1, 0, none⟩) (nn a b) (nn a b)] 40 (0, 0)) := by rw [hY]; exact three_set gZ
    have yG : Y.heap[w.heap.size + 1]? = some (.cells (tc (nn a b) (tabf a b (prs a.size b.size (nn a b)))) 21 (0, 0)) := by rw [hY]; exact far3 gG (by omega)
    have yK : Y.heap[D]? = some (.deferred (some [])) := by rw [hY]; exact far3 HK.out (by omega)
    have yB : Below w.heap.size w Y := by rw [hY]; exact below_put (below_put (below_put hB (Nat.le_refl _)) (Nat.le_refl _)) (Nat.le_refl _)
    rw [← hY]
    clear hY
    refine ⟨by simp, .inl ⟨_, _, rfl, run_takeDeferred yK, ?_⟩⟩
    have pZ := (World.putObj_heap_other (w := Y) (o := .deferred none) (show w.heap.size ≠ D by omega)).trans yZ
    have pG := (World.putObj_heap_other (w := Y) (o := .deferred none) (show w.heap.size + 1 ≠ D by omega)).trans yG
    obtain ⟨r0, r1, r2⟩ := cells3 pZ
    refine ⟨tbv a b (w.heap.size + 1) (nn a b), ?_, ⟨w.heap.size + 1, _, rfl, tb_of pG (tabf_in a b _), ?_, by omega⟩, yB.trans (belowK_b (w := w) (Nat.le_refl _) Y D _ _ (by omega) yK rfl rfl)⟩
    · unfold tbv
      simp [results, Try.results21, go_sem, r0, r1, r2]
    · intro i j hi hj
      refine tabf_ok a b ha hb _ (Nat.le_refl _) i j hi hj ?_
      have := rank_ix (n := b.size) hi hj
      unfold nn
      rw [Nat.add_mul]
      omega
  case stop =>
    rintro D c pre W _ _ h _
    exact h.elim
end Go.Proofs.Ytahikgdgbgclkaa
