/-
  Contract: newProgress.
-/
import Derived.Test.YtednoideboeehaaDoorZ11
import Derived.Test.YtednoideboeehaaDoorZ04
import Derived.Test.YtednoideboeehaaDoorZ06
import Derived.Deep.LoopGhost
import Derived.LoopIn
import Derived.TacticsInMore
import Derived.Deep.CutRange
import Derived.Deep.CutBlock
import Derived.Laws.MakeOwn
import Derived.OwnWalk
import Derived.Test.YtednoideboeehaaDoorZ01
section
set_option linter.unusedSimpArgs false
set_option linter.unusedVariables false
namespace Go.Proofs.YtednoideboeehaaDoor
open Go.RowKit Bs Rg Go.Frame

theorem info69 : (Tryd.prog.info? 69).map (fun i => (i.zero, i.size, i.bytes)) = some (some (.agg #[.int .i64 0, .int .u64 0, .int .u64 0, .int .u64 0, .int .u64 0, .slice none 0 0, .bool false, .bool false]), 8, 72) := by kernel_rfl
theorem make_pgs (n : Nat) (hn : n ≤ 1000000) (w : World) :
    (Instr.makeSlice 67 (.int .i64 (n : Int)) (.int .i64 (n : Int))).run Tryd.prog w = .ok (.slice (some ⟨w.heap.size, 0, none⟩) n n) (w.alloc (.cells (madeCells #[.int .i64 0, .int .u64 0, .int .u64 0, .int .u64 0, .int .u64 0, .slice none 0 0, .bool false, .bool false] (n * 8)) 69)) := by
  obtain ⟨i, hi, h0, h1, h2⟩ := info_parts info69
  have := run_make (P := Tryd.prog) w 67 69 i _ Tryd.underlying67 hi h0 .i64 .i64 n n (by omega) (Int.le_refl _) (by rw [h2]; omega) (by omega)
  rw [h1, show (Value.agg #[.int .i64 0, .int .u64 0, .int .u64 0, .int .u64 0, .int .u64 0, .slice none 0 0, .bool false, .bool false]).cells = #[.int .i64 0, .int .u64 0, .int .u64 0, .int .u64 0, .int .u64 0, .slice none 0 0, .bool false, .bool false] by kernel_rfl] at this
  simpa using this
theorem parts_len : ∀ l : List Rx, l.length ≤ partsL l
  | [] => Nat.zero_le _
  | .mk k s m :: l => by
    have := parts_len l
    rw [partsL, parts, List.length_cons]; omega
theorem parts_mem {x : Rx} : ∀ {l : List Rx}, x ∈ l → parts x ≤ partsL l
  | y :: l, h => by
    rw [partsL]
    rcases List.mem_cons.1 h with rfl | h
    · omega
    · have := parts_mem h; omega
theorem npL_snoc : ∀ (l : List Rx) (x : Rx), npL (l ++ [x]) = npL l ++ [np x]
  | [], x => by simp [npL]
  | y :: l, x => by rw [List.cons_append, npL, npL, npL_snoc l x]; rfl
theorem npL_len : ∀ l : List Rx, (npL l).length = l.length
  | [] => rfl
  | x :: l => by rw [npL, List.length_cons, npL_len l]; rfl
theorem PC.low {W : World} {x : Pg} {cs : List Value} {lo lo' hi : Nat} (h : PC W x cs lo hi) (h' : lo' ≤ lo) : PC W x cs lo' hi := by
  obtain ⟨k, s, l, nu, en⟩ := x
  rw [PC_mk] at h ⊢
  obtain ⟨a, n, c, rfl, h1, h2, h3, h4, h5⟩ := h
  refine ⟨a, n, c, rfl, h1, h2, by omega, h4, h5.imp id ?_⟩
  rintro ⟨b, m, rfl, hb, hm, hF, hK⟩
  exact ⟨b, m, rfl, by omega, hm, hF, hK⟩
theorem PK.high {W : World} {b : Nat} : ∀ {l : List Pg} {off lo hi hi' : Nat}, hi ≤ hi' → PK W b l off lo hi → PK W b l off lo hi'
  | [], off, lo, hi, hi', h', h => by rw [PK] at h ⊢; omega
  | x :: l, off, lo, hi, hi', h', h => by
    rw [PK] at h ⊢
    obtain ⟨m, cs, h1, h2, h3⟩ := h
    exact ⟨m, cs, h1, h2, PK.high h' h3⟩
theorem cell_in {W : World} {B o : Nat} {C : Array Value} {t : TypeId} (hB : W.heap[B]? = some (.cells C t (0, 0))) (h : o < C.size) : W.cell? ⟨B, o, none⟩ = some (C.getD o (.bool false)) := by
  rw [World.cell?]; simp [hB, Array.getElem?_eq_getElem h, Array.getD_eq_getD_getElem?]
theorem cell_at {W : World} {B o : Nat} {C : Array Value} {t : TypeId} {x : Value} (hB : W.heap[B]? = some (.cells C t (0, 0))) (h : C[o]? = some x) : W.cell? ⟨B, o, none⟩ = some x := by
  rw [World.cell?]; simp [hB, h]
/-- Eight cells written one behind the other. -/
theorem put8 {W : World} {B o : Nat} {C : Array Value} {t : TypeId} (hB : W.heap[B]? = some (.cells C t (0, 0))) (ho : o + 8 ≤ C.size) (x0 x1 x2 x3 x4 x5 x6 x7 : Value) : ∀ w6, w6 = ((((((((W.setCell ⟨B, o, none⟩ x0).setCell ⟨B, o + 1, none⟩ x1).setCell ⟨B, o + 2, none⟩ x2).setCell ⟨B, o + 3, none⟩ x3).setCell ⟨B, o + 4, none⟩ x4).setCell ⟨B, o + 5, none⟩ x5).setCell ⟨B, o + 6, none⟩ x6).setCell ⟨B, o + 7, none⟩ x7) →
    w6.heap.size = W.heap.size ∧ (∃ C' : Array Value, w6.heap[B]? = some (.cells C' t (0, 0)) ∧ C'.size = C.size) ∧ (∀ y, y ≠ B → w6.heap[y]? = W.heap[y]?) ∧ (∀ j, ¬ (o ≤ j ∧ j < o + 8) → w6.cell? ⟨B, j, none⟩ = W.cell? ⟨B, j, none⟩) ∧
    (∀ (j : Nat) (v : Value), [x0, x1, x2, x3, x4, x5, x6, x7][j]? = some v → w6.cell? ⟨B, o + j, none⟩ = some v) ∧ (∀ n a, Below n a W → n ≤ B → Below n a w6) := by
  rintro w6 rfl
  have hb := blk_put (k := o + 7) (v := x7) (blk_put (k := o + 6) (v := x6) (blk_put (k := o + 5) (v := x5) (blk_put (k := o + 4) (v := x4) (blk_put (k := o + 3) (v := x3) (blk_put (k := o + 2) (v := x2) (blk_put (k := o + 1) (v := x1) (blk_put (k := o) (v := x0) hB)))))))
  refine ⟨by simp, ⟨_, hb, by simp⟩, fun y hy => ?_, fun j hj => ?_, fun j v hj => ?_, fun n a h hn => ?_⟩
  · rw [heap_setCell_other, heap_setCell_other, heap_setCell_other, heap_setCell_other, heap_setCell_other, heap_setCell_other, heap_setCell_other, heap_setCell_other] <;> exact hy
  · rw [World.cell?_setCell_other, World.cell?_setCell_other, World.cell?_setCell_other, World.cell?_setCell_other, World.cell?_setCell_other, World.cell?_setCell_other, World.cell?_setCell_other, World.cell?_setCell_other] <;> (intro h; simp at h; try omega)
  · refine cell_at hb ?_
    have hj' : j = 0 ∨ j = 1 ∨ j = 2 ∨ j = 3 ∨ j = 4 ∨ j = 5 ∨ j = 6 ∨ j = 7 := by have := (List.getElem?_eq_some_iff.1 hj).1; simp at this; omega
    rcases hj' with rfl | rfl | rfl | rfl | rfl | rfl | rfl | rfl <;> simp at hj <;> subst hj <;> simp [Array.getElem?_setIfInBounds] <;> omega
  · exact below_put (below_put (below_put (below_put (below_put (below_put (below_put (below_put h hn) hn) hn) hn) hn) hn) hn) hn
/-- A new tree of marks: a value, its blocks are new. -/
def NpRes (w : World) (x : Pg) (e : Ending) (w' : World) : Prop := ∃ ps, e = .returned (.agg ps.toArray) ∧ PC w' x ps w.heap.size w'.heap.size
theorem cells8 {W : World} {b : Nat} {x0 x1 x2 x3 x4 x5 x6 x7 : Value} {t : TypeId} (h : W.heap[b]? = some (.cells #[x0, x1, x2, x3, x4, x5, x6, x7] t (0, 0))) : W.cell? ⟨b, 0, none⟩ = some x0 ∧ W.cell? ⟨b, 1, none⟩ = some x1 ∧ W.cell? ⟨b, 2, none⟩ = some x2 ∧ W.cell? ⟨b, 3, none⟩ = some x3 ∧ W.cell? ⟨b, 4, none⟩ = some x4 ∧ W.cell? ⟨b, 5, none⟩ = some x5 ∧ W.cell? ⟨b, 6, none⟩ = some x6 ∧ W.cell? ⟨b, 7, none⟩ = some x7 := by
  refine ⟨?_, ?_, ?_, ?_, ?_, ?_, ?_, ?_⟩ <;> simp [World.cell?, h]
theorem cells6' {W : World} {b : Nat} {x0 x1 x2 x3 x4 x5 : Value} {t : TypeId} (h : W.heap[b]? = some (.cells #[x0, x1, x2, x3, x4, x5] t (0, 0))) : W.cell? ⟨b, 0, none⟩ = some x0 ∧ W.cell? ⟨b, 1, none⟩ = some x1 ∧ W.cell? ⟨b, 2, none⟩ = some x2 ∧ W.cell? ⟨b, 3, none⟩ = some x3 ∧ W.cell? ⟨b, 4, none⟩ = some x4 ∧ W.cell? ⟨b, 5, none⟩ = some x5 := cells6 h
set_option maxRecDepth 100000 in
set_option maxHeartbeats 4000000 in
theorem newProgress_any (g : Nat → Prop) (r : Rx) : ∀ (w : World) (cs : List Value), parts r ≤ 1000000 → RC g w r cs →
    Calls Tryd.prog 45 #[.agg cs.toArray] w fun e w' => NpRes w (np r) e w' ∧ Below w.heap.size w w' := by
  induction r using Rx.ind with
  | h k s l ih =>
  intro w cs hp h
  have CN := hid (fun V (hV : Below w.heap.size w V) => nullable_any g (.mk k s l) V _ (h.below hV))
  obtain ⟨a, n, c, rfl, hK⟩ := RC_mk.1 h
  clear h
  obtain ⟨nu, hnu⟩ : ∃ nu, nu = nul (.mk k s l) := ⟨_, rfl⟩
  rw [← hnu] at CN
  rw [np, ← hnu]
  show Calls Tryd.prog 45 #[.agg #[.int .i64 k, .int .u64 (ws s 0 : Int), .int .u64 (ws s 1 : Int), .int .u64 (ws s 2 : Int), .int .u64 (ws s 3 : Int), .slice a n c]] w _
  have CN := hid (fun V (hV : Below w.heap.size w V) => show Calls Tryd.prog 48 #[.agg #[.int .i64 k, .int .u64 (ws s 0 : Int), .int .u64 (ws s 1 : Int), .int .u64 (ws s 2 : Int), .int .u64 (ws s 3 : Int), .slice a n c]] V _ from CN.out V hV)
  obtain ⟨W, hW⟩ : ∃ W, W = (w.alloc (.cells #[.int .i64 k, .int .u64 (ws s 0 : Int), .int .u64 (ws s 1 : Int), .int .u64 (ws s 2 : Int), .int .u64 (ws s 3 : Int), .slice a n c] 27)).alloc (.cells #[.int .i64 0, .int .u64 0, .int .u64 0, .int .u64 0, .int .u64 0, .slice none 0 0, .bool false, .bool false] 69) := ⟨_, rfl⟩
  have bW : Below w.heap.size w W := by rw [hW]; exact (bel1 _ _).alloc (by simp) _
  have x0 : W.heap[w.heap.size]? = some (.cells #[.int .i64 k, .int .u64 (ws s 0 : Int), .int .u64 (ws s 1 : Int), .int .u64 (ws s 2 : Int), .int .u64 (ws s 3 : Int), .slice a n c] 27 (0, 0)) := by
    have X2 := Go.Frame.two w (.cells #[.int .i64 k, .int .u64 (ws s 0 : Int), .int .u64 (ws s 1 : Int), .int .u64 (ws s 2 : Int), .int .u64 (ws s 3 : Int), .slice a n c] 27) (.cells #[.int .i64 0, .int .u64 0, .int .u64 0, .int .u64 0, .int .u64 0, .slice none 0 0, .bool false, .bool false] 69)
    rw [← hW] at X2
    exact X2.1
  have y0 : W.heap[w.heap.size + 1]? = some (.cells #[.int .i64 0, .int .u64 0, .int .u64 0, .int .u64 0, .int .u64 0, .slice none 0 0, .bool false, .bool false] 69 (0, 0)) := by
    have X2 := Go.Frame.two w (.cells #[.int .i64 k, .int .u64 (ws s 0 : Int), .int .u64 (ws s 1 : Int), .int .u64 (ws s 2 : Int), .int .u64 (ws s 3 : Int), .slice a n c] 27) (.cells #[.int .i64 0, .int .u64 0, .int .u64 0, .int .u64 0, .int .u64 0, .slice none 0 0, .bool false, .bool false] 69)
    rw [← hW] at X2
    exact X2.2.1
  have hsz : W.heap.size = w.heap.size + 2 := by rw [hW]; simp
  have hln := hid hK.len
  have hnl := hK.lt
  have hn6 := hid (show n ≤ 1000000 by have := parts_len l; rw [hK.len] at this; rw [parts] at hp; omega)
  have HK := hid (And.intro hK (And.intro bW (And.intro x0 (And.intro y0 hsz))))
  have IH := hid (And.intro ih hp)
  clear hK bW ih hnu x0 y0 hsz hp
  go_enter Tryd.func45, Tryd.ntmps45
  go_wp2_with fail
  rw [← hW]
  clear hW
  refine region_inv (fun b a' w' => ∃ (v3 v6 v7 v8 v9 v10 v11 v12 v13 v14 v15 v16 : Value) (A B : Nat), a' = { tmps := #[.agg #[.int .i64 k, .int .u64 (ws s 0 : Int), .int .u64 (ws s 1 : Int), .int .u64 (ws s 2 : Int), .int .u64 (ws s 3 : Int), .slice a n c], .pointer (some ⟨w.heap.size, 0, none⟩), .pointer (some ⟨w.heap.size + 1, 0, none⟩), v3, undef, undef, v6, v7, v8, v9, v10, v11, v12, v13, v14, v15, v16, undef, undef, undef, undef, undef, undef, undef, undef, undef, undef, undef, undef, undef, undef, undef, undef], defers := [] } ∧ (b 0 = true → v6 = .pointer (some ⟨w.heap.size, 0, none⟩)) ∧ (b 1 = true → v7 = .int .i64 k) ∧ (b 2 = true → v8 = .pointer (some ⟨w.heap.size, 1, none⟩)) ∧ (b 3 = true → v9 = .agg #[.int .u64 (ws s 0 : Int), .int .u64 (ws s 1 : Int), .int .u64 (ws s 2 : Int), .int .u64 (ws s 3 : Int)]) ∧ (b 4 = true → v10 = .agg #[.int .i64 k, .int .u64 (ws s 0 : Int), .int .u64 (ws s 1 : Int), .int .u64 (ws s 2 : Int), .int .u64 (ws s 3 : Int), .slice a n c]) ∧ (b 5 = true → v11 = .bool nu) ∧ (b 6 = true → v12 = .pointer (some ⟨w.heap.size, 5, none⟩)) ∧ (b 7 = true → v13 = .slice a n c) ∧ (b 8 = true → v14 = .int .i64 (n : Int)) ∧ (b 9 = true → v15 = .slice (some ⟨B, 0, none⟩) n n ∧ w'.heap[B]? = some (.cells (madeCells #[.int .i64 0, .int .u64 0, .int .u64 0, .int .u64 0, .int .u64 0, .slice none 0 0, .bool false, .bool false] (n * 8)) 69 (0, 0)) ∧ w.heap.size + 2 ≤ B) ∧ (b 10 = true → b 9 = true ∧ v16 = .agg #[.int .i64 k, .int .u64 (ws s 0 : Int), .int .u64 (ws s 1 : Int), .int .u64 (ws s 2 : Int), .int .u64 (ws s 3 : Int), v15, .bool nu, .bool false]) ∧ (b 11 = true → v3 = .pointer (some ⟨A, 0, none⟩) ∧ w.heap.size + 2 ≤ A ∧ (b 12 = false → w'.heap[A]? = some (.cells #[.int .i64 0, .int .u64 0, .int .u64 0, .int .u64 0, .int .u64 0, .slice none 0 0, .bool false, .bool false] 69 (0, 0)))) ∧ (b 12 = true → b 9 = true ∧ b 11 = true ∧ w'.heap[A]? = some (.cells #[.int .i64 k, .int .u64 (ws s 0 : Int), .int .u64 (ws s 1 : Int), .int .u64 (ws s 2 : Int), .int .u64 (ws s 3 : Int), .slice (some ⟨B, 0, none⟩) n n, .bool nu, .bool false] 69 (0, 0))) ∧ (b 9 = true → b 11 = true → A ≠ B) ∧ w'.heap[w.heap.size]? = some (.cells #[.int .i64 k, .int .u64 (ws s 0 : Int), .int .u64 (ws s 1 : Int), .int .u64 (ws s 2 : Int), .int .u64 (ws s 3 : Int), .slice a n c] 27 (0, 0)) ∧ w'.heap[w.heap.size + 1]? = some (.cells #[.int .i64 0, .int .u64 0, .int .u64 0, .int .u64 0, .int .u64 0, .slice none 0 0, .bool false, .bool false] 69 (0, 0)) ∧ w.heap.size + 2 ≤ w'.heap.size ∧ Below w.heap.size w w') (by kernel_rfl) (back_of (by kernel_rfl)) ?step ?done ?init
  case step =>
    rintro b a' w' i o ho ⟨v3, v6, v7, v8, v9, v10, v11, v12, v13, v14, v15, v16, A, B, rfl, h0, h1, h2, h3, h4, h5, h6, h7, h8, h9, h10, h11, h12, hAB, hx, hy, hsz, hb⟩ hbi hd K hK
    have hlt : i < 13 := by have := (Array.getElem?_eq_some_iff.1 ho).1; simpa using this
    have dep : ∀ k, (o.after.any fun e => Region.binds .any e && e.on == k) = true → b k = true := fun k hk => by
      obtain ⟨e, he, h⟩ := Array.any_eq_true'.1 hk
      simp only [Bool.and_eq_true, beq_iff_eq] at h
      rw [← h.2]; exact hd e he h.1
    clear hd
    have hi : i = 0 ∨ i = 1 ∨ i = 2 ∨ i = 3 ∨ i = 4 ∨ i = 5 ∨ i = 6 ∨ i = 7 ∨ i = 8 ∨ i = 9 ∨ i = 10 ∨ i = 11 ∨ i = 12 := by omega
    clear hlt
    rcases hi with rfl | rfl | rfl | rfl | rfl | rfl | rfl | rfl | rfl | rfl | rfl | rfl | rfl
    · simp only [List.getElem?_toArray, List.getElem?_cons_zero, List.getElem?_cons_succ, Option.some.injEq] at ho
      subst ho
      go_simp
      refine hK.out _ _ ⟨_, _, _, _, _, _, _, _, _, _, _, _, _, _, rfl, fun _ => rfl, fun h => h1 (by simpa using h), fun h => h2 (by simpa using h), fun h => h3 (by simpa using h), fun h => h4 (by simpa using h), fun h => h5 (by simpa using h), fun h => h6 (by simpa using h), fun h => h7 (by simpa using h), fun h => h8 (by simpa using h), fun h => h9 (by simpa using h), fun h => ⟨by simp [(h10 (by simpa using h)).1], (h10 (by simpa using h)).2⟩, fun h => ⟨(h11 (by simpa using h)).1, (h11 (by simpa using h)).2.1, fun h' => (h11 (by simpa using h)).2.2 (by simpa using h')⟩, fun h => ⟨by simp [(h12 (by simpa using h)).1], by simp [(h12 (by simpa using h)).2.1], (h12 (by simpa using h)).2.2⟩, fun h h' => hAB (by simpa using h) (by simpa using h'), hx, hy, hsz, hb⟩
    · simp only [List.getElem?_toArray, List.getElem?_cons_zero, List.getElem?_cons_succ, Option.some.injEq] at ho
      subst ho
      obtain rfl := h0 (dep 0 (by kernel_rfl))
      have cx := cells6' hx
      obtain ⟨c0, c1, c2, c3, c4, c5⟩ := cx
      go_simp
      refine hK.out _ _ ⟨_, _, _, _, _, _, _, _, _, _, _, _, _, _, rfl, fun h => h0 (by simpa using h), fun _ => rfl, fun h => h2 (by simpa using h), fun h => h3 (by simpa using h), fun h => h4 (by simpa using h), fun h => h5 (by simpa using h), fun h => h6 (by simpa using h), fun h => h7 (by simpa using h), fun h => h8 (by simpa using h), fun h => h9 (by simpa using h), fun h => ⟨by simp [(h10 (by simpa using h)).1], (h10 (by simpa using h)).2⟩, fun h => ⟨(h11 (by simpa using h)).1, (h11 (by simpa using h)).2.1, fun h' => (h11 (by simpa using h)).2.2 (by simpa using h')⟩, fun h => ⟨by simp [(h12 (by simpa using h)).1], by simp [(h12 (by simpa using h)).2.1], (h12 (by simpa using h)).2.2⟩, fun h h' => hAB (by simpa using h) (by simpa using h'), hx, hy, hsz, hb⟩
    · simp only [List.getElem?_toArray, List.getElem?_cons_zero, List.getElem?_cons_succ, Option.some.injEq] at ho
      subst ho
      go_simp
      refine hK.out _ _ ⟨_, _, _, _, _, _, _, _, _, _, _, _, _, _, rfl, fun h => h0 (by simpa using h), fun h => h1 (by simpa using h), fun _ => rfl, fun h => h3 (by simpa using h), fun h => h4 (by simpa using h), fun h => h5 (by simpa using h), fun h => h6 (by simpa using h), fun h => h7 (by simpa using h), fun h => h8 (by simpa using h), fun h => h9 (by simpa using h), fun h => ⟨by simp [(h10 (by simpa using h)).1], (h10 (by simpa using h)).2⟩, fun h => ⟨(h11 (by simpa using h)).1, (h11 (by simpa using h)).2.1, fun h' => (h11 (by simpa using h)).2.2 (by simpa using h')⟩, fun h => ⟨by simp [(h12 (by simpa using h)).1], by simp [(h12 (by simpa using h)).2.1], (h12 (by simpa using h)).2.2⟩, fun h h' => hAB (by simpa using h) (by simpa using h'), hx, hy, hsz, hb⟩
    · simp only [List.getElem?_toArray, List.getElem?_cons_zero, List.getElem?_cons_succ, Option.some.injEq] at ho
      subst ho
      obtain rfl := h2 (dep 2 (by kernel_rfl))
      have cx := cells6' hx
      obtain ⟨c0, c1, c2, c3, c4, c5⟩ := cx
      go_simp
      refine hK.out _ _ ⟨_, _, _, _, _, _, _, _, _, _, _, _, _, _, rfl, fun h => h0 (by simpa using h), fun h => h1 (by simpa using h), fun h => h2 (by simpa using h), fun _ => rfl, fun h => h4 (by simpa using h), fun h => h5 (by simpa using h), fun h => h6 (by simpa using h), fun h => h7 (by simpa using h), fun h => h8 (by simpa using h), fun h => h9 (by simpa using h), fun h => ⟨by simp [(h10 (by simpa using h)).1], (h10 (by simpa using h)).2⟩, fun h => ⟨(h11 (by simpa using h)).1, (h11 (by simpa using h)).2.1, fun h' => (h11 (by simpa using h)).2.2 (by simpa using h')⟩, fun h => ⟨by simp [(h12 (by simpa using h)).1], by simp [(h12 (by simpa using h)).2.1], (h12 (by simpa using h)).2.2⟩, fun h h' => hAB (by simpa using h) (by simpa using h'), hx, hy, hsz, hb⟩
    · simp only [List.getElem?_toArray, List.getElem?_cons_zero, List.getElem?_cons_succ, Option.some.injEq] at ho
      subst ho
      have cx := cells6' hx
      obtain ⟨c0, c1, c2, c3, c4, c5⟩ := cx
      go_simp
      refine hK.out _ _ ⟨_, _, _, _, _, _, _, _, _, _, _, _, _, _, rfl, fun h => h0 (by simpa using h), fun h => h1 (by simpa using h), fun h => h2 (by simpa using h), fun h => h3 (by simpa using h), fun _ => rfl, fun h => h5 (by simpa using h), fun h => h6 (by simpa using h), fun h => h7 (by simpa using h), fun h => h8 (by simpa using h), fun h => h9 (by simpa using h), fun h => ⟨by simp [(h10 (by simpa using h)).1], (h10 (by simpa using h)).2⟩, fun h => ⟨(h11 (by simpa using h)).1, (h11 (by simpa using h)).2.1, fun h' => (h11 (by simpa using h)).2.2 (by simpa using h')⟩, fun h => ⟨by simp [(h12 (by simpa using h)).1], by simp [(h12 (by simpa using h)).2.1], (h12 (by simpa using h)).2.2⟩, fun h h' => hAB (by simpa using h) (by simpa using h'), hx, hy, hsz, hb⟩
    · simp only [List.getElem?_toArray, List.getElem?_cons_zero, List.getElem?_cons_succ, Option.some.injEq] at ho
      subst ho
      obtain rfl := h4 (dep 4 (by kernel_rfl))
      go_simp
      refine (CN.out _ hb).mono ?_
      rintro e W5 ⟨rfl, B5⟩
      refine hK.out _ _ ⟨_, _, _, _, _, _, _, _, _, _, _, _, _, _, rfl, fun h => h0 (by simpa using h), fun h => h1 (by simpa using h), fun h => h2 (by simpa using h), fun h => h3 (by simpa using h), fun h => h4 (by simpa using h), fun _ => rfl, fun h => h6 (by simpa using h), fun h => h7 (by simpa using h), fun h => h8 (by simpa using h), fun h => ⟨(h9 (by simpa using h)).1, (B5.block _ (heap_lt (h9 (by simpa using h)).2.1)).trans (h9 (by simpa using h)).2.1, (h9 (by simpa using h)).2.2⟩, fun h => ⟨by simp [(h10 (by simpa using h)).1], (h10 (by simpa using h)).2⟩, fun h => ⟨(h11 (by simpa using h)).1, (h11 (by simpa using h)).2.1, fun h' => (B5.block _ (heap_lt ((h11 (by simpa using h)).2.2 (by simpa using h')))).trans ((h11 (by simpa using h)).2.2 (by simpa using h'))⟩, fun h => ⟨by simp [(h12 (by simpa using h)).1], by simp [(h12 (by simpa using h)).2.1], (B5.block _ (heap_lt (h12 (by simpa using h)).2.2)).trans (h12 (by simpa using h)).2.2⟩, fun h h' => hAB (by simpa using h) (by simpa using h'), (B5.block _ (heap_lt hx)).trans hx, (B5.block _ (heap_lt hy)).trans hy, Nat.le_trans hsz B5.size, hb.trans (B5.mono hb.size)⟩
    · simp only [List.getElem?_toArray, List.getElem?_cons_zero, List.getElem?_cons_succ, Option.some.injEq] at ho
      subst ho
      go_simp
      refine hK.out _ _ ⟨_, _, _, _, _, _, _, _, _, _, _, _, _, _, rfl, fun h => h0 (by simpa using h), fun h => h1 (by simpa using h), fun h => h2 (by simpa using h), fun h => h3 (by simpa using h), fun h => h4 (by simpa using h), fun h => h5 (by simpa using h), fun _ => rfl, fun h => h7 (by simpa using h), fun h => h8 (by simpa using h), fun h => h9 (by simpa using h), fun h => ⟨by simp [(h10 (by simpa using h)).1], (h10 (by simpa using h)).2⟩, fun h => ⟨(h11 (by simpa using h)).1, (h11 (by simpa using h)).2.1, fun h' => (h11 (by simpa using h)).2.2 (by simpa using h')⟩, fun h => ⟨by simp [(h12 (by simpa using h)).1], by simp [(h12 (by simpa using h)).2.1], (h12 (by simpa using h)).2.2⟩, fun h h' => hAB (by simpa using h) (by simpa using h'), hx, hy, hsz, hb⟩
    · simp only [List.getElem?_toArray, List.getElem?_cons_zero, List.getElem?_cons_succ, Option.some.injEq] at ho
      subst ho
      obtain rfl := h6 (dep 6 (by kernel_rfl))
      have cx := cells6' hx
      obtain ⟨c0, c1, c2, c3, c4, c5⟩ := cx
      go_simp
      refine hK.out _ _ ⟨_, _, _, _, _, _, _, _, _, _, _, _, _, _, rfl, fun h => h0 (by simpa using h), fun h => h1 (by simpa using h), fun h => h2 (by simpa using h), fun h => h3 (by simpa using h), fun h => h4 (by simpa using h), fun h => h5 (by simpa using h), fun h => h6 (by simpa using h), fun _ => rfl, fun h => h8 (by simpa using h), fun h => h9 (by simpa using h), fun h => ⟨by simp [(h10 (by simpa using h)).1], (h10 (by simpa using h)).2⟩, fun h => ⟨(h11 (by simpa using h)).1, (h11 (by simpa using h)).2.1, fun h' => (h11 (by simpa using h)).2.2 (by simpa using h')⟩, fun h => ⟨by simp [(h12 (by simpa using h)).1], by simp [(h12 (by simpa using h)).2.1], (h12 (by simpa using h)).2.2⟩, fun h h' => hAB (by simpa using h) (by simpa using h'), hx, hy, hsz, hb⟩
    · simp only [List.getElem?_toArray, List.getElem?_cons_zero, List.getElem?_cons_succ, Option.some.injEq] at ho
      subst ho
      obtain rfl := h7 (dep 7 (by kernel_rfl))
      go_simp
      refine hK.out _ _ ⟨_, _, _, _, _, _, _, _, _, _, _, _, _, _, rfl, fun h => h0 (by simpa using h), fun h => h1 (by simpa using h), fun h => h2 (by simpa using h), fun h => h3 (by simpa using h), fun h => h4 (by simpa using h), fun h => h5 (by simpa using h), fun h => h6 (by simpa using h), fun h => h7 (by simpa using h), fun _ => rfl, fun h => h9 (by simpa using h), fun h => ⟨by simp [(h10 (by simpa using h)).1], (h10 (by simpa using h)).2⟩, fun h => ⟨(h11 (by simpa using h)).1, (h11 (by simpa using h)).2.1, fun h' => (h11 (by simpa using h)).2.2 (by simpa using h')⟩, fun h => ⟨by simp [(h12 (by simpa using h)).1], by simp [(h12 (by simpa using h)).2.1], (h12 (by simpa using h)).2.2⟩, fun h h' => hAB (by simpa using h) (by simpa using h'), hx, hy, hsz, hb⟩
    · simp only [List.getElem?_toArray, List.getElem?_cons_zero, List.getElem?_cons_succ, Option.some.injEq] at ho
      subst ho
      obtain rfl := h8 (dep 8 (by kernel_rfl))
      have hmk := make_pgs n hn6.out w'
      have hb12 : b 12 = false := by
        cases hb' : b 12
        · rfl
        · have := (h12 hb').1; rw [hbi] at this; cases this
      have hb10 : b 10 = false := by
        cases hb' : b 10
        · rfl
        · have := (h10 hb').1; rw [hbi] at this; cases this
      go_simp
      have B5 := bel1 w' (.cells (madeCells #[.int .i64 0, .int .u64 0, .int .u64 0, .int .u64 0, .int .u64 0, .slice none 0 0, .bool false, .bool false] (n * 8)) 69)
      refine hK.out _ _ ⟨_, _, _, _, _, _, _, _, _, _, _, _, A, w'.heap.size, rfl, fun h => h0 (by simpa using h), fun h => h1 (by simpa using h), fun h => h2 (by simpa using h), fun h => h3 (by simpa using h), fun h => h4 (by simpa using h), fun h => h5 (by simpa using h), fun h => h6 (by simpa using h), fun h => h7 (by simpa using h), fun h => h8 (by simpa using h), fun _ => ⟨rfl, alloc_new _ _, hsz⟩, fun h => absurd h (by simp [hb10]), fun h => ⟨(h11 (by simpa using h)).1, (h11 (by simpa using h)).2.1, fun h' => (B5.block _ (heap_lt ((h11 (by simpa using h)).2.2 (by simpa using h')))).trans ((h11 (by simpa using h)).2.2 (by simpa using h'))⟩, fun h => absurd h (by simp [hb12]), fun _ h' => Nat.ne_of_lt (heap_lt ((h11 (by simpa using h')).2.2 hb12)), (B5.block _ (heap_lt hx)).trans hx, (B5.block _ (heap_lt hy)).trans hy, Nat.le_trans hsz B5.size, hb.trans (B5.mono hb.size)⟩
    · simp only [List.getElem?_toArray, List.getElem?_cons_zero, List.getElem?_cons_succ, Option.some.injEq] at ho
      subst ho
      obtain rfl := h1 (dep 1 (by kernel_rfl))
      obtain rfl := h3 (dep 3 (by kernel_rfl))
      obtain rfl := h5 (dep 5 (by kernel_rfl))
      have hb9 := dep 9 (by kernel_rfl)
      obtain ⟨rfl, hB, hB2⟩ := h9 hb9
      go_simp
      refine hK.out _ _ ⟨_, _, _, _, _, _, _, _, _, _, _, _, A, B, rfl, fun h => h0 (by simpa using h), fun h => h1 (by simpa using h), fun h => h2 (by simpa using h), fun h => h3 (by simpa using h), fun h => h4 (by simpa using h), fun h => h5 (by simpa using h), fun h => h6 (by simpa using h), fun h => h7 (by simpa using h), fun h => h8 (by simpa using h), fun _ => ⟨rfl, hB, hB2⟩, fun _ => ⟨by simp [hb9], rfl⟩, fun h => ⟨(h11 (by simpa using h)).1, (h11 (by simpa using h)).2.1, fun h' => (h11 (by simpa using h)).2.2 (by simpa using h')⟩, fun h => ⟨by simp [(h12 (by simpa using h)).1], by simp [(h12 (by simpa using h)).2.1], (h12 (by simpa using h)).2.2⟩, fun h h' => hAB (by simpa using h) (by simpa using h'), hx, hy, hsz, hb⟩
    · simp only [List.getElem?_toArray, List.getElem?_cons_zero, List.getElem?_cons_succ, Option.some.injEq] at ho
      subst ho
      go_simp
      have B5 := bel1 w' (.cells #[.int .i64 0, .int .u64 0, .int .u64 0, .int .u64 0, .int .u64 0, .slice none 0 0, .bool false, .bool false] 69)
      have hb12 : b 12 = false := by
        cases hb' : b 12
        · rfl
        · have := (h12 hb').2.1; rw [hbi] at this; cases this
      refine hK.out _ _ ⟨_, _, _, _, _, _, _, _, _, _, _, _, w'.heap.size, B, rfl, fun h => h0 (by simpa using h), fun h => h1 (by simpa using h), fun h => h2 (by simpa using h), fun h => h3 (by simpa using h), fun h => h4 (by simpa using h), fun h => h5 (by simpa using h), fun h => h6 (by simpa using h), fun h => h7 (by simpa using h), fun h => h8 (by simpa using h), fun h => ⟨(h9 (by simpa using h)).1, (B5.block _ (heap_lt (h9 (by simpa using h)).2.1)).trans (h9 (by simpa using h)).2.1, (h9 (by simpa using h)).2.2⟩, fun h => ⟨by simp [(h10 (by simpa using h)).1], (h10 (by simpa using h)).2⟩, fun _ => ⟨rfl, hsz, fun _ => alloc_new _ _⟩, fun h => absurd h (by simp [hb12]), fun h _ => (Nat.ne_of_lt (heap_lt (h9 (by simpa using h)).2.1)).symm, (B5.block _ (heap_lt hx)).trans hx, (B5.block _ (heap_lt hy)).trans hy, Nat.le_trans hsz B5.size, hb.trans (B5.mono hb.size)⟩
    · simp only [List.getElem?_toArray, List.getElem?_cons_zero, List.getElem?_cons_succ, Option.some.injEq] at ho
      subst ho
      have hb11 := dep 11 (by kernel_rfl)
      have hb9 := dep 9 (by kernel_rfl)
      obtain ⟨rfl, hA2, hA⟩ := h11 hb11
      obtain ⟨_, rfl⟩ := h10 (dep 10 (by kernel_rfl))
      obtain ⟨rfl, hB, hB2⟩ := h9 hb9
      have hA := hA hbi
      have hne := hAB hb9 hb11
      obtain ⟨c0, c1, c2, c3, c4, c5, c6, c7⟩ := cells8 hA
      have f0 := free hA 0
      have f1 := free hA 1
      have f2 := free hA 2
      have f3 := free hA 3
      have f4 := free hA 4
      have f5 := free hA 5
      have f6 := free hA 6
      have f7 := free hA 7
      have xA : ((((((((w'.setCell ⟨A, 0, none⟩ (.int .i64 k)).setCell ⟨A, 1, none⟩ (.int .u64 (ws s 0 : Int))).setCell ⟨A, 2, none⟩ (.int .u64 (ws s 1 : Int))).setCell ⟨A, 3, none⟩ (.int .u64 (ws s 2 : Int))).setCell ⟨A, 4, none⟩ (.int .u64 (ws s 3 : Int))).setCell ⟨A, 5, none⟩ (.slice (some ⟨B, 0, none⟩) n n)).setCell ⟨A, 6, none⟩ (.bool nu)).setCell ⟨A, 7, none⟩ (.bool false)).heap[A]? = some (.cells #[.int .i64 k, .int .u64 (ws s 0 : Int), .int .u64 (ws s 1 : Int), .int .u64 (ws s 2 : Int), .int .u64 (ws s 3 : Int), .slice (some ⟨B, 0, none⟩) n n, .bool nu, .bool false] 69 (0, 0)) := by
        rw [blk_put (blk_put (blk_put (blk_put (blk_put (blk_put (blk_put (blk_put hA)))))))]; rfl
      have xx : ((((((((w'.setCell ⟨A, 0, none⟩ (.int .i64 k)).setCell ⟨A, 1, none⟩ (.int .u64 (ws s 0 : Int))).setCell ⟨A, 2, none⟩ (.int .u64 (ws s 1 : Int))).setCell ⟨A, 3, none⟩ (.int .u64 (ws s 2 : Int))).setCell ⟨A, 4, none⟩ (.int .u64 (ws s 3 : Int))).setCell ⟨A, 5, none⟩ (.slice (some ⟨B, 0, none⟩) n n)).setCell ⟨A, 6, none⟩ (.bool nu)).setCell ⟨A, 7, none⟩ (.bool false)).heap[w.heap.size]? = some (.cells #[.int .i64 k, .int .u64 (ws s 0 : Int), .int .u64 (ws s 1 : Int), .int .u64 (ws s 2 : Int), .int .u64 (ws s 3 : Int), .slice a n c] 27 (0, 0)) := by
        have : w.heap.size ≠ A := by omega
        refine blk_set (blk_set (blk_set (blk_set (blk_set (blk_set (blk_set (blk_set hx ?_) ?_) ?_) ?_) ?_) ?_) ?_) ?_ <;> exact this
      have xy : ((((((((w'.setCell ⟨A, 0, none⟩ (.int .i64 k)).setCell ⟨A, 1, none⟩ (.int .u64 (ws s 0 : Int))).setCell ⟨A, 2, none⟩ (.int .u64 (ws s 1 : Int))).setCell ⟨A, 3, none⟩ (.int .u64 (ws s 2 : Int))).setCell ⟨A, 4, none⟩ (.int .u64 (ws s 3 : Int))).setCell ⟨A, 5, none⟩ (.slice (some ⟨B, 0, none⟩) n n)).setCell ⟨A, 6, none⟩ (.bool nu)).setCell ⟨A, 7, none⟩ (.bool false)).heap[w.heap.size + 1]? = some (.cells #[.int .i64 0, .int .u64 0, .int .u64 0, .int .u64 0, .int .u64 0, .slice none 0 0, .bool false, .bool false] 69 (0, 0)) := by
        have : w.heap.size + 1 ≠ A := by omega
        refine blk_set (blk_set (blk_set (blk_set (blk_set (blk_set (blk_set (blk_set hy ?_) ?_) ?_) ?_) ?_) ?_) ?_) ?_ <;> exact this
      have xB : ((((((((w'.setCell ⟨A, 0, none⟩ (.int .i64 k)).setCell ⟨A, 1, none⟩ (.int .u64 (ws s 0 : Int))).setCell ⟨A, 2, none⟩ (.int .u64 (ws s 1 : Int))).setCell ⟨A, 3, none⟩ (.int .u64 (ws s 2 : Int))).setCell ⟨A, 4, none⟩ (.int .u64 (ws s 3 : Int))).setCell ⟨A, 5, none⟩ (.slice (some ⟨B, 0, none⟩) n n)).setCell ⟨A, 6, none⟩ (.bool nu)).setCell ⟨A, 7, none⟩ (.bool false)).heap[B]? = some (.cells (madeCells #[.int .i64 0, .int .u64 0, .int .u64 0, .int .u64 0, .int .u64 0, .slice none 0 0, .bool false, .bool false] (n * 8)) 69 (0, 0)) := by
        refine blk_set (blk_set (blk_set (blk_set (blk_set (blk_set (blk_set (blk_set hB ?_) ?_) ?_) ?_) ?_) ?_) ?_) ?_ <;> exact hne.symm
      have xb : Below w.heap.size w ((((((((w'.setCell ⟨A, 0, none⟩ (.int .i64 k)).setCell ⟨A, 1, none⟩ (.int .u64 (ws s 0 : Int))).setCell ⟨A, 2, none⟩ (.int .u64 (ws s 1 : Int))).setCell ⟨A, 3, none⟩ (.int .u64 (ws s 2 : Int))).setCell ⟨A, 4, none⟩ (.int .u64 (ws s 3 : Int))).setCell ⟨A, 5, none⟩ (.slice (some ⟨B, 0, none⟩) n n)).setCell ⟨A, 6, none⟩ (.bool nu)).setCell ⟨A, 7, none⟩ (.bool false)) := by
        refine below_put (below_put (below_put (below_put (below_put (below_put (below_put (below_put hb ?_) ?_) ?_) ?_) ?_) ?_) ?_) ?_ <;> omega
      have xs : w.heap.size + 2 ≤ ((((((((w'.setCell ⟨A, 0, none⟩ (.int .i64 k)).setCell ⟨A, 1, none⟩ (.int .u64 (ws s 0 : Int))).setCell ⟨A, 2, none⟩ (.int .u64 (ws s 1 : Int))).setCell ⟨A, 3, none⟩ (.int .u64 (ws s 2 : Int))).setCell ⟨A, 4, none⟩ (.int .u64 (ws s 3 : Int))).setCell ⟨A, 5, none⟩ (.slice (some ⟨B, 0, none⟩) n n)).setCell ⟨A, 6, none⟩ (.bool nu)).setCell ⟨A, 7, none⟩ (.bool false)).heap.size := by simpa using hsz
      go_simp
      refine hK.out _ _ ⟨_, _, _, _, _, _, _, _, _, _, _, _, A, B, rfl, fun h => h0 (by simpa using h), fun h => h1 (by simpa using h), fun h => h2 (by simpa using h), fun h => h3 (by simpa using h), fun h => h4 (by simpa using h), fun h => h5 (by simpa using h), fun h => h6 (by simpa using h), fun h => h7 (by simpa using h), fun h => h8 (by simpa using h), fun _ => ⟨rfl, xB, hB2⟩, fun _ => ⟨by simp [hb9], rfl⟩, fun _ => ⟨rfl, hA2, fun h => absurd h (by simp)⟩, fun _ => ⟨by simp [hb9], by simp [hb11], xA⟩, fun h h' => hAB (by simpa using h) (by simpa using h'), xx, xy, xs, xb⟩
  case done =>
    rintro b a' w' ⟨v3, v6, v7, v8, v9, v10, v11, v12, v13, v14, v15, v16, A, B, rfl, h0, h1, h2, h3, h4, h5, h6, h7, h8, h9, h10, h11, h12, hAB, hx, hy, hsz, hb⟩ hall
    obtain ⟨_, _, hA⟩ := h12 (hall 12)
    obtain ⟨rfl, hA2, _⟩ := h11 (hall 11)
    obtain ⟨rfl, hB, hB2⟩ := h9 (hall 9)
    have hne := hAB (hall 9) (hall 11)
    clear h0 h1 h2 h3 h4 h5 h6 h7 h8 h9 h10 h11 h12 hAB hall
    have HL := hid (And.intro hA (And.intro hB (And.intro hne (And.intro hA2 (And.intro hB2 (And.intro hx (And.intro hy (And.intro hsz hb))))))))
    obtain ⟨c0, c1, c2, c3, c4, c5⟩ := cells6' hx
    clear hA hB hne hA2 hB2 hx hy hsz hb
    go_wp2_with fail
    obtain ⟨S0, hS0⟩ : ∃ S0, S0 = w'.heap.size := ⟨_, rfl⟩
    go_loopg [20] n (fun k1 sl wr => ∃ (i : Nat), sl = .int .i64 i ∧ i + k1 = n ∧ wr.heap[A]? = some (.cells #[.int .i64 k, .int .u64 (ws s 0 : Int), .int .u64 (ws s 1 : Int), .int .u64 (ws s 2 : Int), .int .u64 (ws s 3 : Int), .slice (some ⟨B, 0, none⟩) n n, .bool nu, .bool false] 69 (0, 0)) ∧ (∃ C : Array Value, wr.heap[B]? = some (.cells C 69 (0, 0)) ∧ C.size = n * 8) ∧ PK wr B (npL (l.take i)) 0 S0 wr.heap.size ∧ S0 ≤ wr.heap.size ∧ wr.heap[w.heap.size + 1]? = some (.cells #[.int .i64 0, .int .u64 0, .int .u64 0, .int .u64 0, .int .u64 0, .slice none 0 0, .bool false, .bool false] 69 (0, 0)) ∧ Below w.heap.size w wr)
    case atStart =>
      refine ⟨0, rfl, by omega, HL.out.1, ⟨_, HL.out.2.1, by simp [madeCells]⟩, ?_, by omega, HL.out.2.2.2.2.2.2.1, HL.out.2.2.2.2.2.2.2.2⟩
      rw [List.take_zero, npL, PK]; omega
    case round =>
      obtain ⟨i, rfl, hk1, hA, ⟨C, hB, hCs⟩, hPK, hS, hy, hb⟩ := hrel
      by_cases hlt : i < n
      · have hlt' : (i : Int) < (n : Int) := by omega
        obtain ⟨b0, off, k', s', l', ak, nk, ck, rfl, _, hb0, hxi, hK', q0, q1, q2, q3, q4, q5⟩ := HK.out.1.get hlt
        have q0 := (hb.cell (p := ⟨b0, off + i * 6, none⟩) hb0).trans q0
        have q1 := (hb.cell (p := ⟨b0, off + i * 6 + 1, none⟩) hb0).trans q1
        have q2 := (hb.cell (p := ⟨b0, off + i * 6 + 2, none⟩) hb0).trans q2
        have q3 := (hb.cell (p := ⟨b0, off + i * 6 + 3, none⟩) hb0).trans q3
        have q4 := (hb.cell (p := ⟨b0, off + i * 6 + 4, none⟩) hb0).trans q4
        have q5 := (hb.cell (p := ⟨b0, off + i * 6 + 5, none⟩) hb0).trans q5
        have HR := hid (And.intro hA (And.intro hB (And.intro hCs (And.intro hPK (And.intro hS (And.intro hy (And.intro hb (And.intro hK' (And.intro hxi hb0)))))))))
        clear hA hB hCs hPK hS hy hb hK' hxi hb0
        go_wp2_with fail
        have HBS := hid (show B < S0 by rw [hS0]; exact heap_lt HL.out.2.1)
        have CK := hid (fun V (hV : Below w.heap.size w V) => IH.out.1 _ (List.mem_of_getElem? HR.out.2.2.2.2.2.2.2.2.1) V _ (show parts (.mk k' s' l') ≤ 1000000 by have := parts_mem (List.mem_of_getElem? HR.out.2.2.2.2.2.2.2.2.1); have := IH.out.2; rw [parts] at this; omega) (RC_mk.2 ⟨ak, nk, ck, rfl, HR.out.2.2.2.2.2.2.2.1.below hV⟩))
        refine region_inv (fun b a' w' => ∃ (v25 v26 v27 v28 v29 v30 : Value) (a9 : Option Addr) (n9 c9 : Nat), a' = { tmps := #[.agg #[.int .i64 k, .int .u64 (ws s 0 : Int), .int .u64 (ws s 1 : Int), .int .u64 (ws s 2 : Int), .int .u64 (ws s 3 : Int), .slice (some ⟨b0, off, none⟩) n c], .pointer (some ⟨w.heap.size, 0, none⟩), .pointer (some ⟨w.heap.size + 1, 0, none⟩), .pointer (some ⟨A, 0, none⟩), .int .i64 (i : Int), .pointer (some ⟨wr.heap.size, 0, none⟩), v6, v7, v8, v9, v10, v11, v12, v13, v14, .slice (some ⟨B, 0, none⟩) n n, v16, .pointer (some ⟨w.heap.size, 5, none⟩), .slice (some ⟨b0, off, none⟩) n c, .int .i64 (n : Int), .int .i64 (i : Int), .bool true, .int .i64 (i : Int), .pointer (some ⟨b0, off + i * 6, none⟩), .agg #[.int .i64 k', .int .u64 (ws s' 0 : Int), .int .u64 (ws s' 1 : Int), .int .u64 (ws s' 2 : Int), .int .u64 (ws s' 3 : Int), .slice ak nk ck], v25, v26, v27, v28, v29, v30, u31, undef], defers := [] } ∧ (b 0 = true → v25 = .pointer (some ⟨A, 5, none⟩)) ∧ (b 1 = true → v26 = .slice (some ⟨B, 0, none⟩) n n) ∧ (b 2 = true → v27 = .int .i64 (i : Int)) ∧ (b 3 = true → v28 = .agg #[.int .i64 k', .int .u64 (ws s' 0 : Int), .int .u64 (ws s' 1 : Int), .int .u64 (ws s' 2 : Int), .int .u64 (ws s' 3 : Int), .slice ak nk ck]) ∧ (b 4 = true → v29 = .agg #[.int .i64 k', .int .u64 (ws s' 0 : Int), .int .u64 (ws s' 1 : Int), .int .u64 (ws s' 2 : Int), .int .u64 (ws s' 3 : Int), .slice a9 n9 c9, .bool (nul (.mk k' s' l')), .bool false] ∧ (b 6 = false → PC w' (np (.mk k' s' l')) (pcs k' s' (.slice a9 n9 c9) (nul (.mk k' s' l')) false) wr.heap.size w'.heap.size)) ∧ (b 5 = true → v30 = .pointer (some ⟨B, i * 8, none⟩)) ∧ (b 6 = false → PK w' B (npL (l.take i)) 0 S0 wr.heap.size) ∧ (b 6 = true → PK w' B (npL (l.take (i + 1))) 0 S0 w'.heap.size) ∧ (b 6 = true → b 4 = true ∧ b 5 = true) ∧ (∃ C : Array Value, w'.heap[B]? = some (.cells C 69 (0, 0)) ∧ C.size = n * 8) ∧ w'.heap[A]? = some (.cells #[.int .i64 k, .int .u64 (ws s 0 : Int), .int .u64 (ws s 1 : Int), .int .u64 (ws s 2 : Int), .int .u64 (ws s 3 : Int), .slice (some ⟨B, 0, none⟩) n n, .bool nu, .bool false] 69 (0, 0)) ∧ w'.heap[wr.heap.size]? = some (.cells #[.int .i64 k', .int .u64 (ws s' 0 : Int), .int .u64 (ws s' 1 : Int), .int .u64 (ws s' 2 : Int), .int .u64 (ws s' 3 : Int), .slice ak nk ck] 27 (0, 0)) ∧ w'.heap[w.heap.size + 1]? = some (.cells #[.int .i64 0, .int .u64 0, .int .u64 0, .int .u64 0, .int .u64 0, .slice none 0 0, .bool false, .bool false] 69 (0, 0)) ∧ Below w.heap.size w w') (by kernel_rfl) (back_of (by kernel_rfl)) ?step2 ?done2 ?init2
        case step2 =>
          rintro b a' w' i o ho ⟨v25, v26, v27, v28, v29, v30, a9, n9, c9, rfl, h0, h1, h2, h3, h4, h5, g0, g1, g2, ⟨C, hB, hC⟩, hA, hx, hy, hb⟩ hbi hd K hK
          have hlt : i < 7 := by have := (Array.getElem?_eq_some_iff.1 ho).1; simpa using this
          have dep : ∀ k, (o.after.any fun e => Region.binds .any e && e.on == k) = true → b k = true := fun k hk => by
            obtain ⟨e, he, h⟩ := Array.any_eq_true'.1 hk
            simp only [Bool.and_eq_true, beq_iff_eq] at h
            rw [← h.2]; exact hd e he h.1
          clear hd
          have hi : i = 0 ∨ i = 1 ∨ i = 2 ∨ i = 3 ∨ i = 4 ∨ i = 5 ∨ i = 6 := by omega
          clear hlt
          rcases hi with rfl | rfl | rfl | rfl | rfl | rfl | rfl
          · simp only [List.getElem?_toArray, List.getElem?_cons_zero, List.getElem?_cons_succ, Option.some.injEq] at ho
            subst ho
            go_simp
            refine hK.out _ _ ⟨_, _, _, _, _, _, a9, n9, c9, rfl, fun _ => rfl, fun h => h1 (by simpa using h), fun h => h2 (by simpa using h), fun h => h3 (by simpa using h), fun h => ⟨(h4 (by simpa using h)).1, fun h' => (h4 (by simpa using h)).2 (by simpa using h')⟩, fun h => h5 (by simpa using h), fun h => g0 (by simpa using h), fun h => g1 (by simpa using h), fun h => ⟨by simp [(g2 (by simpa using h)).1], by simp [(g2 (by simpa using h)).2]⟩, ⟨C, hB, hC⟩, hA, hx, hy, hb⟩
          · simp only [List.getElem?_toArray, List.getElem?_cons_zero, List.getElem?_cons_succ, Option.some.injEq] at ho
            subst ho
            obtain rfl := h0 (dep 0 (by kernel_rfl))
            obtain ⟨c0, c1, c2, c3, c4, c5, c6, c7⟩ := cells8 hA
            go_simp
            refine hK.out _ _ ⟨_, _, _, _, _, _, a9, n9, c9, rfl, fun h => h0 (by simpa using h), fun _ => rfl, fun h => h2 (by simpa using h), fun h => h3 (by simpa using h), fun h => ⟨(h4 (by simpa using h)).1, fun h' => (h4 (by simpa using h)).2 (by simpa using h')⟩, fun h => h5 (by simpa using h), fun h => g0 (by simpa using h), fun h => g1 (by simpa using h), fun h => ⟨by simp [(g2 (by simpa using h)).1], by simp [(g2 (by simpa using h)).2]⟩, ⟨C, hB, hC⟩, hA, hx, hy, hb⟩
          · simp only [List.getElem?_toArray, List.getElem?_cons_zero, List.getElem?_cons_succ, Option.some.injEq] at ho
            subst ho
            go_simp
            refine hK.out _ _ ⟨_, _, _, _, _, _, a9, n9, c9, rfl, fun h => h0 (by simpa using h), fun h => h1 (by simpa using h), fun _ => rfl, fun h => h3 (by simpa using h), fun h => ⟨(h4 (by simpa using h)).1, fun h' => (h4 (by simpa using h)).2 (by simpa using h')⟩, fun h => h5 (by simpa using h), fun h => g0 (by simpa using h), fun h => g1 (by simpa using h), fun h => ⟨by simp [(g2 (by simpa using h)).1], by simp [(g2 (by simpa using h)).2]⟩, ⟨C, hB, hC⟩, hA, hx, hy, hb⟩
          · simp only [List.getElem?_toArray, List.getElem?_cons_zero, List.getElem?_cons_succ, Option.some.injEq] at ho
            subst ho
            obtain ⟨c0, c1, c2, c3, c4, c5⟩ := cells6' hx
            go_simp
            refine hK.out _ _ ⟨_, _, _, _, _, _, a9, n9, c9, rfl, fun h => h0 (by simpa using h), fun h => h1 (by simpa using h), fun h => h2 (by simpa using h), fun _ => rfl, fun h => ⟨(h4 (by simpa using h)).1, fun h' => (h4 (by simpa using h)).2 (by simpa using h')⟩, fun h => h5 (by simpa using h), fun h => g0 (by simpa using h), fun h => g1 (by simpa using h), fun h => ⟨by simp [(g2 (by simpa using h)).1], by simp [(g2 (by simpa using h)).2]⟩, ⟨C, hB, hC⟩, hA, hx, hy, hb⟩
          · simp only [List.getElem?_toArray, List.getElem?_cons_zero, List.getElem?_cons_succ, Option.some.injEq] at ho
            subst ho
            obtain rfl := h3 (dep 3 (by kernel_rfl))
            have hb6 : b 6 = false := by
              cases hb' : b 6
              · rfl
              · have := (g2 hb').1; rw [hbi] at this; cases this
            have CKV := hid (CK.out w' hb)
            go_simp
            refine CKV.out.mono ?_
            rintro e W5 ⟨⟨ps, rfl, hPC⟩, B5⟩
            rw [np] at hPC
            obtain ⟨a9', n9', c9', rfl, hPC'⟩ := PC_mk.1 hPC
            refine hK.out _ _ ⟨_, _, _, _, _, _, a9', n9', c9', rfl, fun h => h0 (by simpa using h), fun h => h1 (by simpa using h), fun h => h2 (by simpa using h), fun h => h3 (by simpa using h), fun _ => ⟨rfl, fun _ => by rw [np]; exact hPC.low (Nat.le_of_lt (heap_lt hx))⟩, fun h => h5 (by simpa using h), fun h => PK.kept B5.size (fun j _ _ => World.cell?_of_block (B5.block _ (heap_lt hB))) (fun y _ hy => B5.block _ (by have := heap_lt hx; omega)) (g0 (by simpa using h)), fun h => absurd h (by simp [hb6]), fun h => absurd h (by simp [hb6]), ⟨C, (B5.block _ (heap_lt hB)).trans hB, hC⟩, (B5.block _ (heap_lt hA)).trans hA, (B5.block _ (heap_lt hx)).trans hx, (B5.block _ (heap_lt hy)).trans hy, hb.trans (B5.mono hb.size)⟩
          · simp only [List.getElem?_toArray, List.getElem?_cons_zero, List.getElem?_cons_succ, Option.some.injEq] at ho
            subst ho
            obtain rfl := h1 (dep 1 (by kernel_rfl))
            obtain rfl := h2 (dep 2 (by kernel_rfl))
            go_simp
            refine hK.out _ _ ⟨_, _, _, _, _, _, a9, n9, c9, rfl, fun h => h0 (by simpa using h), fun h => h1 (by simpa using h), fun h => h2 (by simpa using h), fun h => h3 (by simpa using h), fun h => ⟨(h4 (by simpa using h)).1, fun h' => (h4 (by simpa using h)).2 (by simpa using h')⟩, fun _ => rfl, fun h => g0 (by simpa using h), fun h => g1 (by simpa using h), fun h => ⟨by simp [(g2 (by simpa using h)).1], by simp [(g2 (by simpa using h)).2]⟩, ⟨C, hB, hC⟩, hA, hx, hy, hb⟩
          · simp only [List.getElem?_toArray, List.getElem?_cons_zero, List.getElem?_cons_succ, Option.some.injEq] at ho
            subst ho
            have hb4 := dep 4 (by kernel_rfl)
            obtain rfl := h5 (dep 5 (by kernel_rfl))
            obtain ⟨rfl, hPC⟩ := h4 hb4
            have hPC := hPC hbi
            have hK0 := g0 hbi
            have hBS := HBS.out
            have hsx := heap_lt hx
            have f0 := free hB (i * 8)
            have f1 := free hB (i * 8 + 1)
            have f2 := free hB (i * 8 + 2)
            have f3 := free hB (i * 8 + 3)
            have f4 := free hB (i * 8 + 4)
            have f5 := free hB (i * 8 + 5)
            have f6 := free hB (i * 8 + 6)
            have f7 := free hB (i * 8 + 7)
            have e0 := cell_in hB (show i * 8 < C.size by omega)
            have e1 := cell_in hB (show i * 8 + 1 < C.size by omega)
            have e2 := cell_in hB (show i * 8 + 2 < C.size by omega)
            have e3 := cell_in hB (show i * 8 + 3 < C.size by omega)
            have e4 := cell_in hB (show i * 8 + 4 < C.size by omega)
            have e5 := cell_in hB (show i * 8 + 5 < C.size by omega)
            have e6 := cell_in hB (show i * 8 + 6 < C.size by omega)
            have e7 := cell_in hB (show i * 8 + 7 < C.size by omega)
            obtain ⟨w6, hw6⟩ : ∃ w6, w6 = ((((((((w'.setCell ⟨B, i * 8, none⟩ (.int .i64 k')).setCell ⟨B, i * 8 + 1, none⟩ (.int .u64 (ws s' 0 : Int))).setCell ⟨B, i * 8 + 2, none⟩ (.int .u64 (ws s' 1 : Int))).setCell ⟨B, i * 8 + 3, none⟩ (.int .u64 (ws s' 2 : Int))).setCell ⟨B, i * 8 + 4, none⟩ (.int .u64 (ws s' 3 : Int))).setCell ⟨B, i * 8 + 5, none⟩ (.slice a9 n9 c9)).setCell ⟨B, i * 8 + 6, none⟩ (.bool (nul (.mk k' s' l')))).setCell ⟨B, i * 8 + 7, none⟩ (.bool false)) := ⟨_, rfl⟩
            obtain ⟨p1, ⟨C', p2, p3⟩, p4, p5, p6, p7⟩ := put8 hB (show i * 8 + 8 ≤ C.size by omega) _ _ _ _ _ _ _ _ w6 hw6
            have hln9 : (npL (l.take i)).length = i := by rw [npL_len, List.length_take, hln.out]; omega
            have hPK6 : PK w6 B (npL (l.take (i + 1))) 0 S0 w6.heap.size := by
              rw [List.take_add_one, HR.out.2.2.2.2.2.2.2.2.1, show (some (Rx.mk k' s' l')).toList = [Rx.mk k' s' l'] from rfl, npL_snoc]
              refine PK.snoc (cs := (pcs k' s' (.slice a9 n9 c9) (nul (.mk k' s' l')) false)) (mid := wr.heap.size) (PK.kept (by rw [p1]; exact Nat.le_refl _) (fun j _ hj => p5 j (by rw [hln9] at hj; omega)) (fun y y1 _ => p4 y (by omega)) hK0) (fun (j : Nat) (v : Value) hj => ?_) (fun m hm => ?_)
              · rw [hln9, show 0 + 8 * i + j = i * 8 + j by omega]; exact p6 j v hj
              · rw [p1]
                exact (PC.keep (by rw [p1]; exact Nat.le_refl _) _ (fun y y1 _ => p4 y (by have := HR.out.2.2.2.2.1; omega)) hPC).low hm
            have hBw := HBS.out
            have q1 := (p4 A HL.out.2.2.1).trans hA
            have q2 := (p4 _ (by have := HR.out.2.2.2.2.1; omega)).trans hx
            have q3 := (p4 _ (by have := HL.out.2.2.2.2.1; omega)).trans hy
            have q4 := p7 _ _ hb (by have := HL.out.2.2.2.2.1; omega)
            go_simp
            rw [← hw6]
            refine hK.out _ _ ⟨_, _, _, _, _, _, a9, n9, c9, rfl, fun h => h0 (by simpa using h), fun h => h1 (by simpa using h), fun h => h2 (by simpa using h), fun h => h3 (by simpa using h), fun _ => ⟨rfl, fun h => absurd h (by simp)⟩, fun h => h5 (by simpa using h), fun h => absurd h (by simp), fun _ => hPK6, fun _ => ⟨by simp [hb4], by simp [dep 5 (by kernel_rfl)]⟩, ⟨C', p2, p3.trans hC⟩, q1, q2, q3, q4⟩
        case done2 =>
          rintro b a' w' ⟨v25, v26, v27, v28, v29, v30, a9, n9, c9, rfl, h0, h1, h2, h3, h4, h5, g0, g1, g2, ⟨C, hB, hC⟩, hA, hx, hy, hb⟩ hall
          have hK1 := g1 (hall 6)
          have hsx := heap_lt hx
          clear h0 h1 h2 h3 h4 h5 g0 g1 g2
          have HE := hid (And.intro hK1 (And.intro hB (And.intro hC (And.intro hA (And.intro hy hb)))))
          clear hK1 hB hC hA hx hy hb
          go_wp2_with fail
          go_roundg (gk - 1)
          case measure => omega
          case rel => exact ⟨i + 1, by go_num, by omega, HE.out.2.2.2.1, ⟨C, HE.out.2.1, HE.out.2.2.1⟩, HE.out.1, by have := HR.out.2.2.2.2.1; omega, HE.out.2.2.2.2.1, HE.out.2.2.2.2.2⟩
        case init2 =>
          have hxW : (wr.alloc (.cells #[.int .i64 k', .int .u64 (ws s' 0 : Int), .int .u64 (ws s' 1 : Int), .int .u64 (ws s' 2 : Int), .int .u64 (ws s' 3 : Int), .slice ak nk ck] 27)).heap[wr.heap.size]? = some (.cells #[.int .i64 k', .int .u64 (ws s' 0 : Int), .int .u64 (ws s' 1 : Int), .int .u64 (ws s' 2 : Int), .int .u64 (ws s' 3 : Int), .slice ak nk ck] 27 (0, 0)) := alloc_new _ _
          have hbW := bel1 wr (.cells #[.int .i64 k', .int .u64 (ws s' 0 : Int), .int .u64 (ws s' 1 : Int), .int .u64 (ws s' 2 : Int), .int .u64 (ws s' 3 : Int), .slice ak nk ck] 27)
          exact ⟨_, _, _, _, _, _, none, 0, 0, rfl, fun h => absurd h (by simp), fun h => absurd h (by simp), fun h => absurd h (by simp), fun h => absurd h (by simp), fun h => absurd h (by simp), fun h => absurd h (by simp), fun _ => PK.kept (by simp) (fun j _ _ => World.cell?_of_block (hbW.block _ (heap_lt HR.out.2.1))) (fun y _ hy => hbW.block _ hy) HR.out.2.2.2.1, fun h => absurd h (by simp), fun h => absurd h (by simp), ⟨C, (hbW.block _ (heap_lt HR.out.2.1)).trans HR.out.2.1, HR.out.2.2.1⟩, (hbW.block _ (heap_lt HR.out.1)).trans HR.out.1, hxW, (hbW.block _ (heap_lt HR.out.2.2.2.2.2.1)).trans HR.out.2.2.2.2.2.1, HR.out.2.2.2.2.2.2.1.trans (hbW.mono HR.out.2.2.2.2.2.2.1.size).drew⟩
      · have hlt' : ¬ (i : Int) < (n : Int) := by omega
        obtain rfl : n = i := by omega
        rw [List.take_of_length_le (by rw [hln.out]; exact Nat.le_refl _)] at hPK
        obtain ⟨c0, c1, c2, c3, c4, c5, c6, c7⟩ := cells8 hA
        obtain ⟨d0, d1, d2, d3, d4, d5, d6, d7⟩ := cells8 hy
        have f0 := free hy 0
        have f1 := free hy 1
        have f2 := free hy 2
        have f3 := free hy 3
        have f4 := free hy 4
        have f5 := free hy 5
        have f6 := free hy 6
        have f7 := free hy 7
        have HFB := hid (show Fz wr B from free hB)
        have HR := hid (And.intro hA (And.intro hPK (And.intro hS (And.intro hy hb))))
        clear hA hPK hS hy hb
        have yR : ((((((((wr.setCell ⟨w.heap.size + 1, 0, none⟩ (.int .i64 k)).setCell ⟨w.heap.size + 1, 1, none⟩ (.int .u64 (ws s 0 : Int))).setCell ⟨w.heap.size + 1, 2, none⟩ (.int .u64 (ws s 1 : Int))).setCell ⟨w.heap.size + 1, 3, none⟩ (.int .u64 (ws s 2 : Int))).setCell ⟨w.heap.size + 1, 4, none⟩ (.int .u64 (ws s 3 : Int))).setCell ⟨w.heap.size + 1, 5, none⟩ (.slice (some ⟨B, 0, none⟩) n n)).setCell ⟨w.heap.size + 1, 6, none⟩ (.bool nu)).setCell ⟨w.heap.size + 1, 7, none⟩ (.bool false)).heap[w.heap.size + 1]? = some (.cells #[.int .i64 k, .int .u64 (ws s 0 : Int), .int .u64 (ws s 1 : Int), .int .u64 (ws s 2 : Int), .int .u64 (ws s 3 : Int), .slice (some ⟨B, 0, none⟩) n n, .bool nu, .bool false] 69 (0, 0)) := by
          rw [blk_put (blk_put (blk_put (blk_put (blk_put (blk_put (blk_put (blk_put HR.out.2.2.2.1)))))))]; rfl
        obtain ⟨e0, e1, e2, e3, e4, e5, e6, e7⟩ := cells8 yR
        clear yR
        go_wp2_with fail
        refine bodyPost_ret (v := .agg #[.int .i64 k, .int .u64 (ws s 0 : Int), .int .u64 (ws s 1 : Int), .int .u64 (ws s 2 : Int), .int .u64 (ws s 3 : Int), .slice (some ⟨B, 0, none⟩) n n, .bool nu, .bool false]) ?_ rfl ⟨?_, ?_⟩
        · simp [results, Tryd.results45, go_sem, e0, e1, e2, e3, e4, e5, e6, e7]
        · refine ⟨pcs k s (.slice (some ⟨B, 0, none⟩) n n) nu false, rfl, PC_mk.2 ⟨_, n, _, rfl, by rw [npL_len, hln.out], hnl, ?_, ?_, .inr ⟨B, S0, rfl, ?_, ?_, ?_, ?_⟩⟩⟩
          · have := HR.out.2.2.1; have := HL.out.2.2.2.2.2.2.2.1; simp; omega
          · simp
          · have := HL.out.2.2.2.2.1; omega
          · have := heap_lt HL.out.2.1; omega
          · exact ((((((((HFB.out.put _ _).put _ _).put _ _).put _ _).put _ _).put _ _).put _ _).put _ _)
          · have hB2 := HL.out.2.2.2.2.1
            have hs2 := HL.out.2.2.2.2.2.2.2.1
            refine PK.kept (by simp) (fun j _ _ => ?_) (fun y y1 _ => ?_) (PK.high (by simp) HR.out.2.1)
            · rw [World.cell?_setCell_other, World.cell?_setCell_other, World.cell?_setCell_other, World.cell?_setCell_other, World.cell?_setCell_other, World.cell?_setCell_other, World.cell?_setCell_other, World.cell?_setCell_other] <;> (intro h; simp at h; try omega)
            · rw [heap_setCell_other, heap_setCell_other, heap_setCell_other, heap_setCell_other, heap_setCell_other, heap_setCell_other, heap_setCell_other, heap_setCell_other] <;> first | (simp; done) | (simp; omega)
        · refine below_put (below_put (below_put (below_put (below_put (below_put (below_put (below_put HR.out.2.2.2.2 ?_) ?_) ?_) ?_) ?_) ?_) ?_) ?_ <;> omega
  case init =>
    exact ⟨_, _, _, _, _, _, _, _, _, _, _, _, 0, 0, rfl, fun h => absurd h (by simp), fun h => absurd h (by simp), fun h => absurd h (by simp), fun h => absurd h (by simp), fun h => absurd h (by simp), fun h => absurd h (by simp), fun h => absurd h (by simp), fun h => absurd h (by simp), fun h => absurd h (by simp), fun h => absurd h (by simp), fun h => absurd h (by simp), fun h => absurd h (by simp), fun h => absurd h (by simp), fun h => absurd h (by simp), HK.out.2.2.1, HK.out.2.2.2.1, by have := HK.out.2.2.2.2; simp; omega, HK.out.2.1.trans (((Below.refl _ _).drew).mono HK.out.2.1.size)⟩
end Go.Proofs.YtednoideboeehaaDoor
end
