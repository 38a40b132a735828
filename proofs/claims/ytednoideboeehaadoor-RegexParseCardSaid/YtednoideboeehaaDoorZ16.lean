/-
  Contract: clone.
  A drawn region by an invariant, inside a fence that lets every call through (in the round of a range over a function): the same steps as outside (no program; lies as <Seat>Ix, behind <Seat>Iv and <Seat>Rq).
-/
import Derived.Test.YtednoideboeehaaDoorZ15
import Derived.Test.YtednoideboeehaaDoorZ06
import Derived.Test.YtednoideboeehaaDoorZ02
section
set_option linter.unusedSimpArgs false
set_option linter.unusedVariables false
namespace Go.Proofs.YtednoideboeehaaDoor
open Go.RowKit Bs Rg Go.Frame

theorem cellin {W : World} {B o : Nat} {C : Array Value} {t : TypeId} (hB : W.heap[B]? = some (.cells C t (0, 0))) (h : o < C.size) : W.cell? ⟨B, o, none⟩ = some (C.getD o (.bool false)) := by
  rw [World.cell?]; simp [hB, Array.getElem?_eq_getElem h, Array.getD_eq_getD_getElem?]
theorem cellat {W : World} {B o : Nat} {C : Array Value} {t : TypeId} {x : Value} (hB : W.heap[B]? = some (.cells C t (0, 0))) (h : C[o]? = some x) : W.cell? ⟨B, o, none⟩ = some x := by
  rw [World.cell?]; simp [hB, h]
/-- Six cells written one behind the other. -/
theorem put6 {W : World} {B o : Nat} {C : Array Value} {t : TypeId} (hB : W.heap[B]? = some (.cells C t (0, 0))) (ho : o + 6 ≤ C.size) (x0 x1 x2 x3 x4 x5 : Value) : ∀ w6, w6 = ((((((W.setCell ⟨B, o, none⟩ x0).setCell ⟨B, o + 1, none⟩ x1).setCell ⟨B, o + 2, none⟩ x2).setCell ⟨B, o + 3, none⟩ x3).setCell ⟨B, o + 4, none⟩ x4).setCell ⟨B, o + 5, none⟩ x5) →
    w6.heap.size = W.heap.size ∧ (∃ C' : Array Value, w6.heap[B]? = some (.cells C' t (0, 0)) ∧ C'.size = C.size) ∧ (∀ y, y ≠ B → w6.heap[y]? = W.heap[y]?) ∧ (∀ j, ¬ (o ≤ j ∧ j < o + 6) → w6.cell? ⟨B, j, none⟩ = W.cell? ⟨B, j, none⟩) ∧
    (∀ (j : Nat) (v : Value), [x0, x1, x2, x3, x4, x5][j]? = some v → w6.cell? ⟨B, o + j, none⟩ = some v) ∧ (∀ n a, Below n a W → n ≤ B → Below n a w6) := by
  rintro w6 rfl
  have hb := blk_put (k := o + 5) (v := x5) (blk_put (k := o + 4) (v := x4) (blk_put (k := o + 3) (v := x3) (blk_put (k := o + 2) (v := x2) (blk_put (k := o + 1) (v := x1) (blk_put (k := o) (v := x0) hB)))))
  refine ⟨by simp, ⟨_, hb, by simp⟩, fun y hy => ?_, fun j hj => ?_, fun j v hj => ?_, fun n a h hn => ?_⟩
  · rw [heap_setCell_other, heap_setCell_other, heap_setCell_other, heap_setCell_other, heap_setCell_other, heap_setCell_other] <;> exact hy
  · rw [World.cell?_setCell_other, World.cell?_setCell_other, World.cell?_setCell_other, World.cell?_setCell_other, World.cell?_setCell_other, World.cell?_setCell_other] <;> (intro h; simp at h; try omega)
  · refine cellat hb ?_
    have hj' : j = 0 ∨ j = 1 ∨ j = 2 ∨ j = 3 ∨ j = 4 ∨ j = 5 := by have := (List.getElem?_eq_some_iff.1 hj).1; simp at this; omega
    rcases hj' with rfl | rfl | rfl | rfl | rfl | rfl <;> simp at hj <;> subst hj <;> simp [Array.getElem?_setIfInBounds] <;> omega
  · exact below_put (below_put (below_put (below_put (below_put (below_put h hn) hn) hn) hn) hn) hn
/-- The cells of the kids, one behind the other. -/
def Kc.six (q : Kc) (i : Nat) : List Value := [.int .i64 (q.k i), .int .u64 (ws (q.s i) 0 : Int), .int .u64 (ws (q.s i) 1 : Int), .int .u64 (ws (q.s i) 2 : Int), .int .u64 (ws (q.s i) 3 : Int), .slice (q.a i) (q.n i) (q.c i)]
def Kc.flat (q : Kc) : Nat → List Value
  | 0 => []
  | n + 1 => q.flat n ++ q.six n
theorem Kc.flat_len (q : Kc) : ∀ n, (q.flat n).length = n * 6
  | 0 => rfl
  | n + 1 => by rw [Kc.flat, List.length_append, Kc.flat_len q n]; simp [Kc.six]; omega
theorem Kc.flat_at (q : Kc) : ∀ {n i j : Nat}, i < n → j < 6 → (q.flat n)[i * 6 + j]? = (q.six i)[j]?
  | n + 1, i, j, hi, hj => by
    rw [Kc.flat]
    have hl := q.flat_len n
    by_cases h : i < n
    · rw [List.getElem?_append_left (by rw [hl]; omega)]; exact Kc.flat_at q h hj
    · obtain rfl : i = n := by omega
      rw [List.getElem?_append_right (by rw [hl]; omega), hl, show i * 6 + j - i * 6 = j by omega]
theorem Kc.flat_cells {q : Kc} {W : World} {bk off n : Nat} (h : q.At W bk off n) : ∀ (j : Nat) (u : Value), (q.flat n)[j]? = some u → W.cell? ⟨bk, off + j, none⟩ = some u := by
  intro j u hj
  have hl := (List.getElem?_eq_some_iff.1 hj).1
  rw [q.flat_len] at hl
  have h1 := q.flat_at (n := n) (i := j / 6) (j := j % 6) (by omega) (by omega)
  rw [show j / 6 * 6 + j % 6 = j by omega, hj] at h1
  obtain ⟨q0, q1, q2, q3, q4, q5⟩ := h.2 (j / 6) (by omega)
  have h6 : j % 6 = 0 ∨ j % 6 = 1 ∨ j % 6 = 2 ∨ j % 6 = 3 ∨ j % 6 = 4 ∨ j % 6 = 5 := by omega
  rcases h6 with e | e | e | e | e | e <;> rw [e] at h1 <;> simp [Kc.six] at h1 <;> subst h1
  · rw [show off + j = off + j / 6 * 6 by omega]; exact q0
  · rw [show off + j = off + j / 6 * 6 + 1 by omega]; exact q1
  · rw [show off + j = off + j / 6 * 6 + 2 by omega]; exact q2
  · rw [show off + j = off + j / 6 * 6 + 3 by omega]; exact q3
  · rw [show off + j = off + j / 6 * 6 + 4 by omega]; exact q4
  · rw [show off + j = off + j / 6 * 6 + 5 by omega]; exact q5
theorem Kc.flat_one (q : Kc) : ∀ n, ∀ u ∈ q.flat n, u.oneCell' = true
  | 0, u, h => by simp [Kc.flat] at h
  | n + 1, u, h => by
    rw [Kc.flat, List.mem_append] at h
    rcases h with h | h
    · exact Kc.flat_one q n u h
    · simp [Kc.six] at h
      rcases h with rfl | rfl | rfl | rfl | rfl | rfl <;> rfl
/-- The row, its first kids in memory of their own. -/
structure CR (base X n : Nat) (q : Kc) (l : List Rx) (i : Nat) (W : World) : Prop where
  blk : ∃ C : Array Value, W.heap[X]? = some (.cells C 27 (0, 0)) ∧ n * 6 ≤ C.size
  fin : ∀ (j : Nat) (x : Rx), j < i → l[j]? = some x → ∃ cs : List Value, (∀ (t : Nat) (u : Value), cs[t]? = some u → W.cell? ⟨X, j * 6 + t, none⟩ = some u) ∧ RC (fun b => base ≤ b ∧ b ≠ X) W x cs
  rest : ∀ j, i ≤ j → j < n → ∀ (t : Nat) (u : Value), (q.six j)[t]? = some u → W.cell? ⟨X, j * 6 + t, none⟩ = some u
theorem CR.below {base X n : Nat} {q : Kc} {l : List Rx} {i : Nat} {W W' : World} (h : CR base X n q l i W) (hb : Below W.heap.size W W') : CR base X n q l i W' := by
  obtain ⟨⟨C, h1, h2⟩, h3, h4⟩ := h
  have hX := hb.block _ (heap_lt h1)
  refine ⟨⟨C, hX.trans h1, h2⟩, fun j x hj hx => ?_, fun j hj hn t u hu => (World.cell?_of_block (a := ⟨X, _, none⟩) hX).trans (h4 j hj hn t u hu)⟩
  obtain ⟨cs, g1, g2⟩ := h3 j x hj hx
  exact ⟨cs, fun t u hu => (World.cell?_of_block (a := ⟨X, _, none⟩) hX).trans (g1 t u hu), g2.below hb⟩
theorem CR.putOther {base X n : Nat} {q : Kc} {l : List Rx} {i : Nat} {W : World} (h : CR base X n q l i W) {B o : Nat} (v : Value) (hB : B < base) (hX : B ≠ X) : CR base X n q l i (W.setCell ⟨B, o, none⟩ v) := by
  obtain ⟨⟨C, h1, h2⟩, h3, h4⟩ := h
  have hXX : (W.setCell ⟨B, o, none⟩ v).heap[X]? = W.heap[X]? := heap_setCell_other _ _ _ _ (Ne.symm hX)
  refine ⟨⟨C, hXX.trans h1, h2⟩, fun j x hj hx => ?_, fun j hj hn t u hu => (World.cell?_of_block (a := ⟨X, _, none⟩) hXX).trans (h4 j hj hn t u hu)⟩
  obtain ⟨cs, g1, g2⟩ := h3 j x hj hx
  exact ⟨cs, fun t u hu => (World.cell?_of_block (a := ⟨X, _, none⟩) hXX).trans (g1 t u hu), RC.keep (by simp) (fun b hb _ => heap_setCell_other _ _ _ _ (by show b ≠ B; have := hb.1; omega)) (fun _ h => h) x g2⟩
theorem CR.step {base X n M : Nat} {q : Kc} {l : List Rx} {i : Nat} {W : World} {x : Rx} {cs : List Value} (h : CR base X n q l i W) (hx : l[i]? = some x) (hi : i < n) (hc : RC (ge M) W x cs) (hM : base ≤ M) (hXM : X < M) {w6 : World}
    (z1 : w6.heap.size = W.heap.size) (z2 : ∃ C' : Array Value, w6.heap[X]? = some (.cells C' 27 (0, 0)) ∧ n * 6 ≤ C'.size) (z4 : ∀ y, y ≠ X → w6.heap[y]? = W.heap[y]?) (z5 : ∀ j, ¬ (i * 6 ≤ j ∧ j < i * 6 + 6) → w6.cell? ⟨X, j, none⟩ = W.cell? ⟨X, j, none⟩) (z6 : ∀ (j : Nat) (v : Value), cs[j]? = some v → w6.cell? ⟨X, i * 6 + j, none⟩ = some v) : CR base X n q l (i + 1) w6 := by
  obtain ⟨⟨C, h1, h2⟩, h3, h4⟩ := h
  have keep : ∀ {y : Rx} {ds : List Value}, RC (fun b => base ≤ b ∧ b ≠ X) W y ds → RC (fun b => base ≤ b ∧ b ≠ X) w6 y ds := fun {y ds} hy => RC.keep (by rw [z1]; exact Nat.le_refl _) (fun b hb _ => z4 b hb.2) (fun _ h => h) y hy
  refine ⟨z2, fun j y hj hy => ?_, fun j hj hn t u hu => ?_⟩
  · by_cases e : j = i
    · subst e
      rw [hx] at hy
      simp at hy
      subst hy
      exact ⟨cs, z6, keep (hc.more (g' := fun b => base ≤ b ∧ b ≠ X) fun b hb => ⟨Nat.le_trans hM hb, by have : M ≤ b := hb; omega⟩)⟩
    · obtain ⟨ds, g1, g2⟩ := h3 j y (by omega) hy
      have := g2.six
      exact ⟨ds, fun t u hu => by
        have ht := (List.getElem?_eq_some_iff.1 hu).1
        rw [z5 _ (by omega)]; exact g1 t u hu, keep g2⟩
  · have ht := (List.getElem?_eq_some_iff.1 hu).1
    simp [Kc.six] at ht
    rw [z5 _ (by omega)]
    exact h4 j (by omega) hn t u hu
theorem CR.kd {base X n : Nat} {q : Kc} {l : List Rx} {W : World} (h : CR base X n q l n W) (hl : l.length = n) (hn : n < 140737488355328) (hX : base ≤ X) : Kd (ge base) W (some ⟨X, 0, none⟩) n l := by
  obtain ⟨⟨C, h1, h2⟩, h3, h4⟩ := h
  refine ⟨hl, hn, .inr ⟨X, 0, rfl, hX, heap_lt h1, RK_of fun i x hi => ?_⟩⟩
  obtain ⟨cs, g1, g2⟩ := h3 i x (by have := (List.getElem?_eq_some_iff.1 hi).1; omega) hi
  exact ⟨cs, fun t u hu => by rw [Nat.zero_add]; exact g1 t u hu, g2.more fun b hb => hb.1⟩

set_option maxRecDepth 100000 in
set_option maxHeartbeats 8000000 in
theorem clone_any (g : Nat → Prop) (r : Rx) : ∀ (w : World) (cs : List Value), parts r ≤ 1000000 → RC g w r cs →
    Calls Tryd.prog 104 #[.agg cs.toArray] w fun e w' => (∃ cs' : List Value, e = .returned (.agg cs'.toArray) ∧ RC (ge w.heap.size) w' r cs') ∧ Below w.heap.size w w' := by
  induction r using Rx.ind with
  | h k s l ih =>
  intro w cs hp h
  obtain ⟨a, n, c, rfl, hK⟩ := RC_mk.1 h
  have hln := hK.len
  have hnl := hK.lt
  have hpl : partsL l + 1 ≤ 1000000 := by rw [parts] at hp; exact hp
  have hn6 : n ≤ 1000000 := by
    have h9 : ∀ m : List Rx, m.length ≤ partsL m := by
      intro m
      induction m with
      | nil => exact Nat.zero_le _
      | cons x m ihm => have := parts_pos x; rw [partsL, List.length_cons]; omega
    have := h9 l
    omega
  have hrow : ∃ (q : Kc) (bk off : Nat), (n = 0 ∨ a = some ⟨bk, off, none⟩ ∧ q.At w bk off n) ∧ ∀ i, i < n → ∃ l', l[i]? = some (.mk (q.k i) (q.s i) l') ∧ Kd g w (q.a i) (q.n i) l' := by
    by_cases h0 : n = 0
    · exact ⟨⟨fun _ => 0, fun _ => none8, fun _ => none, fun _ => 0, fun _ => 0⟩, 0, 0, .inl h0, fun i hi => by omega⟩
    · obtain ⟨q, bk, off, h1, h2, h3, h4⟩ := hK.kc h0
      exact ⟨q, bk, off, .inr ⟨h1, h3⟩, h4⟩
  obtain ⟨q, bk, off, hq, hkids⟩ := hrow
  have haN : a = none → n = 0 := fun e => by
    rcases hq with h0 | ⟨h1, _⟩
    · exact h0
    · rw [h1] at e; cases e
  obtain ⟨W, hW⟩ : ∃ W, W = (w.alloc (.cells #[.int .i64 k, .int .u64 (ws s 0 : Int), .int .u64 (ws s 1 : Int), .int .u64 (ws s 2 : Int), .int .u64 (ws s 3 : Int), .slice a n c] 27)).alloc (.cells #[.int .i64 0, .int .u64 0, .int .u64 0, .int .u64 0, .int .u64 0, .slice none 0 0] 27) := ⟨_, rfl⟩
  obtain ⟨x0, x1, bW, hsz⟩ := Go.Frame.two w (.cells #[.int .i64 k, .int .u64 (ws s 0 : Int), .int .u64 (ws s 1 : Int), .int .u64 (ws s 2 : Int), .int .u64 (ws s 3 : Int), .slice a n c] 27) (.cells #[.int .i64 0, .int .u64 0, .int .u64 0, .int .u64 0, .int .u64 0, .slice none 0 0] 27)
  rw [← hW] at x0 x1 bW hsz
  have CC := hid (Clone_any a n c W hn6 (q.flat n) (q.flat_len n)
    (fun ad had => by
      rcases hq with h0 | ⟨h1, h2⟩
      · exact .inl h0
      · rw [had] at h1
        simp at h1
        subst h1
        exact .inr ⟨bk, off, rfl, Nat.lt_of_lt_of_le h2.1 bW.size, fun j u hj => Kc.flat_cells (h2.keep bW.size (bW.block _ h2.1)) j u hj⟩) (q.flat_one n) haN)
  have IH := hid (fun (i : Nat) (hi : i < n) (V : World) (hV : Below w.heap.size w V) => show Calls Tryd.prog 104 #[.agg #[.int .i64 (q.k i), .int .u64 (ws (q.s i) 0 : Int), .int .u64 (ws (q.s i) 1 : Int), .int .u64 (ws (q.s i) 2 : Int), .int .u64 (ws (q.s i) 3 : Int), .slice (q.a i) (q.n i) (q.c i)]] V fun e w' => (∃ cs' : List Value, e = .returned (.agg cs'.toArray) ∧ ∃ x, l[i]? = some x ∧ RC (ge V.heap.size) w' x cs') ∧ Below V.heap.size V w' from by
    obtain ⟨l', e1, hk⟩ := hkids i hi
    have hm := List.mem_of_getElem? e1
    have hpi : parts (.mk (q.k i) (q.s i) l') ≤ 1000000 := by
      have h9 : ∀ m : List Rx, Rx.mk (q.k i) (q.s i) l' ∈ m → parts (.mk (q.k i) (q.s i) l') ≤ partsL m := by
        intro m
        induction m with
        | nil => intro h; cases h
        | cons y m ihm =>
          intro hy
          rw [partsL]
          rcases List.mem_cons.1 hy with rfl | hy
          · omega
          · have := ihm hy; omega
      have := h9 l hm
      omega
    refine (ih _ hm V (q.six i) hpi (RC_mk.2 ⟨_, _, _, rfl, hk.below hV⟩)).mono ?_
    rintro e w' ⟨⟨cs', h1, h2⟩, h3⟩
    exact ⟨⟨cs', h1, _, e1, h2⟩, h3⟩)
  have HW := hid (And.intro x0 (And.intro x1 (And.intro bW hsz)))
  have HN := hid (And.intro hln hnl)
  have hsS := hid hsz
  obtain ⟨c0, c1, c2, c3, c4, c5⟩ := cells6 x0
  clear hq hkids haN hpl hp h hK ih x0 x1 bW
  show Calls Tryd.prog 104 #[.agg #[.int .i64 k, .int .u64 (ws s 0 : Int), .int .u64 (ws s 1 : Int), .int .u64 (ws s 2 : Int), .int .u64 (ws s 3 : Int), .slice a n c]] w _
  go_enter Tryd.func104, Tryd.ntmps104
  go_wp2_with fail
  rw [← hW]
  clear hW
  go_wp2_with fail
  refine CC.out.mono ?_
  rintro e w1 ⟨p, c', rfl, hown, hb1⟩
  have y0 := (hb1.block _ (heap_lt HW.out.1)).trans HW.out.1
  have y1 := (hb1.block _ (heap_lt HW.out.2.1)).trans HW.out.2.1
  have f5 := free y0 5
  obtain ⟨c0, c1, c2, c3, c4, c5⟩ := cells6 y0
  obtain ⟨w2, hw2⟩ : ∃ w2, w2 = w1.setCell ⟨w.heap.size, 5, none⟩ (.slice p n c') := ⟨_, rfl⟩
  have z0 : w2.heap[w.heap.size]? = some (.cells #[.int .i64 k, .int .u64 (ws s 0 : Int), .int .u64 (ws s 1 : Int), .int .u64 (ws s 2 : Int), .int .u64 (ws s 3 : Int), .slice p n c'] 27 (0, 0)) := by rw [hw2, blk_put y0]; rfl
  have z1 : w2.heap[w.heap.size + 1]? = some (.cells #[.int .i64 0, .int .u64 0, .int .u64 0, .int .u64 0, .int .u64 0, .slice none 0 0] 27 (0, 0)) := by rw [hw2]; exact blk_set y1 (by show w.heap.size + 1 ≠ w.heap.size; omega)
  have zb : Below w.heap.size w w2 := by rw [hw2]; exact below_put (HW.out.2.2.1.trans (hb1.mono HW.out.2.2.1.size)) (Nat.le_refl _)
  have zs : W.heap.size ≤ w2.heap.size := by rw [hw2]; simpa using hb1.size
  have zr : n = 0 ∨ ∃ X, p = some ⟨X, 0, none⟩ ∧ W.heap.size ≤ X ∧ CR W.heap.size X n q l 0 w2 := by
    rcases hown.2 with ⟨_, h0⟩ | ⟨X, cap, cur, he, hX, hXc, hcap, _, hcs, htk⟩
    · exact .inl h0
    · simp only [Value.slice.injEq, true_and] at he
      refine .inr ⟨X, he.1, hX, ?_⟩
      have hXX : w2.heap[X]? = w1.heap[X]? := by rw [hw2]; exact heap_setCell_other _ _ _ _ (by show X ≠ w.heap.size; have := hsS.out; omega)
      refine ⟨⟨cur, hXX.trans hXc, by rw [hcs]; exact Nat.mul_le_mul_right _ hcap⟩, fun j x hj _ => by omega, fun j _ hj t u hu => ?_⟩
      have ht := (List.getElem?_eq_some_iff.1 hu).1
      simp [Kc.six] at ht
      have h1 := q.flat_at (n := n) hj ht
      rw [hu, ← htk, List.getElem?_take] at h1
      split at h1
      · exact cellat (hXX.trans hXc) (by simpa using h1)
      · cases h1
  have HL := hid (And.intro zr (And.intro z0 (And.intro z1 (And.intro zb zs))))
  obtain ⟨d0, d1, d2, d3, d4, d5⟩ := cells6 z0
  clear hown hb1 y0 y1 z0 z1 zb zs zr
  go_wp2_with fail
  rw [← hw2]
  clear hw2 c0 c1 c2 c3 c4 c5
  go_wp2_with fail
  go_loopg [12] n (fun k1 s12 wr => ∃ (i : Nat), s12 = .int .i64 (i : Int) ∧ i + k1 = n ∧ (n = 0 ∨ ∃ X, p = some ⟨X, 0, none⟩ ∧ W.heap.size ≤ X ∧ CR W.heap.size X n q l i wr) ∧ wr.heap[w.heap.size]? = some (.cells #[.int .i64 k, .int .u64 (ws s 0 : Int), .int .u64 (ws s 1 : Int), .int .u64 (ws s 2 : Int), .int .u64 (ws s 3 : Int), .slice p n c'] 27 (0, 0)) ∧ wr.heap[w.heap.size + 1]? = some (.cells #[.int .i64 0, .int .u64 0, .int .u64 0, .int .u64 0, .int .u64 0, .slice none 0 0] 27 (0, 0)) ∧ Below w.heap.size w wr ∧ W.heap.size ≤ wr.heap.size)
  case atStart => exact ⟨0, rfl, by omega, HL.out.1, HL.out.2.1, HL.out.2.2.1, HL.out.2.2.2.1, HL.out.2.2.2.2⟩
  case round =>
    obtain ⟨i, rfl, hk1, hR, hx0, hx1, hb, hs⟩ := hrel
    by_cases hlt : i < n
    · have hlt' : (i : Int) < (n : Int) := by omega
      obtain ⟨X, rfl, hX, hCR⟩ := hR.resolve_left (by omega)
      have m0 := hCR.rest i (Nat.le_refl _) hlt 0 _ rfl
      have m1 := hCR.rest i (Nat.le_refl _) hlt 1 _ rfl
      have m2 := hCR.rest i (Nat.le_refl _) hlt 2 _ rfl
      have m3 := hCR.rest i (Nat.le_refl _) hlt 3 _ rfl
      have m4 := hCR.rest i (Nat.le_refl _) hlt 4 _ rfl
      have m5 := hCR.rest i (Nat.le_refl _) hlt 5 _ rfl
      simp only [Nat.add_zero] at m0
      have hRX := hid (show X < wr.heap.size ∧ W.heap.size ≤ X ∧ W.heap.size ≤ wr.heap.size from ⟨by obtain ⟨C, hB, _⟩ := hCR.blk; exact heap_lt hB, hX, hs⟩)
      have hlt0 := hid hlt
      have HR := hid (And.intro hCR (And.intro hx0 (And.intro hx1 (And.intro hb (And.intro hs hX)))))
      clear hR hx0 hx1 hb hs hX hCR
      go_wp2_with fail
      refine region_inv (fun b a' w' => ∃ (v17 v18 v19 v20 v21 v22 : Value) (k9 : Int) (s9 : BS) (l9 : List Rx) (a9 : Option Addr) (n9 c9 : Nat), a' = { tmps := #[.agg #[.int .i64 k, .int .u64 (ws s 0 : Int), .int .u64 (ws s 1 : Int), .int .u64 (ws s 2 : Int), .int .u64 (ws s 3 : Int), .slice a n c], .pointer (some ⟨w.heap.size, 0, none⟩), .pointer (some ⟨w.heap.size + 1, 0, none⟩), .int .i64 (i : Int), .pointer (some ⟨wr.heap.size, 0, none⟩), .pointer (some ⟨w.heap.size, 5, none⟩), .slice a n c, .slice (some ⟨X, 0, none⟩) n c', .pointer (some ⟨w.heap.size, 5, none⟩), .pointer (some ⟨w.heap.size, 5, none⟩), .slice (some ⟨X, 0, none⟩) n c', .int .i64 (n : Int), .int .i64 (i : Int), .bool true, .int .i64 (i : Int), .pointer (some ⟨X, i * 6, none⟩), .agg #[.int .i64 (q.k i), .int .u64 (ws (q.s i) 0 : Int), .int .u64 (ws (q.s i) 1 : Int), .int .u64 (ws (q.s i) 2 : Int), .int .u64 (ws (q.s i) 3 : Int), .slice (q.a i) (q.n i) (q.c i)], v17, v18, v19, v20, v21, v22, u23, undef], defers := [] } ∧ (b 0 = true → v17 = .pointer (some ⟨w.heap.size, 5, none⟩)) ∧ (b 1 = true → v18 = .slice (some ⟨X, 0, none⟩) n c') ∧ (b 2 = true → v19 = .int .i64 (i : Int)) ∧ (b 3 = true → v20 = .agg #[.int .i64 (q.k i), .int .u64 (ws (q.s i) 0 : Int), .int .u64 (ws (q.s i) 1 : Int), .int .u64 (ws (q.s i) 2 : Int), .int .u64 (ws (q.s i) 3 : Int), .slice (q.a i) (q.n i) (q.c i)]) ∧ (b 4 = true → v21 = .agg #[.int .i64 k9, .int .u64 (ws s9 0 : Int), .int .u64 (ws s9 1 : Int), .int .u64 (ws s9 2 : Int), .int .u64 (ws s9 3 : Int), .slice a9 n9 c9] ∧ l[i]? = some (.mk k9 s9 l9) ∧ (b 6 = false → RC (ge wr.heap.size) w' (.mk k9 s9 l9) (rcs k9 s9 (.slice a9 n9 c9)))) ∧ (b 5 = true → v22 = .pointer (some ⟨X, i * 6, none⟩)) ∧ (b 6 = false → CR W.heap.size X n q l i w') ∧ (b 6 = true → CR W.heap.size X n q l (i + 1) w') ∧ (b 6 = true → b 4 = true ∧ b 5 = true) ∧ (∃ C : Array Value, w'.heap[X]? = some (.cells C 27 (0, 0)) ∧ n * 6 ≤ C.size) ∧ w'.heap[w.heap.size]? = some (.cells #[.int .i64 k, .int .u64 (ws s 0 : Int), .int .u64 (ws s 1 : Int), .int .u64 (ws s 2 : Int), .int .u64 (ws s 3 : Int), .slice (some ⟨X, 0, none⟩) n c'] 27 (0, 0)) ∧ w'.heap[wr.heap.size]? = some (.cells #[.int .i64 (q.k i), .int .u64 (ws (q.s i) 0 : Int), .int .u64 (ws (q.s i) 1 : Int), .int .u64 (ws (q.s i) 2 : Int), .int .u64 (ws (q.s i) 3 : Int), .slice (q.a i) (q.n i) (q.c i)] 27 (0, 0)) ∧ w'.heap[w.heap.size + 1]? = some (.cells #[.int .i64 0, .int .u64 0, .int .u64 0, .int .u64 0, .int .u64 0, .slice none 0 0] 27 (0, 0)) ∧ Below w.heap.size w w') (by kernel_rfl) (back_of (by kernel_rfl)) ?step2 ?done2 ?init2
      case step2 =>
        rintro b a' w' i o ho ⟨v17, v18, v19, v20, v21, v22, k9, s9, l9, a9, n9, c9, rfl, h0, h1, h2, h3, h4, h5, g0, g1, g2, ⟨C, hB, hC⟩, hA, hx, hy, hb⟩ hbi hd K hK
        have hlt : i < 7 := by have := (Array.getElem?_eq_some_iff.1 ho).1; simpa using this
        have dep : ∀ k, (o.after.any fun e => Region.binds .any e && e.on == k) = true → b k = true := fun k hk => by
          obtain ⟨e, he, h⟩ := Array.any_eq_true'.1 hk
          simp only [Bool.and_eq_true, beq_iff_eq] at h
          rw [← h.2]; exact hd e he h.1
        clear hd
        have hi : i = 0 ∨ i = 1 ∨ i = 2 ∨ i = 3 ∨ i = 4 ∨ i = 5 ∨ i = 6 := by omega
        clear hlt
        rcases hi with rfl | rfl | rfl | rfl | rfl | rfl | rfl
        · simp only [List.getElem?_toArray, List.getElem?_cons_zero, List.getElem?_cons_succ, Option.some.injEq] at ho
          subst ho
          go_simp
          refine hK.out _ _ ⟨_, _, _, _, _, _, k9, s9, l9, a9, n9, c9, rfl, fun _ => rfl, fun h => h1 (by simpa using h), fun h => h2 (by simpa using h), fun h => h3 (by simpa using h), fun h => ⟨(h4 (by simpa using h)).1, (h4 (by simpa using h)).2.1, fun h' => (h4 (by simpa using h)).2.2 (by simpa using h')⟩, fun h => h5 (by simpa using h), fun h => g0 (by simpa using h), fun h => g1 (by simpa using h), fun h => ⟨by simp [(g2 (by simpa using h)).1], by simp [(g2 (by simpa using h)).2]⟩, ⟨C, hB, hC⟩, hA, hx, hy, hb⟩
        · simp only [List.getElem?_toArray, List.getElem?_cons_zero, List.getElem?_cons_succ, Option.some.injEq] at ho
          subst ho
          obtain rfl := h0 (dep 0 (by kernel_rfl))
          obtain ⟨c0, c1, c2, c3, c4, c5⟩ := cells6 hA
          go_simp
          refine hK.out _ _ ⟨_, _, _, _, _, _, k9, s9, l9, a9, n9, c9, rfl, fun h => h0 (by simpa using h), fun _ => rfl, fun h => h2 (by simpa using h), fun h => h3 (by simpa using h), fun h => ⟨(h4 (by simpa using h)).1, (h4 (by simpa using h)).2.1, fun h' => (h4 (by simpa using h)).2.2 (by simpa using h')⟩, fun h => h5 (by simpa using h), fun h => g0 (by simpa using h), fun h => g1 (by simpa using h), fun h => ⟨by simp [(g2 (by simpa using h)).1], by simp [(g2 (by simpa using h)).2]⟩, ⟨C, hB, hC⟩, hA, hx, hy, hb⟩
        · simp only [List.getElem?_toArray, List.getElem?_cons_zero, List.getElem?_cons_succ, Option.some.injEq] at ho
          subst ho
          go_simp
          refine hK.out _ _ ⟨_, _, _, _, _, _, k9, s9, l9, a9, n9, c9, rfl, fun h => h0 (by simpa using h), fun h => h1 (by simpa using h), fun _ => rfl, fun h => h3 (by simpa using h), fun h => ⟨(h4 (by simpa using h)).1, (h4 (by simpa using h)).2.1, fun h' => (h4 (by simpa using h)).2.2 (by simpa using h')⟩, fun h => h5 (by simpa using h), fun h => g0 (by simpa using h), fun h => g1 (by simpa using h), fun h => ⟨by simp [(g2 (by simpa using h)).1], by simp [(g2 (by simpa using h)).2]⟩, ⟨C, hB, hC⟩, hA, hx, hy, hb⟩
        · simp only [List.getElem?_toArray, List.getElem?_cons_zero, List.getElem?_cons_succ, Option.some.injEq] at ho
          subst ho
          obtain ⟨c0, c1, c2, c3, c4, c5⟩ := cells6 hx
          go_simp
          refine hK.out _ _ ⟨_, _, _, _, _, _, k9, s9, l9, a9, n9, c9, rfl, fun h => h0 (by simpa using h), fun h => h1 (by simpa using h), fun h => h2 (by simpa using h), fun _ => rfl, fun h => ⟨(h4 (by simpa using h)).1, (h4 (by simpa using h)).2.1, fun h' => (h4 (by simpa using h)).2.2 (by simpa using h')⟩, fun h => h5 (by simpa using h), fun h => g0 (by simpa using h), fun h => g1 (by simpa using h), fun h => ⟨by simp [(g2 (by simpa using h)).1], by simp [(g2 (by simpa using h)).2]⟩, ⟨C, hB, hC⟩, hA, hx, hy, hb⟩
        · simp only [List.getElem?_toArray, List.getElem?_cons_zero, List.getElem?_cons_succ, Option.some.injEq] at ho
          subst ho
          obtain rfl := h3 (dep 3 (by kernel_rfl))
          have hb6 : b 6 = false := by
            cases hb' : b 6
            · rfl
            · have := (g2 hb').1; rw [hbi] at this; cases this
          have CKV := hid (IH.out i hlt0.out w' hb)
          go_simp
          refine CKV.out.mono ?_
          rintro e W5 ⟨⟨cs', rfl, ⟨k9', s9', l9'⟩, hx9, hRC⟩, B5⟩
          obtain ⟨a9', n9', c9', rfl, _⟩ := RC_mk.1 hRC
          refine hK.out _ _ ⟨_, _, _, _, _, _, k9', s9', l9', a9', n9', c9', rfl, fun h => h0 (by simpa using h), fun h => h1 (by simpa using h), fun h => h2 (by simpa using h), fun h => h3 (by simpa using h), fun _ => ⟨rfl, hx9, fun _ => hRC.more fun b hb' => Nat.le_trans (Nat.le_of_lt (heap_lt hx)) hb'⟩, fun h => h5 (by simpa using h), fun h => (g0 (by simpa using h)).below B5, fun h => absurd h (by simp [hb6]), fun h => absurd h (by simp [hb6]), ⟨C, (B5.block _ (heap_lt hB)).trans hB, hC⟩, (B5.block _ (heap_lt hA)).trans hA, (B5.block _ (heap_lt hx)).trans hx, (B5.block _ (heap_lt hy)).trans hy, hb.trans (B5.mono hb.size)⟩
        · simp only [List.getElem?_toArray, List.getElem?_cons_zero, List.getElem?_cons_succ, Option.some.injEq] at ho
          subst ho
          obtain rfl := h1 (dep 1 (by kernel_rfl))
          obtain rfl := h2 (dep 2 (by kernel_rfl))
          go_simp
          refine hK.out _ _ ⟨_, _, _, _, _, _, k9, s9, l9, a9, n9, c9, rfl, fun h => h0 (by simpa using h), fun h => h1 (by simpa using h), fun h => h2 (by simpa using h), fun h => h3 (by simpa using h), fun h => ⟨(h4 (by simpa using h)).1, (h4 (by simpa using h)).2.1, fun h' => (h4 (by simpa using h)).2.2 (by simpa using h')⟩, fun _ => rfl, fun h => g0 (by simpa using h), fun h => g1 (by simpa using h), fun h => ⟨by simp [(g2 (by simpa using h)).1], by simp [(g2 (by simpa using h)).2]⟩, ⟨C, hB, hC⟩, hA, hx, hy, hb⟩
        · simp only [List.getElem?_toArray, List.getElem?_cons_zero, List.getElem?_cons_succ, Option.some.injEq] at ho
          subst ho
          have hb4 := dep 4 (by kernel_rfl)
          obtain rfl := h5 (dep 5 (by kernel_rfl))
          obtain ⟨rfl, hx9, hRC⟩ := h4 hb4
          have hRC := hRC hbi
          have hK0 := g0 hbi
          have hsx := heap_lt hx
          have hXX := hRX.out
          have hsS' := hsS.out
          have hin := hlt0.out
          have f0 := free hB (i * 6)
          have f1 := free hB (i * 6 + 1)
          have f2 := free hB (i * 6 + 2)
          have f3 := free hB (i * 6 + 3)
          have f4 := free hB (i * 6 + 4)
          have f5 := free hB (i * 6 + 5)
          have e0 := cellin hB (show i * 6 < C.size by omega)
          have e1 := cellin hB (show i * 6 + 1 < C.size by omega)
          have e2 := cellin hB (show i * 6 + 2 < C.size by omega)
          have e3 := cellin hB (show i * 6 + 3 < C.size by omega)
          have e4 := cellin hB (show i * 6 + 4 < C.size by omega)
          have e5 := cellin hB (show i * 6 + 5 < C.size by omega)
          obtain ⟨w6, hw6⟩ : ∃ w6, w6 = ((((((w'.setCell ⟨X, i * 6, none⟩ (.int .i64 k9)).setCell ⟨X, i * 6 + 1, none⟩ (.int .u64 (ws s9 0 : Int))).setCell ⟨X, i * 6 + 2, none⟩ (.int .u64 (ws s9 1 : Int))).setCell ⟨X, i * 6 + 3, none⟩ (.int .u64 (ws s9 2 : Int))).setCell ⟨X, i * 6 + 4, none⟩ (.int .u64 (ws s9 3 : Int))).setCell ⟨X, i * 6 + 5, none⟩ (.slice a9 n9 c9)) := ⟨_, rfl⟩
          obtain ⟨p1, ⟨C', p2, p3⟩, p4, p5, p6, p7⟩ := put6 hB (show i * 6 + 6 ≤ C.size by omega) _ _ _ _ _ _ w6 hw6
          have hCR6 : CR W.heap.size X n q l (i + 1) w6 := hK0.step hx9 hin hRC hXX.2.2 hXX.1 p1 ⟨C', p2, by omega⟩ p4 p5 p6
          have q1 := (p4 _ (show w.heap.size ≠ X by omega)).trans hA
          have q2 := (p4 _ (show wr.heap.size ≠ X by omega)).trans hx
          have q3 := (p4 _ (show w.heap.size + 1 ≠ X by omega)).trans hy
          have q4 := p7 _ _ hb (by omega)
          clear hK0 hRC hA hx hy hb p4 p5 p6 p7 hXX hsS' hin
          go_simp
          rw [← hw6]
          refine hK.out _ _ ⟨_, _, _, _, _, _, k9, s9, l9, a9, n9, c9, rfl, fun h => h0 (by simpa using h), fun h => h1 (by simpa using h), fun h => h2 (by simpa using h), fun h => h3 (by simpa using h), fun _ => ⟨rfl, hx9, fun h => absurd h (by simp)⟩, fun h => h5 (by simpa using h), fun h => absurd h (by simp), fun _ => hCR6, fun _ => ⟨by simp [hb4], by simp [dep 5 (by kernel_rfl)]⟩, ⟨C', p2, by omega⟩, q1, q2, q3, q4⟩
      case done2 =>
        rintro b a' w' ⟨v17, v18, v19, v20, v21, v22, k9, s9, l9, a9, n9, c9, rfl, h0, h1, h2, h3, h4, h5, g0, g1, g2, ⟨C, hB, hC⟩, hA, hx, hy, hb⟩ hall
        have hK1 := g1 (hall 6)
        have hsx := heap_lt hx
        clear h0 h1 h2 h3 h4 h5 g0 g1 g2
        have HE := hid (And.intro hK1 (And.intro hA (And.intro hy hb)))
        clear hK1 hB hC hA hx hy hb
        go_wp2_with fail
        go_roundg (gk - 1)
        case measure => omega
        case rel => exact ⟨i + 1, by go_num, by omega, .inr ⟨X, rfl, HR.out.2.2.2.2.2, HE.out.1⟩, HE.out.2.1, HE.out.2.2.1, HE.out.2.2.2, by have := HR.out.2.2.2.2.1; omega⟩
      case init2 =>
        have hxW : (wr.alloc (.cells #[.int .i64 (q.k i), .int .u64 (ws (q.s i) 0 : Int), .int .u64 (ws (q.s i) 1 : Int), .int .u64 (ws (q.s i) 2 : Int), .int .u64 (ws (q.s i) 3 : Int), .slice (q.a i) (q.n i) (q.c i)] 27)).heap[wr.heap.size]? = some (.cells #[.int .i64 (q.k i), .int .u64 (ws (q.s i) 0 : Int), .int .u64 (ws (q.s i) 1 : Int), .int .u64 (ws (q.s i) 2 : Int), .int .u64 (ws (q.s i) 3 : Int), .slice (q.a i) (q.n i) (q.c i)] 27 (0, 0)) := alloc_new _ _
        have hbW := bel1 wr (.cells #[.int .i64 (q.k i), .int .u64 (ws (q.s i) 0 : Int), .int .u64 (ws (q.s i) 1 : Int), .int .u64 (ws (q.s i) 2 : Int), .int .u64 (ws (q.s i) 3 : Int), .slice (q.a i) (q.n i) (q.c i)] 27)
        obtain ⟨C, hB, hC⟩ := HR.out.1.blk
        exact ⟨_, _, _, _, _, _, 0, none8, [], none, 0, 0, rfl, fun h => absurd h (by simp), fun h => absurd h (by simp), fun h => absurd h (by simp), fun h => absurd h (by simp), fun h => absurd h (by simp), fun h => absurd h (by simp), fun _ => HR.out.1.below hbW.drew, fun h => absurd h (by simp), fun h => absurd h (by simp), ⟨C, (hbW.block _ (heap_lt hB)).trans hB, hC⟩, (hbW.block _ (heap_lt HR.out.2.1)).trans HR.out.2.1, hxW, (hbW.block _ (heap_lt HR.out.2.2.1)).trans HR.out.2.2.1, HR.out.2.2.2.1.trans (hbW.mono HR.out.2.2.2.1.size).drew⟩
    · have hlt' : ¬ (i : Int) < (n : Int) := by omega
      obtain rfl : i = n := by omega
      have HE := hid (And.intro hR (And.intro hx0 (And.intro hx1 (And.intro hb hs))))
      obtain ⟨d0, d1, d2, d3, d4, d5⟩ := cells6 hx0
      have f0 := free hx1 0
      have f1 := free hx1 1
      have f2 := free hx1 2
      have f3 := free hx1 3
      have f4 := free hx1 4
      have f5 := free hx1 5
      obtain ⟨e0, e1, e2, e3, e4, e5⟩ := cells6 hx1
      clear hR hx0 hx1 hb hs
      go_wp2_with fail
      obtain ⟨w6, hw6⟩ : ∃ w6, w6 = ((((((wr.setCell ⟨w.heap.size + 1, 0, none⟩ (.int .i64 k)).setCell ⟨w.heap.size + 1, 1, none⟩ (.int .u64 (ws s 0 : Int))).setCell ⟨w.heap.size + 1, 2, none⟩ (.int .u64 (ws s 1 : Int))).setCell ⟨w.heap.size + 1, 3, none⟩ (.int .u64 (ws s 2 : Int))).setCell ⟨w.heap.size + 1, 4, none⟩ (.int .u64 (ws s 3 : Int))).setCell ⟨w.heap.size + 1, 5, none⟩ (.slice p i c')) := ⟨_, rfl⟩
      rw [← hw6]
      obtain ⟨p1, _, p4, _, p6, p7⟩ := put6 HE.out.2.2.1 (o := 0) (by simp) _ _ _ _ _ _ w6 hw6
      have g0 := p6 0 _ rfl
      have g1 := p6 1 _ rfl
      have g2 := p6 2 _ rfl
      have g3 := p6 3 _ rfl
      have g4 := p6 4 _ rfl
      have g5 := p6 5 _ rfl
      simp only [Nat.zero_add] at g0 g1 g2 g3 g4 g5
      have hS := hsS.out
      refine bodyPost_ret (v := .agg #[.int .i64 k, .int .u64 (ws s 0 : Int), .int .u64 (ws s 1 : Int), .int .u64 (ws s 2 : Int), .int .u64 (ws s 3 : Int), .slice p i c']) ?_ rfl ⟨⟨rcs k s (.slice p i c'), rfl, ?_⟩, p7 _ _ HE.out.2.2.2.1 (by omega)⟩
      · simp [results, Tryd.results104, go_sem, g0, g1, g2, g3, g4, g5]
      · refine RC.keep (g := ge W.heap.size) (by rw [p1]; exact Nat.le_refl _) (fun b hb _ => p4 b (by have : W.heap.size ≤ b := hb; omega)) (fun b hb => by have : W.heap.size ≤ b := hb; show w.heap.size ≤ b; omega) _ (RC_mk.2 ⟨p, i, c', rfl, ?_⟩)
        rcases HE.out.1 with h0 | ⟨X, rfl, hX, hCR⟩
        · exact ⟨HN.out.1, HN.out.2, .inl h0⟩
        · exact hCR.kd HN.out.1 HN.out.2 hX
end Go.Proofs.YtednoideboeehaaDoor
end
section
namespace Go.Frame
section
variable {P : Program} {F : Fence} {m : Nat}
/-- An operation's walk outside is its walk inside. -/
theorem wp_inside {l : List Oper} {o : Oper} {a : Act} {w : World} {K : Act → World → Prop} {Q : Exit → Act → World → Prop} (hF : Free F) (hrow : ∀ {row : String} {args : Array Value} {w : World} {R : Value → World → Prop}, Rows P row args w R → RowsIn F (m - 1) P row args w R)
    (hd : noDefer l = true) (ho : o ∈ l) (h : o.wp P a w K Q) : o.wpIn F m P a w K Q := by
  refine ⟨fun f _ => hF.fn f, ?_⟩
  rw [semAt_any hd ho]
  have hq : Oper.upon P o a K Q ((execOp a.eval o).run P w) := h
  match hr : (execOp a.eval o).run P w, hq with
  | .ok (.value u) w1, hq => exact hq
  | .ok .skip w1, hq => exact hq
  | .ok (.defer d) w1, hq => exact hq
  | .ok (.enter f args) w1, hq => exact ⟨fun hs => (by rw [hF.depth] at hs; cases hs), hF.calls hq⟩
  | .ok (.row row args) w1, hq => exact ⟨fun hs => (by rw [hF.depth] at hs; cases hs), hrow hq⟩
  | .halt (.panic v) w1, hq => exact hq
theorem rows_wide {n : Nat} {row : String} {args : Array Value} {w : World} {R : Value → World → Prop} (h : Rows P row args w R) : RowsIn Fence.wide n P row args w R :=
  fun c cs _ => let ⟨v, w', r, s⟩ := h c cs; ⟨v, w', r, stepsIn_wide.2 s⟩
theorem rows_round {n : Nat} (l : Nat) {row : String} {args : Array Value} {w : World} {R : Value → World → Prop} (h : Rows P row args w R) : RowsIn (Fence.wide.inRound l) n P row args w R := rows_wide (n := n) h
theorem wpAnyIn_inv {l : List Oper} {Q : Exit → Act → World → Prop} {md : Region.Mode} (hF : Free F) (hrow : ∀ {row : String} {args : Array Value} {w : World} {R : Value → World → Prop}, Rows P row args w R → RowsIn F (m - 1) P row args w R) (hd : noDefer l = true)
    (J : (Nat → Bool) → Act → World → Prop) (hback : ∀ (i : Nat) (o : Oper), l.toArray[i]? = some o → ∀ e ∈ o.after, e.on < i)
    (hstep : ∀ (b : Nat → Bool) (a : Act) (w : World) (i : Nat) (o : Oper), l.toArray[i]? = some o → J b a w → b i = false → (∀ e ∈ o.after, Region.binds md e = true → b e.on = true) →
      ∀ K : Act → World → Prop, Shut (∀ a w, J (fun j => b j || j == i) a w → K a w) → if Region.wanted o (yielded l.toArray a.tmps) = true then Oper.wp P o a w K Q else K (a.put o.dst undef) w)
    (hdone : ∀ (b : Nat → Bool) (a : Act) (w : World), J b a w → (∀ i, b i = true) → Q .normal a w) :
    ∀ (fuel : Nat) (listed : Array Bool) (a : Act) (w : World), listed.size = l.toArray.size → left listed l.toArray.size ≤ fuel → J (fun i => listed.getD i true) a w → wpAnyIn F m P md l.toArray Q fuel listed a w
  | 0, listed, a, w, hs, hl, hJ => by
    have hall : ∀ i, listed.getD i true = true := fun i => by
      by_cases h : i < l.toArray.size
      · exact left_zero (by omega) i h
      · rw [Array.getD_eq_getD_getElem?, Array.getElem?_eq_none (by omega)]; rfl
    refine ⟨?_, hdone _ a w hJ hall⟩
    apply List.eq_nil_iff_forall_not_mem.2
    intro i hi
    have := (mem_ready.1 hi).1
    rw [hall i] at this; cases this
  | fuel + 1, listed, a, w, hs, hl, hJ => by
    refine ⟨fun hr => hdone _ a w hJ (all_up hs hback hr), fun i hi => ?_⟩
    obtain ⟨hb, o, ho, hall⟩ := mem_ready.1 hi
    have hlt : i < l.toArray.size := (Array.getElem?_eq_some_iff.1 ho).1
    have hm : o ∈ l := List.mem_of_getElem? (by rwa [List.getElem?_toArray] at ho)
    have hst := hstep _ a w i o ho hJ hb (fun e he hbe => getD_in (hall e he hbe)) (wpAnyIn F m P md l.toArray Q fuel (listed.setIfInBounds i true)) fun a' w' hJ' => by
      refine wpAnyIn_inv hF hrow hd J hback hstep hdone fuel _ a' w' (by simpa using hs) ?_ ?_
      · have := left_put hb l.toArray.size
        rw [if_pos hlt] at this
        omega
      · have e : (fun j => (listed.setIfInBounds i true).getD j true) = fun j => listed.getD j true || j == i := funext fun j => getD_put listed i j
        rw [e]; exact hJ'
    unfold wpOpIn
    rw [ho]
    show if _ then _ else _
    split
    · rename_i hw; rw [if_pos hw] at hst; exact wp_inside hF hrow hd hm hst
    · rename_i hw; rw [if_neg hw] at hst; exact ⟨fun f _ => hF.fn f, hst⟩
theorem region_inv_in {id : Nat} {a : Act} {w : World} {l : List Oper} {Q : Exit → Act → World → Prop} (hF : Free F) (hrow : ∀ {row : String} {args : Array Value} {w : World} {R : Value → World → Prop}, Rows P row args w R → RowsIn F (m - 1) P row args w R) (hd : noDefer l = true)
    (J : (Nat → Bool) → Act → World → Prop) (hm : P.follows .mixedOrders = true) (hback : ∀ (i : Nat) (o : Oper), l.toArray[i]? = some o → ∀ e ∈ o.after, e.on < i)
    (hstep : ∀ (b : Nat → Bool) (a : Act) (w : World) (i : Nat) (o : Oper), l.toArray[i]? = some o → J b a w → b i = false → (∀ e ∈ o.after, Region.binds .any e = true → b e.on = true) →
      ∀ K : Act → World → Prop, Shut (∀ a w, J (fun j => b j || j == i) a w → K a w) → if Region.wanted o (yielded l.toArray a.tmps) = true then Oper.wp P o a w K Q else K (a.put o.dst undef) w)
    (hdone : ∀ (b : Nat → Bool) (a : Act) (w : World), J b a w → (∀ i, b i = true) → Q .normal a w)
    (h0 : J (fun i => decide (l.toArray.size ≤ i)) a w.drew) : (Code.region id l.toArray true).wpIn F m P Q a w := by
  refine wpIn_region_any hm (wpAnyIn_inv hF hrow hd J hback hstep hdone _ _ _ _ (by simp) (left_new _ _) ?_)
  have e : (fun i => (Array.replicate l.toArray.size false).getD i true) = fun i => decide (l.toArray.size ≤ i) := funext fun i => by
    by_cases h : l.toArray.size ≤ i
    · rw [Array.getD_eq_getD_getElem?, Array.getElem?_eq_none (by simpa using h)]; simp at h; simp [h]
    · rw [Array.getD_eq_getD_getElem?, Array.getElem?_replicate]; simp at h; simp [h]
  rw [e]; exact h0
end
end Go.Frame
end
