/-
  Contract: joined, the helper that ranges over the pieces and joins them.
-/
import Derived.Test.YtaafnodabjbakaaZ
namespace Go.Proofs.Ytaafnodabjbakaa
open Go.RowKit Rp Go.Shelf

attribute [local go_sem] Oper.semAt_some

/-- The pieces, joined. -/
def jn (pre : List Pc) : ByteArray := ⟨(px pre).toArray⟩
theorem jn_snoc (pre : List Pc) (x : Pc) : jn (pre ++ [x]) = jn pre ++ x.1 := by
  apply ByteArray.ext
  apply Array.toList_inj.1
  simp only [ByteArray.data_append, Array.toList_append]
  simp [jn, px_snoc]
theorem jn_size (pre : List Pc) : (jn pre).size ≤ 64 * pre.length := by
  have := (px_len pre).2
  show (px pre).toArray.size ≤ _
  simpa using this

/-- A block of one cell. -/
def Bx (W : World) (B : Nat) (v : Value) (t : TypeId) : Prop := W.heap[B]? = some (.cells #[v] t (0, 0))
theorem Bx.cell {W : World} {B : Nat} {v : Value} {t : TypeId} (h : Bx W B v t) : W.cell? ⟨B, 0, none⟩ = some v := cell_of_one h
theorem Bx.free {W : World} {B : Nat} {v : Value} {t : TypeId} (h : Bx W B v t) : W.frozen? ⟨B, 0, none⟩ = false := free_of_one h
theorem Bx.set {W : World} {B : Nat} {v : Value} {t : TypeId} (h : Bx W B v t) (u : Value) : Bx (W.setCell ⟨B, 0, none⟩ u) B u t := by
  unfold Bx at *
  simp [World.setCell, Array.getElem?_modify, h]
theorem Bx.other {W : World} {B : Nat} {v : Value} {t : TypeId} (h : Bx W B v t) (p : Addr) (hp : p.block ≠ B) (u : Value) : Bx (W.setCell p u) B v t := by
  unfold Bx at *
  rw [Below.heap_setCell _ _ _ _ hp.symm]; exact h
theorem Bx.own {A B : World} {row : Option Nat} {b : Nat} {v : Value} {t : TypeId} (h : Bx A b v t) (hg : A.grownBy B row) (hr : ∀ r, row = some r → ∃ o : Obj, A.heap[r]? = some o ∧ o.isCells = false) : Bx B b v t := by
  refine (hg.block b (heap_lt h) ?_).trans h
  intro e
  obtain ⟨o, ho, hc⟩ := hr b e.symm
  rw [h] at ho; cases ho; cases hc
theorem Bx.keeps {W : World} {B : Nat} {v : Value} {t : TypeId} (h : Bx W B v t) (u : Value) : KeepsOthers W (W.setCell ⟨B, 0, none⟩ u) := by
  refine ⟨by simp [World.setCell], fun k o hk ho => ?_⟩
  by_cases e : k = B
  · subst e
    rw [h] at hk; cases hk; cases ho
  · rw [Below.heap_setCell _ _ _ _ e]; exact hk

theorem eql_fn (a : Addr) (w : World) : Sem.run Try.prog (binOp BinOp.eql 52 (.func (.func 37) #[] #[.pointer (some a)]) .nilFunc) w = .ok (.bool false) w := by
  kernel_rfl
attribute [local go_sem] eql_fn

set_option maxRecDepth 100000 in
set_option maxHeartbeats 4000000 in
theorem joined_any (p : Option Addr) (s : ByteArray) (w : World) (h : Rope w p s.data.toList) (hs : s.size ≤ 10000000) :
    Calls Try.prog 21 #[.agg #[.pointer p]] w fun e w' => e = .returned (.tuple #[.string s, .bool true]) ∧ Below w.heap.size w w' := by
  have hl : s.data.toList.length = s.size := by simp
  refine (callsIn_wide (n := 6)).1 ?_
  refine callsIn_of_wp_marks Try.func21 rfl trivial ?_ rfl
  simp only [Try.ntmps21, List.size_toArray, List.length_cons, List.length_nil, Nat.reduceAdd, Nat.reduceSub, Array.replicate_succ, Array.replicate_zero, List.push_toArray, List.append_toArray, List.nil_append, List.cons_append]
  refine wpIn_wide.2 ?_
  go_wp2_with (go_at_call 24; refine (Chunks_any p _).mono ?_; rintro e w3 ⟨rfl, rfl⟩)
  have ne : ¬ w.heap.size + 1 + 1 = w.heap.size + 1 + 1 + 1 := by omega
  obtain ⟨W, hW⟩ : ∃ W : World, W = (((w.alloc (.cells #[.pointer p] 26)).alloc (.cells #[.pointer p] 26)).alloc (.cells #[.string { data := #[] }] 9)).alloc (.cells #[.bool true] 4) := ⟨_, rfl⟩
  have bW : Below w.heap.size w W := by rw [hW]; exact ((((Below.refl _ _).alloc (Nat.le_refl _) _).alloc (by first | (simp; done) | (simp; omega)) _).alloc (by first | (simp; done) | (simp; omega)) _).alloc (by first | (simp; done) | (simp; omega)) _
  have x1 : W.heap[w.heap.size + 1]? = some (.cells #[.pointer p] 26 (0, 0)) := by
    rw [hW, Below.heap_alloc _ _ _ (by first | (simp; done) | (simp; omega)), Below.heap_alloc _ _ _ (by first | (simp; done) | (simp; omega))]
    have := alloc_new (w.alloc (.cells #[.pointer p] 26)) (.cells #[.pointer p] 26)
    simpa using this
  have x5 : Bx W (w.heap.size + 1 + 1) (.string (jn [])) 9 := by
    unfold Bx
    rw [show jn [] = { data := #[] } from rfl]
    rw [hW, Below.heap_alloc _ _ _ (by first | (simp; done) | (simp; omega))]
    have := alloc_new ((w.alloc (.cells #[.pointer p] 26)).alloc (.cells #[.pointer p] 26)) (.cells #[.string { data := #[] }] 9)
    simpa using this
  have x6 : Bx W (w.heap.size + 1 + 1 + 1) (.bool true) 4 := by
    unfold Bx
    rw [hW]
    have := alloc_new (((w.alloc (.cells #[.pointer p] 26)).alloc (.cells #[.pointer p] 26)).alloc (.cells #[.string { data := #[] }] 9)) (.cells #[.bool true] 4)
    simpa using this
  have hsz : W.heap.size = w.heap.size + 4 := by rw [hW]; simp
  have HW := hid hW
  rw [← HW.out]
  clear hW
  refine (wpIn_wide (n := 6)).1 ?_
  refine wpIn_rangeFunc_ownF (n := 6) rfl (by omega) (gf := 37) (lb := #[.pointer (some ⟨w.heap.size + 1, 0, none⟩)]) rfl trivial (enters_of Try.func37 (by kernel_rfl) rfl)
    (chunks_stops 5 (w.heap.size + 1) w.heap.size W p s.data.toList (by omega) w rfl h bW x1) belowK_t (belowK_b (by omega)) (Below.refl _ _) (fun _ => rfl)
    (fun pre W' => (Bx W' (w.heap.size + 1 + 1) (.string (jn pre)) 9 ∧ Bx W' (w.heap.size + 1 + 1 + 1) (.bool true) 4) ∧ Below w.heap.size w W')
    (fun _ _ _ => False)
    (OwnFrom.and (fun s A B row hs hg hr => ⟨hs.1.own hg (fun r e => (hr r e).2), hs.2.own hg (fun r e => (hr r e).2)⟩) (ownFrom_below (Nat.le_refl _) (by omega)))
    (fun _ _ _ _ _ hs _ _ => hs)
    ⟨⟨x5, x6⟩, bW⟩
    (fun x => { tmps := #[.agg #[.pointer p], .pointer (some ⟨w.heap.size, 0, none⟩), .string { data := #[] }, .bool false, .func (.func 37) #[] #[.pointer (some ⟨w.heap.size + 1, 0, none⟩)],
      .pointer (some ⟨w.heap.size + 1 + 1, 0, none⟩), .pointer (some ⟨w.heap.size + 1 + 1 + 1, 0, none⟩), .string x.1, .agg #[.pointer p], .func (.func 37) #[] #[.pointer (some ⟨w.heap.size + 1, 0, none⟩)], .func (.func 37) #[] #[.pointer (some ⟨w.heap.size + 1, 0, none⟩)],
      .bool false, .func (.func 37) #[] #[.pointer (some ⟨w.heap.size + 1, 0, none⟩)], .string x.1, undef, undef, undef, undef, undef, undef, undef, undef, undef, undef, undef, undef, undef, undef, undef, undef], defers := [] }) ?assign ?body ?done ?stop
  case assign =>
    intro l x W K hK
    gi_wp2
    exact hK
  case body =>
    rintro l pre x W' ⟨⟨h5, h6⟩, hB⟩ hpl
    have h1 := x.2.1
    have h2 := x.2.2
    have h3 := jn_size pre
    have c5 := h5.cell
    have f5 := h5.free
    have c6 := h6.cell
    have f6 := h6.free
    have i1 : (1 : Int) ≤ (x.1.size : Int) := by omega
    have i2 : (x.1.size : Int) ≤ 64 := by omega
    have n01 : ¬ 9223372036854775807 < (jn pre).size + x.1.size := by omega
    have H := hid (And.intro h5 (And.intro h6 hB))
    gi_wp2
    obtain ⟨g5, g6, gB⟩ := H.out
    have q5 := g5.other ⟨w.heap.size + 1 + 1 + 1, 0, none⟩ (by simp) (.bool true)
    exact ⟨(g6.keeps _).trans (q5.keeps _), ((Below.refl _ _).setCell (by simp; omega) _).setCell (by simp; omega) _,
      ⟨by rw [jn_snoc]; exact q5.set _, (g6.set _).other _ (by simp) _⟩, (gB.setCell (by simp; omega) _).setCell (by simp; omega) _⟩
  case done =>
    rintro D ys W' hD hys ⟨⟨h5, h6⟩, hB⟩ hK
    have hj : jn ys = s := by unfold jn; rw [hys]
    rw [hj] at h5
    have c5 := h5.cell
    have c6 := h6.cell
    have HK := hid hK
    clear hK
    go_wp2_with fail
    go_quiet (fail)
    go_wp2
    have bD : Below w.heap.size w (W'.drewN nq) := hB.trans ⟨rfl, rfl, rfl, Nat.le_refl _, fun _ _ => rfl⟩
    have hK4 : (W'.drewN nq).heap[D]? = some (.deferred (some [])) := HK.out
    refine ⟨by simp, .inl ⟨_, _, rfl, run_takeDeferred hK4, ?_⟩⟩
    exact ⟨_, results_tmp2 rfl _ _ _, rfl, bD.trans (belowK_b (w := w) (Nat.le_refl _) _ D _ _ (by omega) hK4 rfl rfl)⟩
  case stop =>
    rintro D c pre W _ _ h _
    exact h.elim

end Go.Proofs.Ytaafnodabjbakaa
