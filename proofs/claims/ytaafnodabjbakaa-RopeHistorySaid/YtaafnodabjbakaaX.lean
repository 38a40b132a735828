/-
  Contracts: String; the helpers of the statements that range over the pieces.
-/
import Derived.Test.YtaafnodabjbakaaU
import Derived.RangeFuncFrom
namespace Go.Proofs.Ytaafnodabjbakaa
open Go.RowKit Rp Go.Shelf

attribute [local go_sem] Oper.semAt_some

theorem keeps_of_others {b : Nat} {w w' : World} (h : Lib.OthersKept 5 (some b) w w') (hs : w.heap.size ≤ w'.heap.size) (hb : ∃ c t fz, w.heap[b]? = some (.cells c t fz)) : KeepsOthers w w' := by
  refine ⟨hs, fun k o hk ho => h k o hk ?_ ?_⟩
  · rintro e
    obtain ⟨c, t, fz, hc⟩ := hb
    cases e
    rw [hc] at hk; cases hk; cases ho
  · rintro c fz rfl; cases ho

theorem builder_other {B b : Nat} {bs : List Value} {w w' : World} {row : Option Nat} (h : Lib.IsBuilderF 66 5 B b bs w) (hg : w.grownBy w' row) (hr : ∀ r, row = some r → ∃ o : Obj, w.heap[r]? = some o ∧ o.isCells = false) : Lib.IsBuilderF 66 5 B b bs w' := by
  have ne : ∀ k c t fz, w.heap[k]? = some (.cells c t fz) → some k ≠ row := by
    intro k c t fz hk e
    obtain ⟨o, ho, hc⟩ := hr k e.symm
    rw [hk] at ho; cases ho; cases hc
  have key : ∀ p, Lib.BuilderAtF 66 5 B b p bs w → Lib.BuilderAtF 66 5 B b p bs w' := by
    rintro p ⟨hB, v, hb, hown, hne⟩
    refine ⟨hB, v, (hg.block b (heap_lt hb) (ne b _ _ _ hb)).trans hb, hown.kept hg ?_, hne⟩
    cases hv : v.ownBlock with
    | none => exact .inl rfl
    | some g =>
      refine .inr ?_
      obtain ⟨c, fz, hc⟩ := Lib.ownsRowF_kind hown g hv
      exact ne g _ _ _ hc
  exact h.imp (key _) (key _)
theorem builder_cells {B b : Nat} {bs : List Value} {w : World} (h : Lib.IsBuilderF 66 5 B b bs w) : ∃ c t fz, w.heap[b]? = some (.cells c t fz) := by
  rcases h with ⟨_, v, hb, _⟩ | ⟨_, v, hb, _⟩ <;> exact ⟨_, _, _, hb⟩

set_option maxRecDepth 100000 in
set_option maxHeartbeats 4000000 in
theorem String_any (p : Option Addr) (t : List UInt8) (w : World) (h : Rope w p t) (hs : t.length ≤ 100000000) :
    Calls Try.prog 23 #[.agg #[.pointer p]] w fun e w' => e = .returned (.string ⟨t.toArray⟩) ∧ Below w.heap.size w w' := by
  have b1 : Below w.heap.size w (w.alloc (.cells #[.pointer p] 26)) := (Below.refl _ _).alloc (Nat.le_refl _) _
  have hbx := alloc_new w (.cells #[.pointer p] 26)
  have hw1 : ((w.alloc (.cells #[.pointer p] 26)).alloc (.cells #[.pointer none, .slice none 0 0] 66)).heap.size = w.heap.size + 2 := by simp
  have b2 : Below w.heap.size w ((w.alloc (.cells #[.pointer p] 26)).alloc (.cells #[.pointer none, .slice none 0 0] 66)) := b1.alloc (by simp) _
  refine (callsIn_wide (n := 6)).1 ?_
  refine callsIn_of_wp_marks Try.func23 rfl trivial ?_ rfl
  simp only [Try.ntmps23, List.size_toArray, List.length_cons, List.length_nil, Nat.reduceAdd, Nat.reduceSub, Array.replicate_succ, Array.replicate_zero, List.push_toArray, List.append_toArray, List.nil_append, List.cons_append]
  refine wpIn_wide.2 ?_
  go_wp2_with (first
    | (go_at_call 25; refine (Len_grow p t _ (h.below b2)).mono ?_; rintro e w1 ⟨rfl, hg1⟩)
    | fail)
  have hbw : Below w.heap.size w w1 := b2.trans ((Below.refl _ _).grown hg1 (by simp; omega) (fun k hk => by cases hk))
  have hs1 := hg1.size
  have hB1 : w1.heap[w.heap.size + 1]? = some (.cells #[.pointer none, .slice none 0 0] 66 (0, 0)) := by
    rw [hg1.block _ (by simp) (by simp)]
    have := alloc_new (w.alloc (.cells #[.pointer p] 26)) (.cells #[.pointer none, .slice none 0 0] 66)
    simpa using this
  have hB0 : w1.heap[w.heap.size]? = some (.cells #[.pointer p] 26 (0, 0)) := by
    rw [hg1.block _ (by simp; omega) (by simp), Below.heap_alloc _ _ _ (by simp)]; exact hbx
  rw [hw1] at hs1
  clear hbx hw1 b1 b2 hg1
  refine (Try.Builder_Grow_fresh (w.heap.size + 1) (w.heap.size + 1) t.length w1 (Nat.le_refl _) hB1 (by omega) (by omega)).mono ?_
  rintro e w2 ⟨rfl, hBA, hb2⟩
  have hs2 := hb2.size
  have hbw2 : Below w.heap.size w w2 := hbw.trans (hb2.mono (by omega))
  have c0 : w2.cell? ⟨w.heap.size, 0, none⟩ = some (.pointer p) := cell_of_one ((hb2.block _ (by omega)).trans hB0)
  have hI2 : Lib.IsBuilderF 66 5 (w.heap.size + 1) (w.heap.size + 1) (Lib.byteCells (px [])) w2 := Lib.IsBuilderF.of (Or.inr hBA)
  clear hB1 hB0 hBA hb2 hbw
  go_wp2_with (go_at_call 24; refine (Chunks_any p _).mono ?_; rintro e w3 ⟨rfl, rfl⟩)
  have hI3 := builder_grow0 hI2 (World.grownBy_alloc w2 (.cells #[.pointer p] 26) none)
  have hbw3 : Below w.heap.size w (w2.alloc (.cells #[.pointer p] 26)) := hbw2.alloc (by omega) _
  refine (wpIn_wide (n := 6)).1 ?_
  refine wpIn_rangeFunc_ownF (n := 6) rfl (by omega) (gf := 37) (lb := #[.pointer (some ⟨w2.heap.size, 0, none⟩)]) rfl trivial (enters_of Try.func37 (by kernel_rfl) rfl)
    (chunks_stops 5 w2.heap.size w.heap.size (w2.alloc (.cells #[.pointer p] 26)) p t (by omega) w rfl h hbw3 (alloc_new _ _)) belowK_t (belowK_b (by simp; omega)) (Below.refl _ _) (fun _ => rfl)
    (fun pre W => (Lib.IsBuilderF 66 5 (w.heap.size + 1) (w.heap.size + 1) (Lib.byteCells (px pre)) W) ∧ Below w.heap.size w W ∧ w.heap.size + 1 ≤ W.heap.size)
    (fun _ _ _ => False)
    (OwnFrom.and (fun s A B row hs hg hr => builder_other hs hg (fun r e => (hr r e).2)) (OwnFrom.and (ownFrom_below (Nat.le_refl _) (by simp; omega)) (fun s A B row hs hg hr => Nat.le_trans hs hg.size)))
    (fun _ _ _ _ _ hs _ _ => hs)
    ⟨hI3, hbw3, by simp; omega⟩
    (fun x => { tmps := #[.agg #[.pointer p], .pointer (some ⟨w.heap.size, 0, none⟩), .string .empty, .pointer (some ⟨w.heap.size + 1, 0, none⟩), .string x.1, .agg #[.pointer p], .int .i64 t.length, .tuple #[], .agg #[.pointer p], .func (.func 37) #[] #[.pointer (some ⟨w2.heap.size, 0, none⟩)], .string x.1, undef, undef, undef], defers := [] }) ?assign ?body ?done ?stop
  case assign =>
    intro l x W K hK
    gi_wp2
    exact hK
  case body =>
    rintro l pre x W ⟨hI, hB, hsz⟩ hpl
    have h1 := (px_len pre).2
    have h2 := x.2.2
    have HW := hid (Try.Builder_WriteString_k (w.heap.size + 1) (w.heap.size + 1) _ x.1 W hI (by rw [Lib.byteCells_length]; omega) hsz)
    gi_wp2_with fail
    refine ⟨trivial, ?_⟩
    refine (CallsIn.inRound l (callsIn_wide.2 HW.out)).mono ?_
    rintro e W' ⟨rfl, hb', hbl, hk⟩
    have HF := hid (show KeepsOthers W W' ∧ Below w.heap.size W W' ∧ (Lib.IsBuilderF 66 5 (w.heap.size + 1) (w.heap.size + 1) (Lib.byteCells (px (pre ++ [x]))) W') ∧ Below w.heap.size w W' ∧ w.heap.size + 1 ≤ W'.heap.size from
      ⟨keeps_of_others hk hbl.size (builder_cells hI), hbl.mono (by omega), by rw [px_snoc, Lib.byteCells_append]; exact Or.inr hb', hB.trans (hbl.mono (by omega)), Nat.le_trans hsz hbl.size⟩)
    clear hb' hbl hk HW
    gi_wp2
    exact HF.out
  case done =>
    rintro D ys W hD hys ⟨hI, hB, hsz⟩ hK
    rw [hys] at hI
    have HW := hid (Try.Builder_String_any_k (w.heap.size + 1) (w.heap.size + 1) t W hI hsz)
    have HI := hid hI
    have HK := hid hK
    clear hI hK
    go_wp2_with (go_at_call 35; refine HW.out.mono ?_; rintro e W4 ⟨rfl, _, hb4, hk4⟩)
    have hK4 := (keeps_of_others hk4 hb4.size (builder_cells HI.out)).same D _ HK.out rfl
    refine ⟨by simp, .inl ⟨_, _, rfl, run_takeDeferred hK4, ?_⟩⟩
    exact ⟨_, results_tmp rfl _ _ _, rfl, (hB.trans (hb4.mono (by omega))).trans (belowK_b (w := w) (Nat.le_refl _) W4 D _ _ (by simp at hD; omega) hK4 rfl rfl)⟩
  case stop =>
    rintro D c pre W _ _ h _
    exact h.elim

end Go.Proofs.Ytaafnodabjbakaa
