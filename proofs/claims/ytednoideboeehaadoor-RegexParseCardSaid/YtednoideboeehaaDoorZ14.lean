/-
  Contract: writeSet.
  Contract: writeSet, one element; writeSet.
  Contracts: writeKid, write, Format.
  Contracts: write, Format.
  Contracts: write, Format.
  Contract: Format.
-/
import Derived.Test.YtednoideboeehaaDoorZ13
import Derived.RangeFuncFrom
import Derived.Test.YtednoideboeehaaDoorZ03
import Derived.Test.YtednoideboeehaaDoorZ10
section
set_option linter.unusedSimpArgs false
set_option linter.unusedVariables false
namespace Go.Proofs.YtednoideboeehaaDoor
open Go.RowKit Bs Rg Go.Frame Go.Shelf
attribute [local go_sem] eq_zero eq_set Oper.semAt_some
attribute [local irreducible] nb cnt pc els

theorem els_filter (p : Nat → Bool) : ∀ n, n ≤ 256 → (els p n).map (·.1) = (List.range n).filter p
  | 0, _ => by rw [els]; rfl
  | n + 1, h => by
    rw [els, List.map_append, els_filter p n (by omega), List.range_succ, List.filter_append]
    cases hp : p n
    · simp [hp]
    · simp [hp]; omega
theorem only_els {s : BS} {x : Fin 256} (h : els (lf s) 256 = [x]) : only s = some (UInt8.ofNat x.1) := by
  have := els_filter (lf s) 256 (Nat.le_refl _)
  rw [h] at this
  unfold only
  rw [show nt s = lf s from rfl, ← this]; rfl
theorem only_none {s : BS} (h : cnt (lf s) 256 ≠ 1) : only s = none := by
  have h1 := els_filter (lf s) 256 (Nat.le_refl _)
  have h2 := els_length (lf s) 256
  unfold only
  rw [show nt s = lf s from rfl, ← h1]
  match hh : els (lf s) 256 with
  | [] => rfl
  | [x] => rw [hh] at h2; exact absurd h2.symm h
  | x :: y :: l => rfl
theorem els_one {s : BS} (h : cnt (lf s) 256 = 1) : ∃ x, els (lf s) 256 = [x] := by
  have h2 := els_length (lf s) 256
  rw [h] at h2
  match hh : els (lf s) 256 with
  | [] => rw [hh] at h2; cases h2
  | [x] => exact ⟨x, rfl⟩
  | x :: y :: l => rw [hh] at h2; simp at h2
theorem wr_cpl {s : BS} (h : (wr s || wr (cpl s)) = true) (hs : wr s = false) : wr (cpl s) = true := by rw [hs] at h; simpa using h

/-- The text, and writeSet's two boxes. -/
def Ws (B b : Nat) (w : World) (t : List UInt8) (s : BS) (V : World) : Prop := Wt B b w V t ∧ V.heap[w.heap.size]? = some (.cells #[.pointer (some ⟨b, 0, none⟩)] 60 (0, 0)) ∧ V.heap[w.heap.size + 1]? = some (.cells #[.int .u64 (ws s 0 : Int), .int .u64 (ws s 1 : Int), .int .u64 (ws s 2 : Int), .int .u64 (ws s 3 : Int)] 24 (0, 0)) ∧ B ≤ V.heap.size
theorem Ws.below {B b : Nat} {w : World} {t : List UInt8} {s : BS} {V V' : World} (h : Ws B b w t s V) (hb : Below V.heap.size V V') : Ws B b w t s V' :=
  ⟨h.1.below h.2.2.2 hb, (hb.block _ (heap_lt h.2.1)).trans h.2.1, (hb.block _ (heap_lt h.2.2.1)).trans h.2.2.1, Nat.le_trans h.2.2.2 hb.size⟩

set_option maxRecDepth 100000 in
set_option maxHeartbeats 4000000 in
theorem writeSet_other (B b : Nat) (t : List UInt8) (s : BS) (w : World) (hpr : (wr s || wr (cpl s)) = true) (hcs : eqs s Rg.dot = true ∨ cnt (lf s) 256 ≠ 1) (h : Lib.IsBuilderF 62 5 B b (Lib.byteCells t) w) (hl : t.length ≤ 10000000) (hB : B ≤ w.heap.size) :
    Calls Tryd.prog 61 #[.pointer (some ⟨b, 0, none⟩), .agg #[.int .u64 (ws s 0 : Int), .int .u64 (ws s 1 : Int), .int .u64 (ws s 2 : Int), .int .u64 (ws s 3 : Int)]] w fun e w' => e = .returned (.tuple #[]) ∧ Wt B b w w' (t ++ fmtS s) := by
  obtain ⟨W, hW⟩ : ∃ W, W = (w.alloc (.cells #[.pointer (some ⟨b, 0, none⟩)] 60)).alloc (.cells #[.int .u64 (ws s 0 : Int), .int .u64 (ws s 1 : Int), .int .u64 (ws s 2 : Int), .int .u64 (ws s 3 : Int)] 24) := ⟨_, rfl⟩
  obtain ⟨x0, x1, bW, hsz⟩ := Go.Frame.two w (.cells #[.pointer (some ⟨b, 0, none⟩)] 60) (.cells #[.int .u64 (ws s 0 : Int), .int .u64 (ws s 1 : Int), .int .u64 (ws s 2 : Int), .int .u64 (ws s 3 : Int)] 24)
  rw [← hW] at x0 x1 bW hsz
  have hbb := bld_lt h
  have HW := hid (show Ws B b w t s W from ⟨(Wt.start h).below hB bW, x0, x1, Nat.le_trans hB bW.size⟩)
  have HL := hid hl
  have CD := hid (fun V => dot_any V)
  have CL := hid (fun V => show Calls Tryd.prog 82 #[.agg #[.int .u64 (ws s 0 : Int), .int .u64 (ws s 1 : Int), .int .u64 (ws s 2 : Int), .int .u64 (ws s 3 : Int)]] V _ from Len_any (lf s) V)
  have CW := hid (fun V => writable_any s V)
  have CC := hid (fun V => ComplementB_any s V)
  have l0 := heap_lt x0
  have l1 := heap_lt x1
  clear h hl hB x0 x1 bW hsz hbb
  have start : ∀ (X : Type) (f : X → World), Hid (∀ x, Below W.heap.size W (f x)) → ∀ x, ((f x).cell? ⟨w.heap.size + 1, 0, none⟩ = some (.int .u64 (ws s 0 : Int))) ∧ ((f x).cell? ⟨w.heap.size + 1, 1, none⟩ = some (.int .u64 (ws s 1 : Int))) ∧ ((f x).cell? ⟨w.heap.size + 1, 2, none⟩ = some (.int .u64 (ws s 2 : Int))) ∧ ((f x).cell? ⟨w.heap.size + 1, 3, none⟩ = some (.int .u64 (ws s 3 : Int))) :=
    fun X f hf x => cells4 (((hf.out x).block _ l1).trans HW.out.2.2.1)
  cases hq : eqs s Rg.dot
  · rw [hq] at hcs
    have hn : cnt (lf s) 256 ≠ 1 := hcs.resolve_left (by simp)
    have hf : fmtS s = if wr s = true then 91 :: (elms s 200 0 ++ [93]) else 91 :: 94 :: (elms (cpl s) 200 0 ++ [93]) := by
      unfold fmtS
      rw [if_neg (by rw [show eqd s Rg.dot = eqs s Rg.dot from rfl, hq]; simp), only_none hn]
    have n1 : ((cnt (lf s) 256 : Int) == 1) = false := by rw [beq_eq_false_iff_ne]; omega
    cases hw : wr s
    all_goals
      rw [hw] at CW hf hpr
      have HF := hid (And.intro hf (And.intro hpr hw))
      clear hf hpr hw
      go_enter Tryd.func61, Tryd.ntmps61
      go_wp2_with fail
      rw [← hW]
      clear hW
      go_wp2_with fail
      refine wp_region_below (by kernel_rfl) (by kernel_rfl) ?_
      intro X f _ hf hs
      have k0 := fun x => (start X f hf x).1
      have k1 := fun x => (start X f hf x).2.1
      have k2 := fun x => (start X f hf x).2.2.1
      have k3 := fun x => (start X f hf x).2.2.2
      repeat (go_big_quiet_step (first | (go_at_call 81; with_reducible exact calls_below hf hs (CD.out _))))
      refine wpQuiet_nil ?_
      intro Y hY
      have H1 := hid (HW.out.below hY)
      obtain ⟨d0, d1, d2, d3⟩ := cells4 H1.out.2.2.1
      clear hY hf hs k0 k1 k2 k3 start
      go_wp2_with fail
      refine (CL.out _).mono ?_
      rintro e W2 ⟨rfl, b2⟩
      have H2 := hid (H1.out.below b2)
      obtain ⟨d0, d1, d2, d3⟩ := cells4 H2.out.2.2.1
      clear b2
      go_wp2_with fail
      refine (CW.out _).mono ?_
      rintro e W3 ⟨rfl, b3⟩
      have H3 := hid (H2.out.below b3)
      obtain ⟨d0, d1, d2, d3⟩ := cells4 H3.out.2.2.1
      have d9 := cells1 H3.out.2.1
      have l2 := heap_lt H3.out.2.1
      have l3 := heap_lt H3.out.2.2.1
      clear b3
      go_wp2_with fail
    · refine (wpIn_wide (n := 0)).1 (wpIn_region_below_tail 3 free_wide (by kernel_rfl) (by kernel_rfl) (by kernel_rfl) ?_)
      intro X f _ hf hs
      have k0 := fun x => (cells4 (((hf.out x).block _ l3).trans H3.out.2.2.1)).1
      have k1 := fun x => (cells4 (((hf.out x).block _ l3).trans H3.out.2.2.1)).2.1
      have k2 := fun x => (cells4 (((hf.out x).block _ l3).trans H3.out.2.2.1)).2.2.1
      have k3 := fun x => (cells4 (((hf.out x).block _ l3).trans H3.out.2.2.1)).2.2.2
      have k4 := fun x => cells1 (((hf.out x).block _ l2).trans H3.out.2.1)
      simp only [List.take_succ_cons, List.take_zero, List.drop_succ_cons, List.drop_zero]
      repeat (go_big_quiet_step (first | (go_at_call 59; with_reducible exact calls_below hf hs (CC.out _))))
      refine wpQuiet_nil ?_
      intro Y hY
      have H4 := hid (H3.out.below hY)
      clear hY hf hs k0 k1 k2 k3 k4
      have CB := hid (fbrackets_any B b t ⟨#[91, 94]⟩ (cpl s) Y (wr_iff.1 (by simpa using HF.out.2.1)).2 H4.out.1.1 HL.out (by decide) H4.out.2.2.2)
      gi_wp2
      refine ⟨trivial, rfl, callsIn_wide.2 (CB.out.mono ?_)⟩
      rintro e W5 ⟨rfl, h5⟩
      have H5 := hid (H4.out.1.trans h5)
      clear h5
      gi_wp2
      go_wp2
      go_end0
      refine ⟨rfl, ?_⟩
      rw [HF.out.1]
      simpa using H5.out
    · have CB := hid (fbrackets_any B b t ⟨#[91]⟩ s W3 (wr_iff.1 HF.out.2.2).2 H3.out.1.1 HL.out (by decide) H3.out.2.2.2)
      refine CB.out.mono ?_
      rintro e W5 ⟨rfl, h5⟩
      have H5 := hid (H3.out.1.trans h5)
      clear h5
      go_wp2
      go_end0
      refine ⟨rfl, ?_⟩
      rw [HF.out.1]
      simpa using H5.out
  · have hf : fmtS s = [46] := by unfold fmtS; rw [if_pos (show eqd s Rg.dot = true from hq)]
    rw [hf]
    clear hf
    go_enter Tryd.func61, Tryd.ntmps61
    go_wp2_with fail
    rw [← hW]
    clear hW
    go_wp2_with fail
    refine wp_region_below (by kernel_rfl) (by kernel_rfl) ?_
    intro X f _ hf hs
    have k0 := fun x => (start X f hf x).1
    have k1 := fun x => (start X f hf x).2.1
    have k2 := fun x => (start X f hf x).2.2.1
    have k3 := fun x => (start X f hf x).2.2.2
    repeat (go_big_quiet_step (first | (go_at_call 81; with_reducible exact calls_below hf hs (CD.out _))))
    refine wpQuiet_nil ?_
    intro Y hY
    have H1 := hid (HW.out.below hY)
    have d9 := cells1 H1.out.2.1
    clear hY hf hs k0 k1 k2 k3 start
    have CB := hid (show Calls Tryd.prog 63 #[.pointer (some ⟨b, 0, none⟩), .int .u8 46] Y _ from writeByte B b t 46 Y H1.out.1.1 (by have := HL.out; omega) H1.out.2.2.2)
    go_wp2_with fail
    refine CB.out.mono ?_
    rintro e W5 ⟨rfl, h5⟩
    have H5 := hid (H1.out.1.trans h5)
    clear h5
    go_wp2
    go_end0
    exact ⟨rfl, H5.out⟩
end Go.Proofs.YtednoideboeehaaDoor
end
section
set_option linter.unusedSimpArgs false
set_option linter.unusedVariables false
namespace Go.Proofs.YtednoideboeehaaDoor
open Go.RowKit Bs Rg Go.Frame Go.Shelf
attribute [local go_sem] eq_zero eq_set Oper.semAt_some
attribute [local irreducible] nb cnt pc els

theorem bld_other {B b : Nat} {bs : List Value} {w w' : World} {row : Option Nat} (h : Lib.IsBuilderF 62 5 B b bs w) (hg : w.grownBy w' row) (hr : ∀ r, row = some r → ∃ o : Obj, w.heap[r]? = some o ∧ o.isCells = false) : Lib.IsBuilderF 62 5 B b bs w' := by
  have ne : ∀ k c t fz, w.heap[k]? = some (.cells c t fz) → some k ≠ row := by
    intro k c t fz hk e
    obtain ⟨o, ho, hc⟩ := hr k e.symm
    rw [hk] at ho; cases ho; cases hc
  have key : ∀ p, Lib.BuilderAtF 62 5 B b p bs w → Lib.BuilderAtF 62 5 B b p bs w' := by
    rintro p ⟨hB, v, hb, hown, hne⟩
    refine ⟨hB, v, (hg.block b (heap_lt hb) (ne b _ _ _ hb)).trans hb, hown.kept hg ?_, hne⟩
    cases hv : v.ownBlock with
    | none => exact .inl rfl
    | some g =>
      refine .inr ?_
      obtain ⟨c, fz, hc⟩ := Lib.ownsRowF_kind hown g hv
      exact ne g _ _ _ hc
  exact h.imp (key _) (key _)
theorem keeps_wt {B b : Nat} {t : List UInt8} {w w' : World} (h : Wt B b w w' t) (hs : w.heap.size ≤ w'.heap.size) (hb : ∃ c t fz, w.heap[b]? = some (.cells c t fz)) : KeepsOthers w w' := by
  refine ⟨hs, fun k o hk ho => h.2.2 k o hk ?_ ?_⟩
  · rintro e
    obtain ⟨c, t, fz, hc⟩ := hb
    cases e
    rw [hc] at hk; cases hk; cases ho
  · rintro c fz rfl; cases ho
theorem bld_cells {B b : Nat} {bs : List Value} {w : World} (h : Lib.IsBuilderF 62 5 B b bs w) : ∃ c t fz, w.heap[b]? = some (.cells c t fz) := by
  rcases h with ⟨_, v, hb, _⟩ | ⟨_, v, hb, _⟩ <;> exact ⟨_, _, _, hb⟩
theorem grown_putD (V : World) (D : Nat) (o : Obj) : V.grownBy (V.putObj D o) (some D) := Go.grownBy_putObj' V D o
theorem Wt.putD {B b : Nat} {t : List UInt8} {w V : World} {D : Nat} {o o' : Obj} (h : Wt B b w V t) (hD : V.heap[D]? = some o) (hc : o.isCells = false) (hw : w.heap.size ≤ D) (hB : B ≤ w.heap.size) : Wt B b w (V.putObj D o') t := by
  refine ⟨bld_other h.1 (grown_putD V D o') (fun r e => ⟨o, by cases e; exact hD, hc⟩), ⟨h.2.1.os, h.2.1.tape, h.2.1.output, by simpa using h.2.1.size, fun k hk => (World.putObj_heap_other (by omega)).trans (h.2.1.block k hk)⟩, fun i p hi hb ho => (World.putObj_heap_other (by have := heap_lt hi; omega)).trans (h.2.2 i p hi hb ho)⟩
/-- What the pieces so far have written. -/
def pw (pre : List (Fin 256)) : List UInt8 := pre.flatMap fun x => wch spO (UInt8.ofNat x.1)
theorem pw_snoc (pre : List (Fin 256)) (x : Fin 256) : pw (pre ++ [x]) = pw pre ++ wch spO (UInt8.ofNat x.1) := by simp [pw]
theorem pw_len (pre : List (Fin 256)) : (pw pre).length ≤ 2 * pre.length := by
  induction pre with
  | nil => simp [pw]
  | cons x l ih =>
    have := wch_len spO (UInt8.ofNat x.1)
    unfold pw at ih ⊢
    rw [List.flatMap_cons, List.length_append, List.length_cons]; omega

set_option maxRecDepth 100000 in
set_option maxHeartbeats 4000000 in
theorem writeSet_one (B b : Nat) (t : List UInt8) (s : BS) (x0 : Fin 256) (w : World) (hT : Tb w) (hB0 : 0 < B) (hd : eqs s Rg.dot = false) (he : els (lf s) 256 = [x0]) (h : Lib.IsBuilderF 62 5 B b (Lib.byteCells t) w) (hl : t.length ≤ 10000000) (hB : B ≤ w.heap.size) :
    Calls Tryd.prog 61 #[.pointer (some ⟨b, 0, none⟩), .agg #[.int .u64 (ws s 0 : Int), .int .u64 (ws s 1 : Int), .int .u64 (ws s 2 : Int), .int .u64 (ws s 3 : Int)]] w fun e w' => e = .returned (.tuple #[]) ∧ Wt B b w w' (t ++ fmtS s) := by
  have hf : fmtS s = wch spO (UInt8.ofNat x0.1) := by
    unfold fmtS
    rw [if_neg (by rw [show eqd s Rg.dot = eqs s Rg.dot from rfl, hd]; simp), only_els he]
  rw [hf]
  have hc1 : cnt (lf s) 256 = 1 := by rw [← els_length, he]; rfl
  obtain ⟨W, hW⟩ : ∃ W, W = (w.alloc (.cells #[.pointer (some ⟨b, 0, none⟩)] 60)).alloc (.cells #[.int .u64 (ws s 0 : Int), .int .u64 (ws s 1 : Int), .int .u64 (ws s 2 : Int), .int .u64 (ws s 3 : Int)] 24) := ⟨_, rfl⟩
  obtain ⟨x0', x1, bW, hsz⟩ := Go.Frame.two w (.cells #[.pointer (some ⟨b, 0, none⟩)] 60) (.cells #[.int .u64 (ws s 0 : Int), .int .u64 (ws s 1 : Int), .int .u64 (ws s 2 : Int), .int .u64 (ws s 3 : Int)] 24)
  rw [← hW] at x0' x1 bW hsz
  have hbb := bld_lt h
  have HW := hid (show Ws B b w t s W ∧ Tb W from ⟨⟨(Wt.start h).below hB bW, x0', x1, Nat.le_trans hB bW.size⟩, hT.below bW⟩)
  have HL := hid (And.intro hl (And.intro hB (And.intro hbb (And.intro hB0 he))))
  have CD := hid (fun V => dot_any V)
  have CL := hid (fun V => show Calls Tryd.prog 82 #[.agg #[.int .u64 (ws s 0 : Int), .int .u64 (ws s 1 : Int), .int .u64 (ws s 2 : Int), .int .u64 (ws s 3 : Int)]] V _ from Len_any (lf s) V)
  rw [hc1] at CL
  have CA := hid (fun V => show Calls Tryd.prog 83 #[.agg #[.int .u64 (ws s 0 : Int), .int .u64 (ws s 1 : Int), .int .u64 (ws s 2 : Int), .int .u64 (ws s 3 : Int)]] V _ from All_any (lf s) V)
  have l0 := heap_lt x0'
  have l1 := heap_lt x1
  have start : ∀ (X : Type) (f : X → World), Hid (∀ x, Below W.heap.size W (f x)) → ∀ x, ((f x).cell? ⟨w.heap.size + 1, 0, none⟩ = some (.int .u64 (ws s 0 : Int))) ∧ ((f x).cell? ⟨w.heap.size + 1, 1, none⟩ = some (.int .u64 (ws s 1 : Int))) ∧ ((f x).cell? ⟨w.heap.size + 1, 2, none⟩ = some (.int .u64 (ws s 2 : Int))) ∧ ((f x).cell? ⟨w.heap.size + 1, 3, none⟩ = some (.int .u64 (ws s 3 : Int))) :=
    fun X f hf x => cells4 (((hf.out x).block _ l1).trans HW.out.1.2.2.1)
  have HD := hid hd
  clear h hl hB x0' x1 bW hsz hbb hT hB0 he hf hc1
  refine (callsIn_wide (n := 6)).1 ?_
  refine callsIn_of_wp_marks Tryd.func61 rfl trivial ?_ rfl
  simp only [Tryd.ntmps61, List.size_toArray, List.length_cons, List.length_nil, Nat.reduceAdd, Nat.reduceSub, Array.replicate_succ, Array.replicate_zero, List.push_toArray, List.append_toArray, List.nil_append, List.cons_append]
  refine wpIn_wide.2 ?_
  go_wp2_with fail
  rw [← hW]
  clear hW
  go_wp2_with fail
  refine wp_region_below (by kernel_rfl) (by kernel_rfl) ?_
  intro X f _ hf hs
  have k0 := fun x => (start X f hf x).1
  have k1 := fun x => (start X f hf x).2.1
  have k2 := fun x => (start X f hf x).2.2.1
  have k3 := fun x => (start X f hf x).2.2.2
  repeat (go_big_quiet_step (first | (go_at_call 81; with_reducible exact calls_below hf hs (CD.out _))))
  refine wpQuiet_nil ?_
  intro Y hY
  have H1 := hid (And.intro (HW.out.1.below hY) (HW.out.2.below hY))
  obtain ⟨d0, d1, d2, d3⟩ := cells4 H1.out.1.2.2.1
  clear hY hf hs k0 k1 k2 k3 start
  go_wp2_with fail
  refine (CL.out _).mono ?_
  rintro e W2 ⟨rfl, b2⟩
  have H2 := hid (And.intro (H1.out.1.below b2) (H1.out.2.below b2))
  obtain ⟨d0, d1, d2, d3⟩ := cells4 H2.out.1.2.2.1
  clear b2
  go_wp2_with fail
  refine (CA.out _).mono ?_
  rintro e W3 ⟨rfl, hW3⟩
  have b3 : Below W2.heap.size W2 W3 := by rw [hW3]; exact bel1 _ _
  have y3 : SB W3 W2.heap.size (lf s) := by rw [hW3]; exact alloc_new _ _
  clear hW3
  have H3 := hid (And.intro (H2.out.1.below b3) (And.intro (H2.out.2.below b3) y3))
  have d9 := cells1 H3.out.1.2.1
  have hsz3 := b3.size
  clear b3
  go_wp2_with fail
  have hw3 : w.heap.size + 2 ≤ W3.heap.size := by have := heap_lt H3.out.1.2.2.1; omega
  have hbw := HL.out.2.2.1
  refine (wpIn_wide (n := 6)).1 ?_
  refine wpIn_rangeFunc_ownF (n := 6) rfl (by omega) (gf := 100) (lb := #[.pointer (some ⟨W2.heap.size, 0, none⟩)]) rfl trivial (enters_of Tryd.func100 (by kernel_rfl) rfl)
    (all_stops 5 W2.heap.size (by omega) W3 (lf s) H3.out.2.2 H3.out.2.1) Zero.trans
    (fun X l o o' hl h _ _ => World.putObj_heap_other (by omega)) (Below.refl _ _) (fun _ => rfl)
    (fun pre V => Lib.IsBuilderF 62 5 B b (Lib.byteCells (t ++ pw pre)) V ∧ V.heap[w.heap.size]? = some (.cells #[.pointer (some ⟨b, 0, none⟩)] 60 (0, 0)) ∧ B ≤ V.heap.size ∧ Below B w V ∧ Lib.OthersKept 5 (some b) w V)
    (fun _ _ _ => False)
    (fun pre A C row hs hg hr => ⟨bld_other hs.1 hg (fun r e => (hr r e).2), (hg.block _ (heap_lt hs.2.1) (fun e => by have := (hr _ e.symm).1; omega)).trans hs.2.1, Nat.le_trans hs.2.2.1 hg.size, hs.2.2.2.1.grown hg hs.2.2.1 (fun k e => by have := (hr k e).1; have := HL.out.2.1; omega),
      fun i o hi hb ho => (hg.block i (heap_lt (hs.2.2.2.2 i o hi hb ho)) (fun e => by have := (hr _ e.symm).1; have := heap_lt hi; omega)).trans (hs.2.2.2.2 i o hi hb ho)⟩)
    (fun _ _ _ _ _ hs _ _ => hs)
    ⟨by simpa [pw] using H3.out.1.1.1, H3.out.1.2.1, H3.out.1.2.2.2, H3.out.1.1.2⟩
    (fun x => { tmps := #[.pointer (some ⟨b, 0, none⟩), .agg #[.int .u64 (ws s 0 : Int), .int .u64 (ws s 1 : Int), .int .u64 (ws s 2 : Int), .int .u64 (ws s 3 : Int)], .pointer (some ⟨w.heap.size, 0, none⟩), .pointer (some ⟨w.heap.size + 1, 0, none⟩), .int .u8 (x.1 : Int), undef, undef, undef, undef, .bool false, .agg #[.int .u64 (ws s 0 : Int), .int .u64 (ws s 1 : Int), .int .u64 (ws s 2 : Int), .int .u64 (ws s 3 : Int)], .agg #[.int .u64 (ws Rg.dot 0 : Int), .int .u64 (ws Rg.dot 1 : Int), .int .u64 (ws Rg.dot 2 : Int), .int .u64 (ws Rg.dot 3 : Int)], .bool false, undef, undef, .bool true, .agg #[.int .u64 (ws s 0 : Int), .int .u64 (ws s 1 : Int), .int .u64 (ws s 2 : Int), .int .u64 (ws s 3 : Int)], .int .i64 1, .bool true, .agg #[.int .u64 (ws s 0 : Int), .int .u64 (ws s 1 : Int), .int .u64 (ws s 2 : Int), .int .u64 (ws s 3 : Int)], .func (.func 100) #[] #[.pointer (some ⟨W2.heap.size, 0, none⟩)], .int .u8 (x.1 : Int), undef, undef, undef, undef, undef, undef, undef, undef, undef], defers := [] }) ?assign ?body ?done ?stop
  case assign =>
    intro l x W K hK
    unfold encB
    gi_wp2
    exact hK
  case body =>
    rintro l pre x V ⟨g1, g2, g3, g4, g5⟩ hpl
    have c9 := cells1 g2
    have hpw := pw_len pre
    have CC := hid (show Calls Tryd.prog 84 #[.pointer (some ⟨b, 0, none⟩), .int .u8 (x.1 : Int), .string ⟨#[40, 41, 91, 93, 124, 42, 43, 63, 46, 92]⟩] V fun e w' => e = .returned (.tuple #[]) ∧ Wt B b V w' (t ++ pw pre ++ wch spO (UInt8.ofNat x.1)) from by
      have := writeChar_any B b (t ++ pw pre) (UInt8.ofNat x.1) ⟨#[40, 41, 91, 93, 124, 42, 43, 63, 46, 92]⟩ V g1 (by have := HL.out.1; simp only [List.length_append]; omega) g3
      rw [toNat_of x.2] at this
      exact this)
    have HG := hid (And.intro g1 (And.intro g2 (And.intro g3 (And.intro g4 g5))))
    clear g1 g2 g3 g4 g5 hpw
    gi_wp2_with fail
    refine ⟨trivial, ?_⟩
    refine (CallsIn.inRound l (callsIn_wide.2 CC.out)).mono ?_
    rintro e V' ⟨rfl, h5⟩
    have HF := hid (show KeepsOthers V V' ∧ Zero V V' ∧ Lib.IsBuilderF 62 5 B b (Lib.byteCells (t ++ pw (pre ++ [x]))) V' ∧ V'.heap[w.heap.size]? = some (.cells #[.pointer (some ⟨b, 0, none⟩)] 60 (0, 0)) ∧ B ≤ V'.heap.size ∧ Below B w V' ∧ Lib.OthersKept 5 (some b) w V' from
      ⟨keeps_wt h5 h5.2.1.size (bld_cells HG.out.1), h5.2.1.block 0 HL.out.2.2.2.1, by rw [pw_snoc, ← List.append_assoc]; exact h5.1, h5.box HG.out.2.1 (by omega) (by decide), Nat.le_trans HG.out.2.2.1 h5.2.1.size, HG.out.2.2.2.1.trans h5.2.1, HG.out.2.2.2.2.trans h5.2.2⟩)
    clear h5 CC
    gi_wp2
    exact HF.out
  case done =>
    rintro D ys V hD hys ⟨g1, g2, g3, g4, g5⟩ hK
    rw [hys, HL.out.2.2.2.2] at g1
    have HG := hid (show Wt B b w V (t ++ wch spO (UInt8.ofNat x0.1)) from ⟨by simpa [pw] using g1, g4, g5⟩)
    have HK := hid hK
    clear g1 g2 g3 g4 g5 hK
    go_wp2
    show LeavesInM _ _ _ _ _ _ _ _ _
    unfold LeavesInM
    refine ⟨by simp, .inl ⟨_, _, rfl, run_takeDeferred HK.out, ?_⟩⟩
    exact ⟨_, results_none rfl _ _ _, rfl, HG.out.putD HK.out rfl (by omega) HL.out.2.1⟩
  case stop =>
    rintro D c pre W _ _ h _
    exact h.elim
theorem writeSet_any (B b : Nat) (t : List UInt8) (s : BS) (w : World) (hT : Tb w) (hB0 : 0 < B) (hpr : (wr s || wr (cpl s)) = true) (h : Lib.IsBuilderF 62 5 B b (Lib.byteCells t) w) (hl : t.length ≤ 10000000) (hB : B ≤ w.heap.size) :
    Calls Tryd.prog 61 #[.pointer (some ⟨b, 0, none⟩), .agg #[.int .u64 (ws s 0 : Int), .int .u64 (ws s 1 : Int), .int .u64 (ws s 2 : Int), .int .u64 (ws s 3 : Int)]] w fun e w' => e = .returned (.tuple #[]) ∧ Wt B b w w' (t ++ fmtS s) := by
  cases hd : eqs s Rg.dot
  · by_cases hc : cnt (lf s) 256 = 1
    · obtain ⟨x, hx⟩ := els_one hc
      exact writeSet_one B b t s x w hT hB0 hd hx h hl hB
    · exact writeSet_other B b t s w hpr (.inr hc) h hl hB
  · exact writeSet_other B b t s w hpr (.inl hd) h hl hB
end Go.Proofs.YtednoideboeehaaDoor
end
section
set_option linter.unusedSimpArgs false
set_option linter.unusedVariables false
namespace Go.Proofs.YtednoideboeehaaDoor
open Go.RowKit Bs Rg Go.Frame Go.Shelf
attribute [local go_sem] eq_zero eq_set
attribute [local irreducible] nb cnt pc els

/-- What writing an expression does. -/
def WrC (B b : Nat) (r : Rx) : Prop := ∀ (w : World) (cs : List Value) (t : List UInt8), RC (· < B) w r cs → Tb w → Lib.IsBuilderF 62 5 B b (Lib.byteCells t) w → t.length + (fmt r).length ≤ 9000000 → B ≤ w.heap.size →
    Calls Tryd.prog 40 #[.pointer (some ⟨b, 0, none⟩), .agg cs.toArray] w fun e w' => e = .returned (.tuple #[]) ∧ Wt B b w w' (t ++ fmt r)
theorem RC.wt {B : Nat} {w w' : World} {r : Rx} {cs : List Value} (h : RC (· < B) w r cs) (hb : Below B w w') : RC (· < B) w' r cs := RC.keep hb.size (fun b hb' _ => hb.block b hb') (fun _ h => h) r h
theorem Kd.wt {B : Nat} {w w' : World} {a : Option Addr} {n : Nat} {l : List Rx} (h : Kd (· < B) w a n l) (hb : Below B w w') : Kd (· < B) w' a n l := h.keep hb.size (fun b hb' _ => hb.block b hb') fun _ h => h
theorem Tb.wt {B : Nat} {w w' : World} (h : Tb w) (h0 : 0 < B) (hb : Below B w w') : Tb w' := h.same (hb.block 0 h0)
theorem len_grp (p : Bool) (l : List UInt8) : (grp p l).length ≤ l.length + 2 := by unfold grp; split <;> simp

set_option maxRecDepth 100000 in
set_option maxHeartbeats 4000000 in
theorem writeKid_of {B b : Nat} {r : Rx} (h0 : 0 < B) (IH : WrC B b r) (w : World) (cs : List Value) (t : List UInt8) (p : Bool) (h : RC (· < B) w r cs) (hT : Tb w) (hb : Lib.IsBuilderF 62 5 B b (Lib.byteCells t) w) (hl : t.length + (grp p (fmt r)).length ≤ 9000000) (hB : B ≤ w.heap.size) :
    Calls Tryd.prog 62 #[.pointer (some ⟨b, 0, none⟩), .agg cs.toArray, .bool p] w fun e w' => e = .returned (.tuple #[]) ∧ Wt B b w w' (t ++ grp p (fmt r)) := by
  obtain ⟨k, s, l⟩ := r
  obtain ⟨f, hf⟩ : ∃ f, f = fmt (.mk k s l) := ⟨_, rfl⟩
  obtain ⟨a, n, c, rfl, hK⟩ := RC_mk.1 h
  obtain ⟨W, hW⟩ : ∃ W, W = w.alloc (.cells #[.int .i64 k, .int .u64 (ws s 0 : Int), .int .u64 (ws s 1 : Int), .int .u64 (ws s 2 : Int), .int .u64 (ws s 3 : Int), .slice a n c] 27) := ⟨_, rfl⟩
  have bW : Below w.heap.size w W := by rw [hW]; exact bel1 _ _
  have x0 : W.heap[w.heap.size]? = some (.cells #[.int .i64 k, .int .u64 (ws s 0 : Int), .int .u64 (ws s 1 : Int), .int .u64 (ws s 2 : Int), .int .u64 (ws s 3 : Int), .slice a n c] 27 (0, 0)) := by rw [hW]; exact alloc_new _ _
  have hbb := bld_lt hb
  have hWt : Wt B b w W t := (Wt.start hb).below hB bW
  have CI := hid (fun (V : World) (t' : List UInt8) (hV : Wt B b w V t') (hl' : t'.length + f.length ≤ 9000000) => show Calls Tryd.prog 40 #[.pointer (some ⟨b, 0, none⟩), .agg #[.int .i64 k, .int .u64 (ws s 0 : Int), .int .u64 (ws s 1 : Int), .int .u64 (ws s 2 : Int), .int .u64 (ws s 3 : Int), .slice a n c]] V _ from
    IH V _ t' (h.wt hV.2.1) (hT.wt h0 hV.2.1) hV.1 (by rw [← hf]; exact hl') (Nat.le_trans hB hV.2.1.size))
  rw [← hf] at CI hl
  rw [← hf]
  have hl : t.length + f.length + (if p = true then 2 else 0) ≤ 9000000 := by
    unfold grp at hl
    cases p
    · simpa using hl
    · simp at hl ⊢; omega
  have HW := hid (And.intro hWt (And.intro x0 (And.intro bW (And.intro hbb (And.intro hl hB)))))
  clear h hK hf hWt x0 bW hbb hl hB hT hb IH
  show Calls Tryd.prog 62 #[.pointer (some ⟨b, 0, none⟩), .agg #[.int .i64 k, .int .u64 (ws s 0 : Int), .int .u64 (ws s 1 : Int), .int .u64 (ws s 2 : Int), .int .u64 (ws s 3 : Int), .slice a n c], .bool p] w _
  obtain ⟨c0, c1, c2, c3, c4, c5⟩ := cells6 HW.out.2.1
  cases p
  all_goals simp only [if_true, if_false, Bool.false_eq_true] at HW
  · unfold grp
    rw [if_neg (by simp)]
    go_enter Tryd.func62, Tryd.ntmps62
    go_wp2_with fail
    rw [← hW]
    clear hW
    go_wp2_with fail
    refine (CI.out W t HW.out.1 (by have := HW.out.2.2.2.2.1; omega)).mono ?_
    rintro e W1 ⟨rfl, h1⟩
    have H1 := hid (HW.out.1.trans h1)
    clear h1
    go_wp2
    refine bodyPost_ret (results_none rfl _ _ _) rfl ?_
    exact ⟨rfl, H1.out⟩
  · unfold grp
    rw [if_pos rfl]
    have CB := hid (show Calls Tryd.prog 63 #[.pointer (some ⟨b, 0, none⟩), .int .u8 40] W _ from writeByte B b t 40 W HW.out.1.1 (by have := HW.out.2.2.2.2.1; omega) (Nat.le_trans HW.out.2.2.2.2.2 HW.out.2.2.1.size))
    go_enter Tryd.func62, Tryd.ntmps62
    go_wp2_with fail
    rw [← hW]
    clear hW
    go_wp2_with fail
    refine CB.out.mono ?_
    rintro e W1 ⟨rfl, h1⟩
    have y0 := h1.box HW.out.2.1 (by have := HW.out.2.2.2.1; omega) (by decide)
    obtain ⟨c0, c1, c2, c3, c4, c5⟩ := cells6 y0
    have H1 := hid (HW.out.1.trans h1)
    clear h1 y0
    go_wp2_with fail
    refine (CI.out W1 _ H1.out (by have := HW.out.2.2.2.2.1; simp only [List.length_append, List.length_cons, List.length_nil]; omega)).mono ?_
    rintro e W2 ⟨rfl, h2⟩
    have H2 := hid (H1.out.trans h2)
    clear h2
    have CB2 := hid (show Calls Tryd.prog 63 #[.pointer (some ⟨b, 0, none⟩), .int .u8 41] W2 _ from writeByte B b _ 41 W2 H2.out.1 (by have := HW.out.2.2.2.2.1; simp only [List.length_append, List.length_cons, List.length_nil]; omega) (Nat.le_trans HW.out.2.2.2.2.2 H2.out.2.1.size))
    go_wp2_with fail
    refine CB2.out.mono ?_
    rintro e W3 ⟨rfl, h3⟩
    have H3 := hid (H2.out.trans h3)
    clear h3
    go_wp2
    go_end0
    exact ⟨rfl, by simpa using H3.out⟩
theorem fmtC_c {x : Rx} {l : List Rx} : fmtC (x :: l) = grp (x.k == 4 || x.k == 5) (fmt x) ++ fmtC l := by rw [fmtC]
theorem fmtV_c {x : Rx} {l : List Rx} : fmtV (x :: l) = 124 :: (grp (x.k == 5) (fmt x) ++ fmtV l) := by rw [fmtV]
theorem fmtU_c {x : Rx} {l : List Rx} : fmtU (x :: l) = grp (x.k == 5) (fmt x) ++ fmtV l := by rw [fmtU]
theorem len_fmt_grp (p : Bool) (l : List UInt8) : l.length ≤ (grp p l).length := by unfold grp; split <;> simp; omega

set_option maxRecDepth 100000 in
set_option maxHeartbeats 4000000 in
theorem writeC_of {B b : Nat} {s : BS} {l : List Rx} (h0 : 0 < B) (IH : ∀ x ∈ l, WrC B b x) (w : World) (a : Option Addr) (n c : Nat) (t : List UInt8) (h : Kd (· < B) w a n l) (hT : Tb w) (hb : Lib.IsBuilderF 62 5 B b (Lib.byteCells t) w) (hl : t.length + (fmtC l).length ≤ 9000000) (hB : B ≤ w.heap.size) :
    Calls Tryd.prog 40 #[.pointer (some ⟨b, 0, none⟩), .agg #[.int .i64 4, .int .u64 (ws s 0 : Int), .int .u64 (ws s 1 : Int), .int .u64 (ws s 2 : Int), .int .u64 (ws s 3 : Int), .slice a n c]] w fun e w' => e = .returned (.tuple #[]) ∧ Wt B b w w' (t ++ fmtC l) := by
  obtain ⟨W, hW⟩ : ∃ W, W = w.alloc (.cells #[.int .i64 4, .int .u64 (ws s 0 : Int), .int .u64 (ws s 1 : Int), .int .u64 (ws s 2 : Int), .int .u64 (ws s 3 : Int), .slice a n c] 27) := ⟨_, rfl⟩
  have bW : Below w.heap.size w W := by rw [hW]; exact bel1 _ _
  have x0 : W.heap[w.heap.size]? = some (.cells #[.int .i64 4, .int .u64 (ws s 0 : Int), .int .u64 (ws s 1 : Int), .int .u64 (ws s 2 : Int), .int .u64 (ws s 3 : Int), .slice a n c] 27 (0, 0)) := by rw [hW]; exact alloc_new _ _
  have hbb := bld_lt hb
  have hWt : Wt B b w W t := (Wt.start hb).below hB bW
  have hln := hid h.len
  have hnl := h.lt
  have HW := hid (And.intro hWt (And.intro x0 (And.intro bW (And.intro hbb (And.intro hl (And.intro hB (And.intro h hT)))))))
  have HI := hid IH
  obtain ⟨R, hR⟩ : ∃ R, R = fmtC l := ⟨_, rfl⟩
  rw [← hR]
  have HR := hid hR
  obtain ⟨c0, c1, c2, c3, c4, c5⟩ := cells6 x0
  clear h hWt x0 bW hbb hl hB hT hb IH hR
  go_enter Tryd.func40, Tryd.ntmps40
  go_wp2_with fail
  rw [← hW]
  clear hW
  go_wp2_with fail
  go_loopg [25] n (fun k1 s25 wr => ∃ (i : Nat) (d : List UInt8), s25 = .int .i64 (i : Int) ∧ i + k1 = n ∧ Wt B b w wr (t ++ d) ∧ R = d ++ fmtC (l.drop i) ∧ wr.heap[w.heap.size]? = some (.cells #[.int .i64 4, .int .u64 (ws s 0 : Int), .int .u64 (ws s 1 : Int), .int .u64 (ws s 2 : Int), .int .u64 (ws s 3 : Int), .slice a n c] 27 (0, 0)))
  case atStart => exact ⟨0, [], rfl, by omega, by simpa using HW.out.1, by rw [HR.out]; rfl, HW.out.2.1⟩
  case round =>
    obtain ⟨i, d, rfl, hk1, hwt, hRi, hx0⟩ := hrel
    by_cases hlt : i < n
    · have hlt' : (i : Int) < (n : Int) := by omega
      obtain ⟨bk, off, k', s', l', a', n', c', rfl, hgB, hbk, hx, hK', q0, q1, q2, q3, q4, q5⟩ := (HW.out.2.2.2.2.2.2.1.wt hwt.2.1).get (i := i) hlt
      rw [drop_one hx, fmtC_c] at hRi
      obtain ⟨V, hV⟩ : ∃ V, V = wr.alloc (.cells #[.int .i64 k', .int .u64 (ws s' 0 : Int), .int .u64 (ws s' 1 : Int), .int .u64 (ws s' 2 : Int), .int .u64 (ws s' 3 : Int), .slice a' n' c'] 27) := ⟨_, rfl⟩
      have bV : Below wr.heap.size wr V := by rw [hV]; exact bel1 _ _
      have v0 : V.heap[wr.heap.size]? = some (.cells #[.int .i64 k', .int .u64 (ws s' 0 : Int), .int .u64 (ws s' 1 : Int), .int .u64 (ws s' 2 : Int), .int .u64 (ws s' 3 : Int), .slice a' n' c'] 27 (0, 0)) := by rw [hV]; exact alloc_new _ _
      obtain ⟨v0, v1, v2, v3, v4, v5⟩ := cells6 v0
      have hwV := hwt.below (Nat.le_trans HW.out.2.2.2.2.2.1 hwt.2.1.size) bV
      obtain ⟨p, hp⟩ : ∃ p : Bool, p = (Rx.k (.mk k' s' l') == 4 || Rx.k (.mk k' s' l') == 5) := ⟨_, rfl⟩
      rw [← hp] at hRi
      have hRl : d.length + (grp p (fmt (.mk k' s' l'))).length ≤ R.length := by rw [hRi]; simp only [List.length_append]; omega
      have CK := hid (show Calls Tryd.prog 62 #[.pointer (some ⟨b, 0, none⟩), .agg #[.int .i64 k', .int .u64 (ws s' 0 : Int), .int .u64 (ws s' 1 : Int), .int .u64 (ws s' 2 : Int), .int .u64 (ws s' 3 : Int), .slice a' n' c'], .bool p] V _ from
        writeKid_of h0 (HI.out _ (List.mem_of_getElem? hx)) V _ (t ++ d) p (RC_mk.2 ⟨a', n', c', rfl, hK'.below bV⟩) (HW.out.2.2.2.2.2.2.2.wt h0 hwV.2.1) hwV.1 (by have := HW.out.2.2.2.2.1; rw [← HR.out] at this; rw [List.length_append]; omega) (Nat.le_trans HW.out.2.2.2.2.2.1 hwV.2.1.size))
      have hp' : p = (k' == 4 || k' == 5) := hp
      have HX := hid (And.intro hwV (And.intro hRi (And.intro ((bV.block _ (heap_lt hx0)).trans hx0) HW.out.2.2.2.1)))
      clear hwt hRi hx0 hx hK' hwV bV hRl hgB hbk hp
      have fin : ∀ (e : Ending) (w2 : World), e = .returned (.tuple #[]) ∧ Wt B b V w2 (t ++ d ++ grp p (fmt (.mk k' s' l'))) → Wt B b w w2 (t ++ (d ++ grp p (fmt (.mk k' s' l')))) ∧ w2.heap[w.heap.size]? = some (.cells #[.int .i64 4, .int .u64 (ws s 0 : Int), .int .u64 (ws s 1 : Int), .int .u64 (ws s 2 : Int), .int .u64 (ws s 3 : Int), .slice (some ⟨bk, off, none⟩) n c] 27 (0, 0)) := fun e w2 ⟨_, h⟩ =>
        ⟨by rw [← List.append_assoc]; exact HX.out.1.trans h, h.box HX.out.2.2.1 (by have := HX.out.2.2.2; omega) (by decide)⟩
      by_cases h4 : k' = 4
      · subst h4
        obtain rfl : p = true := by rw [hp']; rfl
        clear hp'
        go_wp2_with fail
        rw [← hV]
        clear hV
        go_wp2_with fail
        refine CK.out.mono ?_
        rintro e w2 h2
        have HF := hid (fin e w2 h2)
        obtain ⟨rfl, _⟩ := h2
        clear fin
        go_wp2
        go_roundg (gk - 1)
        case measure => omega
        case rel => exact ⟨i + 1, _, by go_num, by omega, HF.out.1, by rw [HX.out.2.1, List.append_assoc], HF.out.2⟩
      · have e4 : (k' == 4) = false := by simpa using h4
        rw [e4, Bool.false_or] at hp'
        subst hp'
        clear h4
        go_wp2_with fail
        rw [← hV]
        clear hV
        go_wp2_with fail
        refine CK.out.mono ?_
        rintro e w2 h2
        have HF := hid (fin e w2 h2)
        obtain ⟨rfl, _⟩ := h2
        clear fin
        go_wp2
        go_roundg (gk - 1)
        case measure => omega
        case rel => exact ⟨i + 1, _, by go_num, by omega, HF.out.1, by rw [HX.out.2.1, List.append_assoc], HF.out.2⟩
    · have hin : ¬ (i : Int) < (n : Int) := by omega
      have HX := hid (And.intro hwt hRi)
      clear hwt hRi hx0
      go_wp2
      go_end0
      refine ⟨rfl, ?_⟩
      have h1 := HX.out.2
      rw [List.drop_eq_nil_of_le (by have := hln.out; omega), fmtC, List.append_nil] at h1
      rw [h1]; exact HX.out.1
end Go.Proofs.YtednoideboeehaaDoor
end
section
set_option linter.unusedSimpArgs false
set_option linter.unusedVariables false
namespace Go.Proofs.YtednoideboeehaaDoor
open Go.RowKit Bs Rg Go.Frame Go.Shelf
attribute [local go_sem] eq_zero eq_set
attribute [local irreducible] nb cnt pc els

set_option maxRecDepth 100000 in
set_option maxHeartbeats 4000000 in
theorem writeU_of {B b : Nat} {s : BS} {l : List Rx} (h0 : 0 < B) (IH : ∀ x ∈ l, WrC B b x) (w : World) (a : Option Addr) (n c : Nat) (t : List UInt8) (h : Kd (· < B) w a n l) (hT : Tb w) (hb : Lib.IsBuilderF 62 5 B b (Lib.byteCells t) w) (hl : t.length + (fmtU l).length ≤ 9000000) (hB : B ≤ w.heap.size) :
    Calls Tryd.prog 40 #[.pointer (some ⟨b, 0, none⟩), .agg #[.int .i64 5, .int .u64 (ws s 0 : Int), .int .u64 (ws s 1 : Int), .int .u64 (ws s 2 : Int), .int .u64 (ws s 3 : Int), .slice a n c]] w fun e w' => e = .returned (.tuple #[]) ∧ Wt B b w w' (t ++ fmtU l) := by
  obtain ⟨W, hW⟩ : ∃ W, W = w.alloc (.cells #[.int .i64 5, .int .u64 (ws s 0 : Int), .int .u64 (ws s 1 : Int), .int .u64 (ws s 2 : Int), .int .u64 (ws s 3 : Int), .slice a n c] 27) := ⟨_, rfl⟩
  have bW : Below w.heap.size w W := by rw [hW]; exact bel1 _ _
  have x0 : W.heap[w.heap.size]? = some (.cells #[.int .i64 5, .int .u64 (ws s 0 : Int), .int .u64 (ws s 1 : Int), .int .u64 (ws s 2 : Int), .int .u64 (ws s 3 : Int), .slice a n c] 27 (0, 0)) := by rw [hW]; exact alloc_new _ _
  have hbb := bld_lt hb
  have hWt : Wt B b w W t := (Wt.start hb).below hB bW
  have hln := hid h.len
  have hnl := h.lt
  have HW := hid (And.intro hWt (And.intro x0 (And.intro bW (And.intro hbb (And.intro hl (And.intro hB (And.intro h hT)))))))
  have HI := hid IH
  obtain ⟨R, hR⟩ : ∃ R, R = fmtU l := ⟨_, rfl⟩
  rw [← hR]
  have HR := hid hR
  obtain ⟨c0, c1, c2, c3, c4, c5⟩ := cells6 x0
  clear h hWt x0 bW hbb hl hB hT hb IH hR
  go_enter Tryd.func40, Tryd.ntmps40
  go_wp2_with fail
  rw [← hW]
  clear hW
  go_wp2_with fail
  go_loopg [46] n (fun k1 s46 wr => ∃ (i : Nat) (d : List UInt8), s46 = .int .i64 (i : Int) ∧ i + k1 = n ∧ Wt B b w wr (t ++ d) ∧ (i = 0 ∧ d = [] ∨ 0 < i ∧ R = d ++ fmtV (l.drop i)) ∧ wr.heap[w.heap.size]? = some (.cells #[.int .i64 5, .int .u64 (ws s 0 : Int), .int .u64 (ws s 1 : Int), .int .u64 (ws s 2 : Int), .int .u64 (ws s 3 : Int), .slice a n c] 27 (0, 0)))
  case atStart => exact ⟨0, [], rfl, by omega, by simpa using HW.out.1, .inl ⟨rfl, rfl⟩, HW.out.2.1⟩
  case round =>
    obtain ⟨i, d, rfl, hk1, hwt, hRi, hx0⟩ := hrel
    by_cases hlt : i < n
    · have hlt' : (i : Int) < (n : Int) := by omega
      obtain ⟨bk, off, k', s', l', a', n', c', rfl, hgB, hbk, hx, hK', q0, q1, q2, q3, q4, q5⟩ := (HW.out.2.2.2.2.2.2.1.wt hwt.2.1).get (i := i) hlt
      obtain ⟨V, hV⟩ : ∃ V, V = wr.alloc (.cells #[.int .i64 k', .int .u64 (ws s' 0 : Int), .int .u64 (ws s' 1 : Int), .int .u64 (ws s' 2 : Int), .int .u64 (ws s' 3 : Int), .slice a' n' c'] 27) := ⟨_, rfl⟩
      have bV : Below wr.heap.size wr V := by rw [hV]; exact bel1 _ _
      have v9 : V.heap[wr.heap.size]? = some (.cells #[.int .i64 k', .int .u64 (ws s' 0 : Int), .int .u64 (ws s' 1 : Int), .int .u64 (ws s' 2 : Int), .int .u64 (ws s' 3 : Int), .slice a' n' c'] 27 (0, 0)) := by rw [hV]; exact alloc_new _ _
      obtain ⟨v0, v1, v2, v3, v4, v5⟩ := cells6 v9
      have hwV := hwt.below (Nat.le_trans HW.out.2.2.2.2.2.1 hwt.2.1.size) bV
      have hbwr : b < wr.heap.size := (bld_lt hwt.1).2
      obtain ⟨p, hp⟩ : ∃ p : Bool, p = (k' == 5) := ⟨_, rfl⟩
      have hl9 := hid (show t.length + R.length ≤ 9000000 by have := HW.out.2.2.2.2.1; rw [← HR.out] at this; exact this)
      have CK := hid (fun (V' : World) (d' : List UInt8) (hV' : Wt B b wr V' (t ++ d')) (hl' : d'.length + (grp p (fmt (.mk k' s' l'))).length ≤ R.length) => show Calls Tryd.prog 62 #[.pointer (some ⟨b, 0, none⟩), .agg #[.int .i64 k', .int .u64 (ws s' 0 : Int), .int .u64 (ws s' 1 : Int), .int .u64 (ws s' 2 : Int), .int .u64 (ws s' 3 : Int), .slice a' n' c'], .bool p] V' _ from
        writeKid_of h0 (HI.out _ (List.mem_of_getElem? hx)) V' _ (t ++ d') p (RC_mk.2 ⟨a', n', c', rfl, hK'.wt hV'.2.1⟩) (HW.out.2.2.2.2.2.2.2.wt h0 (hwt.trans hV').2.1) hV'.1 (by have := hl9.out; rw [List.length_append]; omega) (Nat.le_trans HW.out.2.2.2.2.2.1 (hwt.trans hV').2.1.size))
      have hVr : Wt B b wr V (t ++ d) := (Wt.start hwt.1).below (Nat.le_trans HW.out.2.2.2.2.2.1 hwt.2.1.size) bV
      have HX := hid (And.intro hwt (And.intro hVr (And.intro ((bV.block _ (heap_lt hx0)).trans hx0) (And.intro HW.out.2.2.2.1 (And.intro v9 (And.intro hbwr (drop_one hx)))))))
      have fin : ∀ (w2 : World) (d' : List UInt8), Wt B b V w2 (t ++ d') → Wt B b w w2 (t ++ d') ∧ w2.heap[w.heap.size]? = some (.cells #[.int .i64 5, .int .u64 (ws s 0 : Int), .int .u64 (ws s 1 : Int), .int .u64 (ws s 2 : Int), .int .u64 (ws s 3 : Int), .slice (some ⟨bk, off, none⟩) n c] 27 (0, 0)) := fun w2 d' h =>
        ⟨HX.out.1.trans (HX.out.2.1.trans h), h.box HX.out.2.2.1 (by have := HX.out.2.2.2.1; omega) (by decide)⟩
      rcases hRi with ⟨rfl, rfl⟩ | ⟨hi0, hRi⟩
      · simp only [Nat.zero_mul, Nat.add_zero] at q0 q1 q2 q3 q4 q5
        have hRi : R = [] ++ (grp p (fmt (.mk k' s' l')) ++ fmtV (l.drop 1)) := by
          have := HX.out.2.2.2.2.2.2
          rw [List.drop_zero] at this
          rw [HR.out, this, fmtU_c, hp]; rfl
        have hRl : ([] : List UInt8).length + (grp p (fmt (.mk k' s' l'))).length ≤ R.length := by rw [hRi]; simp only [List.length_append]; omega
        have CK := hid (CK.out V [] HX.out.2.1 hRl)
        have HQ := hid hRi
        clear hwt hRi hx0 hx hK' hwV bV hRl hgB hbk hVr v9 hbwr
        rw [hp] at CK HQ
        clear hp
        go_wp2_with fail
        rw [← hV]
        clear hV
        go_wp2_with fail
        refine CK.out.mono ?_
        rintro e w2 ⟨rfl, h2⟩
        have HF := hid (fin w2 (grp (k' == 5) (fmt (.mk k' s' l'))) (by simpa using h2))
        clear fin h2
        go_wp2
        go_roundg (gk - 1)
        case measure => omega
        case rel => exact ⟨1, grp (k' == 5) (fmt (.mk k' s' l')), by first | rfl | go_num, by omega, HF.out.1, .inr ⟨by omega, by simpa using HQ.out⟩, HF.out.2⟩
      · have hi0' : (0 : Int) < (i : Int) := by omega
        rw [HX.out.2.2.2.2.2.2, fmtV_c] at hRi
        have hRi : R = d ++ 124 :: (grp p (fmt (.mk k' s' l')) ++ fmtV (l.drop (i + 1))) := by rw [hRi, hp]; rfl
        have hRl : (d ++ [124]).length + (grp p (fmt (.mk k' s' l'))).length ≤ R.length := by rw [hRi]; simp only [List.length_append, List.length_cons, List.length_nil]; omega
        have CB := hid (show Calls Tryd.prog 63 #[.pointer (some ⟨b, 0, none⟩), .int .u8 124] V _ from writeByte B b _ 124 V hVr.1 (by have := hl9.out; simp only [List.length_append, List.length_cons, List.length_nil] at hRl ⊢; omega) (Nat.le_trans HW.out.2.2.2.2.2.1 (hwt.trans hVr).2.1.size))
        have HQ := hid (And.intro hRi hRl)
        clear hwt hRi hx0 hx hK' hwV bV hRl hgB hbk hVr v9 hbwr
        rw [hp] at CK HQ
        clear hp
        go_wp2_with fail
        rw [← hV]
        clear hV
        go_wp2_with fail
        refine CB.out.mono ?_
        rintro e w1 ⟨rfl, h1⟩
        have v9 := h1.box HX.out.2.2.2.2.1 (by have := HX.out.2.2.2.2.2.1; omega) (by decide)
        obtain ⟨v0, v1, v2, v3, v4, v5⟩ := cells6 v9
        have CK2 := hid (CK.out w1 (d ++ [124]) (by rw [← List.append_assoc]; exact HX.out.2.1.trans h1) HQ.out.2)
        have H1 := hid h1
        clear h1 v9
        go_wp2_with fail
        refine CK2.out.mono ?_
        rintro e w2 ⟨rfl, h2⟩
        have HF := hid (fin w2 (d ++ [124] ++ grp (k' == 5) (fmt (.mk k' s' l'))) (H1.out.trans (by simpa using h2)))
        clear fin h2
        go_wp2
        go_roundg (gk - 1)
        case measure => omega
        case rel => exact ⟨i + 1, d ++ [124] ++ grp (k' == 5) (fmt (.mk k' s' l')), by go_num, by omega, HF.out.1, .inr ⟨by omega, by rw [HQ.out.1]; simp⟩, HF.out.2⟩
    · have hin : ¬ (i : Int) < (n : Int) := by omega
      have HX := hid (And.intro hwt hRi)
      clear hwt hRi hx0
      go_wp2
      go_end0
      refine ⟨rfl, ?_⟩
      have hd : l.drop i = [] := List.drop_eq_nil_of_le (by have := hln.out; omega)
      rcases HX.out.2 with ⟨rfl, rfl⟩ | ⟨_, h1⟩
      · rw [List.drop_zero] at hd
        rw [HR.out, hd, fmtU]; exact HX.out.1
      · rw [hd, fmtV, List.append_nil] at h1
        rw [h1]; exact HX.out.1
end Go.Proofs.YtednoideboeehaaDoor
end
section
set_option linter.unusedSimpArgs false
set_option linter.unusedVariables false
namespace Go.Proofs.YtednoideboeehaaDoor
open Go.RowKit Bs Rg Go.Frame Go.Shelf
attribute [local go_sem] eq_zero eq_set
attribute [local irreducible] nb cnt pc els

set_option maxRecDepth 100000 in
set_option maxHeartbeats 4000000 in
theorem writeK_of {B b : Nat} {s : BS} {x : Rx} (h0 : 0 < B) (IH : WrC B b x) (w : World) (a : Option Addr) (n c : Nat) (t : List UInt8) (h : Kd (· < B) w a n [x]) (hT : Tb w) (hb : Lib.IsBuilderF 62 5 B b (Lib.byteCells t) w) (hl : t.length + (fmtK [x]).length ≤ 9000000) (hB : B ≤ w.heap.size) :
    Calls Tryd.prog 40 #[.pointer (some ⟨b, 0, none⟩), .agg #[.int .i64 6, .int .u64 (ws s 0 : Int), .int .u64 (ws s 1 : Int), .int .u64 (ws s 2 : Int), .int .u64 (ws s 3 : Int), .slice a n c]] w fun e w' => e = .returned (.tuple #[]) ∧ Wt B b w w' (t ++ fmtK [x]) := by
  obtain rfl : n = 1 := h.len.symm
  obtain ⟨bk, off, k', s', l', a', n', c', rfl, hgB, hbk, hx, hK', q0, q1, q2, q3, q4, q5⟩ := h.get (i := 0) (by omega)
  simp only [Nat.zero_mul, Nat.add_zero] at q0 q1 q2 q3 q4 q5
  simp only [List.getElem?_cons_zero, Option.some.injEq] at hx
  subst hx
  obtain ⟨W, hW⟩ : ∃ W, W = w.alloc (.cells #[.int .i64 6, .int .u64 (ws s 0 : Int), .int .u64 (ws s 1 : Int), .int .u64 (ws s 2 : Int), .int .u64 (ws s 3 : Int), .slice (some ⟨bk, off, none⟩) 1 c] 27) := ⟨_, rfl⟩
  have bW : Below w.heap.size w W := by rw [hW]; exact bel1 _ _
  have x0 : W.heap[w.heap.size]? = some (.cells #[.int .i64 6, .int .u64 (ws s 0 : Int), .int .u64 (ws s 1 : Int), .int .u64 (ws s 2 : Int), .int .u64 (ws s 3 : Int), .slice (some ⟨bk, off, none⟩) 1 c] 27 (0, 0)) := by rw [hW]; exact alloc_new _ _
  have hWt : Wt B b w W t := (Wt.start hb).below hB bW
  have hf : fmtK [Rx.mk k' s' l'] = grp (!(k' == 3)) (fmt (.mk k' s' l')) ++ [42] := by rw [fmtK]; rfl
  rw [hf] at hl ⊢
  obtain ⟨p, hp⟩ : ∃ p : Bool, p = !(k' == 3) := ⟨_, rfl⟩
  rw [← hp] at hl ⊢
  have CK := hid (fun (V : World) (hV : Below W.heap.size W V) => show Calls Tryd.prog 62 #[.pointer (some ⟨b, 0, none⟩), .agg #[.int .i64 k', .int .u64 (ws s' 0 : Int), .int .u64 (ws s' 1 : Int), .int .u64 (ws s' 2 : Int), .int .u64 (ws s' 3 : Int), .slice a' n' c'], .bool p] V _ from
    writeKid_of h0 IH V _ t p (RC_mk.2 ⟨a', n', c', rfl, (hK'.below bW).below hV⟩) ((hT.below bW).below hV) (bld_below hWt.1 hV) (by simp only [List.length_append, List.length_cons, List.length_nil] at hl; omega) (Nat.le_trans hB (Nat.le_trans bW.size hV.size)))
  have HW := hid (And.intro hWt (And.intro x0 (And.intro bW (And.intro hl (And.intro hB (h.below bW))))))
  have l0 := heap_lt x0
  have HQ := hid (fun (V : World) (hV : Below W.heap.size W V) => show V.heap[bk]? = w.heap[bk]? from (hV.block bk (Nat.lt_of_lt_of_le hbk bW.size)).trans (bW.block bk hbk))
  clear h hK' x0 bW hWt hf hl hB hT hb IH hgB hbk
  go_enter Tryd.func40, Tryd.ntmps40
  go_wp2_with fail
  rw [← hW]
  clear hW
  obtain ⟨c0, c1, c2, c3, c4, c5⟩ := cells6 HW.out.2.1
  go_wp2_with fail
  refine (wpIn_wide (n := 0)).1 (wpIn_region_below_tail 11 free_wide (by kernel_rfl) (by kernel_rfl) (by kernel_rfl) ?_)
  intro X f _ hf hs
  have k5 := fun x => (cells6 (((hf.out x).block _ l0).trans HW.out.2.1)).2.2.2.2.2
  have m0 := fun x => (World.cell?_of_block (a := ⟨bk, off, none⟩) (HQ.out _ (hf.out x))).trans q0
  have m1 := fun x => (World.cell?_of_block (a := ⟨bk, off + 1, none⟩) (HQ.out _ (hf.out x))).trans q1
  have m2 := fun x => (World.cell?_of_block (a := ⟨bk, off + 2, none⟩) (HQ.out _ (hf.out x))).trans q2
  have m3 := fun x => (World.cell?_of_block (a := ⟨bk, off + 3, none⟩) (HQ.out _ (hf.out x))).trans q3
  have m4 := fun x => (World.cell?_of_block (a := ⟨bk, off + 4, none⟩) (HQ.out _ (hf.out x))).trans q4
  have m5 := fun x => (World.cell?_of_block (a := ⟨bk, off + 5, none⟩) (HQ.out _ (hf.out x))).trans q5
  simp only [List.take_succ_cons, List.take_zero, List.drop_succ_cons, List.drop_zero]
  repeat (go_big_quiet_step (first | fail))
  refine wpQuiet_nil ?_
  intro Y hY
  have HY := hid hY
  clear hY hf hs k5 m0 m1 m2 m3 m4 m5
  have CKY := hid (CK.out Y HY.out)
  rw [hp] at CKY
  gi_wp2
  refine ⟨trivial, rfl, callsIn_wide.2 (CKY.out.mono ?_)⟩
  rintro e w2 ⟨rfl, h2⟩
  rw [← hp] at h2
  have H2 := hid ((HW.out.1.below (Nat.le_trans HW.out.2.2.2.2.1 HW.out.2.2.1.size) HY.out).trans h2)
  clear h2
  have CB := hid (show Calls Tryd.prog 63 #[.pointer (some ⟨b, 0, none⟩), .int .u8 42] w2 _ from writeByte B b _ 42 w2 H2.out.1 (by have := HW.out.2.2.2.1; simp only [List.length_append, List.length_cons, List.length_nil] at this ⊢; omega) (Nat.le_trans HW.out.2.2.2.2.1 H2.out.2.1.size))
  clear hp
  gi_wp2
  go_wp2_with fail
  refine CB.out.mono ?_
  rintro e w3 ⟨rfl, h3⟩
  have H3 := hid (H2.out.trans h3)
  clear h3
  go_wp2
  go_end0
  exact ⟨rfl, by simpa using H3.out⟩

set_option maxRecDepth 100000 in
set_option maxHeartbeats 4000000 in
theorem write_eps {B b : Nat} {s : BS} (w : World) (v : Value) (t : List UInt8) (hb : Lib.IsBuilderF 62 5 B b (Lib.byteCells t) w) (hl : t.length ≤ 9000000) (hB : B ≤ w.heap.size) :
    Calls Tryd.prog 40 #[.pointer (some ⟨b, 0, none⟩), .agg #[.int .i64 2, .int .u64 (ws s 0 : Int), .int .u64 (ws s 1 : Int), .int .u64 (ws s 2 : Int), .int .u64 (ws s 3 : Int), v]] w fun e w' => e = .returned (.tuple #[]) ∧ Wt B b w w' (t ++ [40, 41]) := by
  obtain ⟨W, hW⟩ : ∃ W, W = w.alloc (.cells #[.int .i64 2, .int .u64 (ws s 0 : Int), .int .u64 (ws s 1 : Int), .int .u64 (ws s 2 : Int), .int .u64 (ws s 3 : Int), v] 27) := ⟨_, rfl⟩
  have bW : Below w.heap.size w W := by rw [hW]; exact bel1 _ _
  have x0 : W.heap[w.heap.size]? = some (.cells #[.int .i64 2, .int .u64 (ws s 0 : Int), .int .u64 (ws s 1 : Int), .int .u64 (ws s 2 : Int), .int .u64 (ws s 3 : Int), v] 27 (0, 0)) := by rw [hW]; exact alloc_new _ _
  obtain ⟨c0, c1, c2, c3, c4, c5⟩ := cells6 x0
  have HW := hid ((Wt.start hb).below hB bW)
  have CB := hid (writeStr B b t ⟨#[40, 41]⟩ W HW.out.1 (by omega) (by decide) (Nat.le_trans hB bW.size))
  clear hb hl hB bW x0
  go_enter Tryd.func40, Tryd.ntmps40
  go_wp2_with fail
  rw [← hW]
  clear hW
  go_wp2_with fail
  refine CB.out.mono ?_
  rintro e w3 ⟨rfl, h3⟩
  have H3 := hid (HW.out.trans h3)
  clear h3
  go_wp2
  go_end0
  exact ⟨rfl, H3.out⟩

set_option maxRecDepth 100000 in
set_option maxHeartbeats 4000000 in
theorem write_set {B b : Nat} {s : BS} (w : World) (v : Value) (t : List UInt8) (h0 : 0 < B) (hT : Tb w) (hpr : (wr s || wr (cpl s)) = true) (hb : Lib.IsBuilderF 62 5 B b (Lib.byteCells t) w) (hl : t.length ≤ 9000000) (hB : B ≤ w.heap.size) :
    Calls Tryd.prog 40 #[.pointer (some ⟨b, 0, none⟩), .agg #[.int .i64 3, .int .u64 (ws s 0 : Int), .int .u64 (ws s 1 : Int), .int .u64 (ws s 2 : Int), .int .u64 (ws s 3 : Int), v]] w fun e w' => e = .returned (.tuple #[]) ∧ Wt B b w w' (t ++ fmtS s) := by
  obtain ⟨W, hW⟩ : ∃ W, W = w.alloc (.cells #[.int .i64 3, .int .u64 (ws s 0 : Int), .int .u64 (ws s 1 : Int), .int .u64 (ws s 2 : Int), .int .u64 (ws s 3 : Int), v] 27) := ⟨_, rfl⟩
  have bW : Below w.heap.size w W := by rw [hW]; exact bel1 _ _
  have x0 : W.heap[w.heap.size]? = some (.cells #[.int .i64 3, .int .u64 (ws s 0 : Int), .int .u64 (ws s 1 : Int), .int .u64 (ws s 2 : Int), .int .u64 (ws s 3 : Int), v] 27 (0, 0)) := by rw [hW]; exact alloc_new _ _
  obtain ⟨c0, c1, c2, c3, c4, c5⟩ := cells6 x0
  have HW := hid ((Wt.start hb).below hB bW)
  have CB := hid (writeSet_any B b t s W (hT.below bW) h0 hpr HW.out.1 (by omega) (Nat.le_trans hB bW.size))
  clear hb hl hB bW x0 hT hpr
  go_enter Tryd.func40, Tryd.ntmps40
  go_wp2_with fail
  rw [← hW]
  clear hW
  go_wp2_with fail
  refine CB.out.mono ?_
  rintro e w3 ⟨rfl, h3⟩
  have H3 := hid (HW.out.trans h3)
  clear h3
  go_wp2
  go_end0
  exact ⟨rfl, H3.out⟩
theorem fmtm {k : Int} {s : BS} {l : List Rx} : fmt (.mk k s l) = if k = 2 then [40, 41] else if k = 3 then fmtS s else if k = 4 then fmtC l else if k = 5 then fmtU l else if k = 6 then fmtK l else [] := by rw [fmt]
theorem write_any {B b : Nat} (h0 : 0 < B) (r : Rx) : Vd r → prt r = true → WrC B b r := by
  induction r using Rx.ind with
  | h k s l ih =>
    intro hv hp w cs t h hT hb hl hB
    rw [prtm] at hp
    rw [fmtm] at hl ⊢
    obtain ⟨a, n, c, rfl, hK⟩ := RC_mk.1 h
    rcases shaped_kind hv.shaped with rfl | rfl | rfl | rfl | rfl | rfl
    · simp at hp
    · rw [if_pos rfl] at hl ⊢
      exact write_eps w _ t hb (by omega) hB
    · rw [if_neg (by decide), if_pos rfl] at hl ⊢ hp
      exact write_set w _ t h0 hT hp hb (by omega) hB
    · rw [if_neg (by decide), if_neg (by decide)] at hp
      rw [if_neg (by decide), if_neg (by decide), if_pos rfl] at hl ⊢
      exact writeC_of h0 (fun x hx => ih x hx (hv.kid hx) (prtL_iff.1 hp x hx)) w a n c t hK hT hb hl hB
    · rw [if_neg (by decide), if_neg (by decide)] at hp
      rw [if_neg (by decide), if_neg (by decide), if_neg (by decide), if_pos rfl] at hl ⊢
      exact writeU_of h0 (fun x hx => ih x hx (hv.kid hx) (prtL_iff.1 hp x hx)) w a n c t hK hT hb hl hB
    · rw [if_neg (by decide), if_neg (by decide)] at hp
      rw [if_neg (by decide), if_neg (by decide), if_neg (by decide), if_neg (by decide), if_pos rfl] at hl ⊢
      have h1 := shaped_star hv.shaped
      match l, h1 with
      | [x], _ => exact writeK_of h0 (ih x (by simp) (hv.kid (by simp)) (prtL_iff.1 hp x (by simp))) w a n c t hK hT hb hl hB
end Go.Proofs.YtednoideboeehaaDoor
end
section
set_option linter.unusedSimpArgs false
set_option linter.unusedVariables false
namespace Go.Proofs.YtednoideboeehaaDoor
open Go.RowKit Bs Rg Go.Frame Go.Shelf
attribute [local go_sem] eq_zero eq_set
attribute [local irreducible] nb cnt pc els

theorem RC.within {g : Nat → Prop} {W : World} (r : Rx) : ∀ {cs : List Value}, RC g W r cs → RC (· < W.heap.size) W r cs := by
  induction r using Rx.ind with
  | h k s l ih =>
    intro cs h
    rw [RC_mk] at h ⊢
    obtain ⟨a, n, c, rfl, h1, h2, h3⟩ := h
    refine ⟨a, n, c, rfl, h1, h2, h3.imp id ?_⟩
    rintro ⟨b, off, rfl, hb, hlt, hK⟩
    refine ⟨b, off, rfl, hlt, hlt, RK_of fun i x hi => ?_⟩
    obtain ⟨cs, h4, h5⟩ := RK_get hK hi
    exact ⟨cs, h4, ih x (List.mem_of_getElem? hi) h5⟩
theorem fmtS_len (s : BS) : (fmtS s).length ≤ 1010 := by
  unfold fmtS
  split
  · simp
  split
  · rename_i b _; have := wch_len spO b; omega
  split
  · have := elms_len s 200 0; simp; omega
  · have := elms_len (cpl s) 200 0; simp; omega
theorem fmt_len (r : Rx) : (fmt r).length ≤ 1020 * parts r - 3 := by
  induction r using Rx.ind with
  | h k s l ih =>
    rw [fmtm, parts]
    have hC : ∀ (m : List Rx), (∀ x ∈ m, x ∈ l) → (fmtC m).length ≤ 1020 * partsL m ∧ (fmtV m).length ≤ 1020 * partsL m := by
      intro m
      induction m with
      | nil => intro _; rw [fmtC, fmtV]; simp
      | cons x m ihm =>
        intro hm
        obtain ⟨h1, h2⟩ := ihm fun y hy => hm y (by simp [hy])
        have h3 := ih x (hm x (by simp))
        have h4 := len_grp (x.k == 4 || x.k == 5) (fmt x)
        have h5 := len_grp (x.k == 5) (fmt x)
        have h6 := parts_pos x
        rw [fmtC_c, fmtV_c, partsL, List.length_append, List.length_cons, List.length_append]
        omega
    split
    · show 2 ≤ _; omega
    split
    · have := fmtS_len s; omega
    split
    · have := (hC l fun _ h => h).1; omega
    split
    · cases l with
      | nil => rw [fmtU]; simp
      | cons x m =>
        have h1 := (hC m fun y hy => by simp [hy]).2
        have h3 := ih x (by simp)
        have h5 := len_grp (x.k == 5) (fmt x)
        have h6 := parts_pos x
        rw [fmtU_c, partsL, List.length_append]
        omega
    split
    · cases l with
      | nil => rw [fmtK]; simp
      | cons x m =>
        have h3 := ih x (by simp)
        have h5 := len_grp (!(x.k == 3)) (fmt x)
        have h6 := parts_pos x
        rw [fmtK, partsL, List.length_append, List.length_singleton]
        omega
    · simp

set_option maxRecDepth 100000 in
set_option maxHeartbeats 4000000 in
theorem Format_any (g : Nat → Prop) (r : Rx) (w : World) (cs : List Value) (hf : fits r 30 = true) (hp : prt r = true) (hl : parts r ≤ 8000) (hT : Tb w) (h : RC g w r cs) :
    Calls Tryd.prog 21 #[.agg cs.toArray] w fun e w' => e = .returned (.string ⟨(fmt r).toArray⟩) ∧ Below w.heap.size w w' := by
  have hv : Vd r := ⟨_, hf⟩
  have hlen := fmt_len r
  have CV := hid (fun V (hV : Below w.heap.size w V) => Valid_any g r V cs (h.below hV))
  have CP := hid (fun V (hV : Below w.heap.size w V) => printable_any g r V cs (h.below hV))
  rw [hf] at CV
  rw [hp] at CP
  have CW := hid (fun (B : Nat) (V : World) (hV : Below w.heap.size w V) (hB0 : V.heap.size = B) => write_any (B := B) (b := B) (by have := hT.1; have := hV.size; omega) r hv hp (V.alloc (.cells #[.pointer none, .slice none 0 0] 62)) cs [] 
    (by
      have h1 := RC.within r (h.below hV)
      rw [hB0] at h1
      exact RC.wt (B := B) h1 (by rw [← hB0]; exact bel1 _ _))
    ((hT.below hV).below (bel1 _ _)) (by rw [← hB0]; exact Lib.IsBuilderF.of (Lib.fresh_isBuilder 62 5 V)) (by simp; omega) (by rw [← hB0]; exact (bel1 V _).size))
  obtain ⟨k, s, l⟩ := r
  obtain ⟨a, n, c, rfl, hK⟩ := RC_mk.1 h
  obtain ⟨f, hf⟩ : ∃ f, f = fmt (.mk k s l) := ⟨_, rfl⟩
  rw [← hf] at CW ⊢
  have CV := hid (fun V (hV : Below w.heap.size w V) => show Calls Tryd.prog 14 #[.agg #[.int .i64 k, .int .u64 (ws s 0 : Int), .int .u64 (ws s 1 : Int), .int .u64 (ws s 2 : Int), .int .u64 (ws s 3 : Int), .slice a n c]] V _ from CV.out V hV)
  have CP := hid (fun V (hV : Below w.heap.size w V) => show Calls Tryd.prog 39 #[.agg #[.int .i64 k, .int .u64 (ws s 0 : Int), .int .u64 (ws s 1 : Int), .int .u64 (ws s 2 : Int), .int .u64 (ws s 3 : Int), .slice a n c]] V _ from CP.out V hV)
  have CW := hid (fun (V : World) (hV : Below w.heap.size w V) => show Calls Tryd.prog 40 #[.pointer (some ⟨V.heap.size, 0, none⟩), .agg #[.int .i64 k, .int .u64 (ws s 0 : Int), .int .u64 (ws s 1 : Int), .int .u64 (ws s 2 : Int), .int .u64 (ws s 3 : Int), .slice a n c]] (V.alloc (.cells #[.pointer none, .slice none 0 0] 62)) fun e w' => e = .returned (.tuple #[]) ∧ Wt V.heap.size V.heap.size (V.alloc (.cells #[.pointer none, .slice none 0 0] 62)) w' f from CW.out _ V hV rfl)
  have x0 := hid (alloc_new w (.cells #[.int .i64 k, .int .u64 (ws s 0 : Int), .int .u64 (ws s 1 : Int), .int .u64 (ws s 2 : Int), .int .u64 (ws s 3 : Int), .slice a n c] 27))
  have B0 := hid (bel1 w (.cells #[.int .i64 k, .int .u64 (ws s 0 : Int), .int .u64 (ws s 1 : Int), .int .u64 (ws s 2 : Int), .int .u64 (ws s 3 : Int), .slice a n c] 27))
  clear hf hp hl hT h hK hv hlen
  show Calls Tryd.prog 21 #[.agg #[.int .i64 k, .int .u64 (ws s 0 : Int), .int .u64 (ws s 1 : Int), .int .u64 (ws s 2 : Int), .int .u64 (ws s 3 : Int), .slice a n c]] w _
  go_enter Tryd.func21, Tryd.ntmps21
  go_wp2_with fail
  refine (CV.out _ B0.out).mono ?_
  rintro e W1 ⟨rfl, b1⟩
  have y1 := (b1.block _ (heap_lt x0.out)).trans x0.out
  have B1 := hid (B0.out.trans (b1.mono B0.out.size))
  obtain ⟨c0, c1, c2, c3, c4, c5⟩ := cells6 y1
  have Y1 := hid y1
  clear b1 y1
  go_wp2_with fail
  refine (CP.out _ B1.out).mono ?_
  rintro e W2 ⟨rfl, b2⟩
  have y2 := (b2.block _ (heap_lt Y1.out)).trans Y1.out
  have B2 := hid (B1.out.trans (b2.mono B1.out.size))
  have y3 := (((bel1 W2 (.cells #[.pointer none, .slice none 0 0] 62)).block _ (heap_lt y2)).trans y2)
  obtain ⟨c0, c1, c2, c3, c4, c5⟩ := cells6 y3
  clear b2 y2 y3
  go_wp2_with fail
  refine (CW.out W2 B2.out).mono ?_
  rintro e W3 ⟨rfl, h3⟩
  have CS := hid (Tryd.Builder_String_any_k W2.heap.size W2.heap.size f W3 h3.1 (Nat.le_trans (bel1 W2 _).size h3.2.1.size))
  have B3 := hid (((B2.out.alloc B2.out.size (.cells #[.pointer none, .slice none 0 0] 62)).trans (h3.2.1.mono B2.out.size)))
  have hs2 := hid B2.out.size
  clear h3
  go_wp2_with fail
  refine CS.out.mono ?_
  rintro e W4 ⟨rfl, _, b4, _⟩
  have B4 := hid (B3.out.trans (b4.mono hs2.out))
  clear b4
  go_wp2
  go_ret
  exact ⟨rfl, B4.out⟩
end Go.Proofs.YtednoideboeehaaDoor
end
