/-
  Contracts: translations, translate.
-/
import Derived.Test.YtogpnlkjcdedlaaDoorZ09
import Derived.Test.YtogpnlkjcdedlaaDoorZ07
section
set_option linter.unusedSimpArgs false
set_option linter.unusedVariables false
namespace Go.Proofs.YtogpnlkjcdedlaaDoor
open Go.RowKit Bs Rg Nf Go.Frame
attribute [local go_sem] eq_zero eq_set

theorem rs_nil {a : Addr} {m : Mode} {w : World} : (store a .nilFunc m).run Tryd.prog w = stored Tryd.prog w a .nilFunc m := run_store Tryd.prog w a _ m rfl
theorem rs_func {a : Addr} {m : Mode} {w : World} (fn : Fn) (first captured : Array Value) : (store a (.func fn first captured) m).run Tryd.prog w = stored Tryd.prog w a (.func fn first captured) m := run_store Tryd.prog w a _ m rfl
attribute [local go_sem] rs_nil rs_func
theorem seven {n b : Nat} {V X : World} {t : TypeId} {x0 x1 x2 x3 x4 x5 x6 y0 y1 y2 y3 y4 y5 y6 : Value} (h0 : X.heap[b]? = some (.cells #[x0, x1, x2, x3, x4, x5, x6] t (0, 0))) (b0 : Below n V X) (hn : n ≤ b) : (((((((X.setCell ⟨b, 0, none⟩ y0).setCell ⟨b, 1, none⟩ y1).setCell ⟨b, 2, none⟩ y2).setCell ⟨b, 3, none⟩ y3).setCell ⟨b, 4, none⟩ y4).setCell ⟨b, 5, none⟩ y5).setCell ⟨b, 6, none⟩ y6).heap[b]? = some (.cells #[y0, y1, y2, y3, y4, y5, y6] t (0, 0)) ∧ Below n V (((((((X.setCell ⟨b, 0, none⟩ y0).setCell ⟨b, 1, none⟩ y1).setCell ⟨b, 2, none⟩ y2).setCell ⟨b, 3, none⟩ y3).setCell ⟨b, 4, none⟩ y4).setCell ⟨b, 5, none⟩ y5).setCell ⟨b, 6, none⟩ y6) := by
  have b1 : Below n V (X.setCell ⟨b, 0, none⟩ y0) := below_put b0 hn
  have b2 : Below n V ((X.setCell ⟨b, 0, none⟩ y0).setCell ⟨b, 1, none⟩ y1) := below_put b1 hn
  have b3 : Below n V (((X.setCell ⟨b, 0, none⟩ y0).setCell ⟨b, 1, none⟩ y1).setCell ⟨b, 2, none⟩ y2) := below_put b2 hn
  have b4 : Below n V ((((X.setCell ⟨b, 0, none⟩ y0).setCell ⟨b, 1, none⟩ y1).setCell ⟨b, 2, none⟩ y2).setCell ⟨b, 3, none⟩ y3) := below_put b3 hn
  have b5 : Below n V (((((X.setCell ⟨b, 0, none⟩ y0).setCell ⟨b, 1, none⟩ y1).setCell ⟨b, 2, none⟩ y2).setCell ⟨b, 3, none⟩ y3).setCell ⟨b, 4, none⟩ y4) := below_put b4 hn
  have b6 : Below n V ((((((X.setCell ⟨b, 0, none⟩ y0).setCell ⟨b, 1, none⟩ y1).setCell ⟨b, 2, none⟩ y2).setCell ⟨b, 3, none⟩ y3).setCell ⟨b, 4, none⟩ y4).setCell ⟨b, 5, none⟩ y5) := below_put b5 hn
  have b7 : Below n V (((((((X.setCell ⟨b, 0, none⟩ y0).setCell ⟨b, 1, none⟩ y1).setCell ⟨b, 2, none⟩ y2).setCell ⟨b, 3, none⟩ y3).setCell ⟨b, 4, none⟩ y4).setCell ⟨b, 5, none⟩ y5).setCell ⟨b, 6, none⟩ y6) := below_put b6 hn
  have h1 : (X.setCell ⟨b, 0, none⟩ y0).heap[b]? = some (.cells #[y0, x1, x2, x3, x4, x5, x6] t (0, 0)) := (blk_put h0).trans rfl
  have h2 : ((X.setCell ⟨b, 0, none⟩ y0).setCell ⟨b, 1, none⟩ y1).heap[b]? = some (.cells #[y0, y1, x2, x3, x4, x5, x6] t (0, 0)) := (blk_put h1).trans rfl
  have h3 : (((X.setCell ⟨b, 0, none⟩ y0).setCell ⟨b, 1, none⟩ y1).setCell ⟨b, 2, none⟩ y2).heap[b]? = some (.cells #[y0, y1, y2, x3, x4, x5, x6] t (0, 0)) := (blk_put h2).trans rfl
  have h4 : ((((X.setCell ⟨b, 0, none⟩ y0).setCell ⟨b, 1, none⟩ y1).setCell ⟨b, 2, none⟩ y2).setCell ⟨b, 3, none⟩ y3).heap[b]? = some (.cells #[y0, y1, y2, y3, x4, x5, x6] t (0, 0)) := (blk_put h3).trans rfl
  have h5 : (((((X.setCell ⟨b, 0, none⟩ y0).setCell ⟨b, 1, none⟩ y1).setCell ⟨b, 2, none⟩ y2).setCell ⟨b, 3, none⟩ y3).setCell ⟨b, 4, none⟩ y4).heap[b]? = some (.cells #[y0, y1, y2, y3, y4, x5, x6] t (0, 0)) := (blk_put h4).trans rfl
  have h6 : ((((((X.setCell ⟨b, 0, none⟩ y0).setCell ⟨b, 1, none⟩ y1).setCell ⟨b, 2, none⟩ y2).setCell ⟨b, 3, none⟩ y3).setCell ⟨b, 4, none⟩ y4).setCell ⟨b, 5, none⟩ y5).heap[b]? = some (.cells #[y0, y1, y2, y3, y4, y5, x6] t (0, 0)) := (blk_put h5).trans rfl
  have h7 : (((((((X.setCell ⟨b, 0, none⟩ y0).setCell ⟨b, 1, none⟩ y1).setCell ⟨b, 2, none⟩ y2).setCell ⟨b, 3, none⟩ y3).setCell ⟨b, 4, none⟩ y4).setCell ⟨b, 5, none⟩ y5).setCell ⟨b, 6, none⟩ y6).heap[b]? = some (.cells #[y0, y1, y2, y3, y4, y5, y6] t (0, 0)) := (blk_put h6).trans rfl
  exact ⟨h7, b7⟩
theorem seven_cells {b : Nat} {X : World} {t : TypeId} {x0 x1 x2 x3 x4 x5 x6 : Value} (h : X.heap[b]? = some (.cells #[x0, x1, x2, x3, x4, x5, x6] t (0, 0))) : X.cell? ⟨b, 0, none⟩ = some x0 ∧ X.cell? ⟨b, 1, none⟩ = some x1 ∧ X.cell? ⟨b, 2, none⟩ = some x2 ∧ X.cell? ⟨b, 3, none⟩ = some x3 ∧ X.cell? ⟨b, 4, none⟩ = some x4 ∧ X.cell? ⟨b, 5, none⟩ = some x5 ∧ X.cell? ⟨b, 6, none⟩ = some x6 := by
  refine ⟨?_, ?_, ?_, ?_, ?_, ?_, ?_⟩ <;> simp [World.cell?, h]
set_option maxRecDepth 100000 in
set_option maxHeartbeats 4000000 in
theorem translations_any (W : World) : Calls Tryd.prog 76 #[] W fun e w' => e = .returned (.agg #[.nilFunc, .func (.func 81) #[] #[], .func (.func 82) #[] #[], .func (.func 83) #[] #[], .func (.func 84) #[] #[], .func (.func 85) #[] #[], .func (.func 86) #[] #[]]) ∧ Below W.heap.size W w' := by
  obtain ⟨X, hX⟩ : ∃ X, X = W.alloc (.cells #[.nilFunc, .nilFunc, .nilFunc, .nilFunc, .nilFunc, .nilFunc, .nilFunc] 122) := ⟨_, rfl⟩
  have h0 : X.heap[W.heap.size]? = some (.cells #[.nilFunc, .nilFunc, .nilFunc, .nilFunc, .nilFunc, .nilFunc, .nilFunc] 122 (0, 0)) := by rw [hX]; exact alloc_new _ _
  have HB := hid (seven (y0 := .nilFunc) (y1 := .func (.func 81) #[] #[]) (y2 := .func (.func 82) #[] #[]) (y3 := .func (.func 83) #[] #[]) (y4 := .func (.func 84) #[] #[]) (y5 := .func (.func 85) #[] #[]) (y6 := .func (.func 86) #[] #[]) h0 (show Below W.heap.size W X from by rw [hX]; exact bel1 _ _) (Nat.le_refl _))
  obtain ⟨c0, c1, c2, c3, c4, c5, c6⟩ := seven_cells HB.out.1
  obtain ⟨z0, z1, z2, z3, z4, z5, z6⟩ := seven_cells h0
  have f0 := Go.Frame.free h0 0
  have f1 := Go.Frame.free h0 1
  have f2 := Go.Frame.free h0 2
  have f3 := Go.Frame.free h0 3
  have f4 := Go.Frame.free h0 4
  have f5 := Go.Frame.free h0 5
  have f6 := Go.Frame.free h0 6
  clear h0
  go_enter Tryd.func76, Tryd.ntmps76
  go_upto_region 1 with fail
  rw [← hX]
  clear hX
  go_wp2
  refine bodyPost_ret (v := .agg #[.nilFunc, .func (.func 81) #[] #[], .func (.func 82) #[] #[], .func (.func 83) #[] #[], .func (.func 84) #[] #[], .func (.func 85) #[] #[], .func (.func 86) #[] #[]]) ?_ rfl ⟨rfl, HB.out.2⟩
  simp [results, Tryd.results76, go_sem, c0, c1, c2, c3, c4, c5, c6]
theorem TR.from {r : Rx} {base bb most : Nat} {S : List BS} {M : Nat → Nat → Bool} {A : List Int} {G : Nat → Prop} {W U w' : World} {e : Ending} (h : TR r base bb most S M A G U e w') (hb : Below W.heap.size W U) : TR r base bb most S M A G W e w' := by
  obtain ⟨fv, lv, rfl, G', h1, h2, h3, h4, h5⟩ := h
  have hs := hb.size
  exact ⟨fv, lv, rfl, G', h1, fun b hb' => (h2 b hb').imp_right fun h => by omega, h3.mono hs, h4.mono hs, (Kept.below hb fun b hb => .inr hb).trans (h5.mono fun b hb' => hb'.imp_right fun h => by omega)⟩
theorem TR.form {r : Rx} {base bb most : Nat} {S : List BS} {M : Nat → Nat → Bool} {A : List Int} {G : Nat → Prop} {U w' : World} {e : Ending} (h : TR r base bb most S M A G U e w') : ∃ a1 n1 c1 a2 n2 c2, e = .returned (.agg #[.bool (nul r), .slice a1 n1 c1, .slice a2 n2 c2]) := by
  obtain ⟨fv, lv, rfl, G', h1, h2, h3, h4, h5⟩ := h
  obtain ⟨a1, c1, rfl⟩ := own_form h3.1
  obtain ⟨a2, c2, rfl⟩ := own_form h4.1
  exact ⟨_, _, _, _, _, _, rfl⟩
theorem TR.kp {r : Rx} {base bb most : Nat} {S : List BS} {M : Nat → Nat → Bool} {A : List Int} {G : Nat → Prop} {U w' : World} {e : Ending} (h : TR r base bb most S M A G U e w') : Kept (fun b => G b ∨ U.heap.size ≤ b) U w' := by
  obtain ⟨fv, lv, rfl, G', h1, h2, h3, h4, h5⟩ := h
  exact h5
/-- The answer laid into the result's box. -/
theorem TR.res {r : Rx} {base bb most : Nat} {S : List BS} {M : Nat → Nat → Bool} {A : List Int} {G : Nat → Prop} {W X w' : World} {e : Ending} (h : TR r base bb most S M A G X e w') (hb : Below W.heap.size W X) (hG : ∀ b, G b → b < W.heap.size) (hs : X.heap.size = W.heap.size + 2) (x y z : Value) : TR r base bb most S M A G W e (((w'.setCell ⟨W.heap.size + 1, 0, none⟩ x).setCell ⟨W.heap.size + 1, 1, none⟩ y).setCell ⟨W.heap.size + 1, 2, none⟩ z) := by
  obtain ⟨fv, lv, rfl, G', h1, h2, h3, h4, h5⟩ := h
  have k3 : Kept (fun b => b = W.heap.size + 1) w' (((w'.setCell ⟨W.heap.size + 1, 0, none⟩ x).setCell ⟨W.heap.size + 1, 1, none⟩ y).setCell ⟨W.heap.size + 1, 2, none⟩ z) := (((Kept.refl (fun b => b = W.heap.size + 1) w').setCell (p := ⟨W.heap.size + 1, 0, none⟩) rfl x).setCell (p := ⟨W.heap.size + 1, 1, none⟩) rfl y).setCell (p := ⟨W.heap.size + 1, 2, none⟩) rfl z
  have hn : ∀ b, G' b → ¬ b = W.heap.size + 1 := fun b hb' e => by
    rcases h2 b hb' with h | h
    · have := hG b h; omega
    · omega
  have hp : ∀ {v l}, PR G' w' X.heap.size v l → PR G' (((w'.setCell ⟨W.heap.size + 1, 0, none⟩ x).setCell ⟨W.heap.size + 1, 1, none⟩ y).setCell ⟨W.heap.size + 1, 2, none⟩ z) W.heap.size v l := fun {v l} h => (h.kept k3 fun k hk e => by have := (h.1.lt k hk).1; omega).mono (by omega)
  exact ⟨fv, lv, rfl, G', h1.kept k3 hn, fun b hb' => (h2 b hb').imp_right fun h => by omega, hp h3, hp h4, ((Kept.below hb fun b hb => .inr hb).trans (h5.mono fun b hb' => hb'.imp_right fun h => by omega)).trans (k3.mono fun b hb' => .inr (by omega))⟩
set_option maxRecDepth 100000 in
set_option maxHeartbeats 4000000 in
theorem translate_1 (s : BS) (l : List Rx) (hT : TS 81 (.mk 1 s l)) : TS 64 (.mk 1 s l) := by
  intro base bb most S M A G g W cs h hrc hg hm
  obtain ⟨a, n, c, rfl, hK⟩ := RC_mk.1 hrc
  have HB := hid h
  show Calls Tryd.prog 64 #[.pointer (some ⟨bb, 0, none⟩), .agg #[.int .i64 1, .int .u64 (ws s 0 : Int), .int .u64 (ws s 1 : Int), .int .u64 (ws s 2 : Int), .int .u64 (ws s 3 : Int), .slice a n c]] W _
  obtain ⟨X, hX⟩ : ∃ X, X = (W.alloc (.cells #[.int .i64 1, .int .u64 (ws s 0 : Int), .int .u64 (ws s 1 : Int), .int .u64 (ws s 2 : Int), .int .u64 (ws s 3 : Int), .slice a n c] 50)).alloc (.cells #[.bool false, .slice none 0 0, .slice none 0 0] 108) := ⟨_, rfl⟩
  have BXX := hid (show Below W.heap.size W X ∧ X.heap.size = W.heap.size + 2 from by rw [hX]; exact ⟨(bel1 _ _).alloc (by simp) _, by simp⟩)
  have hz : X.heap[W.heap.size + 1]? = some (.cells #[.bool false, .slice none 0 0, .slice none 0 0] 108 (0, 0)) := by rw [hX]; exact (by simpa using alloc_new (W.alloc (.cells #[.int .i64 1, .int .u64 (ws s 0 : Int), .int .u64 (ws s 1 : Int), .int .u64 (ws s 2 : Int), .int .u64 (ws s 3 : Int), .slice a n c] 50)) _)
  have hx6 : X.heap[W.heap.size]? = some (.cells #[.int .i64 1, .int .u64 (ws s 0 : Int), .int .u64 (ws s 1 : Int), .int .u64 (ws s 2 : Int), .int .u64 (ws s 3 : Int), .slice a n c] 50 (0, 0)) := by rw [hX]; exact blk_alloc (alloc_new _ _)
  have CT := hid (fun U => translations_any U)
  have CF := hid (fun U (hU : Below X.heap.size X U) => show Calls Tryd.prog 81 #[.pointer (some ⟨bb, 0, none⟩), .agg #[.int .i64 1, .int .u64 (ws s 0 : Int), .int .u64 (ws s 1 : Int), .int .u64 (ws s 2 : Int), .int .u64 (ws s 3 : Int), .slice a n c]] U (TR (.mk 1 s l) base bb most S M A G U) from hT base bb most S M A G g U _ (HB.out.below (BXX.out.1.trans (hU.mono BXX.out.1.size))) (hrc.below (BXX.out.1.trans (hU.mono BXX.out.1.size))) hg hm)
  have Hlt := hid (fun b hb => (h.lt b hb).2 : ∀ b, G b → b < W.heap.size)
  clear h hrc hg hK hT hm
  go_enter Tryd.func64, Tryd.ntmps64
  go_upto_region 1 with fail
  rw [← hX]
  clear hX
  refine region_inv (fun b a' w' => ∃ (v5 v6 v7 v8 v9 v10 v11 : Value), a' = { tmps := #[.pointer (some ⟨bb, 0, none⟩), .agg #[.int .i64 1, .int .u64 (ws s 0 : Int), .int .u64 (ws s 1 : Int), .int .u64 (ws s 2 : Int), .int .u64 (ws s 3 : Int), .slice a n c], undef, .pointer (some ⟨W.heap.size, 0, none⟩), .pointer (some ⟨W.heap.size + 1, 0, none⟩), v5, v6, v7, v8, v9, v10, v11], defers := [] } ∧ w'.heap[W.heap.size]? = some (.cells #[.int .i64 1, .int .u64 (ws s 0 : Int), .int .u64 (ws s 1 : Int), .int .u64 (ws s 2 : Int), .int .u64 (ws s 3 : Int), .slice a n c] 50 (0, 0)) ∧ (b 0 = true → v5 = .agg #[.nilFunc, .func (.func 81) #[] #[], .func (.func 82) #[] #[], .func (.func 83) #[] #[], .func (.func 84) #[] #[], .func (.func 85) #[] #[], .func (.func 86) #[] #[]]) ∧ (b 1 = true → v6 = .pointer (some ⟨W.heap.size, 0, none⟩)) ∧ (b 2 = true → v7 = .int .i64 1) ∧ (b 3 = true → v8 = .func (.func 81) #[] #[]) ∧ (b 4 = true → v9 = .pointer (some ⟨bb, 0, none⟩)) ∧ (b 5 = true → v10 = .agg #[.int .i64 1, .int .u64 (ws s 0 : Int), .int .u64 (ws s 1 : Int), .int .u64 (ws s 2 : Int), .int .u64 (ws s 3 : Int), .slice a n c]) ∧ (b 6 = true → ∃ a1 n1 c1 a2 n2 c2, v11 = .agg #[.bool (nul (.mk 1 s l)), .slice a1 n1 c1, .slice a2 n2 c2]) ∧ (b 6 = false → Below X.heap.size X w') ∧ (b 6 = true ∧ b 7 = false → TR (.mk 1 s l) base bb most S M A G X (.returned v11) w') ∧ (b 7 = false → w'.heap[W.heap.size + 1]? = some (.cells #[.bool false, .slice none 0 0, .slice none 0 0] 108 (0, 0))) ∧ (b 7 = true → TR (.mk 1 s l) base bb most S M A G W (.returned v11) w' ∧ ∃ a1 n1 c1 a2 n2 c2, v11 = .agg #[.bool (nul (.mk 1 s l)), .slice a1 n1 c1, .slice a2 n2 c2] ∧ w'.heap[W.heap.size + 1]? = some (.cells #[.bool (nul (.mk 1 s l)), .slice a1 n1 c1, .slice a2 n2 c2] 108 (0, 0))) ∧ (b 2 = true → b 1 = true) ∧ (b 3 = true → b 0 = true) ∧ (b 3 = true → b 2 = true) ∧ (b 6 = true → b 3 = true) ∧ (b 6 = true → b 4 = true) ∧ (b 6 = true → b 5 = true) ∧ (b 7 = true → b 6 = true)) (by kernel_rfl) (back_of (by kernel_rfl)) ?step ?done ?init
  case step =>
    rintro b a' w' i o ho ⟨v5, v6, v7, v8, v9, v10, v11, rfl, hx, h0, h1, h2, h3, h4, h5, h6, hA, hB, hz, hC, q2_1, q3_0, q3_2, q6_3, q6_4, q6_5, q7_6⟩ hbi hd K hK
    have hlt : i < 8 := by have := (Array.getElem?_eq_some_iff.1 ho).1; simpa using this
    have dep : ∀ k, (o.after.any fun e => Region.binds .any e && e.on == k) = true → b k = true := fun k hk => by
      obtain ⟨e, he, h⟩ := Array.any_eq_true'.1 hk
      simp only [Bool.and_eq_true, beq_iff_eq] at h
      rw [← h.2]; exact hd e he h.1
    clear hd
    have hi : i = 0 ∨ i = 1 ∨ i = 2 ∨ i = 3 ∨ i = 4 ∨ i = 5 ∨ i = 6 ∨ i = 7 := by omega
    clear hlt
    rcases hi with rfl | rfl | rfl | rfl | rfl | rfl | rfl | rfl
    · simp only [List.getElem?_toArray, List.getElem?_cons_zero, List.getElem?_cons_succ, Option.some.injEq] at ho
      subst ho
      have n6 : b 6 = false := by
        cases hb : b 6
        · rfl
        · have := q3_0 (q6_3 hb); rw [hbi] at this; cases this
      have n7 : b 7 = false := by
        cases hb : b 7
        · rfl
        · have := q3_0 (q6_3 (q7_6 hb)); rw [hbi] at this; cases this
      go_simp
      refine (CT.out _).mono ?_
      rintro e w5 ⟨rfl, b5⟩
      have hz5 := hz n7
      refine hK.out _ _ ⟨_, _, _, _, _, _, _, rfl, (b5.block _ (heap_lt hx)).trans hx, fun _ => rfl, fun h => h1 (by simpa using h), fun h => h2 (by simpa using h), fun h => h3 (by simpa using h), fun h => h4 (by simpa using h), fun h => h5 (by simpa using h), fun h => h6 (by simpa using h), fun h => (hA (by simpa using h)).trans (b5.mono (hA (by simpa using h)).size), fun h => absurd h.1 (by simp [n6]), fun _ => (b5.block _ (heap_lt hz5)).trans hz5, fun h => absurd h (by simp [n7]), fun h => by simp [q2_1 (by simpa using h)], fun h => by simp [q3_0 (by simpa using h)], fun h => by simp [q3_2 (by simpa using h)], fun h => by simp [q6_3 (by simpa using h)], fun h => by simp [q6_4 (by simpa using h)], fun h => by simp [q6_5 (by simpa using h)], fun h => by simp [q7_6 (by simpa using h)]⟩
    · simp only [List.getElem?_toArray, List.getElem?_cons_zero, List.getElem?_cons_succ, Option.some.injEq] at ho
      subst ho
      go_simp
      refine hK.out _ _ ⟨_, _, _, _, _, _, _, rfl, hx, fun h => h0 (by simpa using h), fun _ => rfl, fun h => h2 (by simpa using h), fun h => h3 (by simpa using h), fun h => h4 (by simpa using h), fun h => h5 (by simpa using h), fun h => h6 (by simpa using h), fun h => hA (by simpa using h), fun h => hB (by simpa using h), fun h => hz (by simpa using h), fun h => hC (by simpa using h), fun h => by simp [q2_1 (by simpa using h)], fun h => by simp [q3_0 (by simpa using h)], fun h => by simp [q3_2 (by simpa using h)], fun h => by simp [q6_3 (by simpa using h)], fun h => by simp [q6_4 (by simpa using h)], fun h => by simp [q6_5 (by simpa using h)], fun h => by simp [q7_6 (by simpa using h)]⟩
    · simp only [List.getElem?_toArray, List.getElem?_cons_zero, List.getElem?_cons_succ, Option.some.injEq] at ho
      subst ho
      have e_1 := dep 1 (by kernel_rfl)
      obtain rfl := h1 e_1
      obtain ⟨d0, d1, d2, d3, d4, d5⟩ := cells6 hx
      go_simp
      refine hK.out _ _ ⟨_, _, _, _, _, _, _, rfl, hx, fun h => h0 (by simpa using h), fun _ => rfl, fun _ => rfl, fun h => h3 (by simpa using h), fun h => h4 (by simpa using h), fun h => h5 (by simpa using h), fun h => h6 (by simpa using h), fun h => hA (by simpa using h), fun h => hB (by simpa using h), fun h => hz (by simpa using h), fun h => hC (by simpa using h), fun _ => by simp [e_1], fun h => by simp [q3_0 (by simpa using h)], fun h => by simp [q3_2 (by simpa using h)], fun h => by simp [q6_3 (by simpa using h)], fun h => by simp [q6_4 (by simpa using h)], fun h => by simp [q6_5 (by simpa using h)], fun h => by simp [q7_6 (by simpa using h)]⟩
    · simp only [List.getElem?_toArray, List.getElem?_cons_zero, List.getElem?_cons_succ, Option.some.injEq] at ho
      subst ho
      have e_0 := dep 0 (by kernel_rfl)
      have e_2 := dep 2 (by kernel_rfl)
      have e_1 := q2_1 e_2
      obtain rfl := h0 e_0
      obtain rfl := h1 e_1
      obtain rfl := h2 e_2
      go_simp
      refine hK.out _ _ ⟨_, _, _, _, _, _, _, rfl, hx, fun _ => rfl, fun _ => rfl, fun _ => rfl, fun _ => rfl, fun h => h4 (by simpa using h), fun h => h5 (by simpa using h), fun h => h6 (by simpa using h), fun h => hA (by simpa using h), fun h => hB (by simpa using h), fun h => hz (by simpa using h), fun h => hC (by simpa using h), fun h => by simp [q2_1 (by simpa using h)], fun _ => by simp [e_0], fun _ => by simp [e_2], fun h => by simp [q6_3 (by simpa using h)], fun h => by simp [q6_4 (by simpa using h)], fun h => by simp [q6_5 (by simpa using h)], fun h => by simp [q7_6 (by simpa using h)]⟩
    · simp only [List.getElem?_toArray, List.getElem?_cons_zero, List.getElem?_cons_succ, Option.some.injEq] at ho
      subst ho
      go_simp
      refine hK.out _ _ ⟨_, _, _, _, _, _, _, rfl, hx, fun h => h0 (by simpa using h), fun h => h1 (by simpa using h), fun h => h2 (by simpa using h), fun h => h3 (by simpa using h), fun _ => rfl, fun h => h5 (by simpa using h), fun h => h6 (by simpa using h), fun h => hA (by simpa using h), fun h => hB (by simpa using h), fun h => hz (by simpa using h), fun h => hC (by simpa using h), fun h => by simp [q2_1 (by simpa using h)], fun h => by simp [q3_0 (by simpa using h)], fun h => by simp [q3_2 (by simpa using h)], fun h => by simp [q6_3 (by simpa using h)], fun h => by simp [q6_4 (by simpa using h)], fun h => by simp [q6_5 (by simpa using h)], fun h => by simp [q7_6 (by simpa using h)]⟩
    · simp only [List.getElem?_toArray, List.getElem?_cons_zero, List.getElem?_cons_succ, Option.some.injEq] at ho
      subst ho
      obtain ⟨d0, d1, d2, d3, d4, d5⟩ := cells6 hx
      go_simp
      refine hK.out _ _ ⟨_, _, _, _, _, _, _, rfl, hx, fun h => h0 (by simpa using h), fun h => h1 (by simpa using h), fun h => h2 (by simpa using h), fun h => h3 (by simpa using h), fun h => h4 (by simpa using h), fun _ => rfl, fun h => h6 (by simpa using h), fun h => hA (by simpa using h), fun h => hB (by simpa using h), fun h => hz (by simpa using h), fun h => hC (by simpa using h), fun h => by simp [q2_1 (by simpa using h)], fun h => by simp [q3_0 (by simpa using h)], fun h => by simp [q3_2 (by simpa using h)], fun h => by simp [q6_3 (by simpa using h)], fun h => by simp [q6_4 (by simpa using h)], fun h => by simp [q6_5 (by simpa using h)], fun h => by simp [q7_6 (by simpa using h)]⟩
    · simp only [List.getElem?_toArray, List.getElem?_cons_zero, List.getElem?_cons_succ, Option.some.injEq] at ho
      subst ho
      have e_3 := dep 3 (by kernel_rfl)
      have e_4 := dep 4 (by kernel_rfl)
      have e_5 := dep 5 (by kernel_rfl)
      have e_0 := q3_0 e_3
      have e_2 := q3_2 e_3
      have e_1 := q2_1 e_2
      obtain rfl := h0 e_0
      obtain rfl := h1 e_1
      obtain rfl := h2 e_2
      obtain rfl := h3 e_3
      obtain rfl := h4 e_4
      obtain rfl := h5 e_5
      have n7 : b 7 = false := by
        cases hb : b 7
        · rfl
        · have := q7_6 hb; rw [hbi] at this; cases this
      have hA9 := hA hbi
      have hz9 := hz n7
      go_simp
      refine (CF.out _ hA9).mono ?_
      intro e w5 h5
      obtain ⟨a1, n1, c1, a2, n2, c2, rfl⟩ := h5.form
      have hk5 := h5.kp
      have hs9 := hA9.size
      have hs8 := BXX.out.2
      refine hK.out _ _ ⟨_, _, _, _, _, _, _, rfl, (hk5.block _ (by rintro (e | e); have := Hlt.out _ e; omega; have := heap_lt hx; omega)).trans hx, fun _ => rfl, fun _ => rfl, fun _ => rfl, fun _ => rfl, fun _ => rfl, fun _ => rfl, fun _ => ⟨_, _, _, _, _, _, rfl⟩, fun h => absurd h (by simp), fun _ => TR.from h5 hA9, fun _ => (hk5.block _ (by rintro (e | e); have := Hlt.out _ e; omega; have := heap_lt hz9; omega)).trans hz9, fun h => absurd h (by simp [n7]), fun h => by simp [q2_1 (by simpa using h)], fun h => by simp [q3_0 (by simpa using h)], fun h => by simp [q3_2 (by simpa using h)], fun _ => by simp [e_3], fun _ => by simp [e_4], fun _ => by simp [e_5], fun h => by simp [q7_6 (by simpa using h)]⟩
    · simp only [List.getElem?_toArray, List.getElem?_cons_zero, List.getElem?_cons_succ, Option.some.injEq] at ho
      subst ho
      have e_6 := dep 6 (by kernel_rfl)
      have e_3 := q6_3 e_6
      have e_4 := q6_4 e_6
      have e_5 := q6_5 e_6
      have e_0 := q3_0 e_3
      have e_2 := q3_2 e_3
      have e_1 := q2_1 e_2
      obtain rfl := h0 e_0
      obtain rfl := h1 e_1
      obtain rfl := h2 e_2
      obtain rfl := h3 e_3
      obtain rfl := h4 e_4
      obtain rfl := h5 e_5
      obtain ⟨a1, n1, c1, a2, n2, c2, rfl⟩ := h6 e_6
      have hz9 := hz hbi
      obtain ⟨z0, z1, z2⟩ := cells3 hz9
      obtain ⟨f0, f1, f2⟩ := frozen3 hz9
      have hT9 := hB ⟨e_6, hbi⟩
      have hs8 := BXX.out.2
      go_simp
      refine hK.out _ _ ⟨_, _, _, _, _, _, _, rfl, far3 hx (by omega), fun _ => rfl, fun _ => rfl, fun _ => rfl, fun _ => rfl, fun _ => rfl, fun _ => rfl, fun _ => ⟨_, _, _, _, _, _, rfl⟩, fun h => absurd h (by simp [e_6]), fun h => absurd h.2 (by simp), fun h => absurd h (by simp), fun _ => ⟨TR.res hT9 BXX.out.1 Hlt.out BXX.out.2 _ _ _, _, _, _, _, _, _, rfl, three_set hz9⟩, fun h => by simp [q2_1 (by simpa using h)], fun h => by simp [q3_0 (by simpa using h)], fun h => by simp [q3_2 (by simpa using h)], fun h => by simp [q6_3 (by simpa using h)], fun h => by simp [q6_4 (by simpa using h)], fun h => by simp [q6_5 (by simpa using h)], fun _ => by simp [e_6]⟩
  case done =>
    rintro b a' w' ⟨v5, v6, v7, v8, v9, v10, v11, rfl, hx, h0, h1, h2, h3, h4, h5, h6, hA, hB, hz, hC, q2_1, q3_0, q3_2, q6_3, q6_4, q6_5, q7_6⟩ hall
    obtain ⟨hT, a1, n1, c1, a2, n2, c2, rfl, hz9⟩ := hC (hall 7)
    have HT := hid hT
    obtain ⟨y0, y1, y2⟩ := cells3 hz9
    clear h0 h1 h2 h3 h4 h5 h6 hA hB hC hz hx hall hT hz9
    go_wp2
    refine bodyPost_ret (v := .agg #[.bool (nul (.mk 1 s l)), .slice a1 n1 c1, .slice a2 n2 c2]) ?_ rfl HT.out
    simp [results, Tryd.results64, go_sem, y0, y1, y2]
  case init =>
    exact ⟨_, _, _, _, _, _, _, rfl, hx6, fun h => absurd h (by simp), fun h => absurd h (by simp), fun h => absurd h (by simp), fun h => absurd h (by simp), fun h => absurd h (by simp), fun h => absurd h (by simp), fun h => absurd h (by simp), fun _ => (Below.refl _ _).drew, fun h => absurd h (by simp), fun _ => hz, fun h => absurd h (by simp), fun h => absurd h (by simp), fun h => absurd h (by simp), fun h => absurd h (by simp), fun h => absurd h (by simp), fun h => absurd h (by simp), fun h => absurd h (by simp), fun h => absurd h (by simp)⟩
set_option maxRecDepth 100000 in
set_option maxHeartbeats 4000000 in
theorem translate_2 (s : BS) (l : List Rx) (hT : TS 82 (.mk 2 s l)) : TS 64 (.mk 2 s l) := by
  intro base bb most S M A G g W cs h hrc hg hm
  obtain ⟨a, n, c, rfl, hK⟩ := RC_mk.1 hrc
  have HB := hid h
  show Calls Tryd.prog 64 #[.pointer (some ⟨bb, 0, none⟩), .agg #[.int .i64 2, .int .u64 (ws s 0 : Int), .int .u64 (ws s 1 : Int), .int .u64 (ws s 2 : Int), .int .u64 (ws s 3 : Int), .slice a n c]] W _
  obtain ⟨X, hX⟩ : ∃ X, X = (W.alloc (.cells #[.int .i64 2, .int .u64 (ws s 0 : Int), .int .u64 (ws s 1 : Int), .int .u64 (ws s 2 : Int), .int .u64 (ws s 3 : Int), .slice a n c] 50)).alloc (.cells #[.bool false, .slice none 0 0, .slice none 0 0] 108) := ⟨_, rfl⟩
  have BXX := hid (show Below W.heap.size W X ∧ X.heap.size = W.heap.size + 2 from by rw [hX]; exact ⟨(bel1 _ _).alloc (by simp) _, by simp⟩)
  have hz : X.heap[W.heap.size + 1]? = some (.cells #[.bool false, .slice none 0 0, .slice none 0 0] 108 (0, 0)) := by rw [hX]; exact (by simpa using alloc_new (W.alloc (.cells #[.int .i64 2, .int .u64 (ws s 0 : Int), .int .u64 (ws s 1 : Int), .int .u64 (ws s 2 : Int), .int .u64 (ws s 3 : Int), .slice a n c] 50)) _)
  have hx6 : X.heap[W.heap.size]? = some (.cells #[.int .i64 2, .int .u64 (ws s 0 : Int), .int .u64 (ws s 1 : Int), .int .u64 (ws s 2 : Int), .int .u64 (ws s 3 : Int), .slice a n c] 50 (0, 0)) := by rw [hX]; exact blk_alloc (alloc_new _ _)
  have CT := hid (fun U => translations_any U)
  have CF := hid (fun U (hU : Below X.heap.size X U) => show Calls Tryd.prog 82 #[.pointer (some ⟨bb, 0, none⟩), .agg #[.int .i64 2, .int .u64 (ws s 0 : Int), .int .u64 (ws s 1 : Int), .int .u64 (ws s 2 : Int), .int .u64 (ws s 3 : Int), .slice a n c]] U (TR (.mk 2 s l) base bb most S M A G U) from hT base bb most S M A G g U _ (HB.out.below (BXX.out.1.trans (hU.mono BXX.out.1.size))) (hrc.below (BXX.out.1.trans (hU.mono BXX.out.1.size))) hg hm)
  have Hlt := hid (fun b hb => (h.lt b hb).2 : ∀ b, G b → b < W.heap.size)
  clear h hrc hg hK hT hm
  go_enter Tryd.func64, Tryd.ntmps64
  go_upto_region 1 with fail
  rw [← hX]
  clear hX
  refine region_inv (fun b a' w' => ∃ (v5 v6 v7 v8 v9 v10 v11 : Value), a' = { tmps := #[.pointer (some ⟨bb, 0, none⟩), .agg #[.int .i64 2, .int .u64 (ws s 0 : Int), .int .u64 (ws s 1 : Int), .int .u64 (ws s 2 : Int), .int .u64 (ws s 3 : Int), .slice a n c], undef, .pointer (some ⟨W.heap.size, 0, none⟩), .pointer (some ⟨W.heap.size + 1, 0, none⟩), v5, v6, v7, v8, v9, v10, v11], defers := [] } ∧ w'.heap[W.heap.size]? = some (.cells #[.int .i64 2, .int .u64 (ws s 0 : Int), .int .u64 (ws s 1 : Int), .int .u64 (ws s 2 : Int), .int .u64 (ws s 3 : Int), .slice a n c] 50 (0, 0)) ∧ (b 0 = true → v5 = .agg #[.nilFunc, .func (.func 81) #[] #[], .func (.func 82) #[] #[], .func (.func 83) #[] #[], .func (.func 84) #[] #[], .func (.func 85) #[] #[], .func (.func 86) #[] #[]]) ∧ (b 1 = true → v6 = .pointer (some ⟨W.heap.size, 0, none⟩)) ∧ (b 2 = true → v7 = .int .i64 2) ∧ (b 3 = true → v8 = .func (.func 82) #[] #[]) ∧ (b 4 = true → v9 = .pointer (some ⟨bb, 0, none⟩)) ∧ (b 5 = true → v10 = .agg #[.int .i64 2, .int .u64 (ws s 0 : Int), .int .u64 (ws s 1 : Int), .int .u64 (ws s 2 : Int), .int .u64 (ws s 3 : Int), .slice a n c]) ∧ (b 6 = true → ∃ a1 n1 c1 a2 n2 c2, v11 = .agg #[.bool (nul (.mk 2 s l)), .slice a1 n1 c1, .slice a2 n2 c2]) ∧ (b 6 = false → Below X.heap.size X w') ∧ (b 6 = true ∧ b 7 = false → TR (.mk 2 s l) base bb most S M A G X (.returned v11) w') ∧ (b 7 = false → w'.heap[W.heap.size + 1]? = some (.cells #[.bool false, .slice none 0 0, .slice none 0 0] 108 (0, 0))) ∧ (b 7 = true → TR (.mk 2 s l) base bb most S M A G W (.returned v11) w' ∧ ∃ a1 n1 c1 a2 n2 c2, v11 = .agg #[.bool (nul (.mk 2 s l)), .slice a1 n1 c1, .slice a2 n2 c2] ∧ w'.heap[W.heap.size + 1]? = some (.cells #[.bool (nul (.mk 2 s l)), .slice a1 n1 c1, .slice a2 n2 c2] 108 (0, 0))) ∧ (b 2 = true → b 1 = true) ∧ (b 3 = true → b 0 = true) ∧ (b 3 = true → b 2 = true) ∧ (b 6 = true → b 3 = true) ∧ (b 6 = true → b 4 = true) ∧ (b 6 = true → b 5 = true) ∧ (b 7 = true → b 6 = true)) (by kernel_rfl) (back_of (by kernel_rfl)) ?step ?done ?init
  case step =>
    rintro b a' w' i o ho ⟨v5, v6, v7, v8, v9, v10, v11, rfl, hx, h0, h1, h2, h3, h4, h5, h6, hA, hB, hz, hC, q2_1, q3_0, q3_2, q6_3, q6_4, q6_5, q7_6⟩ hbi hd K hK
    have hlt : i < 8 := by have := (Array.getElem?_eq_some_iff.1 ho).1; simpa using this
    have dep : ∀ k, (o.after.any fun e => Region.binds .any e && e.on == k) = true → b k = true := fun k hk => by
      obtain ⟨e, he, h⟩ := Array.any_eq_true'.1 hk
      simp only [Bool.and_eq_true, beq_iff_eq] at h
      rw [← h.2]; exact hd e he h.1
    clear hd
    have hi : i = 0 ∨ i = 1 ∨ i = 2 ∨ i = 3 ∨ i = 4 ∨ i = 5 ∨ i = 6 ∨ i = 7 := by omega
    clear hlt
    rcases hi with rfl | rfl | rfl | rfl | rfl | rfl | rfl | rfl
    · simp only [List.getElem?_toArray, List.getElem?_cons_zero, List.getElem?_cons_succ, Option.some.injEq] at ho
      subst ho
      have n6 : b 6 = false := by
        cases hb : b 6
        · rfl
        · have := q3_0 (q6_3 hb); rw [hbi] at this; cases this
      have n7 : b 7 = false := by
        cases hb : b 7
        · rfl
        · have := q3_0 (q6_3 (q7_6 hb)); rw [hbi] at this; cases this
      go_simp
      refine (CT.out _).mono ?_
      rintro e w5 ⟨rfl, b5⟩
      have hz5 := hz n7
      refine hK.out _ _ ⟨_, _, _, _, _, _, _, rfl, (b5.block _ (heap_lt hx)).trans hx, fun _ => rfl, fun h => h1 (by simpa using h), fun h => h2 (by simpa using h), fun h => h3 (by simpa using h), fun h => h4 (by simpa using h), fun h => h5 (by simpa using h), fun h => h6 (by simpa using h), fun h => (hA (by simpa using h)).trans (b5.mono (hA (by simpa using h)).size), fun h => absurd h.1 (by simp [n6]), fun _ => (b5.block _ (heap_lt hz5)).trans hz5, fun h => absurd h (by simp [n7]), fun h => by simp [q2_1 (by simpa using h)], fun h => by simp [q3_0 (by simpa using h)], fun h => by simp [q3_2 (by simpa using h)], fun h => by simp [q6_3 (by simpa using h)], fun h => by simp [q6_4 (by simpa using h)], fun h => by simp [q6_5 (by simpa using h)], fun h => by simp [q7_6 (by simpa using h)]⟩
    · simp only [List.getElem?_toArray, List.getElem?_cons_zero, List.getElem?_cons_succ, Option.some.injEq] at ho
      subst ho
      go_simp
      refine hK.out _ _ ⟨_, _, _, _, _, _, _, rfl, hx, fun h => h0 (by simpa using h), fun _ => rfl, fun h => h2 (by simpa using h), fun h => h3 (by simpa using h), fun h => h4 (by simpa using h), fun h => h5 (by simpa using h), fun h => h6 (by simpa using h), fun h => hA (by simpa using h), fun h => hB (by simpa using h), fun h => hz (by simpa using h), fun h => hC (by simpa using h), fun h => by simp [q2_1 (by simpa using h)], fun h => by simp [q3_0 (by simpa using h)], fun h => by simp [q3_2 (by simpa using h)], fun h => by simp [q6_3 (by simpa using h)], fun h => by simp [q6_4 (by simpa using h)], fun h => by simp [q6_5 (by simpa using h)], fun h => by simp [q7_6 (by simpa using h)]⟩
    · simp only [List.getElem?_toArray, List.getElem?_cons_zero, List.getElem?_cons_succ, Option.some.injEq] at ho
      subst ho
      have e_1 := dep 1 (by kernel_rfl)
      obtain rfl := h1 e_1
      obtain ⟨d0, d1, d2, d3, d4, d5⟩ := cells6 hx
      go_simp
      refine hK.out _ _ ⟨_, _, _, _, _, _, _, rfl, hx, fun h => h0 (by simpa using h), fun _ => rfl, fun _ => rfl, fun h => h3 (by simpa using h), fun h => h4 (by simpa using h), fun h => h5 (by simpa using h), fun h => h6 (by simpa using h), fun h => hA (by simpa using h), fun h => hB (by simpa using h), fun h => hz (by simpa using h), fun h => hC (by simpa using h), fun _ => by simp [e_1], fun h => by simp [q3_0 (by simpa using h)], fun h => by simp [q3_2 (by simpa using h)], fun h => by simp [q6_3 (by simpa using h)], fun h => by simp [q6_4 (by simpa using h)], fun h => by simp [q6_5 (by simpa using h)], fun h => by simp [q7_6 (by simpa using h)]⟩
    · simp only [List.getElem?_toArray, List.getElem?_cons_zero, List.getElem?_cons_succ, Option.some.injEq] at ho
      subst ho
      have e_0 := dep 0 (by kernel_rfl)
      have e_2 := dep 2 (by kernel_rfl)
      have e_1 := q2_1 e_2
      obtain rfl := h0 e_0
      obtain rfl := h1 e_1
      obtain rfl := h2 e_2
      go_simp
      refine hK.out _ _ ⟨_, _, _, _, _, _, _, rfl, hx, fun _ => rfl, fun _ => rfl, fun _ => rfl, fun _ => rfl, fun h => h4 (by simpa using h), fun h => h5 (by simpa using h), fun h => h6 (by simpa using h), fun h => hA (by simpa using h), fun h => hB (by simpa using h), fun h => hz (by simpa using h), fun h => hC (by simpa using h), fun h => by simp [q2_1 (by simpa using h)], fun _ => by simp [e_0], fun _ => by simp [e_2], fun h => by simp [q6_3 (by simpa using h)], fun h => by simp [q6_4 (by simpa using h)], fun h => by simp [q6_5 (by simpa using h)], fun h => by simp [q7_6 (by simpa using h)]⟩
    · simp only [List.getElem?_toArray, List.getElem?_cons_zero, List.getElem?_cons_succ, Option.some.injEq] at ho
      subst ho
      go_simp
      refine hK.out _ _ ⟨_, _, _, _, _, _, _, rfl, hx, fun h => h0 (by simpa using h), fun h => h1 (by simpa using h), fun h => h2 (by simpa using h), fun h => h3 (by simpa using h), fun _ => rfl, fun h => h5 (by simpa using h), fun h => h6 (by simpa using h), fun h => hA (by simpa using h), fun h => hB (by simpa using h), fun h => hz (by simpa using h), fun h => hC (by simpa using h), fun h => by simp [q2_1 (by simpa using h)], fun h => by simp [q3_0 (by simpa using h)], fun h => by simp [q3_2 (by simpa using h)], fun h => by simp [q6_3 (by simpa using h)], fun h => by simp [q6_4 (by simpa using h)], fun h => by simp [q6_5 (by simpa using h)], fun h => by simp [q7_6 (by simpa using h)]⟩
    · simp only [List.getElem?_toArray, List.getElem?_cons_zero, List.getElem?_cons_succ, Option.some.injEq] at ho
      subst ho
      obtain ⟨d0, d1, d2, d3, d4, d5⟩ := cells6 hx
      go_simp
      refine hK.out _ _ ⟨_, _, _, _, _, _, _, rfl, hx, fun h => h0 (by simpa using h), fun h => h1 (by simpa using h), fun h => h2 (by simpa using h), fun h => h3 (by simpa using h), fun h => h4 (by simpa using h), fun _ => rfl, fun h => h6 (by simpa using h), fun h => hA (by simpa using h), fun h => hB (by simpa using h), fun h => hz (by simpa using h), fun h => hC (by simpa using h), fun h => by simp [q2_1 (by simpa using h)], fun h => by simp [q3_0 (by simpa using h)], fun h => by simp [q3_2 (by simpa using h)], fun h => by simp [q6_3 (by simpa using h)], fun h => by simp [q6_4 (by simpa using h)], fun h => by simp [q6_5 (by simpa using h)], fun h => by simp [q7_6 (by simpa using h)]⟩
    · simp only [List.getElem?_toArray, List.getElem?_cons_zero, List.getElem?_cons_succ, Option.some.injEq] at ho
      subst ho
      have e_3 := dep 3 (by kernel_rfl)
      have e_4 := dep 4 (by kernel_rfl)
      have e_5 := dep 5 (by kernel_rfl)
      have e_0 := q3_0 e_3
      have e_2 := q3_2 e_3
      have e_1 := q2_1 e_2
      obtain rfl := h0 e_0
      obtain rfl := h1 e_1
      obtain rfl := h2 e_2
      obtain rfl := h3 e_3
      obtain rfl := h4 e_4
      obtain rfl := h5 e_5
      have n7 : b 7 = false := by
        cases hb : b 7
        · rfl
        · have := q7_6 hb; rw [hbi] at this; cases this
      have hA9 := hA hbi
      have hz9 := hz n7
      go_simp
      refine (CF.out _ hA9).mono ?_
      intro e w5 h5
      obtain ⟨a1, n1, c1, a2, n2, c2, rfl⟩ := h5.form
      have hk5 := h5.kp
      have hs9 := hA9.size
      have hs8 := BXX.out.2
      refine hK.out _ _ ⟨_, _, _, _, _, _, _, rfl, (hk5.block _ (by rintro (e | e); have := Hlt.out _ e; omega; have := heap_lt hx; omega)).trans hx, fun _ => rfl, fun _ => rfl, fun _ => rfl, fun _ => rfl, fun _ => rfl, fun _ => rfl, fun _ => ⟨_, _, _, _, _, _, rfl⟩, fun h => absurd h (by simp), fun _ => TR.from h5 hA9, fun _ => (hk5.block _ (by rintro (e | e); have := Hlt.out _ e; omega; have := heap_lt hz9; omega)).trans hz9, fun h => absurd h (by simp [n7]), fun h => by simp [q2_1 (by simpa using h)], fun h => by simp [q3_0 (by simpa using h)], fun h => by simp [q3_2 (by simpa using h)], fun _ => by simp [e_3], fun _ => by simp [e_4], fun _ => by simp [e_5], fun h => by simp [q7_6 (by simpa using h)]⟩
    · simp only [List.getElem?_toArray, List.getElem?_cons_zero, List.getElem?_cons_succ, Option.some.injEq] at ho
      subst ho
      have e_6 := dep 6 (by kernel_rfl)
      have e_3 := q6_3 e_6
      have e_4 := q6_4 e_6
      have e_5 := q6_5 e_6
      have e_0 := q3_0 e_3
      have e_2 := q3_2 e_3
      have e_1 := q2_1 e_2
      obtain rfl := h0 e_0
      obtain rfl := h1 e_1
      obtain rfl := h2 e_2
      obtain rfl := h3 e_3
      obtain rfl := h4 e_4
      obtain rfl := h5 e_5
      obtain ⟨a1, n1, c1, a2, n2, c2, rfl⟩ := h6 e_6
      have hz9 := hz hbi
      obtain ⟨z0, z1, z2⟩ := cells3 hz9
      obtain ⟨f0, f1, f2⟩ := frozen3 hz9
      have hT9 := hB ⟨e_6, hbi⟩
      have hs8 := BXX.out.2
      go_simp
      refine hK.out _ _ ⟨_, _, _, _, _, _, _, rfl, far3 hx (by omega), fun _ => rfl, fun _ => rfl, fun _ => rfl, fun _ => rfl, fun _ => rfl, fun _ => rfl, fun _ => ⟨_, _, _, _, _, _, rfl⟩, fun h => absurd h (by simp [e_6]), fun h => absurd h.2 (by simp), fun h => absurd h (by simp), fun _ => ⟨TR.res hT9 BXX.out.1 Hlt.out BXX.out.2 _ _ _, _, _, _, _, _, _, rfl, three_set hz9⟩, fun h => by simp [q2_1 (by simpa using h)], fun h => by simp [q3_0 (by simpa using h)], fun h => by simp [q3_2 (by simpa using h)], fun h => by simp [q6_3 (by simpa using h)], fun h => by simp [q6_4 (by simpa using h)], fun h => by simp [q6_5 (by simpa using h)], fun _ => by simp [e_6]⟩
  case done =>
    rintro b a' w' ⟨v5, v6, v7, v8, v9, v10, v11, rfl, hx, h0, h1, h2, h3, h4, h5, h6, hA, hB, hz, hC, q2_1, q3_0, q3_2, q6_3, q6_4, q6_5, q7_6⟩ hall
    obtain ⟨hT, a1, n1, c1, a2, n2, c2, rfl, hz9⟩ := hC (hall 7)
    have HT := hid hT
    obtain ⟨y0, y1, y2⟩ := cells3 hz9
    clear h0 h1 h2 h3 h4 h5 h6 hA hB hC hz hx hall hT hz9
    go_wp2
    refine bodyPost_ret (v := .agg #[.bool (nul (.mk 2 s l)), .slice a1 n1 c1, .slice a2 n2 c2]) ?_ rfl HT.out
    simp [results, Tryd.results64, go_sem, y0, y1, y2]
  case init =>
    exact ⟨_, _, _, _, _, _, _, rfl, hx6, fun h => absurd h (by simp), fun h => absurd h (by simp), fun h => absurd h (by simp), fun h => absurd h (by simp), fun h => absurd h (by simp), fun h => absurd h (by simp), fun h => absurd h (by simp), fun _ => (Below.refl _ _).drew, fun h => absurd h (by simp), fun _ => hz, fun h => absurd h (by simp), fun h => absurd h (by simp), fun h => absurd h (by simp), fun h => absurd h (by simp), fun h => absurd h (by simp), fun h => absurd h (by simp), fun h => absurd h (by simp), fun h => absurd h (by simp)⟩
set_option maxRecDepth 100000 in
set_option maxHeartbeats 4000000 in
theorem translate_3 (s : BS) (l : List Rx) (hT : TS 83 (.mk 3 s l)) : TS 64 (.mk 3 s l) := by
  intro base bb most S M A G g W cs h hrc hg hm
  obtain ⟨a, n, c, rfl, hK⟩ := RC_mk.1 hrc
  have HB := hid h
  show Calls Tryd.prog 64 #[.pointer (some ⟨bb, 0, none⟩), .agg #[.int .i64 3, .int .u64 (ws s 0 : Int), .int .u64 (ws s 1 : Int), .int .u64 (ws s 2 : Int), .int .u64 (ws s 3 : Int), .slice a n c]] W _
  obtain ⟨X, hX⟩ : ∃ X, X = (W.alloc (.cells #[.int .i64 3, .int .u64 (ws s 0 : Int), .int .u64 (ws s 1 : Int), .int .u64 (ws s 2 : Int), .int .u64 (ws s 3 : Int), .slice a n c] 50)).alloc (.cells #[.bool false, .slice none 0 0, .slice none 0 0] 108) := ⟨_, rfl⟩
  have BXX := hid (show Below W.heap.size W X ∧ X.heap.size = W.heap.size + 2 from by rw [hX]; exact ⟨(bel1 _ _).alloc (by simp) _, by simp⟩)
  have hz : X.heap[W.heap.size + 1]? = some (.cells #[.bool false, .slice none 0 0, .slice none 0 0] 108 (0, 0)) := by rw [hX]; exact (by simpa using alloc_new (W.alloc (.cells #[.int .i64 3, .int .u64 (ws s 0 : Int), .int .u64 (ws s 1 : Int), .int .u64 (ws s 2 : Int), .int .u64 (ws s 3 : Int), .slice a n c] 50)) _)
  have hx6 : X.heap[W.heap.size]? = some (.cells #[.int .i64 3, .int .u64 (ws s 0 : Int), .int .u64 (ws s 1 : Int), .int .u64 (ws s 2 : Int), .int .u64 (ws s 3 : Int), .slice a n c] 50 (0, 0)) := by rw [hX]; exact blk_alloc (alloc_new _ _)
  have CT := hid (fun U => translations_any U)
  have CF := hid (fun U (hU : Below X.heap.size X U) => show Calls Tryd.prog 83 #[.pointer (some ⟨bb, 0, none⟩), .agg #[.int .i64 3, .int .u64 (ws s 0 : Int), .int .u64 (ws s 1 : Int), .int .u64 (ws s 2 : Int), .int .u64 (ws s 3 : Int), .slice a n c]] U (TR (.mk 3 s l) base bb most S M A G U) from hT base bb most S M A G g U _ (HB.out.below (BXX.out.1.trans (hU.mono BXX.out.1.size))) (hrc.below (BXX.out.1.trans (hU.mono BXX.out.1.size))) hg hm)
  have Hlt := hid (fun b hb => (h.lt b hb).2 : ∀ b, G b → b < W.heap.size)
  clear h hrc hg hK hT hm
  go_enter Tryd.func64, Tryd.ntmps64
  go_upto_region 1 with fail
  rw [← hX]
  clear hX
  refine region_inv (fun b a' w' => ∃ (v5 v6 v7 v8 v9 v10 v11 : Value), a' = { tmps := #[.pointer (some ⟨bb, 0, none⟩), .agg #[.int .i64 3, .int .u64 (ws s 0 : Int), .int .u64 (ws s 1 : Int), .int .u64 (ws s 2 : Int), .int .u64 (ws s 3 : Int), .slice a n c], undef, .pointer (some ⟨W.heap.size, 0, none⟩), .pointer (some ⟨W.heap.size + 1, 0, none⟩), v5, v6, v7, v8, v9, v10, v11], defers := [] } ∧ w'.heap[W.heap.size]? = some (.cells #[.int .i64 3, .int .u64 (ws s 0 : Int), .int .u64 (ws s 1 : Int), .int .u64 (ws s 2 : Int), .int .u64 (ws s 3 : Int), .slice a n c] 50 (0, 0)) ∧ (b 0 = true → v5 = .agg #[.nilFunc, .func (.func 81) #[] #[], .func (.func 82) #[] #[], .func (.func 83) #[] #[], .func (.func 84) #[] #[], .func (.func 85) #[] #[], .func (.func 86) #[] #[]]) ∧ (b 1 = true → v6 = .pointer (some ⟨W.heap.size, 0, none⟩)) ∧ (b 2 = true → v7 = .int .i64 3) ∧ (b 3 = true → v8 = .func (.func 83) #[] #[]) ∧ (b 4 = true → v9 = .pointer (some ⟨bb, 0, none⟩)) ∧ (b 5 = true → v10 = .agg #[.int .i64 3, .int .u64 (ws s 0 : Int), .int .u64 (ws s 1 : Int), .int .u64 (ws s 2 : Int), .int .u64 (ws s 3 : Int), .slice a n c]) ∧ (b 6 = true → ∃ a1 n1 c1 a2 n2 c2, v11 = .agg #[.bool (nul (.mk 3 s l)), .slice a1 n1 c1, .slice a2 n2 c2]) ∧ (b 6 = false → Below X.heap.size X w') ∧ (b 6 = true ∧ b 7 = false → TR (.mk 3 s l) base bb most S M A G X (.returned v11) w') ∧ (b 7 = false → w'.heap[W.heap.size + 1]? = some (.cells #[.bool false, .slice none 0 0, .slice none 0 0] 108 (0, 0))) ∧ (b 7 = true → TR (.mk 3 s l) base bb most S M A G W (.returned v11) w' ∧ ∃ a1 n1 c1 a2 n2 c2, v11 = .agg #[.bool (nul (.mk 3 s l)), .slice a1 n1 c1, .slice a2 n2 c2] ∧ w'.heap[W.heap.size + 1]? = some (.cells #[.bool (nul (.mk 3 s l)), .slice a1 n1 c1, .slice a2 n2 c2] 108 (0, 0))) ∧ (b 2 = true → b 1 = true) ∧ (b 3 = true → b 0 = true) ∧ (b 3 = true → b 2 = true) ∧ (b 6 = true → b 3 = true) ∧ (b 6 = true → b 4 = true) ∧ (b 6 = true → b 5 = true) ∧ (b 7 = true → b 6 = true)) (by kernel_rfl) (back_of (by kernel_rfl)) ?step ?done ?init
  case step =>
    rintro b a' w' i o ho ⟨v5, v6, v7, v8, v9, v10, v11, rfl, hx, h0, h1, h2, h3, h4, h5, h6, hA, hB, hz, hC, q2_1, q3_0, q3_2, q6_3, q6_4, q6_5, q7_6⟩ hbi hd K hK
    have hlt : i < 8 := by have := (Array.getElem?_eq_some_iff.1 ho).1; simpa using this
    have dep : ∀ k, (o.after.any fun e => Region.binds .any e && e.on == k) = true → b k = true := fun k hk => by
      obtain ⟨e, he, h⟩ := Array.any_eq_true'.1 hk
      simp only [Bool.and_eq_true, beq_iff_eq] at h
      rw [← h.2]; exact hd e he h.1
    clear hd
    have hi : i = 0 ∨ i = 1 ∨ i = 2 ∨ i = 3 ∨ i = 4 ∨ i = 5 ∨ i = 6 ∨ i = 7 := by omega
    clear hlt
    rcases hi with rfl | rfl | rfl | rfl | rfl | rfl | rfl | rfl
    · simp only [List.getElem?_toArray, List.getElem?_cons_zero, List.getElem?_cons_succ, Option.some.injEq] at ho
      subst ho
      have n6 : b 6 = false := by
        cases hb : b 6
        · rfl
        · have := q3_0 (q6_3 hb); rw [hbi] at this; cases this
      have n7 : b 7 = false := by
        cases hb : b 7
        · rfl
        · have := q3_0 (q6_3 (q7_6 hb)); rw [hbi] at this; cases this
      go_simp
      refine (CT.out _).mono ?_
      rintro e w5 ⟨rfl, b5⟩
      have hz5 := hz n7
      refine hK.out _ _ ⟨_, _, _, _, _, _, _, rfl, (b5.block _ (heap_lt hx)).trans hx, fun _ => rfl, fun h => h1 (by simpa using h), fun h => h2 (by simpa using h), fun h => h3 (by simpa using h), fun h => h4 (by simpa using h), fun h => h5 (by simpa using h), fun h => h6 (by simpa using h), fun h => (hA (by simpa using h)).trans (b5.mono (hA (by simpa using h)).size), fun h => absurd h.1 (by simp [n6]), fun _ => (b5.block _ (heap_lt hz5)).trans hz5, fun h => absurd h (by simp [n7]), fun h => by simp [q2_1 (by simpa using h)], fun h => by simp [q3_0 (by simpa using h)], fun h => by simp [q3_2 (by simpa using h)], fun h => by simp [q6_3 (by simpa using h)], fun h => by simp [q6_4 (by simpa using h)], fun h => by simp [q6_5 (by simpa using h)], fun h => by simp [q7_6 (by simpa using h)]⟩
    · simp only [List.getElem?_toArray, List.getElem?_cons_zero, List.getElem?_cons_succ, Option.some.injEq] at ho
      subst ho
      go_simp
      refine hK.out _ _ ⟨_, _, _, _, _, _, _, rfl, hx, fun h => h0 (by simpa using h), fun _ => rfl, fun h => h2 (by simpa using h), fun h => h3 (by simpa using h), fun h => h4 (by simpa using h), fun h => h5 (by simpa using h), fun h => h6 (by simpa using h), fun h => hA (by simpa using h), fun h => hB (by simpa using h), fun h => hz (by simpa using h), fun h => hC (by simpa using h), fun h => by simp [q2_1 (by simpa using h)], fun h => by simp [q3_0 (by simpa using h)], fun h => by simp [q3_2 (by simpa using h)], fun h => by simp [q6_3 (by simpa using h)], fun h => by simp [q6_4 (by simpa using h)], fun h => by simp [q6_5 (by simpa using h)], fun h => by simp [q7_6 (by simpa using h)]⟩
    · simp only [List.getElem?_toArray, List.getElem?_cons_zero, List.getElem?_cons_succ, Option.some.injEq] at ho
      subst ho
      have e_1 := dep 1 (by kernel_rfl)
      obtain rfl := h1 e_1
      obtain ⟨d0, d1, d2, d3, d4, d5⟩ := cells6 hx
      go_simp
      refine hK.out _ _ ⟨_, _, _, _, _, _, _, rfl, hx, fun h => h0 (by simpa using h), fun _ => rfl, fun _ => rfl, fun h => h3 (by simpa using h), fun h => h4 (by simpa using h), fun h => h5 (by simpa using h), fun h => h6 (by simpa using h), fun h => hA (by simpa using h), fun h => hB (by simpa using h), fun h => hz (by simpa using h), fun h => hC (by simpa using h), fun _ => by simp [e_1], fun h => by simp [q3_0 (by simpa using h)], fun h => by simp [q3_2 (by simpa using h)], fun h => by simp [q6_3 (by simpa using h)], fun h => by simp [q6_4 (by simpa using h)], fun h => by simp [q6_5 (by simpa using h)], fun h => by simp [q7_6 (by simpa using h)]⟩
    · simp only [List.getElem?_toArray, List.getElem?_cons_zero, List.getElem?_cons_succ, Option.some.injEq] at ho
      subst ho
      have e_0 := dep 0 (by kernel_rfl)
      have e_2 := dep 2 (by kernel_rfl)
      have e_1 := q2_1 e_2
      obtain rfl := h0 e_0
      obtain rfl := h1 e_1
      obtain rfl := h2 e_2
      go_simp
      refine hK.out _ _ ⟨_, _, _, _, _, _, _, rfl, hx, fun _ => rfl, fun _ => rfl, fun _ => rfl, fun _ => rfl, fun h => h4 (by simpa using h), fun h => h5 (by simpa using h), fun h => h6 (by simpa using h), fun h => hA (by simpa using h), fun h => hB (by simpa using h), fun h => hz (by simpa using h), fun h => hC (by simpa using h), fun h => by simp [q2_1 (by simpa using h)], fun _ => by simp [e_0], fun _ => by simp [e_2], fun h => by simp [q6_3 (by simpa using h)], fun h => by simp [q6_4 (by simpa using h)], fun h => by simp [q6_5 (by simpa using h)], fun h => by simp [q7_6 (by simpa using h)]⟩
    · simp only [List.getElem?_toArray, List.getElem?_cons_zero, List.getElem?_cons_succ, Option.some.injEq] at ho
      subst ho
      go_simp
      refine hK.out _ _ ⟨_, _, _, _, _, _, _, rfl, hx, fun h => h0 (by simpa using h), fun h => h1 (by simpa using h), fun h => h2 (by simpa using h), fun h => h3 (by simpa using h), fun _ => rfl, fun h => h5 (by simpa using h), fun h => h6 (by simpa using h), fun h => hA (by simpa using h), fun h => hB (by simpa using h), fun h => hz (by simpa using h), fun h => hC (by simpa using h), fun h => by simp [q2_1 (by simpa using h)], fun h => by simp [q3_0 (by simpa using h)], fun h => by simp [q3_2 (by simpa using h)], fun h => by simp [q6_3 (by simpa using h)], fun h => by simp [q6_4 (by simpa using h)], fun h => by simp [q6_5 (by simpa using h)], fun h => by simp [q7_6 (by simpa using h)]⟩
    · simp only [List.getElem?_toArray, List.getElem?_cons_zero, List.getElem?_cons_succ, Option.some.injEq] at ho
      subst ho
      obtain ⟨d0, d1, d2, d3, d4, d5⟩ := cells6 hx
      go_simp
      refine hK.out _ _ ⟨_, _, _, _, _, _, _, rfl, hx, fun h => h0 (by simpa using h), fun h => h1 (by simpa using h), fun h => h2 (by simpa using h), fun h => h3 (by simpa using h), fun h => h4 (by simpa using h), fun _ => rfl, fun h => h6 (by simpa using h), fun h => hA (by simpa using h), fun h => hB (by simpa using h), fun h => hz (by simpa using h), fun h => hC (by simpa using h), fun h => by simp [q2_1 (by simpa using h)], fun h => by simp [q3_0 (by simpa using h)], fun h => by simp [q3_2 (by simpa using h)], fun h => by simp [q6_3 (by simpa using h)], fun h => by simp [q6_4 (by simpa using h)], fun h => by simp [q6_5 (by simpa using h)], fun h => by simp [q7_6 (by simpa using h)]⟩
    · simp only [List.getElem?_toArray, List.getElem?_cons_zero, List.getElem?_cons_succ, Option.some.injEq] at ho
      subst ho
      have e_3 := dep 3 (by kernel_rfl)
      have e_4 := dep 4 (by kernel_rfl)
      have e_5 := dep 5 (by kernel_rfl)
      have e_0 := q3_0 e_3
      have e_2 := q3_2 e_3
      have e_1 := q2_1 e_2
      obtain rfl := h0 e_0
      obtain rfl := h1 e_1
      obtain rfl := h2 e_2
      obtain rfl := h3 e_3
      obtain rfl := h4 e_4
      obtain rfl := h5 e_5
      have n7 : b 7 = false := by
        cases hb : b 7
        · rfl
        · have := q7_6 hb; rw [hbi] at this; cases this
      have hA9 := hA hbi
      have hz9 := hz n7
      go_simp
      refine (CF.out _ hA9).mono ?_
      intro e w5 h5
      obtain ⟨a1, n1, c1, a2, n2, c2, rfl⟩ := h5.form
      have hk5 := h5.kp
      have hs9 := hA9.size
      have hs8 := BXX.out.2
      refine hK.out _ _ ⟨_, _, _, _, _, _, _, rfl, (hk5.block _ (by rintro (e | e); have := Hlt.out _ e; omega; have := heap_lt hx; omega)).trans hx, fun _ => rfl, fun _ => rfl, fun _ => rfl, fun _ => rfl, fun _ => rfl, fun _ => rfl, fun _ => ⟨_, _, _, _, _, _, rfl⟩, fun h => absurd h (by simp), fun _ => TR.from h5 hA9, fun _ => (hk5.block _ (by rintro (e | e); have := Hlt.out _ e; omega; have := heap_lt hz9; omega)).trans hz9, fun h => absurd h (by simp [n7]), fun h => by simp [q2_1 (by simpa using h)], fun h => by simp [q3_0 (by simpa using h)], fun h => by simp [q3_2 (by simpa using h)], fun _ => by simp [e_3], fun _ => by simp [e_4], fun _ => by simp [e_5], fun h => by simp [q7_6 (by simpa using h)]⟩
    · simp only [List.getElem?_toArray, List.getElem?_cons_zero, List.getElem?_cons_succ, Option.some.injEq] at ho
      subst ho
      have e_6 := dep 6 (by kernel_rfl)
      have e_3 := q6_3 e_6
      have e_4 := q6_4 e_6
      have e_5 := q6_5 e_6
      have e_0 := q3_0 e_3
      have e_2 := q3_2 e_3
      have e_1 := q2_1 e_2
      obtain rfl := h0 e_0
      obtain rfl := h1 e_1
      obtain rfl := h2 e_2
      obtain rfl := h3 e_3
      obtain rfl := h4 e_4
      obtain rfl := h5 e_5
      obtain ⟨a1, n1, c1, a2, n2, c2, rfl⟩ := h6 e_6
      have hz9 := hz hbi
      obtain ⟨z0, z1, z2⟩ := cells3 hz9
      obtain ⟨f0, f1, f2⟩ := frozen3 hz9
      have hT9 := hB ⟨e_6, hbi⟩
      have hs8 := BXX.out.2
      go_simp
      refine hK.out _ _ ⟨_, _, _, _, _, _, _, rfl, far3 hx (by omega), fun _ => rfl, fun _ => rfl, fun _ => rfl, fun _ => rfl, fun _ => rfl, fun _ => rfl, fun _ => ⟨_, _, _, _, _, _, rfl⟩, fun h => absurd h (by simp [e_6]), fun h => absurd h.2 (by simp), fun h => absurd h (by simp), fun _ => ⟨TR.res hT9 BXX.out.1 Hlt.out BXX.out.2 _ _ _, _, _, _, _, _, _, rfl, three_set hz9⟩, fun h => by simp [q2_1 (by simpa using h)], fun h => by simp [q3_0 (by simpa using h)], fun h => by simp [q3_2 (by simpa using h)], fun h => by simp [q6_3 (by simpa using h)], fun h => by simp [q6_4 (by simpa using h)], fun h => by simp [q6_5 (by simpa using h)], fun _ => by simp [e_6]⟩
  case done =>
    rintro b a' w' ⟨v5, v6, v7, v8, v9, v10, v11, rfl, hx, h0, h1, h2, h3, h4, h5, h6, hA, hB, hz, hC, q2_1, q3_0, q3_2, q6_3, q6_4, q6_5, q7_6⟩ hall
    obtain ⟨hT, a1, n1, c1, a2, n2, c2, rfl, hz9⟩ := hC (hall 7)
    have HT := hid hT
    obtain ⟨y0, y1, y2⟩ := cells3 hz9
    clear h0 h1 h2 h3 h4 h5 h6 hA hB hC hz hx hall hT hz9
    go_wp2
    refine bodyPost_ret (v := .agg #[.bool (nul (.mk 3 s l)), .slice a1 n1 c1, .slice a2 n2 c2]) ?_ rfl HT.out
    simp [results, Tryd.results64, go_sem, y0, y1, y2]
  case init =>
    exact ⟨_, _, _, _, _, _, _, rfl, hx6, fun h => absurd h (by simp), fun h => absurd h (by simp), fun h => absurd h (by simp), fun h => absurd h (by simp), fun h => absurd h (by simp), fun h => absurd h (by simp), fun h => absurd h (by simp), fun _ => (Below.refl _ _).drew, fun h => absurd h (by simp), fun _ => hz, fun h => absurd h (by simp), fun h => absurd h (by simp), fun h => absurd h (by simp), fun h => absurd h (by simp), fun h => absurd h (by simp), fun h => absurd h (by simp), fun h => absurd h (by simp), fun h => absurd h (by simp)⟩
set_option maxRecDepth 100000 in
set_option maxHeartbeats 4000000 in
theorem translate_4 (s : BS) (l : List Rx) (hT : TS 84 (.mk 4 s l)) : TS 64 (.mk 4 s l) := by
  intro base bb most S M A G g W cs h hrc hg hm
  obtain ⟨a, n, c, rfl, hK⟩ := RC_mk.1 hrc
  have HB := hid h
  show Calls Tryd.prog 64 #[.pointer (some ⟨bb, 0, none⟩), .agg #[.int .i64 4, .int .u64 (ws s 0 : Int), .int .u64 (ws s 1 : Int), .int .u64 (ws s 2 : Int), .int .u64 (ws s 3 : Int), .slice a n c]] W _
  obtain ⟨X, hX⟩ : ∃ X, X = (W.alloc (.cells #[.int .i64 4, .int .u64 (ws s 0 : Int), .int .u64 (ws s 1 : Int), .int .u64 (ws s 2 : Int), .int .u64 (ws s 3 : Int), .slice a n c] 50)).alloc (.cells #[.bool false, .slice none 0 0, .slice none 0 0] 108) := ⟨_, rfl⟩
  have BXX := hid (show Below W.heap.size W X ∧ X.heap.size = W.heap.size + 2 from by rw [hX]; exact ⟨(bel1 _ _).alloc (by simp) _, by simp⟩)
  have hz : X.heap[W.heap.size + 1]? = some (.cells #[.bool false, .slice none 0 0, .slice none 0 0] 108 (0, 0)) := by rw [hX]; exact (by simpa using alloc_new (W.alloc (.cells #[.int .i64 4, .int .u64 (ws s 0 : Int), .int .u64 (ws s 1 : Int), .int .u64 (ws s 2 : Int), .int .u64 (ws s 3 : Int), .slice a n c] 50)) _)
  have hx6 : X.heap[W.heap.size]? = some (.cells #[.int .i64 4, .int .u64 (ws s 0 : Int), .int .u64 (ws s 1 : Int), .int .u64 (ws s 2 : Int), .int .u64 (ws s 3 : Int), .slice a n c] 50 (0, 0)) := by rw [hX]; exact blk_alloc (alloc_new _ _)
  have CT := hid (fun U => translations_any U)
  have CF := hid (fun U (hU : Below X.heap.size X U) => show Calls Tryd.prog 84 #[.pointer (some ⟨bb, 0, none⟩), .agg #[.int .i64 4, .int .u64 (ws s 0 : Int), .int .u64 (ws s 1 : Int), .int .u64 (ws s 2 : Int), .int .u64 (ws s 3 : Int), .slice a n c]] U (TR (.mk 4 s l) base bb most S M A G U) from hT base bb most S M A G g U _ (HB.out.below (BXX.out.1.trans (hU.mono BXX.out.1.size))) (hrc.below (BXX.out.1.trans (hU.mono BXX.out.1.size))) hg hm)
  have Hlt := hid (fun b hb => (h.lt b hb).2 : ∀ b, G b → b < W.heap.size)
  clear h hrc hg hK hT hm
  go_enter Tryd.func64, Tryd.ntmps64
  go_upto_region 1 with fail
  rw [← hX]
  clear hX
  refine region_inv (fun b a' w' => ∃ (v5 v6 v7 v8 v9 v10 v11 : Value), a' = { tmps := #[.pointer (some ⟨bb, 0, none⟩), .agg #[.int .i64 4, .int .u64 (ws s 0 : Int), .int .u64 (ws s 1 : Int), .int .u64 (ws s 2 : Int), .int .u64 (ws s 3 : Int), .slice a n c], undef, .pointer (some ⟨W.heap.size, 0, none⟩), .pointer (some ⟨W.heap.size + 1, 0, none⟩), v5, v6, v7, v8, v9, v10, v11], defers := [] } ∧ w'.heap[W.heap.size]? = some (.cells #[.int .i64 4, .int .u64 (ws s 0 : Int), .int .u64 (ws s 1 : Int), .int .u64 (ws s 2 : Int), .int .u64 (ws s 3 : Int), .slice a n c] 50 (0, 0)) ∧ (b 0 = true → v5 = .agg #[.nilFunc, .func (.func 81) #[] #[], .func (.func 82) #[] #[], .func (.func 83) #[] #[], .func (.func 84) #[] #[], .func (.func 85) #[] #[], .func (.func 86) #[] #[]]) ∧ (b 1 = true → v6 = .pointer (some ⟨W.heap.size, 0, none⟩)) ∧ (b 2 = true → v7 = .int .i64 4) ∧ (b 3 = true → v8 = .func (.func 84) #[] #[]) ∧ (b 4 = true → v9 = .pointer (some ⟨bb, 0, none⟩)) ∧ (b 5 = true → v10 = .agg #[.int .i64 4, .int .u64 (ws s 0 : Int), .int .u64 (ws s 1 : Int), .int .u64 (ws s 2 : Int), .int .u64 (ws s 3 : Int), .slice a n c]) ∧ (b 6 = true → ∃ a1 n1 c1 a2 n2 c2, v11 = .agg #[.bool (nul (.mk 4 s l)), .slice a1 n1 c1, .slice a2 n2 c2]) ∧ (b 6 = false → Below X.heap.size X w') ∧ (b 6 = true ∧ b 7 = false → TR (.mk 4 s l) base bb most S M A G X (.returned v11) w') ∧ (b 7 = false → w'.heap[W.heap.size + 1]? = some (.cells #[.bool false, .slice none 0 0, .slice none 0 0] 108 (0, 0))) ∧ (b 7 = true → TR (.mk 4 s l) base bb most S M A G W (.returned v11) w' ∧ ∃ a1 n1 c1 a2 n2 c2, v11 = .agg #[.bool (nul (.mk 4 s l)), .slice a1 n1 c1, .slice a2 n2 c2] ∧ w'.heap[W.heap.size + 1]? = some (.cells #[.bool (nul (.mk 4 s l)), .slice a1 n1 c1, .slice a2 n2 c2] 108 (0, 0))) ∧ (b 2 = true → b 1 = true) ∧ (b 3 = true → b 0 = true) ∧ (b 3 = true → b 2 = true) ∧ (b 6 = true → b 3 = true) ∧ (b 6 = true → b 4 = true) ∧ (b 6 = true → b 5 = true) ∧ (b 7 = true → b 6 = true)) (by kernel_rfl) (back_of (by kernel_rfl)) ?step ?done ?init
  case step =>
    rintro b a' w' i o ho ⟨v5, v6, v7, v8, v9, v10, v11, rfl, hx, h0, h1, h2, h3, h4, h5, h6, hA, hB, hz, hC, q2_1, q3_0, q3_2, q6_3, q6_4, q6_5, q7_6⟩ hbi hd K hK
    have hlt : i < 8 := by have := (Array.getElem?_eq_some_iff.1 ho).1; simpa using this
    have dep : ∀ k, (o.after.any fun e => Region.binds .any e && e.on == k) = true → b k = true := fun k hk => by
      obtain ⟨e, he, h⟩ := Array.any_eq_true'.1 hk
      simp only [Bool.and_eq_true, beq_iff_eq] at h
      rw [← h.2]; exact hd e he h.1
    clear hd
    have hi : i = 0 ∨ i = 1 ∨ i = 2 ∨ i = 3 ∨ i = 4 ∨ i = 5 ∨ i = 6 ∨ i = 7 := by omega
    clear hlt
    rcases hi with rfl | rfl | rfl | rfl | rfl | rfl | rfl | rfl
    · simp only [List.getElem?_toArray, List.getElem?_cons_zero, List.getElem?_cons_succ, Option.some.injEq] at ho
      subst ho
      have n6 : b 6 = false := by
        cases hb : b 6
        · rfl
        · have := q3_0 (q6_3 hb); rw [hbi] at this; cases this
      have n7 : b 7 = false := by
        cases hb : b 7
        · rfl
        · have := q3_0 (q6_3 (q7_6 hb)); rw [hbi] at this; cases this
      go_simp
      refine (CT.out _).mono ?_
      rintro e w5 ⟨rfl, b5⟩
      have hz5 := hz n7
      refine hK.out _ _ ⟨_, _, _, _, _, _, _, rfl, (b5.block _ (heap_lt hx)).trans hx, fun _ => rfl, fun h => h1 (by simpa using h), fun h => h2 (by simpa using h), fun h => h3 (by simpa using h), fun h => h4 (by simpa using h), fun h => h5 (by simpa using h), fun h => h6 (by simpa using h), fun h => (hA (by simpa using h)).trans (b5.mono (hA (by simpa using h)).size), fun h => absurd h.1 (by simp [n6]), fun _ => (b5.block _ (heap_lt hz5)).trans hz5, fun h => absurd h (by simp [n7]), fun h => by simp [q2_1 (by simpa using h)], fun h => by simp [q3_0 (by simpa using h)], fun h => by simp [q3_2 (by simpa using h)], fun h => by simp [q6_3 (by simpa using h)], fun h => by simp [q6_4 (by simpa using h)], fun h => by simp [q6_5 (by simpa using h)], fun h => by simp [q7_6 (by simpa using h)]⟩
    · simp only [List.getElem?_toArray, List.getElem?_cons_zero, List.getElem?_cons_succ, Option.some.injEq] at ho
      subst ho
      go_simp
      refine hK.out _ _ ⟨_, _, _, _, _, _, _, rfl, hx, fun h => h0 (by simpa using h), fun _ => rfl, fun h => h2 (by simpa using h), fun h => h3 (by simpa using h), fun h => h4 (by simpa using h), fun h => h5 (by simpa using h), fun h => h6 (by simpa using h), fun h => hA (by simpa using h), fun h => hB (by simpa using h), fun h => hz (by simpa using h), fun h => hC (by simpa using h), fun h => by simp [q2_1 (by simpa using h)], fun h => by simp [q3_0 (by simpa using h)], fun h => by simp [q3_2 (by simpa using h)], fun h => by simp [q6_3 (by simpa using h)], fun h => by simp [q6_4 (by simpa using h)], fun h => by simp [q6_5 (by simpa using h)], fun h => by simp [q7_6 (by simpa using h)]⟩
    · simp only [List.getElem?_toArray, List.getElem?_cons_zero, List.getElem?_cons_succ, Option.some.injEq] at ho
      subst ho
      have e_1 := dep 1 (by kernel_rfl)
      obtain rfl := h1 e_1
      obtain ⟨d0, d1, d2, d3, d4, d5⟩ := cells6 hx
      go_simp
      refine hK.out _ _ ⟨_, _, _, _, _, _, _, rfl, hx, fun h => h0 (by simpa using h), fun _ => rfl, fun _ => rfl, fun h => h3 (by simpa using h), fun h => h4 (by simpa using h), fun h => h5 (by simpa using h), fun h => h6 (by simpa using h), fun h => hA (by simpa using h), fun h => hB (by simpa using h), fun h => hz (by simpa using h), fun h => hC (by simpa using h), fun _ => by simp [e_1], fun h => by simp [q3_0 (by simpa using h)], fun h => by simp [q3_2 (by simpa using h)], fun h => by simp [q6_3 (by simpa using h)], fun h => by simp [q6_4 (by simpa using h)], fun h => by simp [q6_5 (by simpa using h)], fun h => by simp [q7_6 (by simpa using h)]⟩
    · simp only [List.getElem?_toArray, List.getElem?_cons_zero, List.getElem?_cons_succ, Option.some.injEq] at ho
      subst ho
      have e_0 := dep 0 (by kernel_rfl)
      have e_2 := dep 2 (by kernel_rfl)
      have e_1 := q2_1 e_2
      obtain rfl := h0 e_0
      obtain rfl := h1 e_1
      obtain rfl := h2 e_2
      go_simp
      refine hK.out _ _ ⟨_, _, _, _, _, _, _, rfl, hx, fun _ => rfl, fun _ => rfl, fun _ => rfl, fun _ => rfl, fun h => h4 (by simpa using h), fun h => h5 (by simpa using h), fun h => h6 (by simpa using h), fun h => hA (by simpa using h), fun h => hB (by simpa using h), fun h => hz (by simpa using h), fun h => hC (by simpa using h), fun h => by simp [q2_1 (by simpa using h)], fun _ => by simp [e_0], fun _ => by simp [e_2], fun h => by simp [q6_3 (by simpa using h)], fun h => by simp [q6_4 (by simpa using h)], fun h => by simp [q6_5 (by simpa using h)], fun h => by simp [q7_6 (by simpa using h)]⟩
    · simp only [List.getElem?_toArray, List.getElem?_cons_zero, List.getElem?_cons_succ, Option.some.injEq] at ho
      subst ho
      go_simp
      refine hK.out _ _ ⟨_, _, _, _, _, _, _, rfl, hx, fun h => h0 (by simpa using h), fun h => h1 (by simpa using h), fun h => h2 (by simpa using h), fun h => h3 (by simpa using h), fun _ => rfl, fun h => h5 (by simpa using h), fun h => h6 (by simpa using h), fun h => hA (by simpa using h), fun h => hB (by simpa using h), fun h => hz (by simpa using h), fun h => hC (by simpa using h), fun h => by simp [q2_1 (by simpa using h)], fun h => by simp [q3_0 (by simpa using h)], fun h => by simp [q3_2 (by simpa using h)], fun h => by simp [q6_3 (by simpa using h)], fun h => by simp [q6_4 (by simpa using h)], fun h => by simp [q6_5 (by simpa using h)], fun h => by simp [q7_6 (by simpa using h)]⟩
    · simp only [List.getElem?_toArray, List.getElem?_cons_zero, List.getElem?_cons_succ, Option.some.injEq] at ho
      subst ho
      obtain ⟨d0, d1, d2, d3, d4, d5⟩ := cells6 hx
      go_simp
      refine hK.out _ _ ⟨_, _, _, _, _, _, _, rfl, hx, fun h => h0 (by simpa using h), fun h => h1 (by simpa using h), fun h => h2 (by simpa using h), fun h => h3 (by simpa using h), fun h => h4 (by simpa using h), fun _ => rfl, fun h => h6 (by simpa using h), fun h => hA (by simpa using h), fun h => hB (by simpa using h), fun h => hz (by simpa using h), fun h => hC (by simpa using h), fun h => by simp [q2_1 (by simpa using h)], fun h => by simp [q3_0 (by simpa using h)], fun h => by simp [q3_2 (by simpa using h)], fun h => by simp [q6_3 (by simpa using h)], fun h => by simp [q6_4 (by simpa using h)], fun h => by simp [q6_5 (by simpa using h)], fun h => by simp [q7_6 (by simpa using h)]⟩
    · simp only [List.getElem?_toArray, List.getElem?_cons_zero, List.getElem?_cons_succ, Option.some.injEq] at ho
      subst ho
      have e_3 := dep 3 (by kernel_rfl)
      have e_4 := dep 4 (by kernel_rfl)
      have e_5 := dep 5 (by kernel_rfl)
      have e_0 := q3_0 e_3
      have e_2 := q3_2 e_3
      have e_1 := q2_1 e_2
      obtain rfl := h0 e_0
      obtain rfl := h1 e_1
      obtain rfl := h2 e_2
      obtain rfl := h3 e_3
      obtain rfl := h4 e_4
      obtain rfl := h5 e_5
      have n7 : b 7 = false := by
        cases hb : b 7
        · rfl
        · have := q7_6 hb; rw [hbi] at this; cases this
      have hA9 := hA hbi
      have hz9 := hz n7
      go_simp
      refine (CF.out _ hA9).mono ?_
      intro e w5 h5
      obtain ⟨a1, n1, c1, a2, n2, c2, rfl⟩ := h5.form
      have hk5 := h5.kp
      have hs9 := hA9.size
      have hs8 := BXX.out.2
      refine hK.out _ _ ⟨_, _, _, _, _, _, _, rfl, (hk5.block _ (by rintro (e | e); have := Hlt.out _ e; omega; have := heap_lt hx; omega)).trans hx, fun _ => rfl, fun _ => rfl, fun _ => rfl, fun _ => rfl, fun _ => rfl, fun _ => rfl, fun _ => ⟨_, _, _, _, _, _, rfl⟩, fun h => absurd h (by simp), fun _ => TR.from h5 hA9, fun _ => (hk5.block _ (by rintro (e | e); have := Hlt.out _ e; omega; have := heap_lt hz9; omega)).trans hz9, fun h => absurd h (by simp [n7]), fun h => by simp [q2_1 (by simpa using h)], fun h => by simp [q3_0 (by simpa using h)], fun h => by simp [q3_2 (by simpa using h)], fun _ => by simp [e_3], fun _ => by simp [e_4], fun _ => by simp [e_5], fun h => by simp [q7_6 (by simpa using h)]⟩
    · simp only [List.getElem?_toArray, List.getElem?_cons_zero, List.getElem?_cons_succ, Option.some.injEq] at ho
      subst ho
      have e_6 := dep 6 (by kernel_rfl)
      have e_3 := q6_3 e_6
      have e_4 := q6_4 e_6
      have e_5 := q6_5 e_6
      have e_0 := q3_0 e_3
      have e_2 := q3_2 e_3
      have e_1 := q2_1 e_2
      obtain rfl := h0 e_0
      obtain rfl := h1 e_1
      obtain rfl := h2 e_2
      obtain rfl := h3 e_3
      obtain rfl := h4 e_4
      obtain rfl := h5 e_5
      obtain ⟨a1, n1, c1, a2, n2, c2, rfl⟩ := h6 e_6
      have hz9 := hz hbi
      obtain ⟨z0, z1, z2⟩ := cells3 hz9
      obtain ⟨f0, f1, f2⟩ := frozen3 hz9
      have hT9 := hB ⟨e_6, hbi⟩
      have hs8 := BXX.out.2
      go_simp
      refine hK.out _ _ ⟨_, _, _, _, _, _, _, rfl, far3 hx (by omega), fun _ => rfl, fun _ => rfl, fun _ => rfl, fun _ => rfl, fun _ => rfl, fun _ => rfl, fun _ => ⟨_, _, _, _, _, _, rfl⟩, fun h => absurd h (by simp [e_6]), fun h => absurd h.2 (by simp), fun h => absurd h (by simp), fun _ => ⟨TR.res hT9 BXX.out.1 Hlt.out BXX.out.2 _ _ _, _, _, _, _, _, _, rfl, three_set hz9⟩, fun h => by simp [q2_1 (by simpa using h)], fun h => by simp [q3_0 (by simpa using h)], fun h => by simp [q3_2 (by simpa using h)], fun h => by simp [q6_3 (by simpa using h)], fun h => by simp [q6_4 (by simpa using h)], fun h => by simp [q6_5 (by simpa using h)], fun _ => by simp [e_6]⟩
  case done =>
    rintro b a' w' ⟨v5, v6, v7, v8, v9, v10, v11, rfl, hx, h0, h1, h2, h3, h4, h5, h6, hA, hB, hz, hC, q2_1, q3_0, q3_2, q6_3, q6_4, q6_5, q7_6⟩ hall
    obtain ⟨hT, a1, n1, c1, a2, n2, c2, rfl, hz9⟩ := hC (hall 7)
    have HT := hid hT
    obtain ⟨y0, y1, y2⟩ := cells3 hz9
    clear h0 h1 h2 h3 h4 h5 h6 hA hB hC hz hx hall hT hz9
    go_wp2
    refine bodyPost_ret (v := .agg #[.bool (nul (.mk 4 s l)), .slice a1 n1 c1, .slice a2 n2 c2]) ?_ rfl HT.out
    simp [results, Tryd.results64, go_sem, y0, y1, y2]
  case init =>
    exact ⟨_, _, _, _, _, _, _, rfl, hx6, fun h => absurd h (by simp), fun h => absurd h (by simp), fun h => absurd h (by simp), fun h => absurd h (by simp), fun h => absurd h (by simp), fun h => absurd h (by simp), fun h => absurd h (by simp), fun _ => (Below.refl _ _).drew, fun h => absurd h (by simp), fun _ => hz, fun h => absurd h (by simp), fun h => absurd h (by simp), fun h => absurd h (by simp), fun h => absurd h (by simp), fun h => absurd h (by simp), fun h => absurd h (by simp), fun h => absurd h (by simp), fun h => absurd h (by simp)⟩
set_option maxRecDepth 100000 in
set_option maxHeartbeats 4000000 in
theorem translate_5 (s : BS) (l : List Rx) (hT : TS 85 (.mk 5 s l)) : TS 64 (.mk 5 s l) := by
  intro base bb most S M A G g W cs h hrc hg hm
  obtain ⟨a, n, c, rfl, hK⟩ := RC_mk.1 hrc
  have HB := hid h
  show Calls Tryd.prog 64 #[.pointer (some ⟨bb, 0, none⟩), .agg #[.int .i64 5, .int .u64 (ws s 0 : Int), .int .u64 (ws s 1 : Int), .int .u64 (ws s 2 : Int), .int .u64 (ws s 3 : Int), .slice a n c]] W _
  obtain ⟨X, hX⟩ : ∃ X, X = (W.alloc (.cells #[.int .i64 5, .int .u64 (ws s 0 : Int), .int .u64 (ws s 1 : Int), .int .u64 (ws s 2 : Int), .int .u64 (ws s 3 : Int), .slice a n c] 50)).alloc (.cells #[.bool false, .slice none 0 0, .slice none 0 0] 108) := ⟨_, rfl⟩
  have BXX := hid (show Below W.heap.size W X ∧ X.heap.size = W.heap.size + 2 from by rw [hX]; exact ⟨(bel1 _ _).alloc (by simp) _, by simp⟩)
  have hz : X.heap[W.heap.size + 1]? = some (.cells #[.bool false, .slice none 0 0, .slice none 0 0] 108 (0, 0)) := by rw [hX]; exact (by simpa using alloc_new (W.alloc (.cells #[.int .i64 5, .int .u64 (ws s 0 : Int), .int .u64 (ws s 1 : Int), .int .u64 (ws s 2 : Int), .int .u64 (ws s 3 : Int), .slice a n c] 50)) _)
  have hx6 : X.heap[W.heap.size]? = some (.cells #[.int .i64 5, .int .u64 (ws s 0 : Int), .int .u64 (ws s 1 : Int), .int .u64 (ws s 2 : Int), .int .u64 (ws s 3 : Int), .slice a n c] 50 (0, 0)) := by rw [hX]; exact blk_alloc (alloc_new _ _)
  have CT := hid (fun U => translations_any U)
  have CF := hid (fun U (hU : Below X.heap.size X U) => show Calls Tryd.prog 85 #[.pointer (some ⟨bb, 0, none⟩), .agg #[.int .i64 5, .int .u64 (ws s 0 : Int), .int .u64 (ws s 1 : Int), .int .u64 (ws s 2 : Int), .int .u64 (ws s 3 : Int), .slice a n c]] U (TR (.mk 5 s l) base bb most S M A G U) from hT base bb most S M A G g U _ (HB.out.below (BXX.out.1.trans (hU.mono BXX.out.1.size))) (hrc.below (BXX.out.1.trans (hU.mono BXX.out.1.size))) hg hm)
  have Hlt := hid (fun b hb => (h.lt b hb).2 : ∀ b, G b → b < W.heap.size)
  clear h hrc hg hK hT hm
  go_enter Tryd.func64, Tryd.ntmps64
  go_upto_region 1 with fail
  rw [← hX]
  clear hX
  refine region_inv (fun b a' w' => ∃ (v5 v6 v7 v8 v9 v10 v11 : Value), a' = { tmps := #[.pointer (some ⟨bb, 0, none⟩), .agg #[.int .i64 5, .int .u64 (ws s 0 : Int), .int .u64 (ws s 1 : Int), .int .u64 (ws s 2 : Int), .int .u64 (ws s 3 : Int), .slice a n c], undef, .pointer (some ⟨W.heap.size, 0, none⟩), .pointer (some ⟨W.heap.size + 1, 0, none⟩), v5, v6, v7, v8, v9, v10, v11], defers := [] } ∧ w'.heap[W.heap.size]? = some (.cells #[.int .i64 5, .int .u64 (ws s 0 : Int), .int .u64 (ws s 1 : Int), .int .u64 (ws s 2 : Int), .int .u64 (ws s 3 : Int), .slice a n c] 50 (0, 0)) ∧ (b 0 = true → v5 = .agg #[.nilFunc, .func (.func 81) #[] #[], .func (.func 82) #[] #[], .func (.func 83) #[] #[], .func (.func 84) #[] #[], .func (.func 85) #[] #[], .func (.func 86) #[] #[]]) ∧ (b 1 = true → v6 = .pointer (some ⟨W.heap.size, 0, none⟩)) ∧ (b 2 = true → v7 = .int .i64 5) ∧ (b 3 = true → v8 = .func (.func 85) #[] #[]) ∧ (b 4 = true → v9 = .pointer (some ⟨bb, 0, none⟩)) ∧ (b 5 = true → v10 = .agg #[.int .i64 5, .int .u64 (ws s 0 : Int), .int .u64 (ws s 1 : Int), .int .u64 (ws s 2 : Int), .int .u64 (ws s 3 : Int), .slice a n c]) ∧ (b 6 = true → ∃ a1 n1 c1 a2 n2 c2, v11 = .agg #[.bool (nul (.mk 5 s l)), .slice a1 n1 c1, .slice a2 n2 c2]) ∧ (b 6 = false → Below X.heap.size X w') ∧ (b 6 = true ∧ b 7 = false → TR (.mk 5 s l) base bb most S M A G X (.returned v11) w') ∧ (b 7 = false → w'.heap[W.heap.size + 1]? = some (.cells #[.bool false, .slice none 0 0, .slice none 0 0] 108 (0, 0))) ∧ (b 7 = true → TR (.mk 5 s l) base bb most S M A G W (.returned v11) w' ∧ ∃ a1 n1 c1 a2 n2 c2, v11 = .agg #[.bool (nul (.mk 5 s l)), .slice a1 n1 c1, .slice a2 n2 c2] ∧ w'.heap[W.heap.size + 1]? = some (.cells #[.bool (nul (.mk 5 s l)), .slice a1 n1 c1, .slice a2 n2 c2] 108 (0, 0))) ∧ (b 2 = true → b 1 = true) ∧ (b 3 = true → b 0 = true) ∧ (b 3 = true → b 2 = true) ∧ (b 6 = true → b 3 = true) ∧ (b 6 = true → b 4 = true) ∧ (b 6 = true → b 5 = true) ∧ (b 7 = true → b 6 = true)) (by kernel_rfl) (back_of (by kernel_rfl)) ?step ?done ?init
  case step =>
    rintro b a' w' i o ho ⟨v5, v6, v7, v8, v9, v10, v11, rfl, hx, h0, h1, h2, h3, h4, h5, h6, hA, hB, hz, hC, q2_1, q3_0, q3_2, q6_3, q6_4, q6_5, q7_6⟩ hbi hd K hK
    have hlt : i < 8 := by have := (Array.getElem?_eq_some_iff.1 ho).1; simpa using this
    have dep : ∀ k, (o.after.any fun e => Region.binds .any e && e.on == k) = true → b k = true := fun k hk => by
      obtain ⟨e, he, h⟩ := Array.any_eq_true'.1 hk
      simp only [Bool.and_eq_true, beq_iff_eq] at h
      rw [← h.2]; exact hd e he h.1
    clear hd
    have hi : i = 0 ∨ i = 1 ∨ i = 2 ∨ i = 3 ∨ i = 4 ∨ i = 5 ∨ i = 6 ∨ i = 7 := by omega
    clear hlt
    rcases hi with rfl | rfl | rfl | rfl | rfl | rfl | rfl | rfl
    · simp only [List.getElem?_toArray, List.getElem?_cons_zero, List.getElem?_cons_succ, Option.some.injEq] at ho
      subst ho
      have n6 : b 6 = false := by
        cases hb : b 6
        · rfl
        · have := q3_0 (q6_3 hb); rw [hbi] at this; cases this
      have n7 : b 7 = false := by
        cases hb : b 7
        · rfl
        · have := q3_0 (q6_3 (q7_6 hb)); rw [hbi] at this; cases this
      go_simp
      refine (CT.out _).mono ?_
      rintro e w5 ⟨rfl, b5⟩
      have hz5 := hz n7
      refine hK.out _ _ ⟨_, _, _, _, _, _, _, rfl, (b5.block _ (heap_lt hx)).trans hx, fun _ => rfl, fun h => h1 (by simpa using h), fun h => h2 (by simpa using h), fun h => h3 (by simpa using h), fun h => h4 (by simpa using h), fun h => h5 (by simpa using h), fun h => h6 (by simpa using h), fun h => (hA (by simpa using h)).trans (b5.mono (hA (by simpa using h)).size), fun h => absurd h.1 (by simp [n6]), fun _ => (b5.block _ (heap_lt hz5)).trans hz5, fun h => absurd h (by simp [n7]), fun h => by simp [q2_1 (by simpa using h)], fun h => by simp [q3_0 (by simpa using h)], fun h => by simp [q3_2 (by simpa using h)], fun h => by simp [q6_3 (by simpa using h)], fun h => by simp [q6_4 (by simpa using h)], fun h => by simp [q6_5 (by simpa using h)], fun h => by simp [q7_6 (by simpa using h)]⟩
    · simp only [List.getElem?_toArray, List.getElem?_cons_zero, List.getElem?_cons_succ, Option.some.injEq] at ho
      subst ho
      go_simp
      refine hK.out _ _ ⟨_, _, _, _, _, _, _, rfl, hx, fun h => h0 (by simpa using h), fun _ => rfl, fun h => h2 (by simpa using h), fun h => h3 (by simpa using h), fun h => h4 (by simpa using h), fun h => h5 (by simpa using h), fun h => h6 (by simpa using h), fun h => hA (by simpa using h), fun h => hB (by simpa using h), fun h => hz (by simpa using h), fun h => hC (by simpa using h), fun h => by simp [q2_1 (by simpa using h)], fun h => by simp [q3_0 (by simpa using h)], fun h => by simp [q3_2 (by simpa using h)], fun h => by simp [q6_3 (by simpa using h)], fun h => by simp [q6_4 (by simpa using h)], fun h => by simp [q6_5 (by simpa using h)], fun h => by simp [q7_6 (by simpa using h)]⟩
    · simp only [List.getElem?_toArray, List.getElem?_cons_zero, List.getElem?_cons_succ, Option.some.injEq] at ho
      subst ho
      have e_1 := dep 1 (by kernel_rfl)
      obtain rfl := h1 e_1
      obtain ⟨d0, d1, d2, d3, d4, d5⟩ := cells6 hx
      go_simp
      refine hK.out _ _ ⟨_, _, _, _, _, _, _, rfl, hx, fun h => h0 (by simpa using h), fun _ => rfl, fun _ => rfl, fun h => h3 (by simpa using h), fun h => h4 (by simpa using h), fun h => h5 (by simpa using h), fun h => h6 (by simpa using h), fun h => hA (by simpa using h), fun h => hB (by simpa using h), fun h => hz (by simpa using h), fun h => hC (by simpa using h), fun _ => by simp [e_1], fun h => by simp [q3_0 (by simpa using h)], fun h => by simp [q3_2 (by simpa using h)], fun h => by simp [q6_3 (by simpa using h)], fun h => by simp [q6_4 (by simpa using h)], fun h => by simp [q6_5 (by simpa using h)], fun h => by simp [q7_6 (by simpa using h)]⟩
    · simp only [List.getElem?_toArray, List.getElem?_cons_zero, List.getElem?_cons_succ, Option.some.injEq] at ho
      subst ho
      have e_0 := dep 0 (by kernel_rfl)
      have e_2 := dep 2 (by kernel_rfl)
      have e_1 := q2_1 e_2
      obtain rfl := h0 e_0
      obtain rfl := h1 e_1
      obtain rfl := h2 e_2
      go_simp
      refine hK.out _ _ ⟨_, _, _, _, _, _, _, rfl, hx, fun _ => rfl, fun _ => rfl, fun _ => rfl, fun _ => rfl, fun h => h4 (by simpa using h), fun h => h5 (by simpa using h), fun h => h6 (by simpa using h), fun h => hA (by simpa using h), fun h => hB (by simpa using h), fun h => hz (by simpa using h), fun h => hC (by simpa using h), fun h => by simp [q2_1 (by simpa using h)], fun _ => by simp [e_0], fun _ => by simp [e_2], fun h => by simp [q6_3 (by simpa using h)], fun h => by simp [q6_4 (by simpa using h)], fun h => by simp [q6_5 (by simpa using h)], fun h => by simp [q7_6 (by simpa using h)]⟩
    · simp only [List.getElem?_toArray, List.getElem?_cons_zero, List.getElem?_cons_succ, Option.some.injEq] at ho
      subst ho
      go_simp
      refine hK.out _ _ ⟨_, _, _, _, _, _, _, rfl, hx, fun h => h0 (by simpa using h), fun h => h1 (by simpa using h), fun h => h2 (by simpa using h), fun h => h3 (by simpa using h), fun _ => rfl, fun h => h5 (by simpa using h), fun h => h6 (by simpa using h), fun h => hA (by simpa using h), fun h => hB (by simpa using h), fun h => hz (by simpa using h), fun h => hC (by simpa using h), fun h => by simp [q2_1 (by simpa using h)], fun h => by simp [q3_0 (by simpa using h)], fun h => by simp [q3_2 (by simpa using h)], fun h => by simp [q6_3 (by simpa using h)], fun h => by simp [q6_4 (by simpa using h)], fun h => by simp [q6_5 (by simpa using h)], fun h => by simp [q7_6 (by simpa using h)]⟩
    · simp only [List.getElem?_toArray, List.getElem?_cons_zero, List.getElem?_cons_succ, Option.some.injEq] at ho
      subst ho
      obtain ⟨d0, d1, d2, d3, d4, d5⟩ := cells6 hx
      go_simp
      refine hK.out _ _ ⟨_, _, _, _, _, _, _, rfl, hx, fun h => h0 (by simpa using h), fun h => h1 (by simpa using h), fun h => h2 (by simpa using h), fun h => h3 (by simpa using h), fun h => h4 (by simpa using h), fun _ => rfl, fun h => h6 (by simpa using h), fun h => hA (by simpa using h), fun h => hB (by simpa using h), fun h => hz (by simpa using h), fun h => hC (by simpa using h), fun h => by simp [q2_1 (by simpa using h)], fun h => by simp [q3_0 (by simpa using h)], fun h => by simp [q3_2 (by simpa using h)], fun h => by simp [q6_3 (by simpa using h)], fun h => by simp [q6_4 (by simpa using h)], fun h => by simp [q6_5 (by simpa using h)], fun h => by simp [q7_6 (by simpa using h)]⟩
    · simp only [List.getElem?_toArray, List.getElem?_cons_zero, List.getElem?_cons_succ, Option.some.injEq] at ho
      subst ho
      have e_3 := dep 3 (by kernel_rfl)
      have e_4 := dep 4 (by kernel_rfl)
      have e_5 := dep 5 (by kernel_rfl)
      have e_0 := q3_0 e_3
      have e_2 := q3_2 e_3
      have e_1 := q2_1 e_2
      obtain rfl := h0 e_0
      obtain rfl := h1 e_1
      obtain rfl := h2 e_2
      obtain rfl := h3 e_3
      obtain rfl := h4 e_4
      obtain rfl := h5 e_5
      have n7 : b 7 = false := by
        cases hb : b 7
        · rfl
        · have := q7_6 hb; rw [hbi] at this; cases this
      have hA9 := hA hbi
      have hz9 := hz n7
      go_simp
      refine (CF.out _ hA9).mono ?_
      intro e w5 h5
      obtain ⟨a1, n1, c1, a2, n2, c2, rfl⟩ := h5.form
      have hk5 := h5.kp
      have hs9 := hA9.size
      have hs8 := BXX.out.2
      refine hK.out _ _ ⟨_, _, _, _, _, _, _, rfl, (hk5.block _ (by rintro (e | e); have := Hlt.out _ e; omega; have := heap_lt hx; omega)).trans hx, fun _ => rfl, fun _ => rfl, fun _ => rfl, fun _ => rfl, fun _ => rfl, fun _ => rfl, fun _ => ⟨_, _, _, _, _, _, rfl⟩, fun h => absurd h (by simp), fun _ => TR.from h5 hA9, fun _ => (hk5.block _ (by rintro (e | e); have := Hlt.out _ e; omega; have := heap_lt hz9; omega)).trans hz9, fun h => absurd h (by simp [n7]), fun h => by simp [q2_1 (by simpa using h)], fun h => by simp [q3_0 (by simpa using h)], fun h => by simp [q3_2 (by simpa using h)], fun _ => by simp [e_3], fun _ => by simp [e_4], fun _ => by simp [e_5], fun h => by simp [q7_6 (by simpa using h)]⟩
    · simp only [List.getElem?_toArray, List.getElem?_cons_zero, List.getElem?_cons_succ, Option.some.injEq] at ho
      subst ho
      have e_6 := dep 6 (by kernel_rfl)
      have e_3 := q6_3 e_6
      have e_4 := q6_4 e_6
      have e_5 := q6_5 e_6
      have e_0 := q3_0 e_3
      have e_2 := q3_2 e_3
      have e_1 := q2_1 e_2
      obtain rfl := h0 e_0
      obtain rfl := h1 e_1
      obtain rfl := h2 e_2
      obtain rfl := h3 e_3
      obtain rfl := h4 e_4
      obtain rfl := h5 e_5
      obtain ⟨a1, n1, c1, a2, n2, c2, rfl⟩ := h6 e_6
      have hz9 := hz hbi
      obtain ⟨z0, z1, z2⟩ := cells3 hz9
      obtain ⟨f0, f1, f2⟩ := frozen3 hz9
      have hT9 := hB ⟨e_6, hbi⟩
      have hs8 := BXX.out.2
      go_simp
      refine hK.out _ _ ⟨_, _, _, _, _, _, _, rfl, far3 hx (by omega), fun _ => rfl, fun _ => rfl, fun _ => rfl, fun _ => rfl, fun _ => rfl, fun _ => rfl, fun _ => ⟨_, _, _, _, _, _, rfl⟩, fun h => absurd h (by simp [e_6]), fun h => absurd h.2 (by simp), fun h => absurd h (by simp), fun _ => ⟨TR.res hT9 BXX.out.1 Hlt.out BXX.out.2 _ _ _, _, _, _, _, _, _, rfl, three_set hz9⟩, fun h => by simp [q2_1 (by simpa using h)], fun h => by simp [q3_0 (by simpa using h)], fun h => by simp [q3_2 (by simpa using h)], fun h => by simp [q6_3 (by simpa using h)], fun h => by simp [q6_4 (by simpa using h)], fun h => by simp [q6_5 (by simpa using h)], fun _ => by simp [e_6]⟩
  case done =>
    rintro b a' w' ⟨v5, v6, v7, v8, v9, v10, v11, rfl, hx, h0, h1, h2, h3, h4, h5, h6, hA, hB, hz, hC, q2_1, q3_0, q3_2, q6_3, q6_4, q6_5, q7_6⟩ hall
    obtain ⟨hT, a1, n1, c1, a2, n2, c2, rfl, hz9⟩ := hC (hall 7)
    have HT := hid hT
    obtain ⟨y0, y1, y2⟩ := cells3 hz9
    clear h0 h1 h2 h3 h4 h5 h6 hA hB hC hz hx hall hT hz9
    go_wp2
    refine bodyPost_ret (v := .agg #[.bool (nul (.mk 5 s l)), .slice a1 n1 c1, .slice a2 n2 c2]) ?_ rfl HT.out
    simp [results, Tryd.results64, go_sem, y0, y1, y2]
  case init =>
    exact ⟨_, _, _, _, _, _, _, rfl, hx6, fun h => absurd h (by simp), fun h => absurd h (by simp), fun h => absurd h (by simp), fun h => absurd h (by simp), fun h => absurd h (by simp), fun h => absurd h (by simp), fun h => absurd h (by simp), fun _ => (Below.refl _ _).drew, fun h => absurd h (by simp), fun _ => hz, fun h => absurd h (by simp), fun h => absurd h (by simp), fun h => absurd h (by simp), fun h => absurd h (by simp), fun h => absurd h (by simp), fun h => absurd h (by simp), fun h => absurd h (by simp), fun h => absurd h (by simp)⟩
set_option maxRecDepth 100000 in
set_option maxHeartbeats 4000000 in
theorem translate_6 (s : BS) (l : List Rx) (hT : TS 86 (.mk 6 s l)) : TS 64 (.mk 6 s l) := by
  intro base bb most S M A G g W cs h hrc hg hm
  obtain ⟨a, n, c, rfl, hK⟩ := RC_mk.1 hrc
  have HB := hid h
  show Calls Tryd.prog 64 #[.pointer (some ⟨bb, 0, none⟩), .agg #[.int .i64 6, .int .u64 (ws s 0 : Int), .int .u64 (ws s 1 : Int), .int .u64 (ws s 2 : Int), .int .u64 (ws s 3 : Int), .slice a n c]] W _
  obtain ⟨X, hX⟩ : ∃ X, X = (W.alloc (.cells #[.int .i64 6, .int .u64 (ws s 0 : Int), .int .u64 (ws s 1 : Int), .int .u64 (ws s 2 : Int), .int .u64 (ws s 3 : Int), .slice a n c] 50)).alloc (.cells #[.bool false, .slice none 0 0, .slice none 0 0] 108) := ⟨_, rfl⟩
  have BXX := hid (show Below W.heap.size W X ∧ X.heap.size = W.heap.size + 2 from by rw [hX]; exact ⟨(bel1 _ _).alloc (by simp) _, by simp⟩)
  have hz : X.heap[W.heap.size + 1]? = some (.cells #[.bool false, .slice none 0 0, .slice none 0 0] 108 (0, 0)) := by rw [hX]; exact (by simpa using alloc_new (W.alloc (.cells #[.int .i64 6, .int .u64 (ws s 0 : Int), .int .u64 (ws s 1 : Int), .int .u64 (ws s 2 : Int), .int .u64 (ws s 3 : Int), .slice a n c] 50)) _)
  have hx6 : X.heap[W.heap.size]? = some (.cells #[.int .i64 6, .int .u64 (ws s 0 : Int), .int .u64 (ws s 1 : Int), .int .u64 (ws s 2 : Int), .int .u64 (ws s 3 : Int), .slice a n c] 50 (0, 0)) := by rw [hX]; exact blk_alloc (alloc_new _ _)
  have CT := hid (fun U => translations_any U)
  have CF := hid (fun U (hU : Below X.heap.size X U) => show Calls Tryd.prog 86 #[.pointer (some ⟨bb, 0, none⟩), .agg #[.int .i64 6, .int .u64 (ws s 0 : Int), .int .u64 (ws s 1 : Int), .int .u64 (ws s 2 : Int), .int .u64 (ws s 3 : Int), .slice a n c]] U (TR (.mk 6 s l) base bb most S M A G U) from hT base bb most S M A G g U _ (HB.out.below (BXX.out.1.trans (hU.mono BXX.out.1.size))) (hrc.below (BXX.out.1.trans (hU.mono BXX.out.1.size))) hg hm)
  have Hlt := hid (fun b hb => (h.lt b hb).2 : ∀ b, G b → b < W.heap.size)
  clear h hrc hg hK hT hm
  go_enter Tryd.func64, Tryd.ntmps64
  go_upto_region 1 with fail
  rw [← hX]
  clear hX
  refine region_inv (fun b a' w' => ∃ (v5 v6 v7 v8 v9 v10 v11 : Value), a' = { tmps := #[.pointer (some ⟨bb, 0, none⟩), .agg #[.int .i64 6, .int .u64 (ws s 0 : Int), .int .u64 (ws s 1 : Int), .int .u64 (ws s 2 : Int), .int .u64 (ws s 3 : Int), .slice a n c], undef, .pointer (some ⟨W.heap.size, 0, none⟩), .pointer (some ⟨W.heap.size + 1, 0, none⟩), v5, v6, v7, v8, v9, v10, v11], defers := [] } ∧ w'.heap[W.heap.size]? = some (.cells #[.int .i64 6, .int .u64 (ws s 0 : Int), .int .u64 (ws s 1 : Int), .int .u64 (ws s 2 : Int), .int .u64 (ws s 3 : Int), .slice a n c] 50 (0, 0)) ∧ (b 0 = true → v5 = .agg #[.nilFunc, .func (.func 81) #[] #[], .func (.func 82) #[] #[], .func (.func 83) #[] #[], .func (.func 84) #[] #[], .func (.func 85) #[] #[], .func (.func 86) #[] #[]]) ∧ (b 1 = true → v6 = .pointer (some ⟨W.heap.size, 0, none⟩)) ∧ (b 2 = true → v7 = .int .i64 6) ∧ (b 3 = true → v8 = .func (.func 86) #[] #[]) ∧ (b 4 = true → v9 = .pointer (some ⟨bb, 0, none⟩)) ∧ (b 5 = true → v10 = .agg #[.int .i64 6, .int .u64 (ws s 0 : Int), .int .u64 (ws s 1 : Int), .int .u64 (ws s 2 : Int), .int .u64 (ws s 3 : Int), .slice a n c]) ∧ (b 6 = true → ∃ a1 n1 c1 a2 n2 c2, v11 = .agg #[.bool (nul (.mk 6 s l)), .slice a1 n1 c1, .slice a2 n2 c2]) ∧ (b 6 = false → Below X.heap.size X w') ∧ (b 6 = true ∧ b 7 = false → TR (.mk 6 s l) base bb most S M A G X (.returned v11) w') ∧ (b 7 = false → w'.heap[W.heap.size + 1]? = some (.cells #[.bool false, .slice none 0 0, .slice none 0 0] 108 (0, 0))) ∧ (b 7 = true → TR (.mk 6 s l) base bb most S M A G W (.returned v11) w' ∧ ∃ a1 n1 c1 a2 n2 c2, v11 = .agg #[.bool (nul (.mk 6 s l)), .slice a1 n1 c1, .slice a2 n2 c2] ∧ w'.heap[W.heap.size + 1]? = some (.cells #[.bool (nul (.mk 6 s l)), .slice a1 n1 c1, .slice a2 n2 c2] 108 (0, 0))) ∧ (b 2 = true → b 1 = true) ∧ (b 3 = true → b 0 = true) ∧ (b 3 = true → b 2 = true) ∧ (b 6 = true → b 3 = true) ∧ (b 6 = true → b 4 = true) ∧ (b 6 = true → b 5 = true) ∧ (b 7 = true → b 6 = true)) (by kernel_rfl) (back_of (by kernel_rfl)) ?step ?done ?init
  case step =>
    rintro b a' w' i o ho ⟨v5, v6, v7, v8, v9, v10, v11, rfl, hx, h0, h1, h2, h3, h4, h5, h6, hA, hB, hz, hC, q2_1, q3_0, q3_2, q6_3, q6_4, q6_5, q7_6⟩ hbi hd K hK
    have hlt : i < 8 := by have := (Array.getElem?_eq_some_iff.1 ho).1; simpa using this
    have dep : ∀ k, (o.after.any fun e => Region.binds .any e && e.on == k) = true → b k = true := fun k hk => by
      obtain ⟨e, he, h⟩ := Array.any_eq_true'.1 hk
      simp only [Bool.and_eq_true, beq_iff_eq] at h
      rw [← h.2]; exact hd e he h.1
    clear hd
    have hi : i = 0 ∨ i = 1 ∨ i = 2 ∨ i = 3 ∨ i = 4 ∨ i = 5 ∨ i = 6 ∨ i = 7 := by omega
    clear hlt
    rcases hi with rfl | rfl | rfl | rfl | rfl | rfl | rfl | rfl
    · simp only [List.getElem?_toArray, List.getElem?_cons_zero, List.getElem?_cons_succ, Option.some.injEq] at ho
      subst ho
      have n6 : b 6 = false := by
        cases hb : b 6
        · rfl
        · have := q3_0 (q6_3 hb); rw [hbi] at this; cases this
      have n7 : b 7 = false := by
        cases hb : b 7
        · rfl
        · have := q3_0 (q6_3 (q7_6 hb)); rw [hbi] at this; cases this
      go_simp
      refine (CT.out _).mono ?_
      rintro e w5 ⟨rfl, b5⟩
      have hz5 := hz n7
      refine hK.out _ _ ⟨_, _, _, _, _, _, _, rfl, (b5.block _ (heap_lt hx)).trans hx, fun _ => rfl, fun h => h1 (by simpa using h), fun h => h2 (by simpa using h), fun h => h3 (by simpa using h), fun h => h4 (by simpa using h), fun h => h5 (by simpa using h), fun h => h6 (by simpa using h), fun h => (hA (by simpa using h)).trans (b5.mono (hA (by simpa using h)).size), fun h => absurd h.1 (by simp [n6]), fun _ => (b5.block _ (heap_lt hz5)).trans hz5, fun h => absurd h (by simp [n7]), fun h => by simp [q2_1 (by simpa using h)], fun h => by simp [q3_0 (by simpa using h)], fun h => by simp [q3_2 (by simpa using h)], fun h => by simp [q6_3 (by simpa using h)], fun h => by simp [q6_4 (by simpa using h)], fun h => by simp [q6_5 (by simpa using h)], fun h => by simp [q7_6 (by simpa using h)]⟩
    · simp only [List.getElem?_toArray, List.getElem?_cons_zero, List.getElem?_cons_succ, Option.some.injEq] at ho
      subst ho
      go_simp
      refine hK.out _ _ ⟨_, _, _, _, _, _, _, rfl, hx, fun h => h0 (by simpa using h), fun _ => rfl, fun h => h2 (by simpa using h), fun h => h3 (by simpa using h), fun h => h4 (by simpa using h), fun h => h5 (by simpa using h), fun h => h6 (by simpa using h), fun h => hA (by simpa using h), fun h => hB (by simpa using h), fun h => hz (by simpa using h), fun h => hC (by simpa using h), fun h => by simp [q2_1 (by simpa using h)], fun h => by simp [q3_0 (by simpa using h)], fun h => by simp [q3_2 (by simpa using h)], fun h => by simp [q6_3 (by simpa using h)], fun h => by simp [q6_4 (by simpa using h)], fun h => by simp [q6_5 (by simpa using h)], fun h => by simp [q7_6 (by simpa using h)]⟩
    · simp only [List.getElem?_toArray, List.getElem?_cons_zero, List.getElem?_cons_succ, Option.some.injEq] at ho
      subst ho
      have e_1 := dep 1 (by kernel_rfl)
      obtain rfl := h1 e_1
      obtain ⟨d0, d1, d2, d3, d4, d5⟩ := cells6 hx
      go_simp
      refine hK.out _ _ ⟨_, _, _, _, _, _, _, rfl, hx, fun h => h0 (by simpa using h), fun _ => rfl, fun _ => rfl, fun h => h3 (by simpa using h), fun h => h4 (by simpa using h), fun h => h5 (by simpa using h), fun h => h6 (by simpa using h), fun h => hA (by simpa using h), fun h => hB (by simpa using h), fun h => hz (by simpa using h), fun h => hC (by simpa using h), fun _ => by simp [e_1], fun h => by simp [q3_0 (by simpa using h)], fun h => by simp [q3_2 (by simpa using h)], fun h => by simp [q6_3 (by simpa using h)], fun h => by simp [q6_4 (by simpa using h)], fun h => by simp [q6_5 (by simpa using h)], fun h => by simp [q7_6 (by simpa using h)]⟩
    · simp only [List.getElem?_toArray, List.getElem?_cons_zero, List.getElem?_cons_succ, Option.some.injEq] at ho
      subst ho
      have e_0 := dep 0 (by kernel_rfl)
      have e_2 := dep 2 (by kernel_rfl)
      have e_1 := q2_1 e_2
      obtain rfl := h0 e_0
      obtain rfl := h1 e_1
      obtain rfl := h2 e_2
      go_simp
      refine hK.out _ _ ⟨_, _, _, _, _, _, _, rfl, hx, fun _ => rfl, fun _ => rfl, fun _ => rfl, fun _ => rfl, fun h => h4 (by simpa using h), fun h => h5 (by simpa using h), fun h => h6 (by simpa using h), fun h => hA (by simpa using h), fun h => hB (by simpa using h), fun h => hz (by simpa using h), fun h => hC (by simpa using h), fun h => by simp [q2_1 (by simpa using h)], fun _ => by simp [e_0], fun _ => by simp [e_2], fun h => by simp [q6_3 (by simpa using h)], fun h => by simp [q6_4 (by simpa using h)], fun h => by simp [q6_5 (by simpa using h)], fun h => by simp [q7_6 (by simpa using h)]⟩
    · simp only [List.getElem?_toArray, List.getElem?_cons_zero, List.getElem?_cons_succ, Option.some.injEq] at ho
      subst ho
      go_simp
      refine hK.out _ _ ⟨_, _, _, _, _, _, _, rfl, hx, fun h => h0 (by simpa using h), fun h => h1 (by simpa using h), fun h => h2 (by simpa using h), fun h => h3 (by simpa using h), fun _ => rfl, fun h => h5 (by simpa using h), fun h => h6 (by simpa using h), fun h => hA (by simpa using h), fun h => hB (by simpa using h), fun h => hz (by simpa using h), fun h => hC (by simpa using h), fun h => by simp [q2_1 (by simpa using h)], fun h => by simp [q3_0 (by simpa using h)], fun h => by simp [q3_2 (by simpa using h)], fun h => by simp [q6_3 (by simpa using h)], fun h => by simp [q6_4 (by simpa using h)], fun h => by simp [q6_5 (by simpa using h)], fun h => by simp [q7_6 (by simpa using h)]⟩
    · simp only [List.getElem?_toArray, List.getElem?_cons_zero, List.getElem?_cons_succ, Option.some.injEq] at ho
      subst ho
      obtain ⟨d0, d1, d2, d3, d4, d5⟩ := cells6 hx
      go_simp
      refine hK.out _ _ ⟨_, _, _, _, _, _, _, rfl, hx, fun h => h0 (by simpa using h), fun h => h1 (by simpa using h), fun h => h2 (by simpa using h), fun h => h3 (by simpa using h), fun h => h4 (by simpa using h), fun _ => rfl, fun h => h6 (by simpa using h), fun h => hA (by simpa using h), fun h => hB (by simpa using h), fun h => hz (by simpa using h), fun h => hC (by simpa using h), fun h => by simp [q2_1 (by simpa using h)], fun h => by simp [q3_0 (by simpa using h)], fun h => by simp [q3_2 (by simpa using h)], fun h => by simp [q6_3 (by simpa using h)], fun h => by simp [q6_4 (by simpa using h)], fun h => by simp [q6_5 (by simpa using h)], fun h => by simp [q7_6 (by simpa using h)]⟩
    · simp only [List.getElem?_toArray, List.getElem?_cons_zero, List.getElem?_cons_succ, Option.some.injEq] at ho
      subst ho
      have e_3 := dep 3 (by kernel_rfl)
      have e_4 := dep 4 (by kernel_rfl)
      have e_5 := dep 5 (by kernel_rfl)
      have e_0 := q3_0 e_3
      have e_2 := q3_2 e_3
      have e_1 := q2_1 e_2
      obtain rfl := h0 e_0
      obtain rfl := h1 e_1
      obtain rfl := h2 e_2
      obtain rfl := h3 e_3
      obtain rfl := h4 e_4
      obtain rfl := h5 e_5
      have n7 : b 7 = false := by
        cases hb : b 7
        · rfl
        · have := q7_6 hb; rw [hbi] at this; cases this
      have hA9 := hA hbi
      have hz9 := hz n7
      go_simp
      refine (CF.out _ hA9).mono ?_
      intro e w5 h5
      obtain ⟨a1, n1, c1, a2, n2, c2, rfl⟩ := h5.form
      have hk5 := h5.kp
      have hs9 := hA9.size
      have hs8 := BXX.out.2
      refine hK.out _ _ ⟨_, _, _, _, _, _, _, rfl, (hk5.block _ (by rintro (e | e); have := Hlt.out _ e; omega; have := heap_lt hx; omega)).trans hx, fun _ => rfl, fun _ => rfl, fun _ => rfl, fun _ => rfl, fun _ => rfl, fun _ => rfl, fun _ => ⟨_, _, _, _, _, _, rfl⟩, fun h => absurd h (by simp), fun _ => TR.from h5 hA9, fun _ => (hk5.block _ (by rintro (e | e); have := Hlt.out _ e; omega; have := heap_lt hz9; omega)).trans hz9, fun h => absurd h (by simp [n7]), fun h => by simp [q2_1 (by simpa using h)], fun h => by simp [q3_0 (by simpa using h)], fun h => by simp [q3_2 (by simpa using h)], fun _ => by simp [e_3], fun _ => by simp [e_4], fun _ => by simp [e_5], fun h => by simp [q7_6 (by simpa using h)]⟩
    · simp only [List.getElem?_toArray, List.getElem?_cons_zero, List.getElem?_cons_succ, Option.some.injEq] at ho
      subst ho
      have e_6 := dep 6 (by kernel_rfl)
      have e_3 := q6_3 e_6
      have e_4 := q6_4 e_6
      have e_5 := q6_5 e_6
      have e_0 := q3_0 e_3
      have e_2 := q3_2 e_3
      have e_1 := q2_1 e_2
      obtain rfl := h0 e_0
      obtain rfl := h1 e_1
      obtain rfl := h2 e_2
      obtain rfl := h3 e_3
      obtain rfl := h4 e_4
      obtain rfl := h5 e_5
      obtain ⟨a1, n1, c1, a2, n2, c2, rfl⟩ := h6 e_6
      have hz9 := hz hbi
      obtain ⟨z0, z1, z2⟩ := cells3 hz9
      obtain ⟨f0, f1, f2⟩ := frozen3 hz9
      have hT9 := hB ⟨e_6, hbi⟩
      have hs8 := BXX.out.2
      go_simp
      refine hK.out _ _ ⟨_, _, _, _, _, _, _, rfl, far3 hx (by omega), fun _ => rfl, fun _ => rfl, fun _ => rfl, fun _ => rfl, fun _ => rfl, fun _ => rfl, fun _ => ⟨_, _, _, _, _, _, rfl⟩, fun h => absurd h (by simp [e_6]), fun h => absurd h.2 (by simp), fun h => absurd h (by simp), fun _ => ⟨TR.res hT9 BXX.out.1 Hlt.out BXX.out.2 _ _ _, _, _, _, _, _, _, rfl, three_set hz9⟩, fun h => by simp [q2_1 (by simpa using h)], fun h => by simp [q3_0 (by simpa using h)], fun h => by simp [q3_2 (by simpa using h)], fun h => by simp [q6_3 (by simpa using h)], fun h => by simp [q6_4 (by simpa using h)], fun h => by simp [q6_5 (by simpa using h)], fun _ => by simp [e_6]⟩
  case done =>
    rintro b a' w' ⟨v5, v6, v7, v8, v9, v10, v11, rfl, hx, h0, h1, h2, h3, h4, h5, h6, hA, hB, hz, hC, q2_1, q3_0, q3_2, q6_3, q6_4, q6_5, q7_6⟩ hall
    obtain ⟨hT, a1, n1, c1, a2, n2, c2, rfl, hz9⟩ := hC (hall 7)
    have HT := hid hT
    obtain ⟨y0, y1, y2⟩ := cells3 hz9
    clear h0 h1 h2 h3 h4 h5 h6 hA hB hC hz hx hall hT hz9
    go_wp2
    refine bodyPost_ret (v := .agg #[.bool (nul (.mk 6 s l)), .slice a1 n1 c1, .slice a2 n2 c2]) ?_ rfl HT.out
    simp [results, Tryd.results64, go_sem, y0, y1, y2]
  case init =>
    exact ⟨_, _, _, _, _, _, _, rfl, hx6, fun h => absurd h (by simp), fun h => absurd h (by simp), fun h => absurd h (by simp), fun h => absurd h (by simp), fun h => absurd h (by simp), fun h => absurd h (by simp), fun h => absurd h (by simp), fun _ => (Below.refl _ _).drew, fun h => absurd h (by simp), fun _ => hz, fun h => absurd h (by simp), fun h => absurd h (by simp), fun h => absurd h (by simp), fun h => absurd h (by simp), fun h => absurd h (by simp), fun h => absurd h (by simp), fun h => absurd h (by simp), fun h => absurd h (by simp)⟩
end Go.Proofs.YtogpnlkjcdedlaaDoor
end
