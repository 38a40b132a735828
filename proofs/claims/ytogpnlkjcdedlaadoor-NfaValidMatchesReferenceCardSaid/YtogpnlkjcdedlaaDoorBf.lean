/-
  Contracts: none, empty, set: the translations without kids.
-/
import Derived.Test.YtogpnlkjcdedlaaDoorBe
import Derived.Test.YtogpnlkjcdedlaaDoorJ
set_option linter.unusedSimpArgs false
set_option linter.unusedVariables false
namespace Go.Proofs.YtogpnlkjcdedlaaDoor
open Go.RowKit Bs Rg Nf Go.Frame
attribute [local go_sem] eq_zero eq_set

theorem BX.below {G : Nat → Prop} {W W' : World} {base bb most : Nat} {S : List BS} {M : Nat → Nat → Bool} {A : List Int} (h : BX G W base bb most S M A) (hb : Below W.heap.size W W') : BX G W' base bb most S M A := by
  obtain ⟨sv, av, cv, rb, h⟩ := h
  exact ⟨sv, av, cv, rb, h.below hb⟩
theorem BX.kept {G F : Nat → Prop} {W W' : World} {base bb most : Nat} {S : List BS} {M : Nat → Nat → Bool} {A : List Int} (h : BX G W base bb most S M A) (hk : Kept F W W') (hF : ∀ b, G b → ¬ F b) : BX G W' base bb most S M A := by
  obtain ⟨sv, av, cv, rb, h⟩ := h
  exact ⟨sv, av, cv, rb, h.kept hk hF⟩
theorem BX.lt {G : Nat → Prop} {W : World} {base bb most : Nat} {S : List BS} {M : Nat → Nat → Bool} {A : List Int} (h : BX G W base bb most S M A) : ∀ b, G b → base ≤ b ∧ b < W.heap.size := by
  obtain ⟨sv, av, cv, rb, h⟩ := h
  exact h.lt
theorem BX.most {G : Nat → Prop} {W : World} {base bb most : Nat} {S : List BS} {M : Nat → Nat → Bool} {A : List Int} (h : BX G W base bb most S M A) : most ≤ 1000 := by
  obtain ⟨sv, av, cv, rb, h⟩ := h
  exact h.most_le
theorem PR.nil (G : Nat → Prop) (W : World) (base : Nat) : PR G W base (.slice none 0 0) [] := ⟨⟨rfl, .inl ⟨rfl, rfl⟩⟩, fun k hk => by simp [Value.ownBlock] at hk⟩
theorem own_mono {W : World} {base base' e s n : Nat} {v : Value} {xs : List Value} (h : W.ownsRow base' e s v n xs) (hb : base ≤ base') : W.ownsRow base e s v n xs := by
  refine ⟨h.1, h.2.imp id ?_⟩
  rintro ⟨g, cap, cur, e1, hb1, rest⟩
  exact ⟨g, cap, cur, e1, Nat.le_trans hb hb1, rest⟩
theorem PR.mono {G : Nat → Prop} {W : World} {base base' : Nat} {v : Value} {l : List Nat} (h : PR G W base' v l) (hb : base ≤ base') : PR G W base v l := ⟨own_mono h.1 hb, h.2⟩
def orM (M P : Nat → Nat → Bool) : Nat → Nat → Bool := fun x y => M x y || P x y
/-- What a translation answers. -/
def TR (r : Rx) (base bb most : Nat) (S : List BS) (M : Nat → Nat → Bool) (A : List Int) (G : Nat → Prop) (W : World) (e : Ending) (w' : World) : Prop :=
  ∃ fv lv, e = .returned (.agg #[.bool (nul r), fv, lv]) ∧ ∃ G', BX G' w' base bb most (S ++ os r) (orM M (pr r S.length)) (A ++ List.replicate (np r) (-1)) ∧ (∀ b, G' b → G b ∨ W.heap.size ≤ b) ∧ PR G' w' W.heap.size fv (fst r S.length) ∧ PR G' w' W.heap.size lv (las r S.length) ∧ Kept (fun b => G b ∨ W.heap.size ≤ b) W w'
/-- Function f translates r. -/
def TS (f : Nat) (r : Rx) : Prop := ∀ (base bb most : Nat) (S : List BS) (M : Nat → Nat → Bool) (A : List Int) (G g : Nat → Prop) (W : World) (cs : List Value), BX G W base bb most S M A → RC g W r cs → (∀ b, g b → ¬ G b) → S.length + np r ≤ most → Calls Tryd.prog f #[.pointer (some ⟨bb, 0, none⟩), .agg cs.toArray] W (TR r base bb most S M A G W)
theorem TR.leaf {r : Rx} {base bb most : Nat} {S : List BS} {M : Nat → Nat → Bool} {A : List Int} {G : Nat → Prop} {W w' : World} (h : BX G W base bb most S M A) (hb : Below W.heap.size W w') (h1 : os r = []) (h2 : np r = 0) (h3 : fst r S.length = []) (h4 : las r S.length = []) (h5 : ∀ i j, pr r S.length i j = false) : TR r base bb most S M A G W (.returned (.agg #[.bool (nul r), .slice none 0 0, .slice none 0 0])) w' := by
  refine ⟨_, _, rfl, G, ?_, fun b hb => .inl hb, by rw [h3]; exact PR.nil _ _ _, by rw [h4]; exact PR.nil _ _ _, Kept.below hb fun b hb => .inr hb⟩
  have e : orM M (pr r S.length) = M := by funext x y; simp [orM, h5]
  rw [h1, h2, e]
  simpa using h.below hb
set_option maxRecDepth 100000 in
set_option maxHeartbeats 4000000 in
theorem none_any (s : BS) : TS 81 (.mk 1 s []) := by
  intro base bb most S M A G g W cs h hrc hg hm
  obtain ⟨a, n, c, rfl, hK⟩ := RC_mk.1 hrc
  have HB := hid h
  show Calls Tryd.prog 81 #[.pointer (some ⟨bb, 0, none⟩), .agg #[.int .i64 1, .int .u64 (ws s 0 : Int), .int .u64 (ws s 1 : Int), .int .u64 (ws s 2 : Int), .int .u64 (ws s 3 : Int), .slice a n c]] W _
  obtain ⟨X, hX⟩ : ∃ X, X = (W.alloc (.cells #[.int .i64 1, .int .u64 (ws s 0 : Int), .int .u64 (ws s 1 : Int), .int .u64 (ws s 2 : Int), .int .u64 (ws s 3 : Int), .slice a n c] 50)).alloc (.cells #[.bool false, .slice none 0 0, .slice none 0 0] 108) := ⟨_, rfl⟩
  have BXX := hid (show Below W.heap.size W X ∧ X.heap.size = W.heap.size + 2 from by rw [hX]; exact ⟨(bel1 _ _).alloc (by simp) _, by simp⟩)
  have hz : X.heap[W.heap.size + 1]? = some (.cells #[.bool false, .slice none 0 0, .slice none 0 0] 108 (0, 0)) := by rw [hX]; exact (by simpa using alloc_new (W.alloc (.cells #[.int .i64 1, .int .u64 (ws s 0 : Int), .int .u64 (ws s 1 : Int), .int .u64 (ws s 2 : Int), .int .u64 (ws s 3 : Int), .slice a n c] 50)) _)
  have hx6 : X.heap[W.heap.size]? = some (.cells #[.int .i64 1, .int .u64 (ws s 0 : Int), .int .u64 (ws s 1 : Int), .int .u64 (ws s 2 : Int), .int .u64 (ws s 3 : Int), .slice a n c] 50 (0, 0)) := by rw [hX]; exact blk_alloc (alloc_new _ _)
  clear h hrc hg hK hx6
  have HF : nul (Rx.mk 1 s []) = false := by simp [nul]
  have HT := hid (fun w' hb => TR.leaf (r := .mk 1 s []) HB.out (w' := w') hb (by rw [os_mk, if_neg (by omega)]; rfl) (by rw [np_mk, if_neg (by omega)]; rfl) (by rw [fst_mk, if_neg (by omega), if_neg (by omega), fstU_nil]) (by rw [las_mk, if_neg (by omega), if_neg (by omega), lasU_nil]) (fun i j => by rw [pr_mk, if_neg (by omega), if_neg (by omega), prU_nil]; simp))
  rw [HF] at HT
  obtain ⟨z0, z1, z2⟩ := cells3 hz
  obtain ⟨f0, f1, f2⟩ := frozen3 hz
  have hb6 := three_set (x' := .bool false) (y' := .slice none 0 0) (z' := .slice none 0 0) hz
  obtain ⟨y0, y1, y2⟩ := cells3 hb6
  clear hz hb6
  go_enter Tryd.func81, Tryd.ntmps81
  go_upto_region 1 with fail
  rw [← hX]
  clear hX
  go_wp2
  refine bodyPost_ret (v := .agg #[.bool false, .slice none 0 0, .slice none 0 0]) ?_ rfl (HT.out _ ?_)
  · simp [results, Tryd.results81, go_sem, y0, y1, y2]
  · exact below_put (below_put (below_put BXX.out.1 (Nat.le_succ _)) (Nat.le_succ _)) (Nat.le_succ _)
set_option maxRecDepth 100000 in
set_option maxHeartbeats 4000000 in
theorem empty_any (s : BS) : TS 82 (.mk 2 s []) := by
  intro base bb most S M A G g W cs h hrc hg hm
  obtain ⟨a, n, c, rfl, hK⟩ := RC_mk.1 hrc
  have HB := hid h
  show Calls Tryd.prog 82 #[.pointer (some ⟨bb, 0, none⟩), .agg #[.int .i64 2, .int .u64 (ws s 0 : Int), .int .u64 (ws s 1 : Int), .int .u64 (ws s 2 : Int), .int .u64 (ws s 3 : Int), .slice a n c]] W _
  obtain ⟨X, hX⟩ : ∃ X, X = (W.alloc (.cells #[.int .i64 2, .int .u64 (ws s 0 : Int), .int .u64 (ws s 1 : Int), .int .u64 (ws s 2 : Int), .int .u64 (ws s 3 : Int), .slice a n c] 50)).alloc (.cells #[.bool false, .slice none 0 0, .slice none 0 0] 108) := ⟨_, rfl⟩
  have BXX := hid (show Below W.heap.size W X ∧ X.heap.size = W.heap.size + 2 from by rw [hX]; exact ⟨(bel1 _ _).alloc (by simp) _, by simp⟩)
  have hz : X.heap[W.heap.size + 1]? = some (.cells #[.bool false, .slice none 0 0, .slice none 0 0] 108 (0, 0)) := by rw [hX]; exact (by simpa using alloc_new (W.alloc (.cells #[.int .i64 2, .int .u64 (ws s 0 : Int), .int .u64 (ws s 1 : Int), .int .u64 (ws s 2 : Int), .int .u64 (ws s 3 : Int), .slice a n c] 50)) _)
  have hx6 : X.heap[W.heap.size]? = some (.cells #[.int .i64 2, .int .u64 (ws s 0 : Int), .int .u64 (ws s 1 : Int), .int .u64 (ws s 2 : Int), .int .u64 (ws s 3 : Int), .slice a n c] 50 (0, 0)) := by rw [hX]; exact blk_alloc (alloc_new _ _)
  clear h hrc hg hK hx6
  have HF : nul (Rx.mk 2 s []) = true := by simp [nul]
  have HT := hid (fun w' hb => TR.leaf (r := .mk 2 s []) HB.out (w' := w') hb (by rw [os_mk, if_neg (by omega)]; rfl) (by rw [np_mk, if_neg (by omega)]; rfl) (by rw [fst_mk, if_neg (by omega), if_neg (by omega), fstU_nil]) (by rw [las_mk, if_neg (by omega), if_neg (by omega), lasU_nil]) (fun i j => by rw [pr_mk, if_neg (by omega), if_neg (by omega), prU_nil]; simp))
  rw [HF] at HT
  obtain ⟨z0, z1, z2⟩ := cells3 hz
  obtain ⟨f0, f1, f2⟩ := frozen3 hz
  have hb6 := three_set (x' := .bool true) (y' := .slice none 0 0) (z' := .slice none 0 0) hz
  obtain ⟨y0, y1, y2⟩ := cells3 hb6
  clear hz hb6
  go_enter Tryd.func82, Tryd.ntmps82
  go_upto_region 1 with fail
  rw [← hX]
  clear hX
  go_wp2
  refine bodyPost_ret (v := .agg #[.bool true, .slice none 0 0, .slice none 0 0]) ?_ rfl (HT.out _ ?_)
  · simp [results, Tryd.results82, go_sem, y0, y1, y2]
  · exact below_put (below_put (below_put BXX.out.1 (Nat.le_succ _)) (Nat.le_succ _)) (Nat.le_succ _)
set_option maxRecDepth 100000 in
set_option maxHeartbeats 4000000 in
theorem addState_X (base bb most : Nat) (S : List BS) (M : Nat → Nat → Bool) (A : List Int) (s : BS) (G : Nat → Prop) (W : World) (h : BX G W base bb most S M A) (hlen : S.length < 1000) :
    Calls Tryd.prog 47 #[.pointer (some ⟨bb, 0, none⟩), .agg #[.int .u64 (ws s 0 : Int), .int .u64 (ws s 1 : Int), .int .u64 (ws s 2 : Int), .int .u64 (ws s 3 : Int)]] W fun e w' => e = .returned (.int .i64 (S.length : Int)) ∧ (∃ G', BX G' w' base bb most (S ++ [s]) M (A ++ [-1]) ∧ ∀ b, G' b → G b ∨ W.heap.size ≤ b) ∧ Kept (fun b => G b ∨ W.heap.size ≤ b) W w' := by
  obtain ⟨sv, av, cv, rb, h⟩ := h
  exact addState_any base bb most S M A s G W sv av cv rb h hlen
theorem addArcs_X (base bb most : Nat) (S : List BS) (M : Nat → Nat → Bool) (A : List Int) (G : Nat → Prop) (W : World) (fv tv : Value) (h : BX G W base bb most S M A) (F T : List Nat) (bf bt : Nat) (hF : PR G W bf fv F) (hT : PR G W bt tv T) (hFS : ∀ x ∈ F, x < S.length) (hTm : ∀ y ∈ T, y < most) (hFl : F.length ≤ 1000) (hTl : T.length ≤ 1000) :
    Calls Tryd.prog 65 #[.pointer (some ⟨bb, 0, none⟩), fv, tv] W fun e w' => e = .returned (.tuple #[]) ∧ BX G w' base bb most S (addM M F T) A ∧ Kept G W w' := by
  obtain ⟨sv, av, cv, rb, h⟩ := h
  refine (addArcs_any base bb most S M A G W sv av cv fv tv rb h F T bf bt hF hT hFS hTm hFl hTl).mono ?_
  rintro e w' ⟨rfl, h1, h2⟩
  exact ⟨rfl, ⟨sv, av, cv, rb, h1⟩, h2⟩
theorem own_one {W : World} {e : TypeId} {v : Value} {g : Nat} (hb : W.heap[g]? = some (.cells #[v] e (0, 0))) {base : Nat} (hbase : base ≤ g) : W.ownsRow base e 1 (.slice (some ⟨g, 0, none⟩) 1 1) 1 [v] :=
  ⟨rfl, .inr ⟨g, 1, #[v], rfl, hbase, hb, Nat.le_refl _, by decide, rfl, rfl⟩⟩
set_option maxRecDepth 100000 in
set_option maxHeartbeats 4000000 in
theorem set_any (s : BS) : TS 83 (.mk 3 s []) := by
  intro base bb most S M A G g W cs h hrc hg hm
  obtain ⟨a, n, c, rfl, hK⟩ := RC_mk.1 hrc
  have HB := hid h
  show Calls Tryd.prog 83 #[.pointer (some ⟨bb, 0, none⟩), .agg #[.int .i64 3, .int .u64 (ws s 0 : Int), .int .u64 (ws s 1 : Int), .int .u64 (ws s 2 : Int), .int .u64 (ws s 3 : Int), .slice a n c]] W _
  obtain ⟨X, hX⟩ : ∃ X, X = (W.alloc (.cells #[.int .i64 3, .int .u64 (ws s 0 : Int), .int .u64 (ws s 1 : Int), .int .u64 (ws s 2 : Int), .int .u64 (ws s 3 : Int), .slice a n c] 50)).alloc (.cells #[.bool false, .slice none 0 0, .slice none 0 0] 108) := ⟨_, rfl⟩
  have BXX := hid (show Below W.heap.size W X ∧ X.heap.size = W.heap.size + 2 from by rw [hX]; exact ⟨(bel1 _ _).alloc (by simp) _, by simp⟩)
  have hz : X.heap[W.heap.size + 1]? = some (.cells #[.bool false, .slice none 0 0, .slice none 0 0] 108 (0, 0)) := by rw [hX]; exact (by simpa using alloc_new (W.alloc (.cells #[.int .i64 3, .int .u64 (ws s 0 : Int), .int .u64 (ws s 1 : Int), .int .u64 (ws s 2 : Int), .int .u64 (ws s 3 : Int), .slice a n c] 50)) _)
  have hx6 : X.heap[W.heap.size]? = some (.cells #[.int .i64 3, .int .u64 (ws s 0 : Int), .int .u64 (ws s 1 : Int), .int .u64 (ws s 2 : Int), .int .u64 (ws s 3 : Int), .slice a n c] 50 (0, 0)) := by rw [hX]; exact blk_alloc (alloc_new _ _)
  have hl : S.length < 1000 := by have := h.most; rw [np_mk, if_pos rfl] at hm; omega
  have hlt := hid h.lt
  have CA := hid (addState_X base bb most S M A s G X (HB.out.below BXX.out.1) hl)
  have HXX := hid (And.intro hz hx6)
  obtain ⟨z0, z1, z2⟩ := cells3 hz
  obtain ⟨c0, c1, c2, c3, c4, c5⟩ := cells6 hx6
  clear hz hx6 h hrc hg hK
  go_enter Tryd.func83, Tryd.ntmps83
  go_upto_region 1 with fail
  rw [← hX]
  clear hX
  go_wp2_with fail
  refine CA.out.mono ?_
  rintro e w1 ⟨rfl, ⟨G', hbx, hG'⟩, hkp⟩
  have hs1 := hkp.size
  have hBX2 := BXX.out.2
  have hz1 : w1.heap[W.heap.size + 1]? = some (.cells #[.bool false, .slice none 0 0, .slice none 0 0] 108 (0, 0)) := (hkp.block _ (by rintro (e | e); have := (hlt.out _ e).2; omega; have := BXX.out.2; omega)).trans HXX.out.1
  have H1 := hid (And.intro hbx (And.intro hG' (And.intro hkp hz1)))
  clear hbx hG' hkp CA z0 z1 z2 c0 c1 c2 c3 c4 c5
  have hzY : ((w1.alloc (.cells #[.int .i64 (S.length : Int)] 3)).alloc (.cells #[.int .i64 (S.length : Int)] 3)).heap[W.heap.size + 1]? = some (.cells #[.bool false, .slice none 0 0, .slice none 0 0] 108 (0, 0)) := blk_alloc (blk_alloc hz1)
  obtain ⟨f0, f1, f2⟩ := frozen3 hzY
  obtain ⟨z0, z1, z2⟩ := cells3 hzY
  have hb6 := three_set (x' := .bool false) (y' := .slice (some ⟨w1.heap.size, 0, none⟩) 1 1) (z' := .slice (some ⟨w1.heap.size + 1, 0, none⟩) 1 1) hzY
  obtain ⟨y0, y1, y2⟩ := cells3 hb6
  have HY := hid (far3 (x' := .bool false) (y' := .slice (some ⟨w1.heap.size, 0, none⟩) 1 1) (z' := .slice (some ⟨w1.heap.size + 1, 0, none⟩) 1 1) (B := W.heap.size + 1) (blk_alloc (o' := .cells #[.int .i64 (S.length : Int)] 3) (alloc_new w1 (.cells #[.int .i64 (S.length : Int)] 3))) (by omega))
  have HY2 := hid (far3 (x' := .bool false) (y' := .slice (some ⟨w1.heap.size, 0, none⟩) 1 1) (z' := .slice (some ⟨w1.heap.size + 1, 0, none⟩) 1 1) (B := W.heap.size + 1) (alloc_at (w1.alloc (.cells #[.int .i64 (S.length : Int)] 3)) (.cells #[.int .i64 (S.length : Int)] 3) (b := w1.heap.size + 1) (by simp)) (by omega))
  have HK := hid ((((((Kept.refl (fun b => b = W.heap.size + 1 ∨ w1.heap.size ≤ b) w1).alloc (fun b hb => .inr hb) (.cells #[.int .i64 (S.length : Int)] 3)).alloc (fun b hb => .inr (by simp at hb; omega)) (.cells #[.int .i64 (S.length : Int)] 3)).setCell (p := ⟨W.heap.size + 1, 0, none⟩) (.inl rfl) (.bool false)).setCell (p := ⟨W.heap.size + 1, 1, none⟩) (.inl rfl) (.slice (some ⟨w1.heap.size, 0, none⟩) 1 1)).setCell (p := ⟨W.heap.size + 1, 2, none⟩) (.inl rfl) (.slice (some ⟨w1.heap.size + 1, 0, none⟩) 1 1))
  clear hz1 hzY hb6
  go_wp2
  refine bodyPost_ret (v := .agg #[.bool false, .slice (some ⟨w1.heap.size, 0, none⟩) 1 1, .slice (some ⟨w1.heap.size + 1, 0, none⟩) 1 1]) ?_ rfl ?_
  · simp [results, Tryd.results83, go_sem, y0, y1, y2]
  · obtain ⟨hbx, hG', hkp, _⟩ := H1.out
    have hnG : ∀ b, G' b → ¬ (b = W.heap.size + 1 ∨ w1.heap.size ≤ b) := fun b hb => by
      have h1 := (hbx.lt b hb).2
      rcases hG' b hb with h | h
      · have := (hlt.out b h).2; omega
      · omega
    have hnG2 : ∀ b, w1.heap.size ≤ b → ¬ G' b := fun b hb h => hnG b h (.inr hb)
    have hpr : orM M (pr (Rx.mk 3 s []) S.length) = M := by funext x y; simp [orM, pr_mk]
    refine ⟨.slice (some ⟨w1.heap.size, 0, none⟩) 1 1, .slice (some ⟨w1.heap.size + 1, 0, none⟩) 1 1, by simp [nul], G', ?_, fun b hb => (hG' b hb).imp_right fun h => by omega, ?_, ?_, ?_⟩
    · rw [os_mk, if_pos rfl, np_mk, if_pos rfl, hpr]
      exact hbx.kept HK.out hnG
    · rw [fst_mk, if_pos rfl]
      exact ⟨own_one HY.out (by omega), fun k hk => by simp [Value.ownBlock] at hk; subst hk; exact hnG2 _ (Nat.le_refl _)⟩
    · rw [las_mk, if_pos rfl]
      exact ⟨own_one HY2.out (by omega), fun k hk => by simp [Value.ownBlock] at hk; subst hk; exact hnG2 _ (Nat.le_succ _)⟩
    · refine ((Kept.below BXX.out.1 fun b hb => .inr hb).trans (hkp.mono fun b hb => hb.imp_right fun h => by omega)).trans (HK.out.mono fun b hb => .inr (by rcases hb with h | h <;> omega))
end Go.Proofs.YtogpnlkjcdedlaaDoor
