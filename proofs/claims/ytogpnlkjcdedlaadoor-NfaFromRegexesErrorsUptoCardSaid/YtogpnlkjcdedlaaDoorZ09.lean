/-
  Contract: addArcs.
  Contracts: none, empty, set: the translations without kids.
-/
import Derived.Test.YtogpnlkjcdedlaaDoorZ08
import Derived.Test.YtogpnlkjcdedlaaDoorZ02
section
set_option linter.unusedSimpArgs false
set_option linter.unusedVariables false
namespace Go.Proofs.YtogpnlkjcdedlaaDoor
open Go.RowKit Bs Rg Nf Go.Frame
attribute [local go_sem] eq_zero eq_set

theorem own_cell {W : World} {base e n c i : Nat} {a : Option Addr} {xs : List Value} {x : Value} (h : W.ownsRow base e 1 (.slice a n c) n xs) (hx : xs[i]? = some x) : ∃ g, a = some ⟨g, 0, none⟩ ∧ g < W.heap.size ∧ W.cell? ⟨g, i, none⟩ = some x ∧ (Value.slice a n c).ownBlock = some g := by
  have hl : xs.length = n := by have := h.1; omega
  have hi := (List.getElem?_eq_some_iff.1 hx).1
  rcases h.2 with ⟨e, h0⟩ | ⟨g, cap, cur, e, hb, hgg, hn2, _, hc2, ht⟩
  · omega
  · simp only [Value.slice.injEq] at e
    obtain ⟨rfl, _, _⟩ := e
    refine ⟨g, rfl, heap_lt hgg, ?_, rfl⟩
    have h2 := hx
    rw [← ht, List.getElem?_take] at h2
    split at h2
    · simp only [World.cell?, hgg]; simpa using h2
    · cases h2
/-- A row of numbers that is no part of the builder. -/
def PR (G : Nat → Prop) (W : World) (base : Nat) (v : Value) (l : List Nat) : Prop := W.ownsRow base 3 1 v l.length (ints l) ∧ ∀ k, v.ownBlock = some k → ¬ G k
theorem PR.kept {G F : Nat → Prop} {W W' : World} {base : Nat} {v : Value} {l : List Nat} (h : PR G W base v l) (hk : Kept F W W') (hF : ∀ k, v.ownBlock = some k → ¬ F k) : PR G W' base v l := ⟨own_kept h.1 hk hF, h.2⟩
theorem PR.below {G : Nat → Prop} {W W' : World} {base : Nat} {v : Value} {l : List Nat} (h : PR G W base v l) (hb : Below W.heap.size W W') : PR G W' base v l := ⟨ownsRow_keep h.1 fun k hk => hb.block k (h.1.lt k hk).2, h.2⟩
def setM (M : Nat → Nat → Bool) (f t : Nat) : Nat → Nat → Bool := fun x y => M x y || (decide (x = f) && decide (y = t))
def addM (M : Nat → Nat → Bool) (F T : List Nat) : Nat → Nat → Bool := fun x y => M x y || (F.contains x && T.contains y)
theorem addM_nil (M : Nat → Nat → Bool) (T : List Nat) : addM M [] T = M := by funext x y; simp [addM]
theorem addM_nil' (M : Nat → Nat → Bool) (F : List Nat) : addM M F [] = M := by funext x y; simp [addM]
theorem addM_row {M : Nat → Nat → Bool} {F T : List Nat} {i f : Nat} (h : F[i]? = some f) : addM (addM M (F.take i) T) [f] T = addM M (F.take (i + 1)) T := by
  funext x y
  simp only [addM, List.take_add_one, h]
  rw [Bool.eq_iff_iff]
  simp
  grind
theorem addM_one {M : Nat → Nat → Bool} {T : List Nat} {j f t : Nat} (h : T[j]? = some t) : setM (addM M [f] (T.take j)) f t = addM M [f] (T.take (j + 1)) := by
  funext x y
  simp only [addM, setM, List.take_add_one, h]
  rw [Bool.eq_iff_iff]
  simp
  grind
theorem bl_set {G : Nat → Bool} {N t : Nat} (h : t < N) : (bl G N).toArray.setIfInBounds t (.bool true) = (bl (fun y => G y || decide (y = t)) N).toArray := by
  apply Array.ext'
  simp only [Array.toList_setIfInBounds]
  apply List.ext_getElem?
  intro i
  rw [List.getElem?_set]
  by_cases hi : i < N
  · rw [bl_get _ hi]
    by_cases e : t = i
    · subst e; rw [if_pos rfl, if_pos (by rw [bl_len]; exact h), bl_get _ hi]; simp
    · rw [if_neg e, bl_get _ hi]
      have e' : ¬ i = t := fun h => e h.symm
      simp [e']
  · rw [List.getElem?_eq_none (by rw [bl_len]; omega)]
    have h1 : ¬ t = i := by omega
    rw [if_neg h1, List.getElem?_eq_none (by rw [bl_len]; omega)]
theorem BD.row_ne {G : Nat → Prop} {W : World} {base bb most : Nat} {S : List BS} {M : Nat → Nat → Bool} {A : List Int} {sv av cv : Value} {rb : Nat → Nat} (h : BD G W base bb most S M A sv av cv rb) {f : Nat} (hf : f < S.length) : rb f ≠ bb := fun e => by
  have h1 : W.heap[rb f]? = some (.cells (bl (M f) most).toArray 4 (0, 0)) := (h.rows f hf).1
  rw [e, h.box] at h1
  simp at h1
theorem BD.set {G : Nat → Prop} {W : World} {base bb most : Nat} {S : List BS} {M : Nat → Nat → Bool} {A : List Int} {sv av cv : Value} {rb : Nat → Nat} (h : BD G W base bb most S M A sv av cv rb) {f t : Nat} (hf : f < S.length) (ht : t < most) : BD G (W.setCell ⟨rb f, t, none⟩ (.bool true)) base bb most S (setM M f t) A sv av cv rb := by
  have hrow : W.heap[rb f]? = some (.cells (bl (M f) most).toArray 4 (0, 0)) := (h.rows f hf).1
  have ho : ∀ k, k ≠ rb f → (W.setCell ⟨rb f, t, none⟩ (.bool true)).heap[k]? = W.heap[k]? := fun k hk => heap_setCell_other _ _ _ _ hk
  refine ⟨(ho _ fun e => h.row_ne hf e.symm).trans h.box, ownsRow_keep h.sets fun k hk => ho k fun e => own_ne_block h.sets hrow (by decide) (e ▸ hk), ownsRow_keep h.arcs fun k hk => ho k fun e => own_ne_block h.arcs hrow (by decide) (e ▸ hk), ownsRow_keep h.acc fun k hk => ho k fun e => own_ne_block h.acc hrow (by decide) (e ▸ hk), fun i hi => ⟨?_, (h.rows i hi).2⟩, h.inj, h.gb, h.gs, h.ga, h.gc, fun b hb => by simpa using h.lt b hb, fun i j hi => ?_, h.most_le, h.len⟩
  · by_cases e : i = f
    · subst e
      show _ = _
      rw [blk_put hrow, bl_set ht]
      have h3 : setM M i t i = fun y => M i y || decide (y = t) := by funext y; simp [setM]
      rw [h3]
    · have h1 : rb i ≠ rb f := fun e' => e (h.inj i f hi hf e')
      show _ = _
      rw [ho _ h1]
      have h2 := (h.rows i hi).1
      unfold BR at h2
      rw [h2]
      have h3 : setM M f t i = M i := by funext y; simp [setM, e]
      rw [h3]
  · have e : i ≠ f := by omega
    simp [setM, h.sup i j hi, e]
set_option maxRecDepth 100000 in
set_option maxHeartbeats 4000000 in
theorem addArcs_any (base bb most : Nat) (S : List BS) (M : Nat → Nat → Bool) (A : List Int) (G : Nat → Prop) (W : World) (sv av cv fv tv : Value) (rb : Nat → Nat) (h : BD G W base bb most S M A sv av cv rb) (F T : List Nat) (bf bt : Nat) (hF : PR G W bf fv F) (hT : PR G W bt tv T) (hFS : ∀ x ∈ F, x < S.length) (hTm : ∀ y ∈ T, y < most) (hFl : F.length ≤ 1000) (hTl : T.length ≤ 1000) :
    Calls Tryd.prog 65 #[.pointer (some ⟨bb, 0, none⟩), fv, tv] W fun e w' => e = .returned (.tuple #[]) ∧ BD G w' base bb most S (addM M F T) A sv av cv rb ∧ Kept G W w' := by
  obtain ⟨fa, fc, rfl⟩ := own_form hF.1
  obtain ⟨ta, tc, rfl⟩ := own_form hT.1
  obtain ⟨sa, sc, rfl⟩ := own_form h.sets
  obtain ⟨aa, ac, rfl⟩ := own_form h.arcs
  obtain ⟨ca, cc, rfl⟩ := own_form h.acc
  obtain ⟨fl, hfl⟩ : ∃ fl, fl = F.length := ⟨_, rfl⟩
  obtain ⟨tl, htl⟩ : ∃ tl, tl = T.length := ⟨_, rfl⟩
  obtain ⟨n, hn⟩ : ∃ n, n = S.length := ⟨_, rfl⟩
  have HL := hid (And.intro hfl (And.intro htl hn))
  have HB := hid h
  have H0 := hid (And.intro hF (And.intro hT (And.intro hFS hTm)))
  have hnn : n ≤ 1000 := by rw [hn]; exact h.len
  have hmm : most ≤ 1000 := h.most_le
  rw [← hfl] at hFl ⊢
  rw [← htl] at hTl ⊢
  rw [← hn] at HB ⊢
  clear h hF hT hFS hTm hfl htl hn
  go_enter Tryd.func65, Tryd.ntmps65
  go_wp2_with fail
  go_loopg [12] fl (fun kk s12 wr => ∃ i : Nat, s12 = .int .i64 (i : Int) ∧ i + kk = fl ∧ BD G wr base bb most S (addM M (F.take i) T) A (.slice sa n sc) (.slice aa n ac) (.slice ca n cc) rb ∧ Kept G W wr)
  case atStart => exact ⟨0, rfl, by omega, by rw [List.take_zero, addM_nil]; exact HB.out, Kept.refl _ _⟩
  case round =>
    obtain ⟨i, rfl, hik, hbd, hkp⟩ := hrel
    by_cases hlt : i < fl
    · have hlt' : (i : Int) < (fl : Int) := by omega
      have hi0 : (0 : Int) ≤ (i : Int) := by omega
      obtain ⟨x, hx⟩ : ∃ x, F[i]? = some x := ⟨F[i]'(by have := HL.out.1; omega), List.getElem?_eq_getElem _⟩
      have hF1 := own_kept H0.out.1.1 hkp H0.out.1.2
      rw [← HL.out.1] at hF1
      obtain ⟨g, rfl, hgl, hgc, _⟩ := own_cell hF1 (Go.Frame.ints_at hx)
      have HD := hid (And.intro hx (And.intro hbd (And.intro hkp hik)))
      clear hbd hkp hx hF1
      go_wp2_with fail
      obtain ⟨go, rfl⟩ : ∃ go, go = gk := ⟨_, rfl⟩
      go_loopg [18] tl (fun k3 s18 wr2 => ∃ j : Nat, s18 = .int .i64 (j : Int) ∧ j + k3 = tl ∧ BD G wr2 base bb most S (addM (addM M (F.take i) T) [x] (T.take j)) A (.slice sa n sc) (.slice aa n ac) (.slice ca n cc) rb ∧ Kept G W wr2)
      case atStart => exact ⟨0, rfl, by omega, by rw [List.take_zero, addM_nil']; exact HD.out.2.1, HD.out.2.2.1⟩
      case round =>
        obtain ⟨j, rfl, hjk, hbd, hkp⟩ := hrel
        have hj0 : (0 : Int) ≤ (j : Int) := by omega
        by_cases hlt2 : j < tl
        · have hlt2' : (j : Int) < (tl : Int) := by omega
          obtain ⟨y, hy⟩ : ∃ y, T[j]? = some y := ⟨T[j]'(by have := HL.out.2.1; omega), List.getElem?_eq_getElem _⟩
          have hT1 := own_kept H0.out.2.1.1 hkp H0.out.2.1.2
          rw [← HL.out.2.1] at hT1
          obtain ⟨g2, rfl, hg2l, hg2c, _⟩ := own_cell hT1 (Go.Frame.ints_at hy)
          have hxS : x < S.length := H0.out.2.2.1 x (List.mem_of_getElem? HD.out.1)
          have hym : y < most := H0.out.2.2.2 y (List.mem_of_getElem? hy)
          have harc := hbd.arcs
          rw [← HL.out.2.2] at harc hxS
          obtain ⟨g3, e3, hg3l, hg3c, _⟩ := own_cell (i := x) (x := .slice (some ⟨rb x, 0, none⟩) most most) harc (by simp [mrows, hxS])
          obtain ⟨d0, d1, d2, d3⟩ := cells4 hbd.box
          rw [e3] at d2
          have hrow : wr.heap[rb x]? = some (.cells (bl (addM (addM M (F.take i) T) [x] (T.take j) x) most).toArray 4 (0, 0)) := (hbd.rows x (by rw [← HL.out.2.2]; exact hxS)).1
          have fr := Go.Frame.free hrow y
          have hc9 := BR.cell (show BR wr (rb x) most _ from hrow) hym
          have hx0 : (0 : Int) ≤ (x : Int) := by omega
          have hxn : (x : Int) < (n : Int) := by omega
          have hy0 : (0 : Int) ≤ (y : Int) := by omega
          have hyn : (y : Int) < (most : Int) := by omega
          have HE := hid (And.intro hbd (And.intro hkp (And.intro hjk (And.intro hy (And.intro hxS hym)))))
          clear hbd hkp hy hT1 harc hxS hym hrow
          go_wp2
          go_roundg (gk - 1)
          case measure => have := HE.out.2.2.1; omega
          case rel =>
            obtain ⟨hbd, hkp, hjk, hy, hxS, hym⟩ := HE.out
            refine ⟨j + 1, by go_num, by omega, ?_, hkp.setCell (hbd.rows x (by rw [← HL.out.2.2]; exact hxS)).2 _⟩
            rw [← addM_one hy]
            exact hbd.set (by rw [← HL.out.2.2]; exact hxS) hym
        · have hlt2' : ¬ (j : Int) < (tl : Int) := by omega
          have HE := hid (And.intro hbd (And.intro hkp hjk))
          clear hbd hkp
          go_wp2
          go_roundg (go - 1)
          case measure => have := HD.out.2.2.2; omega
          case rel =>
            refine ⟨i + 1, by go_num, by have := HD.out.2.2.2; omega, ?_, HE.out.2.1⟩
            rw [← addM_row HD.out.1]
            have h9 := HE.out.1
            rw [show T.take j = T from List.take_of_length_le (by have := HL.out.2.1; omega)] at h9
            exact h9
    · have hlt' : ¬ (i : Int) < (fl : Int) := by omega
      have HE := hid (And.intro hbd hkp)
      clear hbd hkp
      go_wp2
      go_end0
      refine ⟨rfl, ?_, HE.out.2⟩
      have h9 := HE.out.1
      rw [List.take_of_length_le (by have := HL.out.1; omega)] at h9
      exact h9
end Go.Proofs.YtogpnlkjcdedlaaDoor
end
section
set_option linter.unusedSimpArgs false
set_option linter.unusedVariables false
namespace Go.Proofs.YtogpnlkjcdedlaaDoor
open Go.RowKit Bs Rg Nf Go.Frame
attribute [local go_sem] eq_zero eq_set

theorem BX.below {G : Nat → Prop} {W W' : World} {base bb most : Nat} {S : List BS} {M : Nat → Nat → Bool} {A : List Int} (h : BX G W base bb most S M A) (hb : Below W.heap.size W W') : BX G W' base bb most S M A := by
  obtain ⟨sv, av, cv, rb, h⟩ := h
  exact ⟨sv, av, cv, rb, h.below hb⟩
theorem BX.kept {G F : Nat → Prop} {W W' : World} {base bb most : Nat} {S : List BS} {M : Nat → Nat → Bool} {A : List Int} (h : BX G W base bb most S M A) (hk : Kept F W W') (hF : ∀ b, G b → ¬ F b) : BX G W' base bb most S M A := by
  obtain ⟨sv, av, cv, rb, h⟩ := h
  exact ⟨sv, av, cv, rb, h.kept hk hF⟩
theorem BX.lt {G : Nat → Prop} {W : World} {base bb most : Nat} {S : List BS} {M : Nat → Nat → Bool} {A : List Int} (h : BX G W base bb most S M A) : ∀ b, G b → base ≤ b ∧ b < W.heap.size := by
  obtain ⟨sv, av, cv, rb, h⟩ := h
  exact h.lt
theorem BX.most {G : Nat → Prop} {W : World} {base bb most : Nat} {S : List BS} {M : Nat → Nat → Bool} {A : List Int} (h : BX G W base bb most S M A) : most ≤ 1000 := by
  obtain ⟨sv, av, cv, rb, h⟩ := h
  exact h.most_le
theorem PR.nil (G : Nat → Prop) (W : World) (base : Nat) : PR G W base (.slice none 0 0) [] := ⟨⟨rfl, .inl ⟨rfl, rfl⟩⟩, fun k hk => by simp [Value.ownBlock] at hk⟩
theorem own_mono {W : World} {base base' e s n : Nat} {v : Value} {xs : List Value} (h : W.ownsRow base' e s v n xs) (hb : base ≤ base') : W.ownsRow base e s v n xs := by
  refine ⟨h.1, h.2.imp id ?_⟩
  rintro ⟨g, cap, cur, e1, hb1, rest⟩
  exact ⟨g, cap, cur, e1, Nat.le_trans hb hb1, rest⟩
theorem PR.mono {G : Nat → Prop} {W : World} {base base' : Nat} {v : Value} {l : List Nat} (h : PR G W base' v l) (hb : base ≤ base') : PR G W base v l := ⟨own_mono h.1 hb, h.2⟩
def orM (M P : Nat → Nat → Bool) : Nat → Nat → Bool := fun x y => M x y || P x y
/-- What a translation answers. -/
def TR (r : Rx) (base bb most : Nat) (S : List BS) (M : Nat → Nat → Bool) (A : List Int) (G : Nat → Prop) (W : World) (e : Ending) (w' : World) : Prop :=
  ∃ fv lv, e = .returned (.agg #[.bool (nul r), fv, lv]) ∧ ∃ G', BX G' w' base bb most (S ++ os r) (orM M (pr r S.length)) (A ++ List.replicate (np r) (-1)) ∧ (∀ b, G' b → G b ∨ W.heap.size ≤ b) ∧ PR G' w' W.heap.size fv (fst r S.length) ∧ PR G' w' W.heap.size lv (las r S.length) ∧ Kept (fun b => G b ∨ W.heap.size ≤ b) W w'
/-- Function f translates r. -/
def TS (f : Nat) (r : Rx) : Prop := ∀ (base bb most : Nat) (S : List BS) (M : Nat → Nat → Bool) (A : List Int) (G g : Nat → Prop) (W : World) (cs : List Value), BX G W base bb most S M A → RC g W r cs → (∀ b, g b → ¬ G b) → S.length + np r ≤ most → Calls Tryd.prog f #[.pointer (some ⟨bb, 0, none⟩), .agg cs.toArray] W (TR r base bb most S M A G W)
theorem TR.leaf {r : Rx} {base bb most : Nat} {S : List BS} {M : Nat → Nat → Bool} {A : List Int} {G : Nat → Prop} {W w' : World} (h : BX G W base bb most S M A) (hb : Below W.heap.size W w') (h1 : os r = []) (h2 : np r = 0) (h3 : fst r S.length = []) (h4 : las r S.length = []) (h5 : ∀ i j, pr r S.length i j = false) : TR r base bb most S M A G W (.returned (.agg #[.bool (nul r), .slice none 0 0, .slice none 0 0])) w' := by
  refine ⟨_, _, rfl, G, ?_, fun b hb => .inl hb, by rw [h3]; exact PR.nil _ _ _, by rw [h4]; exact PR.nil _ _ _, Kept.below hb fun b hb => .inr hb⟩
  have e : orM M (pr r S.length) = M := by funext x y; simp [orM, h5]
  rw [h1, h2, e]
  simpa using h.below hb
set_option maxRecDepth 100000 in
set_option maxHeartbeats 4000000 in
theorem none_any (s : BS) : TS 81 (.mk 1 s []) := by
  intro base bb most S M A G g W cs h hrc hg hm
  obtain ⟨a, n, c, rfl, hK⟩ := RC_mk.1 hrc
  have HB := hid h
  show Calls Tryd.prog 81 #[.pointer (some ⟨bb, 0, none⟩), .agg #[.int .i64 1, .int .u64 (ws s 0 : Int), .int .u64 (ws s 1 : Int), .int .u64 (ws s 2 : Int), .int .u64 (ws s 3 : Int), .slice a n c]] W _
  obtain ⟨X, hX⟩ : ∃ X, X = (W.alloc (.cells #[.int .i64 1, .int .u64 (ws s 0 : Int), .int .u64 (ws s 1 : Int), .int .u64 (ws s 2 : Int), .int .u64 (ws s 3 : Int), .slice a n c] 50)).alloc (.cells #[.bool false, .slice none 0 0, .slice none 0 0] 108) := ⟨_, rfl⟩
  have BXX := hid (show Below W.heap.size W X ∧ X.heap.size = W.heap.size + 2 from by rw [hX]; exact ⟨(bel1 _ _).alloc (by simp) _, by simp⟩)
  have hz : X.heap[W.heap.size + 1]? = some (.cells #[.bool false, .slice none 0 0, .slice none 0 0] 108 (0, 0)) := by rw [hX]; exact (by simpa using alloc_new (W.alloc (.cells #[.int .i64 1, .int .u64 (ws s 0 : Int), .int .u64 (ws s 1 : Int), .int .u64 (ws s 2 : Int), .int .u64 (ws s 3 : Int), .slice a n c] 50)) _)
  have hx6 : X.heap[W.heap.size]? = some (.cells #[.int .i64 1, .int .u64 (ws s 0 : Int), .int .u64 (ws s 1 : Int), .int .u64 (ws s 2 : Int), .int .u64 (ws s 3 : Int), .slice a n c] 50 (0, 0)) := by rw [hX]; exact blk_alloc (alloc_new _ _)
  clear h hrc hg hK hx6
  have HF : nul (Rx.mk 1 s []) = false := by simp [nul]
  have HT := hid (fun w' hb => TR.leaf (r := .mk 1 s []) HB.out (w' := w') hb (by rw [os_mk, if_neg (by omega)]; rfl) (by rw [np_mk, if_neg (by omega)]; rfl) (by rw [fst_mk, if_neg (by omega), if_neg (by omega), fstU_nil]) (by rw [las_mk, if_neg (by omega), if_neg (by omega), lasU_nil]) (fun i j => by rw [pr_mk, if_neg (by omega), if_neg (by omega), prU_nil]; simp))
  rw [HF] at HT
  obtain ⟨z0, z1, z2⟩ := cells3 hz
  obtain ⟨f0, f1, f2⟩ := frozen3 hz
  have hb6 := three_set (x' := .bool false) (y' := .slice none 0 0) (z' := .slice none 0 0) hz
  obtain ⟨y0, y1, y2⟩ := cells3 hb6
  clear hz hb6
  go_enter Tryd.func81, Tryd.ntmps81
  go_upto_region 1 with fail
  rw [← hX]
  clear hX
  go_wp2
  refine bodyPost_ret (v := .agg #[.bool false, .slice none 0 0, .slice none 0 0]) ?_ rfl (HT.out _ ?_)
  · simp [results, Tryd.results81, go_sem, y0, y1, y2]
  · exact below_put (below_put (below_put BXX.out.1 (Nat.le_succ _)) (Nat.le_succ _)) (Nat.le_succ _)
set_option maxRecDepth 100000 in
set_option maxHeartbeats 4000000 in
theorem empty_any (s : BS) : TS 82 (.mk 2 s []) := by
  intro base bb most S M A G g W cs h hrc hg hm
  obtain ⟨a, n, c, rfl, hK⟩ := RC_mk.1 hrc
  have HB := hid h
  show Calls Tryd.prog 82 #[.pointer (some ⟨bb, 0, none⟩), .agg #[.int .i64 2, .int .u64 (ws s 0 : Int), .int .u64 (ws s 1 : Int), .int .u64 (ws s 2 : Int), .int .u64 (ws s 3 : Int), .slice a n c]] W _
  obtain ⟨X, hX⟩ : ∃ X, X = (W.alloc (.cells #[.int .i64 2, .int .u64 (ws s 0 : Int), .int .u64 (ws s 1 : Int), .int .u64 (ws s 2 : Int), .int .u64 (ws s 3 : Int), .slice a n c] 50)).alloc (.cells #[.bool false, .slice none 0 0, .slice none 0 0] 108) := ⟨_, rfl⟩
  have BXX := hid (show Below W.heap.size W X ∧ X.heap.size = W.heap.size + 2 from by rw [hX]; exact ⟨(bel1 _ _).alloc (by simp) _, by simp⟩)
  have hz : X.heap[W.heap.size + 1]? = some (.cells #[.bool false, .slice none 0 0, .slice none 0 0] 108 (0, 0)) := by rw [hX]; exact (by simpa using alloc_new (W.alloc (.cells #[.int .i64 2, .int .u64 (ws s 0 : Int), .int .u64 (ws s 1 : Int), .int .u64 (ws s 2 : Int), .int .u64 (ws s 3 : Int), .slice a n c] 50)) _)
  have hx6 : X.heap[W.heap.size]? = some (.cells #[.int .i64 2, .int .u64 (ws s 0 : Int), .int .u64 (ws s 1 : Int), .int .u64 (ws s 2 : Int), .int .u64 (ws s 3 : Int), .slice a n c] 50 (0, 0)) := by rw [hX]; exact blk_alloc (alloc_new _ _)
  clear h hrc hg hK hx6
  have HF : nul (Rx.mk 2 s []) = true := by simp [nul]
  have HT := hid (fun w' hb => TR.leaf (r := .mk 2 s []) HB.out (w' := w') hb (by rw [os_mk, if_neg (by omega)]; rfl) (by rw [np_mk, if_neg (by omega)]; rfl) (by rw [fst_mk, if_neg (by omega), if_neg (by omega), fstU_nil]) (by rw [las_mk, if_neg (by omega), if_neg (by omega), lasU_nil]) (fun i j => by rw [pr_mk, if_neg (by omega), if_neg (by omega), prU_nil]; simp))
  rw [HF] at HT
  obtain ⟨z0, z1, z2⟩ := cells3 hz
  obtain ⟨f0, f1, f2⟩ := frozen3 hz
  have hb6 := three_set (x' := .bool true) (y' := .slice none 0 0) (z' := .slice none 0 0) hz
  obtain ⟨y0, y1, y2⟩ := cells3 hb6
  clear hz hb6
  go_enter Tryd.func82, Tryd.ntmps82
  go_upto_region 1 with fail
  rw [← hX]
  clear hX
  go_wp2
  refine bodyPost_ret (v := .agg #[.bool true, .slice none 0 0, .slice none 0 0]) ?_ rfl (HT.out _ ?_)
  · simp [results, Tryd.results82, go_sem, y0, y1, y2]
  · exact below_put (below_put (below_put BXX.out.1 (Nat.le_succ _)) (Nat.le_succ _)) (Nat.le_succ _)
set_option maxRecDepth 100000 in
set_option maxHeartbeats 4000000 in
theorem addState_X (base bb most : Nat) (S : List BS) (M : Nat → Nat → Bool) (A : List Int) (s : BS) (G : Nat → Prop) (W : World) (h : BX G W base bb most S M A) (hlen : S.length < 1000) :
    Calls Tryd.prog 47 #[.pointer (some ⟨bb, 0, none⟩), .agg #[.int .u64 (ws s 0 : Int), .int .u64 (ws s 1 : Int), .int .u64 (ws s 2 : Int), .int .u64 (ws s 3 : Int)]] W fun e w' => e = .returned (.int .i64 (S.length : Int)) ∧ (∃ G', BX G' w' base bb most (S ++ [s]) M (A ++ [-1]) ∧ ∀ b, G' b → G b ∨ W.heap.size ≤ b) ∧ Kept (fun b => G b ∨ W.heap.size ≤ b) W w' := by
  obtain ⟨sv, av, cv, rb, h⟩ := h
  exact addState_any base bb most S M A s G W sv av cv rb h hlen
theorem addArcs_X (base bb most : Nat) (S : List BS) (M : Nat → Nat → Bool) (A : List Int) (G : Nat → Prop) (W : World) (fv tv : Value) (h : BX G W base bb most S M A) (F T : List Nat) (bf bt : Nat) (hF : PR G W bf fv F) (hT : PR G W bt tv T) (hFS : ∀ x ∈ F, x < S.length) (hTm : ∀ y ∈ T, y < most) (hFl : F.length ≤ 1000) (hTl : T.length ≤ 1000) :
    Calls Tryd.prog 65 #[.pointer (some ⟨bb, 0, none⟩), fv, tv] W fun e w' => e = .returned (.tuple #[]) ∧ BX G w' base bb most S (addM M F T) A ∧ Kept G W w' := by
  obtain ⟨sv, av, cv, rb, h⟩ := h
  refine (addArcs_any base bb most S M A G W sv av cv fv tv rb h F T bf bt hF hT hFS hTm hFl hTl).mono ?_
  rintro e w' ⟨rfl, h1, h2⟩
  exact ⟨rfl, ⟨sv, av, cv, rb, h1⟩, h2⟩
theorem own_one {W : World} {e : TypeId} {v : Value} {g : Nat} (hb : W.heap[g]? = some (.cells #[v] e (0, 0))) {base : Nat} (hbase : base ≤ g) : W.ownsRow base e 1 (.slice (some ⟨g, 0, none⟩) 1 1) 1 [v] :=
  ⟨rfl, .inr ⟨g, 1, #[v], rfl, hbase, hb, Nat.le_refl _, by decide, rfl, rfl⟩⟩
set_option maxRecDepth 100000 in
set_option maxHeartbeats 4000000 in
theorem set_any (s : BS) : TS 83 (.mk 3 s []) := by
  intro base bb most S M A G g W cs h hrc hg hm
  obtain ⟨a, n, c, rfl, hK⟩ := RC_mk.1 hrc
  have HB := hid h
  show Calls Tryd.prog 83 #[.pointer (some ⟨bb, 0, none⟩), .agg #[.int .i64 3, .int .u64 (ws s 0 : Int), .int .u64 (ws s 1 : Int), .int .u64 (ws s 2 : Int), .int .u64 (ws s 3 : Int), .slice a n c]] W _
  obtain ⟨X, hX⟩ : ∃ X, X = (W.alloc (.cells #[.int .i64 3, .int .u64 (ws s 0 : Int), .int .u64 (ws s 1 : Int), .int .u64 (ws s 2 : Int), .int .u64 (ws s 3 : Int), .slice a n c] 50)).alloc (.cells #[.bool false, .slice none 0 0, .slice none 0 0] 108) := ⟨_, rfl⟩
  have BXX := hid (show Below W.heap.size W X ∧ X.heap.size = W.heap.size + 2 from by rw [hX]; exact ⟨(bel1 _ _).alloc (by simp) _, by simp⟩)
  have hz : X.heap[W.heap.size + 1]? = some (.cells #[.bool false, .slice none 0 0, .slice none 0 0] 108 (0, 0)) := by rw [hX]; exact (by simpa using alloc_new (W.alloc (.cells #[.int .i64 3, .int .u64 (ws s 0 : Int), .int .u64 (ws s 1 : Int), .int .u64 (ws s 2 : Int), .int .u64 (ws s 3 : Int), .slice a n c] 50)) _)
  have hx6 : X.heap[W.heap.size]? = some (.cells #[.int .i64 3, .int .u64 (ws s 0 : Int), .int .u64 (ws s 1 : Int), .int .u64 (ws s 2 : Int), .int .u64 (ws s 3 : Int), .slice a n c] 50 (0, 0)) := by rw [hX]; exact blk_alloc (alloc_new _ _)
  have hl : S.length < 1000 := by have := h.most; rw [np_mk, if_pos rfl] at hm; omega
  have hlt := hid h.lt
  have CA := hid (addState_X base bb most S M A s G X (HB.out.below BXX.out.1) hl)
  have HXX := hid (And.intro hz hx6)
  obtain ⟨z0, z1, z2⟩ := cells3 hz
  obtain ⟨c0, c1, c2, c3, c4, c5⟩ := cells6 hx6
  clear hz hx6 h hrc hg hK
  go_enter Tryd.func83, Tryd.ntmps83
  go_upto_region 1 with fail
  rw [← hX]
  clear hX
  go_wp2_with fail
  refine CA.out.mono ?_
  rintro e w1 ⟨rfl, ⟨G', hbx, hG'⟩, hkp⟩
  have hs1 := hkp.size
  have hBX2 := BXX.out.2
  have hz1 : w1.heap[W.heap.size + 1]? = some (.cells #[.bool false, .slice none 0 0, .slice none 0 0] 108 (0, 0)) := (hkp.block _ (by rintro (e | e); have := (hlt.out _ e).2; omega; have := BXX.out.2; omega)).trans HXX.out.1
  have H1 := hid (And.intro hbx (And.intro hG' (And.intro hkp hz1)))
  clear hbx hG' hkp CA z0 z1 z2 c0 c1 c2 c3 c4 c5
  have hzY : ((w1.alloc (.cells #[.int .i64 (S.length : Int)] 3)).alloc (.cells #[.int .i64 (S.length : Int)] 3)).heap[W.heap.size + 1]? = some (.cells #[.bool false, .slice none 0 0, .slice none 0 0] 108 (0, 0)) := blk_alloc (blk_alloc hz1)
  obtain ⟨f0, f1, f2⟩ := frozen3 hzY
  obtain ⟨z0, z1, z2⟩ := cells3 hzY
  have hb6 := three_set (x' := .bool false) (y' := .slice (some ⟨w1.heap.size, 0, none⟩) 1 1) (z' := .slice (some ⟨w1.heap.size + 1, 0, none⟩) 1 1) hzY
  obtain ⟨y0, y1, y2⟩ := cells3 hb6
  have HY := hid (far3 (x' := .bool false) (y' := .slice (some ⟨w1.heap.size, 0, none⟩) 1 1) (z' := .slice (some ⟨w1.heap.size + 1, 0, none⟩) 1 1) (B := W.heap.size + 1) (blk_alloc (o' := .cells #[.int .i64 (S.length : Int)] 3) (alloc_new w1 (.cells #[.int .i64 (S.length : Int)] 3))) (by omega))
  have HY2 := hid (far3 (x' := .bool false) (y' := .slice (some ⟨w1.heap.size, 0, none⟩) 1 1) (z' := .slice (some ⟨w1.heap.size + 1, 0, none⟩) 1 1) (B := W.heap.size + 1) (alloc_at (w1.alloc (.cells #[.int .i64 (S.length : Int)] 3)) (.cells #[.int .i64 (S.length : Int)] 3) (b := w1.heap.size + 1) (by simp)) (by omega))
  have HK := hid ((((((Kept.refl (fun b => b = W.heap.size + 1 ∨ w1.heap.size ≤ b) w1).alloc (fun b hb => .inr hb) (.cells #[.int .i64 (S.length : Int)] 3)).alloc (fun b hb => .inr (by simp at hb; omega)) (.cells #[.int .i64 (S.length : Int)] 3)).setCell (p := ⟨W.heap.size + 1, 0, none⟩) (.inl rfl) (.bool false)).setCell (p := ⟨W.heap.size + 1, 1, none⟩) (.inl rfl) (.slice (some ⟨w1.heap.size, 0, none⟩) 1 1)).setCell (p := ⟨W.heap.size + 1, 2, none⟩) (.inl rfl) (.slice (some ⟨w1.heap.size + 1, 0, none⟩) 1 1))
  clear hz1 hzY hb6
  go_wp2
  refine bodyPost_ret (v := .agg #[.bool false, .slice (some ⟨w1.heap.size, 0, none⟩) 1 1, .slice (some ⟨w1.heap.size + 1, 0, none⟩) 1 1]) ?_ rfl ?_
  · simp [results, Tryd.results83, go_sem, y0, y1, y2]
  · obtain ⟨hbx, hG', hkp, _⟩ := H1.out
    have hnG : ∀ b, G' b → ¬ (b = W.heap.size + 1 ∨ w1.heap.size ≤ b) := fun b hb => by
      have h1 := (hbx.lt b hb).2
      rcases hG' b hb with h | h
      · have := (hlt.out b h).2; omega
      · omega
    have hnG2 : ∀ b, w1.heap.size ≤ b → ¬ G' b := fun b hb h => hnG b h (.inr hb)
    have hpr : orM M (pr (Rx.mk 3 s []) S.length) = M := by funext x y; simp [orM, pr_mk]
    refine ⟨.slice (some ⟨w1.heap.size, 0, none⟩) 1 1, .slice (some ⟨w1.heap.size + 1, 0, none⟩) 1 1, by simp [nul], G', ?_, fun b hb => (hG' b hb).imp_right fun h => by omega, ?_, ?_, ?_⟩
    · rw [os_mk, if_pos rfl, np_mk, if_pos rfl, hpr]
      exact hbx.kept HK.out hnG
    · rw [fst_mk, if_pos rfl]
      exact ⟨own_one HY.out (by omega), fun k hk => by simp [Value.ownBlock] at hk; subst hk; exact hnG2 _ (Nat.le_refl _)⟩
    · rw [las_mk, if_pos rfl]
      exact ⟨own_one HY2.out (by omega), fun k hk => by simp [Value.ownBlock] at hk; subst hk; exact hnG2 _ (Nat.le_succ _)⟩
    · refine ((Kept.below BXX.out.1 fun b hb => .inr hb).trans (hkp.mono fun b hb => hb.imp_right fun h => by omega)).trans (HK.out.mono fun b hb => .inr (by rcases hb with h | h <;> omega))
end Go.Proofs.YtogpnlkjcdedlaaDoor
end
