/-
  Contract: addArcs.
-/
import Derived.Test.YtogpnlkjcdedlaaDoorBd
set_option linter.unusedSimpArgs false
set_option linter.unusedVariables false
namespace Go.Proofs.YtogpnlkjcdedlaaDoor
open Go.RowKit Bs Rg Nf Go.Frame
attribute [local go_sem] eq_zero eq_set

theorem own_cell {W : World} {base e n c i : Nat} {a : Option Addr} {xs : List Value} {x : Value} (h : W.ownsRow base e 1 (.slice a n c) n xs) (hx : xs[i]? = some x) : ∃ g, a = some ⟨g, 0, none⟩ ∧ g < W.heap.size ∧ W.cell? ⟨g, i, none⟩ = some x ∧ (Value.slice a n c).ownBlock = some g := by
  have hl : xs.length = n := by have := h.1; omega
  have hi := (List.getElem?_eq_some_iff.1 hx).1
  rcases h.2 with ⟨e, h0⟩ | ⟨g, cap, cur, e, hb, hgg, hn2, _, hc2, ht⟩
  · omega
  · simp only [Value.slice.injEq] at e
    obtain ⟨rfl, _, _⟩ := e
    refine ⟨g, rfl, heap_lt hgg, ?_, rfl⟩
    have h2 := hx
    rw [← ht, List.getElem?_take] at h2
    split at h2
    · simp only [World.cell?, hgg]; simpa using h2
    · cases h2
/-- A row of numbers that is no part of the builder. -/
def PR (G : Nat → Prop) (W : World) (base : Nat) (v : Value) (l : List Nat) : Prop := W.ownsRow base 3 1 v l.length (ints l) ∧ ∀ k, v.ownBlock = some k → ¬ G k
theorem PR.kept {G F : Nat → Prop} {W W' : World} {base : Nat} {v : Value} {l : List Nat} (h : PR G W base v l) (hk : Kept F W W') (hF : ∀ k, v.ownBlock = some k → ¬ F k) : PR G W' base v l := ⟨own_kept h.1 hk hF, h.2⟩
theorem PR.below {G : Nat → Prop} {W W' : World} {base : Nat} {v : Value} {l : List Nat} (h : PR G W base v l) (hb : Below W.heap.size W W') : PR G W' base v l := ⟨ownsRow_keep h.1 fun k hk => hb.block k (h.1.lt k hk).2, h.2⟩
def setM (M : Nat → Nat → Bool) (f t : Nat) : Nat → Nat → Bool := fun x y => M x y || (decide (x = f) && decide (y = t))
def addM (M : Nat → Nat → Bool) (F T : List Nat) : Nat → Nat → Bool := fun x y => M x y || (F.contains x && T.contains y)
theorem addM_nil (M : Nat → Nat → Bool) (T : List Nat) : addM M [] T = M := by funext x y; simp [addM]
theorem addM_nil' (M : Nat → Nat → Bool) (F : List Nat) : addM M F [] = M := by funext x y; simp [addM]
theorem addM_row {M : Nat → Nat → Bool} {F T : List Nat} {i f : Nat} (h : F[i]? = some f) : addM (addM M (F.take i) T) [f] T = addM M (F.take (i + 1)) T := by
  funext x y
  simp only [addM, List.take_add_one, h]
  rw [Bool.eq_iff_iff]
  simp
  grind
theorem addM_one {M : Nat → Nat → Bool} {T : List Nat} {j f t : Nat} (h : T[j]? = some t) : setM (addM M [f] (T.take j)) f t = addM M [f] (T.take (j + 1)) := by
  funext x y
  simp only [addM, setM, List.take_add_one, h]
  rw [Bool.eq_iff_iff]
  simp
  grind
theorem bl_set {G : Nat → Bool} {N t : Nat} (h : t < N) : (bl G N).toArray.setIfInBounds t (.bool true) = (bl (fun y => G y || decide (y = t)) N).toArray := by
  apply Array.ext'
  simp only [Array.toList_setIfInBounds]
  apply List.ext_getElem?
  intro i
  rw [List.getElem?_set]
  by_cases hi : i < N
  · rw [bl_get _ hi]
    by_cases e : t = i
    · subst e; rw [if_pos rfl, if_pos (by rw [bl_len]; exact h), bl_get _ hi]; simp
    · rw [if_neg e, bl_get _ hi]
      have e' : ¬ i = t := fun h => e h.symm
      simp [e']
  · rw [List.getElem?_eq_none (by rw [bl_len]; omega)]
    have h1 : ¬ t = i := by omega
    rw [if_neg h1, List.getElem?_eq_none (by rw [bl_len]; omega)]
theorem BD.row_ne {G : Nat → Prop} {W : World} {base bb most : Nat} {S : List BS} {M : Nat → Nat → Bool} {A : List Int} {sv av cv : Value} {rb : Nat → Nat} (h : BD G W base bb most S M A sv av cv rb) {f : Nat} (hf : f < S.length) : rb f ≠ bb := fun e => by
  have h1 : W.heap[rb f]? = some (.cells (bl (M f) most).toArray 4 (0, 0)) := (h.rows f hf).1
  rw [e, h.box] at h1
  simp at h1
theorem BD.set {G : Nat → Prop} {W : World} {base bb most : Nat} {S : List BS} {M : Nat → Nat → Bool} {A : List Int} {sv av cv : Value} {rb : Nat → Nat} (h : BD G W base bb most S M A sv av cv rb) {f t : Nat} (hf : f < S.length) (ht : t < most) : BD G (W.setCell ⟨rb f, t, none⟩ (.bool true)) base bb most S (setM M f t) A sv av cv rb := by
  have hrow : W.heap[rb f]? = some (.cells (bl (M f) most).toArray 4 (0, 0)) := (h.rows f hf).1
  have ho : ∀ k, k ≠ rb f → (W.setCell ⟨rb f, t, none⟩ (.bool true)).heap[k]? = W.heap[k]? := fun k hk => heap_setCell_other _ _ _ _ hk
  refine ⟨(ho _ fun e => h.row_ne hf e.symm).trans h.box, ownsRow_keep h.sets fun k hk => ho k fun e => own_ne_block h.sets hrow (by decide) (e ▸ hk), ownsRow_keep h.arcs fun k hk => ho k fun e => own_ne_block h.arcs hrow (by decide) (e ▸ hk), ownsRow_keep h.acc fun k hk => ho k fun e => own_ne_block h.acc hrow (by decide) (e ▸ hk), fun i hi => ⟨?_, (h.rows i hi).2⟩, h.inj, h.gb, h.gs, h.ga, h.gc, fun b hb => by simpa using h.lt b hb, fun i j hi => ?_, h.most_le, h.len⟩
  · by_cases e : i = f
    · subst e
      show _ = _
      rw [blk_put hrow, bl_set ht]
      have h3 : setM M i t i = fun y => M i y || decide (y = t) := by funext y; simp [setM]
      rw [h3]
    · have h1 : rb i ≠ rb f := fun e' => e (h.inj i f hi hf e')
      show _ = _
      rw [ho _ h1]
      have h2 := (h.rows i hi).1
      unfold BR at h2
      rw [h2]
      have h3 : setM M f t i = M i := by funext y; simp [setM, e]
      rw [h3]
  · have e : i ≠ f := by omega
    simp [setM, h.sup i j hi, e]
set_option maxRecDepth 100000 in
set_option maxHeartbeats 4000000 in
theorem addArcs_any (base bb most : Nat) (S : List BS) (M : Nat → Nat → Bool) (A : List Int) (G : Nat → Prop) (W : World) (sv av cv fv tv : Value) (rb : Nat → Nat) (h : BD G W base bb most S M A sv av cv rb) (F T : List Nat) (bf bt : Nat) (hF : PR G W bf fv F) (hT : PR G W bt tv T) (hFS : ∀ x ∈ F, x < S.length) (hTm : ∀ y ∈ T, y < most) (hFl : F.length ≤ 1000) (hTl : T.length ≤ 1000) :
    Calls Tryd.prog 65 #[.pointer (some ⟨bb, 0, none⟩), fv, tv] W fun e w' => e = .returned (.tuple #[]) ∧ BD G w' base bb most S (addM M F T) A sv av cv rb ∧ Kept G W w' := by
  obtain ⟨fa, fc, rfl⟩ := own_form hF.1
  obtain ⟨ta, tc, rfl⟩ := own_form hT.1
  obtain ⟨sa, sc, rfl⟩ := own_form h.sets
  obtain ⟨aa, ac, rfl⟩ := own_form h.arcs
  obtain ⟨ca, cc, rfl⟩ := own_form h.acc
  obtain ⟨fl, hfl⟩ : ∃ fl, fl = F.length := ⟨_, rfl⟩
  obtain ⟨tl, htl⟩ : ∃ tl, tl = T.length := ⟨_, rfl⟩
  obtain ⟨n, hn⟩ : ∃ n, n = S.length := ⟨_, rfl⟩
  have HL := hid (And.intro hfl (And.intro htl hn))
  have HB := hid h
  have H0 := hid (And.intro hF (And.intro hT (And.intro hFS hTm)))
  have hnn : n ≤ 1000 := by rw [hn]; exact h.len
  have hmm : most ≤ 1000 := h.most_le
  rw [← hfl] at hFl ⊢
  rw [← htl] at hTl ⊢
  rw [← hn] at HB ⊢
  clear h hF hT hFS hTm hfl htl hn
  go_enter Tryd.func65, Tryd.ntmps65
  go_wp2_with fail
  go_loopg [12] fl (fun kk s12 wr => ∃ i : Nat, s12 = .int .i64 (i : Int) ∧ i + kk = fl ∧ BD G wr base bb most S (addM M (F.take i) T) A (.slice sa n sc) (.slice aa n ac) (.slice ca n cc) rb ∧ Kept G W wr)
  case atStart => exact ⟨0, rfl, by omega, by rw [List.take_zero, addM_nil]; exact HB.out, Kept.refl _ _⟩
  case round =>
    obtain ⟨i, rfl, hik, hbd, hkp⟩ := hrel
    by_cases hlt : i < fl
    · have hlt' : (i : Int) < (fl : Int) := by omega
      have hi0 : (0 : Int) ≤ (i : Int) := by omega
      obtain ⟨x, hx⟩ : ∃ x, F[i]? = some x := ⟨F[i]'(by have := HL.out.1; omega), List.getElem?_eq_getElem _⟩
      have hF1 := own_kept H0.out.1.1 hkp H0.out.1.2
      rw [← HL.out.1] at hF1
      obtain ⟨g, rfl, hgl, hgc, _⟩ := own_cell hF1 (Go.Frame.ints_at hx)
      have HD := hid (And.intro hx (And.intro hbd (And.intro hkp hik)))
      clear hbd hkp hx hF1
      go_wp2_with fail
      obtain ⟨go, rfl⟩ : ∃ go, go = gk := ⟨_, rfl⟩
      go_loopg [18] tl (fun k3 s18 wr2 => ∃ j : Nat, s18 = .int .i64 (j : Int) ∧ j + k3 = tl ∧ BD G wr2 base bb most S (addM (addM M (F.take i) T) [x] (T.take j)) A (.slice sa n sc) (.slice aa n ac) (.slice ca n cc) rb ∧ Kept G W wr2)
      case atStart => exact ⟨0, rfl, by omega, by rw [List.take_zero, addM_nil']; exact HD.out.2.1, HD.out.2.2.1⟩
      case round =>
        obtain ⟨j, rfl, hjk, hbd, hkp⟩ := hrel
        have hj0 : (0 : Int) ≤ (j : Int) := by omega
        by_cases hlt2 : j < tl
        · have hlt2' : (j : Int) < (tl : Int) := by omega
          obtain ⟨y, hy⟩ : ∃ y, T[j]? = some y := ⟨T[j]'(by have := HL.out.2.1; omega), List.getElem?_eq_getElem _⟩
          have hT1 := own_kept H0.out.2.1.1 hkp H0.out.2.1.2
          rw [← HL.out.2.1] at hT1
          obtain ⟨g2, rfl, hg2l, hg2c, _⟩ := own_cell hT1 (Go.Frame.ints_at hy)
          have hxS : x < S.length := H0.out.2.2.1 x (List.mem_of_getElem? HD.out.1)
          have hym : y < most := H0.out.2.2.2 y (List.mem_of_getElem? hy)
          have harc := hbd.arcs
          rw [← HL.out.2.2] at harc hxS
          obtain ⟨g3, e3, hg3l, hg3c, _⟩ := own_cell (i := x) (x := .slice (some ⟨rb x, 0, none⟩) most most) harc (by simp [mrows, hxS])
          obtain ⟨d0, d1, d2, d3⟩ := cells4 hbd.box
          rw [e3] at d2
          have hrow : wr.heap[rb x]? = some (.cells (bl (addM (addM M (F.take i) T) [x] (T.take j) x) most).toArray 4 (0, 0)) := (hbd.rows x (by rw [← HL.out.2.2]; exact hxS)).1
          have fr := Go.Frame.free hrow y
          have hc9 := BR.cell (show BR wr (rb x) most _ from hrow) hym
          have hx0 : (0 : Int) ≤ (x : Int) := by omega
          have hxn : (x : Int) < (n : Int) := by omega
          have hy0 : (0 : Int) ≤ (y : Int) := by omega
          have hyn : (y : Int) < (most : Int) := by omega
          have HE := hid (And.intro hbd (And.intro hkp (And.intro hjk (And.intro hy (And.intro hxS hym)))))
          clear hbd hkp hy hT1 harc hxS hym hrow
          go_wp2
          go_roundg (gk - 1)
          case measure => have := HE.out.2.2.1; omega
          case rel =>
            obtain ⟨hbd, hkp, hjk, hy, hxS, hym⟩ := HE.out
            refine ⟨j + 1, by go_num, by omega, ?_, hkp.setCell (hbd.rows x (by rw [← HL.out.2.2]; exact hxS)).2 _⟩
            rw [← addM_one hy]
            exact hbd.set (by rw [← HL.out.2.2]; exact hxS) hym
        · have hlt2' : ¬ (j : Int) < (tl : Int) := by omega
          have HE := hid (And.intro hbd (And.intro hkp hjk))
          clear hbd hkp
          go_wp2
          go_roundg (go - 1)
          case measure => have := HD.out.2.2.2; omega
          case rel =>
            refine ⟨i + 1, by go_num, by have := HD.out.2.2.2; omega, ?_, HE.out.2.1⟩
            rw [← addM_row HD.out.1]
            have h9 := HE.out.1
            rw [show T.take j = T from List.take_of_length_le (by have := HL.out.2.1; omega)] at h9
            exact h9
    · have hlt' : ¬ (i : Int) < (fl : Int) := by omega
      have HE := hid (And.intro hbd hkp)
      clear hbd hkp
      go_wp2
      go_end0
      refine ⟨rfl, ?_, HE.out.2⟩
      have h9 := HE.out.1
      rw [List.take_of_length_le (by have := HL.out.1; omega)] at h9
      exact h9
end Go.Proofs.YtogpnlkjcdedlaaDoor
