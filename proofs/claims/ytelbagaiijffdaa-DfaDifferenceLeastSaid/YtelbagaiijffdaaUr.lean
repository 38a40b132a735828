/-
  Maths: what a search finds.
-/
import Derived.Test.YtelbagaiijffdaaUq
set_option linter.unusedSimpArgs false
set_option linter.unusedVariables false
namespace Go.Proofs.Ytelbagaiijffdaa
open Go.RowKit Lx Go.Frame
attribute [-instance] instBEqProd

theorem vl_le_map {g : Nat → Nat} : ∀ (l : Nat) (t : List Nat), t.length = l → (∀ b ∈ t, g b ≤ b) → Bf.vl (t.map g) ≤ Bf.vl t
  | 0, t, ht, _ => by rw [List.length_eq_zero_iff.1 ht]; exact Nat.le_refl _
  | l + 1, t, ht, hg => by
    rcases snoc_cases t with rfl | ⟨u, c, rfl⟩
    · simp at ht
    · have := vl_le_map l u (by simpa using ht) (fun b hb => hg b (by simp [hb]))
      have := hg c (by simp)
      rw [List.map_append]
      simp only [List.map_cons, List.map_nil]
      rw [Bf.vl_snoc, Bf.vl_snoc]
      omega
theorem cps_len (D E : Df) : (cps D E).length = 256 := by simp [cps]
theorem cps_at {D E : Df} {i : Nat} (h : i < 256) : (cps D E)[i]? = some (D.cls.getD i 0, E.cls.getD i 0) := by
  unfold cps; rw [List.getElem?_map, List.getElem?_range h]; rfl
theorem cps_l {D E : Df} (hD : D.cls.length = 256) : ∀ (i j : Nat), i < 256 → j < 256 → (cps D E)[i]? = (cps D E)[j]? → D.cls[i]? = D.cls[j]? := fun i j hi hj h => by
  rw [cps_at hi, cps_at hj] at h
  simp only [Option.some.injEq, Prod.mk.injEq] at h
  have := h.1
  rw [List.getD_eq_getElem?_getD, List.getD_eq_getElem?_getD, List.getElem?_eq_getElem (by omega), List.getElem?_eq_getElem (by omega)] at this
  rw [List.getElem?_eq_getElem (by omega), List.getElem?_eq_getElem (by omega)]
  exact congrArg some this
theorem cps_r {D E : Df} (hE : E.cls.length = 256) : ∀ (i j : Nat), i < 256 → j < 256 → (cps D E)[i]? = (cps D E)[j]? → E.cls[i]? = E.cls[j]? := fun i j hi hj h => by
  rw [cps_at hi, cps_at hj] at h
  simp only [Option.some.injEq, Prod.mk.injEq] at h
  have := h.2
  rw [List.getD_eq_getElem?_getD, List.getD_eq_getElem?_getD, List.getElem?_eq_getElem (by omega), List.getElem?_eq_getElem (by omega)] at this
  rw [List.getElem?_eq_getElem (by omega), List.getElem?_eq_getElem (by omega)]
  exact congrArg some this
theorem run_pair (TA TB : Mo.Tb) : ∀ (w : List Nat) (p : Nat × Nat), w.foldl (stpP TA TB) p = (w.foldl (Mo.to TA) p.1, w.foldl (Mo.to TB) p.2)
  | [], p => rfl
  | c :: w, p => run_pair TA TB w _
def to8 (l : List Nat) : List UInt8 := l.map UInt8.ofNat
theorem nat8_to8 {l : List Nat} (h : ∀ x ∈ l, x < 256) : nat8 (to8 l) = l := by
  unfold nat8 to8
  rw [List.map_map]
  conv => rhs; rw [← List.map_id l]
  apply List.map_congr_left
  intro x hx
  have := h x hx
  simp only [Function.comp_apply, id]
  exact Nat.mod_eq_of_lt this
section
variable {D E : Df} {n k m l : Nat}
theorem fby_len (hD : D.cls.length = 256) : (fby (cps D E)).length ≤ 256 ∧ 1 ≤ (fby (cps D E)).length := by
  refine ⟨fi_len _ _, ?_⟩
  obtain ⟨_, _, _, _, _, _, _, h⟩ := cof_at (cps_len D E) (show 0 < 256 by omega)
  omega
theorem fby_inc (L : List (Int × Int)) : (fby L).Pairwise (· < ·) := fi_inc _ _
attribute [local irreducible] cps fby cof tb
theorem agree (hv : Vd D n k) (hw : Vd E m l) (t : List UInt8) (u : Nat × Nat) (hu : Bf.run (stpP (tb D (fby (cps D E))) (tb E (fby (cps D E)))) (0, 0) ((nat8 t).map (cof (cps D E))) = u) : Mo.acc (tb D (fby (cps D E))) u.1 = some (rn D 0 t) ∧ Mo.acc (tb E (fby (cps D E))) u.2 = some (rn E 0 t) := by
  subst hu
  unfold Bf.run
  rw [run_pair]
  have h1 := trun hv (cps_len D E) (cps_l hv.cl) t 0 (Nat.zero_le _)
  have h2 := trun hw (cps_len D E) (cps_r hw.cl) t 0 (Nat.zero_le _)
  unfold rnX at h1 h2
  rw [if_pos (show 0 < n from hv.pos)] at h1
  rw [if_pos (show 0 < m from hw.pos)] at h2
  exact ⟨h1, h2⟩
/-- The strings before the place where the search stands do not tell the automata apart. -/
theorem before (hv : Vd D n k) (hw : Vd E m l) {V : List Vis} {i : Nat} (hI : Bf.Inv (stpP (tb D (fby (cps D E))) (tb E (fby (cps D E)))) (fun _ => false) (0, 0) (fby (cps D E)).length (vb V) i 0)
    (hac : ∀ (j : Nat) (u : Vis), j < i → V[j]? = some u → Mo.acc (tb D (fby (cps D E))) u.1 = Mo.acc (tb E (fby (cps D E))) u.2.1) (t : List UInt8) (hb : ∀ b, (vb V)[i]? = some b → Bf.vl ((nat8 t).map (cof (cps D E))) < Bf.vl b.2) : rn D 0 t = rn E 0 t := by
  have hlen := fby_len (E := E) hv.cl
  rcases hI.found hlen.1 (fun s c h => by cases h) _ ((nat8 t).map (cof (cps D E))) rfl (fun x hx => by
    obtain ⟨b, hbm, rfl⟩ := List.mem_map.1 hx
    obtain ⟨y, _, rfl⟩ := List.mem_map.1 hbm
    obtain ⟨_, _, _, _, _, _, _, h⟩ := cof_at (cps_len D E) y.toNat_lt
    exact h) hb with h | ⟨j, a, h1, h2, h3, _⟩
  · cases h
  · have hj : j < V.length := by have := (List.getElem?_eq_some_iff.1 h1).1; rw [vb_len] at this; exact this
    obtain ⟨v, hv9⟩ : ∃ v, V[j]? = some v := ⟨_, List.getElem?_eq_getElem hj⟩
    obtain ⟨s, _, hs⟩ := vb_at hv9
    rw [h1] at hs
    obtain rfl := Option.some.inj hs
    obtain ⟨g1, g2⟩ := agree hv hw t _ h3.symm
    have := hac j v h2 hv9
    dsimp only at g1 g2
    rw [g1, g2] at this
    exact Option.some.inj this
set_option maxRecDepth 100000 in
set_option maxHeartbeats 1000000 in
theorem found_spec (hv : Vd D n k) (hw : Vd E m l) {V : List Vis} {i : Nat} (hI : Bf.Inv (stpP (tb D (fby (cps D E))) (tb E (fby (cps D E)))) (fun _ => false) (0, 0) (fby (cps D E)).length (vb V) i 0)
    (hac : ∀ (j : Nat) (u : Vis), j < i → V[j]? = some u → Mo.acc (tb D (fby (cps D E))) u.1 = Mo.acc (tb E (fby (cps D E))) u.2.1) {u : Vis} (hu : V[i]? = some u) (hne : Mo.acc (tb D (fby (cps D E))) u.1 ≠ Mo.acc (tb E (fby (cps D E))) u.2.1) {s : List Nat} (hs : (strs V)[i]? = some s) :
    (∀ x ∈ byL (fby (cps D E)) s, x < 256) ∧ rn D 0 (to8 (byL (fby (cps D E)) s)) ≠ rn E 0 (to8 (byL (fby (cps D E)) s)) ∧ ∀ t, rn D 0 t ≠ rn E 0 t → Bf.vl (byL (fby (cps D E)) s) ≤ Bf.vl (nat8 t) := by
  obtain ⟨s', hs', hvs⟩ := vb_at hu
  rw [hs] at hs'
  obtain rfl := Option.some.inj hs'
  obtain ⟨r1, r2, _⟩ := hI.reach _ (List.mem_of_getElem? hvs)
  dsimp only at r1 r2
  have hlen := fby_len (E := E) hv.cl
  have hget : ∀ c, c < (fby (cps D E)).length → (fby (cps D E))[c]? = some ((fby (cps D E)).getD c 0) ∧ (fby (cps D E)).getD c 0 < 256 := fun c hc => by
    have : (fby (cps D E))[c]? = some ((fby (cps D E)).getD c 0) := by rw [List.getD_eq_getElem?_getD, List.getElem?_eq_getElem hc]; rfl
    exact ⟨this, fby_lt _ _ (List.mem_of_getElem? this)⟩
  have hb256 : ∀ x ∈ byL (fby (cps D E)) s, x < 256 := fun x hx => by
    obtain ⟨c, hc, rfl⟩ := List.mem_map.1 hx
    exact (hget c (r2 c hc)).2
  refine ⟨hb256, ?_, fun t ht => ?_⟩
  · have hback : (nat8 (to8 (byL (fby (cps D E)) s))).map (cof (cps D E)) = s := by
      rw [nat8_to8 hb256]
      unfold byL
      rw [List.map_map]
      conv => rhs; rw [← List.map_id s]
      apply List.map_congr_left
      intro c hc
      exact cof_fby (cps_len D E) (hget c (r2 c hc)).1
    obtain ⟨g1, g2⟩ := agree hv hw (to8 (byL (fby (cps D E)) s)) (u.1, u.2.1) (by rw [hback]; exact r1)
    dsimp only at g1 g2
    rw [g1, g2] at hne
    exact fun e => hne (by rw [e])
  · have hle : Bf.vl s ≤ Bf.vl ((nat8 t).map (cof (cps D E))) := by
      apply Nat.le_of_not_lt
      intro hlt
      exact ht (before hv hw hI hac t fun b hb => by rw [hvs] at hb; obtain rfl := Option.some.inj hb; exact hlt)
    have hwm : ∀ x ∈ (nat8 t).map (cof (cps D E)), x < (fby (cps D E)).length := fun x hx => by
      obtain ⟨b, hbm, rfl⟩ := List.mem_map.1 hx
      obtain ⟨y, _, rfl⟩ := List.mem_map.1 hbm
      obtain ⟨_, _, _, _, _, _, _, h⟩ := cof_at (cps_len D E) y.toNat_lt
      exact h
    have h1 := vl_mono (f := fun c => (fby (cps D E)).getD c 0) hlen.1 (fun a b hab hb => by
      have hpw := fby_inc (cps D E)
      have := List.pairwise_iff_getElem.1 hpw a b (by omega) hb hab
      show (fby (cps D E)).getD a 0 < (fby (cps D E)).getD b 0
      rw [List.getD_eq_getElem?_getD, List.getD_eq_getElem?_getD, List.getElem?_eq_getElem (by omega), List.getElem?_eq_getElem hb]
      exact this) (fun a ha => (hget a ha).2) _ s _ rfl r2 hwm hle
    refine Nat.le_trans h1 ?_
    rw [List.map_map]
    refine vl_le_map _ _ rfl fun b hb => ?_
    obtain ⟨y, _, rfl⟩ := List.mem_map.1 hb
    obtain ⟨_, p, _, _, hp, _, hpb, hcl⟩ := cof_at (cps_len D E) y.toNat_lt
    show (fby (cps D E)).getD (cof (cps D E) y.toNat) 0 ≤ _
    rw [List.getD_eq_getElem?_getD, hp]
    exact hpb
end
end Go.Proofs.Ytelbagaiijffdaa
