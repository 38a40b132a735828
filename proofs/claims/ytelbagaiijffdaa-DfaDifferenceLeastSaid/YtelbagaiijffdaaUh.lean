/-
  The minimal automaton as a function; maths of its parts.
-/
import Derived.Test.YtelbagaiijffdaaUg
set_option linter.unusedSimpArgs false
set_option linter.unusedVariables false
namespace Go.Proofs.Ytelbagaiijffdaa
open Go.RowKit Lx Go.Frame

def mCl (D : Df) : List Nat := Rk.ranks D.cls
def mBy (D : Df) : List Nat := fi (zs (mCl D)) 256
def mT (D : Df) : Mo.Tb := tb D (mBy D)
def mR (D : Df) : List (List Int) × List Nat := mRes (mT D) (D.nxt.length + 1)
def mCs (D : Df) : List Nat := Rk.ranks ((List.range (mBy D).length).map (col (mR D).1))
def mKp (D : Df) : List Nat := fi (zs (mCs D)) (mBy D).length
def mini (D : Df) : Df := ⟨(mCl D).map fun c => (zs (mCs D)).getD c 0, (mR D).1.map fun r => (mKp D).map fun p => r.getD p 0, (mR D).2.map fun x => (mT D).ac.getD x 0⟩
theorem mCl_len {D : Df} {n k : Nat} (hv : Vd D n k) : (mCl D).length = 256 := by unfold mCl; rw [Rk.ranks_length, hv.cl]
theorem mBy_lt {D : Df} {n k : Nat} (hv : Vd D n k) : ∀ b ∈ mBy D, b < 256 := by
  have := (fi_kn D.cls 256 (by rw [hv.cl]; exact Nat.le_refl _)).2
  exact this
theorem mBy_len {D : Df} {n k : Nat} (hv : Vd D n k) : (mBy D).length = (Rk.known [] D.cls).length ∧ (mBy D).length ≤ 256 ∧ 1 ≤ (mBy D).length := by
  have h1 := (fi_kn D.cls 256 (by rw [hv.cl]; exact Nat.le_refl _)).1
  have h2 := congrArg List.length h1
  rw [List.length_map, List.length_map, kn, List.take_of_length_le (by rw [hv.cl]; exact Nat.le_refl _)] at h2
  have h3 : (mBy D).length = (Rk.known [] D.cls).length := h2
  refine ⟨h3, fi_len _ _, ?_⟩
  rw [h3]
  have : D.cls[0]? = some (D.cls[0]'(by rw [hv.cl]; omega)) := List.getElem?_eq_getElem _
  have hm : D.cls[0]'(by rw [hv.cl]; omega) ∈ Rk.known [] D.cls := Rk.mem_known'.2 (List.mem_of_getElem? this)
  exact List.length_pos_of_mem hm
theorem mCl_lt {D : Df} {n k : Nat} (hv : Vd D n k) : ∀ c ∈ mCl D, c < (mBy D).length := fun c hc => by
  obtain ⟨i, hi⟩ := List.getElem?_of_mem hc
  rw [(mBy_len hv).1]
  exact Rk.ranks_lt hi
theorem cl_lt {D : Df} {n k : Nat} (hv : Vd D n k) {b : Nat} (hb : b < 256) : cl D b < k ∧ D.cls[b]? = some ((cl D b : Nat) : Int) := by
  have hc : D.cls[b]? = some (D.cls[b]'(by rw [hv.cl]; exact hb)) := List.getElem?_eq_getElem _
  obtain ⟨c, hck, hce⟩ := hv.cls _ (List.mem_of_getElem? hc)
  have : cl D b = c := by unfold cl; rw [List.getD_eq_getElem?_getD, hc, hce]; rfl
  rw [this]
  exact ⟨hck, by rw [hc, hce]⟩
theorem vt_tb {D : Df} {n k : Nat} (hv : Vd D n k) (by_ : List Nat) (hby : ∀ b ∈ by_, b < 256) : Mo.Vt (tb D by_) (n + 1) by_.length := by
  refine ⟨by unfold tb; simp [hv.hn], by unfold tb; simp [hv.al], fun q r hq => ?_⟩
  unfold tb at hq
  simp only at hq
  have hl : (D.nxt.map (tbr D by_)).length = n := by simp [hv.hn]
  by_cases e : q < n
  · rw [List.getElem?_append_left (by omega), List.getElem?_map] at hq
    obtain ⟨r', hr', rfl⟩ := Option.map_eq_some_iff.1 hq
    refine ⟨by simp [tbr], fun c x hx => ?_⟩
    unfold tbr at hx
    rw [List.getElem?_map] at hx
    obtain ⟨b, hb, rfl⟩ := Option.map_eq_some_iff.1 hx
    obtain ⟨h1, h2⟩ := hv.row r' (List.mem_of_getElem? hr')
    have hck := (cl_lt hv (hby b (List.mem_of_getElem? hb))).1
    have hx' : r'[cl D b]? = some (r'[cl D b]'(by omega)) := List.getElem?_eq_getElem _
    have h3 := h2 _ (List.mem_of_getElem? hx')
    rw [List.getD_eq_getElem?_getD, hx', Option.getD_some, hv.hn]
    unfold sk
    split <;> omega
  · rw [List.getElem?_append_right (by omega), hl] at hq
    have hq0 : q - n = 0 := by have := (List.getElem?_eq_some_iff.1 hq).1; simp at this; omega
    rw [hq0] at hq
    simp at hq
    subst hq
    refine ⟨by simp, fun c x hx => ?_⟩
    rw [List.getElem?_replicate] at hx
    split at hx <;> simp at hx
    rw [← hx, hv.hn]; omega
end Go.Proofs.Ytelbagaiijffdaa
namespace Mi
theorem mergeF_ok {succ : Nat → List Nat} {B : Nat → Nat} {dead N : Nat} (hs : ∀ q, q < N → ∀ x ∈ succ q, x < N) (hB : ∀ q, q < N → B q < N) : ∀ (f i : Nat) (F : List Nat) (rows : List (List Int)), Mg succ B dead i F rows → (∀ x ∈ F, x < N) → N - i < f →
    Mg succ B dead (mergeF succ B dead f i F rows).2.length (mergeF succ B dead f i F rows).2 (mergeF succ B dead f i F rows).1 ∧ ∀ x ∈ (mergeF succ B dead f i F rows).2, x < N
  | 0, i, F, rows, h, hF, hf => by omega
  | f + 1, i, F, rows, h, hF, hf => by
    unfold mergeF
    cases hq : F[i]? with
    | none =>
      have : F.length ≤ i := List.getElem?_eq_none_iff.1 hq
      have e : i = F.length := by have := h.le; omega
      subst e
      exact ⟨h, hF⟩
    | some q =>
      have hst := h.step hq
      have hil := (List.getElem?_eq_some_iff.1 hq).1
      have hFl : F.length ≤ N := by
        have := nod_len h.nod (n := N) fun x hx => by
          obtain ⟨y, hy, rfl⟩ := List.mem_map.1 hx
          exact hB y (hF y hy)
        simpa using this
      refine mergeF_ok hs hB f (i + 1) _ _ hst (fun x hx => ?_) (by omega)
      obtain ⟨E, e1, e2⟩ := (rowF_ok (dead := dead) h.nod _ (succ q) rfl).pre
      rw [e1] at hx
      rcases List.mem_append.1 hx with hx | hx
      · exact hF x hx
      · exact hs q (hF q (List.mem_of_getElem? hq)) x (e2 x hx).1
end Mi
namespace Go.Proofs.Ytelbagaiijffdaa
open Go.RowKit Lx Go.Frame
theorem mS_lt {T : Mo.Tb} {N k : Nat} (hv : Mo.Vt T N k) : ∀ q, q < N → ∀ x ∈ mS T q, x < N := fun q hq x hx => by
  have hr : T.nx[q]? = some (T.nx[q]'(by rw [hv.hn]; exact hq)) := List.getElem?_eq_getElem _
  obtain ⟨_, h2⟩ := hv.row q _ hr
  unfold mS at hx
  rw [List.getD_eq_getElem?_getD, hr] at hx
  obtain ⟨c, hc⟩ := List.getElem?_of_mem hx
  exact h2 c x hc
theorem mS_len {T : Mo.Tb} {N k : Nat} (hv : Mo.Vt T N k) {q : Nat} (hq : q < N) : (mS T q).length = k := by
  have hr : T.nx[q]? = some (T.nx[q]'(by rw [hv.hn]; exact hq)) := List.getElem?_eq_getElem _
  unfold mS
  rw [List.getD_eq_getElem?_getD, hr]
  exact (hv.row q _ hr).1
theorem mB_lt {T : Mo.Tb} {N k : Nat} (hv : Mo.Vt T N k) (hN : N ≤ 501) : ∀ q, q < N → mB T N q < N := fun q hq => by
  obtain ⟨h1, h2, _⟩ := Mi.part_ok hv hN
  have := rank_lt2 h2 (q := q) (by omega)
  unfold mB; omega
theorem mRes_ok {T : Mo.Tb} {N k : Nat} (hv : Mo.Vt T N k) (h0 : 1 ≤ N) (hN : N ≤ 501) : Mi.Mg (mS T) (mB T N) (mB T N (N - 1)) (mRes T N).2.length (mRes T N).2 (mRes T N).1 ∧ ∀ x ∈ (mRes T N).2, x < N :=
  Mi.mergeF_ok (mS_lt hv) (mB_lt hv hN) 600 0 [0] [] (Mi.Mg.init _ _ _) (fun x hx => by simp at hx; omega) (by omega)
theorem mRes_len {T : Mo.Tb} {N k : Nat} (hv : Mo.Vt T N k) (h0 : 1 ≤ N) (hN : N ≤ 501) : (mRes T N).1.length = (mRes T N).2.length ∧ 1 ≤ (mRes T N).2.length ∧ (mRes T N).2.length ≤ N ∧ ∀ r ∈ (mRes T N).1, r.length = k ∧ ∀ x ∈ r, -1 ≤ x ∧ x < (mRes T N).2.length := by
  obtain ⟨h1, h2⟩ := mRes_ok hv h0 hN
  obtain ⟨E, e1, _⟩ := h1.start
  refine ⟨h1.len, by rw [e1]; simp, ?_, fun r hr => ?_⟩
  · have := Mi.nod_len h1.nod (n := N) fun x hx => by
      obtain ⟨y, hy, rfl⟩ := List.mem_map.1 hx
      exact mB_lt hv hN y (h2 y hy)
    simpa using this
  · obtain ⟨j, hj⟩ := List.getElem?_of_mem hr
    have hjl : j < (mRes T N).2.length := by have := (List.getElem?_eq_some_iff.1 hj).1; rw [h1.len] at this; exact this
    have hq : (mRes T N).2[j]? = some ((mRes T N).2[j]) := List.getElem?_eq_getElem hjl
    obtain ⟨r1, r2⟩ := h1.row j _ hjl hq
    rw [r1] at hj
    obtain rfl := Option.some.inj hj
    refine ⟨by rw [List.length_map]; exact mS_len hv (h2 _ (List.mem_of_getElem? hq)), fun x hx => ?_⟩
    obtain ⟨t, ht, rfl⟩ := List.mem_map.1 hx
    unfold Mi.num
    split
    · omega
    · rename_i hd
      have := List.idxOf_lt_length_of_mem ((r2 t ht).resolve_left hd)
      rw [List.length_map] at this
      omega
end Go.Proofs.Ytelbagaiijffdaa
