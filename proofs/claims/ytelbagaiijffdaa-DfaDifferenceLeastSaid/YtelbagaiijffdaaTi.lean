/-
  Maths: firsts of a result of ranks.
-/
import Derived.Test.YtelbagaiijffdaaTh
set_option linter.unusedSimpArgs false
set_option linter.unusedVariables false
namespace Go.Proofs.Ytelbagaiijffdaa
open Go.RowKit Lx Go.Frame

theorem fi_kn {α : Type} [DecidableEq α] (l : List α) : ∀ i, i ≤ l.length → (fi (zs (Rk.ranks l)) i).map (fun p => l[p]?) = (kn l i).map some ∧ ∀ p ∈ fi (zs (Rk.ranks l)) i, p < i
  | 0, _ => by simp [fi, kn_zero]
  | i + 1, h => by
    obtain ⟨h1, h2⟩ := fi_kn l i (by omega)
    have hlen : (fi (zs (Rk.ranks l)) i).length = (kn l i).length := by have := congrArg List.length h1; simpa using this
    have hx : l[i]? = some l[i] := List.getElem?_eq_getElem (by omega)
    by_cases hin : l[i] ∈ kn l i
    · have hr := zs_at (rank_in hx hin)
      have hlt : (kn l i).idxOf l[i] < (kn l i).length := List.idxOf_lt_length_of_mem hin
      rw [fi, List.getD_eq_getElem?_getD, hr, Option.getD_some, if_neg (by rw [hlen]; omega), List.append_nil, kn_in hx hin]
      exact ⟨h1, fun p hp => Nat.lt_succ_of_lt (h2 p hp)⟩
    · have hr := zs_at (rank_new hx hin)
      rw [fi, List.getD_eq_getElem?_getD, hr, Option.getD_some, if_pos (by rw [hlen]), kn_new hx hin, List.map_append, List.map_append, h1]
      refine ⟨by simp [hx], fun p hp => ?_⟩
      rcases List.mem_append.1 hp with hp | hp
      · exact Nat.lt_succ_of_lt (h2 p hp)
      · simp at hp; omega
/-- The place of a number: the first element that has it. -/
theorem fi_at {α : Type} [DecidableEq α] (l : List α) {i r : Nat} {x : α} (hx : l[i]? = some x) (hr : (Rk.ranks l)[i]? = some r) : ∃ p, (fi (zs (Rk.ranks l)) l.length)[r]? = some p ∧ l[p]? = some x ∧ (Rk.ranks l)[p]? = some r := by
  obtain ⟨h1, h2⟩ := fi_kn l l.length (Nat.le_refl _)
  have hk : kn l l.length = Rk.known [] l := by simp [kn]
  have hr' : r = (Rk.known [] l).idxOf x := by
    unfold Rk.ranks at hr
    rw [Rk.ranksF_eq, List.getElem?_map, hx] at hr
    simpa using hr.symm
  have hin : x ∈ Rk.known [] l := (Rk.mem_known l [] x).2 (.inr (List.mem_of_getElem? hx))
  have hlt : r < (Rk.known [] l).length := by rw [hr']; exact List.idxOf_lt_length_of_mem hin
  have hat : (Rk.known [] l)[r]? = some x := by
    subst hr'
    rw [List.getElem?_eq_getElem hlt]
    congr 1
    exact List.getElem_idxOf hlt
  have h3 := congrArg (fun m => m[r]?) h1
  simp only [hk, List.getElem?_map, hat] at h3
  obtain ⟨p, hp, he⟩ := Option.map_eq_some_iff.1 h3
  refine ⟨p, hp, he, ?_⟩
  unfold Rk.ranks
  rw [Rk.ranksF_eq, List.getElem?_map, he, hr']
  rfl
/-- The greatest number of a result of ranks. -/
theorem mx_ranks {α : Type} [DecidableEq α] (l : List α) (h0 : 0 < l.length) : mxi (zs (Rk.ranks l)) (l.length - 1) + 1 = ((Rk.known [] l).length : Int) := by
  have hlr := Rk.ranks_length l
  have hget : ∀ j, j < l.length → ∃ r, (Rk.ranks l)[j]? = some r ∧ (zs (Rk.ranks l)).getD j 0 = (r : Int) ∧ r < (Rk.known [] l).length := fun j hj => by
    have hr : (Rk.ranks l)[j]? = some (Rk.ranks l)[j] := List.getElem?_eq_getElem (by omega)
    exact ⟨_, hr, by rw [List.getD_eq_getElem?_getD, zs_at hr]; rfl, Rk.ranks_lt hr⟩
  have hle : mxi (zs (Rk.ranks l)) (l.length - 1) + 1 ≤ ((Rk.known [] l).length : Int) := by
    obtain ⟨j, h1, h2⟩ := mxi_is (zs (Rk.ranks l)) (l.length - 1)
    obtain ⟨r, _, h3, h4⟩ := hget j (by omega)
    rw [h2, h3]; omega
  have hk0 : 0 < (Rk.known [] l).length := by obtain ⟨r, _, _, h⟩ := hget 0 h0; omega
  have hlast : (Rk.known [] l)[(Rk.known [] l).length - 1]? = some ((Rk.known [] l)[(Rk.known [] l).length - 1]) := List.getElem?_eq_getElem (by omega)
  have hmem := (Rk.mem_known l [] _).1 (List.mem_of_getElem? hlast)
  obtain ⟨j, hj⟩ := List.getElem?_of_mem (hmem.resolve_left (by simp))
  have hjl : j < l.length := (List.getElem?_eq_some_iff.1 hj).1
  have hr : (Rk.ranks l)[j]? = some ((Rk.known [] l).length - 1) := by
    unfold Rk.ranks
    rw [Rk.ranksF_eq, List.getElem?_map, hj, Option.map_some, (Rk.nodup_known l [] List.nodup_nil).idxOf_getElem]
  have hge := mxi_ge (zs (Rk.ranks l)) (l.length - 1) j (by omega)
  rw [List.getD_eq_getElem?_getD, zs_at hr, Option.getD_some] at hge
  omega
end Go.Proofs.Ytelbagaiijffdaa
