/-
  Plain maths: the refinement of blocks to its end (no program).
-/
import Derived.Test.YtelbagaiijffdaaMi
set_option linter.unusedVariables false
set_option linter.unusedSimpArgs false
namespace Rk
theorem nod_subG {α : Type} [DecidableEq α] : ∀ (P K : List α), P.Nodup → (∀ x ∈ P, x ∈ K) → P.length ≤ K.length
  | [], K, _, _ => Nat.zero_le _
  | a :: P, K, h, hs => by
    obtain ⟨ha, hP⟩ := List.nodup_cons.1 h
    have hK : a ∈ K := hs a (by simp)
    have := nod_subG P (K.erase a) hP fun y hy => (List.mem_erase_of_ne (fun e => by subst e; exact ha hy)).2 (hs y (List.mem_cons_of_mem _ hy))
    rw [List.length_erase_of_mem hK] at this
    have : 0 < K.length := List.length_pos_of_mem hK
    simp; omega
/-- A refinement has no fewer blocks. -/
theorem known_mono {α β : Type} [DecidableEq α] [DecidableEq β] {l : List α} {m : List β} (hlen : l.length = m.length) (href : ∀ i j : Nat, i < m.length → j < m.length → m[i]? = m[j]? → l[i]? = l[j]?) : (known [] l).length ≤ (known [] m).length := by
  have at_ : ∀ x ∈ known [] l, l.idxOf x < l.length ∧ l[l.idxOf x]? = some x := fun x hx => by
    have hl := List.idxOf_lt_length_of_mem (mem_known'.1 hx)
    exact ⟨hl, by rw [List.getElem?_eq_getElem hl, List.getElem_idxOf]⟩
  have hn : ((known [] l).map fun x => m[l.idxOf x]?).Nodup := by
    unfold List.Nodup
    rw [List.pairwise_map]
    refine List.Pairwise.imp_of_mem ?_ (nodup_known l [] List.nodup_nil)
    intro a b ha hb hne e
    obtain ⟨h1, h2⟩ := at_ a ha
    obtain ⟨h3, h4⟩ := at_ b hb
    have := href _ _ (by omega) (by omega) e
    rw [h2, h4] at this
    exact hne (Option.some.inj this)
  have := nod_subG _ ((known [] m).map some) hn fun y hy => by
    obtain ⟨x, hx, rfl⟩ := List.mem_map.1 hy
    obtain ⟨h1, _⟩ := at_ x hx
    rw [List.getElem?_eq_getElem (by omega)]
    exact List.mem_map.2 ⟨_, mem_known'.2 (List.getElem_mem _), rfl⟩
  simpa using this
theorem known_le {α : Type} [DecidableEq α] (l : List α) : (known [] l).length ≤ l.length :=
  nod_subG _ _ (nodup_known l [] List.nodup_nil) fun x hx => mem_known'.1 hx
end Rk
namespace Mi
open Rk Mo
def nb (B : List Nat) : Nat := (known [] B).length
/-- What tells a state's block and those of its successors. -/
def sgN (T : Tb) (B : List Nat) (q : Nat) : List Nat := (T.nx.getD q []).map (fun x => B.getD x 0) ++ [B.getD q 0]
def sgs (T : Tb) (n : Nat) (B : List Nat) : List (List Nat) := (List.range n).map (sgN T B)
def ref (T : Tb) (n : Nat) (B : List Nat) : List Nat := ranks (sgs T n B)
def partF (T : Tb) (n : Nat) : Nat → List Nat → List Nat
  | 0, B => B
  | f + 1, B => if nb (ref T n B) = nb B then B else partF T n f (ref T n B)
theorem ref_eq {T : Tb} {n k : Nat} (h : Vt T n k) {B : List Nat} (hB : B.length = n) : ref T n B = ranks (sigs T B n) := by
  have hs : sigs T B n = (sgs T n B).map (List.map some) := by
    unfold sigs sgs
    rw [List.map_map]
    apply List.map_congr_left
    intro q hq
    have hq' : q < n := List.mem_range.1 hq
    have hr : T.nx[q]? = some (T.nx[q]'(by rw [h.hn]; exact hq')) := List.getElem?_eq_getElem _
    obtain ⟨_, hx⟩ := h.row q _ hr
    simp only [Function.comp_apply, sig, sgN, List.map_append, List.map_map, List.map_cons, List.map_nil]
    have hin : ∀ x, x < n → B[x]? = some (B.getD x 0) := fun x hx => by
      rw [List.getD_eq_getElem?_getD, List.getElem?_eq_getElem (by omega)]; rfl
    rw [hin q hq']
    congr 1
    apply List.map_congr_left
    intro x hxm
    rw [List.getD_eq_getElem?_getD, hr] at hxm
    obtain ⟨c, hc⟩ := List.getElem?_of_mem hxm
    exact hin x (hx c x hc)
  rw [hs]
  unfold ref
  refine (ranks_map _ _ fun x _ y _ e => ?_).1.symm
  have := congrArg (List.map (fun o : Option Nat => o.getD 0)) e
  simpa [List.map_map, Function.comp_def] using this
theorem ref_len (T : Tb) (n : Nat) (B : List Nat) : (ref T n B).length = n := by unfold ref; rw [ranks_length]; simp [sgs]
theorem nb_ref {T : Tb} {n k : Nat} (h : Vt T n k) {B : List Nat} (hB : B.length = n) : nb B ≤ nb (ref T n B) := by
  unfold nb
  refine known_mono (by rw [hB, ref_len]) fun i j hi hj e => ?_
  rw [ref_len] at hi hj
  rw [ref_eq h hB] at e
  exact ((sigs_ker h hi hj).1 e).1
theorem nb_le {B : List Nat} : nb B ≤ B.length := known_le B
theorem ref_canon (T : Tb) (n : Nat) (B : List Nat) : ranks (ref T n B) = ref T n B := (ranks_idem _).1
/-- The blocks at the end: the states that no string tells apart. -/
theorem partF_ok {T : Tb} {n k : Nat} (h : Vt T n k) : ∀ (f : Nat) (B : List Nat), n - nb B < f → Good T n k B → ranks B = B →
    (partF T n f B).length = n ∧ ranks (partF T n f B) = partF T n f B ∧ ∀ q r, q < n → r < n → ((partF T n f B)[q]? = (partF T n f B)[r]? ↔ Eqv T k q r)
  | 0, B, hf, _, _ => by omega
  | f + 1, B, hf, g, hc => by
    unfold partF
    have hr := nb_ref h g.len
    by_cases e : nb (ref T n B) = nb B
    · rw [if_pos e]
      refine ⟨g.len, hc, fun q r hq hr => good_end h g ?_ hq hr⟩
      rw [← ref_eq h g.len]
      unfold nb at e
      rw [e]; exact Nat.le_refl _
    · rw [if_neg e]
      have g' := good_step h g
      rw [← ref_eq h g.len] at g'
      have h1 : nb (ref T n B) ≤ (ref T n B).length := nb_le
      rw [ref_len] at h1
      exact partF_ok h f _ (by omega) g' (ref_canon T n B)
/-- The blocks of a table. -/
def part (T : Tb) (n : Nat) : List Nat := partF T n 600 (ranks T.ac)
theorem part_ok {T : Tb} {n k : Nat} (h : Vt T n k) (hn : n ≤ 501) : (part T n).length = n ∧ ranks (part T n) = part T n ∧ ∀ q r, q < n → r < n → ((part T n)[q]? = (part T n)[r]? ↔ Eqv T k q r) :=
  partF_ok h 600 _ (by omega) (good_start h) (ranks_idem _).1
end Mi
