/-
  Maths: runs of tables and of automata; least strings.
-/
import Derived.Test.YtelbagaiijffdaaUp
import Derived.Test.YtelbagaiijffdaaK
set_option linter.unusedSimpArgs false
set_option linter.unusedVariables false
namespace Go.Proofs.Ytelbagaiijffdaa
open Go.RowKit Lx Go.Frame
attribute [-instance] instBEqProd

section
variable {α : Type} [DecidableEq α]
theorem fi_pre (ns : List Int) : ∀ (i j : Nat), i ≤ j → ∃ E, fi ns j = fi ns i ++ E
  | i, 0, h => by obtain rfl : i = 0 := by omega
                  exact ⟨[], by simp⟩
  | i, j + 1, h => by
    by_cases e : i = j + 1
    · subst e; exact ⟨[], by simp⟩
    · obtain ⟨E, hE⟩ := fi_pre ns i j (by omega)
      rw [fi, hE]
      exact ⟨E ++ (if ns.getD j 0 = ((fi ns i ++ E).length : Int) then [j] else []), by rw [List.append_assoc]⟩
theorem fi_lt (ns : List Int) : ∀ (i : Nat), ∀ p ∈ fi ns i, p < i
  | 0, p, hp => by simp [fi] at hp
  | i + 1, p, hp => by
    rw [fi] at hp
    rcases List.mem_append.1 hp with hp | hp
    · exact Nat.lt_succ_of_lt (fi_lt ns i p hp)
    · split at hp <;> simp at hp
      omega
theorem fi_inc (ns : List Int) : ∀ (i : Nat), (fi ns i).Pairwise (· < ·)
  | 0 => by simp [fi]
  | i + 1 => by
    rw [fi, List.pairwise_append]
    refine ⟨fi_inc ns i, by split <;> simp, fun a ha b hb => ?_⟩
    split at hb <;> simp at hb
    subst hb
    exact fi_lt ns _ a ha
/-- The column of a byte. -/
def cof (L : List α) (b : Nat) : Nat := (Rk.ranks L).getD b 0
def fby (L : List α) : List Nat := fi (zs (Rk.ranks L)) 256
theorem cof_at {L : List α} (hL : L.length = 256) {b : Nat} (hb : b < 256) : ∃ x p, L[b]? = some x ∧ (Rk.ranks L)[b]? = some (cof L b) ∧ (fby L)[cof L b]? = some p ∧ L[p]? = some x ∧ p ≤ b ∧ cof L b < (fby L).length := by
  have hx : L[b]? = some (L[b]'(by omega)) := List.getElem?_eq_getElem _
  have hr : (Rk.ranks L)[b]? = some (cof L b) := by
    unfold cof
    rw [List.getD_eq_getElem?_getD, List.getElem?_eq_getElem (by rw [Rk.ranks_length]; omega)]; rfl
  obtain ⟨p, hp, hpx, _⟩ := fi_at L hx hr
  rw [hL] at hp
  refine ⟨_, p, hx, hr, hp, hpx, ?_, (List.getElem?_eq_some_iff.1 hp).1⟩
  obtain ⟨E, hE⟩ := fi_pre (zs (Rk.ranks L)) (b + 1) 256 (by omega)
  obtain ⟨k1, k2⟩ := fi_kn L (b + 1) (by omega)
  have hlen : (fi (zs (Rk.ranks L)) (b + 1)).length = (kn L (b + 1)).length := by have := congrArg List.length k1; simpa using this
  have hin : L[b]'(by omega) ∈ kn L (b + 1) := by
    unfold kn
    rw [Rk.mem_known']
    exact List.mem_of_getElem? (i := b) (by rw [List.getElem?_take, if_pos (by omega), hx])
  have hro : cof L b < (kn L (b + 1)).length := by
    by_cases h9 : L[b]'(by omega) ∈ kn L b
    · have := rank_in hx h9
      rw [hr] at this
      rw [Option.some.inj this, kn_in hx h9]
      exact List.idxOf_lt_length_of_mem h9
    · have := rank_new hx h9
      rw [hr] at this
      rw [Option.some.inj this, kn_new hx h9]
      simp
  rw [hE, List.getElem?_append_left (by omega)] at hp
  have := k2 p (List.mem_of_getElem? hp)
  omega
theorem fby_lt (L : List α) : ∀ p ∈ fby L, p < 256 := fi_lt _ _
/-- The first byte of a column has that column. -/
theorem cof_fby {L : List α} (hL : L.length = 256) {c p : Nat} (hp : (fby L)[c]? = some p) : cof L p = c := by
  have hp256 := fby_lt L p (List.mem_of_getElem? hp)
  obtain ⟨x, p', h1, h2, h3, h4, h5, h6⟩ := cof_at hL hp256
  have hpw := fi_inc (zs (Rk.ranks L)) 256
  obtain ⟨hcl, hc⟩ := List.getElem?_eq_some_iff.1 hp
  obtain ⟨hdl, hd⟩ := List.getElem?_eq_some_iff.1 h3
  have hk := (fi_kn L 256 (by omega)).1
  have e1 := congrArg (fun l => l[c]?) hk
  have e2 := congrArg (fun l => l[cof L p]?) hk
  have hp9 : (fi (zs (Rk.ranks L)) 256)[c]? = some p := hp
  have h39 : (fi (zs (Rk.ranks L)) 256)[cof L p]? = some p' := h3
  simp only [List.getElem?_map, hp9, h39, Option.map_some] at e1 e2
  rw [h1] at e1
  rw [h4] at e2
  have n1 : (kn L 256)[c]? = some x := by
    cases h9 : (kn L 256)[c]? with
    | none => rw [h9] at e1; simp at e1
    | some y => rw [h9] at e1; simp at e1; rw [e1]
  have n2 : (kn L 256)[cof L p]? = some x := by
    cases h9 : (kn L 256)[cof L p]? with
    | none => rw [h9] at e2; simp at e2
    | some y => rw [h9] at e2; simp at e2; rw [e2]
  have hnod : (kn L 256).Nodup := Rk.nodup_known _ [] List.nodup_nil
  obtain ⟨l1, g1⟩ := List.getElem?_eq_some_iff.1 n1
  obtain ⟨l2, g2⟩ := List.getElem?_eq_some_iff.1 n2
  rw [← hnod.idxOf_getElem (cof L p) l2, ← hnod.idxOf_getElem c l1, g1, g2]
end
/-- A run from a state or the sink. -/
def rnX (D : Df) (n q : Nat) (t : List UInt8) : Int := if q < n then rn D q t else -1
def nat8 (t : List UInt8) : List Nat := t.map fun b => b.toNat
theorem acc_sink {D : Df} {n k : Nat} (hv : Vd D n k) (by_ : List Nat) {q : Nat} (hq : q ≤ n) : Mo.acc (tb D by_) q = some (rnX D n q []) := by
  unfold Mo.acc tb rnX
  dsimp only
  by_cases h : q < n
  · rw [if_pos h, List.getElem?_append_left (by rw [hv.al]; exact h), (ac_at hv h).1]; rfl
  · obtain rfl : q = n := by omega
    rw [if_neg h, List.getElem?_append_right (by rw [hv.al]; exact Nat.le_refl _), hv.al, Nat.sub_self]; rfl
/-- Where a byte's column leads. -/
theorem to_tb {α : Type} [DecidableEq α] {D : Df} {n k : Nat} (hv : Vd D n k) {L : List α} (hL : L.length = 256) (hK : ∀ (i j : Nat), i < 256 → j < 256 → L[i]? = L[j]? → D.cls[i]? = D.cls[j]?) {q b : Nat} (hq : q ≤ n) (hb : b < 256) :
    Mo.to (tb D (fby L)) q (cof L b) = if q < n then sk n (dl D q b) else n := by
  obtain ⟨x, p, h1, h2, h3, h4, h5, h6⟩ := cof_at hL hb
  unfold Mo.to tb
  dsimp only
  by_cases h : q < n
  · obtain ⟨r, c, hr, hc, hck, hrl, hrc, hd1, hd2⟩ := dl_at hv h hb
    rw [if_pos h, List.getD_eq_getElem?_getD, List.getD_eq_getElem?_getD, List.getElem?_append_left (by rw [List.length_map, hv.hn]; exact h), List.getElem?_map, hr]
    simp only [Option.map_some, Option.getD_some]
    unfold tbr
    rw [List.getElem?_map, h3]
    simp only [Option.map_some, Option.getD_some]
    have hp256 := fby_lt L p (List.mem_of_getElem? h3)
    have hcp := hK p b hp256 hb (by rw [h4, h1])
    rw [hc] at hcp
    have hcl : cl D p = c := by unfold cl; rw [List.getD_eq_getElem?_getD, hcp]; rfl
    rw [hcl, List.getD_eq_getElem?_getD, hrc, hv.hn]; rfl
  · obtain rfl : q = n := by omega
    rw [if_neg h, List.getD_eq_getElem?_getD, List.getD_eq_getElem?_getD, List.getElem?_append_right (by rw [List.length_map, hv.hn]; exact Nat.le_refl _), List.length_map, hv.hn, Nat.sub_self]
    simp [List.getElem?_replicate, h6]
theorem trun {α : Type} [DecidableEq α] {D : Df} {n k : Nat} (hv : Vd D n k) {L : List α} (hL : L.length = 256) (hK : ∀ (i j : Nat), i < 256 → j < 256 → L[i]? = L[j]? → D.cls[i]? = D.cls[j]?) : ∀ (t : List UInt8) (q : Nat), q ≤ n →
    Mo.acc (tb D (fby L)) (((nat8 t).map (cof L)).foldl (Mo.to (tb D (fby L))) q) = some (rnX D n q t)
  | [], q, hq => acc_sink hv _ hq
  | b :: t, q, hq => by
    have hb : b.toNat < 256 := b.toNat_lt
    show Mo.acc _ (((nat8 t).map (cof L)).foldl _ (Mo.to _ q (cof L b.toNat))) = _
    rw [to_tb hv hL hK hq hb]
    by_cases h : q < n
    · obtain ⟨_, _, _, _, _, _, _, hd1, hd2⟩ := dl_at hv h hb
      rw [if_pos h]
      unfold sk
      by_cases e : dl D q b.toNat = -1
      · rw [if_pos e, trun hv hL hK t n (Nat.le_refl _)]
        unfold rnX
        rw [if_neg (by omega), if_pos h, rn, if_pos (by omega)]
      · rw [if_neg e, trun hv hL hK t _ (by omega)]
        unfold rnX
        rw [if_pos (by omega), if_pos h]
        conv => rhs; rw [rn]
        rw [if_neg (by omega)]
    · obtain rfl : q = n := by omega
      rw [if_neg h, trun hv hL hK t q (Nat.le_refl _)]
      unfold rnX
      rw [if_neg h, if_neg h]
theorem map_inj_on {f : Nat → Nat} {m : Nat} (hf : ∀ a b, a < m → b < m → f a = f b → a = b) : ∀ {u w : List Nat}, (∀ x ∈ u, x < m) → (∀ x ∈ w, x < m) → u.map f = w.map f → u = w
  | [], [], _, _, _ => rfl
  | [], y :: w, _, _, h => by simp at h
  | x :: u, [], _, _, h => by simp at h
  | x :: u, y :: w, hu, hw, h => by
    simp only [List.map_cons, List.cons.injEq] at h
    rw [hf x y (hu x (by simp)) (hw y (by simp)) h.1, map_inj_on hf (fun z hz => hu z (by simp [hz])) (fun z hz => hw z (by simp [hz])) h.2]
theorem snoc_cases (w : List Nat) : w = [] ∨ ∃ w' d, w = w' ++ [d] := by
  by_cases h : w = []
  · exact .inl h
  · exact .inr ⟨w.dropLast, w.getLast h, (List.dropLast_concat_getLast h).symm⟩
theorem vl_inj : ∀ (l : Nat) (u w : List Nat), u.length = l → (∀ x ∈ u, x < 256) → (∀ x ∈ w, x < 256) → Bf.vl u = Bf.vl w → u = w
  | 0, u, w, hu, _, _, h => by
    rw [List.length_eq_zero_iff.1 hu] at h ⊢
    rcases snoc_cases w with rfl | ⟨w', d, rfl⟩
    · rfl
    · rw [Bf.vl_snoc, Bf.vl_nil] at h; omega
  | l + 1, u, w, hu, hum, hwm, h => by
    rcases snoc_cases u with rfl | ⟨u', c, rfl⟩
    · simp at hu
    · rcases snoc_cases w with rfl | ⟨w', d, rfl⟩
      · rw [Bf.vl_snoc, Bf.vl_nil] at h; omega
      · rw [Bf.vl_snoc, Bf.vl_snoc] at h
        have hc := hum c (by simp)
        have hd := hwm d (by simp)
        have e1 : Bf.vl u' = Bf.vl w' := by omega
        have e2 : c = d := by omega
        rw [vl_inj l u' w' (by simpa using hu) (fun x hx => hum x (by simp [hx])) (fun x hx => hwm x (by simp [hx])) e1, e2]
/-- The order of strings is kept by letters that grow. -/
theorem vl_mono {f : Nat → Nat} {m : Nat} (hm : m ≤ 256) (hf : ∀ a b, a < b → b < m → f a < f b) (hlt : ∀ a, a < m → f a < 256) : ∀ (l : Nat) (u w : List Nat), u.length = l → (∀ x ∈ u, x < m) → (∀ x ∈ w, x < m) → Bf.vl u ≤ Bf.vl w → Bf.vl (u.map f) ≤ Bf.vl (w.map f)
  | 0, u, w, hu, _, _, h => by
    rw [List.length_eq_zero_iff.1 hu]
    exact Nat.zero_le _
  | l + 1, u, w, hu, hum, hwm, h => by
    rcases snoc_cases u with rfl | ⟨u', c, rfl⟩
    · simp at hu
    · rcases snoc_cases w with rfl | ⟨w', d, rfl⟩
      · rw [Bf.vl_snoc, Bf.vl_nil] at h; omega
      · rw [List.map_append, List.map_append]
        simp only [List.map_cons, List.map_nil]
        rw [Bf.vl_snoc, Bf.vl_snoc] at h ⊢
        have hc := hum c (by simp)
        have hd := hwm d (by simp)
        have hfc := hlt c hc
        have hfd := hlt d hd
        have hu' : u'.length = l := by simpa using hu
        have hum' : ∀ x ∈ u', x < m := fun x hx => hum x (by simp [hx])
        have hwm' : ∀ x ∈ w', x < m := fun x hx => hwm x (by simp [hx])
        have hle : Bf.vl u' ≤ Bf.vl w' := by omega
        have hih := vl_mono hm hf hlt l u' w' hu' hum' hwm' hle
        by_cases e : Bf.vl (u'.map f) = Bf.vl (w'.map f)
        · have e2 : u'.map f = w'.map f := vl_inj _ _ _ rfl (fun x hx => by obtain ⟨y, hy, rfl⟩ := List.mem_map.1 hx; exact hlt y (hum' y hy)) (fun x hx => by obtain ⟨y, hy, rfl⟩ := List.mem_map.1 hx; exact hlt y (hwm' y hy)) e
          have e3 : u' = w' := by
            refine map_inj_on (fun a b ha hb hab => ?_) hum' hwm' e2
            by_cases h1 : a < b
            · have := hf a b h1 hb; omega
            · by_cases h2 : b < a
              · have := hf b a h2 ha; omega
              · omega
          subst e3
          have hcd : c ≤ d := by omega
          by_cases h5 : c = d
          · rw [h5]; omega
          · have := hf c d (by omega) hd; omega
        · omega
end Go.Proofs.Ytelbagaiijffdaa
