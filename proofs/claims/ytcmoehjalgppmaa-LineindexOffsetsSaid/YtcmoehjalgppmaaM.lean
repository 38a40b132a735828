/-
  Plain maths: the application of an edit; the lines of a text, their starts and ends (no program).
-/
namespace Te
abbrev Ed := Int × Int × ByteArray
def Fit (n : Int) (e : Ed) : Prop := 0 ≤ e.1 ∧ 0 ≤ e.2.1 ∧ e.2.1 ≤ n - e.1
instance (n : Int) (e : Ed) : Decidable (Fit n e) := by unfold Fit; infer_instance
def ap (s : ByteArray) (e : Ed) : ByteArray := s.extract 0 e.1.toNat ++ e.2.2 ++ s.extract (e.1.toNat + e.2.1.toNat) s.size
def inv (s : ByteArray) (e : Ed) : Ed := (e.1, (e.2.2.size : Int), s.extract e.1.toNat (e.1.toNat + e.2.1.toNat))

theorem list_ex (x : ByteArray) (i j : Nat) : (x.extract i j).data.toList = (x.data.toList.take j).drop i := by
  rw [ByteArray.data_extract, Array.toList_extract]
  simp [List.drop_take]
theorem list_app (x y : ByteArray) : (x ++ y).data.toList = x.data.toList ++ y.data.toList := by
  simp
theorem bytes_ext {x y : ByteArray} (h : x.data.toList = y.data.toList) : x = y := by
  apply ByteArray.ext; apply Array.ext'; exact h
theorem len_data (x : ByteArray) : x.data.toList.length = x.size := by rw [Array.length_toList]; rfl

theorem Fit.nat {n : Nat} {e : Ed} (h : Fit n e) : ∃ (a d : Nat) (t : ByteArray), e = ((a : Int), (d : Int), t) ∧ a + d ≤ n := by
  obtain ⟨a, d, t⟩ := e
  obtain ⟨h1, h2, h3⟩ := h
  simp only at h1 h2 h3
  exact ⟨a.toNat, d.toNat, t, by simp [Int.toNat_of_nonneg h1, Int.toNat_of_nonneg h2], by omega⟩
theorem fit_nat {n a d : Nat} {t : ByteArray} : Fit n ((a : Int), (d : Int), t) ↔ a + d ≤ n := by
  unfold Fit; constructor
  · intro h; simp only at h; omega
  · intro h; simp only; omega

/-- The list of bytes. -/
def L (s : ByteArray) : List UInt8 := s.data.toList
theorem L_inj {x y : ByteArray} (h : L x = L y) : x = y := bytes_ext h
theorem L_len (x : ByteArray) : (L x).length = x.size := len_data x
theorem L_ex (x : ByteArray) (i j : Nat) : L (x.extract i j) = ((L x).take j).drop i := list_ex x i j
theorem L_app (x y : ByteArray) : L (x ++ y) = L x ++ L y := list_app x y
theorem L_ap (s t : ByteArray) (a d : Nat) : L (ap s ((a : Int), (d : Int), t)) = (L s).take a ++ L t ++ (L s).drop (a + d) := by
  unfold ap
  simp only [L_app, L_ex, Int.toNat_natCast, List.drop_zero]
  have : (L s).take s.size = L s := List.take_of_length_le (by rw [L_len]; exact Nat.le_refl _)
  rw [this]
theorem L_inv (s t : ByteArray) (a d : Nat) : inv s ((a : Int), (d : Int), t) = ((a : Int), (t.size : Int), s.extract a (a + d)) := by
  unfold inv
  simp only [Int.toNat_natCast]

theorem ap_size {s : ByteArray} {e : Ed} (h : Fit s.size e) : ((ap s e).size : Int) + e.2.1 = s.size + e.2.2.size := by
  obtain ⟨a, d, t, rfl, h⟩ := h.nat
  have : (ap s ((a : Int), (d : Int), t)).size + d = s.size + t.size := by
    rw [← L_len, L_ap]
    simp only [List.length_append, List.length_take, List.length_drop, L_len]
    omega
  simp only
  omega
/-- A piece in the middle replaced. -/
theorem apl {s t : ByteArray} {P D Q : List UInt8} {a d : Nat} (h : L s = P ++ D ++ Q) (ha : P.length = a) (hd : D.length = d) : L (ap s ((a : Int), (d : Int), t)) = P ++ L t ++ Q := by
  rw [L_ap, h]
  have e1 : (P ++ D ++ Q).take a = P := by rw [List.append_assoc, ← ha]; simp
  have e2 : (P ++ D ++ Q).drop (a + d) = Q := by
    rw [show a + d = (P ++ D).length by simp [ha, hd]]
    simp
  rw [e1, e2]
theorem mid {s : ByteArray} {P D Q : List UInt8} {a d : Nat} (h : L s = P ++ D ++ Q) (ha : P.length = a) (hd : D.length = d) : L (s.extract a (a + d)) = D := by
  rw [L_ex, h]
  rw [show a + d = (P ++ D).length by simp [ha, hd]]
  rw [List.take_left, ← ha, List.drop_left]
theorem split {s : ByteArray} {a d : Nat} (h : a + d ≤ s.size) : ∃ P D Q, L s = P ++ D ++ Q ∧ P.length = a ∧ D.length = d := by
  refine ⟨(L s).take a, ((L s).drop a).take d, (L s).drop (a + d), ?_, ?_, ?_⟩
  · rw [List.append_assoc, ← List.drop_drop, List.take_append_drop, List.take_append_drop]
  · rw [List.length_take, L_len]; omega
  · rw [List.length_take, List.length_drop, L_len]; omega

theorem ap_inv {s : ByteArray} {e : Ed} (h : Fit s.size e) : Fit (ap s e).size (inv s e) ∧ ap (ap s e) (inv s e) = s ∧ inv (ap s e) (inv s e) = e := by
  have hs := ap_size h
  obtain ⟨a, d, t, rfl, hl⟩ := h.nat
  obtain ⟨P, D, Q, h1, h2, h3⟩ := split hl
  have h4 := apl (t := t) h1 h2 h3
  have h5 := mid h1 h2 h3
  rw [L_inv]
  simp only at hs
  refine ⟨fit_nat.2 (by omega), ?_, ?_⟩
  · apply L_inj
    rw [apl h4 h2 (L_len t), h5, h1]
  · rw [L_inv]
    have : (s.extract a (a + d)).size = d := by rw [← L_len, h5, h3]
    rw [this]
    have : (ap s ((a : Int), (d : Int), t)).extract a (a + t.size) = t := L_inj (mid h4 h2 (L_len t))
    rw [this]


theorem ap_le {s : ByteArray} {e : Ed} (h : Fit s.size e) : (ap s e).size ≤ s.size + e.2.2.size := by
  have := ap_size h
  have := h.2.1
  omega

/-! Lines. -/
def nl (s : ByteArray) (i : Nat) : Bool := (L s)[i]? == some 10
theorem nl_byte {s : ByteArray} {i : Nat} (h : i < s.size) : nl s i = true ↔ (s[i].toNat : Int) = 10 := by
  unfold nl
  have e : (L s)[i]? = some s[i] := by
    unfold L
    rw [List.getElem?_eq_getElem (by rw [len_data]; exact h)]
    rfl
  rw [e]
  simp only [beq_iff_eq, Option.some.injEq]
  constructor
  · intro h; rw [h]; rfl
  · intro h; apply UInt8.toNat_inj.1; have : s[i].toNat = 10 := by omega
    rw [this]; rfl
theorem nl_lt {s : ByteArray} {i : Nat} (h : nl s i = true) : i < s.size := by
  unfold nl at h
  simp only [beq_iff_eq] at h
  have := (List.getElem?_eq_some_iff.1 h).1
  rwa [L_len] at this
/-- The starts of the lines behind the first one, as far as the first k bytes tell. -/
def Sk (s : ByteArray) (k : Nat) : List Nat := ((List.range k).filter (nl s)).map (· + 1)
def S (s : ByteArray) : List Nat := Sk s s.size
theorem Sk_zero (s : ByteArray) : Sk s 0 = [] := rfl
theorem Sk_succ (s : ByteArray) (k : Nat) : Sk s (k + 1) = Sk s k ++ (if nl s k then [k + 1] else []) := by
  unfold Sk
  rw [List.range_succ, List.filter_append, List.map_append]
  congr 1
  by_cases h : nl s k = true
  · simp [h]
  · simp [h]
theorem Sk_yes {s : ByteArray} {k : Nat} (h : nl s k = true) : Sk s (k + 1) = Sk s k ++ [k + 1] := by rw [Sk_succ, if_pos h]
theorem Sk_no {s : ByteArray} {k : Nat} (h : ¬ nl s k = true) : Sk s (k + 1) = Sk s k := by rw [Sk_succ, if_neg h, List.append_nil]
theorem Sk_len (s : ByteArray) : ∀ k, (Sk s k).length ≤ k
  | 0 => Nat.le_refl _
  | k + 1 => by
    have := Sk_len s k
    rw [Sk_succ]; split <;> simp <;> omega
theorem Sk_mem {s : ByteArray} {k x : Nat} : x ∈ Sk s k ↔ 0 < x ∧ x ≤ k ∧ nl s (x - 1) = true := by
  unfold Sk
  simp only [List.mem_map, List.mem_filter, List.mem_range]
  constructor
  · rintro ⟨y, ⟨h1, h2⟩, rfl⟩
    exact ⟨by omega, by omega, by simpa using h2⟩
  · rintro ⟨h1, h2, h3⟩
    exact ⟨x - 1, ⟨by omega, h3⟩, by omega⟩
theorem Sk_past {s : ByteArray} {k : Nat} (h : s.size ≤ k) : Sk s k = S s := by
  obtain ⟨d, rfl⟩ : ∃ d, k = s.size + d := ⟨k - s.size, by omega⟩
  clear h
  induction d with
  | zero => rfl
  | succ d ih =>
    rw [← Nat.add_assoc, Sk_no, ih]
    intro h
    have := nl_lt h
    omega
theorem Sk_prefix (s : ByteArray) {j : Nat} : ∀ {k : Nat}, j ≤ k → ∃ r, Sk s k = Sk s j ++ r ∧ ∀ x ∈ r, j < x
  | 0, h => ⟨[], by rw [show j = 0 by omega]; simp, by simp⟩
  | k + 1, h => by
    by_cases e : j = k + 1
    · subst e; exact ⟨[], by simp, by simp⟩
    · obtain ⟨r, h1, h2⟩ := Sk_prefix s (j := j) (k := k) (by omega)
      refine ⟨r ++ (if nl s k then [k + 1] else []), by rw [Sk_succ, h1, List.append_assoc], ?_⟩
      intro x hx
      rcases List.mem_append.1 hx with hx | hx
      · exact h2 x hx
      · split at hx
        · simp at hx; omega
        · simp at hx
theorem S_prefix (s : ByteArray) (j : Nat) : ∃ r, S s = Sk s j ++ r ∧ ∀ x ∈ r, j < x := by
  by_cases h : j ≤ s.size
  · exact Sk_prefix s h
  · exact ⟨[], by rw [Sk_past (by omega)]; simp, by simp⟩
/-- The number of the line of an offset. -/
def ln (s : ByteArray) (o : Nat) : Nat := (Sk s o).length
/-- The number of line feeds. -/
def N (s : ByteArray) : Nat := (S s).length
theorem N_le (s : ByteArray) : N s ≤ s.size := Sk_len s s.size
theorem ln_le (s : ByteArray) (o : Nat) : ln s o ≤ N s := by
  obtain ⟨r, h, _⟩ := S_prefix s o
  unfold N ln
  rw [h, List.length_append]; omega
theorem ln_zero (s : ByteArray) : ln s 0 = 0 := rfl
theorem ln_yes {s : ByteArray} {k : Nat} (h : nl s k = true) : ln s (k + 1) = ln s k + 1 := by unfold ln; rw [Sk_yes h]; simp
theorem ln_no {s : ByteArray} {k : Nat} (h : ¬ nl s k = true) : ln s (k + 1) = ln s k := by unfold ln; rw [Sk_no h]
theorem ln_size (s : ByteArray) : ln s s.size = N s := rfl
/-- The start of line n, and its end. -/
def bg (s : ByteArray) (n : Nat) : Nat := if n = 0 then 0 else (S s)[n - 1]?.getD 0
def en (s : ByteArray) (n : Nat) : Nat := if n = N s then s.size else (S s)[n]?.getD 0 - 1
theorem bg_zero (s : ByteArray) : bg s 0 = 0 := rfl
theorem bg_succ {s : ByteArray} {n : Nat} (h : n < N s) : (S s)[n]? = some (bg s (n + 1)) := by
  unfold bg
  rw [if_neg (by omega), Nat.add_sub_cancel]
  unfold N at h
  rw [List.getElem?_eq_getElem h]; rfl
theorem en_bg {s : ByteArray} {n : Nat} (h : n < N s) : bg s (n + 1) = en s n + 1 ∧ nl s (en s n) = true ∧ bg s (n + 1) ≤ s.size := by
  have e := bg_succ h
  have hm : bg s (n + 1) ∈ Sk s s.size := List.mem_of_getElem? e
  rw [Sk_mem] at hm
  have e2 : en s n = bg s (n + 1) - 1 := by
    unfold en
    rw [if_neg (by omega), e]; rfl
  rw [e2]
  exact ⟨by omega, hm.2.2, hm.2.1⟩
theorem en_last (s : ByteArray) : en s (N s) = s.size := if_pos rfl
/-- The line of an offset starts at or before it .. -/
theorem bg_ln {s : ByteArray} {o : Nat} : bg s (ln s o) ≤ o := by
  obtain ⟨r, h, _⟩ := S_prefix s o
  by_cases e : ln s o = 0
  · rw [e]; exact Nat.zero_le _
  · obtain ⟨m, hm⟩ : ∃ m, ln s o = m + 1 := ⟨ln s o - 1, by omega⟩
    have h1 := ln_le s o
    have h2 := bg_succ (s := s) (n := m) (by omega)
    rw [h, List.getElem?_append_left (by unfold ln at hm; omega)] at h2
    have := List.mem_of_getElem? h2
    rw [Sk_mem] at this
    rw [hm]
    exact this.2.1
/-- .. as all before it do .. -/
theorem S_le {s : ByteArray} {o i x : Nat} (hi : i < ln s o) (hx : (S s)[i]? = some x) : x ≤ o := by
  obtain ⟨r, h, _⟩ := S_prefix s o
  rw [h, List.getElem?_append_left hi] at hx
  have := List.mem_of_getElem? hx
  rw [Sk_mem] at this
  exact this.2.1
/-- .. and those behind it start behind the offset. -/
theorem S_gt {s : ByteArray} {o i x : Nat} (hi : ln s o ≤ i) (hx : (S s)[i]? = some x) : o < x := by
  obtain ⟨r, h, hr⟩ := S_prefix s o
  rw [h, List.getElem?_append_right hi] at hx
  exact hr _ (List.mem_of_getElem? hx)
theorem le_en {s : ByteArray} {o : Nat} (ho : o ≤ s.size) : o ≤ en s (ln s o) := by
  by_cases e : ln s o = N s
  · rw [e, en_last]; exact ho
  · have h1 := ln_le s o
    have h2 := bg_succ (s := s) (n := ln s o) (by omega)
    have h3 := S_gt (Nat.le_refl _) h2
    have h4 := (en_bg (s := s) (n := ln s o) (by omega)).1
    omega
theorem bg_yes {s : ByteArray} {k : Nat} (h : nl s k = true) : bg s (ln s (k + 1)) = k + 1 := by
  obtain ⟨r, hr, _⟩ := S_prefix s (k + 1)
  have hk := ln_yes h
  have h1 := ln_le s (k + 1)
  have h2 := bg_succ (s := s) (n := ln s k) (by omega)
  rw [hr, Sk_yes h, List.append_assoc] at h2
  unfold ln at h2
  rw [List.getElem?_append_right (Nat.le_refl _), Nat.sub_self] at h2
  rw [hk]
  simp at h2
  exact h2.symm
theorem en_yes {s : ByteArray} {k : Nat} (h : nl s k = true) : en s (ln s k) = k ∧ ln s k < N s := by
  have hk := ln_yes h
  have h1 := ln_le s (k + 1)
  have h3 := bg_yes h
  rw [hk] at h3
  have := (en_bg (s := s) (n := ln s k) (by omega)).1
  exact ⟨by omega, by omega⟩
theorem Sk_sorted (s : ByteArray) (k : Nat) : (Sk s k).Pairwise (· < ·) := by
  unfold Sk
  refine List.Pairwise.map (R := (· < ·)) _ (fun a b h => by show a + 1 < b + 1; omega) ?_
  exact List.Pairwise.filter _ List.pairwise_lt_range
/-- Line numbers grow with the starts. -/
theorem bg_lt {s : ByteArray} {n m : Nat} (h : n < m) (hm : m ≤ N s) : bg s n < bg s m := by
  obtain ⟨k, rfl⟩ : ∃ k, m = k + 1 := ⟨m - 1, by omega⟩
  have h2 := bg_succ (s := s) (n := k) (by omega)
  by_cases e : n = 0
  · subst e
    have := List.mem_of_getElem? h2
    unfold S at this
    rw [Sk_mem] at this
    exact this.1
  · obtain ⟨j, rfl⟩ : ∃ j, n = j + 1 := ⟨n - 1, by omega⟩
    have h1 := bg_succ (s := s) (n := j) (by omega)
    obtain ⟨l1, e1⟩ := List.getElem?_eq_some_iff.1 h1
    obtain ⟨l2, e2⟩ := List.getElem?_eq_some_iff.1 h2
    have := List.pairwise_iff_getElem.1 (Sk_sorted s s.size) j k l1 l2 (by omega)
    rw [← e1, ← e2]
    exact this
theorem ln_bg {s : ByteArray} {n : Nat} (h : n ≤ N s) : ln s (bg s n) = n := by
  by_cases e : n = 0
  · subst e; rfl
  · obtain ⟨m, rfl⟩ : ∃ m, n = m + 1 := ⟨n - 1, by omega⟩
    have h2 := bg_succ (s := s) (n := m) (by omega)
    have a1 : ¬ ln s (bg s (m + 1)) ≤ m := fun h3 => by have := S_gt h3 h2; omega
    have a2 : ¬ m + 1 < ln s (bg s (m + 1)) := fun h3 => by
      have h4 := ln_le s (bg s (m + 1))
      have h5 := bg_succ (s := s) (n := m + 1) (by omega)
      have h6 := S_le h3 h5
      have h7 := bg_lt (s := s) (n := m + 1) (m := m + 1 + 1) (by omega) (by omega)
      omega
    omega
theorem bg_en {s : ByteArray} {n : Nat} (h : n ≤ N s) : bg s n ≤ en s n ∧ en s n ≤ s.size := by
  by_cases e : n = N s
  · rw [e, en_last]
    have := bg_ln (s := s) (o := s.size)
    rw [ln_size] at this
    exact ⟨this, Nat.le_refl _⟩
  · have h1 := en_bg (s := s) (n := n) (by omega)
    have h2 := bg_lt (s := s) (n := n) (m := n + 1) (by omega) (by omega)
    omega
/-- The lines. -/
def lineAt (s : ByteArray) (n : Nat) : ByteArray := s.extract (bg s n) (en s n)
def Ls (s : ByteArray) : List ByteArray := (List.range (N s + 1)).map (lineAt s)
theorem Ls_length (s : ByteArray) : (Ls s).length = N s + 1 := by simp [Ls]
theorem Ls_at {s : ByteArray} {n : Nat} (h : n ≤ N s) : (Ls s)[n]? = some (lineAt s n) := by
  unfold Ls
  rw [List.getElem?_map, List.getElem?_range (by omega)]
  rfl
theorem Ls_take {s : ByteArray} {n : Nat} (h : n ≤ N s) : (Ls s).take (n + 1) = (Ls s).take n ++ [lineAt s n] := by
  rw [List.take_add_one, Ls_at h]; rfl
theorem lineAt_size {s : ByteArray} {n : Nat} (h : n ≤ N s) : (lineAt s n).size = en s n - bg s n := by
  have := bg_en h
  unfold lineAt
  rw [ByteArray.size_extract]; omega
/-- No line feed lies in a line. -/
theorem line_clean {s : ByteArray} {n i : Nat} (h : n ≤ N s) (h1 : bg s n ≤ i) (h2 : i < en s n) : ¬ nl s i = true := by
  intro hi
  have a := bg_yes hi
  have b := ln_yes hi
  have c := ln_le s (i + 1)
  have hb := bg_en h
  -- the start i + 1 lies strictly behind bg n, so its number is above n; then bg (n + 1) ≤ i + 1
  have h3 : n < ln s (i + 1) := by
    by_cases h4 : ln s (i + 1) = n
    · rw [h4] at a; omega
    · by_cases h5 : ln s (i + 1) < n
      · have := bg_lt h5 h; omega
      · omega
  have h6 := en_bg (s := s) (n := n) (by omega)
  by_cases h7 : n + 1 = ln s (i + 1)
  · rw [← h7] at a; omega
  · have := bg_lt (s := s) (n := n + 1) (m := ln s (i + 1)) (by omega) c
    omega
/-- How many line feeds a text holds. -/
theorem ln_count (s : ByteArray) : ∀ k, ln s k = ((L s).take k).count 10
  | 0 => by simp [ln_zero]
  | k + 1 => by
    rw [List.take_add_one, List.count_append, ← ln_count s k]
    by_cases h : nl s k = true
    · rw [ln_yes h]
      unfold nl at h
      simp only [beq_iff_eq] at h
      rw [h]; rfl
    · rw [ln_no h]
      unfold nl at h
      simp only [beq_iff_eq] at h
      cases e : (L s)[k]? with
      | none => simp
      | some x =>
        have : ¬ x = 10 := fun hx => h (by rw [e, hx])
        simp [this]
theorem N_count (s : ByteArray) : N s = (L s).count 10 := by
  rw [← ln_size, ln_count, ← L_len, List.take_length]
theorem N_ap (s t : ByteArray) (a : Nat) : N (ap s ((a : Int), ((0 : Nat) : Int), t)) = N s + N t := by
  rw [N_count, N_count, N_count, L_ap, List.count_append, List.count_append, Nat.add_zero]
  have := congrArg (List.count 10) (List.take_append_drop a (L s))
  rw [List.count_append] at this
  omega
/-- The text up to the end of a line: one line more. -/
theorem text_step {s : ByteArray} {n : Nat} (h : n < N s) : s.extract 0 (en s n) ++ { data := #[10] } ++ lineAt s (n + 1) = s.extract 0 (en s (n + 1)) := by
  obtain ⟨h1, h2, h3⟩ := en_bg h
  have h4 := bg_en (s := s) (n := n + 1) (by omega)
  apply L_inj
  unfold lineAt
  simp only [L_app, L_ex, List.drop_zero]
  have e1 : L ({ data := #[10] } : ByteArray) = [10] := rfl
  have e2 : (L s).take (en s n + 1) = (L s).take (en s n) ++ [10] := by
    unfold nl at h2
    simp only [beq_iff_eq] at h2
    rw [List.take_add_one, h2]; rfl
  rw [e1, ← e2, ← h1]
  have e3 : (L s).take (bg s (n + 1)) = ((L s).take (en s (n + 1))).take (bg s (n + 1)) := by
    rw [List.take_take, Nat.min_eq_left h4.1]
  rw [e3, List.take_append_drop]
theorem text_zero (s : ByteArray) : lineAt s 0 = s.extract 0 (en s 0) := rfl
theorem extract_all (s : ByteArray) : s.extract 0 s.size = s := by
  apply L_inj
  rw [L_ex, List.drop_zero, ← L_len, List.take_length]
end Te
