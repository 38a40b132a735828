/-
  Plain maths: an edit applied; the distance, the canonical matching, the hull (no program).
-/
namespace Te
abbrev Ed := Int × Int × ByteArray
def Fit (n : Int) (e : Ed) : Prop := 0 ≤ e.1 ∧ 0 ≤ e.2.1 ∧ e.2.1 ≤ n - e.1
instance (n : Int) (e : Ed) : Decidable (Fit n e) := by unfold Fit; infer_instance
def ap (s : ByteArray) (e : Ed) : ByteArray := s.extract 0 e.1.toNat ++ e.2.2 ++ s.extract (e.1.toNat + e.2.1.toNat) s.size
def inv (s : ByteArray) (e : Ed) : Ed := (e.1, (e.2.2.size : Int), s.extract e.1.toNat (e.1.toNat + e.2.1.toNat))

theorem list_ex (x : ByteArray) (i j : Nat) : (x.extract i j).data.toList = (x.data.toList.take j).drop i := by
  rw [ByteArray.data_extract, Array.toList_extract]
  simp [List.drop_take]
theorem list_app (x y : ByteArray) : (x ++ y).data.toList = x.data.toList ++ y.data.toList := by
  simp
theorem bytes_ext {x y : ByteArray} (h : x.data.toList = y.data.toList) : x = y := by
  apply ByteArray.ext; apply Array.ext'; exact h
theorem len_data (x : ByteArray) : x.data.toList.length = x.size := by rw [Array.length_toList]; rfl

theorem Fit.nat {n : Nat} {e : Ed} (h : Fit n e) : ∃ (a d : Nat) (t : ByteArray), e = ((a : Int), (d : Int), t) ∧ a + d ≤ n := by
  obtain ⟨a, d, t⟩ := e
  obtain ⟨h1, h2, h3⟩ := h
  simp only at h1 h2 h3
  exact ⟨a.toNat, d.toNat, t, by simp [Int.toNat_of_nonneg h1, Int.toNat_of_nonneg h2], by omega⟩
theorem fit_nat {n a d : Nat} {t : ByteArray} : Fit n ((a : Int), (d : Int), t) ↔ a + d ≤ n := by
  unfold Fit; constructor
  · intro h; simp only at h; omega
  · intro h; simp only; omega

/-- The list of bytes. -/
def L (s : ByteArray) : List UInt8 := s.data.toList
theorem L_inj {x y : ByteArray} (h : L x = L y) : x = y := bytes_ext h
theorem L_len (x : ByteArray) : (L x).length = x.size := len_data x
theorem L_ex (x : ByteArray) (i j : Nat) : L (x.extract i j) = ((L x).take j).drop i := list_ex x i j
theorem L_app (x y : ByteArray) : L (x ++ y) = L x ++ L y := list_app x y
theorem L_ap (s t : ByteArray) (a d : Nat) : L (ap s ((a : Int), (d : Int), t)) = (L s).take a ++ L t ++ (L s).drop (a + d) := by
  unfold ap
  simp only [L_app, L_ex, Int.toNat_natCast, List.drop_zero]
  have : (L s).take s.size = L s := List.take_of_length_le (by rw [L_len]; exact Nat.le_refl _)
  rw [this]
theorem L_inv (s t : ByteArray) (a d : Nat) : inv s ((a : Int), (d : Int), t) = ((a : Int), (t.size : Int), s.extract a (a + d)) := by
  unfold inv
  simp only [Int.toNat_natCast]

theorem ap_size {s : ByteArray} {e : Ed} (h : Fit s.size e) : ((ap s e).size : Int) + e.2.1 = s.size + e.2.2.size := by
  obtain ⟨a, d, t, rfl, h⟩ := h.nat
  have : (ap s ((a : Int), (d : Int), t)).size + d = s.size + t.size := by
    rw [← L_len, L_ap]
    simp only [List.length_append, List.length_take, List.length_drop, L_len]
    omega
  simp only
  omega
/-- A piece in the middle replaced. -/
theorem apl {s t : ByteArray} {P D Q : List UInt8} {a d : Nat} (h : L s = P ++ D ++ Q) (ha : P.length = a) (hd : D.length = d) : L (ap s ((a : Int), (d : Int), t)) = P ++ L t ++ Q := by
  rw [L_ap, h]
  have e1 : (P ++ D ++ Q).take a = P := by rw [List.append_assoc, ← ha]; simp
  have e2 : (P ++ D ++ Q).drop (a + d) = Q := by
    rw [show a + d = (P ++ D).length by simp [ha, hd]]
    simp
  rw [e1, e2]
theorem mid {s : ByteArray} {P D Q : List UInt8} {a d : Nat} (h : L s = P ++ D ++ Q) (ha : P.length = a) (hd : D.length = d) : L (s.extract a (a + d)) = D := by
  rw [L_ex, h]
  rw [show a + d = (P ++ D).length by simp [ha, hd]]
  rw [List.take_left, ← ha, List.drop_left]
theorem split {s : ByteArray} {a d : Nat} (h : a + d ≤ s.size) : ∃ P D Q, L s = P ++ D ++ Q ∧ P.length = a ∧ D.length = d := by
  refine ⟨(L s).take a, ((L s).drop a).take d, (L s).drop (a + d), ?_, ?_, ?_⟩
  · rw [List.append_assoc, ← List.drop_drop, List.take_append_drop, List.take_append_drop]
  · rw [List.length_take, L_len]; omega
  · rw [List.length_take, List.length_drop, L_len]; omega

theorem ap_inv {s : ByteArray} {e : Ed} (h : Fit s.size e) : Fit (ap s e).size (inv s e) ∧ ap (ap s e) (inv s e) = s ∧ inv (ap s e) (inv s e) = e := by
  have hs := ap_size h
  obtain ⟨a, d, t, rfl, hl⟩ := h.nat
  obtain ⟨P, D, Q, h1, h2, h3⟩ := split hl
  have h4 := apl (t := t) h1 h2 h3
  have h5 := mid h1 h2 h3
  rw [L_inv]
  simp only at hs
  refine ⟨fit_nat.2 (by omega), ?_, ?_⟩
  · apply L_inj
    rw [apl h4 h2 (L_len t), h5, h1]
  · rw [L_inv]
    have : (s.extract a (a + d)).size = d := by rw [← L_len, h5, h3]
    rw [this]
    have : (ap s ((a : Int), (d : Int), t)).extract a (a + t.size) = t := L_inj (mid h4 h2 (L_len t))
    rw [this]


theorem ap_le {s : ByteArray} {e : Ed} (h : Fit s.size e) : (ap s e).size ≤ s.size + e.2.2.size := by
  have := ap_size h
  have := h.2.1
  omega


/-! The distance of two lists of bytes. -/
def row (x : UInt8) (prev : List UInt8 → Nat) (m : Nat) : List UInt8 → Nat
  | [] => m + 1
  | y :: bs => if x = y then prev bs else 1 + min (prev (y :: bs)) (row x prev m bs)
def dist : List UInt8 → List UInt8 → Nat
  | [], bs => bs.length
  | x :: as, bs => row x (dist as) as.length bs
theorem dist_nil (b : List UInt8) : dist [] b = b.length := rfl
theorem dist_nil_r : ∀ a : List UInt8, dist a [] = a.length
  | [] => rfl
  | _ :: _ => rfl
theorem dist_cons (x y : UInt8) (a b : List UInt8) : dist (x :: a) (y :: b) = if x = y then dist a b else 1 + min (dist a (y :: b)) (dist (x :: a) b) := rfl
theorem dist_le_len : ∀ (a b : List UInt8), dist a b ≤ a.length + b.length
  | [], b => by rw [dist_nil]; simp
  | x :: a, [] => by rw [dist_nil_r]; simp
  | x :: a, y :: b => by
    have h1 := dist_le_len a b
    have h2 := dist_le_len a (y :: b)
    rw [dist_cons]
    simp only [List.length_cons] at *
    split <;> omega

/-- A script of n bytes leads from the one to the other. -/
inductive Sc : Nat → List UInt8 → List UInt8 → Prop
  | nil : Sc 0 [] []
  | keep {n : Nat} {a b : List UInt8} (x : UInt8) : Sc n a b → Sc n (x :: a) (x :: b)
  | del {n : Nat} {a b : List UInt8} (x : UInt8) : Sc n a b → Sc (n + 1) (x :: a) b
  | ins {n : Nat} {a b : List UInt8} (y : UInt8) : Sc n a b → Sc (n + 1) a (y :: b)
theorem Sc.refl : ∀ a : List UInt8, Sc 0 a a
  | [] => .nil
  | x :: a => .keep x (Sc.refl a)
theorem Sc.dels : ∀ a : List UInt8, Sc a.length a []
  | [] => .nil
  | x :: a => .del x (Sc.dels a)
theorem Sc.inss : ∀ b : List UInt8, Sc b.length [] b
  | [] => .nil
  | x :: a => .ins x (Sc.inss a)
theorem Sc.symm {n : Nat} {a b : List UInt8} (h : Sc n a b) : Sc n b a := by
  induction h with
  | nil => exact .nil
  | keep x _ ih => exact .keep x ih
  | del x _ ih => exact .ins x ih
  | ins x _ ih => exact .del x ih
theorem Sc.app {n : Nat} {a b : List UInt8} (h : Sc n a b) {m : Nat} {c d : List UInt8} (h' : Sc m c d) : Sc (n + m) (a ++ c) (b ++ d) := by
  induction h with
  | nil => simpa using h'
  | keep x _ ih => exact .keep x ih
  | @del n _ _ x _ ih => rw [show n + 1 + m = n + m + 1 by omega]; exact .del x ih
  | @ins n _ _ x _ ih => rw [show n + 1 + m = n + m + 1 by omega]; exact .ins x ih
theorem Sc.rev {n : Nat} {a b : List UInt8} (h : Sc n a b) : Sc n a.reverse b.reverse := by
  induction h with
  | nil => exact .nil
  | keep x _ ih => rw [List.reverse_cons, List.reverse_cons]; exact ih.app (.keep x .nil)
  | del x _ ih =>
    have := ih.app (.del x .nil)
    rw [List.append_nil] at this
    rw [List.reverse_cons]; exact this
  | ins x _ ih =>
    have := ih.app (.ins x .nil)
    rw [List.append_nil] at this
    rw [List.reverse_cons]; exact this
theorem Sc.trans {m : Nat} {a b : List UInt8} (h1 : Sc m a b) : ∀ {n : Nat} {c : List UInt8}, Sc n b c → ∃ k, k ≤ m + n ∧ Sc k a c := by
  induction h1 with
  | nil => intro n c h; exact ⟨n, by omega, h⟩
  | @keep m a b x h ih =>
    intro n c h2
    generalize hb : x :: b = bb at h2
    induction h2 with
    | nil => cases hb
    | keep y h2 _ => cases hb; obtain ⟨k, hk, hs⟩ := ih h2; exact ⟨k, hk, .keep _ hs⟩
    | del y h2 _ => cases hb; obtain ⟨k, hk, hs⟩ := ih h2; exact ⟨k + 1, by omega, .del _ hs⟩
    | ins y h2 ih2 => obtain ⟨k, hk, hs⟩ := ih2 hb; exact ⟨k + 1, by omega, .ins _ hs⟩
  | @del m a b x h ih => intro n c h2; obtain ⟨k, hk, hs⟩ := ih h2; exact ⟨k + 1, by omega, .del _ hs⟩
  | @ins m a b x h ih =>
    intro n c h2
    generalize hb : x :: b = bb at h2
    induction h2 with
    | nil => cases hb
    | keep y h2 _ => cases hb; obtain ⟨k, hk, hs⟩ := ih h2; exact ⟨k + 1, by omega, .ins _ hs⟩
    | del y h2 _ => cases hb; obtain ⟨k, hk, hs⟩ := ih h2; exact ⟨k, by omega, hs⟩
    | ins y h2 ih2 => obtain ⟨k, hk, hs⟩ := ih2 hb; exact ⟨k + 1, by omega, .ins _ hs⟩
theorem Sc.zero {n : Nat} {a b : List UInt8} (h : Sc n a b) : n = 0 → a = b := by
  induction h with
  | nil => intro _; rfl
  | keep x _ ih => intro h; rw [ih h]
  | del x _ _ => intro h; omega
  | ins x _ _ => intro h; omega
theorem Sc.len {n : Nat} {a b : List UInt8} (h : Sc n a b) : a.length ≤ b.length + n ∧ b.length ≤ a.length + n := by
  induction h with
  | nil => simp
  | keep x _ ih => simp only [List.length_cons]; omega
  | del x _ ih => simp only [List.length_cons]; omega
  | ins x _ ih => simp only [List.length_cons]; omega
/-- The distance has a script. -/
theorem dist_sc : ∀ (a b : List UInt8), Sc (dist a b) a b
  | [], b => Sc.inss b
  | x :: a, [] => Sc.dels (x :: a)
  | x :: a, y :: b => by
    rw [dist_cons]
    by_cases h : x = y
    · rw [if_pos h, h]; exact .keep y (dist_sc a b)
    · rw [if_neg h]
      have h1 := dist_sc a (y :: b)
      have h2 := dist_sc (x :: a) b
      by_cases hm : dist a (y :: b) ≤ dist (x :: a) b
      · rw [Nat.min_eq_left hm, Nat.add_comm]; exact .del x h1
      · rw [Nat.min_eq_right (by omega), Nat.add_comm]; exact .ins y h2
/-- One byte more makes at most one more, at most one less. -/
theorem dist_lip : ∀ (n : Nat) (a b : List UInt8), a.length + b.length ≤ n → (∀ x, dist (x :: a) b ≤ 1 + dist a b ∧ dist a b ≤ 1 + dist (x :: a) b) ∧ (∀ y, dist a (y :: b) ≤ 1 + dist a b ∧ dist a b ≤ 1 + dist a (y :: b))
  | n, [], [], _ => by simp [dist, row]
  | n, [], z :: b, hn => by
    refine ⟨fun x => ?_, fun y => by simp only [dist_nil, List.length_cons]; omega⟩
    obtain ⟨n, rfl⟩ : ∃ m, n = m + 1 := ⟨n - 1, by simp only [List.length_cons] at hn; omega⟩
    have ih := dist_lip n [] b (by simp only [List.length_cons] at hn; omega)
    have h1 := (ih.1 x).1
    have h2 := (ih.1 x).2
    rw [dist_cons]
    simp only [dist_nil, List.length_cons] at *
    split <;> omega
  | n, z :: a, [], hn => by
    refine ⟨fun x => by simp only [dist_nil_r, List.length_cons]; omega, fun y => ?_⟩
    obtain ⟨n, rfl⟩ : ∃ m, n = m + 1 := ⟨n - 1, by simp only [List.length_cons] at hn; omega⟩
    have ih := dist_lip n a [] (by simp only [List.length_cons] at hn; omega)
    have h1 := (ih.2 y).1
    have h2 := (ih.2 y).2
    rw [dist_cons]
    simp only [dist_nil_r, List.length_cons] at *
    split <;> omega
  | n, u :: a, v :: b, hn => by
    obtain ⟨n, rfl⟩ : ∃ m, n = m + 1 := ⟨n - 1, by simp only [List.length_cons] at hn; omega⟩
    have ih1 := dist_lip n a (v :: b) (by simp only [List.length_cons] at *; omega)
    have ih2 := dist_lip n (u :: a) b (by simp only [List.length_cons] at *; omega)
    constructor
    · intro x
      have hv := ih2.1 x
      have hw := (ih2.2 v)
      have hu := ih1.1 u
      rw [dist_cons x v]
      split <;> omega
    · intro y
      have hv := ih1.2 y
      have hw := (ih1.1 u)
      have hu := ih2.2 v
      rw [dist_cons u y]
      split <;> omega
/-- No script is shorter. -/
theorem dist_le {n : Nat} {a b : List UInt8} (h : Sc n a b) : dist a b ≤ n := by
  induction h with
  | nil => exact Nat.le_refl _
  | keep x _ ih => rw [dist_cons, if_pos rfl]; exact ih
  | @del n a b x _ ih => have := ((dist_lip _ a b (Nat.le_refl _)).1 x).1; omega
  | @ins n a b x _ ih => have := ((dist_lip _ a b (Nat.le_refl _)).2 x).1; omega
theorem dist_symm (a b : List UInt8) : dist a b = dist b a := Nat.le_antisymm (dist_le (dist_sc b a).symm) (dist_le (dist_sc a b).symm)
theorem dist_zero {a b : List UInt8} : dist a b = 0 ↔ a = b :=
  ⟨fun h => (dist_sc a b).zero h, fun h => by subst h; have := dist_le (Sc.refl a); omega⟩
theorem dist_tri (a b c : List UInt8) : dist a c ≤ dist a b + dist b c := by
  obtain ⟨k, hk, hs⟩ := (dist_sc a b).trans (dist_sc b c)
  exact Nat.le_trans (dist_le hs) hk
theorem dist_pre : ∀ (c a b : List UInt8), dist (c ++ a) (c ++ b) = dist a b
  | [], a, b => rfl
  | x :: c, a, b => by rw [List.cons_append, List.cons_append, dist_cons, if_pos rfl]; exact dist_pre c a b
theorem dist_rev (a b : List UInt8) : dist a.reverse b.reverse = dist a b := by
  refine Nat.le_antisymm (dist_le (dist_sc a b).rev) ?_
  have := dist_le (dist_sc a.reverse b.reverse).rev
  rwa [List.reverse_reverse, List.reverse_reverse] at this
theorem dist_suf (c a b : List UInt8) : dist (a ++ c) (b ++ c) = dist a b := by
  rw [← dist_rev, List.reverse_append, List.reverse_append, dist_pre, dist_rev]

/-! The distances of all suffixes. -/
def D (a b : ByteArray) (i j : Nat) : Nat := dist ((L a).drop i) ((L b).drop j)
theorem D_le (a b : ByteArray) (i j : Nat) : D a b i j ≤ a.size + b.size := by
  have := dist_le_len ((L a).drop i) ((L b).drop j)
  unfold D
  rw [List.length_drop, List.length_drop, L_len, L_len] at this
  omega
theorem D_left {a b : ByteArray} {i : Nat} (j : Nat) (h : a.size ≤ i) : D a b i j = b.size - j := by
  unfold D
  rw [List.drop_eq_nil_of_le (by rw [L_len]; exact h), dist_nil, List.length_drop, L_len]
theorem D_right {a b : ByteArray} {j : Nat} (i : Nat) (h : b.size ≤ j) : D a b i j = a.size - i := by
  unfold D
  rw [List.drop_eq_nil_of_le (as := L b) (by rw [L_len]; exact h), dist_nil_r, List.length_drop, L_len]
theorem L_at {s : ByteArray} {i : Nat} (h : i < s.size) : (L s)[i]? = some (s[i]'h) := by
  unfold L
  rw [Array.getElem?_toList, Array.getElem?_eq_getElem (by exact h)]
  try rfl
theorem L_drop {s : ByteArray} {i : Nat} (h : i < s.size) : (L s).drop i = s[i]'h :: (L s).drop (i + 1) := by
  have hl : i < (L s).length := by rw [L_len]; exact h
  have := L_at h
  rw [List.getElem?_eq_getElem hl] at this
  rw [List.drop_eq_getElem_cons hl, Option.some.inj this]
/-- The bytes match. -/
def Mt (a b : ByteArray) (i j : Nat) : Prop := i < a.size ∧ j < b.size ∧ (L a)[i]? = (L b)[j]?
instance (a b : ByteArray) (i j : Nat) : Decidable (Mt a b i j) := by unfold Mt; infer_instance
theorem mt_iff {a b : ByteArray} {i j : Nat} (hi : i < a.size) (hj : j < b.size) : Mt a b i j ↔ a[i]'hi = b[j]'hj := by
  unfold Mt
  rw [L_at hi, L_at hj]
  simp [hi, hj]
theorem byte_eq {x y : UInt8} : x = y ↔ (x.toNat : Int) = (y.toNat : Int) := by
  constructor
  · intro h; rw [h]
  · intro h; exact UInt8.toNat_inj.1 (by omega)
theorem D_mt {a b : ByteArray} {i j : Nat} (h : Mt a b i j) : D a b i j = D a b (i + 1) (j + 1) := by
  obtain ⟨hi, hj, _⟩ := id h
  have := (mt_iff hi hj).1 h
  unfold D
  rw [L_drop hi, L_drop hj, dist_cons, if_pos this]
theorem D_no {a b : ByteArray} {i j : Nat} (hi : i < a.size) (hj : j < b.size) (h : ¬ Mt a b i j) : D a b i j = 1 + min (D a b (i + 1) j) (D a b i (j + 1)) := by
  have := fun e => h ((mt_iff hi hj).2 e)
  unfold D
  rw [L_drop hi, L_drop hj, dist_cons, if_neg this]

/-! The canonical matching. -/
/-- a[i] is deleted, where the bytes do not match. -/
def Dl (a b : ByteArray) (i j : Nat) : Prop := i < a.size ∧ (b.size ≤ j ∨ D a b (i + 1) j ≤ D a b i (j + 1))
instance (a b : ByteArray) (i j : Nat) : Decidable (Dl a b i j) := by unfold Dl; infer_instance
theorem D_del {a b : ByteArray} {i j : Nat} (hm : ¬ Mt a b i j) (h : Dl a b i j) : D a b i j = 1 + D a b (i + 1) j := by
  obtain ⟨hi, h⟩ := h
  by_cases hj : b.size ≤ j
  · rw [D_right _ hj, D_right _ hj]; omega
  · have := h.resolve_left hj
    rw [D_no hi (by omega) hm]; omega
theorem D_ins {a b : ByteArray} {i j : Nat} (hm : ¬ Mt a b i j) (h : ¬ Dl a b i j) (hl : i < a.size ∨ j < b.size) : j < b.size ∧ D a b i j = 1 + D a b i (j + 1) := by
  unfold Dl at h
  by_cases hi : i < a.size
  · have hj : ¬ b.size ≤ j := fun hj => h ⟨hi, .inl hj⟩
    have h2 : ¬ D a b (i + 1) j ≤ D a b i (j + 1) := fun h' => h ⟨hi, .inr h'⟩
    refine ⟨by omega, ?_⟩
    rw [D_no hi (by omega) hm]; omega
  · have hj : j < b.size := by omega
    refine ⟨hj, ?_⟩
    rw [D_left _ (by omega), D_left _ (by omega)]; omega
/-- The end of a run. -/
def re (a b : ByteArray) (i j : Nat) : Nat × Nat :=
  if i < a.size ∨ j < b.size then
    if Mt a b i j then (i, j) else if Dl a b i j then re a b (i + 1) j else if j < b.size then re a b i (j + 1) else (i, j)
  else (i, j)
termination_by (a.size - i) + (b.size - j)
decreasing_by
  · rename_i h2
    have := h2.1
    omega
  · omega
theorem re_stop {a b : ByteArray} {i j : Nat} (h : ¬ (i < a.size ∨ j < b.size) ∨ Mt a b i j) : re a b i j = (i, j) := by
  rw [re]
  by_cases hl : i < a.size ∨ j < b.size
  · rw [if_pos hl, if_pos (h.resolve_left (fun h' => h' hl))]
  · rw [if_neg hl]
theorem re_del {a b : ByteArray} {i j : Nat} (hl : i < a.size ∨ j < b.size) (hm : ¬ Mt a b i j) (h : Dl a b i j) : re a b i j = re a b (i + 1) j := by
  conv => lhs; rw [re, if_pos hl, if_neg hm, if_pos h]
theorem re_ins {a b : ByteArray} {i j : Nat} (hl : i < a.size ∨ j < b.size) (hm : ¬ Mt a b i j) (h : ¬ Dl a b i j) : re a b i j = re a b i (j + 1) := by
  conv => lhs; rw [re, if_pos hl, if_neg hm, if_neg h, if_pos (D_ins hm h hl).1]
/-- An edit of a run. -/
def ed (b : ByteArray) (i0 j0 i j : Nat) : Ed := ((i0 : Int), ((i - i0 : Nat) : Int), b.extract j0 j)
/-- The edits from a state on: outside a run, or in a run that began at a place. -/
def dg (a b : ByteArray) (i j : Nat) (r : Option (Nat × Nat)) : List Ed :=
  if i < a.size ∨ j < b.size then
    if Mt a b i j then
      match r with
      | none => dg a b (i + 1) (j + 1) none
      | some q => ed b q.1 q.2 i j :: dg a b (i + 1) (j + 1) none
    else if Dl a b i j then dg a b (i + 1) j (some (r.getD (i, j)))
    else if j < b.size then dg a b i (j + 1) (some (r.getD (i, j))) else []
  else match r with
    | none => []
    | some q => [ed b q.1 q.2 i j]
termination_by (a.size - i) + (b.size - j)
decreasing_by
  · rename_i h2; have := h2.1; have := h2.2.1; omega
  · rename_i h2; have := h2.1; have := h2.2.1; omega
  · rename_i h2; have := h2.1; omega
  · omega
theorem dg_end {a b : ByteArray} {i j : Nat} (h : ¬ (i < a.size ∨ j < b.size)) : dg a b i j none = [] := by conv => lhs; rw [dg.eq_def, if_neg h]
theorem dg_end_run {a b : ByteArray} {i j : Nat} (q : Nat × Nat) (h : ¬ (i < a.size ∨ j < b.size)) : dg a b i j (some q) = [ed b q.1 q.2 i j] := by conv => lhs; rw [dg.eq_def, if_neg h]
theorem dg_mt {a b : ByteArray} {i j : Nat} (h : Mt a b i j) : dg a b i j none = dg a b (i + 1) (j + 1) none := by conv => lhs; rw [dg.eq_def, if_pos (.inl h.1), if_pos h]
theorem dg_mt_run {a b : ByteArray} {i j : Nat} (q : Nat × Nat) (h : Mt a b i j) : dg a b i j (some q) = ed b q.1 q.2 i j :: dg a b (i + 1) (j + 1) none := by conv => lhs; rw [dg.eq_def, if_pos (.inl h.1), if_pos h]
theorem dg_del {a b : ByteArray} {i j : Nat} (r : Option (Nat × Nat)) (hl : i < a.size ∨ j < b.size) (hm : ¬ Mt a b i j) (h : Dl a b i j) : dg a b i j r = dg a b (i + 1) j (some (r.getD (i, j))) := by
  conv => lhs; rw [dg.eq_def, if_pos hl, if_neg hm, if_pos h]
theorem dg_ins {a b : ByteArray} {i j : Nat} (r : Option (Nat × Nat)) (hl : i < a.size ∨ j < b.size) (hm : ¬ Mt a b i j) (h : ¬ Dl a b i j) : dg a b i j r = dg a b i (j + 1) (some (r.getD (i, j))) := by
  conv => lhs; rw [dg.eq_def, if_pos hl, if_neg hm, if_neg h, if_pos (D_ins hm h hl).1]
/-- Induction along the matching. -/
theorem walk_ind {a b : ByteArray} {R : Nat → Nat → Prop} (h0 : ∀ i j, ¬ (i < a.size ∨ j < b.size) → R i j) (h1 : ∀ i j, Mt a b i j → R (i + 1) (j + 1) → R i j)
    (h2 : ∀ i j, (i < a.size ∨ j < b.size) → ¬ Mt a b i j → Dl a b i j → R (i + 1) j → R i j) (h3 : ∀ i j, (i < a.size ∨ j < b.size) → ¬ Mt a b i j → ¬ Dl a b i j → j < b.size → R i (j + 1) → R i j) : ∀ n i j, (a.size - i) + (b.size - j) ≤ n → R i j := by
  intro n
  induction n with
  | zero => intro i j h; exact h0 i j (by omega)
  | succ n ih =>
    intro i j h
    by_cases hl : i < a.size ∨ j < b.size
    · by_cases hm : Mt a b i j
      · have := hm.1
        exact h1 i j hm (ih _ _ (by omega))
      · by_cases hd : Dl a b i j
        · have := hd.1
          exact h2 i j hl hm hd (ih _ _ (by omega))
        · have hj := (D_ins hm hd hl).1
          exact h3 i j hl hm hd hj (ih _ _ (by omega))
    · exact h0 i j hl
theorem dg_re (a b : ByteArray) (i j : Nat) : (i ≤ (re a b i j).1 ∧ j ≤ (re a b i j).2 ∧ (i ≤ a.size → j ≤ b.size → (re a b i j).1 ≤ a.size ∧ (re a b i j).2 ≤ b.size)) ∧
    ∀ q, dg a b i j (some q) = ed b q.1 q.2 (re a b i j).1 (re a b i j).2 :: dg a b (re a b i j).1 (re a b i j).2 none := by
  refine walk_ind (a := a) (b := b) (R := fun i j => (i ≤ (re a b i j).1 ∧ j ≤ (re a b i j).2 ∧ (i ≤ a.size → j ≤ b.size → (re a b i j).1 ≤ a.size ∧ (re a b i j).2 ≤ b.size)) ∧
    ∀ q, dg a b i j (some q) = ed b q.1 q.2 (re a b i j).1 (re a b i j).2 :: dg a b (re a b i j).1 (re a b i j).2 none) ?_ ?_ ?_ ?_ _ i j (Nat.le_refl _)
  · intro i j h
    rw [re_stop (.inl h)]
    exact ⟨⟨Nat.le_refl _, Nat.le_refl _, fun h1 h2 => ⟨h1, h2⟩⟩, fun q => by rw [dg_end_run q h, dg_end h]⟩
  · intro i j h _
    rw [re_stop (.inr h)]
    exact ⟨⟨Nat.le_refl _, Nat.le_refl _, fun h1 h2 => ⟨h1, h2⟩⟩, fun q => by rw [dg_mt_run q h, dg_mt h]⟩
  · intro i j hl hm hd ⟨⟨k1, k2, k3⟩, ih⟩
    have := hd.1
    rw [re_del hl hm hd]
    exact ⟨⟨by omega, k2, fun h1 h2 => k3 (by omega) h2⟩, fun q => by rw [dg_del _ hl hm hd]; exact ih q⟩
  · intro i j hl hm hd hj ⟨⟨k1, k2, k3⟩, ih⟩
    rw [re_ins hl hm hd]
    exact ⟨⟨k1, by omega, fun h1 h2 => k3 h1 (by omega)⟩, fun q => by rw [dg_ins _ hl hm hd]; exact ih q⟩
theorem dg_run {a b : ByteArray} {i j : Nat} (hl : i < a.size ∨ j < b.size) (hm : ¬ Mt a b i j) : dg a b i j none = ed b i j (re a b i j).1 (re a b i j).2 :: dg a b (re a b i j).1 (re a b i j).2 none ∧ i + j < (re a b i j).1 + (re a b i j).2 := by
  by_cases hd : Dl a b i j
  · rw [dg_del _ hl hm hd, re_del hl hm hd]
    obtain ⟨⟨k1, k2, _⟩, h⟩ := dg_re a b (i + 1) j
    exact ⟨h _, by omega⟩
  · rw [dg_ins _ hl hm hd, re_ins hl hm hd]
    obtain ⟨⟨k1, k2, _⟩, h⟩ := dg_re a b i (j + 1)
    exact ⟨h _, by omega⟩

/-! What the edits are worth. -/
/-- Increasing ranges that do not touch, from a place on. -/
def Sep (n : Nat) : List Ed → Nat → Prop
  | [], _ => True
  | e :: l, lo => ∃ (p d : Nat) (s : ByteArray), e = ((p : Int), (d : Int), s) ∧ lo ≤ p ∧ p + d ≤ n ∧ Sep n l (p + d + 1)
/-- What edits that refer to one text make of it, from a place on. -/
def tgt (a : ByteArray) : List Ed → Nat → List UInt8
  | [], k => (L a).drop k
  | e :: l, k => ((L a).take e.1.toNat).drop k ++ L e.2.2 ++ tgt a l (e.1.toNat + e.2.1.toNat)
def tot : List Ed → Nat
  | [] => 0
  | e :: l => e.2.1.toNat + e.2.2.size + tot l
theorem Sep.mono {n lo lo' : Nat} {l : List Ed} (h : Sep n l lo) (hl : lo' ≤ lo) : Sep n l lo' := by
  cases l with
  | nil => trivial
  | cons e l => obtain ⟨p, d, s, h1, h2, h3⟩ := h; exact ⟨p, d, s, h1, by omega, h3⟩
theorem ed_size {b : ByteArray} {i0 j0 i j : Nat} (hj : j ≤ b.size) : (ed b i0 j0 i j).2.2.size = j - j0 := by
  unfold ed; simp only [ByteArray.size_extract]; omega
theorem cut_cut (l : List UInt8) {i j k : Nat} (h1 : i ≤ j) (h2 : j ≤ k) : (l.take j).drop i ++ (l.take k).drop j = (l.take k).drop i := by
  have : l.take k = l.take j ++ (l.take k).drop j := by
    have := List.take_append_drop j (l.take k)
    rw [List.take_take, Nat.min_eq_left h2] at this
    exact this.symm
  by_cases hl : j ≤ l.length
  · conv => rhs; rw [this, List.drop_append_of_le_length (by rw [List.length_take]; omega)]
  · rw [List.take_of_length_le (l := l) (i := j) (by omega), List.take_of_length_le (l := l) (i := k) (by omega), List.drop_eq_nil_of_le (as := l) (i := j) (by omega), List.append_nil]
theorem cut_all (l : List UInt8) {i j : Nat} (h1 : i ≤ j) : (l.take j).drop i ++ l.drop j = l.drop i := by
  by_cases hl : j ≤ l.length
  · have := List.take_append_drop j l
    conv => rhs; rw [← this, List.drop_append_of_le_length (by rw [List.length_take]; omega)]
  · rw [List.take_of_length_le (by omega), List.drop_eq_nil_of_le (as := l) (i := j) (by omega), List.append_nil]
theorem cut_one {s : ByteArray} {i : Nat} (h : i < s.size) : ((L s).take (i + 1)).drop i = [s[i]'h] := by
  rw [List.take_add_one, L_at h, List.drop_append_of_le_length (by rw [List.length_take, L_len]; omega), List.drop_eq_nil_of_le (by rw [List.length_take]; omega)]
  rfl
/-- The edits of the canonical matching: where they lie, what they make, what they count. -/
theorem dg_all (a b : ByteArray) (i j : Nat) : (i ≤ a.size → j ≤ b.size → Sep a.size (dg a b i j none) i ∧ (∀ k, k ≤ i → tgt a (dg a b i j none) k = ((L a).take i).drop k ++ (L b).drop j) ∧ tot (dg a b i j none) = D a b i j) ∧
    (∀ i0 j0, i ≤ a.size → j ≤ b.size → i0 ≤ i → j0 ≤ j → Sep a.size (dg a b i j (some (i0, j0))) i0 ∧ (∀ k, k ≤ i0 → tgt a (dg a b i j (some (i0, j0))) k = ((L a).take i0).drop k ++ (L b).drop j0) ∧ tot (dg a b i j (some (i0, j0))) = (i - i0) + (j - j0) + D a b i j) := by
  refine walk_ind (a := a) (b := b) (R := fun i j => (i ≤ a.size → j ≤ b.size → Sep a.size (dg a b i j none) i ∧ (∀ k, k ≤ i → tgt a (dg a b i j none) k = ((L a).take i).drop k ++ (L b).drop j) ∧ tot (dg a b i j none) = D a b i j) ∧
    (∀ i0 j0, i ≤ a.size → j ≤ b.size → i0 ≤ i → j0 ≤ j → Sep a.size (dg a b i j (some (i0, j0))) i0 ∧ (∀ k, k ≤ i0 → tgt a (dg a b i j (some (i0, j0))) k = ((L a).take i0).drop k ++ (L b).drop j0) ∧ tot (dg a b i j (some (i0, j0))) = (i - i0) + (j - j0) + D a b i j)) ?_ ?_ ?_ ?_ _ i j (Nat.le_refl _)
  · intro i j h
    refine ⟨fun hi hj => ?_, fun i0 j0 hi hj h1 h2 => ?_⟩
    · rw [dg_end h]
      refine ⟨trivial, fun k hk => ?_, ?_⟩
      · have : i = a.size := by omega
        subst this
        rw [List.take_of_length_le (by rw [L_len]; exact Nat.le_refl _), List.drop_eq_nil_of_le (as := L b) (by rw [L_len]; omega), List.append_nil]
        rfl
      · rw [D_left _ (by omega)]; simp only [tot]; omega
    · rw [dg_end_run _ h]
      have hi' : i = a.size := by omega
      have hj' : j = b.size := by omega
      refine ⟨⟨i0, i - i0, b.extract j0 j, rfl, Nat.le_refl _, by omega, trivial⟩, fun k hk => ?_, ?_⟩
      · simp only [tgt, ed, Int.toNat_natCast]
        rw [List.drop_eq_nil_of_le (as := L a) (by rw [L_len]; omega), List.append_nil, L_ex, List.take_of_length_le (l := L b) (by rw [L_len]; omega)]
      · have := ed_size (b := b) (i0 := i0) (j0 := j0) (i := i) hj
        simp only [tot, this]
        rw [D_left _ (by omega)]
        simp only [ed, Int.toNat_natCast]; omega
  · intro i j hm ⟨ih, _⟩
    obtain ⟨hi1, hj1, _⟩ := id hm
    have heq := (mt_iff hi1 hj1).1 hm
    obtain ⟨s1, s2, s3⟩ := ih (by omega) (by omega)
    have key : ∀ k, k ≤ i → tgt a (dg a b (i + 1) (j + 1) none) k = ((L a).take i).drop k ++ (L b).drop j := fun k hk => by
      rw [s2 k (by omega), ← cut_cut (L a) hk (Nat.le_succ i), cut_one hi1, heq, L_drop hj1, List.append_assoc]
      rfl
    refine ⟨fun hi hj => ?_, fun i0 j0 hi hj h1 h2 => ?_⟩
    · rw [dg_mt hm]
      exact ⟨s1.mono (by omega), key, by rw [s3, D_mt hm]⟩
    · rw [dg_mt_run _ hm]
      refine ⟨⟨i0, i - i0, b.extract j0 j, rfl, Nat.le_refl _, by omega, by rw [show i0 + (i - i0) + 1 = i + 1 by omega]; exact s1⟩, fun k hk => ?_, ?_⟩
      · simp only [tgt, ed, Int.toNat_natCast]
        rw [show i0 + (i - i0) = i by omega, key i (Nat.le_refl _), L_ex, List.drop_eq_nil_of_le (as := (L a).take i) (by rw [List.length_take]; omega), List.nil_append, List.append_assoc, cut_all _ h2]
      · have := ed_size (b := b) (i0 := i0) (j0 := j0) (i := i) hj
        simp only [tot, this]
        rw [s3, D_mt hm]
        simp only [ed, Int.toNat_natCast]
  · intro i j hl hm hd ⟨_, ih⟩
    have hi1 := hd.1
    refine ⟨fun hi hj => ?_, fun i0 j0 hi hj h1 h2 => ?_⟩
    · rw [dg_del _ hl hm hd]
      obtain ⟨s1, s2, s3⟩ := ih i j (by omega) hj (by omega) (Nat.le_refl _)
      exact ⟨s1, s2, by simp only [Option.getD_none]; rw [s3, D_del hm hd]; omega⟩
    · rw [dg_del _ hl hm hd]
      obtain ⟨s1, s2, s3⟩ := ih i0 j0 (by omega) hj (by omega) h2
      exact ⟨s1, s2, by simp only [Option.getD_some]; rw [s3, D_del hm hd]; omega⟩
  · intro i j hl hm hd hj1 ⟨_, ih⟩
    have hD := (D_ins hm hd hl).2
    refine ⟨fun hi hj => ?_, fun i0 j0 hi hj h1 h2 => ?_⟩
    · rw [dg_ins _ hl hm hd]
      obtain ⟨s1, s2, s3⟩ := ih i j hi (by omega) (Nat.le_refl _) (by omega)
      exact ⟨s1, s2, by simp only [Option.getD_none]; rw [s3, hD]; omega⟩
    · rw [dg_ins _ hl hm hd]
      obtain ⟨s1, s2, s3⟩ := ih i0 j0 hi (by omega) h1 (by omega)
      exact ⟨s1, s2, by simp only [Option.getD_some]; rw [s3, hD]; omega⟩

/-! The hull. -/
def cpl : List UInt8 → List UInt8 → Nat
  | x :: a, y :: b => if x = y then cpl a b + 1 else 0
  | _, _ => 0
theorem cpl_le : ∀ (a b : List UInt8), cpl a b ≤ a.length ∧ cpl a b ≤ b.length
  | [], b => by simp [cpl]
  | x :: a, [] => by simp [cpl]
  | x :: a, y :: b => by
    have := cpl_le a b
    simp only [cpl, List.length_cons]
    split <;> omega
theorem cpl_take : ∀ (a b : List UInt8), a.take (cpl a b) = b.take (cpl a b)
  | [], b => by simp [cpl]
  | x :: a, [] => by simp [cpl]
  | x :: a, y :: b => by
    simp only [cpl]
    split
    · rename_i h; rw [List.take_succ_cons, List.take_succ_cons, cpl_take a b, h]
    · rfl
theorem cpl_max : ∀ (a b : List UInt8), cpl (a.drop (cpl a b)) (b.drop (cpl a b)) = 0
  | [], b => by simp [cpl]
  | x :: a, [] => by simp [cpl]
  | x :: a, y :: b => by
    simp only [cpl]
    split
    · rw [List.drop_succ_cons, List.drop_succ_cons]; exact cpl_max a b
    · rename_i h; simp [cpl, h]
theorem cpl_ge : ∀ (a b : List UInt8) (n : Nat), n ≤ a.length → n ≤ b.length → a.take n = b.take n → n ≤ cpl a b
  | _, _, 0, _, _, _ => Nat.zero_le _
  | [], b, n + 1, h, _, _ => by simp at h
  | x :: a, [], n + 1, _, h, _ => by simp at h
  | x :: a, y :: b, n + 1, h1, h2, h => by
    rw [List.take_succ_cons, List.take_succ_cons] at h
    injection h with h3 h4
    simp only [List.length_cons] at h1 h2
    simp only [cpl, if_pos h3]
    have := cpl_ge a b n (by omega) (by omega) h4
    omega
/-- Length of the common prefix; of the common suffix of what is left. -/
def cp (a b : ByteArray) : Nat := cpl (L a) (L b)
def cs (a b : ByteArray) : Nat := cpl (L a).reverse (L b).reverse
theorem cp_le (a b : ByteArray) : cp a b ≤ a.size ∧ cp a b ≤ b.size := by have := cpl_le (L a) (L b); rwa [L_len, L_len] at this
theorem cs_le (a b : ByteArray) : cs a b ≤ a.size ∧ cs a b ≤ b.size := by have := cpl_le (L a).reverse (L b).reverse; rwa [List.length_reverse, List.length_reverse, L_len, L_len] at this
/-- How far the loops have come. -/
def Cp (a b : ByteArray) (n : Nat) : Prop := n ≤ a.size ∧ n ≤ b.size ∧ n + cpl ((L a).drop n) ((L b).drop n) = cp a b
theorem Cp.start (a b : ByteArray) : Cp a b 0 := ⟨by omega, by omega, by simp [cp]⟩
theorem Cp.step {a b : ByteArray} {n : Nat} (h : Cp a b n) (h1 : n < a.size) (h2 : n < b.size) (he : a[n]'h1 = b[n]'h2) : Cp a b (n + 1) := by
  refine ⟨by omega, by omega, ?_⟩
  rw [← h.2.2, L_drop h1, L_drop h2]
  simp only [cpl, if_pos he]; omega
theorem Cp.stop {a b : ByteArray} {n : Nat} (h : Cp a b n) (h' : ¬ (n < a.size ∧ n < b.size) ∨ ∃ (h1 : n < a.size) (h2 : n < b.size), ¬ a[n]'h1 = b[n]'h2) : n = cp a b := by
  have hc := h.2.2
  have : cpl ((L a).drop n) ((L b).drop n) = 0 := by
    rcases h' with h' | ⟨h1, h2, hne⟩
    · by_cases h1 : n < a.size
      · rw [List.drop_eq_nil_of_le (as := L b) (by rw [L_len]; omega)]
        cases (L a).drop n <;> rfl
      · rw [List.drop_eq_nil_of_le (as := L a) (by rw [L_len]; omega)]
        rfl
    · rw [L_drop h1, L_drop h2]
      simp only [cpl, if_neg hne]
  omega
def Cs (a b : ByteArray) (n : Nat) : Prop := n ≤ a.size ∧ n ≤ b.size ∧ n + cpl ((L a).reverse.drop n) ((L b).reverse.drop n) = cs a b
theorem rev_drop {s : ByteArray} {n : Nat} (h : n < s.size) : (L s).reverse.drop n = s[s.size - 1 - n]'(by omega) :: (L s).reverse.drop (n + 1) := by
  have hl : n < (L s).reverse.length := by rw [List.length_reverse, L_len]; exact h
  rw [List.drop_eq_getElem_cons hl]
  congr 1
  have h2 := L_at (s := s) (i := s.size - 1 - n) (by omega)
  rw [List.getElem_reverse]
  have hl2 : s.size - 1 - n < (L s).length := by rw [L_len]; omega
  rw [List.getElem?_eq_getElem hl2] at h2
  have := Option.some.inj h2
  rw [← this]
  congr 1
theorem Cs.start (a b : ByteArray) : Cs a b 0 := ⟨by omega, by omega, by simp [cs]⟩
theorem Cs.step {a b : ByteArray} {n : Nat} (h : Cs a b n) (h1 : n < a.size) (h2 : n < b.size) (he : a[a.size - 1 - n]'(by omega) = b[b.size - 1 - n]'(by omega)) : Cs a b (n + 1) := by
  refine ⟨by omega, by omega, ?_⟩
  rw [← h.2.2, rev_drop h1, rev_drop h2]
  simp only [cpl, if_pos he]; omega
theorem Cs.stop {a b : ByteArray} {n : Nat} (h : Cs a b n) (h' : ¬ (n < a.size ∧ n < b.size) ∨ ∃ (h1 : n < a.size) (h2 : n < b.size), ¬ a[a.size - 1 - n]'(by omega) = b[b.size - 1 - n]'(by omega)) : n = cs a b := by
  have hc := h.2.2
  have : cpl ((L a).reverse.drop n) ((L b).reverse.drop n) = 0 := by
    rcases h' with h' | ⟨h1, h2, hne⟩
    · by_cases h1 : n < a.size
      · rw [List.drop_eq_nil_of_le (as := (L b).reverse) (by rw [List.length_reverse, L_len]; omega)]
        cases (L a).reverse.drop n <;> rfl
      · rw [List.drop_eq_nil_of_le (as := (L a).reverse) (by rw [List.length_reverse, L_len]; omega)]
        rfl
    · rw [rev_drop h1, rev_drop h2]
      simp only [cpl, if_neg hne]
  omega

/-- The hull. -/
def hs (a b : ByteArray) : Nat := cs (a.extract (cp a b) a.size) (b.extract (cp a b) b.size)
def hull (a b : ByteArray) : Ed := ((cp a b : Int), ((a.size - cp a b - hs a b : Nat) : Int), b.extract (cp a b) (b.size - hs a b))
theorem L_tail (s : ByteArray) (i : Nat) : L (s.extract i s.size) = (L s).drop i := by
  rw [L_ex, List.take_of_length_le (by rw [L_len]; exact Nat.le_refl _)]
theorem tail_size {s : ByteArray} {i : Nat} : (s.extract i s.size).size = s.size - i := by rw [ByteArray.size_extract]; omega
theorem hs_le (a b : ByteArray) : hs a b ≤ a.size - cp a b ∧ hs a b ≤ b.size - cp a b := by
  have := cs_le (a.extract (cp a b) a.size) (b.extract (cp a b) b.size)
  rwa [tail_size, tail_size] at this
theorem ex_ex (b : ByteArray) (p s : Nat) : (b.extract p b.size).extract 0 (b.size - p - s) = b.extract p (b.size - s) := by
  apply L_inj
  rw [L_ex, L_ex, L_ex, List.drop_zero, List.take_of_length_le (l := L b) (by rw [L_len]; exact Nat.le_refl _), List.drop_take]
  congr 1
  omega
theorem hull_parts (a b : ByteArray) : ∃ P X Y Q : List UInt8, L a = P ++ X ++ Q ∧ L b = P ++ Y ++ Q ∧ P.length = cp a b ∧ X.length = a.size - cp a b - hs a b ∧ Y.length = b.size - cp a b - hs a b ∧ L (b.extract (cp a b) (b.size - hs a b)) = Y ∧ L (a.extract (cp a b) (a.size - hs a b)) = X ∧
    (∀ x y, X[0]? = some x → Y[0]? = some y → x ≠ y) ∧ (∀ x y, X[X.length - 1]? = some x → Y[Y.length - 1]? = some y → x ≠ y) := by
  obtain ⟨p, hp⟩ : ∃ p, p = cp a b := ⟨_, rfl⟩
  obtain ⟨s, hss⟩ : ∃ s, s = hs a b := ⟨_, rfl⟩
  have h1 := cp_le a b
  have h2 := hs_le a b
  rw [← hp] at h1 h2 ⊢
  rw [← hss] at h2 ⊢
  have hs' : s = cpl ((L a).drop p).reverse ((L b).drop p).reverse := by rw [hss]; unfold hs cs; rw [L_tail, L_tail, hp]
  have hp' : p = cpl (L a) (L b) := hp
  have la := L_len a
  have lb := L_len b
  have eP : (L a).take p = (L b).take p := by have := cpl_take (L a) (L b); rwa [← hp'] at this
  have eQ : ((L a).drop p).drop (a.size - p - s) = ((L b).drop p).drop (b.size - p - s) := by
    have := cpl_take ((L a).drop p).reverse ((L b).drop p).reverse
    rw [← hs', List.take_reverse, List.take_reverse, List.length_drop, List.length_drop, la, lb] at this
    exact List.reverse_inj.1 this
  have mP := cpl_max (L a) (L b)
  rw [← hp'] at mP
  have mQ := cpl_max ((L a).drop p).reverse ((L b).drop p).reverse
  rw [← hs', List.drop_reverse, List.drop_reverse, List.length_drop, List.length_drop, la, lb] at mQ
  refine ⟨(L a).take p, ((L a).drop p).take (a.size - p - s), ((L b).drop p).take (b.size - p - s), ((L a).drop p).drop (a.size - p - s), ?_, ?_, ?_, ?_, ?_, ?_, ?_, ?_, ?_⟩
  · rw [List.append_assoc, List.take_append_drop, List.take_append_drop]
  · rw [List.append_assoc, eP, eQ, List.take_append_drop, List.take_append_drop]
  · rw [List.length_take]; omega
  · rw [List.length_take, List.length_drop]; omega
  · rw [List.length_take, List.length_drop]; omega
  · rw [L_ex, List.drop_take]; congr 1; omega
  · rw [L_ex, List.drop_take]; congr 1; omega
  · intro x y hx hy e
    have hx1 : ((L a).drop p)[0]? = some x := by
      rw [List.getElem?_take] at hx; split at hx
      · exact hx
      · cases hx
    have hy1 : ((L b).drop p)[0]? = some y := by
      rw [List.getElem?_take] at hy; split at hy
      · exact hy
      · cases hy
    cases hA : (L a).drop p with
    | nil => rw [hA] at hx1; simp at hx1
    | cons u A =>
      cases hB : (L b).drop p with
      | nil => rw [hB] at hy1; simp at hy1
      | cons v B =>
        rw [hA] at hx1; rw [hB] at hy1
        simp at hx1 hy1
        rw [hA, hB] at mP
        simp [cpl, hx1, hy1, e] at mP
  · intro x y hx hy e
    have tail : ∀ (X : List UInt8) (x : UInt8), X[X.length - 1]? = some x → ∃ A, X.reverse = x :: A := by
      intro X x h
      have hl := (List.getElem?_eq_some_iff.1 h).1
      refine ⟨X.reverse.drop 1, ?_⟩
      have h3 : 0 < X.reverse.length := by rw [List.length_reverse]; omega
      have h4 := List.drop_eq_getElem_cons h3
      rw [List.drop_zero] at h4
      rw [h4]
      congr 1
      rw [List.getElem_reverse]
      have h5 := (List.getElem?_eq_some_iff.1 h).2
      rw [← h5]
      congr 1
    obtain ⟨A, hA⟩ := tail _ _ hx
    obtain ⟨B, hB⟩ := tail _ _ hy
    rw [hA, hB] at mQ
    simp [cpl, e] at mQ
theorem hull_good (a b : ByteArray) : Sep a.size [hull a b] 0 ∧ tgt a [hull a b] 0 = L b ∧ (hull a b).2.1.toNat = a.size - cp a b - hs a b ∧ (hull a b).2.2.size = b.size - cp a b - hs a b := by
  have h1 := cp_le a b
  have h2 := hs_le a b
  obtain ⟨P, X, Y, Q, e1, e2, e3, e4, e5, e6, _⟩ := hull_parts a b
  refine ⟨⟨cp a b, a.size - cp a b - hs a b, _, rfl, Nat.zero_le _, by omega, trivial⟩, ?_, rfl, ?_⟩
  · simp only [tgt, hull, Int.toNat_natCast, List.drop_zero]
    rw [e6, e1, e2]
    have f1 : (P ++ X ++ Q).take (cp a b) = P := by rw [List.append_assoc, ← e3]; simp
    have f2 : (P ++ X ++ Q).drop (cp a b + (a.size - cp a b - hs a b)) = Q := by
      rw [← e4, ← e3, ← List.length_append]; simp
    rw [f1, f2]
  · rw [← L_len]
    show (L (b.extract (cp a b) (b.size - hs a b))).length = _
    rw [e6, e5]
/-- The hull is a script. -/
theorem hull_dist (a b : ByteArray) : dist (L a) (L b) ≤ (a.size - cp a b - hs a b) + (b.size - cp a b - hs a b) := by
  obtain ⟨P, X, Y, Q, e1, e2, e3, e4, e5, _⟩ := hull_parts a b
  have := dist_le (((Sc.refl P).app ((Sc.dels X).app (Sc.inss Y))).app (Sc.refl Q))
  simp only [List.append_nil, List.nil_append] at this
  rw [e1, e2]
  omega
theorem ap_dist {s t : ByteArray} {x y : Nat} (h : x + y ≤ s.size) : dist (L s) (L (ap s ((x : Int), (y : Int), t))) ≤ y + t.size := by
  obtain ⟨P, X, Q, h1, h2, h3⟩ := split h
  have h4 := apl (t := t) h1 h2 h3
  have := dist_le (((Sc.refl P).app ((Sc.dels X).app (Sc.inss (L t)))).app (Sc.refl Q))
  simp only [List.append_nil, List.nil_append, L_len] at this
  rw [h1, h4]
  omega
/-- The hull of a text and what an edit makes of it. -/
theorem ap_hull {s t b : ByteArray} {x y : Nat} (h : x + y ≤ s.size) (hb : b = ap s ((x : Int), (y : Int), t)) : b.size + y = s.size + t.size ∧ s.size - cp s b - hs s b ≤ y ∧ b.size - cp s b - hs s b ≤ t.size ∧ (s.size - cp s b - hs s b) + t.size = (b.size - cp s b - hs s b) + y := by
  obtain ⟨P, X, Q, h1, h2, h3⟩ := split h
  have h4 := apl (t := t) h1 h2 h3
  rw [← hb] at h4
  have k1 := cp_le s b
  have k2 := hs_le s b
  have ls := L_len s
  have lb := L_len b
  have lt := L_len t
  have ns : s.size = x + y + Q.length := by rw [← ls, h1]; simp only [List.length_append]; omega
  have nb : b.size = x + t.size + Q.length := by rw [← lb, h4]; simp only [List.length_append]; omega
  have hp : x ≤ cp s b := by
    refine cpl_ge _ _ x (by omega) (by omega) ?_
    rw [h1, h4, List.append_assoc, List.append_assoc, ← h2]
    simp
  have hq : min Q.length (min (s.size - cp s b) (b.size - cp s b)) ≤ hs s b := by
    obtain ⟨n, hn⟩ : ∃ n, n = min Q.length (min (s.size - cp s b) (b.size - cp s b)) := ⟨_, rfl⟩
    rw [← hn]
    refine cpl_ge _ _ n (by rw [List.length_reverse, L_len, tail_size]; omega) (by rw [List.length_reverse, L_len, tail_size]; omega) ?_
    have piece : ∀ (Z M : List UInt8) (k : Nat), Z = M ++ Q → n ≤ Z.length - k → (Z.drop k).reverse.take n = Q.reverse.take n := by
      intro Z M k hz hk
      have e1 : Z.reverse.take n = (Z.drop k).reverse.take n := by
        conv => lhs; rw [← List.take_append_drop k Z, List.reverse_append, List.take_append_of_le_length (by rw [List.length_reverse, List.length_drop]; exact hk)]
      rw [← e1, hz, List.reverse_append, List.take_append_of_le_length (by rw [List.length_reverse]; omega)]
    rw [L_tail, L_tail, piece (L s) (P ++ X) (cp s b) h1 (by omega), piece (L b) (P ++ L t) (cp s b) h4 (by omega)]
  omega
end Te
