/-
  Plain maths: sets of bytes, expressions, their shapes, parts and depth, what they match (namespace Rg; no program).
-/
namespace Rg

/-- A set of bytes. -/
abbrev BS := UInt8 → Bool
def emp (s : BS) : Bool := (List.range 256).all fun i => !s (UInt8.ofNat i)
def none8 : BS := fun _ => false
theorem emp_iff {s : BS} : emp s = true ↔ s = none8 := by
  constructor
  · intro h
    funext b
    unfold emp at h
    rw [List.all_eq_true] at h
    have := h b.toNat (by simpa using b.toNat_lt)
    simp at this
    exact this
  · rintro rfl
    simp [emp, none8]

/-- An expression: kind, set, kids. -/
inductive Rx where
  | mk (k : Int) (s : BS) (l : List Rx)
def Rx.k : Rx → Int | .mk k _ _ => k
def Rx.s : Rx → BS | .mk _ s _ => s
def Rx.l : Rx → List Rx | .mk _ _ l => l

theorem Rx.ind {P : Rx → Prop} (h : ∀ k s l, (∀ x ∈ l, P x) → P (.mk k s l)) : ∀ r, P r
  | .mk k s l => h k s l fun x _ => Rx.ind h x
decreasing_by
  simp_wf
  have := List.sizeOf_lt_of_mem ‹x ∈ l›
  omega

/-- Kind, set and number of kids are right. -/
def shaped (k : Int) (s : BS) (n : Nat) : Bool :=
  if k = 1 ∨ k = 2 then n == 0 && emp s
  else if k = 3 then n == 0 && !emp s
  else if k = 4 ∨ k = 5 then decide (2 ≤ n) && emp s
  else if k = 6 then n == 1 && emp s
  else false
mutual
/-- Shaped throughout, no path longer than d. -/
def fits : Rx → Nat → Bool
  | .mk k s l, d => match d with
    | 0 => false
    | d + 1 => shaped k s l.length && fitsL l d
def fitsL : List Rx → Nat → Bool
  | [], _ => true
  | x :: l, d => fits x d && fitsL l d
end
theorem fitsL_iff {l : List Rx} {d : Nat} : fitsL l d = true ↔ ∀ x ∈ l, fits x d = true := by
  induction l with
  | nil => simp [fitsL]
  | cons x l ih => simp [fitsL, ih]
theorem fits_mk {k : Int} {s : BS} {l : List Rx} {d : Nat} : fits (.mk k s l) (d + 1) = (shaped k s l.length && fitsL l d) := by rw [fits]
theorem fits_zero {r : Rx} : fits r 0 = false := by cases r; rw [fits]
theorem fits_mono {r : Rx} : ∀ {d d' : Nat}, d ≤ d' → fits r d = true → fits r d' = true := by
  induction r using Rx.ind with
  | h k s l ih =>
    intro d d' hd h
    cases d with
    | zero => rw [fits_zero] at h; cases h
    | succ d =>
      obtain ⟨d', rfl⟩ : ∃ e, d' = e + 1 := ⟨d' - 1, by omega⟩
      rw [fits_mk, Bool.and_eq_true, fitsL_iff] at h ⊢
      exact ⟨h.1, fun x hx => ih x hx (by omega) (h.2 x hx)⟩
/-- Of the shapes that are allowed. -/
def Vd (r : Rx) : Prop := ∃ d, fits r d = true
theorem Vd.kid {k : Int} {s : BS} {l : List Rx} (h : Vd (.mk k s l)) {x : Rx} (hx : x ∈ l) : Vd x := by
  obtain ⟨d, h⟩ := h
  cases d with
  | zero => rw [fits_zero] at h; cases h
  | succ d => rw [fits_mk, Bool.and_eq_true, fitsL_iff] at h; exact ⟨d, h.2 x hx⟩
theorem Vd.shaped {k : Int} {s : BS} {l : List Rx} (h : Vd (.mk k s l)) : shaped k s l.length = true := by
  obtain ⟨d, h⟩ := h
  cases d with
  | zero => rw [fits_zero] at h; cases h
  | succ d => rw [fits_mk, Bool.and_eq_true] at h; exact h.1
theorem shaped_kind {k : Int} {s : BS} {n : Nat} (h : shaped k s n = true) : k = 1 ∨ k = 2 ∨ k = 3 ∨ k = 4 ∨ k = 5 ∨ k = 6 := by
  unfold shaped at h
  split at h
  · omega
  split at h
  · omega
  split at h
  · omega
  split at h
  · omega
  · cases h
theorem shaped_star {s : BS} {n : Nat} (h : shaped 6 s n = true) : n = 1 := by
  unfold shaped at h; simp at h; exact h.1
theorem shaped_leaf {k : Int} {s : BS} {n : Nat} (h : shaped k s n = true) (hk : k = 1 ∨ k = 2 ∨ k = 3) : n = 0 := by
  unfold shaped at h
  rcases hk with rfl | rfl | rfl <;> simp at h <;> exact h.1
theorem shaped_two {k : Int} {s : BS} {n : Nat} (h : shaped k s n = true) (hk : k = 4 ∨ k = 5) : 2 ≤ n := by
  unfold shaped at h
  rcases hk with rfl | rfl <;> simp at h <;> exact h.1
theorem shaped_emp {k : Int} {s : BS} {n : Nat} (h : shaped k s n = true) (hk : k ≠ 3) : s = none8 := by
  refine emp_iff.1 ?_
  rcases shaped_kind h with rfl | rfl | rfl | rfl | rfl | rfl
  · simp [shaped] at h; exact h.2
  · simp [shaped] at h; exact h.2
  · exact absurd rfl hk
  · simp [shaped] at h; exact h.2
  · simp [shaped] at h; exact h.2
  · simp [shaped] at h; exact h.2

mutual
/-- Number of parts. -/
def parts : Rx → Nat
  | .mk _ _ l => partsL l + 1
def partsL : List Rx → Nat
  | [] => 0
  | x :: l => parts x + partsL l
end
mutual
/-- Number of levels. -/
def depth : Rx → Nat
  | .mk _ _ l => depthL l + 1
def depthL : List Rx → Nat
  | [] => 0
  | x :: l => max (depth x) (depthL l)
end
theorem depthL_le {l : List Rx} {d : Nat} : depthL l ≤ d ↔ ∀ x ∈ l, depth x ≤ d := by
  induction l with
  | nil => simp [depthL]
  | cons x l ih => simp [depthL, Nat.max_le, ih]
theorem depth_pos (r : Rx) : 1 ≤ depth r := by cases r; rw [depth]; omega
/-- Shaped throughout. -/
theorem fits_depth {r : Rx} (h : Vd r) : ∀ {d : Nat}, fits r d = true ↔ depth r ≤ d := by
  induction r using Rx.ind with
  | h k s l ih =>
    intro d
    cases d with
    | zero => rw [fits_zero, depth]; simp
    | succ d =>
      rw [fits_mk, depth, h.shaped, Bool.true_and, fitsL_iff, Nat.add_le_add_iff_right, depthL_le]
      exact ⟨fun h' x hx => (ih x hx (h.kid hx)).1 (h' x hx), fun h' x hx => (ih x hx (h.kid hx)).2 (h' x hx)⟩
theorem Vd.mk {k : Int} {s : BS} {l : List Rx} (h : Rg.shaped k s l.length = true) (hl : ∀ x ∈ l, Vd x) : Vd (.mk k s l) := by
  refine ⟨depthL l + 1, ?_⟩
  rw [fits_mk, h, Bool.true_and, fitsL_iff]
  exact fun x hx => (fits_depth (hl x hx)).2 (depthL_le.1 (Nat.le_refl _) x hx)

mutual
/-- What 'shallow' reckons. -/
def sh : Rx → Nat → Int → Int
  | .mk _ _ l, lv, left => if 50 < lv ∨ left ≤ 0 then -1 else shL l (lv + 1) (left - 1)
def shL : List Rx → Nat → Int → Int
  | [], _, left => left
  | x :: l, lv, left => if left < 0 then left else shL l lv (sh x lv left)
end
theorem sh_parts {r : Rx} : ∀ {lv : Nat} {left : Int}, -1 ≤ sh r lv left ∧ (0 ≤ sh r lv left → sh r lv left = left - parts r) := by
  induction r using Rx.ind with
  | h k s l ih =>
    intro lv left
    rw [sh, parts]
    split
    · omega
    · rename_i hn
      have key : ∀ (m : List Rx), (∀ x ∈ m, x ∈ l) → ∀ left : Int, -1 ≤ left → -1 ≤ shL m (lv + 1) left ∧ (0 ≤ shL m (lv + 1) left → shL m (lv + 1) left = left - partsL m) := by
        intro m
        induction m with
        | nil => intro _ left h; rw [shL, partsL]; omega
        | cons x m ihm =>
          intro hm left h
          rw [shL, partsL]
          split
          · omega
          · have h1 := ih x (hm x (by simp)) (lv := lv + 1) (left := left)
            have h2 := ihm (fun y hy => hm y (by simp [hy])) (sh x (lv + 1) left) h1.1
            refine ⟨h2.1, fun h3 => ?_⟩
            have h4 := h2.2 h3
            by_cases h5 : 0 ≤ sh x (lv + 1) left
            · have := h1.2 h5; omega
            · exfalso
              have : sh x (lv + 1) left = -1 := by omega
              rw [this] at h3 h4
              omega
      have := key l (fun x hx => hx) (left - 1) (by omega)
      omega
theorem sh_le {r : Rx} {lv : Nat} {left : Int} : sh r lv left ≤ max left (-1) := by
  have := @sh_parts r lv left
  omega
def few (r : Rx) (most : Int) : Bool := decide (0 ≤ sh r 0 (most + 1))
theorem few_parts {r : Rx} {most : Nat} (h : few r most = true) : parts r ≤ most + 1 := by
  unfold few at h
  rw [decide_eq_true_eq] at h
  have := (@sh_parts r 0 ((most : Int) + 1)).2 h
  omega
/-- The law's 'small'. -/
def small (r : Rx) (most : Int) : Bool := few r most && (fits r 30 && decide (depth r ≤ 8))
theorem small_of {r : Rx} {most : Nat} (h : small r most = true) : parts r ≤ most + 1 ∧ Vd r ∧ depth r ≤ 8 := by
  unfold small at h
  simp only [Bool.and_eq_true, decide_eq_true_eq] at h
  exact ⟨few_parts h.1, ⟨30, h.2.1⟩, h.2.2⟩

/-! What an expression matches. -/
/-- Any number of strings that A holds of, one behind the other. -/
inductive Rep (A : List UInt8 → Prop) : List UInt8 → Prop
  | nil : Rep A []
  | cons {u v} : u ≠ [] → A u → Rep A v → Rep A (u ++ v)
mutual
def L : Rx → List UInt8 → Prop
  | .mk k s l => fun t => (k = 2 ∧ t = []) ∨ (k = 3 ∧ ∃ b, t = [b] ∧ s b = true) ∨ (k = 4 ∧ LC l t) ∨ (k = 5 ∧ LU l t) ∨ (k = 6 ∧ Rep (LU l) t)
def LC : List Rx → List UInt8 → Prop
  | [] => fun t => t = []
  | x :: l => fun t => ∃ u v, t = u ++ v ∧ L x u ∧ LC l v
def LU : List Rx → List UInt8 → Prop
  | [] => fun _ => False
  | x :: l => fun t => L x t ∨ LU l t
end
theorem L_mk {k : Int} {s : BS} {l : List Rx} {t : List UInt8} : L (.mk k s l) t ↔ (k = 2 ∧ t = []) ∨ (k = 3 ∧ ∃ b, t = [b] ∧ s b = true) ∨ (k = 4 ∧ LC l t) ∨ (k = 5 ∧ LU l t) ∨ (k = 6 ∧ Rep (LU l) t) := by rw [L]
theorem LC_cons {x : Rx} {l : List Rx} {t : List UInt8} : LC (x :: l) t ↔ ∃ u v, t = u ++ v ∧ L x u ∧ LC l v := by rw [LC]
theorem LC_nil {t : List UInt8} : LC [] t ↔ t = [] := by rw [LC]
theorem LU_cons {x : Rx} {l : List Rx} {t : List UInt8} : LU (x :: l) t ↔ L x t ∨ LU l t := by rw [LU]
theorem LU_nil {t : List UInt8} : LU [] t ↔ False := by rw [LU]
theorem LU_iff {l : List Rx} {t : List UInt8} : LU l t ↔ ∃ x ∈ l, L x t := by
  induction l with
  | nil => simp [LU_nil]
  | cons x l ih => simp [LU_cons, ih]
theorem LC_append {l m : List Rx} {t : List UInt8} : LC (l ++ m) t ↔ ∃ u v, t = u ++ v ∧ LC l u ∧ LC m v := by
  induction l generalizing t with
  | nil =>
    simp only [List.nil_append, LC_nil]
    exact ⟨fun h => ⟨[], t, rfl, rfl, h⟩, fun ⟨u, v, h, hu, hv⟩ => by subst hu; simpa [h] using hv⟩
  | cons x l ih =>
    simp only [List.cons_append, LC_cons, ih]
    constructor
    · rintro ⟨u, _, rfl, hx, v, w, rfl, h1, h2⟩
      exact ⟨u ++ v, w, by simp, ⟨u, v, rfl, hx, h1⟩, h2⟩
    · rintro ⟨_, w, rfl, ⟨u, v, rfl, hx, h1⟩, h2⟩
      exact ⟨u, v ++ w, by simp, hx, v, w, rfl, h1, h2⟩
theorem LC_one {x : Rx} {t : List UInt8} : LC [x] t ↔ L x t := by
  simp [LC_cons, LC_nil]
theorem LU_one {x : Rx} {t : List UInt8} : LU [x] t ↔ L x t := by simp [LU_cons, LU_nil]
theorem Rep.congr {A B : List UInt8 → Prop} (h : ∀ t, A t ↔ B t) {t : List UInt8} : Rep A t ↔ Rep B t := by
  constructor
  · intro k; induction k with
    | nil => exact .nil
    | cons h1 h2 _ ih => exact .cons h1 ((h _).1 h2) ih
  · intro k; induction k with
    | nil => exact .nil
    | cons h1 h2 _ ih => exact .cons h1 ((h _).2 h2) ih
theorem Rep.app {A : List UInt8 → Prop} {u v : List UInt8} (h : Rep A u) (k : Rep A v) : Rep A (u ++ v) := by
  induction h with
  | nil => exact k
  | cons h1 h2 _ ih => rw [List.append_assoc]; exact .cons h1 h2 ih
theorem Rep.one {A : List UInt8 → Prop} {u : List UInt8} (h : A u) : Rep A u := by
  by_cases e : u = []
  · rw [e]; exact .nil
  · simpa using Rep.cons e h .nil
/-- From the other end. -/
theorem Rep.last {A : List UInt8 → Prop} {t : List UInt8} : Rep A t ↔ t = [] ∨ ∃ u v, t = u ++ v ∧ v ≠ [] ∧ Rep A u ∧ A v := by
  constructor
  · intro h
    induction h with
    | nil => exact .inl rfl
    | @cons u v h1 h2 h3 ih =>
      refine .inr ?_
      rcases ih with rfl | ⟨x, y, rfl, hy, h4, h5⟩
      · exact ⟨[], u, by simp, h1, .nil, h2⟩
      · exact ⟨u ++ x, y, by simp, hy, .cons h1 h2 h4, h5⟩
  · rintro (rfl | ⟨u, v, rfl, _, h1, h2⟩)
    · exact .nil
    · exact h1.app (.one h2)
/-- From the front. -/
theorem Rep.first {A : List UInt8 → Prop} {b : UInt8} {t : List UInt8} : Rep A (b :: t) ↔ ∃ u v, t = u ++ v ∧ A (b :: u) ∧ Rep A v := by
  constructor
  · intro h
    generalize hz : b :: t = z at h
    cases h with
    | nil => cases hz
    | @cons u v h1 h2 h3 =>
      cases u with
      | nil => exact absurd rfl h1
      | cons c u =>
        simp at hz
        obtain ⟨rfl, rfl⟩ := hz
        exact ⟨u, v, rfl, h2, h3⟩
  · rintro ⟨u, v, rfl, h1, h2⟩
    exact Rep.cons (u := b :: u) (by simp) h1 h2

mutual
/-- Whether the empty string is matched. -/
def nul : Rx → Bool
  | .mk k _ l => if k = 2 ∨ k = 6 then true else if k = 4 then nulC l else if k = 5 then nulU l else false
def nulC : List Rx → Bool
  | [] => true
  | x :: l => nul x && nulC l
def nulU : List Rx → Bool
  | [] => false
  | x :: l => nul x || nulU l
end
theorem nulC_iff {l : List Rx} : nulC l = true ↔ ∀ x ∈ l, nul x = true := by
  induction l with
  | nil => simp [nulC]
  | cons x l ih => simp [nulC, ih]
theorem nulU_iff {l : List Rx} : nulU l = true ↔ ∃ x ∈ l, nul x = true := by
  induction l with
  | nil => simp [nulU]
  | cons x l ih => simp [nulU, ih]
theorem LC_nil_iff {l : List Rx} : LC l [] ↔ ∀ x ∈ l, L x [] := by
  induction l with
  | nil => simp [LC_nil]
  | cons x l ih =>
    rw [LC_cons]
    constructor
    · rintro ⟨u, v, h, h1, h2⟩
      simp at h
      obtain ⟨rfl, rfl⟩ := h
      have := ih.1 h2
      simp [h1]
      exact this
    · intro h
      exact ⟨[], [], rfl, h x (by simp), ih.2 fun y hy => h y (by simp [hy])⟩
theorem nul_iff {r : Rx} : nul r = true ↔ L r [] := by
  induction r using Rx.ind with
  | h k s l ih =>
    rw [nul, L_mk]
    by_cases h1 : k = 2 ∨ k = 6
    · rw [if_pos h1]
      rcases h1 with rfl | rfl
      · simp
      · simp; exact .nil
    · rw [if_neg h1]
      by_cases h4 : k = 4
      · rw [if_pos h4]; subst h4
        simp [nulC_iff, LC_nil_iff]
        exact ⟨fun h x hx => (ih x hx).1 (h x hx), fun h x hx => (ih x hx).2 (h x hx)⟩
      · rw [if_neg h4]
        by_cases h5 : k = 5
        · rw [if_pos h5]; subst h5
          simp [nulU_iff, LU_iff]
          exact ⟨fun ⟨x, hx, h⟩ => ⟨x, hx, (ih x hx).1 h⟩, fun ⟨x, hx, h⟩ => ⟨x, hx, (ih x hx).2 h⟩⟩
        · rw [if_neg h5]
          simp [h4, h5, show ¬ k = 2 by omega, show ¬ k = 6 by omega]
end Rg
