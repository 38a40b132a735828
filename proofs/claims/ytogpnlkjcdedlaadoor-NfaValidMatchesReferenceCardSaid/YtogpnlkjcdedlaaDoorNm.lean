/-
  Plain maths: nondeterministic automata: closures, steps, runs; the position automaton (namespace Nf; no program).
-/
import Derived.Test.YtogpnlkjcdedlaaDoorN
set_option linter.unusedVariables false
namespace Nf
open Rg

structure Arc where
  f : Int
  t : Int
  e : Bool
  s : BS
structure Nfa where
  n : Int
  st : Int
  arcs : List Arc
  acc : List Int
def isS (n x : Int) : Bool := decide (0 ≤ x) && decide (x < n)
def arcOk (n : Int) (a : Arc) : Bool := isS n a.f && isS n a.t && (!a.e || emp a.s)
def valid (N : Nfa) : Bool := decide (1 ≤ N.n) && decide (N.n ≤ 2000) && isS N.n N.st && N.arcs.all (arcOk N.n) && decide ((N.acc.length : Int) = N.n) && N.acc.all fun x => decide (-1 ≤ x)
/-- A valid automaton with n states. -/
structure Vn (N : Nfa) (n : Nat) : Prop where
  hn : N.n = (n : Int)
  pos : 1 ≤ n
  le : n ≤ 2000
  st : ∃ q : Nat, q < n ∧ N.st = (q : Int)
  arcs : ∀ a ∈ N.arcs, ∃ x y : Nat, x < n ∧ y < n ∧ a.f = (x : Int) ∧ a.t = (y : Int) ∧ (a.e = true → a.s = none8)
  acc : N.acc.length = n
  ge : ∀ x ∈ N.acc, -1 ≤ x
theorem isS_iff {n x : Int} : isS n x = true ↔ 0 ≤ x ∧ x < n := by simp [isS]
theorem arcOk_iff {n : Int} {a : Arc} : arcOk n a = true ↔ (0 ≤ a.f ∧ a.f < n) ∧ (0 ≤ a.t ∧ a.t < n) ∧ (a.e = true → a.s = none8) := by
  unfold arcOk
  rw [Bool.and_eq_true, Bool.and_eq_true, isS_iff, isS_iff, Bool.or_eq_true, emp_iff, and_assoc]
  cases a.e <;> simp
theorem valid_iff {N : Nfa} : valid N = true ↔ ∃ n, Vn N n := by
  unfold valid
  simp only [Bool.and_eq_true, decide_eq_true_eq, List.all_eq_true, isS_iff, arcOk_iff]
  constructor
  · rintro ⟨⟨⟨⟨⟨h1, h2⟩, h3⟩, h4⟩, h5⟩, h6⟩
    refine ⟨N.n.toNat, by omega, by omega, by omega, ⟨N.st.toNat, by omega, by omega⟩, fun a ha => ?_, by omega, h6⟩
    obtain ⟨⟨a1, a2⟩, ⟨a3, a4⟩, a5⟩ := h4 a ha
    exact ⟨a.f.toNat, a.t.toNat, by omega, by omega, by omega, by omega, a5⟩
  · rintro ⟨n, h⟩
    obtain ⟨q, hq, hq2⟩ := h.st
    have := h.hn; have := h.pos; have := h.le; have := h.acc
    refine ⟨⟨⟨⟨⟨by omega, by omega⟩, by omega⟩, fun a ha => ?_⟩, by omega⟩, h.ge⟩
    obtain ⟨x, y, h1, h2, h3, h4, h5⟩ := h.arcs a ha
    exact ⟨by omega, by omega, h5⟩

/-! Closures. -/
inductive Rt (R : Nat → Nat → Prop) (p : Nat → Bool) : Nat → Prop
  | base {x} : p x = true → Rt R p x
  | step {x y} : Rt R p x → R x y → Rt R p y
noncomputable def clo (R : Nat → Nat → Prop) (p : Nat → Bool) : Nat → Bool := fun x => @decide (Rt R p x) (Classical.propDecidable _)
theorem clo_iff {R : Nat → Nat → Prop} {p : Nat → Bool} {x : Nat} : clo R p x = true ↔ Rt R p x := by unfold clo; simp
theorem clo_eq {R : Nat → Nat → Prop} {p q : Nat → Bool} (h1 : ∀ x, p x = true → q x = true) (h2 : ∀ x y, q x = true → R x y → q y = true) (h3 : ∀ x, q x = true → Rt R p x) : q = clo R p := by
  funext x
  rw [Bool.eq_iff_iff, clo_iff]
  refine ⟨h3 x, fun h => ?_⟩
  induction h with
  | base h => exact h1 _ h
  | step _ hr ih => exact h2 _ _ ih hr
theorem Rt.mono {R : Nat → Nat → Prop} {p q : Nat → Bool} (h : ∀ x, p x = true → Rt R q x) {x : Nat} (k : Rt R p x) : Rt R q x := by
  induction k with
  | base h' => exact h _ h'
  | step _ hr ih => exact Rt.step ih hr
theorem clo_clo (R : Nat → Nat → Prop) (p : Nat → Bool) : clo R (clo R p) = clo R p := by
  refine (clo_eq (fun x h => h) (fun x y h hr => ?_) (fun x h => .base h)).symm
  rw [clo_iff] at h ⊢; exact .step h hr
theorem clo_mono {R : Nat → Nat → Prop} {p q : Nat → Bool} (h : ∀ x, p x = true → q x = true) {x : Nat} (k : clo R p x = true) : clo R q x = true := by
  rw [clo_iff] at k ⊢; exact k.mono fun x hx => .base (h x hx)
theorem clo_none {R : Nat → Nat → Prop} (h : ∀ x y, ¬ R x y) (p : Nat → Bool) : clo R p = p :=
  (clo_eq (fun _ h => h) (fun x y _ hr => absurd hr (h x y)) (fun x h => .base h)).symm
theorem clo_lt {R : Nat → Nat → Prop} {p : Nat → Bool} {n : Nat} (hp : ∀ x, p x = true → x < n) (hR : ∀ x y, R x y → y < n) {x : Nat} (h : clo R p x = true) : x < n := by
  rw [clo_iff] at h
  cases h with
  | base h => exact hp _ h
  | step _ h => exact hR _ _ h

/-- Epsilon transitions. -/
def Ep (N : Nfa) (x y : Nat) : Prop := ∃ a ∈ N.arcs, a.e = true ∧ a.f = (x : Int) ∧ a.t = (y : Int)
/-- Where a byte leads. -/
def tgt (N : Nfa) (p : Nat → Bool) (b : UInt8) (y : Nat) : Bool := N.arcs.any fun a => a.s b && decide (0 ≤ a.f) && p a.f.toNat && decide (a.t = (y : Int))
theorem tgt_iff {N : Nfa} {p : Nat → Bool} {b : UInt8} {y : Nat} : tgt N p b y = true ↔ ∃ a ∈ N.arcs, a.s b = true ∧ (∃ x : Nat, a.f = (x : Int) ∧ p x = true) ∧ a.t = (y : Int) := by
  unfold tgt
  rw [List.any_eq_true]
  constructor
  · rintro ⟨a, ha, h⟩
    simp only [Bool.and_eq_true, decide_eq_true_eq] at h
    exact ⟨a, ha, h.1.1.1, ⟨a.f.toNat, by omega, h.1.2⟩, h.2⟩
  · rintro ⟨a, ha, h1, ⟨x, h2, h3⟩, h4⟩
    refine ⟨a, ha, ?_⟩
    simp only [Bool.and_eq_true, decide_eq_true_eq]
    exact ⟨⟨⟨h1, by omega⟩, by rw [h2]; exact h3⟩, h4⟩
noncomputable def stp (N : Nfa) (p : Nat → Bool) (b : UInt8) : Nat → Bool := clo (Ep N) (tgt N p b)
/-- A list of numbers as a set of states. -/
def ini (n : Nat) (l : List Int) (x : Nat) : Bool := decide (x < n) && l.any fun y => decide (y = (x : Int))
theorem ini_iff {n : Nat} {l : List Int} {x : Nat} : ini n l x = true ↔ x < n ∧ (x : Int) ∈ l := by
  unfold ini
  rw [Bool.and_eq_true, decide_eq_true_eq, List.any_eq_true]
  exact and_congr_right fun _ => ⟨fun ⟨y, h, e⟩ => by rw [← of_decide_eq_true e]; exact h, fun h => ⟨_, h, by simp⟩⟩
/-- The elements, in order. -/
def elx (n : Nat) (p : Nat → Bool) : List Nat := (List.range n).filter p
theorem mem_elx {n : Nat} {p : Nat → Bool} {x : Nat} : x ∈ elx n p ↔ x < n ∧ p x = true := by simp [elx]
theorem elx_succ (n : Nat) (p : Nat → Bool) : elx (n + 1) p = elx n p ++ (if p n = true then [n] else []) := by
  unfold elx; rw [List.range_succ, List.filter_append]; congr 1; simp only [List.filter_cons, List.filter_nil]
theorem elx_more {n m : Nat} {p : Nat → Bool} (h : n ≤ m) (hp : ∀ x, p x = true → x < n) : elx m p = elx n p := by
  induction m with
  | zero => rw [show n = 0 by omega]
  | succ m ih =>
    by_cases e : n = m + 1
    · rw [e]
    · rw [elx_succ, ih (by omega), if_neg (fun hm => by have := hp m hm; omega), List.append_nil]
theorem elx_length (n : Nat) (p : Nat → Bool) : (elx n p).length ≤ n := by
  unfold elx; exact Nat.le_trans (List.length_filter_le _ _) (by simp)
theorem ini_elx {n : Nat} {p : Nat → Bool} (hp : ∀ x, p x = true → x < n) : ini n ((elx n p).map fun (x : Nat) => (x : Int)) = p := by
  funext x
  rw [Bool.eq_iff_iff, ini_iff]
  constructor
  · rintro ⟨_, h2⟩
    obtain ⟨y, hy, e⟩ := List.mem_map.1 h2
    have : y = x := by have h9 : (y : Int) = (x : Int) := e; omega
    exact this ▸ (mem_elx.1 hy).2
  · intro h
    exact ⟨hp x h, List.mem_map.2 ⟨x, mem_elx.2 ⟨hp x h, h⟩, rfl⟩⟩
/-- The least number that is accepted. -/
def least (acc : List Int) (l : List Nat) : Int := l.foldl (fun b x => if 0 ≤ acc.getD x (-1) ∧ (b < 0 ∨ acc.getD x (-1) < b) then acc.getD x (-1) else b) (-1)
noncomputable def start (N : Nfa) (n : Nat) : Nat → Bool := clo (Ep N) (ini n [N.st])
noncomputable def after (N : Nfa) (n : Nat) (s : List UInt8) : Nat → Bool := s.foldl (stp N) (start N n)
noncomputable def run (N : Nfa) (n : Nat) (s : List UInt8) : Int := least N.acc (elx n (after N n s))
theorem Ep_lt {N : Nfa} {n : Nat} (h : Vn N n) {x y : Nat} (k : Ep N x y) : y < n := by
  obtain ⟨a, ha, _, _, h2⟩ := k
  obtain ⟨x', y', _, h3, _, h4, _⟩ := h.arcs a ha
  omega
theorem tgt_lt {N : Nfa} {n : Nat} (h : Vn N n) {p : Nat → Bool} {b : UInt8} {y : Nat} (k : tgt N p b y = true) : y < n := by
  obtain ⟨a, ha, _, _, h2⟩ := tgt_iff.1 k
  obtain ⟨x', y', _, h3, _, h4, _⟩ := h.arcs a ha
  omega
theorem stp_lt {N : Nfa} {n : Nat} (h : Vn N n) {p : Nat → Bool} {b : UInt8} {y : Nat} (k : stp N p b y = true) : y < n := clo_lt (fun x hx => tgt_lt h hx) (fun x y hr => Ep_lt h hr) k
theorem cini_lt {N : Nfa} {n : Nat} (h : Vn N n) {l : List Int} {y : Nat} (k : clo (Ep N) (ini n l) y = true) : y < n := clo_lt (fun x hx => (ini_iff.1 hx).1) (fun x y hr => Ep_lt h hr) k
theorem start_lt {N : Nfa} {n : Nat} (h : Vn N n) {y : Nat} (k : start N n y = true) : y < n := cini_lt h k
theorem foldl_lt {N : Nfa} {n : Nat} (h : Vn N n) : ∀ (s : List UInt8) {p : Nat → Bool}, (∀ y, p y = true → y < n) → ∀ y, s.foldl (stp N) p y = true → y < n
  | [], _, hp, y, k => hp y k
  | b :: s, _, _, y, k => foldl_lt h s (fun y k => stp_lt h k) y k
theorem after_lt {N : Nfa} {n : Nat} (h : Vn N n) {s : List UInt8} {y : Nat} (k : after N n s y = true) : y < n := foldl_lt h s (fun y k => start_lt h k) y k
theorem after_snoc (N : Nfa) (n : Nat) (s : List UInt8) (b : UInt8) : after N n (s ++ [b]) = stp N (after N n s) b := by unfold after; rw [List.foldl_append]; rfl
theorem stp_mono {N : Nfa} {p q : Nat → Bool} {b : UInt8} (h : ∀ x, p x = true → q x = true) {y : Nat} (k : stp N p b y = true) : stp N q b y = true :=
  clo_mono (fun x hx => by
    obtain ⟨a, h1, h2, ⟨z, h3, h4⟩, h5⟩ := tgt_iff.1 hx
    exact tgt_iff.2 ⟨a, h1, h2, ⟨z, h3, h z h4⟩, h5⟩) k
/-- What stp leads to is closed. -/
theorem clo_stp (N : Nfa) (p : Nat → Bool) (b : UInt8) : clo (Ep N) (stp N p b) = stp N p b := clo_clo _ _

/-! The position automaton. -/
mutual
def np : Rx → Nat
  | .mk k _ l => if k = 3 then 1 else npL l
def npL : List Rx → Nat
  | [] => 0
  | x :: l => np x + npL l
end
mutual
def os : Rx → List BS
  | .mk k s l => if k = 3 then [s] else osL l
def osL : List Rx → List BS
  | [] => []
  | x :: l => os x ++ osL l
end
mutual
/-- The first occurrences, counted from o. -/
def fst : Rx → Nat → List Nat
  | .mk k _ l => fun o => if k = 3 then [o] else if k = 4 then fstC l o else fstU l o
def fstC : List Rx → Nat → List Nat
  | [] => fun _ => []
  | x :: l => fun o => fst x o ++ (if nul x = true then fstC l (o + np x) else [])
def fstU : List Rx → Nat → List Nat
  | [] => fun _ => []
  | x :: l => fun o => fst x o ++ fstU l (o + np x)
end
mutual
def las : Rx → Nat → List Nat
  | .mk k _ l => fun o => if k = 3 then [o] else if k = 4 then lasC l o else lasU l o
def lasC : List Rx → Nat → List Nat
  | [] => fun _ => []
  | x :: l => fun o => (if nulC l = true then las x o else []) ++ lasC l (o + np x)
def lasU : List Rx → Nat → List Nat
  | [] => fun _ => []
  | x :: l => fun o => las x o ++ lasU l (o + np x)
end
mutual
/-- The pairs. -/
def pr : Rx → Nat → Nat → Nat → Bool
  | .mk k _ l => fun o i j => if k = 3 then false else if k = 4 then prC l o i j else prU l o i j || (decide (k = 6) && (lasU l o).contains i && (fstU l o).contains j)
def prC : List Rx → Nat → Nat → Nat → Bool
  | [] => fun _ _ _ => false
  | x :: l => fun o i j => pr x o i j || prC l (o + np x) i j || ((las x o).contains i && (fstC l (o + np x)).contains j)
def prU : List Rx → Nat → Nat → Nat → Bool
  | [] => fun _ _ _ => false
  | x :: l => fun o i j => pr x o i j || prU l (o + np x) i j
end
/-- The arcs. -/
def prW (l : List Rx) (i j : Nat) : Bool := prU l 1 i j || (decide (i = 0) && (fstU l 1).contains j)
/-- One expression's numbers laid. -/
def acc1 (x : Rx) (i o : Nat) (A : Nat → Int) (q : Nat) : Int := if q = 0 then (if nul x = true ∧ A 0 < 0 then (i : Int) else A 0) else if q ∈ las x o then (i : Int) else A q
def accW : List Rx → Nat → Nat → (Nat → Int) → Nat → Int
  | [], _, _, A => A
  | x :: l, i, o, A => accW l (i + 1) (o + np x) (acc1 x i o A)
def setsW (l : List Rx) : List BS := none8 :: osL l
def PA (l : List Rx) : Nfa where
  n := (npL l + 1 : Nat)
  st := 0
  arcs := (List.range (npL l + 1)).flatMap fun (i : Nat) => ((List.range (npL l + 1)).filter (prW l i)).map fun (j : Nat) => ⟨(i : Int), (j : Int), false, (setsW l).getD j none8⟩
  acc := (List.range (npL l + 1)).map (accW l 0 1 fun _ => -1)
theorem fst_mk {k : Int} {s : BS} {l : List Rx} {o : Nat} : fst (.mk k s l) o = if k = 3 then [o] else if k = 4 then fstC l o else fstU l o := by rw [fst]
theorem las_mk {k : Int} {s : BS} {l : List Rx} {o : Nat} : las (.mk k s l) o = if k = 3 then [o] else if k = 4 then lasC l o else lasU l o := by rw [las]
theorem pr_mk {k : Int} {s : BS} {l : List Rx} {o i j : Nat} : pr (.mk k s l) o i j = if k = 3 then false else if k = 4 then prC l o i j else prU l o i j || (decide (k = 6) && (lasU l o).contains i && (fstU l o).contains j) := by rw [pr]
theorem os_mk {k : Int} {s : BS} {l : List Rx} : os (.mk k s l) = if k = 3 then [s] else osL l := by rw [os]
theorem fstC_nil {o : Nat} : fstC [] o = [] := by rw [fstC]
theorem fstC_cons {x : Rx} {l : List Rx} {o : Nat} : fstC (x :: l) o = fst x o ++ (if nul x = true then fstC l (o + np x) else []) := by rw [fstC]
theorem fstU_nil {o : Nat} : fstU [] o = [] := by rw [fstU]
theorem fstU_cons {x : Rx} {l : List Rx} {o : Nat} : fstU (x :: l) o = fst x o ++ fstU l (o + np x) := by rw [fstU]
theorem lasC_nil {o : Nat} : lasC [] o = [] := by rw [lasC]
theorem lasC_cons {x : Rx} {l : List Rx} {o : Nat} : lasC (x :: l) o = (if nulC l = true then las x o else []) ++ lasC l (o + np x) := by rw [lasC]
theorem lasU_nil {o : Nat} : lasU [] o = [] := by rw [lasU]
theorem lasU_cons {x : Rx} {l : List Rx} {o : Nat} : lasU (x :: l) o = las x o ++ lasU l (o + np x) := by rw [lasU]
theorem prC_nil {o i j : Nat} : prC [] o i j = false := by rw [prC]
theorem prC_cons {x : Rx} {l : List Rx} {o i j : Nat} : prC (x :: l) o i j = (pr x o i j || prC l (o + np x) i j || ((las x o).contains i && (fstC l (o + np x)).contains j)) := by rw [prC]
theorem prU_nil {o i j : Nat} : prU [] o i j = false := by rw [prU]
theorem prU_cons {x : Rx} {l : List Rx} {o i j : Nat} : prU (x :: l) o i j = (pr x o i j || prU l (o + np x) i j) := by rw [prU]
theorem np_mk {k : Int} {s : BS} {l : List Rx} : np (.mk k s l) = if k = 3 then 1 else npL l := by rw [np]
theorem os_length (r : Rx) : (os r).length = np r := by
  induction r using Rx.ind with
  | h k s l ih =>
    rw [os, np]
    split
    · rfl
    · have : ∀ m : List Rx, (∀ x ∈ m, (os x).length = np x) → (osL m).length = npL m := by
        intro m
        induction m with
        | nil => intro _; rw [osL, npL]; rfl
        | cons x m ih => intro h; rw [osL, npL, List.length_append, h x (List.mem_cons_self ..), ih fun y hy => h y (List.mem_cons_of_mem _ hy)]
      exact this l ih
theorem osL_length : ∀ l : List Rx, (osL l).length = npL l
  | [] => by rw [osL, npL]; rfl
  | x :: l => by rw [osL, npL, List.length_append, os_length, osL_length l]
theorem npL_append : ∀ l m : List Rx, npL (l ++ m) = npL l + npL m
  | [], m => by rw [List.nil_append, npL]; omega
  | x :: l, m => by rw [List.cons_append, npL, npL, npL_append l m]; omega
theorem osL_append : ∀ l m : List Rx, osL (l ++ m) = osL l ++ osL m
  | [], m => by rw [List.nil_append, osL]; rfl
  | x :: l, m => by rw [List.cons_append, osL, osL, osL_append l m, List.append_assoc]
theorem fstC_append : ∀ (l m : List Rx) (o : Nat), fstC (l ++ m) o = fstC l o ++ (if nulC l = true then fstC m (o + npL l) else [])
  | [], m, o => by rw [List.nil_append, fstC_nil, npL, nulC, if_pos rfl]; rfl
  | x :: l, m, o => by
    rw [List.cons_append, fstC_cons, fstC_cons, npL, nulC, fstC_append l m]
    cases nul x <;> cases nulC l <;> simp [Nat.add_assoc]
theorem lasC_append : ∀ (l m : List Rx) (o : Nat), lasC (l ++ m) o = (if nulC m = true then lasC l o else []) ++ lasC m (o + npL l)
  | [], m, o => by rw [List.nil_append, lasC_nil, npL]; simp
  | x :: l, m, o => by
    have hn : nulC (l ++ m) = (nulC l && nulC m) := by rw [Bool.eq_iff_iff, Bool.and_eq_true, nulC_iff, nulC_iff, nulC_iff]; simp [or_imp, forall_and]
    rw [List.cons_append, lasC_cons, lasC_cons, npL, lasC_append l m, hn]
    cases nulC l <;> cases nulC m <;> simp [Nat.add_assoc]
theorem fstU_append : ∀ (l m : List Rx) (o : Nat), fstU (l ++ m) o = fstU l o ++ fstU m (o + npL l)
  | [], m, o => by rw [List.nil_append, fstU_nil, npL]; rfl
  | x :: l, m, o => by rw [List.cons_append, fstU_cons, fstU_cons, npL, fstU_append l m, List.append_assoc, Nat.add_assoc]
theorem lasU_append : ∀ (l m : List Rx) (o : Nat), lasU (l ++ m) o = lasU l o ++ lasU m (o + npL l)
  | [], m, o => by rw [List.nil_append, lasU_nil, npL]; rfl
  | x :: l, m, o => by rw [List.cons_append, lasU_cons, lasU_cons, npL, lasU_append l m, List.append_assoc, Nat.add_assoc]
theorem prU_append : ∀ (l m : List Rx) (o i j : Nat), prU (l ++ m) o i j = (prU l o i j || prU m (o + npL l) i j)
  | [], m, o, i, j => by rw [List.nil_append, prU_nil, npL]; rfl
  | x :: l, m, o, i, j => by rw [List.cons_append, prU_cons, prU_cons, npL, prU_append l m, Bool.or_assoc, Nat.add_assoc]
theorem nulC_append (l m : List Rx) : nulC (l ++ m) = (nulC l && nulC m) := by rw [Bool.eq_iff_iff, Bool.and_eq_true, nulC_iff, nulC_iff, nulC_iff]; simp [or_imp, forall_and]
theorem or4 (a b c d e : Bool) : (a || (b || c || d) || e) = (a || b || e || c || d) := by cases a <;> cases b <;> cases c <;> cases d <;> cases e <;> rfl
theorem or6 (a b c d e f g : Bool) : (a || (b || c || (d && f)) || (e && (g || f))) = (a || b || (e && g) || c || ((e || d) && f)) := by cases a <;> cases b <;> cases c <;> cases d <;> cases e <;> cases f <;> cases g <;> rfl
theorem cont_append (l m : List Nat) (i : Nat) : (l ++ m).contains i = (l.contains i || m.contains i) := by rw [Bool.eq_iff_iff, Bool.or_eq_true]; simp
theorem prC_snoc : ∀ (l : List Rx) (x : Rx) (o i j : Nat), prC (l ++ [x]) o i j = (prC l o i j || pr x (o + npL l) i j || ((lasC l o).contains i && (fst x (o + npL l)).contains j))
  | [], x, o, i, j => by
    rw [List.nil_append, prC_cons, prC_nil, prC_nil, npL, fstC_nil, lasC_nil]
    simp
  | y :: l, x, o, i, j => by
    rw [List.cons_append, prC_cons, prC_cons, npL, prC_snoc l x, fstC_append, lasC_cons]
    simp only [fstC_cons, fstC_nil, List.append_nil, ite_self, Nat.add_assoc]
    cases nulC l
    · rw [if_neg (by simp), if_neg (by simp), List.append_nil, List.nil_append]
      exact or4 _ _ _ _ _
    · rw [if_pos rfl, if_pos rfl]
      simp only [cont_append]
      exact or6 _ _ _ _ _ _ _
end Nf
