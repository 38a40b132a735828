/-
  The arguments opened: expressions; the table out of what the row lists.
  Plain maths: the text form of expressions, read (namespace Rg; no program).
  DERIVED: THE SHELF's CONTRACTS AT THIS DUMP, IN PLAIN WORDS (tools/lay-plain.mjs out of 'TrydShelf.lean', which tools/lay-shelf.mjs wrote): THE SAME DECLARATIONS UNDER THE SAME NAMES: 'import', 'namespace', 'open', 'def', 'theorem' AND NOTHING ELSE: no command of the shelf's: FOR A HAND-IN. Each laying: the table of numbers ('.._ren') and one theorem, a field a fact of the dump's own or the kernel's comparison; each contract: ONE APPLICATION.
  The state of the parser; contracts: fail, ahead, skip, printing, isLetterOrDigit.
-/
import Derived.Test.YtednoideboeehaaDoorZ04
import Derived.Test.YtednoideboeehaaDoorRows
import Derived.Test.YtednoideboeehaaDoorTie
import Derived.Test.YtednoideboeehaaDoorCards
import Derived.Lib.LaidTab
import Derived.Laws.IdiomArrays
import Derived.ShutString
import Derived.ProofKit
import Derived.Test.YtednoideboeehaaDoorZ03
import Derived.Shelf.Strings.Builder1
import Derived.Shelf.Small.Strs
import Derived.Shelf.Strings.BuilderF
import Derived.Shelf.Strings.BuilderK
import Derived.Shelf.Strings.Search1
import Derived.Test.YtednoideboeehaaDoorProg
import Derived.Test.YtednoideboeehaaDoorZ02
import Derived.WalkSmall
section
namespace Go.Proofs.YtednoideboeehaaDoor
open Go.RowKit Bs Rg Go.Frame Go.WideShapes Go.ChangeShapes Go.ChangeAt
attribute [local irreducible] nb cnt pc els cf fs

theorem own : ownKnob Tryd.prog.godebug = none := by kernel_rfl
theorem laidOut : laidOutB Tryd.prog = true := by kernel_rfl
theorem gTab : Tryd.prog.globalNamed "math/bits.deBruijn64tab" = some 0 := by kernel_rfl
theorem tTab : (Tryd.prog.globals[0]?).map (·.type) = some 134 := by kernel_rfl
theorem cells5 : Tryd.prog.cellsOf 5 = 1 := by kernel_rfl
theorem cells134 : Tryd.prog.cellsOf 134 = 64 := by kernel_rfl
theorem cells3 : Tryd.prog.cellsOf 3 = 1 := by kernel_rfl
theorem cells24 : Tryd.prog.cellsOf 24 = 4 := by kernel_rfl
theorem cells25 : Tryd.prog.cellsOf 25 = 1 := by kernel_rfl
theorem cells27 : Tryd.prog.cellsOf 27 = 6 := by kernel_rfl
theorem bytes27 : Tryd.prog.bytesOf 27 = 64 := by kernel_rfl

abbrev laidT : List (String × DataW Unit) := [("math/bits.deBruijn64tab", Rows.laid_math_bits_deBruijn64tab)]
theorem door_met (os : Os) (args : Array Value) : laidMetH Tryd.prog laidT ((World.doorLaid Tryd.prog 400 os).forCall (fun _ _ => 0) ⟨#[], args, []⟩).memory :=
  laidMetH_of_parts3 (fuel := 8) (laidMet_of_run' 8 (by kernel_rfl) (by kernel_rfl)) (by kernel_rfl) (by kernel_rfl)
theorem tb_of_laid {W : World} (h : laidMetH Tryd.prog laidT W) : Tb W := by
  rw [MakeChecks.laidMetH_plain _ _ _ (by kernel_rfl)] at h
  have ht : Lib.TabIs Tryd.prog W "math/bits.deBruijn64tab" .u8 (dbl.map fun (x : Nat) => (x : Int)) :=
    Lib.tabIs_of_head (rest := []) gTab tTab Tryd.underlying134 Tryd.underlying5 cells5 cells134 h
  have hc : ∀ i, i < 64 → W.cell? ⟨0, i, none⟩ = some (.int .u8 (db i : Int)) := fun i hi => by
    have := ht.cell gTab i (by simpa [dbl] using hi)
    rw [this]
    have e : (dbl.map fun (x : Nat) => (x : Int)).getD i 0 = (db i : Int) := by
      unfold db
      rw [List.getD_eq_getElem?_getD, List.getD_eq_getElem?_getD, List.getElem?_map]
      cases dbl[i]? <;> rfl
    rw [e]
  refine ⟨World.block_lt_of_cell? W _ (hc 0 (by decide)), hc⟩
theorem u64_nat {x : Int} (h : (Lit.int .u64 x : Lit).wf = true) : ∃ n : Nat, x = n ∧ n < 2 ^ 64 := by
  have := bounds_u64 h
  exact ⟨x.toNat, by omega, by omega⟩
theorem u8_nat {x : Int} (h : (Lit.int .u8 x : Lit).wf = true) : ∃ n : Nat, x = n ∧ n < 256 := by
  have := bounds_u8 h
  exact ⟨x.toNat, by omega, by omega⟩
section
variable {H : Type} {enc : TypeId × Value → H} {w : World} {base : Nat} {sp : Nat → Bool} {held : Bool}
/-- Four cells that read as a set. -/
theorem read_set {fuel : Nat} {cs : List Value} {x : DataW H × List MemPlace} (hl : cs.length = 4) (h : DataW.trod enc Tryd.prog w base sp held fuel 24 cs = some x) :
    ∃ s : BS, cs = [.int .u64 (ws s 0 : Int), .int .u64 (ws s 1 : Int), .int .u64 (ws s 2 : Int), .int .u64 (ws s 3 : Int)] := by
  obtain ⟨c0, c1, c2, c3, rfl⟩ : ∃ c0 c1 c2 c3, cs = [c0, c1, c2, c3] := by
    match cs, hl with
    | [c0, c1, c2, c3], _ => exact ⟨c0, c1, c2, c3, rfl⟩
  obtain ⟨y0, y1, y2, y3, m, _, h0, h1, h2, h3⟩ := trod_array4 Tryd.underlying24 cells22 h
  obtain ⟨x0, e0, _, w0⟩ := DataW.trod_int Tryd.underlying22 h0
  obtain ⟨x1, e1, _, w1⟩ := DataW.trod_int Tryd.underlying22 h1
  obtain ⟨x2, e2, _, w2⟩ := DataW.trod_int Tryd.underlying22 h2
  obtain ⟨x3, e3, _, w3⟩ := DataW.trod_int Tryd.underlying22 h3
  obtain ⟨a, rfl, ha⟩ := u64_nat w0
  obtain ⟨b, rfl, hb⟩ := u64_nat w1
  obtain ⟨c, rfl, hc⟩ := u64_nat w2
  obtain ⟨d, rfl, hd⟩ := u64_nat w3
  simp at e0 e1 e2 e3
  subst e0 e1 e2 e3
  have h1 := sv_of ha hb hc hd
  refine ⟨fun u => ofw a b c d u.toNat, ?_⟩
  have h2 : sv (ofw a b c d) = sv (lf fun u => ofw a b c d u.toNat) := sv_congr fun x hx => by
    unfold lf
    show _ = ofw a b c d (UInt8.ofNat x).toNat
    rw [UInt8.toNat_ofNat_of_lt' (by simpa using hx)]
  rw [h2, sv_lf] at h1
  simp only [Value.agg.injEq] at h1
  have h3 := congrArg Array.toList h1
  simpa using h3.symm
/-- Six cells that read as an expression. -/
theorem read_rx (N : Nat) : ∀ {fuel : Nat} {cs : List Value} {x : DataW H × List MemPlace}, SizeOf.sizeOf x.1 < N → cs.length = 6 → DataW.trod enc Tryd.prog w base sp held fuel 27 cs = some x → (∀ n ∈ x.1.weights Tryd.prog 27, n ≤ reachBytes) → ∃ r : Rx, RC (fun _ => True) w r cs := by
  induction N with
  | zero => intro _ _ x h; omega
  | succ N ih =>
  intro fuel cs x hN hl h hz
  obtain ⟨v0, v1, v2, v3, v4, v5, rfl⟩ : ∃ v0 v1 v2 v3 v4 v5, cs = [v0, v1, v2, v3, v4, v5] := by
    match cs, hl with
    | [v0, v1, v2, v3, v4, v5], _ => exact ⟨v0, v1, v2, v3, v4, v5, rfl⟩
  obtain ⟨y0, y1, y2, m, hx, _, g0, g1, g2⟩ := Go.Deep.trod_struct3 Tryd.underlying27 h
  simp [cells3] at g0
  simp [cells24] at g1
  simp [cells25] at g2
  obtain ⟨k, hk, _, _⟩ := DataW.trod_int Tryd.underlying3 g0
  obtain rfl : v0 = .int .i64 k := by simpa using hk
  obtain ⟨s, hs⟩ := read_set (by rfl) g1
  simp at hs
  obtain ⟨rfl, rfl, rfl, rfl⟩ := hs
  have hw2 : ∀ n ∈ y2.1.weights Tryd.prog 25, n ≤ reachBytes := fun n hn => hz n (by
    rw [hx]
    simp [DataW.weights, Tryd.underlying27, DataW.weightsEach]
    exact .inr (.inr hn))
  have hN2 : SizeOf.sizeOf y2.1 < N := by
    rw [hx] at hN
    simp at hN
    omega
  clear hz hN h g0 g1 hk hx
  rcases Go.Deep.open_slice Tryd.underlying25 g2 with ⟨hc, _⟩ | ⟨a, len, cap, m', n, D, Pl, hc', _, hlc, hm, hmm, hxe, hxx⟩
  · simp at hc
    subst hc
    exact ⟨.mk k s [], RC_mk.2 ⟨none, 0, 0, rfl, rfl, by decide, .inl rfl⟩⟩
  · simp at hc'
    subst hc'
    have hlm : len ≤ m' := by rw [hmm]; split <;> omega
    rw [cells27] at hxx
    have hlen : len < 140737488355328 := by
      have h1 : (len + (m' - len)) * Tryd.prog.bytesOf 27 ≤ reachBytes := hw2 _ (by
        rw [hxe]
        simp only [DataW.weights, Tryd.underlying25, List.mem_cons, List.length_map, List.length_range]
        exact .inl trivial)
      rw [bytes27] at h1
      unfold reachBytes at h1
      omega
    have each : ∀ i ∈ List.range len, ∃ q : Rx, ∃ cs', w.cells? base (a.add (i * 6)) 6 = some cs' ∧ RC (fun _ => True) w q cs' := fun i hi => by
      have hil := List.mem_range.1 hi
      obtain ⟨cs', h1, h2⟩ := hxx i (by omega)
      have hl6 : cs'.length = 6 := (World.cells?_some h1).2.1
      have hDm : D i ∈ (List.range len).map D := List.mem_map.2 ⟨i, hi, rfl⟩
      obtain ⟨q, hq⟩ := ih (x := (D i, Pl i)) (by
        have h3 := List.sizeOf_lt_of_mem hDm
        rw [hxe] at hN2
        simp at hN2
        simp
        omega) hl6 h2 (fun k hk => hw2 k (by
          rw [hxe]
          simp only [DataW.weights, Tryd.underlying25, List.mem_cons, List.mem_append]
          exact .inr (.inl (weightsAll_mem hDm _ hk))))
      exact ⟨q, cs', h1, hq⟩
    obtain ⟨l, hll, hl'⟩ := choose_list (List.range len) each
    have hlen' : l.length = len := by rw [hll, List.length_range]
    refine ⟨.mk k s l, RC_mk.2 ⟨some a, len, cap, rfl, hlen', hlen, ?_⟩⟩
    by_cases h0 : len = 0
    · exact .inl h0
    right
    obtain ⟨b, off, spot⟩ := a
    have get : ∀ i q, l[i]? = some q → ∃ cs', w.cells? base ((⟨b, off, spot⟩ : Addr).add (i * 6)) 6 = some cs' ∧ RC (fun _ => True) w q cs' := fun i q hi => by
      have hil := (List.getElem?_eq_some_iff.1 hi).1
      obtain ⟨q', h1, h2⟩ := hl' i i (by rw [List.getElem?_range (by omega)])
      rw [hi] at h1
      simp only [Option.some.injEq] at h1
      exact h1 ▸ h2
    obtain ⟨q0, hq0⟩ : ∃ q, l[0]? = some q := ⟨l[0]'(by omega), List.getElem?_eq_getElem _⟩
    obtain ⟨v0, hv0⟩ : ∃ v, w.cell? (⟨b, off, spot⟩ : Addr) = some v := by
      obtain ⟨cs', h1, _⟩ := get 0 q0 hq0
      obtain ⟨_, hl', hcell⟩ := World.cells?_some h1
      have h3 := hcell 0 (by omega)
      refine ⟨cs'[0]'(by omega), ?_⟩
      rw [Go.Deep.add_add, List.getElem?_eq_getElem (by omega)] at h3
      simpa [Addr.add] using h3
    obtain rfl : spot = none := World.cell?_spot hv0
    have hb : b < w.heap.size := World.block_lt_of_cell? w _ hv0
    refine ⟨b, off, rfl, trivial, hb, RK_of fun i q hi => ?_⟩
    obtain ⟨cs', h1, h2⟩ := get i q hi
    refine ⟨cs', fun j v hj => ?_, h2⟩
    obtain ⟨_, hl', hcell⟩ := World.cells?_some h1
    have hjl := (List.getElem?_eq_some_iff.1 hj).1
    have h3 := hcell j (by omega)
    rw [Go.Deep.add_add, add_at] at h3
    rw [show off + i * 6 + j = off + (i * 6 + j) by omega, ← hj]
    simpa using h3
set_option maxRecDepth 100000 in
theorem open_rx {r : Reach} {b0 : Nat} {v : Value} {d : DataW H} {p : List MemPlace} (hv : Value.okWide Tryd.prog w r b0 27 v) (h : DataW.Trod enc Tryd.prog w base sp held 27 v d p) (hz : ∀ n ∈ d.weights Tryd.prog 27, n ≤ reachBytes) :
    ∃ (q : Rx) (cs : List Value), v = .agg cs.toArray ∧ RC (fun _ => True) w q cs := by
  obtain ⟨cs, rfl, hsz⟩ := okWide_struct Tryd.underlying27 hv
  obtain ⟨fuel, hf⟩ := h
  obtain ⟨l⟩ := cs
  rw [cells27] at hsz
  obtain ⟨q, hq⟩ := read_rx (SizeOf.sizeOf d + 1) (cs := l) (x := (d, p)) (Nat.lt_succ_self _) (by simpa using hsz) hf hz
  exact ⟨q, l, rfl, hq⟩
set_option maxRecDepth 100000 in
theorem open_u8 {r : Reach} {b0 : Nat} {v : Value} {d : DataW H} {p : List MemPlace} (hv : Value.okWide Tryd.prog w r b0 5 v) (h : DataW.Trod enc Tryd.prog w base sp held 5 v d p) : ∃ n : Nat, v = .int .u8 (n : Int) ∧ n < 256 := by
  obtain ⟨x, rfl, _, _, w0⟩ := open_int Tryd.underlying5 hv h
  obtain ⟨a, rfl, ha⟩ := u8_nat w0
  exact ⟨a, rfl, ha⟩
end
end Go.Proofs.YtednoideboeehaaDoor
end
section
namespace Rg

def one (b : UInt8) : BS := fun x => x == b
def rng (lo hi : UInt8) : BS := fun x => decide (lo ≤ x) && decide (x ≤ hi)
def uni (s t : BS) : BS := fun x => s x || t x
def cpl (s : BS) : BS := fun x => !s x
def dot : BS := cpl (one 10)
def eps : Rx := .mk 2 none8 []
def setx (s : BS) : Rx := .mk 3 s []
def cat (l : List Rx) : Rx := .mk 4 none8 l
def alt (l : List Rx) : Rx := .mk 5 none8 l
def star (x : Rx) : Rx := .mk 6 none8 [x]

/-- What reading comes to: a result and the rest, or the place where the text goes wrong. -/
inductive Pr (α : Type) where
  | ok (x : α) (t : List UInt8)
  | bad (t : List UInt8)
def letter (b : UInt8) : Bool := (decide (48 ≤ b) && decide (b ≤ 57)) || ((decide (65 ≤ b) && decide (b ≤ 90)) || (decide (97 ≤ b) && decide (b ≤ 122)))
def prn (b : UInt8) : Bool := decide (32 ≤ b) && decide (b ≤ 126)
def spO : List UInt8 := [40, 41, 91, 93, 124, 42, 43, 63, 46, 92]
def spI : List UInt8 := [93, 92, 45]
def skip (b : UInt8) : List UInt8 → Option (List UInt8)
  | [] => none
  | c :: t => if c = b then some t else none
def escd : List UInt8 → Pr UInt8
  | [] => .bad []
  | b :: t => if prn b = false then .bad (b :: t) else if b = 110 then .ok 10 t else if b = 116 then .ok 9 t else if letter b = true then .bad (b :: t) else .ok b t
def chr (sp : List UInt8) : List UInt8 → Pr UInt8
  | [] => .bad []
  | b :: t => if b = 92 then escd t else if prn b = false then .bad (b :: t) else if sp.contains b = true then .bad (b :: t) else .ok b t
def elt (l : List UInt8) : Pr BS :=
  match chr spI l with
  | .bad t => .bad t
  | .ok lo t => match skip 45 t with
    | none => .ok (rng lo lo) t
    | some u => match chr spI u with
      | .bad v => .bad v
      | .ok hi v => if hi < lo then .bad u else .ok (rng lo hi) v
def brk : Nat → BS → List UInt8 → Pr BS
  | 0, _, _ => .bad []
  | n + 1, s, l => match skip 93 l with
    | some t => .ok s t
    | none => match elt l with
      | .bad t => .bad t
      | .ok s' t => brk n (uni s s') t
def elts (l : List UInt8) : Pr BS :=
  match elt l with
  | .bad t => .bad t
  | .ok s t => brk (t.length + 1) s t
def brackets (l : List UInt8) : Pr BS :=
  match skip 94 l with
  | none => elts l
  | some t => match elts t with
    | .bad u => .bad u
    | .ok s u => .ok (cpl s) u
def setM (l : List UInt8) : Pr BS :=
  match skip 91 l with
  | some t => brackets t
  | none => match skip 46 l with
    | some t => .ok dot t
    | none => match chr spO l with
      | .bad t => .bad t
      | .ok b t => .ok (one b) t
def post : Rx → List UInt8 → Rx × List UInt8
  | x, [] => (x, [])
  | x, b :: t => if b = 42 then post (star x) t else if b = 43 then post (cat [x, star x]) t else if b = 63 then post (alt [x, eps]) t else (x, b :: t)
/-- Whether a branch ends here. -/
def stop : List UInt8 → Bool
  | [] => true
  | b :: _ => b == 124 || b == 41
def br : List Rx → Rx
  | [] => eps
  | [x] => x
  | l => cat l
def al : List Rx → Rx
  | [x] => x
  | l => alt l
mutual
def pAtom : Nat → List UInt8 → Pr Rx
  | 0, _ => .bad []
  | n + 1, l => match skip 40 l with
    | some t => match pRegex n t with
      | .bad u => .bad u
      | .ok x u => match skip 41 u with
        | some v => .ok x v
        | none => .bad u
    | none => match setM l with
      | .bad t => .bad t
      | .ok s t => .ok (setx s) t
def pRepeat : Nat → List UInt8 → Pr Rx
  | 0, _ => .bad []
  | n + 1, l => match pAtom n l with
    | .bad t => .bad t
    | .ok x t => .ok (post x t).1 (post x t).2
def pReps : Nat → List Rx → List UInt8 → Pr (List Rx)
  | 0, _, _ => .bad []
  | n + 1, acc, l => if stop l = true then .ok acc l else match pRepeat n l with
    | .bad t => .bad t
    | .ok x t => pReps n (acc ++ [x]) t
def pRegex : Nat → List UInt8 → Pr Rx
  | 0, _ => .bad []
  | n + 1, l => match pReps n [] l with
    | .bad t => .bad t
    | .ok xs t => pAlts n [br xs] t
def pAlts : Nat → List Rx → List UInt8 → Pr Rx
  | 0, _, _ => .bad []
  | n + 1, acc, l => match skip 124 l with
    | none => .ok (al acc) l
    | some t => match pReps n [] t with
      | .bad u => .bad u
      | .ok xs u => pAlts n (acc ++ [br xs]) u
end

/-! Lengths. -/
theorem skip_some {b : UInt8} {l t : List UInt8} (h : skip b l = some t) : l = b :: t := by
  cases l with
  | nil => cases h
  | cons c l =>
    rw [skip] at h
    split at h
    · rename_i e; simp at h; rw [e, h]
    · cases h
theorem skip_none {b : UInt8} {l : List UInt8} (h : skip b l = none) : ∀ t, l ≠ b :: t := by
  rintro t rfl
  simp [skip] at h
theorem skip_cons (b : UInt8) (t : List UInt8) : skip b (b :: t) = some t := by simp [skip]
theorem skip_nil (b : UInt8) : skip b [] = none := rfl
theorem skip_ne {b c : UInt8} (t : List UInt8) (h : c ≠ b) : skip b (c :: t) = none := by simp [skip, h]
theorem escd_len {l t : List UInt8} {b : UInt8} (h : escd l = .ok b t) : t.length < l.length := by
  cases l with
  | nil => cases h
  | cons c l =>
    rw [escd] at h
    split at h; · cases h
    split at h; · injection h with _ h; subst h; simp
    split at h; · injection h with _ h; subst h; simp
    split at h; · cases h
    · injection h with _ h; subst h; simp
theorem chr_len {sp l t : List UInt8} {b : UInt8} (h : chr sp l = .ok b t) : t.length < l.length := by
  cases l with
  | nil => cases h
  | cons c l =>
    rw [chr] at h
    split at h; · have := escd_len h; simp; omega
    split at h; · cases h
    split at h; · cases h
    · injection h with _ h; subst h; simp
theorem elt_len {l t : List UInt8} {s : BS} (h : elt l = .ok s t) : t.length < l.length := by
  unfold elt at h
  cases h1 : chr spI l with
  | bad u => rw [h1] at h; cases h
  | ok lo u =>
    rw [h1] at h
    have q1 := chr_len h1
    simp only at h
    cases h2 : skip 45 u with
    | none => rw [h2] at h; injection h with _ h; subst h; exact q1
    | some v =>
      rw [h2] at h
      have h3 := skip_some h2
      simp only at h
      cases h4 : chr spI v with
      | bad x => rw [h4] at h; cases h
      | ok hi x =>
        rw [h4] at h
        have q2 := chr_len h4
        simp only at h
        split at h
        · cases h
        · injection h with _ h; subst h; rw [h3] at q1; simp at q1; omega
theorem brk_len : ∀ {n : Nat} {s s' : BS} {l t : List UInt8}, brk n s l = .ok s' t → t.length < l.length
  | 0, _, _, _, _, h => by cases h
  | n + 1, s, s', l, t, h => by
    rw [brk] at h
    cases h1 : skip 93 l with
    | some u => rw [h1] at h; injection h with _ h; subst h; rw [skip_some h1]; simp
    | none =>
      rw [h1] at h
      simp only at h
      cases h2 : elt l with
      | bad u => rw [h2] at h; cases h
      | ok s2 u =>
        rw [h2] at h
        have := elt_len h2
        have := brk_len h
        omega
theorem elts_len {l t : List UInt8} {s : BS} (h : elts l = .ok s t) : t.length < l.length := by
  unfold elts at h
  cases h1 : elt l with
  | bad u => rw [h1] at h; cases h
  | ok s1 u =>
    rw [h1] at h
    have := elt_len h1
    have := brk_len h
    omega
theorem brackets_len {l t : List UInt8} {s : BS} (h : brackets l = .ok s t) : t.length < l.length := by
  unfold brackets at h
  cases h1 : skip 94 l with
  | none => rw [h1] at h; exact elts_len h
  | some u =>
    rw [h1] at h
    have h2 := skip_some h1
    simp only at h
    cases h3 : elts u with
    | bad v => rw [h3] at h; cases h
    | ok s1 v =>
      rw [h3] at h
      have := elts_len h3
      injection h with _ h; subst h
      rw [h2]; simp; omega
theorem setM_len {l t : List UInt8} {s : BS} (h : setM l = .ok s t) : t.length < l.length := by
  unfold setM at h
  cases h1 : skip 91 l with
  | some u => rw [h1] at h; have := brackets_len h; rw [skip_some h1]; simp; omega
  | none =>
    rw [h1] at h
    simp only at h
    cases h2 : skip 46 l with
    | some u => rw [h2] at h; injection h with _ h; subst h; rw [skip_some h2]; simp
    | none =>
      rw [h2] at h
      simp only at h
      cases h3 : chr spO l with
      | bad u => rw [h3] at h; cases h
      | ok b u => rw [h3] at h; injection h with _ h; subst h; exact chr_len h3
theorem post_len : ∀ (l : List UInt8) (x : Rx), (post x l).2.length ≤ l.length
  | [], x => by simp [post]
  | b :: t, x => by
    rw [post]
    split; · have := post_len t (star x); simp; omega
    split; · have := post_len t (cat [x, star x]); simp; omega
    split; · have := post_len t (alt [x, eps]); simp; omega
    · simp
theorem p_len : ∀ n : Nat, (∀ {l t : List UInt8} {x : Rx}, pAtom n l = .ok x t → t.length < l.length) ∧ (∀ {l t : List UInt8} {x : Rx}, pRepeat n l = .ok x t → t.length < l.length) ∧
    (∀ {a xs : List Rx} {l t : List UInt8}, pReps n a l = .ok xs t → t.length ≤ l.length) ∧ (∀ {l t : List UInt8} {x : Rx}, pRegex n l = .ok x t → t.length ≤ l.length) ∧
    (∀ {a : List Rx} {x : Rx} {l t : List UInt8}, pAlts n a l = .ok x t → t.length ≤ l.length)
  | 0 => ⟨fun h => by simp [pAtom] at h, fun h => by simp [pRepeat] at h, fun h => by simp [pReps] at h, fun h => by simp [pRegex] at h, fun h => by simp [pAlts] at h⟩
  | n + 1 => by
    obtain ⟨i1, i2, i3, i4, i5⟩ := p_len n
    refine ⟨fun {l t x} h => ?_, fun {l t x} h => ?_, fun {a xs l t} h => ?_, fun {l t x} h => ?_, fun {a x l t} h => ?_⟩
    · rw [pAtom] at h
      cases h1 : skip 40 l with
      | some u =>
        rw [h1] at h
        have h1 := skip_some h1
        simp only at h
        cases h2 : pRegex n u with
        | bad v => rw [h2] at h; cases h
        | ok y v =>
          rw [h2] at h
          have := i4 h2
          simp only at h
          cases h3 : skip 41 v with
          | none => rw [h3] at h; cases h
          | some z =>
            rw [h3] at h
            have h3 := skip_some h3
            injection h with _ h
            subst h
            rw [h1]
            rw [h3] at this
            simp at this ⊢
            omega
      | none =>
        rw [h1] at h
        simp only at h
        cases h2 : setM l with
        | bad u => rw [h2] at h; cases h
        | ok s u => rw [h2] at h; injection h with _ h; subst h; exact setM_len h2
    · rw [pRepeat] at h
      cases h1 : pAtom n l with
      | bad u => rw [h1] at h; cases h
      | ok y u =>
        rw [h1] at h
        have := i1 h1
        have := post_len u y
        injection h with _ h
        subst h
        omega
    · rw [pReps] at h
      split at h
      · injection h with _ h; subst h; exact Nat.le_refl _
      · cases h1 : pRepeat n l with
        | bad u => rw [h1] at h; cases h
        | ok y u =>
          rw [h1] at h
          have := i2 h1
          have := i3 h
          omega
    · rw [pRegex] at h
      cases h1 : pReps n [] l with
      | bad u => rw [h1] at h; cases h
      | ok xs u =>
        rw [h1] at h
        have := i3 h1
        have := i5 h
        omega
    · rw [pAlts] at h
      cases h1 : skip 124 l with
      | none => rw [h1] at h; injection h with _ h; subst h; exact Nat.le_refl _
      | some u =>
        rw [h1] at h
        have h1 := skip_some h1
        simp only at h
        cases h2 : pReps n [] u with
        | bad v => rw [h2] at h; cases h
        | ok xs v =>
          rw [h2] at h
          have := i3 h2
          have := i5 h
          rw [h1]; simp; omega
end Rg
end
section
namespace Go.Proofs
open Go.Shelf
def Tryd.lays169_ren : Go.Shelf.Ren := ⟨fun | 169 => 41 | n => n, fun | 70 => 60 | 9 => 9 | 0 => 0 | 72 => 62 | 37 => 39 | 127 => 91 | 3 => 3 | 5 => 5 | n => n, fun | n => n⟩
theorem Tryd.lays169 : Go.Proofs.Lays.n169 Tryd.prog Tryd.lays169_ren := {
  mixed := by kernel_rfl
  f169 := Tryd.func41.trans (congrArg some (by kernel_rfl))
  t0 := Tryd.underlying0
  a0 := Tryd.isAgg0
  z0 := Tryd.sizeOf0
  v0 := Tryd.zeroValue0
  t3 := Tryd.underlying3
  a3 := Tryd.isAgg3
  z3 := Tryd.sizeOf3
  v3 := Tryd.zeroValue3
  t9 := Tryd.underlying9
  a9 := Tryd.isAgg9
  z9 := Tryd.sizeOf9
  v9 := Tryd.zeroValue9
  t37 := Tryd.underlying39
  a37 := Tryd.isAgg39
  z37 := Tryd.sizeOf39
  v37 := Tryd.zeroValue39
  t70 := Tryd.underlying60
  a70 := Tryd.isAgg60
  z70 := Tryd.sizeOf60
  v70 := Tryd.zeroValue60
  t72 := Tryd.underlying62
  a72 := Tryd.isAgg62
  z72 := Tryd.sizeOf62
  v72 := Tryd.zeroValue62
  t127 := Tryd.underlying91
  a127 := Tryd.isAgg91
  z127 := Tryd.sizeOf91
  v127 := Tryd.zeroValue91 }
theorem Tryd.Builder_Extra_169 : Builder.Extra Tryd.prog Tryd.lays169_ren := {
  sizeBuilder := by kernel_rfl
  liesBuilder := by kernel_rfl
  t5 := Tryd.underlying5
  a5 := Tryd.isAgg5
  z5 := Tryd.sizeOf5
  v5 := Tryd.zeroValue5
  infoByte := by kernel_rfl
  cellsByte := by kernel_rfl
  sizeByte := by kernel_rfl
  neB5 := by decide }
open Go.RowKit in
theorem Tryd.Builder_String (B b : Nat) (l : List UInt8) (w : World) (h : Lib.IsBuilder 62 5 B b (Lib.byteCells l) w) (h0 : l ≠ []) :
    Calls Tryd.prog 41 #[.pointer (some ⟨b, 0, none⟩)] w fun e w' => e = .returned (.string ⟨l.toArray⟩) ∧ Below B w w' := Any.Builder_String Tryd.lays169 Tryd.Builder_Extra_169 B b l w h h0
open Go.RowKit in
theorem Tryd.Builder_String_empty (B b : Nat) (w : World) (h : Lib.IsBuilder 62 5 B b [] w) (hBw : B ≤ w.heap.size) :
    Calls Tryd.prog 41 #[.pointer (some ⟨b, 0, none⟩)] w fun e w' => e = .returned (.string ⟨#[]⟩) ∧ Below B w w' := Any.Builder_String_empty Tryd.lays169 Tryd.Builder_Extra_169 B b w h hBw
open Go.RowKit in
theorem Tryd.Builder_String_any (B b : Nat) (l : List UInt8) (w : World) (h : Lib.IsBuilder 62 5 B b (Lib.byteCells l) w) (hBw : B ≤ w.heap.size) :
    Calls Tryd.prog 41 #[.pointer (some ⟨b, 0, none⟩)] w fun e w' => e = .returned (.string ⟨l.toArray⟩) ∧ Below B w w' := Any.Builder_String_any Tryd.lays169 Tryd.Builder_Extra_169 B b l w h hBw
def Tryd.lays137_ren : Go.Shelf.Ren := ⟨fun | 137 => 102 | 217 => 111 | 266 => 116 | n => n, fun | 9 => 9 | 5 => 5 | 3 => 3 | n => n, fun | n => n⟩
theorem Tryd.lays137 : Go.Proofs.Lays.n137 Tryd.prog Tryd.lays137_ren := {
  mixed := by kernel_rfl
  f137 := Tryd.func102.trans (congrArg some (by kernel_rfl))
  f217 := Tryd.func111.trans (congrArg some (by kernel_rfl))
  f266 := Tryd.func116.trans (congrArg some (by kernel_rfl))
  t3 := Tryd.underlying3
  a3 := Tryd.isAgg3
  z3 := Tryd.sizeOf3
  v3 := Tryd.zeroValue3
  t5 := Tryd.underlying5
  a5 := Tryd.isAgg5
  z5 := Tryd.sizeOf5
  v5 := Tryd.zeroValue5
  t9 := Tryd.underlying9
  a9 := Tryd.isAgg9
  z9 := Tryd.sizeOf9
  v9 := Tryd.zeroValue9 }
open Go.RowKit in
theorem Tryd.strings_IndexByte (s : ByteArray) (c : Int) (w : World) :
    Calls Tryd.prog 102 #[.string s, .int .u8 c] w fun e w' => e = .returned (.int .i64 (Lib.indexByte s.data.toList c.toNat.toUInt8)) ∧ w' = w := Any.strings_IndexByte Tryd.lays137 s c w
open Go.RowKit in
theorem Tryd.Builder_String_f (B b : Nat) (l : List UInt8) (w : World) (h : Lib.IsBuilderF 62 5 B b (Lib.byteCells l) w) (h0 : l ≠ []) :
    Calls Tryd.prog 41 #[.pointer (some ⟨b, 0, none⟩)] w fun e w' => e = .returned (.string ⟨l.toArray⟩) ∧ (Lib.IsBuilderF 62 5 B b (Lib.byteCells l) w' ∧ Below B w w') := Any.Builder_String_f Tryd.lays169 Tryd.Builder_Extra_169 B b l w h h0
open Go.RowKit in
theorem Tryd.Builder_String_empty_f (B b : Nat) (w : World) (h : Lib.IsBuilderF 62 5 B b [] w) (hBw : B ≤ w.heap.size) :
    Calls Tryd.prog 41 #[.pointer (some ⟨b, 0, none⟩)] w fun e w' => e = .returned (.string ⟨#[]⟩) ∧ (Lib.IsBuilderF 62 5 B b [] w' ∧ Below B w w') := Any.Builder_String_empty_f Tryd.lays169 Tryd.Builder_Extra_169 B b w h hBw
open Go.RowKit in
theorem Tryd.Builder_String_any_f (B b : Nat) (l : List UInt8) (w : World) (h : Lib.IsBuilderF 62 5 B b (Lib.byteCells l) w) (hBw : B ≤ w.heap.size) :
    Calls Tryd.prog 41 #[.pointer (some ⟨b, 0, none⟩)] w fun e w' => e = .returned (.string ⟨l.toArray⟩) ∧ (Lib.IsBuilderF 62 5 B b (Lib.byteCells l) w' ∧ Below B w w') := Any.Builder_String_any_f Tryd.lays169 Tryd.Builder_Extra_169 B b l w h hBw
open Go.RowKit in
theorem Tryd.Builder_String_k (B b : Nat) (l : List UInt8) (w : World) (h : Lib.IsBuilderF 62 5 B b (Lib.byteCells l) w) (h0 : l ≠ []) :
    Calls Tryd.prog 41 #[.pointer (some ⟨b, 0, none⟩)] w fun e w' => e = .returned (.string ⟨l.toArray⟩) ∧ (Lib.IsBuilderF 62 5 B b (Lib.byteCells l) w' ∧ Below B w w' ∧ Lib.OthersKept 5 (some b) w w') := Any.Builder_String_k Tryd.lays169 Tryd.Builder_Extra_169 B b l w h h0
open Go.RowKit in
theorem Tryd.Builder_String_empty_k (B b : Nat) (w : World) (h : Lib.IsBuilderF 62 5 B b [] w) (hBw : B ≤ w.heap.size) :
    Calls Tryd.prog 41 #[.pointer (some ⟨b, 0, none⟩)] w fun e w' => e = .returned (.string ⟨#[]⟩) ∧ (Lib.IsBuilderF 62 5 B b [] w' ∧ Below B w w' ∧ Lib.OthersKept 5 (some b) w w') := Any.Builder_String_empty_k Tryd.lays169 Tryd.Builder_Extra_169 B b w h hBw
open Go.RowKit in
theorem Tryd.Builder_String_any_k (B b : Nat) (l : List UInt8) (w : World) (h : Lib.IsBuilderF 62 5 B b (Lib.byteCells l) w) (hBw : B ≤ w.heap.size) :
    Calls Tryd.prog 41 #[.pointer (some ⟨b, 0, none⟩)] w fun e w' => e = .returned (.string ⟨l.toArray⟩) ∧ (Lib.IsBuilderF 62 5 B b (Lib.byteCells l) w' ∧ Below B w w' ∧ Lib.OthersKept 5 (some b) w w') := Any.Builder_String_any_k Tryd.lays169 Tryd.Builder_Extra_169 B b l w h hBw
def Tryd.lays217_ren : Go.Shelf.Ren := ⟨fun | 217 => 111 | 266 => 116 | n => n, fun | 9 => 9 | 5 => 5 | 3 => 3 | n => n, fun | n => n⟩
theorem Tryd.lays217 : Go.Proofs.Lays.n217 Tryd.prog Tryd.lays217_ren := {
  mixed := by kernel_rfl
  f217 := Tryd.func111.trans (congrArg some (by kernel_rfl))
  f266 := Tryd.func116.trans (congrArg some (by kernel_rfl))
  t3 := Tryd.underlying3
  a3 := Tryd.isAgg3
  z3 := Tryd.sizeOf3
  v3 := Tryd.zeroValue3
  t5 := Tryd.underlying5
  a5 := Tryd.isAgg5
  z5 := Tryd.sizeOf5
  v5 := Tryd.zeroValue5
  t9 := Tryd.underlying9
  a9 := Tryd.isAgg9
  z9 := Tryd.sizeOf9
  v9 := Tryd.zeroValue9 }
open Go.RowKit Go.Lib in
theorem Tryd.stringslite_IndexByte (s : ByteArray) (c : Int) (w : World) :
    Calls Tryd.prog 111 #[.string s, .int .u8 c] w fun e w' => e = .returned (.int .i64 (Lib.indexByte s.data.toList c.toNat.toUInt8)) ∧ w' = w := Any.stringslite_IndexByte Tryd.lays217 s c w
def Tryd.lays166_ren : Go.Shelf.Ren := ⟨fun | 166 => 60 | 240 => 80 | 276 => 98 | n => n, fun | 70 => 60 | 3 => 3 | 0 => 0 | 4 => 4 | 9 => 9 | 20 => 20 | 72 => 62 | 37 => 39 | 164 => 123 | 5 => 5 | 75 => 85 | 80 => 64 | n => n, fun | n => n⟩
theorem Tryd.lays166 : Go.Proofs.Lays.n166 Tryd.prog Tryd.lays166_ren := {
  mixed := by kernel_rfl
  f166 := Tryd.func60.trans (congrArg some (by kernel_rfl))
  f240 := Tryd.func80.trans (congrArg some (by kernel_rfl))
  f276 := Tryd.func98.trans (congrArg some (by kernel_rfl))
  t0 := Tryd.underlying0
  a0 := Tryd.isAgg0
  z0 := Tryd.sizeOf0
  v0 := Tryd.zeroValue0
  t3 := Tryd.underlying3
  a3 := Tryd.isAgg3
  z3 := Tryd.sizeOf3
  v3 := Tryd.zeroValue3
  t4 := Tryd.underlying4
  a4 := Tryd.isAgg4
  z4 := Tryd.sizeOf4
  v4 := Tryd.zeroValue4
  t9 := Tryd.underlying9
  a9 := Tryd.isAgg9
  z9 := Tryd.sizeOf9
  v9 := Tryd.zeroValue9
  t20 := Tryd.underlying20
  a20 := Tryd.isAgg20
  z20 := Tryd.sizeOf20
  v20 := Tryd.zeroValue20
  t37 := Tryd.underlying39
  a37 := Tryd.isAgg39
  z37 := Tryd.sizeOf39
  v37 := Tryd.zeroValue39
  t70 := Tryd.underlying60
  a70 := Tryd.isAgg60
  z70 := Tryd.sizeOf60
  v70 := Tryd.zeroValue60
  t72 := Tryd.underlying62
  a72 := Tryd.isAgg62
  z72 := Tryd.sizeOf62
  v72 := Tryd.zeroValue62
  t75 := Tryd.underlying85
  a75 := Tryd.isAgg85
  z75 := Tryd.sizeOf85
  v75 := Tryd.zeroValue85
  t164 := Tryd.underlying123
  a164 := Tryd.isAgg123
  z164 := Tryd.sizeOf123
  v164 := Tryd.zeroValue123 }
theorem Tryd.Builder_Extra_166 : Builder.Extra Tryd.prog Tryd.lays166_ren := {
  sizeBuilder := by kernel_rfl
  liesBuilder := by kernel_rfl
  t5 := Tryd.underlying5
  a5 := Tryd.isAgg5
  z5 := Tryd.sizeOf5
  v5 := Tryd.zeroValue5
  infoByte := by kernel_rfl
  cellsByte := by kernel_rfl
  sizeByte := by kernel_rfl
  neB5 := by decide }
open Go.RowKit in
theorem Tryd.Builder_WriteString_k (B b : Nat) (bs : List Value) (s : ByteArray) (w : World) (h : Lib.IsBuilderF 62 5 B b bs w) (hlen : bs.length + s.size ≤ 140737488355328) (hBw : B ≤ w.heap.size) :
    Calls Tryd.prog 60 #[.pointer (some ⟨b, 0, none⟩), .string s] w fun e w' => e = .returned (.tuple #[.int .i64 s.size, .nilIface]) ∧ (Lib.BuilderAtF 62 5 B b (.pointer (some ⟨b, 0, none⟩)) (bs ++ Lib.strCells s) w' ∧ Below B w w' ∧ Lib.OthersKept 5 (some b) w w') :=
  Any.Builder_WriteString_k Tryd.lays166 Tryd.Builder_Extra_166 B b bs s w h hlen hBw
def Tryd.lays167_ren : Go.Shelf.Ren := ⟨fun | 167 => 63 | 240 => 80 | 276 => 98 | n => n, fun | 70 => 60 | 3 => 3 | 0 => 0 | 4 => 4 | 9 => 9 | 20 => 20 | 72 => 62 | 37 => 39 | 164 => 123 | 5 => 5 | 75 => 85 | 80 => 64 | n => n, fun | n => n⟩
theorem Tryd.lays167 : Go.Proofs.Lays.n167 Tryd.prog Tryd.lays167_ren := {
  mixed := by kernel_rfl
  f167 := Tryd.func63.trans (congrArg some (by kernel_rfl))
  f240 := Tryd.func80.trans (congrArg some (by kernel_rfl))
  f276 := Tryd.func98.trans (congrArg some (by kernel_rfl))
  t0 := Tryd.underlying0
  a0 := Tryd.isAgg0
  z0 := Tryd.sizeOf0
  v0 := Tryd.zeroValue0
  t4 := Tryd.underlying4
  a4 := Tryd.isAgg4
  z4 := Tryd.sizeOf4
  v4 := Tryd.zeroValue4
  t5 := Tryd.underlying5
  a5 := Tryd.isAgg5
  z5 := Tryd.sizeOf5
  v5 := Tryd.zeroValue5
  t9 := Tryd.underlying9
  a9 := Tryd.isAgg9
  z9 := Tryd.sizeOf9
  v9 := Tryd.zeroValue9
  t20 := Tryd.underlying20
  a20 := Tryd.isAgg20
  z20 := Tryd.sizeOf20
  v20 := Tryd.zeroValue20
  t37 := Tryd.underlying39
  a37 := Tryd.isAgg39
  z37 := Tryd.sizeOf39
  v37 := Tryd.zeroValue39
  t70 := Tryd.underlying60
  a70 := Tryd.isAgg60
  z70 := Tryd.sizeOf60
  v70 := Tryd.zeroValue60
  t72 := Tryd.underlying62
  a72 := Tryd.isAgg62
  z72 := Tryd.sizeOf62
  v72 := Tryd.zeroValue62
  t75 := Tryd.underlying85
  a75 := Tryd.isAgg85
  z75 := Tryd.sizeOf85
  v75 := Tryd.zeroValue85
  t164 := Tryd.underlying123
  a164 := Tryd.isAgg123
  z164 := Tryd.sizeOf123
  v164 := Tryd.zeroValue123 }
theorem Tryd.Builder_Extra_167 : Builder.Extra Tryd.prog Tryd.lays167_ren := {
  sizeBuilder := by kernel_rfl
  liesBuilder := by kernel_rfl
  t5 := Tryd.underlying5
  a5 := Tryd.isAgg5
  z5 := Tryd.sizeOf5
  v5 := Tryd.zeroValue5
  infoByte := by kernel_rfl
  cellsByte := by kernel_rfl
  sizeByte := by kernel_rfl
  neB5 := by decide }
open Go.RowKit in
theorem Tryd.Builder_WriteByte_k (B b : Nat) (bs : List Value) (c : Int) (w : World) (h : Lib.IsBuilderF 62 5 B b bs w) (hlen : bs.length + 1 ≤ 140737488355328) (hBw : B ≤ w.heap.size) :
    Calls Tryd.prog 63 #[.pointer (some ⟨b, 0, none⟩), .int .u8 c] w fun e w' => e = .returned .nilIface ∧ (Lib.BuilderAtF 62 5 B b (.pointer (some ⟨b, 0, none⟩)) (bs ++ [.int .u8 c]) w' ∧ Below B w w' ∧ Lib.OthersKept 5 (some b) w w') :=
  Any.Builder_WriteByte_k Tryd.lays167 Tryd.Builder_Extra_167 B b bs c w h hlen hBw
end Go.Proofs
end
section
set_option linter.unusedSimpArgs false
set_option linter.unusedVariables false
namespace Go.Proofs.YtednoideboeehaaDoor
open Go.RowKit Bs Rg Go.Frame
attribute [local go_sem] eq_zero eq_set

/-- A call that may write to one block. -/
def Pk (pb : Nat) (w w' : World) : Prop := Kept (fun b => b = pb ∨ w.heap.size ≤ b) w w'
theorem Pk.refl (pb : Nat) (w : World) : Pk pb w w := Kept.refl _ w
theorem Pk.trans {pb : Nat} {a b c : World} (h : Pk pb a b) (k : Pk pb b c) : Pk pb a c := Kept.trans h (Kept.mono k fun x hx => hx.imp id fun h' => Nat.le_trans h.size h')
theorem Pk.of {pb : Nat} {w w' : World} (h : Below w.heap.size w w') : Pk pb w w' := Kept.below h fun b hb => .inr hb
theorem Pk.block {pb : Nat} {w w' : World} (h : Pk pb w w') {b : Nat} (hb : b ≠ pb) (hl : b < w.heap.size) : w'.heap[b]? = w.heap[b]? := Kept.block h b (by rintro (h | h); exact hb h; omega)
theorem Pk.size {pb : Nat} {w w' : World} (h : Pk pb w w') : w.heap.size ≤ w'.heap.size := Kept.size h
theorem Pk.put {pb j : Nat} {w w' : World} {v : Value} (h : Pk pb w w') : Pk pb w (w'.setCell ⟨pb, j, none⟩ v) := Kept.setCell h (.inl rfl) v
theorem Pk.toBelow {pb n : Nat} {a w w' : World} (h0 : Below n a w) (hn : n ≤ pb) (hs : n ≤ w.heap.size) (h : Pk pb w w') : Below n a w' :=
  h0.trans (Kept.toBelow h fun b hb => by rcases hb with rfl | hb <;> omega)
/-- The parser: its text, its place, the rest of the text. -/
structure PS (pb : Nat) (s : ByteArray) (W : World) (p : Nat) (l : List UInt8) : Prop where
  box : W.heap[pb]? = some (.cells #[.string s, .int .i64 (p : Int)] 47 (0, 0))
  rest : s.data.toList.drop p = l
  le : p ≤ s.size
  sz : s.size ≤ 1000000
theorem PS.below {pb : Nat} {s : ByteArray} {W W' : World} {p : Nat} {l : List UInt8} (h : PS pb s W p l) (hb : Below W.heap.size W W') : PS pb s W' p l := ⟨(hb.block _ (heap_lt h.box)).trans h.box, h.rest, h.le, h.sz⟩
theorem PS.len {pb : Nat} {s : ByteArray} {W : World} {p : Nat} {l : List UInt8} (h : PS pb s W p l) : l.length = s.size - p := by
  rw [← h.rest, List.length_drop]; rfl
theorem PS.cells {pb : Nat} {s : ByteArray} {W : World} {p : Nat} {l : List UInt8} (h : PS pb s W p l) : W.cell? ⟨pb, 0, none⟩ = some (.string s) ∧ W.cell? ⟨pb, 1, none⟩ = some (.int .i64 (p : Int)) := cells2 h.box
theorem PS.head {pb : Nat} {s : ByteArray} {W : World} {p : Nat} {b : UInt8} {t : List UInt8} (h : PS pb s W p (b :: t)) : ∃ hp : p < s.size, s[p] = b := by
  have h1 := h.len
  simp at h1
  have hp : p < s.size := by omega
  refine ⟨hp, ?_⟩
  have h2 := congrArg (fun l => l[0]?) h.rest
  simp at h2
  have h3 : s.data[p]? = some s[p] := Array.getElem?_eq_getElem hp
  rw [h3] at h2
  exact Option.some.inj h2
theorem PS.done {pb : Nat} {s : ByteArray} {W : World} {p : Nat} (h : PS pb s W p []) : p = s.size := by
  have h1 := h.len; have h2 := h.le; simp at h1; omega
theorem drop_tail {l : List UInt8} {p : Nat} {b : UInt8} {t : List UInt8} (h : l.drop p = b :: t) : l.drop (p + 1) = t := by
  rw [← List.drop_drop, h]; rfl
theorem PS.next {pb : Nat} {s : ByteArray} {W : World} {p : Nat} {b : UInt8} {t : List UInt8} (h : PS pb s W p (b :: t)) : PS pb s (W.setCell ⟨pb, 1, none⟩ (.int .i64 ((p + 1 : Nat) : Int))) (p + 1) t := by
  obtain ⟨hp, _⟩ := h.head
  exact ⟨blk_put h.box, drop_tail h.rest, hp, h.sz⟩
abbrev pmsg : Value := .iface 9 (.string { data := #[109, 97, 108, 102, 111, 114, 109, 101, 100, 32, 114, 101, 103, 101, 120] })
/-- What a reading function comes to. -/
def Out {α : Type} (pb : Nat) (s : ByteArray) (w : World) (r : Pr α) (val : α → World → Value → Prop) (e : Ending) (w' : World) : Prop :=
  Pk pb w w' ∧ match r with
  | .ok x t => (∃ v, e = .returned v ∧ val x w' v) ∧ ∃ p', PS pb s w' p' t
  | .bad t => e = .panicked [{ v := pmsg, recovered := false }] ∧ ∃ p', PS pb s w' p' t
theorem out_ok {α : Type} {pb : Nat} {s : ByteArray} {w : World} {x : α} {t : List UInt8} {val : α → World → Value → Prop} {e : Ending} {w' : World} : Out pb s w (.ok x t) val e w' ↔ Pk pb w w' ∧ (∃ v, e = .returned v ∧ val x w' v) ∧ ∃ p', PS pb s w' p' t := Iff.rfl
theorem out_bad {α : Type} {pb : Nat} {s : ByteArray} {w : World} {t : List UInt8} {val : α → World → Value → Prop} {e : Ending} {w' : World} : Out pb s w (.bad t : Pr α) val e w' ↔ Pk pb w w' ∧ e = .panicked [{ v := pmsg, recovered := false }] ∧ ∃ p', PS pb s w' p' t := Iff.rfl
def u8v (b : UInt8) (_ : World) (v : Value) : Prop := v = .int .u8 (b.toNat : Int)
def prnM : List UInt8 → Pr UInt8
  | [] => .bad []
  | b :: t => if prn b = true then .ok b (b :: t) else .bad (b :: t)
def ahd (b : UInt8) : List UInt8 → Bool
  | [] => false
  | c :: _ => c == b
theorem skip_ahd (b : UInt8) (l : List UInt8) : (skip b l).isSome = ahd b l := by
  cases l with
  | nil => rfl
  | cons c t => by_cases h : c = b <;> simp [skip, ahd, h]

set_option maxRecDepth 100000 in
set_option maxHeartbeats 4000000 in
theorem fail_any (pb : Nat) (w : World) :
    Calls Tryd.prog 33 #[.pointer (some ⟨pb, 0, none⟩)] w fun e w' => e = .panicked [{ v := pmsg, recovered := false }] ∧ w' = w := by
  go_enter Tryd.func33, Tryd.ntmps33
  go_wp2
  exact ⟨rfl, rfl, rfl⟩

set_option maxRecDepth 100000 in
set_option maxHeartbeats 4000000 in
theorem ahead_any (pb : Nat) (s : ByteArray) (p : Nat) (l : List UInt8) (b : UInt8) (w : World) (h : PS pb s w p l) :
    Calls Tryd.prog 74 #[.pointer (some ⟨pb, 0, none⟩), .int .u8 (b.toNat : Int)] w fun e w' => e = .returned (.bool (ahd b l)) ∧ Below w.heap.size w w' := by
  obtain ⟨c0, c1⟩ := h.cells
  cases l with
  | nil =>
    have hp := h.done
    have n1 : decide ((p : Int) < (s.size : Int)) = false := by simp; omega
    have n2 : decide (p < s.size) = false := by simp; omega
    have n3 : ¬ p < s.size := by omega
    clear h hp
    go_enter Tryd.func74, Tryd.ntmps74
    go_wp2_with fail
    go_quiet (fail)
    go_wp2
    go_ret
    exact ⟨rfl, below_drewN (Below.refl _ _) _⟩
  | cons c t =>
    obtain ⟨hp, hc⟩ := h.head
    have hp' : (p : Int) < (s.size : Int) := by omega
    have n1 : decide ((p : Int) < (s.size : Int)) = true := by simp; omega
    have n2 : decide (p < s.size) = true := by simp; omega
    have hc' : s[p].toNat = c.toNat := by rw [hc]
    by_cases e : c = b
    · subst e
      have q : ahd c (c :: t) = true := by simp [ahd]
      rw [q]
      clear h q hc
      go_enter Tryd.func74, Tryd.ntmps74
      go_wp2_with fail
      go_quiet (fail)
      go_wp2
      go_ret
      exact ⟨rfl, below_drewN (Below.refl _ _) _⟩
    · have q : ahd b (c :: t) = false := by simp [ahd, e]
      have hne : ¬ c.toNat = b.toNat := fun h => e (UInt8.toNat_inj.1 h)
      have hne' : ¬ (c.toNat : Int) = (b.toNat : Int) := by omega
      rw [q]
      clear h q hc
      go_enter Tryd.func74, Tryd.ntmps74
      go_wp2_with fail
      go_quiet (fail)
      go_wp2
      go_ret
      refine ⟨?_, below_drewN (Below.refl _ _) _⟩
      first | rfl | simp [hne, hne']

set_option maxRecDepth 100000 in
set_option maxHeartbeats 4000000 in
theorem skip_any (pb : Nat) (s : ByteArray) (p : Nat) (l : List UInt8) (b : UInt8) (w : World) (h : PS pb s w p l) :
    Calls Tryd.prog 53 #[.pointer (some ⟨pb, 0, none⟩), .int .u8 (b.toNat : Int)] w fun e w' => e = .returned (.bool (skip b l).isSome) ∧ Pk pb w w' ∧ ∃ p', PS pb s w' p' ((skip b l).getD l) := by
  have CA := hid (ahead_any pb s p l b w h)
  cases hs : skip b l with
  | none =>
    have ha : ahd b l = false := by rw [← skip_ahd, hs]; rfl
    have H := hid h
    clear h
    simp only [Option.isSome_none, Option.getD_none]
    go_enter Tryd.func53, Tryd.ntmps53
    go_wp2_with fail
    refine CA.out.mono ?_
    rintro e W ⟨rfl, b1⟩
    rw [ha]
    have B := hid b1
    clear b1
    go_wp2
    go_ret
    exact ⟨rfl, Pk.of B.out, p, H.out.below B.out⟩
  | some t =>
    have ha : ahd b l = true := by rw [← skip_ahd, hs]; rfl
    have e := skip_some hs
    subst e
    obtain ⟨hp, _⟩ := h.head
    have hsz := h.sz
    have e1 : IntKind.i64.wrap ((p : Int) + 1) = ((p + 1 : Nat) : Int) := by rw [wrapIn] <;> omega
    have H := hid h
    clear h
    simp only [Option.isSome_some, Option.getD_some]
    go_enter Tryd.func53, Tryd.ntmps53
    go_wp2_with fail
    refine CA.out.mono ?_
    rintro e W ⟨rfl, b1⟩
    rw [ha]
    have HW := H.out.below b1
    obtain ⟨c0, c1⟩ := HW.cells
    have f1 := free HW.box 1
    have B := hid (And.intro b1 HW)
    clear b1 HW
    go_wp2
    go_ret
    exact ⟨rfl, (Pk.of B.out.1).put, p + 1, by simpa using B.out.2.next⟩

set_option maxRecDepth 100000 in
set_option maxHeartbeats 4000000 in
theorem printing_any (pb : Nat) (s : ByteArray) (p : Nat) (l : List UInt8) (w : World) (h : PS pb s w p l) :
    Calls Tryd.prog 119 #[.pointer (some ⟨pb, 0, none⟩)] w fun e w' => Out pb s w (prnM l) u8v e w' := by
  obtain ⟨c0, c1⟩ := h.cells
  cases l with
  | nil =>
    have hp := h.done
    have n1 : ((p : Int) == (s.size : Int)) = true := by simp; omega
    have n2 : (p == s.size) = true := by simp; omega
    have n3 : (p : Int) = (s.size : Int) := by omega
    have H := hid h
    clear h
    have hb := fun n => below_drewN (Below.refl w.heap.size w) n
    simp only [prnM, out_bad]
    subst hp
    go_enter Tryd.func119, Tryd.ntmps119
    go_wp2_with fail
    go_quiet (fail)
    go_wp2_with (go_at_call 33; refine (fail_any pb _).mono ?_; rintro e W2 ⟨rfl, rfl⟩)
    exact ⟨rfl, Pk.of (hb _), rfl, _, H.out.below (hb _)⟩
  | cons c t =>
    obtain ⟨hp, hc⟩ := h.head
    have hp' : (p : Int) < (s.size : Int) := by omega
    have n0 : ((p : Int) == (s.size : Int)) = false := by simp; omega
    have n1 : ¬ (p : Int) = (s.size : Int) := by omega
    have n2 : ¬ p = s.size := by omega
    have hc' : s[p].toNat = c.toNat := by rw [hc]
    have hcl := c.toNat_lt
    have hb := fun n => below_drewN (Below.refl w.heap.size w) n
    have H := hid h
    by_cases h32 : c.toNat < 32
    · have q : prnM (c :: t) = .bad (c :: t) := by
        unfold prnM prn; simp [UInt8.le_iff_toNat_le]; omega
      simp only [q, out_bad]
      have d1 : (c.toNat : Int) < 32 := by omega
      clear h q hc
      go_enter Tryd.func119, Tryd.ntmps119
      go_wp2_with fail
      go_quiet (fail)
      go_wp2_with (go_at_call 33; refine (fail_any pb _).mono ?_; rintro e W2 ⟨rfl, rfl⟩)
      exact ⟨rfl, Pk.of (hb _), rfl, _, H.out.below (hb _)⟩
    · have d1 : ¬ (c.toNat : Int) < 32 := by omega
      by_cases h126 : 126 < c.toNat
      · have q : prnM (c :: t) = .bad (c :: t) := by
          unfold prnM prn; simp [UInt8.le_iff_toNat_le]; omega
        simp only [q, out_bad]
        have d2 : 126 < (c.toNat : Int) := by omega
        clear h q hc
        go_enter Tryd.func119, Tryd.ntmps119
        go_wp2_with fail
        go_quiet (fail)
        go_wp2_with (go_at_call 33; refine (fail_any pb _).mono ?_; rintro e W2 ⟨rfl, rfl⟩)
        exact ⟨rfl, Pk.of (hb _), rfl, _, H.out.below (hb _)⟩
      · have d2 : ¬ 126 < (c.toNat : Int) := by omega
        have q : prnM (c :: t) = .ok c (c :: t) := by
          unfold prnM prn; simp [UInt8.le_iff_toNat_le]; omega
        simp only [q, out_ok]
        clear h q hc
        have hb2 := fun n m => below_drewN (below_drewN (Below.refl w.heap.size w) n) m
        go_enter Tryd.func119, Tryd.ntmps119
        go_wp2_with fail
        go_quiet (fail)
        go_wp2
        go_quiet (fail)
        go_wp2
        go_ret
        exact ⟨Pk.of (hb2 _ _), ⟨_, rfl, rfl⟩, _, H.out.below (hb2 _ _)⟩

set_option maxRecDepth 100000 in
set_option maxHeartbeats 4000000 in
theorem isLetter_any (b : UInt8) (w : World) :
    Calls Tryd.prog 120 #[.int .u8 (b.toNat : Int)] w fun e w' => e = .returned (.bool (letter b)) ∧ w' = w := by
  have hl : letter b = ((decide ((48 : Int) ≤ b.toNat) && decide ((b.toNat : Int) ≤ 57)) || ((decide ((65 : Int) ≤ b.toNat) && decide ((b.toNat : Int) ≤ 90)) || (decide ((97 : Int) ≤ b.toNat) && decide ((b.toNat : Int) ≤ 122)))) := by
    unfold letter
    have k : ∀ x y : UInt8, decide (x ≤ y) = decide ((x.toNat : Int) ≤ (y.toNat : Int)) := fun x y => by
      rw [Bool.eq_iff_iff, decide_eq_true_eq, decide_eq_true_eq, UInt8.le_iff_toNat_le]; omega
    rw [k, k, k, k, k, k]
    rfl
  rw [hl]
  clear hl
  by_cases h1 : (48 : Int) ≤ b.toNat <;> by_cases h2 : (b.toNat : Int) ≤ 57 <;> by_cases h3 : (65 : Int) ≤ b.toNat <;> by_cases h4 : (b.toNat : Int) ≤ 90 <;> by_cases h5 : (97 : Int) ≤ b.toNat <;> by_cases h6 : (b.toNat : Int) ≤ 122
  all_goals try (exfalso; omega)
  all_goals
    go_enter Tryd.func120, Tryd.ntmps120
    go_wp2
    go_ret
    exact ⟨by first | rfl | simp [*], rfl⟩
end Go.Proofs.YtednoideboeehaaDoor
end
