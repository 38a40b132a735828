/-
  The arguments opened: expressions; the table out of what the row lists.
-/
import Derived.Test.YtogpnlkjcdedlaaDoorJe
import Derived.Test.YtogpnlkjcdedlaaDoorOp
import Derived.Test.YtogpnlkjcdedlaaDoorLa
import Derived.Test.YtogpnlkjcdedlaaDoorRows
import Derived.Test.YtogpnlkjcdedlaaDoorTie
import Derived.Test.YtogpnlkjcdedlaaDoorCards
import Derived.Lib.LaidTab
import Derived.Laws.IdiomArrays
import Derived.ShutString
import Derived.ProofKit
namespace Go.Proofs.YtogpnlkjcdedlaaDoor
open Go.RowKit Bs Rg Go.Frame Go.WideShapes Go.ChangeShapes Go.ChangeAt
attribute [local irreducible] nb cnt pc els cf fs

theorem own : ownKnob Tryd.prog.godebug = none := by kernel_rfl
theorem laidOut : laidOutB Tryd.prog = true := by kernel_rfl
theorem gTab : Tryd.prog.globalNamed "math/bits.deBruijn64tab" = some 0 := by kernel_rfl
theorem tTab : (Tryd.prog.globals[0]?).map (·.type) = some 117 := by kernel_rfl
theorem cells5 : Tryd.prog.cellsOf 5 = 1 := by kernel_rfl
theorem cells117 : Tryd.prog.cellsOf 117 = 64 := by kernel_rfl
theorem cells3 : Tryd.prog.cellsOf 3 = 1 := by kernel_rfl
theorem cells48 : Tryd.prog.cellsOf 48 = 4 := by kernel_rfl
theorem cells37 : Tryd.prog.cellsOf 37 = 1 := by kernel_rfl
theorem cells50 : Tryd.prog.cellsOf 50 = 6 := by kernel_rfl
theorem bytes50 : Tryd.prog.bytesOf 50 = 64 := by kernel_rfl

abbrev laidT : List (String × DataW Unit) := [("math/bits.deBruijn64tab", Rows.laid_math_bits_deBruijn64tab)]
theorem door_met (os : Os) (args : Array Value) : laidMetH Tryd.prog laidT ((World.doorLaid Tryd.prog 400 os).forCall (fun _ _ => 0) ⟨#[], args, []⟩).memory :=
  laidMetH_of_parts3 (fuel := 8) (laidMet_of_run' 8 (by kernel_rfl) (by kernel_rfl)) (by kernel_rfl) (by kernel_rfl)
theorem tb_of_laid {W : World} (h : laidMetH Tryd.prog laidT W) : Tb W := by
  rw [MakeChecks.laidMetH_plain _ _ _ (by kernel_rfl)] at h
  have ht : Lib.TabIs Tryd.prog W "math/bits.deBruijn64tab" .u8 (dbl.map fun (x : Nat) => (x : Int)) :=
    Lib.tabIs_of_head (rest := []) gTab tTab Tryd.underlying117 Tryd.underlying5 cells5 cells117 h
  have hc : ∀ i, i < 64 → W.cell? ⟨0, i, none⟩ = some (.int .u8 (db i : Int)) := fun i hi => by
    have := ht.cell gTab i (by simpa [dbl] using hi)
    rw [this]
    have e : (dbl.map fun (x : Nat) => (x : Int)).getD i 0 = (db i : Int) := by
      unfold db
      rw [List.getD_eq_getElem?_getD, List.getD_eq_getElem?_getD, List.getElem?_map]
      cases dbl[i]? <;> rfl
    rw [e]
  refine ⟨World.block_lt_of_cell? W _ (hc 0 (by decide)), hc⟩
theorem u64_nat {x : Int} (h : (Lit.int .u64 x : Lit).wf = true) : ∃ n : Nat, x = n ∧ n < 2 ^ 64 := by
  have := bounds_u64 h
  exact ⟨x.toNat, by omega, by omega⟩
theorem u8_nat {x : Int} (h : (Lit.int .u8 x : Lit).wf = true) : ∃ n : Nat, x = n ∧ n < 256 := by
  have := bounds_u8 h
  exact ⟨x.toNat, by omega, by omega⟩
section
variable {H : Type} {enc : TypeId × Value → H} {w : World} {base : Nat} {sp : Nat → Bool} {held : Bool}
/-- Four cells that read as a set. -/
theorem read_set {fuel : Nat} {cs : List Value} {x : DataW H × List MemPlace} (hl : cs.length = 4) (h : DataW.trod enc Tryd.prog w base sp held fuel 48 cs = some x) :
    ∃ s : BS, cs = [.int .u64 (ws s 0 : Int), .int .u64 (ws s 1 : Int), .int .u64 (ws s 2 : Int), .int .u64 (ws s 3 : Int)] := by
  obtain ⟨c0, c1, c2, c3, rfl⟩ : ∃ c0 c1 c2 c3, cs = [c0, c1, c2, c3] := by
    match cs, hl with
    | [c0, c1, c2, c3], _ => exact ⟨c0, c1, c2, c3, rfl⟩
  obtain ⟨y0, y1, y2, y3, m, _, h0, h1, h2, h3⟩ := trod_array4 Tryd.underlying48 cells46 h
  obtain ⟨x0, e0, _, w0⟩ := DataW.trod_int Tryd.underlying46 h0
  obtain ⟨x1, e1, _, w1⟩ := DataW.trod_int Tryd.underlying46 h1
  obtain ⟨x2, e2, _, w2⟩ := DataW.trod_int Tryd.underlying46 h2
  obtain ⟨x3, e3, _, w3⟩ := DataW.trod_int Tryd.underlying46 h3
  obtain ⟨a, rfl, ha⟩ := u64_nat w0
  obtain ⟨b, rfl, hb⟩ := u64_nat w1
  obtain ⟨c, rfl, hc⟩ := u64_nat w2
  obtain ⟨d, rfl, hd⟩ := u64_nat w3
  simp at e0 e1 e2 e3
  subst e0 e1 e2 e3
  have h1 := sv_of ha hb hc hd
  refine ⟨fun u => ofw a b c d u.toNat, ?_⟩
  have h2 : sv (ofw a b c d) = sv (lf fun u => ofw a b c d u.toNat) := sv_congr fun x hx => by
    unfold lf
    show _ = ofw a b c d (UInt8.ofNat x).toNat
    rw [UInt8.toNat_ofNat_of_lt' (by simpa using hx)]
  rw [h2, sv_lf] at h1
  simp only [Value.agg.injEq] at h1
  have h3 := congrArg Array.toList h1
  simpa using h3.symm
/-- Six cells that read as an expression. -/
theorem read_rx (N : Nat) : ∀ {fuel : Nat} {cs : List Value} {x : DataW H × List MemPlace}, SizeOf.sizeOf x.1 < N → cs.length = 6 → DataW.trod enc Tryd.prog w base sp held fuel 50 cs = some x → (∀ n ∈ x.1.weights Tryd.prog 50, n ≤ reachBytes) → ∃ r : Rx, RC (fun _ => True) w r cs := by
  induction N with
  | zero => intro _ _ x h; omega
  | succ N ih =>
  intro fuel cs x hN hl h hz
  obtain ⟨v0, v1, v2, v3, v4, v5, rfl⟩ : ∃ v0 v1 v2 v3 v4 v5, cs = [v0, v1, v2, v3, v4, v5] := by
    match cs, hl with
    | [v0, v1, v2, v3, v4, v5], _ => exact ⟨v0, v1, v2, v3, v4, v5, rfl⟩
  obtain ⟨y0, y1, y2, m, hx, _, g0, g1, g2⟩ := Go.Deep.trod_struct3 Tryd.underlying50 h
  simp [cells3] at g0
  simp [cells48] at g1
  simp [cells37] at g2
  obtain ⟨k, hk, _, _⟩ := DataW.trod_int Tryd.underlying3 g0
  obtain rfl : v0 = .int .i64 k := by simpa using hk
  obtain ⟨s, hs⟩ := read_set (by rfl) g1
  simp at hs
  obtain ⟨rfl, rfl, rfl, rfl⟩ := hs
  have hw2 : ∀ n ∈ y2.1.weights Tryd.prog 37, n ≤ reachBytes := fun n hn => hz n (by
    rw [hx]
    simp [DataW.weights, Tryd.underlying50, DataW.weightsEach]
    exact .inr (.inr hn))
  have hN2 : SizeOf.sizeOf y2.1 < N := by
    rw [hx] at hN
    simp at hN
    omega
  clear hz hN h g0 g1 hk hx
  rcases Go.Deep.open_slice Tryd.underlying37 g2 with ⟨hc, _⟩ | ⟨a, len, cap, m', n, D, Pl, hc', _, hlc, hm, hmm, hxe, hxx⟩
  · simp at hc
    subst hc
    exact ⟨.mk k s [], RC_mk.2 ⟨none, 0, 0, rfl, rfl, by decide, .inl rfl⟩⟩
  · simp at hc'
    subst hc'
    have hlm : len ≤ m' := by rw [hmm]; split <;> omega
    rw [cells50] at hxx
    have hlen : len < 140737488355328 := by
      have h1 : (len + (m' - len)) * Tryd.prog.bytesOf 50 ≤ reachBytes := hw2 _ (by
        rw [hxe]
        simp only [DataW.weights, Tryd.underlying37, List.mem_cons, List.length_map, List.length_range]
        exact .inl trivial)
      rw [bytes50] at h1
      unfold reachBytes at h1
      omega
    have each : ∀ i ∈ List.range len, ∃ q : Rx, ∃ cs', w.cells? base (a.add (i * 6)) 6 = some cs' ∧ RC (fun _ => True) w q cs' := fun i hi => by
      have hil := List.mem_range.1 hi
      obtain ⟨cs', h1, h2⟩ := hxx i (by omega)
      have hl6 : cs'.length = 6 := (World.cells?_some h1).2.1
      have hDm : D i ∈ (List.range len).map D := List.mem_map.2 ⟨i, hi, rfl⟩
      obtain ⟨q, hq⟩ := ih (x := (D i, Pl i)) (by
        have h3 := List.sizeOf_lt_of_mem hDm
        rw [hxe] at hN2
        simp at hN2
        simp
        omega) hl6 h2 (fun k hk => hw2 k (by
          rw [hxe]
          simp only [DataW.weights, Tryd.underlying37, List.mem_cons, List.mem_append]
          exact .inr (.inl (weightsAll_mem hDm _ hk))))
      exact ⟨q, cs', h1, hq⟩
    obtain ⟨l, hll, hl'⟩ := choose_list (List.range len) each
    have hlen' : l.length = len := by rw [hll, List.length_range]
    refine ⟨.mk k s l, RC_mk.2 ⟨some a, len, cap, rfl, hlen', hlen, ?_⟩⟩
    by_cases h0 : len = 0
    · exact .inl h0
    right
    obtain ⟨b, off, spot⟩ := a
    have get : ∀ i q, l[i]? = some q → ∃ cs', w.cells? base ((⟨b, off, spot⟩ : Addr).add (i * 6)) 6 = some cs' ∧ RC (fun _ => True) w q cs' := fun i q hi => by
      have hil := (List.getElem?_eq_some_iff.1 hi).1
      obtain ⟨q', h1, h2⟩ := hl' i i (by rw [List.getElem?_range (by omega)])
      rw [hi] at h1
      simp only [Option.some.injEq] at h1
      exact h1 ▸ h2
    obtain ⟨q0, hq0⟩ : ∃ q, l[0]? = some q := ⟨l[0]'(by omega), List.getElem?_eq_getElem _⟩
    obtain ⟨v0, hv0⟩ : ∃ v, w.cell? (⟨b, off, spot⟩ : Addr) = some v := by
      obtain ⟨cs', h1, _⟩ := get 0 q0 hq0
      obtain ⟨_, hl', hcell⟩ := World.cells?_some h1
      have h3 := hcell 0 (by omega)
      refine ⟨cs'[0]'(by omega), ?_⟩
      rw [Go.Deep.add_add, List.getElem?_eq_getElem (by omega)] at h3
      simpa [Addr.add] using h3
    obtain rfl : spot = none := World.cell?_spot hv0
    have hb : b < w.heap.size := World.block_lt_of_cell? w _ hv0
    refine ⟨b, off, rfl, trivial, hb, RK_of fun i q hi => ?_⟩
    obtain ⟨cs', h1, h2⟩ := get i q hi
    refine ⟨cs', fun j v hj => ?_, h2⟩
    obtain ⟨_, hl', hcell⟩ := World.cells?_some h1
    have hjl := (List.getElem?_eq_some_iff.1 hj).1
    have h3 := hcell j (by omega)
    rw [Go.Deep.add_add, add_at] at h3
    rw [show off + i * 6 + j = off + (i * 6 + j) by omega, ← hj]
    simpa using h3
set_option maxRecDepth 100000 in
theorem open_rx {r : Reach} {b0 : Nat} {v : Value} {d : DataW H} {p : List MemPlace} (hv : Value.okWide Tryd.prog w r b0 50 v) (h : DataW.Trod enc Tryd.prog w base sp held 50 v d p) (hz : ∀ n ∈ d.weights Tryd.prog 50, n ≤ reachBytes) :
    ∃ (q : Rx) (cs : List Value), v = .agg cs.toArray ∧ RC (fun _ => True) w q cs := by
  obtain ⟨cs, rfl, hsz⟩ := okWide_struct Tryd.underlying50 hv
  obtain ⟨fuel, hf⟩ := h
  obtain ⟨l⟩ := cs
  rw [cells50] at hsz
  obtain ⟨q, hq⟩ := read_rx (SizeOf.sizeOf d + 1) (cs := l) (x := (d, p)) (Nat.lt_succ_self _) (by simpa using hsz) hf hz
  exact ⟨q, l, rfl, hq⟩
set_option maxRecDepth 100000 in
theorem open_u8 {r : Reach} {b0 : Nat} {v : Value} {d : DataW H} {p : List MemPlace} (hv : Value.okWide Tryd.prog w r b0 5 v) (h : DataW.Trod enc Tryd.prog w base sp held 5 v d p) : ∃ n : Nat, v = .int .u8 (n : Int) ∧ n < 256 := by
  obtain ⟨x, rfl, _, _, w0⟩ := open_int Tryd.underlying5 hv h
  obtain ⟨a, rfl, ha⟩ := u8_nat w0
  exact ⟨a, rfl, ha⟩
end

end Go.Proofs.YtogpnlkjcdedlaaDoor
