/-
  The arguments opened: sets, slices of sets, two bytes; the table out of what the row lists.
-/
import Derived.Test.YtnjlnldbfejjpaaDoorN
import Derived.Test.YtnjlnldbfejjpaaDoorLa
import Derived.Test.YtnjlnldbfejjpaaDoorRows
import Derived.Test.YtnjlnldbfejjpaaDoorTie
import Derived.Test.YtnjlnldbfejjpaaDoorCards
import Derived.Lib.LaidTab
import Derived.Laws.IdiomArrays
import Derived.ShutString
import Derived.ProofKit
namespace Go.Proofs.YtnjlnldbfejjpaaDoor
open Go.RowKit Bs Go.Frame Go.WideShapes Go.ChangeShapes Go.ChangeAt
attribute [local irreducible] nb cnt pc els cf fs

theorem own : ownKnob Tryd.prog.godebug = none := by kernel_rfl
theorem laidOut : laidOutB Tryd.prog = true := by kernel_rfl
theorem gTab : Tryd.prog.globalNamed "math/bits.deBruijn64tab" = some 0 := by kernel_rfl
theorem tTab : (Tryd.prog.globals[0]?).map (·.type) = some 55 := by kernel_rfl
theorem cells5 : Tryd.prog.cellsOf 5 = 1 := by kernel_rfl
theorem cells23 : Tryd.prog.cellsOf 23 = 1 := by kernel_rfl
theorem cells25 : Tryd.prog.cellsOf 25 = 4 := by kernel_rfl
theorem cells46 : Tryd.prog.cellsOf 46 = 2 := by kernel_rfl
theorem cells55 : Tryd.prog.cellsOf 55 = 64 := by kernel_rfl

abbrev laidT : List (String × DataW Unit) := [("math/bits.deBruijn64tab", Rows.laid_math_bits_deBruijn64tab)]
theorem door_met (os : Os) (args : Array Value) : laidMetH Tryd.prog laidT ((World.doorLaid Tryd.prog 400 os).forCall (fun _ _ => 0) ⟨#[], args, []⟩).memory :=
  laidMetH_of_parts3 (fuel := 8) (laidMet_of_run' 8 (by kernel_rfl) (by kernel_rfl)) (by kernel_rfl) (by kernel_rfl)
theorem tb_of_laid {W : World} (h : laidMetH Tryd.prog laidT W) : Tb W := by
  rw [MakeChecks.laidMetH_plain _ _ _ (by kernel_rfl)] at h
  have ht : Lib.TabIs Tryd.prog W "math/bits.deBruijn64tab" .u8 (dbl.map fun (x : Nat) => (x : Int)) :=
    Lib.tabIs_of_head (rest := []) gTab tTab Tryd.underlying55 Tryd.underlying5 cells5 cells55 h
  have hc : ∀ i, i < 64 → W.cell? ⟨0, i, none⟩ = some (.int .u8 (db i : Int)) := fun i hi => by
    have := ht.cell gTab i (by simpa [dbl] using hi)
    rw [this]
    have e : (dbl.map fun (x : Nat) => (x : Int)).getD i 0 = (db i : Int) := by
      unfold db
      rw [List.getD_eq_getElem?_getD, List.getD_eq_getElem?_getD, List.getElem?_map]
      cases dbl[i]? <;> rfl
    rw [e]
  refine ⟨World.block_lt_of_cell? W _ (hc 0 (by decide)), hc⟩
theorem u64_nat {x : Int} (h : (Lit.int .u64 x : Lit).wf = true) : ∃ n : Nat, x = n ∧ n < 2 ^ 64 := by
  have := bounds_u64 h
  exact ⟨x.toNat, by omega, by omega⟩
theorem u8_nat {x : Int} (h : (Lit.int .u8 x : Lit).wf = true) : ∃ n : Nat, x = n ∧ n < 256 := by
  have := bounds_u8 h
  exact ⟨x.toNat, by omega, by omega⟩
section
variable {H : Type} {enc : TypeId × Value → H} {w : World} {base : Nat} {sp : Nat → Bool} {held : Bool}
/-- Four cells that read as a set. -/
theorem read_set {fuel : Nat} {cs : List Value} {x : DataW H × List MemPlace} (hl : cs.length = 4) (h : DataW.trod enc Tryd.prog w base sp held fuel 25 cs = some x) : ∃ p, cs = sl p := by
  obtain ⟨c0, c1, c2, c3, rfl⟩ : ∃ c0 c1 c2 c3, cs = [c0, c1, c2, c3] := by
    match cs, hl with
    | [c0, c1, c2, c3], _ => exact ⟨c0, c1, c2, c3, rfl⟩
  obtain ⟨y0, y1, y2, y3, m, _, h0, h1, h2, h3⟩ := trod_array4 Tryd.underlying25 cells23 h
  obtain ⟨x0, e0, _, w0⟩ := DataW.trod_int Tryd.underlying23 h0
  obtain ⟨x1, e1, _, w1⟩ := DataW.trod_int Tryd.underlying23 h1
  obtain ⟨x2, e2, _, w2⟩ := DataW.trod_int Tryd.underlying23 h2
  obtain ⟨x3, e3, _, w3⟩ := DataW.trod_int Tryd.underlying23 h3
  obtain ⟨a, rfl, ha⟩ := u64_nat w0
  obtain ⟨b, rfl, hb⟩ := u64_nat w1
  obtain ⟨c, rfl, hc⟩ := u64_nat w2
  obtain ⟨d, rfl, hd⟩ := u64_nat w3
  simp at e0 e1 e2 e3
  subst e0 e1 e2 e3
  have := sv_of ha hb hc hd
  unfold sv at this
  refine ⟨ofw a b c d, ?_⟩
  unfold sl
  simp only [Value.agg.injEq] at this
  have h2 := congrArg Array.toList this
  simpa using h2.symm
theorem open_set {r : Reach} {b0 : Nat} {v : Value} {d : DataW H} {p : List MemPlace} (hv : Value.okWide Tryd.prog w r b0 25 v) (h : DataW.Trod enc Tryd.prog w base sp held 25 v d p) : ∃ q, v = sv q := by
  obtain ⟨cs, rfl, hsz, _⟩ : ∃ cs, v = .agg cs ∧ cs.size = Tryd.prog.cellsOf 25 ∧ Row.okWide Tryd.prog w r b0 25 cs := by
    simpa [Value.okWide, Tryd.underlying25] using hv
  obtain ⟨fuel, hf⟩ := h
  obtain ⟨l⟩ := cs
  rw [cells25] at hsz
  obtain ⟨q, hq⟩ := read_set (cs := l) (by simpa using hsz) hf
  refine ⟨q, ?_⟩
  rw [hq]; rfl
theorem open_two {r : Reach} {b0 : Nat} {v : Value} {d : DataW H} {p : List MemPlace} (hv : Value.okWide Tryd.prog w r b0 46 v) (h : DataW.Trod enc Tryd.prog w base sp held 46 v d p) : ∃ x y : Nat, v = .agg #[.int .u8 (x : Int), .int .u8 (y : Int)] ∧ x < 256 ∧ y < 256 := by
  obtain ⟨cs, rfl, hsz, _⟩ : ∃ cs, v = .agg cs ∧ cs.size = Tryd.prog.cellsOf 46 ∧ Row.okWide Tryd.prog w r b0 46 cs := by
    simpa [Value.okWide, Tryd.underlying46] using hv
  obtain ⟨fuel, hf⟩ := h
  obtain ⟨l⟩ := cs
  rw [cells46] at hsz
  obtain ⟨c0, c1, rfl⟩ : ∃ c0 c1, l = [c0, c1] := by
    match l, hsz with
    | [c0, c1], _ => exact ⟨c0, c1, rfl⟩
  obtain ⟨xs, m, _, _, _, hxl, hall⟩ := DataW.trod_array Tryd.underlying46 hf
  have h0 := hall 0 (by decide)
  have h1 := hall 1 (by decide)
  rw [cells5] at h0 h1
  obtain ⟨y0, y1, rfl⟩ : ∃ y0 y1, xs = [y0, y1] := by
    match xs, hxl with
    | [y0, y1], _ => exact ⟨y0, y1, rfl⟩
  obtain ⟨x0, e0, _, w0⟩ := DataW.trod_int Tryd.underlying5 (show DataW.trod enc Tryd.prog w base sp held m 5 [c0] = some y0 from h0)
  obtain ⟨x1, e1, _, w1⟩ := DataW.trod_int Tryd.underlying5 (show DataW.trod enc Tryd.prog w base sp held m 5 [c1] = some y1 from h1)
  obtain ⟨a, rfl, ha⟩ := u8_nat w0
  obtain ⟨b, rfl, hb⟩ := u8_nat w1
  simp at e0 e1
  subst e0 e1
  exact ⟨a, b, rfl, ha, hb⟩
theorem open_u8 {r : Reach} {b0 : Nat} {v : Value} {d : DataW H} {p : List MemPlace} (hv : Value.okWide Tryd.prog w r b0 5 v) (h : DataW.Trod enc Tryd.prog w base sp held 5 v d p) : ∃ n : Nat, v = .int .u8 (n : Int) ∧ n < 256 := by
  obtain ⟨x, rfl, _, _, w0⟩ := open_int Tryd.underlying5 hv h
  obtain ⟨a, rfl, ha⟩ := u8_nat w0
  exact ⟨a, rfl, ha⟩
theorem open_sets {r : Reach} {b0 : Nat} {v : Value} {d : DataW H} {p : List MemPlace} (hv : Value.okWide Tryd.prog w r b0 41 v) (h : DataW.Trod enc Tryd.prog w base sp held 41 v d p) :
    ∃ (a : Option Addr) (n c : Nat) (E : List (Nat → Bool)), v = .slice a n c ∧ Sets w a n E := by
  obtain ⟨a, n, c, rfl⟩ := okWide_slice Tryd.underlying41 hv
  obtain ⟨fuel, hf⟩ := h
  obtain ⟨C, hC, _, hcs⟩ := open_rows Tryd.underlying41 (by rw [cells25]; decide) hf
  rw [cells25] at hC hcs
  obtain ⟨E, hE, _⟩ := CRow.data sl (fun _ => True) hC (fun cs h => by
    obtain ⟨hl, n, y, hy, _⟩ := hcs cs h
    obtain ⟨q, hq⟩ := read_set hl hy
    exact ⟨q, hq, trivial⟩)
  exact ⟨a, n, c, E, rfl, hE⟩
end
end Go.Proofs.YtnjlnldbfejjpaaDoor
