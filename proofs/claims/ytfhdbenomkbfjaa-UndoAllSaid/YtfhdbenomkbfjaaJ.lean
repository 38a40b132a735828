/-
  Contract: text.
-/
import Derived.Test.YtfhdbenomkbfjaaI
import Derived.Laws.IdiomStrings
set_option linter.unusedSimpArgs false
set_option linter.unusedVariables false
namespace Go.Proofs.Ytfhdbenomkbfjaa
open Go.RowKit Te Go.Frame

theorem open_u16 {H : Type} {enc : TypeId × Value → H} {w : World} {r : Reach} {b0 base : Nat} {sp : Nat → Bool} {held : Bool} {v : Value} {d : DataW H} {p : List MemPlace} (hv : Value.okWide Try.prog w r b0 49 v) (h : DataW.Trod enc Try.prog w base sp held 49 v d p) : ∃ u : Nat, v = .int .u16 (u : Int) ∧ u ≤ 65535 := by
  obtain ⟨q, rfl⟩ := Go.WideShapes.okWide_int Try.underlying49 hv
  obtain ⟨m, hm⟩ := h
  obtain ⟨q', hq, _, hi⟩ := DataW.trod_int Try.underlying49 hm
  obtain rfl : q = q' := by simpa [Value.cells] using hq
  have hb := bounds_u16 hi
  exact ⟨q.toNat, by rw [Int.toNat_of_nonneg hb.1], by omega⟩
theorem back_bytes (W : World) (b n : Nat) (M : Array Value) (l : List UInt8) (hl : l.length = n) (hb : W.heap[b]? = some (.cells M 5 (0, 0))) (hM : M.toList = Lib.byteCells l) :
    (convert 62 9 (.slice (some ⟨b, 0, none⟩) n n)).run Try.prog W = .ok (.string ⟨l.toArray⟩) W := by
  subst hl
  refine run_convert_bytes_back W 62 9 5 ⟨b, 0, none⟩ _ l Try.underlying62 Try.underlying5 Try.underlying9 fun j hj => ?_
  exact Lib.cells_of_row hb l.length j _ (by rw [hM]; simp [Lib.byteCells, hj])
theorem set_bytes {M : Array Value} {l : List UInt8} (hM : M.toList = Lib.byteCells l) (i : Nat) (x : UInt8) : (M.setIfInBounds i (.int .u8 (x.toNat : Int))).toList = Lib.byteCells (l.set i x) := by
  rw [Array.toList_setIfInBounds, hM]
  simp [Lib.byteCells, List.map_set]
set_option maxRecDepth 100000 in
set_option maxHeartbeats 4000000 in
theorem mk_any (n : Nat) (w : World) (hn : n ≤ 10000) :
    Calls Try.prog 22 #[.int .i64 (n : Int)] w fun e w' => (∃ t : ByteArray, e = .returned (.string t) ∧ t.size = n) ∧ Below w.heap.size w w' := by
  obtain ⟨i0, hi, hz0, hz1, hz2⟩ := info_parts Try.info5
  obtain ⟨M, hM⟩ : ∃ M, M = madeCells (Value.int .u8 0).cells (((n : Nat) : Int).toNat * i0.size) := ⟨_, rfl⟩
  have hMl : M.toList = Lib.byteCells (List.replicate n 0) := by
    rw [hM, hz1]
    simp [madeCells, Lib.byteCells, Value.cells]
    apply List.ext_getElem (by simp)
    intro i h1 h2
    simp [Nat.mod_one]
  have hmk : ∀ W : World, (Instr.makeSlice 62 (.int .i64 (n : Int)) (.int .i64 (n : Int))).run Try.prog W = .ok (.slice (some ⟨W.heap.size, 0, none⟩) n n) (W.alloc (.cells M 5)) := fun W => by
    have h := run_make (P := Try.prog) W 62 5 i0 (.int .u8 0) Try.underlying62 hi hz0 .i64 .i64 (n : Int) (n : Int) (by omega) (by omega) (by rw [hz2]; omega) (by omega)
    rw [← hM] at h
    simpa using h
  clear hM hi hz0 hz1 hz2
  have HN := hid hn
  go_enter Try.func22, Try.ntmps22
  go_wp2_with fail
  go_loopg [4] n (fun k s4 wr => ∃ (i : Nat) (M : Array Value) (l : List UInt8), s4 = .int .i64 i ∧ i + k = n ∧ l.length = n ∧ M.toList = Lib.byteCells l ∧ wr.heap[w.heap.size]? = some (.cells M 5 (0, 0)) ∧ Below w.heap.size w wr)
  case atStart => exact ⟨0, M, List.replicate n 0, rfl, by omega, by simp, hMl, alloc_new _ _, (Below.refl _ _).alloc (Nat.le_refl _) _⟩
  case round =>
    obtain ⟨i, M', l, rfl, hk, hl, hM', hb, hbw⟩ := hrel
    clear hMl hmk
    by_cases hlt : i < n
    · have hlt' : (i : Int) < (n : Int) := by omega
      have hi0 : (0 : Int) ≤ (i : Int) := by omega
      have hn' : (n : Int) ≤ 10000 := by omega
      have hsz : M'.size = n := by rw [← Array.length_toList, hM', Lib.byteCells_length, hl]
      have c0 : ∃ v, wr.cell? ⟨w.heap.size, i, none⟩ = some v := by
        refine ⟨M'[i]'(by omega), ?_⟩
        simp [World.cell?, hb]
      obtain ⟨v, c0⟩ := c0
      have f0 := free hb i
      have e3 : ((UInt8.ofNat (97 + i % 26)).toNat : Int) = 97 + (i : Int) % 26 := by
        have hy : i % 26 < 26 := Nat.mod_lt _ (by omega)
        rw [UInt8.toNat_ofNat', Nat.mod_eq_of_lt (by omega)]
        omega
      have E3 := hid e3
      clear e3
      have HB := hid hb
      have hlb := heap_lt hb
      have HM := hid hM'
      clear hb hM'
      go_wp2
      go_roundg (gk - 1)
      case measure => omega
      case rel => exact ⟨i + 1, _, l.set i (UInt8.ofNat (97 + i % 26)), by go_num, by omega, by simp [hl], set_bytes HM.out i _, by rw [E3.out]; exact blk_put HB.out, hbw.setCell (by exact Nat.le_refl _) _⟩
    · have hin : ¬ (i : Int) < (n : Int) := by omega
      have hc := fun W hb => back_bytes W w.heap.size n M' l hl hb hM'
      have hcv := hc wr hb
      clear hb hc
      go_wp2
      go_ret
      exact ⟨⟨_, rfl, by show l.toArray.size = n; simpa using hl⟩, hbw⟩
end Go.Proofs.Ytfhdbenomkbfjaa
