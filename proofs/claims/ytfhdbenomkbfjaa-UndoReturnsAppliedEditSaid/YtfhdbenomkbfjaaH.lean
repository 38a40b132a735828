/-
  Few; the arguments opened.
-/
import Derived.Test.YtfhdbenomkbfjaaOp
import Derived.Test.YtfhdbenomkbfjaaG
import Derived.Test.YtfhdbenomkbfjaaRows
set_option linter.unusedSimpArgs false
set_option linter.unusedVariables false
namespace Go.Proofs.Ytfhdbenomkbfjaa
open Go.ChangeShapes Go.WideShapes Go.ChangeAt Go.RowKit Te Go.Frame
open Go.ChangeMaps (open_string shut_string)

theorem own : ownKnob Try.prog.godebug = none := by kernel_rfl
theorem laidOut : laidOutB Try.prog = true := by kernel_rfl
/-- What came in of an edit: numbers that are ints, a string that a machine can hold. -/
def In (e : Ed) : Prop := -9223372036854775808 ≤ e.1 ∧ e.1 ≤ 9223372036854775807 ∧ -9223372036854775808 ≤ e.2.1 ∧ e.2.1 ≤ 9223372036854775807 ∧ e.2.2.size ≤ 140737488351232
/-- A call: its kind, its edit. -/
abbrev Sp := Nat × Ed
def spv (x : Sp) : List Value := [.int .u8 (x.1 : Int), .int .i64 x.2.1, .int .i64 x.2.2.1, .string x.2.2.2]
def InS (x : Sp) : Prop := x.1 < 256 ∧ In x.2
abbrev SRow (W : World) (p : Option Addr) (n : Nat) (E : List Sp) : Prop := CRow 4 W p n (E.map spv)
def szs : List Sp → Nat
  | [] => 0
  | e :: E => e.2.2.2.size + szs E
theorem szs_append : ∀ (A B : List Sp), szs (A ++ B) = szs A + szs B
  | [], B => by simp [szs]
  | a :: A, B => by simp [szs, szs_append A B]; omega
theorem szs_take : ∀ (E : List Sp) (i : Nat), szs (E.take i) ≤ szs E
  | [], i => by simp
  | e :: E, 0 => by simp [szs]
  | e :: E, i + 1 => by simp only [List.take_succ_cons, szs]; have := szs_take E i; omega
theorem szs_step {E : List Sp} {i : Nat} {x : Sp} (h : E[i]? = some x) : szs (E.take (i + 1)) = szs (E.take i) + x.2.2.2.size := by
  rw [List.take_add_one, h]
  simp [szs_append, szs]
theorem szs_mem : ∀ {E : List Sp} {x : Sp}, x ∈ E → x.2.2.2.size ≤ szs E
  | y :: E, x, h => by
    simp only [szs]
    rcases List.mem_cons.1 h with rfl | h
    · omega
    · have := szs_mem h; omega
theorem InS.sum : ∀ {E : List Sp}, (∀ e ∈ E, InS e) → szs E ≤ E.length * 140737488351232
  | [], _ => by simp [szs]
  | e :: E, h => by
    have h1 := (h e (by simp)).2.2.2.2.2
    have h2 := InS.sum (fun x hx => h x (List.mem_cons_of_mem _ hx))
    simp only [szs, List.length_cons]
    rw [Nat.add_mul]
    omega
theorem SRow.at {W : World} {p : Option Addr} {n : Nat} {E : List Sp} (h : SRow W p n E) {i : Nat} (hi : i < n) : ∃ b off x, p = some ⟨b, off, none⟩ ∧ b < W.heap.size ∧ E[i]? = some x ∧ x ∈ E ∧
    W.cell? ⟨b, off + i * 4, none⟩ = some (.int .u8 (x.1 : Int)) ∧ W.cell? ⟨b, off + i * 4 + 1, none⟩ = some (.int .i64 x.2.1) ∧ W.cell? ⟨b, off + i * 4 + 2, none⟩ = some (.int .i64 x.2.2.1) ∧ W.cell? ⟨b, off + i * 4 + 3, none⟩ = some (.string x.2.2.2) := by
  have hl : E.length = n := by have := h.1; simpa using this
  obtain ⟨b, off, rfl, hb, hx⟩ := h.2.resolve_left (by omega)
  have hE : E[i]? = some (E[i]'(by omega)) := List.getElem?_eq_getElem _
  refine ⟨b, off, E[i]'(by omega), rfl, hb, hE, List.getElem_mem _, ?_, ?_, ?_, ?_⟩
  · exact hx i (spv (E[i]'(by omega))) (by rw [List.getElem?_map, hE]; rfl) 0 _ rfl
  · exact hx i (spv (E[i]'(by omega))) (by rw [List.getElem?_map, hE]; rfl) 1 _ rfl
  · exact hx i (spv (E[i]'(by omega))) (by rw [List.getElem?_map, hE]; rfl) 2 _ rfl
  · exact hx i (spv (E[i]'(by omega))) (by rw [List.getElem?_map, hE]; rfl) 3 _ rfl
theorem open_edit {H : Type} {enc : TypeId × Value → H} {w : World} {r : Reach} {b0 base : Nat} {sp : Nat → Bool} {held : Bool} {v : Value} {d : DataW H} {p : List MemPlace} (hv : Value.okWide Try.prog w r b0 31 v) (h : DataW.Trod enc Try.prog w base sp held 31 v d p)
    (hz : ∀ n ∈ d.weights Try.prog 31, n ≤ reachBytes) : ∃ (a d : Int) (s : ByteArray), v = .agg #[.int .i64 a, .int .i64 d, .string s] ∧ In (a, d, s) := by
  obtain ⟨c0, c1, c2, y0, y1, y2, m, rfl, hD, _, e0, e1, e2⟩ := Go.Joins.open_agg3 Try.underlying31 (by kernel_rfl) (by kernel_rfl) hv h
  obtain ⟨a, ha, _, ha'⟩ := DataW.trod_int Try.underlying3 e0
  obtain ⟨d, hd, _, hd'⟩ := DataW.trod_int Try.underlying3 e1
  obtain ⟨s, hs, hy2, _⟩ := DataW.trod_string Try.underlying9 e2
  obtain rfl : c0 = .int .i64 a := by simpa using ha
  obtain rfl : c1 = .int .i64 d := by simpa using hd
  obtain rfl : c2 = .string s := by simpa using hs
  refine ⟨a, d, s, rfl, (bounds_i64 ha').1, (bounds_i64 ha').2, (bounds_i64 hd').1, (bounds_i64 hd').2, ?_⟩
  refine hz _ ?_
  rw [hD]
  simp [DataW.weights, Try.underlying31, DataW.weightsEach, hy2]
theorem open_steps {H : Type} {enc : TypeId × Value → H} {w : World} {base : Nat} {spare : Nat → Bool} {held : Bool} {fuel : Nat} {a : Option Addr} {len cap : Nat} {x : DataW H × List MemPlace}
    (h : DataW.trod enc Try.prog w base spare held fuel 22 [.slice a len cap] = some x) (hz : ∀ n ∈ x.1.weights Try.prog 22, n ≤ reachBytes) : ∃ E : List Sp, SRow w a len E ∧ len ≤ 140737488351232 ∧ ∀ e ∈ E, InS e := by
  have c36 : Try.prog.cellsOf 36 = 4 := by kernel_rfl
  obtain ⟨C, hC, ⟨k, hk, hkl⟩, hd⟩ := open_rows Try.underlying22 (by rw [c36]; decide) h
  rw [c36] at hC hd
  have b36 : Try.prog.bytesOf 36 = 40 := by kernel_rfl
  have hlen : len ≤ 140737488351232 := by
    rw [b36] at hkl
    rcases hk with rfl | hk
    · omega
    · have := hz k hk
      unfold reachBytes at this
      omega
  have hdata := hC.data spv InS fun cs hcs => ?_
  · obtain ⟨E, h1, h2⟩ := hdata
    exact ⟨E, h1, hlen, h2⟩
  obtain ⟨hl, n, y, hy, hw⟩ := hd cs hcs
  match cs, hl with
  | [v0, v1, v2, v3], _ =>
    obtain ⟨y0, y1, k, hD, _, g0, g1⟩ := trod_struct2 Try.underlying36 hy
    have e5 : Try.prog.cellsOf 5 = 1 := by kernel_rfl
    have e31 : Try.prog.cellsOf 31 = 3 := by kernel_rfl
    simp [e5] at g0
    simp [e31] at g1
    obtain ⟨q0, hq0, _, hi0⟩ := DataW.trod_int Try.underlying5 g0
    obtain ⟨z0, z1, z2, k', hE, _, f0, f1, f2⟩ := Go.Deep.trod_struct3 Try.underlying31 g1
    have e3 : Try.prog.cellsOf 3 = 1 := by kernel_rfl
    have e9 : Try.prog.cellsOf 9 = 1 := by kernel_rfl
    simp [e3] at f0 f1
    simp [e9] at f2
    obtain ⟨q1, hq1, _, hi1⟩ := DataW.trod_int Try.underlying3 f0
    obtain ⟨q2, hq2, _, hi2⟩ := DataW.trod_int Try.underlying3 f1
    obtain ⟨q3, hq3, hy3, _⟩ := DataW.trod_string Try.underlying9 f2
    obtain rfl : v0 = .int .u8 q0 := by simpa using hq0
    obtain rfl : v1 = .int .i64 q1 := by simpa using hq1
    obtain rfl : v2 = .int .i64 q2 := by simpa using hq2
    obtain rfl : v3 = .string q3 := by simpa using hq3
    have hb : 0 ≤ q0 ∧ q0 ≤ 255 := bounds_u8 hi0
    refine ⟨(q0.toNat, q1, q2, q3), by simp [spv, Int.toNat_of_nonneg hb.1], by simp only; omega, (bounds_i64 hi1).1, (bounds_i64 hi1).2, (bounds_i64 hi2).1, (bounds_i64 hi2).2, ?_⟩
    refine hz _ (hw _ ?_)
    rw [hD, hE]
    simp [DataW.weights, Try.underlying36, Try.underlying31, DataW.weightsEach, hy3]
def Few (s : ByteArray) (E : List Sp) : Prop := E.length ≤ 30 ∧ s.size + szs E ≤ 20000
instance (s : ByteArray) (E : List Sp) : Decidable (Few s E) := by unfold Few; infer_instance

set_option maxRecDepth 100000 in
set_option maxHeartbeats 2000000 in
theorem few_small (s : ByteArray) (p : Option Addr) (n c : Nat) (E : List Sp) (w : World) (hn : n ≤ 30) (hI : ∀ e ∈ E, InS e) (hs : s.size ≤ 140737488351232) (h : SRow w p n E) :
    Calls Try.prog 10 #[.string s, .slice p n c] w fun e w' => e = .returned (.bool (decide (Few s E))) ∧ w = w' := by
  have HR := hid h
  have hl : E.length = n := by have := h.1; simpa using this
  have HE := hid (show s.size + szs E ≤ 100000000000000000 by
    have := InS.sum hI
    have : E.length * 140737488351232 ≤ 30 * 140737488351232 := Nat.mul_le_mul_right _ (by omega)
    omega)
  have HL := hid hl
  have hn' : (n : Int) ≤ 30 := by omega
  clear h hI hl
  go_enter Try.func10, Try.ntmps10
  go_wp2_with fail
  go_loopg [5, 6] n (fun k s5 s6 wr => ∃ i : Nat, s5 = .int .i64 ((s.size + szs (E.take i) : Nat) : Int) ∧ s6 = .int .i64 i ∧ i + k = n ∧ w = wr)
  case atStart => exact ⟨0, by simp [szs], rfl, by omega, rfl⟩
  case round =>
    obtain ⟨i, rfl, rfl, hk, rfl⟩ := hrel
    by_cases hlt : i < n
    · have hlt' : (i : Int) < (n : Int) := by omega
      have hi0 : (0 : Int) ≤ (i : Int) := by omega
      obtain ⟨b, off, x, rfl, hb, hxi, _, c0, c1, c2, c3⟩ := SRow.at HR.out hlt
      have hs1 := szs_step hxi
      have hs2 := szs_take E (i + 1)
      obtain ⟨T, hT⟩ : ∃ T, T = s.size + szs (E.take i) := ⟨_, rfl⟩
      have hz : (T : Int) + (x.2.2.2.size : Int) ≤ 1000000000000000000 := by have := HE.out; omega
      have hz0 : (0 : Int) ≤ (T : Int) := by omega
      have HS := hid (show s.size + szs (E.take (i + 1)) = T + x.2.2.2.size by omega)
      rw [← hT]
      clear hs1 hs2 hxi hT
      go_wp2
      go_roundg (gk - 1)
      case measure => omega
      case rel => exact ⟨i + 1, by rw [HS.out]; go_num, by go_num, by omega, rfl⟩
    · have hin : ¬ (i : Int) < (n : Int) := by omega
      have e : szs (E.take i) = szs E := by rw [List.take_of_length_le (by rw [HL.out]; omega)]
      rw [e]
      obtain ⟨T, hT⟩ : ∃ T, T = s.size + szs E := ⟨_, rfl⟩
      have HT := hid hT
      rw [← hT]
      clear e hT
      go_wp2
      go_ret
      refine ⟨?_, rfl⟩
      have : decide ((T : Int) ≤ 20000) = decide (Few s E) := by
        unfold Few
        have := HL.out
        have := HT.out
        exact decide_eq_decide.2 (by omega)
      rw [← this]
      rfl
set_option maxRecDepth 100000 in
set_option maxHeartbeats 2000000 in
theorem few_large (s : ByteArray) (p : Option Addr) (n c : Nat) (E : List Sp) (w : World) (hn : ¬ n ≤ 30) (hm : n ≤ 140737488351232) (h : SRow w p n E) :
    Calls Try.prog 10 #[.string s, .slice p n c] w fun e w' => e = .returned (.bool (decide (Few s E))) ∧ w = w' := by
  have HR := hid h
  have hl : E.length = n := by have := h.1; simpa using this
  have HF := hid (show decide (Few s E) = false from decide_eq_false fun hf => by have := hf.1; omega)
  have hn' : ¬ (n : Int) ≤ 30 := by omega
  clear h
  go_enter Try.func10, Try.ntmps10
  go_wp2_with fail
  go_loopg [5, 6] n (fun k s5 s6 wr => ∃ (i : Nat) (x : Int), s5 = .int .i64 x ∧ s6 = .int .i64 i ∧ i + k = n ∧ w = wr)
  case atStart => exact ⟨0, _, rfl, rfl, by omega, rfl⟩
  case round =>
    obtain ⟨i, y, rfl, rfl, hk, rfl⟩ := hrel
    by_cases hlt : i < n
    · have hlt' : (i : Int) < (n : Int) := by omega
      have hi0 : (0 : Int) ≤ (i : Int) := by omega
      obtain ⟨b, off, x, rfl, hb, hxi, _, c0, c1, c2, c3⟩ := SRow.at HR.out hlt
      clear hxi
      go_wp2
      go_roundg (gk - 1)
      case measure => omega
      case rel => exact ⟨i + 1, _, rfl, by go_num, by omega, rfl⟩
    · have hin : ¬ (i : Int) < (n : Int) := by omega
      go_wp2
      go_ret
      exact ⟨by rw [HF.out]; rfl, rfl⟩
theorem few_any (s : ByteArray) (p : Option Addr) (n c : Nat) (E : List Sp) (w : World) (hm : n ≤ 140737488351232) (hI : ∀ e ∈ E, InS e) (hs : s.size ≤ 140737488351232) (h : SRow w p n E) :
    Calls Try.prog 10 #[.string s, .slice p n c] w fun e w' => e = .returned (.bool (decide (Few s E))) ∧ w = w' := by
  by_cases hn : n ≤ 30
  · exact few_small s p n c E w hn hI hs h
  · exact few_large s p n c E w hn hm h
end Go.Proofs.Ytfhdbenomkbfjaa
