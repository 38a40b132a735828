/-
  RegexAlgebra, for every input: the law returns true and leaves its arguments as they read. No condition beside the listed variable's own text (the card ties it).
-/
import Derived.Test.YtednoideboeehaaDoorZ05
import Derived.Test.YtednoideboeehaaDoorZ22
import Derived.Test.YtednoideboeehaaDoorZ24
set_option linter.unusedSimpArgs false
set_option linter.unusedVariables false
namespace Go.Proofs.YtednoideboeehaaDoor.regexAlgebra
open Go.ChangeShapes Go.WideShapes Go.ChangeAt Go.RowKit Go.Frame
open Go.ChangeMaps (open_string shut_string)
open Bs Rg
attribute [local irreducible] ws
attribute [local go_sem] eq_zero eq_set
theorem L_cat2 {a b : Rx} {U : List UInt8} : L (cat [a, b]) U ↔ ∃ j, j < U.length + 1 ∧ L a (U.take j) ∧ L b (U.drop j) := by
  rw [cat, L_mk]
  simp only [LC_cons, LC_nil]
  constructor
  · intro h
    simp at h
    obtain ⟨u, v, rfl, hu, hv⟩ := h
    exact ⟨u.length, by simp; omega, by simpa using hu, by simpa using hv⟩
  · rintro ⟨j, hj, h1, h2⟩
    simp
    exact ⟨_, _, (List.take_append_drop j U).symm, h1, h2⟩
theorem L_alt2 {a b : Rx} {U : List UInt8} : L (alt [a, b]) U ↔ L a U ∨ L b U := by
  rw [alt, L_mk]
  simp only [LU_cons, LU_nil]
  simp
theorem L_star1 {a : Rx} {U : List UInt8} : L (star a) U ↔ U = [] ∨ ∃ j, j < U.length + 1 ∧ 0 < j ∧ L a (U.take j) ∧ L (star a) (U.drop j) := by
  have e : ∀ t, L (star a) t ↔ Rep (LU [a]) t := fun t => by rw [star, L_mk]; simp
  rw [e]
  constructor
  · intro h
    cases h with
    | nil => exact .inl rfl
    | @cons u v h1 h2 h3 =>
      refine .inr ⟨u.length, by simp; omega, List.length_pos_iff.2 h1, ?_, ?_⟩
      · rw [LU_cons, LU_nil] at h2; simpa using h2
      · rw [e]; simpa using h3
  · rintro (rfl | ⟨j, hj, h0, h1, h2⟩)
    · exact .nil
    · rw [← List.take_append_drop j U]
      refine .cons ?_ (by rw [LU_cons]; exact .inl h1) ((e _).1 h2)
      intro h
      have : (U.take j).length = 0 := by rw [h]; rfl
      rw [List.length_take] at this; omega
/-- Split at a place below i. -/
def spl (a b : Rx) (U : List UInt8) (i : Nat) : Bool := (List.range i).any fun j => mtc a (U.take j) && mtc b (U.drop j)
def mor (a m : Rx) (U : List UInt8) (i : Nat) : Bool := U.isEmpty || (List.range i).any fun j => decide (0 < j) && (mtc a (U.take j) && mtc m (U.drop j))
theorem spl_step (a b : Rx) (U : List UInt8) (i : Nat) : spl a b U (i + 1) = (spl a b U i || (mtc a (U.take i) && mtc b (U.drop i))) := by
  unfold spl; rw [List.range_succ, List.any_append]; simp
theorem mor_step (a m : Rx) (U : List UInt8) (i : Nat) : mor a m U (i + 1) = (mor a m U i || (decide (0 < i) && (mtc a (U.take i) && mtc m (U.drop i)))) := by
  unfold mor; rw [List.range_succ, List.any_append]; simp [Bool.or_assoc]
theorem spl_full {a b : Rx} (ha : Vd a) (hb : Vd b) (U : List UInt8) : spl a b U (U.length + 1) = mtc (cat [a, b]) U := by
  rw [Bool.eq_iff_iff, mtc_iff (vd_cat (by simp) (by simp [ha, hb])), L_cat2]
  unfold spl
  rw [List.any_eq_true]
  simp only [List.mem_range, Bool.and_eq_true, mtc_iff ha, mtc_iff hb]
theorem mor_full {a : Rx} (ha : Vd a) (U : List UInt8) : mor a (star a) U (U.length + 1) = mtc (star a) U := by
  rw [Bool.eq_iff_iff, mtc_iff (vd_star ha), L_star1]
  unfold mor
  rw [Bool.or_eq_true, List.any_eq_true]
  simp only [List.mem_range, Bool.and_eq_true, decide_eq_true_eq, mtc_iff ha, mtc_iff (vd_star ha), List.isEmpty_iff]
theorem alt_full {a b : Rx} (ha : Vd a) (hb : Vd b) (U : List UInt8) : mtc (alt [a, b]) U = (mtc a U || mtc b U) := by
  rw [Bool.eq_iff_iff, mtc_iff (vd_alt (by simp) (by simp [ha, hb])), L_alt2, Bool.or_eq_true, mtc_iff ha, mtc_iff hb]
theorem ext_take (s : ByteArray) (i : Nat) : (s.extract 0 i).data.toList = s.data.toList.take i := by simp [ByteArray.data_extract]
theorem ext_drop (s : ByteArray) (i : Nat) : (s.extract i s.size).data.toList = s.data.toList.drop i := by
  rw [ByteArray.data_extract, Array.toList_extract]
  exact List.take_of_length_le (by simp)
theorem emp_iff' (s : ByteArray) : (s.data.toList == []) = s.data.toList.isEmpty := by cases s.data.toList <;> rfl
theorem zrcs (K : Int) (v : Value) : rcs K none8 v = [.int .i64 K, .int .u64 0, .int .u64 0, .int .u64 0, .int .u64 0, v] := by
  unfold rcs; rw [ws_none, ws_none, ws_none, ws_none]; rfl
/-- An expression with no set, in a box. -/
def BZ (W : World) (b : Nat) (K : Int) (p n : Nat) (l : List Rx) : Prop :=
  W.heap[b]? = some (.cells #[.int .i64 K, .int .u64 0, .int .u64 0, .int .u64 0, .int .u64 0, .slice (some ⟨p, 0, none⟩) n n] 27 (0, 0)) ∧ Kd (fun _ => True) W (some ⟨p, 0, none⟩) n l
theorem bz_below {W W' : World} {b : Nat} {K : Int} {p n : Nat} {l : List Rx} (h : BZ W b K p n l) (hb : Below W.heap.size W W') : BZ W' b K p n l := ⟨(hb.block _ (heap_lt h.1)).trans h.1, h.2.below hb⟩
theorem bz_rc {W : World} {b : Nat} {K : Int} {p n : Nat} {l : List Rx} (h : BZ W b K p n l) : RC (fun _ => True) W (.mk K none8 l) [.int .i64 K, .int .u64 0, .int .u64 0, .int .u64 0, .int .u64 0, .slice (some ⟨p, 0, none⟩) n n] := by
  rw [← zrcs]; exact RC_mk.2 ⟨_, _, _, rfl, h.2⟩
theorem kid_cell {V : World} {b : Nat} {C : List Value} (h : V.heap[b]? = some (.cells C.toArray 27 (0, 0))) {j : Nat} {v : Value} (hv : C[j]? = some v) : V.cell? ⟨b, j, none⟩ = some v := by
  simp only [World.cell?, h]
  simp [hv]
theorem two_kids {W V : World} {K : Int} {x y : Rx} {c d : List Value} (hx : RC (fun _ => True) W x c) (hy : RC (fun _ => True) W y d) (hc : c.length = 6) (hd : d.length = 6) (hV : V = (W.alloc (.cells (c ++ d).toArray 27)).alloc (.cells #[.int .i64 K, .int .u64 0, .int .u64 0, .int .u64 0, .int .u64 0, .slice (some ⟨W.heap.size, 0, none⟩) 2 2] 27)) :
    BZ V (W.heap.size + 1) K W.heap.size 2 [x, y] ∧ Below W.heap.size W V := by
  obtain ⟨x0, x1, bV, hsz⟩ := Go.Frame.two W (.cells (c ++ d).toArray 27) (.cells #[.int .i64 K, .int .u64 0, .int .u64 0, .int .u64 0, .int .u64 0, .slice (some ⟨W.heap.size, 0, none⟩) 2 2] 27)
  rw [← hV] at x0 x1 bV hsz
  refine ⟨⟨x1, rfl, by decide, .inr ⟨W.heap.size, 0, rfl, trivial, heap_lt x0, ?_⟩⟩, bV⟩
  rw [RK, RK, RK]
  refine ⟨⟨c, fun j v hj => ?_, hx.below bV⟩, ⟨d, fun j v hj => ?_, hy.below bV⟩, trivial⟩
  · have hl := (List.getElem?_eq_some_iff.1 hj).1
    rw [Nat.zero_add]
    exact kid_cell x0 (by rw [List.getElem?_append_left hl]; exact hj)
  · refine kid_cell x0 ?_
    rw [List.getElem?_append_right (by omega), ← hj]
    congr 1; omega
theorem one_kid {W V : World} {K : Int} {x : Rx} {c : List Value} (hx : RC (fun _ => True) W x c) (hV : V = (W.alloc (.cells c.toArray 27)).alloc (.cells #[.int .i64 K, .int .u64 0, .int .u64 0, .int .u64 0, .int .u64 0, .slice (some ⟨W.heap.size, 0, none⟩) 1 1] 27)) :
    BZ V (W.heap.size + 1) K W.heap.size 1 [x] ∧ Below W.heap.size W V := by
  obtain ⟨x0, x1, bV, hsz⟩ := Go.Frame.two W (.cells c.toArray 27) (.cells #[.int .i64 K, .int .u64 0, .int .u64 0, .int .u64 0, .int .u64 0, .slice (some ⟨W.heap.size, 0, none⟩) 1 1] 27)
  rw [← hV] at x0 x1 bV hsz
  refine ⟨⟨x1, rfl, by decide, .inr ⟨W.heap.size, 0, rfl, trivial, heap_lt x0, ?_⟩⟩, bV⟩
  rw [RK, RK]
  exact ⟨⟨c, fun j v hj => by rw [Nat.zero_add]; exact kid_cell x0 hj, hx.below bV⟩, trivial⟩
set_option maxRecDepth 100000 in
set_option maxHeartbeats 4000000 in
theorem walk (q0 : Rx) (cs0 : List Value) (q1 : Rx) (cs1 : List Value) (t2 : ByteArray) (w : World) (hq0 : RC (fun _ => True) w q0 cs0) (hq1 : RC (fun _ => True) w q1 cs1) (hT : Tb w) :
    Calls Tryd.prog 10 #[.agg cs0.toArray, .agg cs1.toArray, .string t2] w fun e w' => e = .returned (.bool true) ∧ Below w.heap.size w w' := by
  obtain ⟨kA, sA, lA⟩ := q0
  obtain ⟨aA, nA, cA, rfl, hKA⟩ := RC_mk.1 hq0
  obtain ⟨kB, sB, lB⟩ := q1
  obtain ⟨aB, nB, cB, rfl, hKB⟩ := RC_mk.1 hq1
  have HRA := hid (fun V (hV : Below w.heap.size w V) => (hq0.below hV))
  have HRB := hid (fun V (hV : Below w.heap.size w V) => (hq1.below hV))
  have CA := hid (fun V (hV : Below w.heap.size w V) => awake_any V (hT.below hV))
  have CSA := hid (fun V (hV : Below w.heap.size w V) => small_any _ (.mk kA sA lA) 15 V _ (by decide) (hq0.below hV))
  have CSB := hid (fun V (hV : Below w.heap.size w V) => small_any _ (.mk kB sB lB) 15 V _ (by decide) (hq1.below hV))
  obtain ⟨yA, hyA⟩ : ∃ y, y = small (.mk kA sA lA) ((15 : Nat) : Int) := ⟨_, rfl⟩
  obtain ⟨yB, hyB⟩ : ∃ y, y = small (.mk kB sB lB) ((15 : Nat) : Int) := ⟨_, rfl⟩
  rw [← hyA] at CSA
  rw [← hyB] at CSB
  obtain ⟨W0, hW0⟩ : ∃ W, W = (w.alloc (.cells #[.int .i64 kA, .int .u64 (ws sA 0 : Int), .int .u64 (ws sA 1 : Int), .int .u64 (ws sA 2 : Int), .int .u64 (ws sA 3 : Int), .slice aA nA cA] 27)).alloc (.cells #[.int .i64 kB, .int .u64 (ws sB 0 : Int), .int .u64 (ws sB 1 : Int), .int .u64 (ws sB 2 : Int), .int .u64 (ws sB 3 : Int), .slice aB nB cB] 27) := ⟨_, rfl⟩
  have H0 := Go.Frame.two w (.cells #[.int .i64 kA, .int .u64 (ws sA 0 : Int), .int .u64 (ws sA 1 : Int), .int .u64 (ws sA 2 : Int), .int .u64 (ws sA 3 : Int), .slice aA nA cA] 27) (.cells #[.int .i64 kB, .int .u64 (ws sB 0 : Int), .int .u64 (ws sB 1 : Int), .int .u64 (ws sB 2 : Int), .int .u64 (ws sB 3 : Int), .slice aB nB cB] 27)
  rw [← hW0] at H0
  obtain ⟨p0, p1, p2, p3, p4, p5⟩ := cells6 (hW0 ▸ H0.1)
  have X0 := hid (And.intro H0.1 (And.intro H0.2.1 H0.2.2.1))
  have HY := hid (And.intro hyA hyB)
  clear H0 hKA hKB hq0 hq1 hT hyA hyB
  show Calls Tryd.prog 10 #[.agg #[.int .i64 kA, .int .u64 (ws sA 0 : Int), .int .u64 (ws sA 1 : Int), .int .u64 (ws sA 2 : Int), .int .u64 (ws sA 3 : Int), .slice aA nA cA], .agg #[.int .i64 kB, .int .u64 (ws sB 0 : Int), .int .u64 (ws sB 1 : Int), .int .u64 (ws sB 2 : Int), .int .u64 (ws sB 3 : Int), .slice aB nB cB], .string t2] w _
  go_enter Tryd.func10, Tryd.ntmps10
  go_wp2_with fail
  rw [← hW0]
  clear p0 p1 p2 p3 p4 p5 hW0
  refine (CSA.out _ X0.out.2.2).mono ?_
  rintro e W1 ⟨rfl, b1⟩
  have X1 := hid (And.intro ((b1.block _ (heap_lt X0.out.1)).trans X0.out.1) (And.intro ((b1.block _ (heap_lt X0.out.2.1)).trans X0.out.2.1) (X0.out.2.2.trans (b1.mono X0.out.2.2.size))))
  have Z1 := hid X1.out.2.2
  clear b1
  cases yA
  · skip
    go_wp2_with fail
    refine (CA.out _ Z1.out).mono ?_
    rintro e W9 ⟨rfl, b9⟩
    go_wp2
    go_ret
    exact ⟨rfl, Z1.out.trans (b9.mono Z1.out.size)⟩
  obtain ⟨p0, p1, p2, p3, p4, p5⟩ := cells6 X1.out.2.1
  go_wp2_with fail
  refine (CSB.out _ Z1.out).mono ?_
  rintro e W2 ⟨rfl, b2⟩
  have X2 := hid (And.intro ((b2.block _ (heap_lt X1.out.1)).trans X1.out.1) ((b2.block _ (heap_lt X1.out.2.1)).trans X1.out.2.1))
  have Z2 := hid (Z1.out.trans (b2.mono Z1.out.size))
  clear b2 p0 p1 p2 p3 p4 p5
  cases yB
  · skip
    go_wp2_with fail
    refine (CA.out _ Z2.out).mono ?_
    rintro e W9 ⟨rfl, b9⟩
    go_wp2
    go_ret
    exact ⟨rfl, Z2.out.trans (b9.mono Z2.out.size)⟩
  by_cases h8 : (8 : Int) < (t2.size : Int)
  · skip
    go_wp2_with fail
    refine (CA.out _ Z2.out).mono ?_
    rintro e W9 ⟨rfl, b9⟩
    go_wp2
    go_ret
    exact ⟨rfl, Z2.out.trans (b9.mono Z2.out.size)⟩
  have HL := hid (show t2.size ≤ 8 by omega)
  have HA := hid (small_of (r := (.mk kA sA lA)) (most := 15) HY.out.1.symm)
  have HB := hid (small_of (r := (.mk kB sB lB)) (most := 15) HY.out.2.symm)
  obtain ⟨p0, p1, p2, p3, p4, p5⟩ := cells6 X2.out.1
  obtain ⟨q0, q1, q2, q3, q4, q5⟩ := cells6 X2.out.2
  go_upto_region 4 with fail
  obtain ⟨V3, hV3⟩ : ∃ V, V = (W2.alloc (.cells #[.int .i64 kA, .int .u64 (ws sA 0 : Int), .int .u64 (ws sA 1 : Int), .int .u64 (ws sA 2 : Int), .int .u64 (ws sA 3 : Int), .slice aA nA cA, .int .i64 kB, .int .u64 (ws sB 0 : Int), .int .u64 (ws sB 1 : Int), .int .u64 (ws sB 2 : Int), .int .u64 (ws sB 3 : Int), .slice aB nB cB] 27)).alloc (.cells #[.int .i64 4, .int .u64 0, .int .u64 0, .int .u64 0, .int .u64 0, .slice (some ⟨W2.heap.size, 0, none⟩) 2 2] 27) := ⟨_, rfl⟩
  have G3 := hid (two_kids (W := W2) (V := V3) (K := 4) (HRA.out _ Z2.out) (HRB.out _ Z2.out) rfl rfl hV3)
  have X3 := hid (show V3.heap[w.heap.size]? = some (.cells #[.int .i64 kA, .int .u64 (ws sA 0 : Int), .int .u64 (ws sA 1 : Int), .int .u64 (ws sA 2 : Int), .int .u64 (ws sA 3 : Int), .slice aA nA cA] 27 (0, 0)) ∧ V3.heap[w.heap.size + 1]? = some (.cells #[.int .i64 kB, .int .u64 (ws sB 0 : Int), .int .u64 (ws sB 1 : Int), .int .u64 (ws sB 2 : Int), .int .u64 (ws sB 3 : Int), .slice aB nB cB] 27 (0, 0)) from ⟨(G3.out.2.block _ (heap_lt X2.out.1)).trans X2.out.1, (G3.out.2.block _ (heap_lt X2.out.2)).trans X2.out.2⟩)
  have Z3 := hid (Z2.out.trans (G3.out.2.mono Z2.out.size))
  rw [← hV3]
  clear hV3 p0 p1 p2 p3 p4 p5 q0 q1 q2 q3 q4 q5
  obtain ⟨p0, p1, p2, p3, p4, p5⟩ := cells6 X3.out.1
  obtain ⟨q0, q1, q2, q3, q4, q5⟩ := cells6 X3.out.2
  go_upto_region 5 with fail
  obtain ⟨V4, hV4⟩ : ∃ V, V = (V3.alloc (.cells #[.int .i64 kA, .int .u64 (ws sA 0 : Int), .int .u64 (ws sA 1 : Int), .int .u64 (ws sA 2 : Int), .int .u64 (ws sA 3 : Int), .slice aA nA cA, .int .i64 kB, .int .u64 (ws sB 0 : Int), .int .u64 (ws sB 1 : Int), .int .u64 (ws sB 2 : Int), .int .u64 (ws sB 3 : Int), .slice aB nB cB] 27)).alloc (.cells #[.int .i64 5, .int .u64 0, .int .u64 0, .int .u64 0, .int .u64 0, .slice (some ⟨V3.heap.size, 0, none⟩) 2 2] 27) := ⟨_, rfl⟩
  have G4 := hid (two_kids (W := V3) (V := V4) (K := 5) (HRA.out _ Z3.out) (HRB.out _ Z3.out) rfl rfl hV4)
  have X4 := hid (show V4.heap[w.heap.size]? = some (.cells #[.int .i64 kA, .int .u64 (ws sA 0 : Int), .int .u64 (ws sA 1 : Int), .int .u64 (ws sA 2 : Int), .int .u64 (ws sA 3 : Int), .slice aA nA cA] 27 (0, 0)) ∧ V4.heap[w.heap.size + 1]? = some (.cells #[.int .i64 kB, .int .u64 (ws sB 0 : Int), .int .u64 (ws sB 1 : Int), .int .u64 (ws sB 2 : Int), .int .u64 (ws sB 3 : Int), .slice aB nB cB] 27 (0, 0)) from ⟨(G4.out.2.block _ (heap_lt X3.out.1)).trans X3.out.1, (G4.out.2.block _ (heap_lt X3.out.2)).trans X3.out.2⟩)
  have Z4 := hid (Z3.out.trans (G4.out.2.mono Z3.out.size))
  rw [← hV4]
  clear hV4 p0 p1 p2 p3 p4 p5 q0 q1 q2 q3 q4 q5
  obtain ⟨p0, p1, p2, p3, p4, p5⟩ := cells6 X4.out.1
  go_upto_region 6 with fail
  obtain ⟨V5, hV5⟩ : ∃ V, V = (V4.alloc (.cells #[.int .i64 kA, .int .u64 (ws sA 0 : Int), .int .u64 (ws sA 1 : Int), .int .u64 (ws sA 2 : Int), .int .u64 (ws sA 3 : Int), .slice aA nA cA] 27)).alloc (.cells #[.int .i64 6, .int .u64 0, .int .u64 0, .int .u64 0, .int .u64 0, .slice (some ⟨V4.heap.size, 0, none⟩) 1 1] 27) := ⟨_, rfl⟩
  have G5 := hid (one_kid (W := V4) (V := V5) (K := 6) (HRA.out _ Z4.out) hV5)
  have X5 := hid (show V5.heap[w.heap.size]? = some (.cells #[.int .i64 kA, .int .u64 (ws sA 0 : Int), .int .u64 (ws sA 1 : Int), .int .u64 (ws sA 2 : Int), .int .u64 (ws sA 3 : Int), .slice aA nA cA] 27 (0, 0)) ∧ V5.heap[w.heap.size + 1]? = some (.cells #[.int .i64 kB, .int .u64 (ws sB 0 : Int), .int .u64 (ws sB 1 : Int), .int .u64 (ws sB 2 : Int), .int .u64 (ws sB 3 : Int), .slice aB nB cB] 27 (0, 0)) from ⟨(G5.out.2.block _ (heap_lt X4.out.1)).trans X4.out.1, (G5.out.2.block _ (heap_lt X4.out.2)).trans X4.out.2⟩)
  have Z5 := hid (Z4.out.trans (G5.out.2.mono Z4.out.size))
  rw [← hV5]
  clear hV5 p0 p1 p2 p3 p4 p5
  have P := hid (fun V (hV : Below V5.heap.size V5 V) => show (V.heap[w.heap.size]? = some (.cells #[.int .i64 kA, .int .u64 (ws sA 0 : Int), .int .u64 (ws sA 1 : Int), .int .u64 (ws sA 2 : Int), .int .u64 (ws sA 3 : Int), .slice aA nA cA] 27 (0, 0)) ∧ V.heap[w.heap.size + 1]? = some (.cells #[.int .i64 kB, .int .u64 (ws sB 0 : Int), .int .u64 (ws sB 1 : Int), .int .u64 (ws sB 2 : Int), .int .u64 (ws sB 3 : Int), .slice aB nB cB] 27 (0, 0))) ∧ BZ V (W2.heap.size + 1) 4 W2.heap.size 2 [(.mk kA sA lA), (.mk kB sB lB)] ∧ BZ V (V3.heap.size + 1) 5 V3.heap.size 2 [(.mk kA sA lA), (.mk kB sB lB)] ∧ BZ V (V4.heap.size + 1) 6 V4.heap.size 1 [(.mk kA sA lA)] ∧ Below w.heap.size w V from
    ⟨⟨(hV.block _ (heap_lt X5.out.1)).trans X5.out.1, (hV.block _ (heap_lt X5.out.2)).trans X5.out.2⟩, bz_below G3.out.1 (G4.out.2.trans ((G5.out.2.trans (hV.mono G5.out.2.size)).mono G4.out.2.size)), bz_below G4.out.1 (G5.out.2.trans (hV.mono G5.out.2.size)), bz_below G5.out.1 hV, Z5.out.trans (hV.mono Z5.out.size)⟩)
  have hvA : Vd (.mk kA sA lA) := HA.out.2.1
  have hvB : Vd (.mk kB sB lB) := HB.out.2.1
  have hvc : Vd (cat [(.mk kA sA lA), (.mk kB sB lB)]) := vd_cat (by simp) (by simp [hvA, hvB])
  have hve : Vd (alt [(.mk kA sA lA), (.mk kB sB lB)]) := vd_alt (by simp) (by simp [hvA, hvB])
  have hvm : Vd (star (.mk kA sA lA)) := vd_star hvA
  have HV := hid (And.intro hvA (And.intro hvB (And.intro hvc (And.intro hve hvm))))
  have hdA := HA.out.2.2
  have hdB := HB.out.2.2
  have HD := hid (show fits (cat [(.mk kA sA lA), (.mk kB sB lB)]) 30 = true ∧ fits (alt [(.mk kA sA lA), (.mk kB sB lB)]) 30 = true ∧ fits (star (.mk kA sA lA)) 30 = true ∧ fits (.mk kA sA lA) 30 = true ∧ fits (.mk kB sB lB) 30 = true from
    ⟨(fits_depth hvc).2 (by rw [depth_cat, depthL_two]; omega), (fits_depth hve).2 (by rw [depth_alt, depthL_two]; omega), (fits_depth hvm).2 (by rw [depth_star]; omega), (fits_depth hvA).2 (by omega), (fits_depth hvB).2 (by omega)⟩)
  have HPt := hid (show parts (cat [(.mk kA sA lA), (.mk kB sB lB)]) ≤ 1000000 ∧ parts (alt [(.mk kA sA lA), (.mk kB sB lB)]) ≤ 1000000 ∧ parts (star (.mk kA sA lA)) ≤ 1000000 ∧ parts (.mk kA sA lA) ≤ 1000000 ∧ parts (.mk kB sB lB) ≤ 1000000 from by
    have h1 := HA.out.1
    have h2 := HB.out.1
    refine ⟨?_, ?_, ?_, by omega, by omega⟩
    · rw [cat, parts, partsL, partsL, partsL]; omega
    · rw [alt, parts, partsL, partsL, partsL]; omega
    · rw [star, parts, partsL, partsL]; omega)
  clear hvA hvB hvc hve hvm hdA hdB
  have E1 := hid (fun V (hV : Below V5.heap.size V5 V) => show Calls Tryd.prog 15 #[.agg #[.int .i64 4, .int .u64 0, .int .u64 0, .int .u64 0, .int .u64 0, .slice (some ⟨W2.heap.size, 0, none⟩) 2 2]] V fun e w' => e = .returned (.bool true) ∧ Below V.heap.size V w' from (by have := rValid_any _ (cat [(.mk kA sA lA), (.mk kB sB lB)]) V _ (bz_rc (P.out V hV).2.1); rw [HD.out.1] at this; exact this))
  have E2 := hid (fun V (hV : Below V5.heap.size V5 V) => show Calls Tryd.prog 15 #[.agg #[.int .i64 6, .int .u64 0, .int .u64 0, .int .u64 0, .int .u64 0, .slice (some ⟨V4.heap.size, 0, none⟩) 1 1]] V fun e w' => e = .returned (.bool true) ∧ Below V.heap.size V w' from (by have := rValid_any _ (star (.mk kA sA lA)) V _ (bz_rc (P.out V hV).2.2.2.1); rw [HD.out.2.2.1] at this; exact this))
  have DA := hid (fun V (hV : Below V5.heap.size V5 V) => CA.out V (P.out V hV).2.2.2.2)
  have MA := hid (fun (x : ByteArray) (hx : x.size ≤ 8) V (hV : Below V5.heap.size V5 V) => show Calls Tryd.prog 23 #[.agg #[.int .i64 kA, .int .u64 (ws sA 0 : Int), .int .u64 (ws sA 1 : Int), .int .u64 (ws sA 2 : Int), .int .u64 (ws sA 3 : Int), .slice aA nA cA], .string x] V fun e w' => e = .returned (.bool (mtc (.mk kA sA lA) x.data.toList)) ∧ Below V.heap.size V w' from (Match_any _ (.mk kA sA lA) x V _ (fits_mono (by decide) HD.out.2.2.2.1) HPt.out.2.2.2.1 (by omega) (HRA.out _ (P.out V hV).2.2.2.2)))
  have MB := hid (fun (x : ByteArray) (hx : x.size ≤ 8) V (hV : Below V5.heap.size V5 V) => show Calls Tryd.prog 23 #[.agg #[.int .i64 kB, .int .u64 (ws sB 0 : Int), .int .u64 (ws sB 1 : Int), .int .u64 (ws sB 2 : Int), .int .u64 (ws sB 3 : Int), .slice aB nB cB], .string x] V fun e w' => e = .returned (.bool (mtc (.mk kB sB lB) x.data.toList)) ∧ Below V.heap.size V w' from (Match_any _ (.mk kB sB lB) x V _ (fits_mono (by decide) HD.out.2.2.2.2) HPt.out.2.2.2.2 (by omega) (HRB.out _ (P.out V hV).2.2.2.2)))
  have MC := hid (fun (x : ByteArray) (hx : x.size ≤ 8) V (hV : Below V5.heap.size V5 V) => show Calls Tryd.prog 23 #[.agg #[.int .i64 4, .int .u64 0, .int .u64 0, .int .u64 0, .int .u64 0, .slice (some ⟨W2.heap.size, 0, none⟩) 2 2], .string x] V fun e w' => e = .returned (.bool (mtc (cat [(.mk kA sA lA), (.mk kB sB lB)]) x.data.toList)) ∧ Below V.heap.size V w' from (Match_any _ (cat [(.mk kA sA lA), (.mk kB sB lB)]) x V _ (fits_mono (by decide) HD.out.1) HPt.out.1 (by omega) (bz_rc (P.out V hV).2.1)))
  have ME := hid (fun (x : ByteArray) (hx : x.size ≤ 8) V (hV : Below V5.heap.size V5 V) => show Calls Tryd.prog 23 #[.agg #[.int .i64 5, .int .u64 0, .int .u64 0, .int .u64 0, .int .u64 0, .slice (some ⟨V3.heap.size, 0, none⟩) 2 2], .string x] V fun e w' => e = .returned (.bool (mtc (alt [(.mk kA sA lA), (.mk kB sB lB)]) x.data.toList)) ∧ Below V.heap.size V w' from (Match_any _ (alt [(.mk kA sA lA), (.mk kB sB lB)]) x V _ (fits_mono (by decide) HD.out.2.1) HPt.out.2.1 (by omega) (bz_rc (P.out V hV).2.2.1)))
  have MM := hid (fun (x : ByteArray) (hx : x.size ≤ 8) V (hV : Below V5.heap.size V5 V) => show Calls Tryd.prog 23 #[.agg #[.int .i64 6, .int .u64 0, .int .u64 0, .int .u64 0, .int .u64 0, .slice (some ⟨V4.heap.size, 0, none⟩) 1 1], .string x] V fun e w' => e = .returned (.bool (mtc (star (.mk kA sA lA)) x.data.toList)) ∧ Below V.heap.size V w' from (Match_any _ (star (.mk kA sA lA)) x V _ (fits_mono (by decide) HD.out.2.2.1) HPt.out.2.2.1 (by omega) (bz_rc (P.out V hV).2.2.2.1)))
  have B0 := hid (Below.refl V5.heap.size V5)
  obtain ⟨p0, p1, p2, p3, p4, p5⟩ := cells6 (P.out _ B0.out).2.1.1
  go_wp2_with fail
  refine (E1.out _ B0.out).mono ?_
  rintro e W6 ⟨rfl, b6⟩
  have B1 := hid b6
  clear b6 p0 p1 p2 p3 p4 p5
  obtain ⟨p0, p1, p2, p3, p4, p5⟩ := cells6 (P.out _ B1.out).2.2.2.1.1
  go_wp2_with fail
  refine (E2.out _ B1.out).mono ?_
  rintro e W7 ⟨rfl, b7⟩
  have B2 := hid (B1.out.trans (b7.mono B1.out.size))
  clear b7 p0 p1 p2 p3 p4 p5
  go_wp2_with fail
  go_loopg [10, 11, 12] (t2.size + 1) (fun kk s10 s11 s12 wr => ∃ i : Nat, s10 = .bool (spl (.mk kA sA lA) (.mk kB sB lB) t2.data.toList i) ∧ s11 = .bool (mor (.mk kA sA lA) (star (.mk kA sA lA)) t2.data.toList i) ∧ s12 = .int .i64 (i : Int) ∧ i + kk = t2.size + 1 ∧ Below V5.heap.size V5 wr)
  case atStart => exact ⟨0, rfl, by unfold mor; simp [ByteArray.toList_eq], rfl, by omega, B2.out⟩
  case round =>
    obtain ⟨i, rfl, rfl, rfl, hk, hbw⟩ := hrel
    have BW := hid hbw
    clear hbw
    by_cases hlt : i < t2.size + 1
    · have hlt' : (i : Int) ≤ (t2.size : Int) := by omega
      have hx1 : t2.extract 0 i = t2.extract 0 i := rfl
      have hsz1 : (t2.extract 0 i).size ≤ 8 := by have := HL.out; rw [ByteArray.size_extract]; omega
      have hsz2 : (t2.extract i t2.size).size ≤ 8 := by have := HL.out; rw [ByteArray.size_extract]; omega
      obtain ⟨u1, hu1⟩ : ∃ u, u = t2.extract 0 i := ⟨_, rfl⟩
      obtain ⟨u2, hu2⟩ : ∃ u, u = t2.extract i t2.size := ⟨_, rfl⟩
      have MA1 := hid (MA.out (t2.extract 0 i) hsz1)
      have MB1 := hid (MB.out (t2.extract i t2.size) hsz2)
      have MM1 := hid (MM.out (t2.extract i t2.size) hsz2)
      rw [ext_take] at MA1
      rw [ext_drop] at MB1 MM1
      obtain ⟨y, hy⟩ : ∃ y, y = spl (.mk kA sA lA) (.mk kB sB lB) t2.data.toList i := ⟨_, rfl⟩
      obtain ⟨m, hm⟩ : ∃ m, m = mor (.mk kA sA lA) (star (.mk kA sA lA)) t2.data.toList i := ⟨_, rfl⟩
      obtain ⟨z1, hz1⟩ : ∃ z, z = mtc (.mk kA sA lA) (t2.data.toList.take i) := ⟨_, rfl⟩
      obtain ⟨z2, hz2⟩ : ∃ z, z = mtc (.mk kB sB lB) (t2.data.toList.drop i) := ⟨_, rfl⟩
      obtain ⟨z3, hz3⟩ : ∃ z, z = mtc (star (.mk kA sA lA)) (t2.data.toList.drop i) := ⟨_, rfl⟩
      rw [← hz1] at MA1
      rw [← hz2] at MB1
      rw [← hz3] at MM1
      rw [← hy, ← hm]
      have HS1 := hid (show spl (.mk kA sA lA) (.mk kB sB lB) t2.data.toList (i + 1) = (y || (z1 && z2)) by rw [spl_step, ← hy, ← hz1, ← hz2])
      have HM1 := hid (show mor (.mk kA sA lA) (star (.mk kA sA lA)) t2.data.toList (i + 1) = (m || (decide (0 < i) && (z1 && z3))) by rw [mor_step, ← hm, ← hz1, ← hz3])
      clear hy hm hz1 hz2 hz3 hu1 hu2 hsz1 hsz2 hx1
      have i0 : (i = 0) ∨ 0 < i := by omega
      cases y <;> cases z1 <;> cases m <;> rcases i0 with i0 | i0
      all_goals
        have g0 : decide ((0 : Int) < (i : Int)) = decide (0 < i) := by rw [decide_eq_decide]; omega
        first | (have g1 : decide ((0 : Int) < (i : Int)) = false := by rw [decide_eq_false_iff_not]; omega) | (have g1 : decide ((0 : Int) < (i : Int)) = true := by rw [decide_eq_true_eq]; omega)
        first | (have g2 : decide (0 < i) = false := by rw [decide_eq_false_iff_not]; omega) | (have g2 : decide (0 < i) = true := by rw [decide_eq_true_eq]; omega)
        have I0 := hid i0
        have HK := hid hk
        clear i0 hk g0
        go_wp2_with fail
        refine wp_region_below (by kernel_rfl) (by kernel_rfl) ?_
        intro X' f _ hf hs
        have k0 := fun x => (cells6 ((P.out _ (BW.out.trans ((hf.out x).mono BW.out.size))).1.1)).1
        have k1 := fun x => (cells6 ((P.out _ (BW.out.trans ((hf.out x).mono BW.out.size))).1.1)).2.1
        have k2 := fun x => (cells6 ((P.out _ (BW.out.trans ((hf.out x).mono BW.out.size))).1.1)).2.2.1
        have k3 := fun x => (cells6 ((P.out _ (BW.out.trans ((hf.out x).mono BW.out.size))).1.1)).2.2.2.1
        have k4 := fun x => (cells6 ((P.out _ (BW.out.trans ((hf.out x).mono BW.out.size))).1.1)).2.2.2.2.1
        have k5 := fun x => (cells6 ((P.out _ (BW.out.trans ((hf.out x).mono BW.out.size))).1.1)).2.2.2.2.2
        have m0 := fun x => (cells6 ((P.out _ (BW.out.trans ((hf.out x).mono BW.out.size))).1.2)).1
        have m1 := fun x => (cells6 ((P.out _ (BW.out.trans ((hf.out x).mono BW.out.size))).1.2)).2.1
        have m2 := fun x => (cells6 ((P.out _ (BW.out.trans ((hf.out x).mono BW.out.size))).1.2)).2.2.1
        have m3 := fun x => (cells6 ((P.out _ (BW.out.trans ((hf.out x).mono BW.out.size))).1.2)).2.2.2.1
        have m4 := fun x => (cells6 ((P.out _ (BW.out.trans ((hf.out x).mono BW.out.size))).1.2)).2.2.2.2.1
        have m5 := fun x => (cells6 ((P.out _ (BW.out.trans ((hf.out x).mono BW.out.size))).1.2)).2.2.2.2.2
        repeat (go_big_quiet_step (first
          | (go_at_call 23; with_reducible exact calls_below hf hs (MA1.out _ (BW.out.trans ((hf.out _).mono BW.out.size))))
          | (go_at_call 23; with_reducible exact calls_below hf hs (MB1.out _ (BW.out.trans ((hf.out _).mono BW.out.size))))))
        refine wpQuiet_nil ?_
        intro w3 hw3
        have BX := hid (BW.out.trans (hw3.mono BW.out.size))
        clear k0 k1 k2 k3 k4 k5 m0 m1 m2 m3 m4 m5 hf hs hw3
        go_wp2_with fail
        refine wp_region_below (by kernel_rfl) (by kernel_rfl) ?_
        intro X' f _ hf hs
        have k0 := fun x => (cells6 ((P.out _ (BX.out.trans ((hf.out x).mono BX.out.size))).1.1)).1
        have k1 := fun x => (cells6 ((P.out _ (BX.out.trans ((hf.out x).mono BX.out.size))).1.1)).2.1
        have k2 := fun x => (cells6 ((P.out _ (BX.out.trans ((hf.out x).mono BX.out.size))).1.1)).2.2.1
        have k3 := fun x => (cells6 ((P.out _ (BX.out.trans ((hf.out x).mono BX.out.size))).1.1)).2.2.2.1
        have k4 := fun x => (cells6 ((P.out _ (BX.out.trans ((hf.out x).mono BX.out.size))).1.1)).2.2.2.2.1
        have k5 := fun x => (cells6 ((P.out _ (BX.out.trans ((hf.out x).mono BX.out.size))).1.1)).2.2.2.2.2
        have m0 := fun x => (cells6 ((P.out _ (BX.out.trans ((hf.out x).mono BX.out.size))).2.2.2.1.1)).1
        have m1 := fun x => (cells6 ((P.out _ (BX.out.trans ((hf.out x).mono BX.out.size))).2.2.2.1.1)).2.1
        have m2 := fun x => (cells6 ((P.out _ (BX.out.trans ((hf.out x).mono BX.out.size))).2.2.2.1.1)).2.2.1
        have m3 := fun x => (cells6 ((P.out _ (BX.out.trans ((hf.out x).mono BX.out.size))).2.2.2.1.1)).2.2.2.1
        have m4 := fun x => (cells6 ((P.out _ (BX.out.trans ((hf.out x).mono BX.out.size))).2.2.2.1.1)).2.2.2.2.1
        have m5 := fun x => (cells6 ((P.out _ (BX.out.trans ((hf.out x).mono BX.out.size))).2.2.2.1.1)).2.2.2.2.2
        repeat (go_big_quiet_step (first
          | (go_at_call 23; with_reducible exact calls_below hf hs (MA1.out _ (BX.out.trans ((hf.out _).mono BX.out.size))))
          | (go_at_call 23; with_reducible exact calls_below hf hs (MM1.out _ (BX.out.trans ((hf.out _).mono BX.out.size))))))
        refine wpQuiet_nil ?_
        intro w4 hw4
        have BY := hid (BX.out.trans (hw4.mono BX.out.size))
        clear k0 k1 k2 k3 k4 k5 m0 m1 m2 m3 m4 m5 hf hs hw4
        go_wp2
        go_roundg (gk - 1)
        case measure => have := HK.out; omega
        case rel =>
          have hi0 := I0.out
          exact ⟨i + 1, by rw [HS1.out]; rfl, by rw [HM1.out]; first | rfl | simp [hi0], by go_num, by have := HK.out; omega, BY.out⟩
    · have hin : ¬ (i : Int) ≤ (t2.size : Int) := by omega
      obtain rfl : i = t2.size + 1 := by omega
      have hs1 := spl_full HV.out.1 HV.out.2.1 t2.data.toList
      have hs2 := mor_full HV.out.1 t2.data.toList
      rw [size_len] at hs1 hs2
      rw [hs1, hs2]
      have hs3 := alt_full HV.out.1 HV.out.2.1 t2.data.toList
      have FA := hid (MA.out t2 HL.out)
      have FB := hid (MB.out t2 HL.out)
      have FC := hid (MC.out t2 HL.out)
      have FE := hid (ME.out t2 HL.out)
      have FM := hid (MM.out t2 HL.out)
      rw [hs3] at FE
      obtain ⟨zc, hzc⟩ : ∃ z, z = mtc (cat [(.mk kA sA lA), (.mk kB sB lB)]) t2.data.toList := ⟨_, rfl⟩
      obtain ⟨zm, hzm⟩ : ∃ z, z = mtc (star (.mk kA sA lA)) t2.data.toList := ⟨_, rfl⟩
      obtain ⟨za, hza⟩ : ∃ z, z = mtc (.mk kA sA lA) t2.data.toList := ⟨_, rfl⟩
      obtain ⟨zb, hzb⟩ : ∃ z, z = mtc (.mk kB sB lB) t2.data.toList := ⟨_, rfl⟩
      rw [← hzc] at FC ⊢
      rw [← hzm] at FM ⊢
      rw [← hza] at FA FE
      rw [← hzb] at FB FE
      clear hs1 hs2 hs3 hzc hzm hza hzb MA MB MC ME MM hk hlt
      cases za
      all_goals
        simp only [Bool.false_or, Bool.true_or] at FE
        go_wp2_with fail
        refine wp_region_below (by kernel_rfl) (by kernel_rfl) ?_
        intro X' f _ hf hs
        have k0 := fun x => (cells6 ((P.out _ (BW.out.trans ((hf.out x).mono BW.out.size))).1.1)).1
        have k1 := fun x => (cells6 ((P.out _ (BW.out.trans ((hf.out x).mono BW.out.size))).1.1)).2.1
        have k2 := fun x => (cells6 ((P.out _ (BW.out.trans ((hf.out x).mono BW.out.size))).1.1)).2.2.1
        have k3 := fun x => (cells6 ((P.out _ (BW.out.trans ((hf.out x).mono BW.out.size))).1.1)).2.2.2.1
        have k4 := fun x => (cells6 ((P.out _ (BW.out.trans ((hf.out x).mono BW.out.size))).1.1)).2.2.2.2.1
        have k5 := fun x => (cells6 ((P.out _ (BW.out.trans ((hf.out x).mono BW.out.size))).1.1)).2.2.2.2.2
        have m0 := fun x => (cells6 ((P.out _ (BW.out.trans ((hf.out x).mono BW.out.size))).1.2)).1
        have m1 := fun x => (cells6 ((P.out _ (BW.out.trans ((hf.out x).mono BW.out.size))).1.2)).2.1
        have m2 := fun x => (cells6 ((P.out _ (BW.out.trans ((hf.out x).mono BW.out.size))).1.2)).2.2.1
        have m3 := fun x => (cells6 ((P.out _ (BW.out.trans ((hf.out x).mono BW.out.size))).1.2)).2.2.2.1
        have m4 := fun x => (cells6 ((P.out _ (BW.out.trans ((hf.out x).mono BW.out.size))).1.2)).2.2.2.2.1
        have m5 := fun x => (cells6 ((P.out _ (BW.out.trans ((hf.out x).mono BW.out.size))).1.2)).2.2.2.2.2
        have x0 := fun x => (cells6 ((P.out _ (BW.out.trans ((hf.out x).mono BW.out.size))).2.1.1)).1
        have x1 := fun x => (cells6 ((P.out _ (BW.out.trans ((hf.out x).mono BW.out.size))).2.1.1)).2.1
        have x2 := fun x => (cells6 ((P.out _ (BW.out.trans ((hf.out x).mono BW.out.size))).2.1.1)).2.2.1
        have x3 := fun x => (cells6 ((P.out _ (BW.out.trans ((hf.out x).mono BW.out.size))).2.1.1)).2.2.2.1
        have x4 := fun x => (cells6 ((P.out _ (BW.out.trans ((hf.out x).mono BW.out.size))).2.1.1)).2.2.2.2.1
        have x5 := fun x => (cells6 ((P.out _ (BW.out.trans ((hf.out x).mono BW.out.size))).2.1.1)).2.2.2.2.2
        have y0 := fun x => (cells6 ((P.out _ (BW.out.trans ((hf.out x).mono BW.out.size))).2.2.1.1)).1
        have y1 := fun x => (cells6 ((P.out _ (BW.out.trans ((hf.out x).mono BW.out.size))).2.2.1.1)).2.1
        have y2 := fun x => (cells6 ((P.out _ (BW.out.trans ((hf.out x).mono BW.out.size))).2.2.1.1)).2.2.1
        have y3 := fun x => (cells6 ((P.out _ (BW.out.trans ((hf.out x).mono BW.out.size))).2.2.1.1)).2.2.2.1
        have y4 := fun x => (cells6 ((P.out _ (BW.out.trans ((hf.out x).mono BW.out.size))).2.2.1.1)).2.2.2.2.1
        have y5 := fun x => (cells6 ((P.out _ (BW.out.trans ((hf.out x).mono BW.out.size))).2.2.1.1)).2.2.2.2.2
        have z0 := fun x => (cells6 ((P.out _ (BW.out.trans ((hf.out x).mono BW.out.size))).2.2.2.1.1)).1
        have z1 := fun x => (cells6 ((P.out _ (BW.out.trans ((hf.out x).mono BW.out.size))).2.2.2.1.1)).2.1
        have z2 := fun x => (cells6 ((P.out _ (BW.out.trans ((hf.out x).mono BW.out.size))).2.2.2.1.1)).2.2.1
        have z3 := fun x => (cells6 ((P.out _ (BW.out.trans ((hf.out x).mono BW.out.size))).2.2.2.1.1)).2.2.2.1
        have z4 := fun x => (cells6 ((P.out _ (BW.out.trans ((hf.out x).mono BW.out.size))).2.2.2.1.1)).2.2.2.2.1
        have z5 := fun x => (cells6 ((P.out _ (BW.out.trans ((hf.out x).mono BW.out.size))).2.2.2.1.1)).2.2.2.2.2
        repeat (go_big_quiet_step (first
          | (go_at_call 13; exact calls_below hf hs (DA.out _ (BW.out.trans ((hf.out _).mono BW.out.size))))
          | (go_at_call 23; with_reducible exact calls_below hf hs (FC.out _ (BW.out.trans ((hf.out _).mono BW.out.size))))
          | (go_at_call 23; with_reducible exact calls_below hf hs (FE.out _ (BW.out.trans ((hf.out _).mono BW.out.size))))
          | (go_at_call 23; with_reducible exact calls_below hf hs (FA.out _ (BW.out.trans ((hf.out _).mono BW.out.size))))
          | (go_at_call 23; with_reducible exact calls_below hf hs (FB.out _ (BW.out.trans ((hf.out _).mono BW.out.size))))
          | (go_at_call 23; with_reducible exact calls_below hf hs (FM.out _ (BW.out.trans ((hf.out _).mono BW.out.size))))))
        refine wpQuiet_nil ?_
        intro w3 hw3
        have BX := hid (BW.out.trans (hw3.mono BW.out.size))
        clear k0 k1 k2 k3 k4 k5 m0 m1 m2 m3 m4 m5 x0 x1 x2 x3 x4 x5 y0 y1 y2 y3 y4 y5 z0 z1 z2 z3 z4 z5 hf hs hw3
        go_wp2
        go_ret
        exact ⟨rfl, (P.out _ BX.out).2.2.2.2⟩

set_option maxRecDepth 100000 in
theorem lifted (os : Os) (started : os.Started) (H : Type) (enc : TypeId × Value → H) :
    ReturnsInHanded {} Tryd.checked os 10 .any (fun w args => (Rows.regexAlgebraSpec.pre enc Tryd.prog Tryd.f10 [] false w args ∧ laidMetH Tryd.prog laidT w) ∧ sizedMet enc Tryd.prog Tryd.f10 (OpenSpec.ofChange Rows.regexAlgebraSpec) false w args) (Rows.regexAlgebraSpec.post enc Tryd.prog Tryd.f10 false true false false) := by
  refine Go.Frame.lifted_laid (C := Tryd.checked) (tb := 4) laidT own started (by kernel_rfl) Tryd.func10
    (ChangeSpec.witness_shaped (enc := enc) (C := Tryd.checked) (os := os) (X := fun w _ => laidMetH Tryd.prog laidT w) false (World.doorLaid Tryd.prog 400 os) #[.agg #[.int .i64 0, .int .u64 0, .int .u64 0, .int .u64 0, .int .u64 0, .slice none 0 0], .agg #[.int .i64 0, .int .u64 0, .int .u64 0, .int .u64 0, .int .u64 0, .slice none 0 0], .string ByteArray.empty] 8 rfl (World.shaped_of_RefB (by kernel_rfl) (by kernel_rfl)) (by kernel_rfl) (by kernel_rfl) (by kernel_rfl) (door_met os _))
    laidOut (by kernel_rfl) (by kernel_rfl) Tryd.underlying4 rfl ?_ ?_
  · intro ds h
    have h : ds.length = 3 := h
    match ds, h with
    | [_, _, _], _ => rfl
  · intro W base args ds p hlen hval0 hA hsz0 hlaid
    have hval : ∀ (j : Nat) t v, Tryd.f10.params[j]? = some t → args[j]? = some v → Value.okWide Tryd.prog W .any base t v := hval0
    have hA : DataW.TrodAll enc Tryd.prog W 0 (fun _ => true) true Tryd.f10.params.toList args.toList ds p := hA
    have hsz : (DataW.weightsEach Tryd.prog Tryd.f10.params.toList ds).all (· ≤ reachBytes) = true := hsz0
    have hT := tb_of_laid hlaid
    rw [Tryd.params10] at hA hval hsz
    obtain ⟨v0, vs0, d0, ds0, p0, q0, hargs, hds, _, th0, tr0⟩ := trodAll_cons hA
    obtain ⟨v1, vs1, d1, ds1, p1, q1, rfl, rfl, _, th1, tr1⟩ := trodAll_cons tr0
    obtain ⟨v2, vs2, d2, ds2, p2, q2, rfl, rfl, _, th2, tr2⟩ := trodAll_cons tr1
    obtain ⟨rfl, rfl, _⟩ := trodAll_nil tr2
    obtain rfl : args = #[v0, v1, v2] := by cases args; simp_all
    subst hds
    obtain ⟨q0, cs0, rfl, hq0⟩ := open_rx (hval 0 27 v0 rfl rfl) th0 (fun n hn => of_decide_eq_true (List.all_eq_true.1 hsz _ (DataW.weights_mem_each (j := 0) rfl rfl n hn)))
    obtain ⟨q1, cs1, rfl, hq1⟩ := open_rx (hval 1 27 v1 rfl rfl) th1 (fun n hn => of_decide_eq_true (List.all_eq_true.1 hsz _ (DataW.weights_mem_each (j := 1) rfl rfl n hn)))
    obtain ⟨t2, rfl, hd2, _, _⟩ := open_string Tryd.underlying9 (hval 2 9 v2 rfl rfl) th2
    exact walk q0 cs0 q1 cs1 t2 W hq0 hq1 hT

theorem over : Rows.RegexAlgebraSaid :=
  OpenClaim.holds_of_wide 10 Tryd.f10 rfl rfl rfl rfl rfl rfl rfl ⟨rfl, rfl, rfl, rfl, rfl⟩ rfl rfl rfl rfl rfl (by kernel_rfl) Tryd.func10 (by kernel_rfl)
    (of_decide_eq_true (by kernel_rfl)) (by unfold Func.isWrapper; first | (rw [if_pos (by decide +kernel)]; kernel_rfl) | (rw [if_neg (by decide +kernel)]; exact ⟨rfl, rfl⟩))
    (fun os started H enc _ => lifted os started H enc)

/-- THE STATEMENT: the tied card. -/
theorem proved : Rows.RegexAlgebraCardSaid :=
  Claim7.holds_tied_plain_at .later [] [.data] true (true, "dd46b08e84a61b7e61138d74753cff02afb7ed2cf4ddd25005136ca1f7ca6772") false
    over (fun _ h => by cases h) (by kernel_rfl) (fun _ h => by cases h) regexAlgebra_row_tie rfl ⟨rfl, rfl⟩ (by kernel_rfl) rfl
    (fun f fn hf hfn => by
      obtain rfl : f = 10 := Option.some.inj ((show Tryd.prog.funcNamed "emendate/emendatelaw08.RegexAlgebra" = some 10 by kernel_rfl).symm.trans hf) |>.symm
      obtain rfl : fn = Tryd.f10 := (Option.some.inj (Tryd.func10.symm.trans hfn)).symm
      exact ⟨by kernel_rfl, fun j t ht => by
        rw [Tryd.params10] at ht
        have hm : t ∈ [27, 27, 9] := by simpa using Array.mem_of_getElem? ht
        have hall : ([27, 27, 9].all fun u => !Tryd.prog.wantsStandIn u) = true := by kernel_rfl
        exact (show Tryd.prog.wantsStandIn t = false by simpa using List.all_eq_true.1 hall t hm)⟩)
    (by kernel_rfl)
#print axioms proved
end Go.Proofs.YtednoideboeehaaDoor.regexAlgebra
