/-
  Contract: Difference.
-/
import Derived.Test.YtelbagaiijffdaaUr
import Derived.Test.YtelbagaiijffdaaIw
set_option linter.unusedSimpArgs false
set_option linter.unusedVariables false
namespace Go.Proofs.Ytelbagaiijffdaa
open Go.RowKit Lx Go.Frame
attribute [-instance] instBEqProd

def FT (T : Mo.Tb) (N : Nat) (W : World) (v : Value) : Prop := ∃ x1 y1 x2 y2, v = .agg #[.slice x1 N y1, .slice x2 N y2] ∧ Rows2 W x1 N (T.nx.map zs) ∧ Row W x2 N (T.ac.map iv)
theorem FT.keep {T : Mo.Tb} {N : Nat} {W W' : World} {v : Value} (h : FT T N W v) (hb : Below W.heap.size W W') : FT T N W' v := by
  obtain ⟨x1, y1, x2, y2, e, h1, h2⟩ := h
  exact ⟨x1, y1, x2, y2, e, h1.below hb, h2.below hb⟩
def FS (wB : World) (TA TB : Mo.Tb) (N P : Nat) (W : World) (v : Value) : Prop := ∃ (w0 : World) (sb se : Nat) (t : TbS), v = .pointer (some ⟨sb, 0, none⟩) ∧ SS w0.heap.size W sb se N P t [] (.slice none 0 0) ∧ Below w0.heap.size w0 W ∧ Rows2 w0 t.x1 N (TA.nx.map zs) ∧ Row w0 t.x2 N (TA.ac.map iv) ∧ Rows2 w0 t.u1 P (TB.nx.map zs) ∧ Row w0 t.u2 P (TB.ac.map iv) ∧ Below wB.heap.size wB w0
theorem FS.keep {wB : World} {TA TB : Mo.Tb} {N P : Nat} {W W' : World} {v : Value} (h : FS wB TA TB N P W v) (hb : Below W.heap.size W W') : FS wB TA TB N P W' v := by
  obtain ⟨w0, sb, se, t, e, h1, h2, h3⟩ := h
  exact ⟨w0, sb, se, t, e, h1.keep hb, h2.trans (hb.mono h2.size), h3⟩
/-- What Difference says. -/
def DfRes (D E : Df) (e : Ending) : Prop := (∃ s : ByteArray, e = .returned (.tuple #[.string s, .bool true]) ∧ rn D 0 s.data.toList ≠ rn E 0 s.data.toList ∧ ∀ t, rn D 0 t ≠ rn E 0 t → Bf.vl (nat8 s.data.toList) ≤ Bf.vl (nat8 t)) ∨ (e = .returned (.tuple #[.string ByteArray.empty, .bool false]) ∧ ∀ t, rn D 0 t = rn E 0 t)
set_option maxRecDepth 100000 in
set_option maxHeartbeats 8000000 in
theorem difference_any (w : World) (D E : Df) (n k m l : Nat) (hv : Vd D n k) (hw : Vd E m l) (a1 : Option Addr) (n1 c1 : Nat) (a2 : Option Addr) (n2 c2 : Nat) (a3 : Option Addr) (n3 c3 : Nat) (h : DA w D a1 n1 a2 n2 a3 n3) (b1 : Option Addr) (m1 d1 : Nat) (b2 : Option Addr) (m2 d2 : Nat) (b3 : Option Addr) (m3 d3 : Nat) (h' : DA w E b1 m1 b2 m2 b3 m3) :
    Calls Try.prog 16 #[.agg #[.slice a1 n1 c1, .slice a2 n2 c2, .slice a3 n3 c3], .agg #[.slice b1 m1 d1, .slice b2 m2 d2, .slice b3 m3 d3]] w fun e w' => DfRes D E e ∧ Below w.heap.size w w' := by
  have HV := hid (And.intro hv (And.intro hw (And.intro h h')))
  have hlen := fby_len (E := E) hv.cl
  have HL := hid hlen
  have hn500 := hv.le
  have hm500 := hw.le
  obtain ⟨W, hW⟩ : ∃ W, W = (w.alloc (.cells #[.slice a1 n1 c1, .slice a2 n2 c2, .slice a3 n3 c3] 25)).alloc (.cells #[.slice b1 m1 d1, .slice b2 m2 d2, .slice b3 m3 d3] 25) := ⟨_, rfl⟩
  have x1 := alloc_new w (.cells #[.slice a1 n1 c1, .slice a2 n2 c2, .slice a3 n3 c3] 25)
  have hWx : W.heap[w.heap.size]? = some (.cells #[.slice a1 n1 c1, .slice a2 n2 c2, .slice a3 n3 c3] 25 (0, 0)) ∧ W.heap[w.heap.size + 1]? = some (.cells #[.slice b1 m1 d1, .slice b2 m2 d2, .slice b3 m3 d3] 25 (0, 0)) ∧ Below w.heap.size w W := by
    rw [hW]
    refine ⟨blk_alloc x1, ?_, (bel1 _ _).alloc (by simp) _⟩
    have := alloc_new (w.alloc (.cells #[.slice a1 n1 c1, .slice a2 n2 c2, .slice a3 n3 c3] 25)) (.cells #[.slice b1 m1 d1, .slice b2 m2 d2, .slice b3 m3 d3] 25)
    rw [World.size_alloc] at this
    exact this
  clear x1
  have HW := hid hWx
  obtain ⟨p0, p1, p2⟩ := cells3 hWx.1
  obtain ⟨q0, q1, q2⟩ := cells3 hWx.2.1
  have CV := hid (show Calls Try.prog 10 #[.agg #[.slice a1 n1 c1, .slice a2 n2 c2, .slice a3 n3 c3]] W fun e w' => e = .returned (.bool true) ∧ Below W.heap.size W w' from by
    have := Valid_any W D a1 n1 c1 a2 n2 c2 a3 n3 c3 (h.below hWx.2.2)
    rw [valid_iff.2 ⟨n, k, hv⟩] at this
    exact this)
  clear hWx h h' hv hw hlen
  go_enter Try.func16, Try.ntmps16
  go_upto_region 1 with fail
  rw [← hW]
  clear hW
  go_wp2_with fail
  refine CV.out.mono ?_
  rintro e V ⟨rfl, bb1⟩
  have HX := hid (And.intro (HW.out.2.2.trans (bb1.mono HW.out.2.2.size)) (And.intro ((bb1.block _ (heap_lt HW.out.1)).trans HW.out.1) ((bb1.block _ (heap_lt HW.out.2.1)).trans HW.out.2.1)))
  clear bb1 CV p0 p1 p2 q0 q1 q2
  obtain ⟨q0, q1, q2⟩ := cells3 HX.out.2.2
  have CV := hid (show Calls Try.prog 10 #[.agg #[.slice b1 m1 d1, .slice b2 m2 d2, .slice b3 m3 d3]] V fun e w' => e = .returned (.bool true) ∧ Below V.heap.size V w' from by
    have := Valid_any V E b1 m1 d1 b2 m2 d2 b3 m3 d3 (HV.out.2.2.2.below HX.out.1)
    rw [valid_iff.2 ⟨m, l, HV.out.2.1⟩] at this
    exact this)
  go_wp2_with fail
  refine CV.out.mono ?_
  rintro e V2 ⟨rfl, bb2⟩
  have HY := hid (And.intro (HX.out.1.trans (bb2.mono HX.out.1.size)) (And.intro ((bb2.block _ (heap_lt HX.out.2.1)).trans HX.out.2.1) ((bb2.block _ (heap_lt HX.out.2.2)).trans HX.out.2.2)))
  clear bb2 CV q0 q1 q2
  obtain ⟨p0, p1, p2⟩ := cells3 HY.out.2.1
  obtain ⟨q0, q1, q2⟩ := cells3 HY.out.2.2
  have C3 := hid (classPairs_any V2 D E n k m l HV.out.1 HV.out.2.1 a1 n1 c1 a2 n2 c2 a3 n3 c3 (HV.out.2.2.1.below HY.out.1) b1 m1 d1 b2 m2 d2 b3 m3 d3 (HV.out.2.2.2.below HY.out.1))
  go_wp2_with fail
  refine C3.out.mono ?_
  rintro e V3 ⟨⟨g3, rfl, hP3, hg3⟩, bb3⟩
  rw [cps_len]
  have HY3 := hid (show Below w.heap.size w V3 from HY.out.1.trans (bb3.mono HY.out.1.size))
  have HB3 := hid bb3
  have C4 := hid (ranksP_any V3 g3 256 256 (cps D E) hP3 (cps_len D E) (by omega) _ rfl)
  clear hP3 hg3 bb3 C3 p0 p1 p2 q0 q1 q2
  go_wp2_with fail
  refine C4.out.mono ?_
  rintro e V4 ⟨⟨g4, rfl, hI4, hg4⟩, bb4⟩
  have hlr : (zs (Rk.ranks (cps D E))).length = 256 := by rw [zs_len, Rk.ranks_length, cps_len]
  rw [hlr]
  have hI4r := hI4.row
  rw [hlr] at hI4r
  have HB4 := hid (HB3.out.trans (bb4.mono HB3.out.size))
  have C5 := hid (firsts_any V4 (some ⟨g4, 0, none⟩) 256 256 (zs (Rk.ranks (cps D E))) hI4r (by omega) (fby (cps D E)) rfl)
  clear hI4 hg4 bb4 C4 hlr hI4r
  go_wp2_with fail
  refine C5.out.mono ?_
  rintro e V5 ⟨⟨fa, fc, rfl, hF5⟩, bb5⟩
  obtain ⟨M, hM⟩ : ∃ M, M = (fby (cps D E)).length := ⟨_, rfl⟩
  rw [← hM] at hF5 ⊢
  have HM := hid hM
  have HB5 := hid (And.intro (HB4.out.trans (bb5.mono HB4.out.size)) hF5)
  have HZ := hid (show Below w.heap.size w V5 ∧ V5.heap[w.heap.size]? = some (.cells #[.slice a1 n1 c1, .slice a2 n2 c2, .slice a3 n3 c3] 25 (0, 0)) ∧ V5.heap[w.heap.size + 1]? = some (.cells #[.slice b1 m1 d1, .slice b2 m2 d2, .slice b3 m3 d3] 25 (0, 0)) from
    ⟨HY.out.1.trans (HB5.out.1.mono HY.out.1.size), (HB5.out.1.block _ (heap_lt HY.out.2.1)).trans HY.out.2.1, (HB5.out.1.block _ (heap_lt HY.out.2.2)).trans HY.out.2.2⟩)
  clear hF5 bb5 C5 hM
  go_upto_region 4 with fail
  refine region_inv (fun b a' w' => ∃ (v23 v24 v25 v26 v27 v28 v29 v7 : Value), a' = { tmps := #[.agg #[.slice a1 n1 c1, .slice a2 n2 c2, .slice a3 n3 c3], .agg #[.slice b1 m1 d1, .slice b2 m2 d2, .slice b3 m3 d3], .pointer (some ⟨w.heap.size, 0, none⟩), .pointer (some ⟨w.heap.size + 1, 0, none⟩), .string { data := #[] }, .bool false, .slice fa M fc, v7, undef, undef, .agg #[.slice a1 n1 c1, .slice a2 n2 c2, .slice a3 n3 c3], .bool true, .bool false, .bool false, .agg #[.slice b1 m1 d1, .slice b2 m2 d2, .slice b3 m3 d3], .bool true, .bool false, .bool false, .agg #[.slice a1 n1 c1, .slice a2 n2 c2, .slice a3 n3 c3], .agg #[.slice b1 m1 d1, .slice b2 m2 d2, .slice b3 m3 d3], .slice (some ⟨g3, 0, none⟩) 256 256, .slice (some ⟨g4, 0, none⟩) 256 256, .slice fa M fc, v23, v24, v25, v26, v27, v28, v29, undef, undef, undef, undef, undef, undef, undef, undef, undef, undef, undef], defers := [] } ∧ Below V5.heap.size V5 w' ∧ (b 0 = true → v23 = .agg #[.slice a1 n1 c1, .slice a2 n2 c2, .slice a3 n3 c3]) ∧ (b 1 = true → v24 = .slice fa M fc) ∧ (b 2 = true → FT (tb D (fby (cps D E))) (n + 1) w' v25) ∧ (b 3 = true → v26 = .agg #[.slice b1 m1 d1, .slice b2 m2 d2, .slice b3 m3 d3]) ∧ (b 4 = true → v27 = .slice fa M fc) ∧ (b 5 = true → FT (tb E (fby (cps D E))) (m + 1) w' v28) ∧ (b 6 = true → FS V5 (tb D (fby (cps D E))) (tb E (fby (cps D E))) (n + 1) (m + 1) w' v29) ∧ (b 7 = true → FS V5 (tb D (fby (cps D E))) (tb E (fby (cps D E))) (n + 1) (m + 1) w' v7) ∧ (b 2 = true → b 0 = true) ∧ (b 2 = true → b 1 = true) ∧ (b 5 = true → b 3 = true) ∧ (b 5 = true → b 4 = true) ∧ (b 6 = true → b 2 = true) ∧ (b 6 = true → b 5 = true) ∧ (b 7 = true → b 6 = true)) (by kernel_rfl) (back_of (by kernel_rfl)) ?step ?done ?init
  case step =>
    rintro b a' w' i o ho ⟨v23, v24, v25, v26, v27, v28, v29, v7, rfl, hk, h0, h1, h2, h3, h4, h5, h6, h7, q2_0, q2_1, q5_3, q5_4, q6_2, q6_5, q7_6⟩ hbi hd K hK
    have hlt : i < 8 := by have := (Array.getElem?_eq_some_iff.1 ho).1; simpa using this
    have dep : ∀ k, (o.after.any fun e => Region.binds .any e && e.on == k) = true → b k = true := fun k hk => by
      obtain ⟨e, he, h⟩ := Array.any_eq_true'.1 hk
      simp only [Bool.and_eq_true, beq_iff_eq] at h
      rw [← h.2]; exact hd e he h.1
    clear hd
    have hi : i = 0 ∨ i = 1 ∨ i = 2 ∨ i = 3 ∨ i = 4 ∨ i = 5 ∨ i = 6 ∨ i = 7 := by omega
    clear hlt
    rcases hi with rfl | rfl | rfl | rfl | rfl | rfl | rfl | rfl
    · simp only [List.getElem?_toArray, List.getElem?_cons_zero, List.getElem?_cons_succ, Option.some.injEq] at ho
      subst ho
      obtain ⟨e0, e1, e2⟩ := cells3 ((hk.block _ (heap_lt HZ.out.2.1)).trans HZ.out.2.1)
      go_simp
      refine hK.out _ _ ⟨_, _, _, _, _, _, _, _, rfl, hk, fun _ => rfl, fun h => h1 (by simpa using h), fun h => h2 (by simpa using h), fun h => h3 (by simpa using h), fun h => h4 (by simpa using h), fun h => h5 (by simpa using h), fun h => h6 (by simpa using h), fun h => h7 (by simpa using h), fun h => by simp [q2_0 (by simpa using h)], fun h => by simp [q2_1 (by simpa using h)], fun h => by simp [q5_3 (by simpa using h)], fun h => by simp [q5_4 (by simpa using h)], fun h => by simp [q6_2 (by simpa using h)], fun h => by simp [q6_5 (by simpa using h)], fun h => by simp [q7_6 (by simpa using h)]⟩
    · simp only [List.getElem?_toArray, List.getElem?_cons_zero, List.getElem?_cons_succ, Option.some.injEq] at ho
      subst ho
      go_simp
      refine hK.out _ _ ⟨_, _, _, _, _, _, _, _, rfl, hk, fun h => h0 (by simpa using h), fun _ => rfl, fun h => h2 (by simpa using h), fun h => h3 (by simpa using h), fun h => h4 (by simpa using h), fun h => h5 (by simpa using h), fun h => h6 (by simpa using h), fun h => h7 (by simpa using h), fun h => by simp [q2_0 (by simpa using h)], fun h => by simp [q2_1 (by simpa using h)], fun h => by simp [q5_3 (by simpa using h)], fun h => by simp [q5_4 (by simpa using h)], fun h => by simp [q6_2 (by simpa using h)], fun h => by simp [q6_5 (by simpa using h)], fun h => by simp [q7_6 (by simpa using h)]⟩
    · simp only [List.getElem?_toArray, List.getElem?_cons_zero, List.getElem?_cons_succ, Option.some.injEq] at ho
      subst ho
      have e_0 := dep 0 (by kernel_rfl)
      have e_1 := dep 1 (by kernel_rfl)
      obtain rfl := h0 e_0
      obtain rfl := h1 e_1
      have CC := newTable_any w' D n k HV.out.1 a1 n1 c1 a2 n2 c2 a3 n3 c3 (HV.out.2.2.1.below (HZ.out.1.trans (hk.mono HZ.out.1.size))) fa M fc (fby (cps D E)) (HB5.out.2.below hk) (by have := HL.out; have := HM.out; omega) (by have := HL.out; have := HM.out; omega) (fby_lt _)
      have CC := hid CC
      go_simp
      refine CC.out.mono ?_
      rintro e W5 ⟨⟨x1, y1, x2, y2, rfl, r1, r2⟩, b5⟩
      refine hK.out _ _ ⟨_, _, _, _, _, _, _, _, rfl, hk.trans (b5.mono hk.size), fun _ => rfl, fun _ => rfl, fun _ => ⟨x1, y1, x2, y2, rfl, r1, r2⟩, fun h => h3 (by simpa using h), fun h => h4 (by simpa using h), fun h => FT.keep (h5 (by simpa using h)) b5, fun h => FS.keep (h6 (by simpa using h)) b5, fun h => FS.keep (h7 (by simpa using h)) b5, fun _ => by simp [e_0], fun _ => by simp [e_1], fun h => by simp [q5_3 (by simpa using h)], fun h => by simp [q5_4 (by simpa using h)], fun h => by simp [q6_2 (by simpa using h)], fun h => by simp [q6_5 (by simpa using h)], fun h => by simp [q7_6 (by simpa using h)]⟩
    · simp only [List.getElem?_toArray, List.getElem?_cons_zero, List.getElem?_cons_succ, Option.some.injEq] at ho
      subst ho
      obtain ⟨e0, e1, e2⟩ := cells3 ((hk.block _ (heap_lt HZ.out.2.2)).trans HZ.out.2.2)
      go_simp
      refine hK.out _ _ ⟨_, _, _, _, _, _, _, _, rfl, hk, fun h => h0 (by simpa using h), fun h => h1 (by simpa using h), fun h => h2 (by simpa using h), fun _ => rfl, fun h => h4 (by simpa using h), fun h => h5 (by simpa using h), fun h => h6 (by simpa using h), fun h => h7 (by simpa using h), fun h => by simp [q2_0 (by simpa using h)], fun h => by simp [q2_1 (by simpa using h)], fun h => by simp [q5_3 (by simpa using h)], fun h => by simp [q5_4 (by simpa using h)], fun h => by simp [q6_2 (by simpa using h)], fun h => by simp [q6_5 (by simpa using h)], fun h => by simp [q7_6 (by simpa using h)]⟩
    · simp only [List.getElem?_toArray, List.getElem?_cons_zero, List.getElem?_cons_succ, Option.some.injEq] at ho
      subst ho
      go_simp
      refine hK.out _ _ ⟨_, _, _, _, _, _, _, _, rfl, hk, fun h => h0 (by simpa using h), fun h => h1 (by simpa using h), fun h => h2 (by simpa using h), fun h => h3 (by simpa using h), fun _ => rfl, fun h => h5 (by simpa using h), fun h => h6 (by simpa using h), fun h => h7 (by simpa using h), fun h => by simp [q2_0 (by simpa using h)], fun h => by simp [q2_1 (by simpa using h)], fun h => by simp [q5_3 (by simpa using h)], fun h => by simp [q5_4 (by simpa using h)], fun h => by simp [q6_2 (by simpa using h)], fun h => by simp [q6_5 (by simpa using h)], fun h => by simp [q7_6 (by simpa using h)]⟩
    · simp only [List.getElem?_toArray, List.getElem?_cons_zero, List.getElem?_cons_succ, Option.some.injEq] at ho
      subst ho
      have e_3 := dep 3 (by kernel_rfl)
      have e_4 := dep 4 (by kernel_rfl)
      obtain rfl := h3 e_3
      obtain rfl := h4 e_4
      have CC := newTable_any w' E m l HV.out.2.1 b1 m1 d1 b2 m2 d2 b3 m3 d3 (HV.out.2.2.2.below (HZ.out.1.trans (hk.mono HZ.out.1.size))) fa M fc (fby (cps D E)) (HB5.out.2.below hk) (by have := HL.out; have := HM.out; omega) (by have := HL.out; have := HM.out; omega) (fby_lt _)
      have CC := hid CC
      go_simp
      refine CC.out.mono ?_
      rintro e W5 ⟨⟨x1, y1, x2, y2, rfl, r1, r2⟩, b5⟩
      refine hK.out _ _ ⟨_, _, _, _, _, _, _, _, rfl, hk.trans (b5.mono hk.size), fun h => h0 (by simpa using h), fun h => h1 (by simpa using h), fun h => FT.keep (h2 (by simpa using h)) b5, fun _ => rfl, fun _ => rfl, fun _ => ⟨x1, y1, x2, y2, rfl, r1, r2⟩, fun h => FS.keep (h6 (by simpa using h)) b5, fun h => FS.keep (h7 (by simpa using h)) b5, fun h => by simp [q2_0 (by simpa using h)], fun h => by simp [q2_1 (by simpa using h)], fun _ => by simp [e_3], fun _ => by simp [e_4], fun h => by simp [q6_2 (by simpa using h)], fun h => by simp [q6_5 (by simpa using h)], fun h => by simp [q7_6 (by simpa using h)]⟩
    · simp only [List.getElem?_toArray, List.getElem?_cons_zero, List.getElem?_cons_succ, Option.some.injEq] at ho
      subst ho
      have e_2 := dep 2 (by kernel_rfl)
      have e_5 := dep 5 (by kernel_rfl)
      have e_0 := q2_0 e_2
      have e_1 := q2_1 e_2
      have e_3 := q5_3 e_5
      have e_4 := q5_4 e_5
      obtain rfl := h0 e_0
      obtain rfl := h1 e_1
      obtain rfl := h3 e_3
      obtain rfl := h4 e_4
      obtain ⟨x1, y1, x2, y2, rfl, r1, r2⟩ := h2 e_2
      obtain ⟨u1, z1, u2, z2, rfl, r3, r4⟩ := h5 e_5
      have CC := newSearch_any w' (n + 1) (m + 1) ⟨x1, y1, x2, y2, u1, z1, u2, z2⟩ (by omega) (by omega)
      dsimp only at CC
      have CC := hid CC
      go_simp
      refine CC.out.mono ?_
      rintro e W5 ⟨⟨sb, se, rfl, hS⟩, b5⟩
      refine hK.out _ _ ⟨_, _, _, _, _, _, _, _, rfl, hk.trans (b5.mono hk.size), fun _ => rfl, fun _ => rfl, fun _ => ⟨x1, y1, x2, y2, rfl, r1.below b5, r2.below b5⟩, fun _ => rfl, fun _ => rfl, fun _ => ⟨u1, z1, u2, z2, rfl, r3.below b5, r4.below b5⟩, fun _ => ⟨w', sb, se, ⟨x1, y1, x2, y2, u1, z1, u2, z2⟩, rfl, hS, b5, r1, r2, r3, r4, hk⟩, fun h => FS.keep (h7 (by simpa using h)) b5, fun h => by simp [q2_0 (by simpa using h)], fun h => by simp [q2_1 (by simpa using h)], fun h => by simp [q5_3 (by simpa using h)], fun h => by simp [q5_4 (by simpa using h)], fun _ => by simp [e_2], fun _ => by simp [e_5], fun h => by simp [q7_6 (by simpa using h)]⟩
    · simp only [List.getElem?_toArray, List.getElem?_cons_zero, List.getElem?_cons_succ, Option.some.injEq] at ho
      subst ho
      have e_6 := dep 6 (by kernel_rfl)
      have e_2 := q6_2 e_6
      have e_5 := q6_5 e_6
      have e_0 := q2_0 e_2
      have e_1 := q2_1 e_2
      have e_3 := q5_3 e_5
      have e_4 := q5_4 e_5
      obtain rfl := h0 e_0
      obtain rfl := h1 e_1
      obtain rfl := h3 e_3
      obtain rfl := h4 e_4
      go_simp
      refine hK.out _ _ ⟨_, _, _, _, _, _, _, _, rfl, hk, fun _ => rfl, fun _ => rfl, fun h => h2 (by simpa using h), fun _ => rfl, fun _ => rfl, fun h => h5 (by simpa using h), fun h => h6 (by simpa using h), fun _ => h6 e_6, fun h => by simp [q2_0 (by simpa using h)], fun h => by simp [q2_1 (by simpa using h)], fun h => by simp [q5_3 (by simpa using h)], fun h => by simp [q5_4 (by simpa using h)], fun h => by simp [q6_2 (by simpa using h)], fun h => by simp [q6_5 (by simpa using h)], fun _ => by simp [e_6]⟩
  case done =>
    rintro b a' w' ⟨v23, v24, v25, v26, v27, v28, v29, v7, rfl, hk, h0, h1, h2, h3, h4, h5, h6, h7, q2_0, q2_1, q5_3, q5_4, q6_2, q6_5, q7_6⟩ hall
    obtain rfl := h0 (hall 0)
    obtain rfl := h1 (hall 1)
    obtain rfl := h3 (hall 3)
    obtain rfl := h4 (hall 4)
    obtain ⟨w0, sb, se, t, rfl, hS, hb0, r1, r2, r3, r4, hbB⟩ := h7 (hall 7)
    have HS := hid (And.intro hS (And.intro hb0 (And.intro hk hbB)))
    have CR := hid (run_any w0 w' sb se (n + 1) (m + 1) t (tb D (fby (cps D E))) (tb E (fby (cps D E))) M (by rw [HM.out]; exact vt_tb HV.out.1 _ (fby_lt _)) (by rw [HM.out]; exact vt_tb HV.out.2.1 _ (fby_lt _)) r1 r2 r3 r4 (by omega) (by omega) (by omega) (by omega) (by have := HL.out; have := HM.out; omega) hS hb0)
    clear h0 h1 h2 h3 h4 h5 h6 h7 hS hb0 hk hall r1 r2 r3 r4 hbB
    obtain ⟨Z, hZ⟩ : ∃ Z, Z = w' := ⟨_, rfl⟩
    rw [← hZ] at HS CR ⊢
    clear hZ
    go_wp2_with fail
    refine CR.out.mono ?_
    rintro e Z2 ⟨V, vis, i, hSS, hbS, hO, hI, hac, hcase⟩
    have hb5 : Below V5.heap.size V5 Z2 := HS.out.2.2.2.trans (hbS.mono HS.out.2.2.2.size)
    have hbZ : Below w.heap.size w Z2 := HZ.out.1.trans (hb5.mono HZ.out.1.size)
    have hrF := HB5.out.2.below hb5
    clear hb5
    rw [HM.out] at hI
    have HI := hid (And.intro hSS (And.intro hO (And.intro hI (And.intro hac hbZ))))
    have hVl := hO.len
    have hNP : (n + 1) * (m + 1) ≤ 501 * 501 := Nat.mul_le_mul (by omega) (by omega)
    clear hSS hbS hO hI hac hbZ CR
    rcases hcase with ⟨rfl, u, hu, hne⟩ | ⟨rfl, hie⟩
    · obtain ⟨s, hs, _⟩ := vb_at hu
      have hiV := (List.getElem?_eq_some_iff.1 hu).1
      have hcol : ∀ (j : Nat) (v : Vis), V[j]? = some v → j ≠ 0 → v.2.2.2 < M := fun j v hv9 hj => by
        obtain ⟨s9, hs9, hvb9⟩ := vb_at hv9
        have h8 := strs_at hv9 hj ((HI.out.2.1.bef j v hv9).resolve_left hj)
        rw [hs9] at h8
        have h7 := (HI.out.2.2.1.reach _ (List.mem_of_getElem? hvb9)).2.1
        dsimp only at h7
        rw [Option.some.inj h8] at h7
        rw [HM.out]
        exact h7 _ (by simp)
      have CP := hid (path_any w0.heap.size Z2 sb se (n + 1) (m + 1) t V vis HI.out.1 HI.out.2.1 (by omega) i hiV s hs fa M fc (fby (cps D E)) hrF (fby_lt _) hcol)
      obtain ⟨h256, hdif, hleast⟩ := found_spec HV.out.1 HV.out.2.1 HI.out.2.2.1 HI.out.2.2.2.1 hu hne hs
      have hdat : (strOfNums (zs (byL (fby (cps D E)) s))).data.toList = to8 (byL (fby (cps D E)) s) := by
        rw [strOfNums_data]
        unfold zs to8
        rw [List.map_map]
        rfl
      have HSP := hid (show DfRes D E (.returned (.tuple #[.string (strOfNums (zs (byL (fby (cps D E)) s))), .bool true])) from .inl ⟨_, rfl, by rw [hdat]; exact hdif, fun t9 ht => by rw [hdat, nat8_to8 h256]; exact hleast t9 ht⟩)
      clear hu hs hne hcol h256 hdif hleast hdat hrF
      go_wp2_with fail
      refine CP.out.mono ?_
      rintro e Z3 ⟨rfl, hb3⟩
      have HZ3 := hid (HI.out.2.2.2.2.trans (hb3.mono HI.out.2.2.2.2.size))
      clear hb3 CP
      go_wp2
      go_ret2
      exact ⟨HSP.out, HZ3.out⟩
    · have HSP := hid (show DfRes D E (.returned (.tuple #[.string ByteArray.empty, .bool false])) from .inr ⟨rfl, fun t9 => before HV.out.1 HV.out.2.1 HI.out.2.2.1 HI.out.2.2.2.1 t9 fun b9 hb9 => by
        have := (List.getElem?_eq_some_iff.1 hb9).1
        rw [vb_len] at this
        omega⟩)
      clear hie hrF
      go_wp2
      go_ret2
      exact ⟨HSP.out, HI.out.2.2.2.2⟩
  case init =>
    exact ⟨_, _, _, _, _, _, _, _, rfl, (Below.refl _ _).drew, fun h => absurd h (by simp), fun h => absurd h (by simp), fun h => absurd h (by simp), fun h => absurd h (by simp), fun h => absurd h (by simp), fun h => absurd h (by simp), fun h => absurd h (by simp), fun h => absurd h (by simp), fun h => absurd h (by simp), fun h => absurd h (by simp), fun h => absurd h (by simp), fun h => absurd h (by simp), fun h => absurd h (by simp), fun h => absurd h (by simp), fun h => absurd h (by simp)⟩
end Go.Proofs.Ytelbagaiijffdaa
