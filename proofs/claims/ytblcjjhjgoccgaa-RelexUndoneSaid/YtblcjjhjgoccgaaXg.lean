/-
  Contract: rescan.
-/
import Derived.Test.YtblcjjhjgoccgaaXf
set_option linter.unusedSimpArgs false
set_option linter.unusedVariables false
namespace Go.Proofs.Ytblcjjhjgoccgaa
open Go.RowKit Lx Go.Frame

/-- What rescan returns. -/
def RsRes (w : World) (O : List TQ) (k : Nat) (e : Ending) (w' : World) : Prop := (∃ a c, e = .returned (.tuple #[.slice a O.length c, .int .i64 (k : Int)]) ∧ TRow w' a O.length O) ∧ Below w.heap.size w w'
theorem take_of {O A B : List TQ} {N : Nat} (h : O ++ A = B) (hN : N = O.length) : B.take N = O := by rw [← h, hN, List.take_left]
set_option maxRecDepth 100000 in
set_option maxHeartbeats 4000000 in
theorem rescan_any (w : World) (D : Df) (n k : Nat) (hv : Vd D n k) (a1 : Option Addr) (n1 c1 : Nat) (a2 : Option Addr) (n2 c2 : Nat) (a3 : Option Addr) (n3 c3 : Nat) (h : DA w D a1 n1 a2 n2 a3 n3) (t : ByteArray) (hs : t.size ≤ 1000000)
    (a : Option Addr) (m c : Nat) (L : List TQ) (hr : TRow w a m L) (hm : m ≤ 1000000) (hi : Inc L) (x y : Nat) (ins : ByteArray) (hx : x ≤ 1000000) (hy : y ≤ 1000000) (hins : ins.size ≤ 1000000) (p0 : Nat) (hp0 : p0 ≤ t.size) :
    Calls Try.prog 25 #[.agg #[.slice a1 n1 c1, .slice a2 n2 c2, .slice a3 n3 c3], .string t, .slice a m c, .agg #[.int .i64 (x : Int), .int .i64 (y : Int), .string ins], .int .i64 (p0 : Int)] w (RsRes w (((lexAt D t p0).map tq).take (rsc D t L ((x : Int) + ins.size) ((ins.size : Int) - y) p0).1) (rsc D t L ((x : Int) + ins.size) ((ins.size : Int) - y) p0).2) := by
  have HV := hid (And.intro hv h)
  have HRW := hid (And.intro hr (And.intro hm hi))
  have HLN := hid hr.len
  have CST := hid (fun V (hV : Below w.heap.size w V) u => starting_any V a m c L (hr.below hV) (by omega) hi u)
  obtain ⟨RR, hRR⟩ : ∃ RR, RR = RsRes w (((lexAt D t p0).map tq).take (rsc D t L ((x : Int) + ins.size) ((ins.size : Int) - y) p0).1) (rsc D t L ((x : Int) + ins.size) ((ins.size : Int) - y) p0).2 := ⟨_, rfl⟩
  have HRR := hid hRR
  rw [← hRR]
  obtain ⟨W, hW⟩ : ∃ W, W = (w.alloc (.cells #[.slice a1 n1 c1, .slice a2 n2 c2, .slice a3 n3 c3] 25)).alloc (.cells #[.int .i64 (x : Int), .int .i64 (y : Int), .string ins] 27) := ⟨_, rfl⟩
  obtain ⟨x1, x2, bW, sW⟩ := two w (.cells #[.slice a1 n1 c1, .slice a2 n2 c2, .slice a3 n3 c3] 25) (.cells #[.int .i64 (x : Int), .int .i64 (y : Int), .string ins] 27)
  rw [← hW] at x1 x2 bW sW
  have CSC := hid (scanner_any W (.bool true) a1 n1 c1 a2 n2 c2 a3 n3 c3 t (p0 : Int))
  rw [sW] at CSC
  have HW := hid (And.intro x1 (And.intro x2 (And.intro bW sW)))
  obtain ⟨d0, d1, d2⟩ := cells3 x1
  clear h hv hr hm hi bW sW hRR x1 x2
  go_enter Try.func25, Try.ntmps25
  go_upto_region 1 with fail
  rw [← hW]
  clear hW
  go_wp2_with fail
  refine CSC.out.mono ?_
  rintro e V ⟨rfl, k1, k2, k3, kV⟩
  have HVB := hid (HW.out.2.2.1.trans (kV.mono (by omega)))
  have HX0 := hid (show V.heap[w.heap.size]? = some (.cells #[.slice a1 n1 c1, .slice a2 n2 c2, .slice a3 n3 c3] 25 (0, 0)) ∧ V.heap[w.heap.size + 1]? = some (.cells #[.int .i64 (x : Int), .int .i64 (y : Int), .string ins] 27 (0, 0)) ∧ V.heap[w.heap.size + 2]? = some (.cells #[.slice a1 n1 c1, .slice a2 n2 c2, .slice a3 n3 c3] 25 (0, 0)) ∧ V.heap[w.heap.size + 3]? = some (.cells #[.string t] 9 (0, 0)) ∧ V.heap[w.heap.size + 4]? = some (.cells #[.int .i64 (p0 : Int)] 3 (0, 0)) from
    ⟨(kV.block _ (by have := HW.out.2.2.2; omega)).trans HW.out.1, (kV.block _ (by have := HW.out.2.2.2; omega)).trans HW.out.2.1, k1, k2, k3⟩)
  clear k1 k2 k3 kV CSC d0 d1 d2
  go_wp2_with fail
  go_loopg [4, 13] (t.size - p0) (fun kk s4 s13 wr => ∃ (p : Nat) (out : List TQ), s4 = .int .i64 (p : Int) ∧ p ≤ t.size ∧ kk = t.size - p ∧ out ++ (lexAt D t p).map tq = (lexAt D t p0).map tq ∧
    rsc D t L ((x : Int) + ins.size) ((ins.size : Int) - y) p0 = ((rsc D t L ((x : Int) + ins.size) ((ins.size : Int) - y) p).1 + out.length, (rsc D t L ((x : Int) + ins.size) ((ins.size : Int) - y) p).2) ∧
    wr.ownsRow (w.heap.size + 5) 47 4 s13 out.length (tl out) ∧
    (wr.heap[w.heap.size]? = some (.cells #[.slice a1 n1 c1, .slice a2 n2 c2, .slice a3 n3 c3] 25 (0, 0)) ∧ wr.heap[w.heap.size + 1]? = some (.cells #[.int .i64 (x : Int), .int .i64 (y : Int), .string ins] 27 (0, 0)) ∧ wr.heap[w.heap.size + 2]? = some (.cells #[.slice a1 n1 c1, .slice a2 n2 c2, .slice a3 n3 c3] 25 (0, 0)) ∧ wr.heap[w.heap.size + 3]? = some (.cells #[.string t] 9 (0, 0)) ∧ wr.heap[w.heap.size + 4]? = some (.cells #[.int .i64 (p : Int)] 3 (0, 0))) ∧ Below w.heap.size w wr)
  case atStart => exact ⟨p0, [], rfl, hp0, rfl, rfl, rfl, World.ownsRow_nil _ _ _ _, HX0.out, HVB.out⟩
  case round =>
    obtain ⟨p, out, rfl, hpt, hk, hr1, hr2, hown, hX, hb⟩ := hrel
    have HR := hid (And.intro hr1 hr2)
    have HO := hid hown
    have HX := hid hX
    have HB := hid hb
    have HOL := hid (show out.length ≤ 1000000 from by
      have h1 := congrArg List.length hr1
      have h2 := lexAt_len D t (t.size - p0) p0 (Nat.le_refl _)
      simp only [List.length_append, List.length_map] at h1
      omega)
    obtain ⟨x1, x2, x3⟩ := cells3 hX.2.1
    clear hr1 hr2 hown hX hb
    by_cases hlt : p < t.size
    · have hlt' : (p : Int) < (t.size : Int) := by omega
      have hs1 : IntKind.i64.wrap ((x : Int) + (ins.size : Int)) = (x : Int) + (ins.size : Int) := wrapIn (by omega) (by omega)
      have hs2 : IntKind.i64.wrap ((p : Int) - (ins.size : Int)) = (p : Int) - (ins.size : Int) := wrapIn (by omega) (by omega)
      have hs3 : IntKind.i64.wrap ((p : Int) - (ins.size : Int) + (y : Int)) = (p : Int) - (ins.size : Int) + (y : Int) := wrapIn (by omega) (by omega)
      by_cases hlo : (x : Int) + (ins.size : Int) ≤ (p : Int)
      · have CC := hid (CST.out wr HB.out ((p : Int) - (ins.size : Int) + (y : Int)))
        obtain ⟨fq, hfq⟩ : ∃ fq, fq = decide (fd L ((p : Int) - (ins.size : Int) + (y : Int)) < L.length) := ⟨_, rfl⟩
        have HFQ := hid hfq
        unfold SgRes at CC
        rw [← hfq] at CC
        clear hfq
        go_wp2_with fail
        refine CC.out.mono ?_
        rintro e U ⟨⟨kf, rfl, hkf⟩, kU⟩
        have HKF := hid hkf
        have HB := hid (HB.out.trans (kU.mono HB.out.size))
        have HO := hid (ownsRow_keep HO.out fun b hb => kU.block b (HO.out.lt b hb).2)
        have go := fun (b : Nat) (o : Obj) (h : wr.heap[b]? = some o) => (kU.block b (heap_lt h)).trans h
        have HX := hid (show U.heap[w.heap.size]? = some (.cells #[.slice a1 n1 c1, .slice a2 n2 c2, .slice a3 n3 c3] 25 (0, 0)) ∧ U.heap[w.heap.size + 1]? = some (.cells #[.int .i64 (x : Int), .int .i64 (y : Int), .string ins] 27 (0, 0)) ∧ U.heap[w.heap.size + 2]? = some (.cells #[.slice a1 n1 c1, .slice a2 n2 c2, .slice a3 n3 c3] 25 (0, 0)) ∧ U.heap[w.heap.size + 3]? = some (.cells #[.string t] 9 (0, 0)) ∧ U.heap[w.heap.size + 4]? = some (.cells #[.int .i64 (p : Int)] 3 (0, 0)) from
          ⟨go _ _ HX.out.1, go _ _ HX.out.2.1, go _ _ HX.out.2.2.1, go _ _ HX.out.2.2.2.1, go _ _ HX.out.2.2.2.2⟩)
        clear go kU hkf x1 x2 x3
        obtain ⟨x1, x2, x3⟩ := cells3 HX.out.2.1
        cases fq
        · have hno : ¬ ((x : Int) + (ins.size : Int) ≤ (p : Int) ∧ fd L ((p : Int) - ((ins.size : Int) - (y : Int))) < L.length) := fun h => by
            have h1 := of_decide_eq_false HFQ.out.symm
            rw [show (p : Int) - ((ins.size : Int) - (y : Int)) = (p : Int) - (ins.size : Int) + (y : Int) by omega] at h
            exact h1 h.2
          have HT := hid (rsc_next (D := D) (L := L) (lo := (x : Int) + ins.size) (d := (ins.size : Int) - y) hlt hno)
          have HE := hid (show (lexAt D t p).map tq = tq (tokAt D t p) :: (lexAt D t (p + (sc D t p).2.1)).map tq from by rw [lexAt_cons hlt]; rfl)
          obtain ⟨q1, q2, q3, q4, q5⟩ := sc_bounds (D := D) hlt
          have ql := tok_len (D := D) hlt
          have CS := hid (scan_any U D n k HV.out.1 t p (w.heap.size + 2) (w.heap.size + 3) (w.heap.size + 4) a1 n1 c1 a2 n2 c2 a3 n3 c3 ⟨HV.out.2.below HB.out, HX.out.2.2.1, HX.out.2.2.2.1, HX.out.2.2.2.2⟩ ⟨by omega, by omega⟩ (by omega) hlt)
          obtain ⟨tk, htk⟩ : ∃ tk, tk = (sc D t p).1 := ⟨_, rfl⟩
          obtain ⟨z, hz⟩ : ∃ z, z = (sc D t p).2.1 := ⟨_, rfl⟩
          obtain ⟨lk, hlk⟩ : ∃ lk, lk = (sc D t p).2.2 := ⟨_, rfl⟩
          obtain ⟨tx, htx⟩ : ∃ tx, tx = (tokAt D t p).txt := ⟨_, rfl⟩
          have hqe : tq (tokAt D t p) = (tk, (p : Int), tx, (lk : Int)) := by rw [htk, hlk, htx]; rfl
          rw [hqe] at CS HE
          rw [← htx, ← hz] at ql
          rw [← hz] at q1 q2 q3 CS HE HT
          have hsum : IntKind.i64.wrap ((p : Int) + (tx.size : Int)) = ((p + z : Nat) : Int) := by rw [ql, wrapIn (by omega) (by omega)]; omega
          have CS := hid (show Calls Try.prog 51 #[.pointer (some ⟨w.heap.size + 2, 0, none⟩), .pointer (some ⟨w.heap.size + 3, 0, none⟩), .pointer (some ⟨w.heap.size + 4, 0, none⟩)] U fun e w' => e = .returned (.agg #[.int .i64 tk, .int .i64 (p : Int), .string tx, .int .i64 (lk : Int)]) ∧ w'.heap[w.heap.size + 4]? = some (.cells #[.int .i64 ((p + z : Nat) : Int)] 3 (0, 0)) ∧ Kept (fun b => b = w.heap.size + 4 ∨ U.heap.size ≤ b) U w' from CS.out)
          have QL := hid ql
          clear htk hlk htx hqe q3 q4 q5 hz ql
          go_wp2_with fail
          refine CS.out.mono ?_
          rintro e V ⟨rfl, hV3, kV⟩
          have hws := HB.out.size
          have HL5 := hid (heap_lt HX.out.2.2.2.2)
          have BV := hid (HB.out.trans (kV.toBelow (n := w.heap.size) (fun b hb => by omega)))
          have hXV := hid (show V.heap[w.heap.size]? = some (.cells #[.slice a1 n1 c1, .slice a2 n2 c2, .slice a3 n3 c3] 25 (0, 0)) ∧ V.heap[w.heap.size + 1]? = some (.cells #[.int .i64 (x : Int), .int .i64 (y : Int), .string ins] 27 (0, 0)) ∧ V.heap[w.heap.size + 2]? = some (.cells #[.slice a1 n1 c1, .slice a2 n2 c2, .slice a3 n3 c3] 25 (0, 0)) ∧ V.heap[w.heap.size + 3]? = some (.cells #[.string t] 9 (0, 0)) ∧ V.heap[w.heap.size + 4]? = some (.cells #[.int .i64 ((p + z : Nat) : Int)] 3 (0, 0)) from
            ⟨(kV.block _ (by have := HL5.out; omega)).trans HX.out.1, (kV.block _ (by have := HL5.out; omega)).trans HX.out.2.1, (kV.block _ (by have := HL5.out; omega)).trans HX.out.2.2.1, (kV.block _ (by have := HL5.out; omega)).trans HX.out.2.2.2.1, hV3⟩)
          have HOV := hid (ownsRow_keep HO.out fun b hb => kV.block b (by have := (HO.out.lt b hb); omega))
          have HS5 := hid (show w.heap.size + 5 ≤ V.heap.size from by have := heap_lt hXV.out.2.2.2.2; omega)
          clear kV hV3 CS
          go_upto_region 9 with fail
          obtain ⟨X, hX⟩ : ∃ X, X = V.alloc (.cells #[.int .i64 tk, .int .i64 (p : Int), .string tx, .int .i64 (lk : Int)] 47) := ⟨_, rfl⟩
          have y1 := alloc_new V (.cells #[.int .i64 tk, .int .i64 (p : Int), .string tx, .int .i64 (lk : Int)] 47)
          have bX := bel1 V (.cells #[.int .i64 tk, .int .i64 (p : Int), .string tx, .int .i64 (lk : Int)] 47)
          have HOX := own_alloc HOV.out (.cells #[.int .i64 tk, .int .i64 (p : Int), .string tx, .int .i64 (lk : Int)] 47)
          rw [← hX] at y1 bX HOX ⊢
          have BX := hid bX
          have hXs := hid (show V.heap.size < X.heap.size from heap_lt y1)
          have HOXX := hid HOX
          obtain ⟨e0, e1, e2, e3⟩ := cells4 y1
          have Y1 := hid y1
          clear hX bX HOX y1
          have hown := HOXX.out
          obtain ⟨i0, hi, hz0, hz1, hz2⟩ := info_parts info47
          go_wp2_with (at_builtin; refine wpList_append_own _ rfl (.tmp 51) (.tmp 53) 32 rfl (w.heap.size + 5) 47 i0 _ 4 40 Try.underlying32 hi hz0 hz1 hz2 rfl (by decide) _ _ _ rfl (own_alloc hown _) ⟨X.heap.size, 0, none⟩ 1 1 (tqv (tk, (p : Int), tx, (lk : Int))) rfl rfl ?c1 ?c2 ?c3 ?c4 ?c5 ?_)
          case c1 => first | exact World.news_of_block (alloc_new _ _) | exact fun j u h => h
          case c2 => exact tqv_one
          case c3 => have := HOL.out; unfold maxLen; omega
          case c4 => have := HOL.out; omega
          case c5 => have := HS5.out; have := hXs.out; simp; omega
          intro v' Y hown' hgrow _
          have BY := hid (show Below w.heap.size w Y from ((BV.out.trans (BX.out.mono BV.out.size)).alloc (by have := BV.out.size; have := hXs.out; omega) _).grown hgrow (by have := BV.out.size; have := hXs.out; simp; omega) (fun b hb => by have := (hown.lt b hb).1; omega))
          have KY := (Kept.refl (fun b => b ≠ V.heap.size ∧ w.heap.size + 5 ≤ b) (X.alloc (.cells #[.int .i64 tk, .int .i64 (p : Int), .string tx, .int .i64 (lk : Int)] 47))).grown hgrow (fun b hb => by have := hXs.out; have := HS5.out; simp at hb; omega) (fun b hb => ⟨by have := (HOV.out.lt b hb).2; omega, (HOV.out.lt b hb).1⟩)
          have y1 := (KY.block V.heap.size (fun h => h.1 rfl)).trans (blk_alloc Y1.out)
          have hXY := hid (show Y.heap[w.heap.size]? = some (.cells #[.slice a1 n1 c1, .slice a2 n2 c2, .slice a3 n3 c3] 25 (0, 0)) ∧ Y.heap[w.heap.size + 1]? = some (.cells #[.int .i64 (x : Int), .int .i64 (y : Int), .string ins] 27 (0, 0)) ∧ Y.heap[w.heap.size + 2]? = some (.cells #[.slice a1 n1 c1, .slice a2 n2 c2, .slice a3 n3 c3] 25 (0, 0)) ∧ Y.heap[w.heap.size + 3]? = some (.cells #[.string t] 9 (0, 0)) ∧ Y.heap[w.heap.size + 4]? = some (.cells #[.int .i64 ((p + z : Nat) : Int)] 3 (0, 0)) from by
            have go : ∀ b o, V.heap[b]? = some o → b < w.heap.size + 5 → Y.heap[b]? = some o := fun b o h hb => (KY.block b (fun h => by omega)).trans (blk_alloc ((BX.out.block b (heap_lt h)).trans h))
            exact ⟨go _ _ hXV.out.1 (by omega), go _ _ hXV.out.2.1 (by omega), go _ _ hXV.out.2.2.1 (by omega), go _ _ hXV.out.2.2.2.1 (by omega), go _ _ hXV.out.2.2.2.2 (by omega)⟩)
          obtain ⟨e0, e1, e2, e3⟩ := cells4 y1
          have HOY := hid (show Y.ownsRow (w.heap.size + 5) 47 4 v' (out ++ [(tk, (p : Int), tx, (lk : Int))]).length (tl (out ++ [(tk, (p : Int), tx, (lk : Int))])) from by rw [tl_app, tl_one, List.length_append]; exact hown')
          have HRY := hid (show (out ++ [(tk, (p : Int), tx, (lk : Int))]) ++ (lexAt D t (p + z)).map tq = (lexAt D t p0).map tq from by rw [← HR.out.1, HE.out, List.append_assoc]; rfl)
          have HRZ := hid (show rsc D t L ((x : Int) + ins.size) ((ins.size : Int) - y) p0 = ((rsc D t L ((x : Int) + ins.size) ((ins.size : Int) - y) (p + z)).1 + (out ++ [(tk, (p : Int), tx, (lk : Int))]).length, (rsc D t L ((x : Int) + ins.size) ((ins.size : Int) - y) (p + z)).2) from by
            rw [HR.out.2, HT.out, List.length_append]
            simp only [List.length_singleton, Prod.mk.injEq, and_true]
            omega)
          clear hown hgrow hown' KY y1 x1 x2 x3
          go_wp2
          go_roundg (t.size - (p + z))
          case measure => omega
          case rel => exact ⟨p + z, out ++ [(tk, (p : Int), tx, (lk : Int))], rfl, q2, rfl, HRY.out, HRZ.out, HOY.out, hXY.out, BY.out⟩
        · have hfd := of_decide_eq_true HFQ.out.symm
          have hkf := HKF.out hfd
          have hmet := rsc_met (D := D) (L := L) (lo := (x : Int) + ins.size) (d := (ins.size : Int) - y) hlt hlo (by rw [show (p : Int) - ((ins.size : Int) - (y : Int)) = (p : Int) - (ins.size : Int) + (y : Int) by omega]; exact hfd)
          rw [show (p : Int) - ((ins.size : Int) - (y : Int)) = (p : Int) - (ins.size : Int) + (y : Int) by omega, ← hkf] at hmet
          have HM := hid (show rsc D t L ((x : Int) + ins.size) ((ins.size : Int) - y) p0 = (out.length, kf) from by rw [HR.out.2, hmet, Nat.zero_add])
          have hown := HO.out
          obtain ⟨g, cg, rfl⟩ := own_form hown
          have HF := hid (own_trow' hown)
          clear hown hfd hkf hmet
          go_wp2
          rw [HRR.out, HM.out]
          refine ⟨⟨g, cg, ?_, ?_⟩, HB.out⟩
          · first | (rw [take_of HR.out.1 rfl]; done) | (rw [take_of HR.out.1 rfl]; rfl)
          · rw [take_of HR.out.1 rfl]; exact HF.out
      · have hno : ¬ ((x : Int) + (ins.size : Int) ≤ (p : Int) ∧ fd L ((p : Int) - ((ins.size : Int) - (y : Int))) < L.length) := fun h => hlo h.1
        have HT := hid (rsc_next (D := D) (L := L) (lo := (x : Int) + ins.size) (d := (ins.size : Int) - y) hlt hno)
        have HE := hid (show (lexAt D t p).map tq = tq (tokAt D t p) :: (lexAt D t (p + (sc D t p).2.1)).map tq from by rw [lexAt_cons hlt]; rfl)
        obtain ⟨q1, q2, q3, q4, q5⟩ := sc_bounds (D := D) hlt
        have ql := tok_len (D := D) hlt
        have CS := hid (scan_any wr D n k HV.out.1 t p (w.heap.size + 2) (w.heap.size + 3) (w.heap.size + 4) a1 n1 c1 a2 n2 c2 a3 n3 c3 ⟨HV.out.2.below HB.out, HX.out.2.2.1, HX.out.2.2.2.1, HX.out.2.2.2.2⟩ ⟨by omega, by omega⟩ (by omega) hlt)
        obtain ⟨tk, htk⟩ : ∃ tk, tk = (sc D t p).1 := ⟨_, rfl⟩
        obtain ⟨z, hz⟩ : ∃ z, z = (sc D t p).2.1 := ⟨_, rfl⟩
        obtain ⟨lk, hlk⟩ : ∃ lk, lk = (sc D t p).2.2 := ⟨_, rfl⟩
        obtain ⟨tx, htx⟩ : ∃ tx, tx = (tokAt D t p).txt := ⟨_, rfl⟩
        have hqe : tq (tokAt D t p) = (tk, (p : Int), tx, (lk : Int)) := by rw [htk, hlk, htx]; rfl
        rw [hqe] at CS HE
        rw [← htx, ← hz] at ql
        rw [← hz] at q1 q2 q3 CS HE HT
        have hsum : IntKind.i64.wrap ((p : Int) + (tx.size : Int)) = ((p + z : Nat) : Int) := by rw [ql, wrapIn (by omega) (by omega)]; omega
        have CS := hid (show Calls Try.prog 51 #[.pointer (some ⟨w.heap.size + 2, 0, none⟩), .pointer (some ⟨w.heap.size + 3, 0, none⟩), .pointer (some ⟨w.heap.size + 4, 0, none⟩)] wr fun e w' => e = .returned (.agg #[.int .i64 tk, .int .i64 (p : Int), .string tx, .int .i64 (lk : Int)]) ∧ w'.heap[w.heap.size + 4]? = some (.cells #[.int .i64 ((p + z : Nat) : Int)] 3 (0, 0)) ∧ Kept (fun b => b = w.heap.size + 4 ∨ wr.heap.size ≤ b) wr w' from CS.out)
        have QL := hid ql
        clear htk hlk htx hqe q3 q4 q5 hz ql
        go_wp2_with fail
        refine CS.out.mono ?_
        rintro e V ⟨rfl, hV3, kV⟩
        have hws := HB.out.size
        have HL5 := hid (heap_lt HX.out.2.2.2.2)
        have BV := hid (HB.out.trans (kV.toBelow (n := w.heap.size) (fun b hb => by omega)))
        have hXV := hid (show V.heap[w.heap.size]? = some (.cells #[.slice a1 n1 c1, .slice a2 n2 c2, .slice a3 n3 c3] 25 (0, 0)) ∧ V.heap[w.heap.size + 1]? = some (.cells #[.int .i64 (x : Int), .int .i64 (y : Int), .string ins] 27 (0, 0)) ∧ V.heap[w.heap.size + 2]? = some (.cells #[.slice a1 n1 c1, .slice a2 n2 c2, .slice a3 n3 c3] 25 (0, 0)) ∧ V.heap[w.heap.size + 3]? = some (.cells #[.string t] 9 (0, 0)) ∧ V.heap[w.heap.size + 4]? = some (.cells #[.int .i64 ((p + z : Nat) : Int)] 3 (0, 0)) from
          ⟨(kV.block _ (by have := HL5.out; omega)).trans HX.out.1, (kV.block _ (by have := HL5.out; omega)).trans HX.out.2.1, (kV.block _ (by have := HL5.out; omega)).trans HX.out.2.2.1, (kV.block _ (by have := HL5.out; omega)).trans HX.out.2.2.2.1, hV3⟩)
        have HOV := hid (ownsRow_keep HO.out fun b hb => kV.block b (by have := (HO.out.lt b hb); omega))
        have HS5 := hid (show w.heap.size + 5 ≤ V.heap.size from by have := heap_lt hXV.out.2.2.2.2; omega)
        clear kV hV3 CS
        go_upto_region 9 with fail
        obtain ⟨X, hX⟩ : ∃ X, X = V.alloc (.cells #[.int .i64 tk, .int .i64 (p : Int), .string tx, .int .i64 (lk : Int)] 47) := ⟨_, rfl⟩
        have y1 := alloc_new V (.cells #[.int .i64 tk, .int .i64 (p : Int), .string tx, .int .i64 (lk : Int)] 47)
        have bX := bel1 V (.cells #[.int .i64 tk, .int .i64 (p : Int), .string tx, .int .i64 (lk : Int)] 47)
        have HOX := own_alloc HOV.out (.cells #[.int .i64 tk, .int .i64 (p : Int), .string tx, .int .i64 (lk : Int)] 47)
        rw [← hX] at y1 bX HOX ⊢
        have BX := hid bX
        have hXs := hid (show V.heap.size < X.heap.size from heap_lt y1)
        have HOXX := hid HOX
        obtain ⟨e0, e1, e2, e3⟩ := cells4 y1
        have Y1 := hid y1
        clear hX bX HOX y1
        have hown := HOXX.out
        obtain ⟨i0, hi, hz0, hz1, hz2⟩ := info_parts info47
        go_wp2_with (at_builtin; refine wpList_append_own _ rfl (.tmp 51) (.tmp 53) 32 rfl (w.heap.size + 5) 47 i0 _ 4 40 Try.underlying32 hi hz0 hz1 hz2 rfl (by decide) _ _ _ rfl (own_alloc hown _) ⟨X.heap.size, 0, none⟩ 1 1 (tqv (tk, (p : Int), tx, (lk : Int))) rfl rfl ?c1 ?c2 ?c3 ?c4 ?c5 ?_)
        case c1 => first | exact World.news_of_block (alloc_new _ _) | exact fun j u h => h
        case c2 => exact tqv_one
        case c3 => have := HOL.out; unfold maxLen; omega
        case c4 => have := HOL.out; omega
        case c5 => have := HS5.out; have := hXs.out; simp; omega
        intro v' Y hown' hgrow _
        have BY := hid (show Below w.heap.size w Y from ((BV.out.trans (BX.out.mono BV.out.size)).alloc (by have := BV.out.size; have := hXs.out; omega) _).grown hgrow (by have := BV.out.size; have := hXs.out; simp; omega) (fun b hb => by have := (hown.lt b hb).1; omega))
        have KY := (Kept.refl (fun b => b ≠ V.heap.size ∧ w.heap.size + 5 ≤ b) (X.alloc (.cells #[.int .i64 tk, .int .i64 (p : Int), .string tx, .int .i64 (lk : Int)] 47))).grown hgrow (fun b hb => by have := hXs.out; have := HS5.out; simp at hb; omega) (fun b hb => ⟨by have := (HOV.out.lt b hb).2; omega, (HOV.out.lt b hb).1⟩)
        have y1 := (KY.block V.heap.size (fun h => h.1 rfl)).trans (blk_alloc Y1.out)
        have hXY := hid (show Y.heap[w.heap.size]? = some (.cells #[.slice a1 n1 c1, .slice a2 n2 c2, .slice a3 n3 c3] 25 (0, 0)) ∧ Y.heap[w.heap.size + 1]? = some (.cells #[.int .i64 (x : Int), .int .i64 (y : Int), .string ins] 27 (0, 0)) ∧ Y.heap[w.heap.size + 2]? = some (.cells #[.slice a1 n1 c1, .slice a2 n2 c2, .slice a3 n3 c3] 25 (0, 0)) ∧ Y.heap[w.heap.size + 3]? = some (.cells #[.string t] 9 (0, 0)) ∧ Y.heap[w.heap.size + 4]? = some (.cells #[.int .i64 ((p + z : Nat) : Int)] 3 (0, 0)) from by
          have go : ∀ b o, V.heap[b]? = some o → b < w.heap.size + 5 → Y.heap[b]? = some o := fun b o h hb => (KY.block b (fun h => by omega)).trans (blk_alloc ((BX.out.block b (heap_lt h)).trans h))
          exact ⟨go _ _ hXV.out.1 (by omega), go _ _ hXV.out.2.1 (by omega), go _ _ hXV.out.2.2.1 (by omega), go _ _ hXV.out.2.2.2.1 (by omega), go _ _ hXV.out.2.2.2.2 (by omega)⟩)
        obtain ⟨e0, e1, e2, e3⟩ := cells4 y1
        have HOY := hid (show Y.ownsRow (w.heap.size + 5) 47 4 v' (out ++ [(tk, (p : Int), tx, (lk : Int))]).length (tl (out ++ [(tk, (p : Int), tx, (lk : Int))])) from by rw [tl_app, tl_one, List.length_append]; exact hown')
        have HRY := hid (show (out ++ [(tk, (p : Int), tx, (lk : Int))]) ++ (lexAt D t (p + z)).map tq = (lexAt D t p0).map tq from by rw [← HR.out.1, HE.out, List.append_assoc]; rfl)
        have HRZ := hid (show rsc D t L ((x : Int) + ins.size) ((ins.size : Int) - y) p0 = ((rsc D t L ((x : Int) + ins.size) ((ins.size : Int) - y) (p + z)).1 + (out ++ [(tk, (p : Int), tx, (lk : Int))]).length, (rsc D t L ((x : Int) + ins.size) ((ins.size : Int) - y) (p + z)).2) from by
          rw [HR.out.2, HT.out, List.length_append]
          simp only [List.length_singleton, Prod.mk.injEq, and_true]
          omega)
        clear hown hgrow hown' KY y1 x1 x2 x3
        go_wp2
        go_roundg (t.size - (p + z))
        case measure => omega
        case rel => exact ⟨p + z, out ++ [(tk, (p : Int), tx, (lk : Int))], rfl, q2, rfl, HRY.out, HRZ.out, HOY.out, hXY.out, BY.out⟩
    · have hlt' : ¬ (p : Int) < (t.size : Int) := by omega
      have HM := hid (show rsc D t L ((x : Int) + ins.size) ((ins.size : Int) - y) p0 = (out.length, m) from by rw [HR.out.2, rsc_end (by omega), Nat.zero_add, HLN.out])
      have hown := HO.out
      obtain ⟨g, cg, rfl⟩ := own_form hown
      have HF := hid (own_trow' hown)
      clear hown
      go_wp2
      rw [HRR.out, HM.out]
      refine ⟨⟨g, cg, ?_, ?_⟩, HB.out⟩
      · first | (rw [take_of HR.out.1 rfl]; done) | (rw [take_of HR.out.1 rfl]; rfl)
      · rw [take_of HR.out.1 rfl]; exact HF.out
end Go.Proofs.Ytblcjjhjgoccgaa
