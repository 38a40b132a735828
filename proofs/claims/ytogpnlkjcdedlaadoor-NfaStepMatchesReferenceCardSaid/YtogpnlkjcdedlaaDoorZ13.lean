/-
  Contract: addExpression.
-/
import Derived.Test.YtogpnlkjcdedlaaDoorZ12
section
set_option linter.unusedSimpArgs false
set_option linter.unusedVariables false
namespace Go.Proofs.YtogpnlkjcdedlaaDoor
open Go.RowKit Bs Rg Nf Go.Frame
attribute [local go_sem] eq_zero eq_set

set_option maxRecDepth 100000 in
set_option maxHeartbeats 4000000 in
theorem addExpression_any (r : Rx) (hv : Vd r) (x : Nat) (hxx : x ≤ 1000) (base bb most : Nat) (S : List BS) (M : Nat → Nat → Bool) (A : List Int) (G g : Nat → Prop) (W : World) (cs : List Value) (h : BX G W base bb most S M A) (hrc : RC g W r cs) (hg : ∀ b, g b → ¬ G b) (hm : S.length + np r ≤ most) (h1S : 0 < S.length) :
    Calls Tryd.prog 48 #[.pointer (some ⟨bb, 0, none⟩), .int .i64 (x : Int), .agg cs.toArray] W fun e w' => e = .returned (.tuple #[]) ∧ ∃ G', BX G' w' base bb most (S ++ os r) (addM (orM M (pr r S.length)) [0] (fst r S.length)) (acl (nul r) (las r S.length) (x : Int) (A ++ List.replicate (np r) (-1))) ∧ (∀ b, G' b → G b ∨ W.heap.size ≤ b) ∧ Kept (fun b => G b ∨ W.heap.size ≤ b) W w' := by
  obtain ⟨k, s, l⟩ := r
  obtain ⟨a, n, c, rfl, hK⟩ := RC_mk.1 hrc
  obtain ⟨r, hr⟩ : ∃ r, r = Rx.mk k s l := ⟨_, rfl⟩
  have T64 := trans_any _ hv
  rw [← hr] at hm T64 hrc ⊢
  show Calls Tryd.prog 48 #[.pointer (some ⟨bb, 0, none⟩), .int .i64 (x : Int), .agg #[.int .i64 k, .int .u64 (ws s 0 : Int), .int .u64 (ws s 1 : Int), .int .u64 (ws s 2 : Int), .int .u64 (ws s 3 : Int), .slice a n c]] W _
  obtain ⟨X, hX⟩ : ∃ X, X = W.alloc (.cells #[.int .i64 k, .int .u64 (ws s 0 : Int), .int .u64 (ws s 1 : Int), .int .u64 (ws s 2 : Int), .int .u64 (ws s 3 : Int), .slice a n c] 50) := ⟨_, rfl⟩
  have BXX := hid (show Below W.heap.size W X ∧ X.heap.size = W.heap.size + 1 from by rw [hX]; exact ⟨bel1 _ _, by simp⟩)
  have hx6 : X.heap[W.heap.size]? = some (.cells #[.int .i64 k, .int .u64 (ws s 0 : Int), .int .u64 (ws s 1 : Int), .int .u64 (ws s 2 : Int), .int .u64 (ws s 3 : Int), .slice a n c] 50 (0, 0)) := by rw [hX]; exact alloc_new _ _
  have CF := hid (show Calls Tryd.prog 64 #[.pointer (some ⟨bb, 0, none⟩), .agg #[.int .i64 k, .int .u64 (ws s 0 : Int), .int .u64 (ws s 1 : Int), .int .u64 (ws s 2 : Int), .int .u64 (ws s 3 : Int), .slice a n c]] X (TR r base bb most S M A G X) from T64 base bb most S M A G g X _ (h.below BXX.out.1) (hrc.below BXX.out.1) hg hm)
  have Hlt := hid (fun b hb => (h.lt b hb).2 : ∀ b, G b → b < W.heap.size)
  have hmost := h.most
  have HM := hid (And.intro hm (And.intro h1S hmost))
  obtain ⟨d0, d1, d2, d3, d4, d5⟩ := cells6 hx6
  clear h hrc hg hK hv T64 hm h1S hx6
  go_enter Tryd.func48, Tryd.ntmps48
  go_upto_region 1 with fail
  rw [← hX]
  clear hX
  go_wp2_with fail
  refine CF.out.mono ?_
  intro e w1 h1
  obtain ⟨a1, c1, a2, c2, rfl, G2, hbx, hG', hf, hl, hkp⟩ := h1.open
  obtain ⟨F, hF⟩ : ∃ F, F = fst r S.length := ⟨_, rfl⟩
  obtain ⟨L, hL⟩ : ∃ L, L = las r S.length := ⟨_, rfl⟩
  obtain ⟨nl, hnl⟩ : ∃ nl, nl = nul r := ⟨_, rfl⟩
  rw [← hF] at hf ⊢
  rw [← hL] at hl ⊢
  rw [← hnl]
  have hFl : F.length ≤ 1000 := by rw [hF]; have := (fst_ok r S.length).1; have := HM.out; omega
  have hLl : L.length ≤ 1000 := by rw [hL]; have := (las_ok r S.length).1; have := HM.out; omega
  have HFm := hid (fun y hy => by rw [hF] at hy; have := (fst_ok r S.length).2 y hy; have := HM.out; omega : ∀ y ∈ F, y < most)
  obtain ⟨V, hV⟩ : ∃ V, V = w1.alloc (.cells #[.bool nl, .slice a1 F.length c1, .slice a2 L.length c2] 108) := ⟨_, rfl⟩
  have hP5 : V.heap[w1.heap.size]? = some (.cells #[.bool nl, .slice a1 F.length c1, .slice a2 L.length c2] 108 (0, 0)) := by rw [hV]; exact alloc_new _ _
  have bV : Below w1.heap.size w1 V := by rw [hV]; exact bel1 _ _
  have hsV : V.heap.size = w1.heap.size + 1 := by rw [hV]; simp
  have hP6 : (V.alloc (.cells #[.int .i64 0] 3)).heap[w1.heap.size]? = some (.cells #[.bool nl, .slice a1 F.length c1, .slice a2 L.length c2] 108 (0, 0)) := blk_alloc hP5
  have bV2 : Below w1.heap.size w1 (V.alloc (.cells #[.int .i64 0] 3)) := bV.trans ((bel1 V _).mono (by omega))
  have h0 : PR G2 (V.alloc (.cells #[.int .i64 0] 3)) V.heap.size (.slice (some ⟨V.heap.size, 0, none⟩) 1 1) [0] := ⟨own_one (alloc_new _ _) (Nat.le_refl _), fun k hk hg2 => by simp [Value.ownBlock] at hk; subst hk; have := (hbx.lt _ hg2).2; omega⟩
  have CA := hid (addArcs_X base bb most (S ++ os r) (orM M (pr r S.length)) (A ++ List.replicate (np r) (-1)) G2 (V.alloc (.cells #[.int .i64 0] 3)) (.slice (some ⟨V.heap.size, 0, none⟩) 1 1) (.slice a1 F.length c1) (hbx.below bV2) [0] F _ _ h0 (hf.below bV2)
    (fun z hz => by have := HM.out; simp at hz; subst hz; rw [List.length_append]; omega) HFm.out (by decide) hFl)
  have HL1 := hid (And.intro (hl.below bV2) (And.intro (show ¬ G2 w1.heap.size from fun h => by have := (hbx.lt _ h).2; omega) hP6))
  have HG2 := hid (fun b hb => (hG' b hb).imp_right fun h => by have := BXX.out.2; omega : ∀ b, G2 b → G b ∨ W.heap.size ≤ b)
  have HKV := hid (show Kept (fun b => G b ∨ W.heap.size ≤ b) W (V.alloc (.cells #[.int .i64 0] 3)) from ((Kept.below BXX.out.1 fun b hb => .inr hb).trans (hkp.mono fun b hb => hb.imp_right fun h => by have := BXX.out.2; omega)).trans (Kept.below bV2 fun b hb => .inr (by have := hkp.size; have := BXX.out.2; omega)))
  have HN0 := hid (And.intro hF (And.intro hL hnl))
  obtain ⟨t0, t1, t2⟩ := cells3 hP6
  obtain ⟨u0, u1, u2⟩ := cells3 hP5
  clear hbx hG' hf hl hkp h1 CF hF hL hnl hP5 hP6 bV bV2 h0 d0 d1 d2 d3 d4 d5 hsV
  go_upto_region 2 with fail
  rw [← hV]
  clear hV
  go_wp2_with fail
  refine CA.out.mono ?_
  rintro e w4 ⟨rfl, hbx4, hkp4⟩
  have HL4 := hid (HL1.out.1.kept hkp4 HL1.out.1.2)
  have hP4 := (hkp4.block _ HL1.out.2.1).trans HL1.out.2.2
  have HKP := hid (HKV.out.trans (hkp4.mono fun b hb => HG2.out b hb))
  obtain ⟨sv, av, cv, rb, hbd⟩ := hbx4
  obtain ⟨ca, cc, rfl⟩ := own_form hbd.acc
  obtain ⟨S2, hS2⟩ : ∃ S2, S2 = S ++ os r := ⟨_, rfl⟩
  obtain ⟨M2, hM2⟩ : ∃ M2, M2 = addM (orM M (pr r S.length)) [0] F := ⟨_, rfl⟩
  obtain ⟨A2, hA2⟩ : ∃ A2, A2 = A ++ List.replicate (np r) (-1 : Int) := ⟨_, rfl⟩
  obtain ⟨N, hN⟩ : ∃ N, N = (S ++ os r).length := ⟨_, rfl⟩
  rw [← hN, ← hS2, ← hM2, ← hA2] at hbd
  have hNl : N = S.length + np r := by rw [hN, List.length_append, os_length]
  have HS2 := hid (show N = S2.length from by rw [hS2]; exact hN)
  have hN1 : N ≤ 1000 := by have := hbd.len; rw [← HS2.out] at this; exact this
  have h9 := hbd.acc
  rw [← HS2.out] at h9
  have hAl : (A2.map iv).length = N := by have := h9.1; omega
  obtain ⟨gc, rfl, hgcl, hc0, _⟩ := own_cell (i := 0) h9 (List.getElem?_eq_getElem (by rw [hAl]; have := HM.out; omega))
  obtain ⟨x0, hx0⟩ : ∃ x0, x0 = A2.getD 0 (-1) := ⟨_, rfl⟩
  have hx0' : (A2.map iv)[0]'(by rw [hAl]; have := HM.out; omega) = .int .i64 x0 := by
    have hA0 : 0 < A2.length := by have h8 := hAl; rw [List.length_map] at h8; have := HM.out; omega
    rw [List.getElem_map, hx0, List.getD_eq_getElem?_getD, List.getElem?_eq_getElem hA0]
    rfl
  rw [hx0'] at hc0
  obtain ⟨ll, hll⟩ : ∃ ll, ll = L.length := ⟨_, rfl⟩
  have HN := hid (show True ∧ ll = L.length ∧ ∀ q ∈ L, q < N from ⟨trivial, hll, fun q hq => by rw [HN0.out.2.1] at hq; have := (las_ok r S.length).2 q hq; omega⟩)
  have HFIN := hid (fun (A9 : List Int) {w9 : World} (hb9 : BD G2 w9 base bb most S2 M2 A9 sv av (.slice (some ⟨gc, 0, none⟩) N cc) rb) (e9 : A9 = acl nl L (x : Int) A2) => (by
    rw [e9, hS2, hM2, hA2, HN0.out.1, HN0.out.2.1, HN0.out.2.2, hr] at hb9
    exact ⟨sv, av, _, rb, hb9⟩ : BX G2 w9 base bb most (S ++ os (Rx.mk k s l)) (addM (orM M (pr (Rx.mk k s l) S.length)) [0] (fst (Rx.mk k s l) S.length)) (acl (nul (Rx.mk k s l)) (las (Rx.mk k s l) S.length) (x : Int) (A ++ List.replicate (np (Rx.mk k s l)) (-1)))))
  rw [← hll] at hP4
  have hll1 : ll ≤ 1000 := by omega
  obtain ⟨t0, t1, t2⟩ := cells3 hP4
  obtain ⟨d0, d1, d2, d3⟩ := cells4 hbd.box
  have HBD := hid hbd
  have hN0' : (0 : Int) < (N : Int) := by have := HM.out; omega
  have hfr0 : w4.frozen? ⟨gc, 0, none⟩ = false := by
    rcases hbd.acc.2 with ⟨e, _⟩ | ⟨g', cap, cur, e, _, hg', _⟩
    · cases e
    · simp only [Value.slice.injEq, Option.some.injEq, Addr.mk.injEq] at e
      rw [e.1.1]; exact Go.Frame.free hg' 0
  have HX0 := hid hx0
  clear hbd hS2 hM2 hA2 hN hNl h9 hAl hx0 hll u0 u1 u2 hkp4 hx0'
  rw [show (Value.slice a2 L.length c2) = Value.slice a2 ll c2 from by rw [HN.out.2.1]] at *
  cases nl
  · go_wp2_with fail
    go_loopg [37] ll (fun kk s37 wr => ∃ j : Nat, s37 = .int .i64 (j : Int) ∧ j + kk = ll ∧ BD G2 wr base bb most S2 M2 ((L.take j).foldl (fun A q => A.set q (x : Int)) (A2)) sv av (.slice (some ⟨gc, 0, none⟩) N cc) rb ∧ Kept G2 w4 wr)
    case atStart => exact ⟨0, rfl, by omega, by rw [List.take_zero]; exact HBD.out, Kept.refl _ _⟩
    case round =>
      obtain ⟨j, rfl, hjk, hbd, hkp⟩ := hrel
      by_cases hlt : j < ll
      · have hlt' : (j : Int) < (ll : Int) := by omega
        have hj0 : (0 : Int) ≤ (j : Int) := by omega
        obtain ⟨q, hq⟩ : ∃ q, L[j]? = some q := ⟨L[j]'(by have := HN.out.2.1; omega), List.getElem?_eq_getElem _⟩
        have hrow := (HL4.out.kept hkp HL4.out.2).1
        rw [← HN.out.2.1] at hrow
        obtain ⟨gl, rfl, hgl, hgc, _⟩ := own_cell hrow (Go.Frame.ints_at hq)
        have hqN : q < N := HN.out.2.2 q (List.mem_of_getElem? hq)
        obtain ⟨d0, d1, d2, d3⟩ := cells4 hbd.box
        have hcell : ∃ v, wr.cell? ⟨gc, q, none⟩ = some v := by
          have h9 := hbd.acc
          rw [← HS2.out] at h9
          have hl9 : ((((L.take j).foldl (fun A q => A.set q (x : Int)) (A2)).map iv)).length = N := by have := h9.1; omega
          obtain ⟨g9, e9, _, h8, _⟩ := own_cell h9 (List.getElem?_eq_getElem (by rw [hl9]; exact hqN))
          simp only [Option.some.injEq, Addr.mk.injEq] at e9
          rw [← e9.1] at h8
          exact ⟨_, h8⟩
        obtain ⟨v9, hv9⟩ := hcell
        have hfr : wr.frozen? ⟨gc, q, none⟩ = false := by
          rcases hbd.acc.2 with ⟨e, _⟩ | ⟨g', cap, cur, e, _, hg', _⟩
          · cases e
          · simp only [Value.slice.injEq, Option.some.injEq, Addr.mk.injEq] at e
            rw [e.1.1]; exact Go.Frame.free hg' q
        have hq0 : (0 : Int) ≤ (q : Int) := by omega
        have hqN' : (q : Int) < (N : Int) := by omega
        have HE := hid (And.intro hbd (And.intro hkp (And.intro hjk hq)))
        clear hbd hkp hq hrow hqN
        go_wp2
        go_roundg (gk - 1)
        case measure => have := HE.out.2.2.1; omega
        case rel =>
          obtain ⟨hbd, hkp, hjk, hq⟩ := HE.out
          have h8 := hbd.num HS2.out q (x : Int)
          refine ⟨j + 1, by go_num, by omega, ?_, hkp.trans h8.2⟩
          rw [List.take_add_one, hq, List.foldl_append]
          exact h8.1
      · have hlt' : ¬ (j : Int) < (ll : Int) := by omega
        have HE := hid (And.intro hbd hkp)
        clear hbd hkp
        go_wp2
        go_end0
        refine ⟨rfl, G2, ?_, HG2.out, HKP.out.trans (HE.out.2.mono fun b hb => HG2.out b hb)⟩
        have h9 := HE.out.1
        rw [show L.take j = L from List.take_of_length_le (by have := HN.out.2.1; omega)] at h9
        exact HFIN.out _ h9 (by unfold acl; simp)

  · by_cases hneg : x0 < 0
    · have h8 := hid (HBD.out.num HS2.out 0 (x : Int))
      have hgne : w1.heap.size ≠ gc := fun e => HL1.out.2.1 (by rw [e]; exact HBD.out.gc gc rfl)
      have hP5 := blk_set (v := .int .i64 (x : Int)) (a := ⟨gc, 0, none⟩) hP4 hgne
      obtain ⟨t0', t1', t2'⟩ := cells3 hP5
      clear hgne hP5 hP4
      go_wp2_with fail
      go_loopg [37] ll (fun kk s37 wr => ∃ j : Nat, s37 = .int .i64 (j : Int) ∧ j + kk = ll ∧ BD G2 wr base bb most S2 M2 ((L.take j).foldl (fun A q => A.set q (x : Int)) (A2.set 0 (x : Int))) sv av (.slice (some ⟨gc, 0, none⟩) N cc) rb ∧ Kept G2 w4 wr)
      case atStart => exact ⟨0, rfl, by omega, by rw [List.take_zero]; exact h8.out.1, h8.out.2⟩
      case round =>
        obtain ⟨j, rfl, hjk, hbd, hkp⟩ := hrel
        by_cases hlt : j < ll
        · have hlt' : (j : Int) < (ll : Int) := by omega
          have hj0 : (0 : Int) ≤ (j : Int) := by omega
          obtain ⟨q, hq⟩ : ∃ q, L[j]? = some q := ⟨L[j]'(by have := HN.out.2.1; omega), List.getElem?_eq_getElem _⟩
          have hrow := (HL4.out.kept hkp HL4.out.2).1
          rw [← HN.out.2.1] at hrow
          obtain ⟨gl, rfl, hgl, hgc, _⟩ := own_cell hrow (Go.Frame.ints_at hq)
          have hqN : q < N := HN.out.2.2 q (List.mem_of_getElem? hq)
          obtain ⟨d0, d1, d2, d3⟩ := cells4 hbd.box
          have hcell : ∃ v, wr.cell? ⟨gc, q, none⟩ = some v := by
            have h9 := hbd.acc
            rw [← HS2.out] at h9
            have hl9 : ((((L.take j).foldl (fun A q => A.set q (x : Int)) (A2.set 0 (x : Int))).map iv)).length = N := by have := h9.1; omega
            obtain ⟨g9, e9, _, h8, _⟩ := own_cell h9 (List.getElem?_eq_getElem (by rw [hl9]; exact hqN))
            simp only [Option.some.injEq, Addr.mk.injEq] at e9
            rw [← e9.1] at h8
            exact ⟨_, h8⟩
          obtain ⟨v9, hv9⟩ := hcell
          have hfr : wr.frozen? ⟨gc, q, none⟩ = false := by
            rcases hbd.acc.2 with ⟨e, _⟩ | ⟨g', cap, cur, e, _, hg', _⟩
            · cases e
            · simp only [Value.slice.injEq, Option.some.injEq, Addr.mk.injEq] at e
              rw [e.1.1]; exact Go.Frame.free hg' q
          have hq0 : (0 : Int) ≤ (q : Int) := by omega
          have hqN' : (q : Int) < (N : Int) := by omega
          have HE := hid (And.intro hbd (And.intro hkp (And.intro hjk hq)))
          clear hbd hkp hq hrow hqN
          go_wp2
          go_roundg (gk - 1)
          case measure => have := HE.out.2.2.1; omega
          case rel =>
            obtain ⟨hbd, hkp, hjk, hq⟩ := HE.out
            have h8 := hbd.num HS2.out q (x : Int)
            refine ⟨j + 1, by go_num, by omega, ?_, hkp.trans h8.2⟩
            rw [List.take_add_one, hq, List.foldl_append]
            exact h8.1
        · have hlt' : ¬ (j : Int) < (ll : Int) := by omega
          have HE := hid (And.intro hbd hkp)
          clear hbd hkp
          go_wp2
          go_end0
          refine ⟨rfl, G2, ?_, HG2.out, HKP.out.trans (HE.out.2.mono fun b hb => HG2.out b hb)⟩
          have h9 := HE.out.1
          rw [show L.take j = L from List.take_of_length_le (by have := HN.out.2.1; omega)] at h9
          exact HFIN.out _ h9 (by unfold acl; rw [if_pos ⟨rfl, by rw [← HX0.out]; exact hneg⟩])

    · go_wp2_with fail
      go_loopg [37] ll (fun kk s37 wr => ∃ j : Nat, s37 = .int .i64 (j : Int) ∧ j + kk = ll ∧ BD G2 wr base bb most S2 M2 ((L.take j).foldl (fun A q => A.set q (x : Int)) (A2)) sv av (.slice (some ⟨gc, 0, none⟩) N cc) rb ∧ Kept G2 w4 wr)
      case atStart => exact ⟨0, rfl, by omega, by rw [List.take_zero]; exact HBD.out, Kept.refl _ _⟩
      case round =>
        obtain ⟨j, rfl, hjk, hbd, hkp⟩ := hrel
        by_cases hlt : j < ll
        · have hlt' : (j : Int) < (ll : Int) := by omega
          have hj0 : (0 : Int) ≤ (j : Int) := by omega
          obtain ⟨q, hq⟩ : ∃ q, L[j]? = some q := ⟨L[j]'(by have := HN.out.2.1; omega), List.getElem?_eq_getElem _⟩
          have hrow := (HL4.out.kept hkp HL4.out.2).1
          rw [← HN.out.2.1] at hrow
          obtain ⟨gl, rfl, hgl, hgc, _⟩ := own_cell hrow (Go.Frame.ints_at hq)
          have hqN : q < N := HN.out.2.2 q (List.mem_of_getElem? hq)
          obtain ⟨d0, d1, d2, d3⟩ := cells4 hbd.box
          have hcell : ∃ v, wr.cell? ⟨gc, q, none⟩ = some v := by
            have h9 := hbd.acc
            rw [← HS2.out] at h9
            have hl9 : ((((L.take j).foldl (fun A q => A.set q (x : Int)) (A2)).map iv)).length = N := by have := h9.1; omega
            obtain ⟨g9, e9, _, h8, _⟩ := own_cell h9 (List.getElem?_eq_getElem (by rw [hl9]; exact hqN))
            simp only [Option.some.injEq, Addr.mk.injEq] at e9
            rw [← e9.1] at h8
            exact ⟨_, h8⟩
          obtain ⟨v9, hv9⟩ := hcell
          have hfr : wr.frozen? ⟨gc, q, none⟩ = false := by
            rcases hbd.acc.2 with ⟨e, _⟩ | ⟨g', cap, cur, e, _, hg', _⟩
            · cases e
            · simp only [Value.slice.injEq, Option.some.injEq, Addr.mk.injEq] at e
              rw [e.1.1]; exact Go.Frame.free hg' q
          have hq0 : (0 : Int) ≤ (q : Int) := by omega
          have hqN' : (q : Int) < (N : Int) := by omega
          have HE := hid (And.intro hbd (And.intro hkp (And.intro hjk hq)))
          clear hbd hkp hq hrow hqN
          go_wp2
          go_roundg (gk - 1)
          case measure => have := HE.out.2.2.1; omega
          case rel =>
            obtain ⟨hbd, hkp, hjk, hq⟩ := HE.out
            have h8 := hbd.num HS2.out q (x : Int)
            refine ⟨j + 1, by go_num, by omega, ?_, hkp.trans h8.2⟩
            rw [List.take_add_one, hq, List.foldl_append]
            exact h8.1
        · have hlt' : ¬ (j : Int) < (ll : Int) := by omega
          have HE := hid (And.intro hbd hkp)
          clear hbd hkp
          go_wp2
          go_end0
          refine ⟨rfl, G2, ?_, HG2.out, HKP.out.trans (HE.out.2.mono fun b hb => HG2.out b hb)⟩
          have h9 := HE.out.1
          rw [show L.take j = L from List.take_of_length_le (by have := HN.out.2.1; omega)] at h9
          exact HFIN.out _ h9 (by unfold acl; rw [if_neg (fun h => by have h7 := h.2; rw [← HX0.out] at h7; omega)])

end Go.Proofs.YtogpnlkjcdedlaaDoor
end
