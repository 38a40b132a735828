/-
  Contract: merge.
-/
import Derived.Test.YtelbagaiijffdaaUf
set_option linter.unusedSimpArgs false
set_option linter.unusedVariables false
namespace Go.Proofs.Ytelbagaiijffdaa
open Go.RowKit Lx Go.Frame

theorem ib_at {W : World} {b i : Nat} {l : List Int} (h : IB W b l) {x : Int} (hx : l[i]? = some x) : W.cell? ⟨b, i, none⟩ = some (.int .i64 x) := by
  unfold IB at h
  simp only [World.cell?, h]
  simp [hx, iv]
def mB (T : Mo.Tb) (N q : Nat) : Nat := (Mi.part T N).getD q 0
def mS (T : Mo.Tb) (q : Nat) : List Nat := T.nx.getD q []
def mRes (T : Mo.Tb) (N : Nat) : List (List Int) × List Nat := Mi.mergeF (mS T) (mB T N) (mB T N (N - 1)) 600 0 [0] []
/-- What merge returns. -/
def MgRes (w : World) (R : List (List Int) × List Nat) (T : Mo.Tb) (e : Ending) (w' : World) : Prop :=
  (∃ FB x1 y1 rv b, e = .returned (.tuple #[.slice x1 (List.length rv) y1, .slice (some ⟨b, 0, none⟩) R.2.length R.2.length]) ∧ OR w' FB (.slice x1 rv.length y1) rv ∧ rv.map (·.2) = R.1 ∧ IB w' b (R.2.map fun x => T.ac.getD x 0) ∧ w.heap.size ≤ FB ∧ w.heap.size ≤ b) ∧ Below w.heap.size w w'
set_option maxRecDepth 100000 in
set_option maxHeartbeats 8000000 in
theorem merge_any (w : World) (a1 : Option Addr) (N c1 : Nat) (a2 : Option Addr) (c2 : Nat) (T : Mo.Tb) (k : Nat) (hv : Mo.Vt T N k) (h1 : Rows2 w a1 N (T.nx.map zs)) (h2 : Row w a2 N (T.ac.map iv)) (h0 : 1 ≤ N) (hN : N ≤ 501) (hk : k ≤ 256) :
    Calls Try.prog 29 #[.agg #[.slice a1 N c1, .slice a2 N c2]] w (MgRes w (mRes T N) T) := by
  obtain ⟨i0, hi, hz0, hz1, hz2⟩ := info_parts info3
  obtain ⟨j0, hj, hy0, hy1, hy2⟩ := info_parts info22
  obtain ⟨W, hW⟩ : ∃ W, W = w.alloc (.cells #[.slice a1 N c1, .slice a2 N c2] 50) := ⟨_, rfl⟩
  have x0 := alloc_new w (.cells #[.slice a1 N c1, .slice a2 N c2] 50)
  have b0 := bel1 w (.cells #[.slice a1 N c1, .slice a2 N c2] 50)
  have s0 : (w.alloc (.cells #[.slice a1 N c1, .slice a2 N c2] 50)).heap.size = w.heap.size + 1 := World.size_alloc ..
  rw [← hW] at x0 b0 s0
  have HX := hid (And.intro x0 (And.intro b0 s0))
  have HA := hid (And.intro h1 (And.intro h2 hv))
  have CP := hid (part_any W a1 N c1 a2 c2 T k hv (h1.below b0) (h2.below b0) h0 hN (by omega))
  obtain ⟨hpl, hpc, _⟩ := Mi.part_ok hv hN
  obtain ⟨P, hP⟩ : ∃ P, P = Mi.part T N := ⟨_, rfl⟩
  rw [← hP] at hpl hpc CP
  have hPN : ∀ q, q < N → mB T N q < N ∧ P[q]? = some (mB T N q) := fun q hq => by
    unfold mB
    rw [← hP]
    have h9 := rank_lt2 hpc (q := q) (by omega)
    refine ⟨by omega, ?_⟩
    rw [List.getD_eq_getElem?_getD, List.getElem?_eq_getElem (by omega)]; rfl
  have HP := hid (And.intro hpl (And.intro hPN hpc))
  have hsub : IntKind.i64.wrap ((N : Int) - 1) = ((N - 1 : Nat) : Int) := by rw [wrapIn (by omega) (by omega)]; omega
  have hN1 : (N : Int) - 1 = ((N - 1 : Nat) : Int) := by omega
  obtain ⟨d0, d1⟩ := cells2 x0
  unfold MgRes
  clear x0 b0 h1 h2 hv hpc hP
  go_enter Try.func29, Try.ntmps29
  go_wp2_with fail
  rw [← hW]
  refine CP.out.mono ?_
  rintro e V ⟨⟨bb, rfl, hI, hbb⟩, hb⟩
  rw [zs_len, hpl]
  have HV := hid (And.intro hI (And.intro hb hbb))
  have hdl : P[N - 1]? = some (mB T N (N - 1)) := (hPN (N - 1) (by omega)).2
  have cd := ib_at hI (zs_at hdl)
  have c0 := ib_at hI (zs_at (hPN 0 (by omega)).2)
  have hB0 : mB T N 0 < N := (hPN 0 (by omega)).1
  have HB0 := hid hB0
  have hdz : (0 : Int) ≤ ((N - 1 : Nat) : Int) := by omega
  have hdz2 : ((N - 1 : Nat) : Int) < (N : Int) := by omega
  obtain ⟨dead, hdead⟩ : ∃ d, d = mB T N (N - 1) := ⟨_, rfl⟩
  rw [← hdead] at cd
  have HD := hid hdead
  clear hW d0 d1 hI hb CP hPN hdl hdead
  have bV := bel1 V (.cells #[.int .i64 (-1)] 3)
  have CR := hid (repeat_any (V.alloc (.cells #[.int .i64 (-1)] 3)) (some ⟨V.heap.size, 0, none⟩) 1 N (-1) ⟨rfl, .inr ⟨V.heap.size, 0, rfl, by simp, fun j x hx => by
    have hj0 : j = 0 := by have := (List.getElem?_eq_some_iff.1 hx).1; simp at this; omega
    subst hj0
    have h9 := alloc_new V (.cells #[.int .i64 (-1)] 3)
    simp at hx; subst hx
    simp only [World.cell?, h9]; rfl⟩⟩ h0 (by omega))
  go_wp2_with fail
  refine CR.out.mono ?_
  rintro e V2 ⟨⟨NB, rfl, hI2, hNB⟩, hb2⟩
  rw [List.length_replicate]
  have hbV : Below V.heap.size V V2 := bV.trans (hb2.mono (by simp))
  have hIb := HV.out.1.keep hbV
  have cd2 := ib_at hIb (zs_at (HP.out.2.1 0 (by omega)).2)
  have hB0n := HB0.out
  have hfr := Go.Frame.free hI2 (mB T N 0)
  obtain ⟨z9, z8⟩ := hI2.cell (i := mB T N 0) (by simp; omega)
  have hB00 : (0 : Int) ≤ (mB T N 0 : Int) := by omega
  have hB01 : (mB T N 0 : Int) < (N : Int) := by omega
  have hNB2 : V.heap.size < NB := by simp at hNB; omega
  have hbbN : bb < NB := by have := heap_lt HV.out.1; omega
  obtain ⟨V3, hV3⟩ : ∃ V3, V3 = V2.setCell ⟨NB, mB T N 0, none⟩ (.int .i64 0) := ⟨_, rfl⟩
  have hs3 : V3.heap.size = V2.heap.size := by rw [hV3]; simp
  have hNBl := heap_lt hI2
  obtain ⟨V4, hV4⟩ : ∃ V4, V4 = V3.alloc (.cells #[.int .i64 0] 3) := ⟨_, rfl⟩
  have hb4 : Below V.heap.size V V4 := by rw [hV4, hV3]; exact (below_put hbV (by omega)).alloc (by simpa using hbV.size) _
  have HM0 := hid (show MS w V4 V3.heap.size bb NB a1 c1 a2 c2 N P (numsL N [mB T N 0]) [0] (.slice (some ⟨V3.heap.size, 0, none⟩) 1 1) (.slice none 0 0) [] from by
    have hx4 := (HV.out.2.1.block _ (heap_lt HX.out.1)).trans HX.out.1
    have hwV : w.heap.size < V.heap.size := by have := HV.out.2.1.size; have := HX.out.2.2; omega
    have hown : IB V4 V3.heap.size [0] := by rw [hV4]; exact alloc_new _ _
    refine ⟨(hb4.block _ hwV).trans hx4, HV.out.1.keep hb4, ?_, own_of_IB hown (Nat.le_refl _) (by show 1 ≤ 1000000; omega), OR.nil _ _, fun p hp => (by cases hp), (HX.out.2.1.trans (HV.out.2.1.mono (by have := HX.out.2.2; omega))).trans (hb4.mono (by omega)), by have := HX.out.2.2; have := HV.out.2.2; omega, hbbN, by omega, by rw [hV4]; simp⟩
    have h5 : IB V3 NB ((List.replicate N (-1)).set (mB T N 0) 0) := by rw [hV3]; exact hI2.set _
    rw [← numsL_nil] at h5
    have h6 := numsL_push (fb := []) hB0n (by simp)
    simp only [List.length_nil, List.nil_append] at h6
    rw [show (0 : Int) = ((0 : Nat) : Int) from rfl, h6] at h5
    rw [hV4]
    exact h5.keep (bel1 _ _))
  rw [hs3] at HM0
  clear hI2 hb2 hbV hIb hb4 bV CR hNBl cd c0
  go_wp2_with fail
  rw [← hV3, ← hV4]
  have hwV2 : w.heap.size ≤ V2.heap.size := by have := HM0.out.bel.size; have := HM0.out.o1; have := HM0.out.o2; have := HM0.out.o3; omega
  clear hV3 hV4 hfr z8 hs3 cd2
  go_loopg [2, 7, 8] (N + 1) (fun kk s2 s7 s8 wr => ∃ (i f : Nat) (F : List Nat) (rv : List (Nat × List Int)), s8 = .int .i64 (i : Int) ∧ MS w wr V2.heap.size bb NB a1 c1 a2 c2 N P (numsL N (F.map (mB T N))) F s7 s2 rv ∧ Mi.Mg (mS T) (mB T N) dead i F (rv.map (·.2)) ∧ Mi.mergeF (mS T) (mB T N) dead f i F (rv.map (·.2)) = mRes T N ∧ N - i < f ∧ (∀ x ∈ F, x < N) ∧ i + kk = N + 1)
  case atStart => exact ⟨0, 600, [0], [], rfl, HM0.out, Mi.Mg.init _ _ _, by rw [HD.out]; rfl, by omega, fun x hx => by simp at hx; omega, by omega⟩
  case round =>
    obtain ⟨i, f, F, rv, rfl, hM, hG, hR, hf, hFN, hkk⟩ := hrel
    have HG := hid (And.intro hG (And.intro hR (And.intro hf (And.intro hFN hkk))))
    obtain ⟨a7, c7, rfl⟩ := own_form hM.fnd
    obtain ⟨a8, c8, rfl⟩ := hM.nxt.form
    have hrl : rv.length = i := by have := hG.len; simpa using this
    rw [hrl] at hM
    have hFl : F.length ≤ N := by
      have := Mi.nod_len hG.nod (n := N) fun x hx => by
        obtain ⟨y, hy, rfl⟩ := List.mem_map.1 hx
        exact (HP.out.2.1 y (hFN y hy)).1
      simpa using this
    have HM := hid hM
    obtain ⟨d0, d1⟩ := cells2 hM.tbx
    by_cases hlt : i < F.length
    · have hlt' : (i : Int) < (F.length : Int) := by omega
      have hi0 : (0 : Int) ≤ (i : Int) := by omega
      have hi1 : IntKind.i64.wrap ((i : Int) + 1) = (i : Int) + 1 := wrapIn (by omega) (by omega)
      obtain ⟨q, hq⟩ : ∃ q, F[i]? = some q := ⟨_, List.getElem?_eq_getElem hlt⟩
      have hqN := hFN q (List.mem_of_getElem? hq)
      obtain ⟨bt, ot, r0, ra0, rc0, rfl, hbt, hr0, p0, _, _⟩ := row_at HA.out.1 (show 0 < N by omega)
      obtain ⟨bt', ot', rq, raq, rcq, he, _, hrq, pq, hrwq, _⟩ := row_at HA.out.1 hqN
      simp only [Option.some.injEq, Addr.mk.injEq, and_true] at he
      obtain ⟨rfl, rfl⟩ := he
      rw [List.getElem?_map] at hr0 hrq
      obtain ⟨t0, ht0, rfl⟩ := Option.map_eq_some_iff.1 hr0
      obtain ⟨ts, hts, rfl⟩ := Option.map_eq_some_iff.1 hrq
      obtain ⟨hl0, _⟩ := HA.out.2.2.row 0 t0 ht0
      obtain ⟨hlq, hxq⟩ := HA.out.2.2.row q ts hts
      rw [zs_len, hl0, Nat.add_zero] at p0
      rw [zs_len, hlq] at pq hrwq
      obtain ⟨bf, of_, xf, he, hbf, hxf, pf⟩ := int_at (own_row' hM.fnd) hlt
      subst he
      have hxf' : xf = (q : Int) := by
        rw [zs_at hq] at hxf
        exact (Option.some.inj hxf).symm
      subst hxf'
      have hmS : mS T q = ts := by unfold mS; rw [List.getD_eq_getElem?_getD, hts]; rfl
      have HQ := hid (And.intro hq (And.intro hrwq (And.intro hxq (And.intro hmS hlq))))
      have hq0 : (0 : Int) ≤ (q : Int) := by omega
      have hq1 : (q : Int) < (N : Int) := by omega
      have hN0 : (0 : Int) < (N : Int) := by omega
      have hmk := fun X => make_n X k (by omega)
      obtain ⟨X, hX⟩ : ∃ X, X = wr.alloc (.cells (zr k) 3) := ⟨_, rfl⟩
      have bX : Below wr.heap.size wr X := by rw [hX]; exact bel1 _ _
      have HX2 := hid (show IB X wr.heap.size (pad k []) ∧ MS w X V2.heap.size bb NB (some ⟨bt, ot, none⟩) c1 a2 c2 N P (numsL N (F.map (mB T N))) F (.slice (some ⟨bf, of_, none⟩) F.length c7) (.slice a8 i c8) rv from by
        refine ⟨by rw [pad_nil, hX]; exact alloc_new _ _, HM.out.keep bX⟩)
      have HRB := hid (show (Value.slice (some ⟨bf, of_, none⟩) F.length c7).ownBlock ≠ some wr.heap.size ∧ (∀ p ∈ rv, p.1 ≠ wr.heap.size) ∧ V2.heap.size ≤ wr.heap.size from by
        refine ⟨fun e => by have := (HM.out.fnd.lt _ e).2; omega, fun p hp => by have := heap_lt (HM.out.nxt.2 p hp).1; omega, HM.out.o4⟩)
      obtain ⟨dX0, dX1⟩ := cells2 HX2.out.2.tbx
      have pX0 := (HX2.out.2.bel.cell (p := ⟨bt, ot, none⟩) hbt).trans p0
      have pXq := (HX2.out.2.bel.cell (p := ⟨bt, ot + q, none⟩) hbt).trans pq
      have pXf := (bX.cell (p := ⟨bf, of_ + i, none⟩) hbf).trans pf
      have pw0 := (HM.out.bel.cell (p := ⟨bt, ot, none⟩) hbt).trans p0
      clear hM hG hR hf hFN hr0 hrq ht0 hts hxq hrwq hq hxf bX hl0 hlq hmS p0 pq pf
      go_wp2_with fail
      rw [← hX]
      clear hX hmk d0 d1 pw0
      go_quiet (fail)
      go_wp2_with fail
      clear dX0 dX1 pX0 pXq pXf
      obtain ⟨wo, rfl⟩ : ∃ wo, wo = wr := ⟨_, rfl⟩
      obtain ⟨g1, rfl⟩ : ∃ g1, g1 = gk := ⟨_, rfl⟩
      go_loopg [7, 52] k (fun kk s7 s52 wi => ∃ (c : Nat), s52 = .int .i64 (c : Int) ∧ c + kk = k ∧ MS w wi V2.heap.size bb NB (some ⟨bt, ot, none⟩) c1 a2 c2 N P (numsL N ((Mi.rowF (mB T N) dead F (ts.take c)).2.map (mB T N))) (Mi.rowF (mB T N) dead F (ts.take c)).2 s7 (.slice a8 i c8) rv ∧ IB wi wo.heap.size (pad k (Mi.rowF (mB T N) dead F (ts.take c)).1) ∧ s7.ownBlock ≠ some wo.heap.size)
      case atStart => exact ⟨0, rfl, by omega, by rw [List.take_zero]; exact HX2.out.2.keep (below_drewN (Below.refl _ X) _), by rw [List.take_zero]; exact HX2.out.1.keep (below_drewN (Below.refl _ X) _), HRB.out.1⟩
      case round =>
        obtain ⟨c, rfl, hck, hMi, hI, hne⟩ := hrel
        have HI := hid (And.intro hMi (And.intro hI hne))
        have hRw := Mi.rowF_ok (dead := dead) HG.out.1.nod _ (ts.take c) rfl
        obtain ⟨R, F', hRF⟩ : ∃ R F', Mi.rowF (mB T N) dead F (ts.take c) = (R, F') := ⟨_, _, rfl⟩
        rw [hRF] at hRw HI
        try dsimp only at hRw
        try dsimp only at HI
        have hlts := HQ.out.2.2.2.2
        have hRl : R.length = c := by
          have := congrArg List.length hRw.row
          rw [List.length_map, List.length_take] at this
          omega
        have hFN' : ∀ x ∈ F', x < N := fun x hx => by
          obtain ⟨E, e1, e2⟩ := hRw.pre
          rw [e1] at hx
          rcases List.mem_append.1 hx with hx | hx
          · exact HG.out.2.2.2.1 x hx
          · have := List.mem_of_mem_take (e2 x hx).1
            obtain ⟨z, hz⟩ := List.getElem?_of_mem this
            exact HQ.out.2.2.1 z x hz
        have hFl' : F'.length ≤ N := by
          have := Mi.nod_len hRw.nod (n := N) fun x hx => by
            obtain ⟨y, hy, rfl⟩ := List.mem_map.1 hx
            exact (HP.out.2.1 y (hFN' y hy)).1
          simpa using this
        obtain ⟨a9, c9, rfl⟩ := own_form HI.out.1.fnd
        have HF := hid (And.intro hRF (And.intro hRw (And.intro hRl hFN')))
        clear hMi hI hne hRF hRw hlts hRl hFN'
        by_cases hlc : c < k
        · have hlc' : (c : Int) < (k : Int) := by omega
          have hc0 : (0 : Int) ≤ (c : Int) := by omega
          have hc1 : IntKind.i64.wrap ((c : Int) + 1) = (c : Int) + 1 := wrapIn (by omega) (by omega)
          obtain ⟨br, or_, xt, he, _, hxt, pt⟩ := int_at (HQ.out.2.1.below HI.out.1.bel) hlc
          subst he
          obtain ⟨t, ht⟩ : ∃ t, ts[c]? = some t := ⟨_, List.getElem?_eq_getElem (by have := HQ.out.2.2.2.2; omega)⟩
          rw [zs_at ht] at hxt
          obtain rfl := Option.some.inj hxt
          have htN := HQ.out.2.2.1 c t ht
          obtain ⟨hbN, hPt⟩ := HP.out.2.1 t htN
          obtain ⟨b, hb⟩ : ∃ b, b = mB T N t := ⟨_, rfl⟩
          rw [← hb] at hbN hPt
          have pb := ib_at HI.out.1.blk (zs_at hPt)
          have ht0 : (0 : Int) ≤ (t : Int) := by omega
          have ht1 : (t : Int) < (N : Int) := by omega
          have hb0 : (0 : Int) ≤ (b : Int) := by omega
          have hb1 : (b : Int) < (N : Int) := by omega
          have pn := ib_at HI.out.1.num (numsL_at hbN (F'.map (mB T N)))
          have hfR := Go.Frame.free HI.out.2.1 c
          obtain ⟨z9, z8⟩ := HI.out.2.1.cell (i := c) (by rw [pad_len (by have := HF.out.2.2.1; omega)]; exact hlc)
          have htk : ts.take (c + 1) = ts.take c ++ [t] := by rw [List.take_add_one, ht]; rfl
          have HT := hid (And.intro htk hb)
          have hpad : ∀ v, (pad k R).set c v = pad k (R ++ [v]) := fun v => by
            have := pad_set (k := k) (L := R) (by have := HF.out.2.2.1; omega) v
            rwa [HF.out.2.2.1] at this
          have HPD := hid hpad
          clear hxt ht hPt htk hb hpad
          by_cases hbd : b = dead
          · have hbd' : ((b : Int) == (dead : Int)) = true := by rw [beq_iff_eq]; omega
            have HN := hid (show Mi.rowF (mB T N) dead F (ts.take (c + 1)) = (R ++ [-1], F') from by
              rw [HT.out.1, Mi.rowF_snoc, HF.out.1]
              unfold Mi.st1
              rw [if_pos (by rw [← HT.out.2]; exact hbd)])
            have HM2 := hid (And.intro (HI.out.1.put (j := c) (u := .int .i64 (-1)) HI.out.2.1 HRB.out.2.2 HI.out.2.2 HRB.out.2.1) (HI.out.2.1.set (i := c) (-1)))
            go_wp2_with fail
            go_roundg (gk - 1)
            case measure => omega
            case rel => exact ⟨c + 1, by go_num, by omega, by rw [HN.out]; exact HM2.out.1, by rw [HN.out]; have := HM2.out.2; rwa [HPD.out] at this, HI.out.2.2⟩
          · have hbd' : ((b : Int) == (dead : Int)) = false := by rw [beq_eq_false_iff_ne]; omega
            by_cases hin : b ∈ F'.map (mB T N)
            · obtain ⟨ix, hix⟩ : ∃ ix, ix = (F'.map (mB T N)).idxOf b := ⟨_, rfl⟩
              rw [if_pos hin, ← hix] at pn
              have hnn : ((ix : Int) == -1) = false := by rw [beq_eq_false_iff_ne]; omega
              have HN := hid (show Mi.rowF (mB T N) dead F (ts.take (c + 1)) = (R ++ [(ix : Int)], F') from by
                rw [HT.out.1, Mi.rowF_snoc, HF.out.1]
                unfold Mi.st1
                rw [← HT.out.2, if_neg hbd, if_pos hin, ← hix])
              have HM2 := hid (And.intro (HI.out.1.put (j := c) (u := .int .i64 (ix : Int)) HI.out.2.1 HRB.out.2.2 HI.out.2.2 HRB.out.2.1) (HI.out.2.1.set (i := c) (ix : Int)))
              clear hix hin
              go_wp2_with fail
              go_roundg (gk - 1)
              case measure => omega
              case rel => exact ⟨c + 1, by go_num, by omega, by rw [HN.out]; exact HM2.out.1, by rw [HN.out]; have := HM2.out.2; rwa [HPD.out] at this, HI.out.2.2⟩
            · rw [if_neg hin] at pn
              have HN := hid (show Mi.rowF (mB T N) dead F (ts.take (c + 1)) = (R ++ [(F'.length : Int)], F' ++ [t]) from by
                rw [HT.out.1, Mi.rowF_snoc, HF.out.1]
                unfold Mi.st1
                rw [← HT.out.2, if_neg hbd, if_neg hin])
              have hfN := Go.Frame.free HI.out.1.num b
              obtain ⟨U, hU⟩ : ∃ U, U = wr.setCell ⟨NB, b, none⟩ (.int .i64 (F'.length : Int)) := ⟨_, rfl⟩
              have HM3 := hid (show MS w U V2.heap.size bb NB (some ⟨bt, ot, none⟩) c1 a2 c2 N P (numsL N ((F' ++ [t]).map (mB T N))) F' (.slice a9 F'.length c9) (.slice a8 i c8) rv ∧ IB U wo.heap.size (pad k R) from by
                have h9 := HI.out.1.numb (b := b) (x := (F'.length : Int))
                have h8 := numsL_push hbN hin
                rw [List.length_map] at h8
                rw [h8] at h9
                have hne9 : wo.heap.size ≠ NB := by have := HI.out.1.o3; have := HRB.out.2.2; omega
                refine ⟨by rw [hU, List.map_append]; rw [HT.out.2] at h9 ⊢; exact h9, by rw [hU]; exact blk_set HI.out.2.1 hne9⟩)
              have HIN := hid hin
              clear hin
              go_upto_region 18 with fail
              rw [← hU]
              clear hU
              go_wp2_with (at_builtin; (refine wpList_append_lies _ rfl (.tmp 77) (.tmp 79) 22 rfl V2.heap.size 3 i0 (.int .i64 0) 1 8 Try.underlying22 hi hz0 hz1 hz2 rfl (by decide) (.slice a9 F'.length c9) F'.length _ (by rfl) (own_alloc HM3.out.1.fnd _) ⟨U.heap.size, 0, none⟩ 1 1 [.int .i64 (t : Int)] (by rfl) (by rfl) ?c1 ?c2 ?c3 ?c4 ?c5 ?c6 _ rfl ?_))
              case c1 => exact fun j u hj => one_cell _ _ _ _ _ hj
              case c2 => intro u hu; simp at hu; subst hu; rfl
              case c3 => decide
              case c4 => unfold maxLen; omega
              case c5 => omega
              case c6 => have := HM3.out.1.o4; simp; omega
              intro g5 cap5 w5 hown' hgrow hat hg5
              have hM5 := HM3.out.1.found hown' hgrow (fun k9 e => by
                simp [Value.ownBlock] at e
                subst e
                rcases hat with h | h
                · exact .inl h
                · exact .inr (by omega))
              have hI5 : IB w5 wo.heap.size (pad k R) := by
                have hl := heap_lt HM3.out.2
                have h9 := hgrow.block wo.heap.size (by simp; omega) (fun e => HI.out.2.2 e.symm)
                exact h9.trans (blk_alloc HM3.out.2)
              have hne5 : (Value.slice (some ⟨g5, 0, none⟩) (F'.length + 1) cap5).ownBlock ≠ some wo.heap.size := by
                have hl := heap_lt HM3.out.2
                intro e
                simp [Value.ownBlock] at e
                rcases hat with h | h
                · exact HI.out.2.2 (by rw [h, e])
                · omega
              have pn5 := ib_at hM5.num (numsL_at hbN ((F' ++ [t]).map (mB T N)))
              rw [if_pos (by rw [HT.out.2]; simp), show ((F' ++ [t]).map (mB T N)).idxOf b = F'.length from by rw [List.map_append, List.idxOf_append, if_neg HIN.out]; simp [HT.out.2]] at pn5
              have hfR5 := Go.Frame.free hI5 c
              obtain ⟨y9, y8⟩ := hI5.cell (i := c) (by rw [pad_len (by have := HF.out.2.2.1; omega)]; exact hlc)
              have HM2 := hid (And.intro (hM5.put (j := c) (u := .int .i64 (F'.length : Int)) hI5 HRB.out.2.2 hne5 HRB.out.2.1) (hI5.set (i := c) (F'.length : Int)))
              have HNE := hid hne5
              clear hown' hgrow hat hM5 hI5 hne5
              go_wp2_with fail
              go_roundg (gk - 1)
              case measure => omega
              case rel => exact ⟨c + 1, by go_num, by omega, by rw [HN.out]; simpa using HM2.out.1, by rw [HN.out]; have := HM2.out.2; rwa [HPD.out] at this, by simpa using HNE.out⟩
        · have hlc' : ¬ (c : Int) < (k : Int) := by omega
          obtain rfl : c = k := by omega
          have hfull : Mi.rowF (mB T N) dead F ts = (R, F') := by
            have := HF.out.1
            rwa [List.take_of_length_le (by have := HQ.out.2.2.2.2; omega)] at this
          have hRl := HF.out.2.2.1
          have hIR : IB wr wo.heap.size R := by
            have := HI.out.2.1
            rwa [← hRl, pad_all] at this
          have HFU := hid (And.intro hfull hIR)
          have hnx := HI.out.1.nxt.1
          have hrl2 := hrl
          rw [hrl] at hnx
          clear hfull hIR
          go_wp2_with (at_builtin; refine wpList_append_own _ rfl (.tmp 89) (.tmp 91) 23 rfl V2.heap.size 22 j0 (.slice none 0 0) 1 24 Try.underlying23 hj hy0 hy1 hy2 rfl (by decide) (.slice a8 i c8) i (rv.map rvv) (by rfl) (own_alloc hnx _) ⟨wr.heap.size, 0, none⟩ 1 1 [.slice (some ⟨wo.heap.size, 0, none⟩) c c] rfl rfl ?d1 ?d2 ?d3 ?d4 ?d5 ?_)
          first | (case d1 => exact fun j u hj => one_cell _ _ _ _ _ hj) | skip
          first | (case d2 => first | rfl | (intro u hu; simp at hu; subst hu; rfl)) | skip
          first | (case d3 => unfold maxLen; omega) | skip
          first | (case d4 => omega) | skip
          first | (case d5 => (have := HI.out.1.o4; simp; omega)) | skip
          intro v' w1 hown' hgrow _
          obtain ⟨pa, pc, rfl⟩ := own_form hown'
          have hM5 := HI.out.1.rowed HFU.out.2 HRB.out.2.2 HI.out.2.2 hgrow (by rw [hrl2]; unfold rvv; rw [show (wo.heap.size, R).2.length = c from hRl]; exact hown')
          have HM5 := hid hM5
          have HN := hid (show ∃ f', f = f' + 1 ∧ Mi.mergeF (mS T) (mB T N) dead f' (i + 1) F' ((rv ++ [(wo.heap.size, R)]).map (·.2)) = mRes T N ∧ Mi.Mg (mS T) (mB T N) dead (i + 1) F' ((rv ++ [(wo.heap.size, R)]).map (·.2)) from by
            have hf0 := HG.out.2.2.1
            obtain ⟨f', rfl⟩ : ∃ f', f = f' + 1 := ⟨f - 1, by omega⟩
            have h9 := HG.out.2.1
            have h8 := HG.out.1.step HQ.out.1
            unfold Mi.mergeF at h9
            rw [HQ.out.1] at h9
            simp only [HQ.out.2.2.2.1, HFU.out.1] at h9 h8
            exact ⟨f', rfl, by rw [List.map_append]; exact h9, by rw [List.map_append]; exact h8⟩)
          clear hown' hgrow hM5 hnx
          go_wp2_with fail
          obtain ⟨f', e9, h9, h8⟩ := HN.out
          have h7 := HG.out.2.2
          go_roundg (g1 - 1)
          case measure => omega
          case rel => exact ⟨i + 1, f', F', _, by go_num, HM5.out, h8, h9, by omega, HF.out.2.2.2, by omega⟩
    · have hlt' : ¬ (i : Int) < (F.length : Int) := by omega
      have hiF : i = F.length := by have := HG.out.1.le; omega
      have hres : mRes T N = (rv.map (·.2), F) := by
        have hf0 := HG.out.2.2.1
        obtain ⟨f', rfl⟩ : ∃ f', f = f' + 1 := ⟨f - 1, by omega⟩
        have h9 := HG.out.2.1
        unfold Mi.mergeF at h9
        rw [List.getElem?_eq_none (by omega)] at h9
        exact h9.symm
      have hfr7 := own_row' HM.out.fnd
      have CK := hid (pick_any wr a2 N c2 T.ac a7 F.length c7 F (HA.out.2.1.below HM.out.bel) hfr7 (by omega) (by omega) HG.out.2.2.2.1 _ rfl)
      have HRE := hid hres
      clear hM hG hR hf hFN hfr7 hres
      go_wp2_with fail
      refine CK.out.mono ?_
      rintro e w9 ⟨⟨b9, rfl, hI9, hb9⟩, hbw⟩
      rw [List.length_map]
      have HZ := hid (And.intro hI9 (And.intro hb9 hbw))
      clear hI9 hb9 hbw CK
      go_wp2
      go_ret2
      rw [HRE.out]
      have hbe := HM.out.bel.size
      refine ⟨⟨V2.heap.size, a8, c8, rv, b9, ?_, ?_, rfl, HZ.out.1, hwV2, Nat.le_trans hbe HZ.out.2.1⟩, HM.out.bel.trans (HZ.out.2.2.mono hbe)⟩
      · rw [hrl]; simp [hiF]
      · have h9 := HM.out.nxt.keep HZ.out.2.2
        rw [hrl]; exact h9
end Go.Proofs.Ytelbagaiijffdaa
