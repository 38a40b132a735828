/-
  Contract: concat.
  Contract: translate, of every valid expression; numbers written to the builder.
  Contract: countNodes.
-/
import Derived.Test.YtogpnlkjcdedlaaDoorZ11
section
set_option linter.unusedSimpArgs false
set_option linter.unusedVariables false
namespace Go.Proofs.YtogpnlkjcdedlaaDoor
open Go.RowKit Bs Rg Nf Go.Frame
attribute [local go_sem] eq_zero eq_set

theorem fstC_len (m : List Rx) (o : Nat) : (fstC m o).length ≤ npL m := by
  have := (fst_ok (.mk 4 none8 m) o).1
  rwa [fst_mk, if_neg (by decide), if_pos rfl, np_mk, if_neg (by decide)] at this
theorem lasC_ok (m : List Rx) (o : Nat) : (lasC m o).length ≤ npL m ∧ ∀ x ∈ lasC m o, o ≤ x ∧ x < o + npL m := by
  have := las_ok (.mk 4 none8 m) o
  rwa [las_mk, if_neg (by decide), if_pos rfl, np_mk, if_neg (by decide)] at this
theorem lasC_len (m : List Rx) (o : Nat) : (lasC m o).length ≤ npL m := (lasC_ok m o).1
theorem KB.kept2 {F : Nat → Prop} {w w' : World} {K p8 : Nat} {y : Bool} {a3 a4 : Option Addr} {c3 c4 : Nat} {F2 L2 : List Nat} (h : KB w K p8 y a3 c3 F2 a4 c4 L2) (hk : Kept F w w') (h0 : ¬ F p8) (h1 : ∀ k, (Value.slice a3 F2.length c3).ownBlock = some k → ¬ F k) (h2 : ∀ k, (Value.slice a4 L2.length c4).ownBlock = some k → ¬ F k) : KB w' K p8 y a3 c3 F2 a4 c4 L2 :=
  ⟨(hk.block _ h0).trans h.box, own_kept h.r1 hk h1, own_kept h.r2 hk h2, h.hp⟩
set_option maxRecDepth 100000 in
set_option maxHeartbeats 4000000 in
theorem concat_any (s : BS) (l : List Rx) (h64 : ∀ x ∈ l, TS 64 x) : TS 84 (.mk 4 s l) := by
  intro base bb most S M A G g W cs h hrc hg hm
  obtain ⟨a, n, c, rfl, hK⟩ := RC_mk.1 hrc
  have HB := hid h
  show Calls Tryd.prog 84 #[.pointer (some ⟨bb, 0, none⟩), .agg #[.int .i64 4, .int .u64 (ws s 0 : Int), .int .u64 (ws s 1 : Int), .int .u64 (ws s 2 : Int), .int .u64 (ws s 3 : Int), .slice a n c]] W _
  obtain ⟨X, hX⟩ : ∃ X, X = (W.alloc (.cells #[.int .i64 4, .int .u64 (ws s 0 : Int), .int .u64 (ws s 1 : Int), .int .u64 (ws s 2 : Int), .int .u64 (ws s 3 : Int), .slice a n c] 50)).alloc (.cells #[.bool false, .slice none 0 0, .slice none 0 0] 108) := ⟨_, rfl⟩
  have BXX := hid (show Below W.heap.size W X ∧ X.heap.size = W.heap.size + 2 from by rw [hX]; exact ⟨(bel1 _ _).alloc (by simp) _, by simp⟩)
  have hz : X.heap[W.heap.size + 1]? = some (.cells #[.bool false, .slice none 0 0, .slice none 0 0] 108 (0, 0)) := by rw [hX]; exact (by simpa using alloc_new (W.alloc (.cells #[.int .i64 4, .int .u64 (ws s 0 : Int), .int .u64 (ws s 1 : Int), .int .u64 (ws s 2 : Int), .int .u64 (ws s 3 : Int), .slice a n c] 50)) _)
  have hx6 : X.heap[W.heap.size]? = some (.cells #[.int .i64 4, .int .u64 (ws s 0 : Int), .int .u64 (ws s 1 : Int), .int .u64 (ws s 2 : Int), .int .u64 (ws s 3 : Int), .slice a n c] 50 (0, 0)) := by rw [hX]; exact blk_alloc (alloc_new _ _)
  have hll := hid hK.len
  have hnn := hK.lt
  have HKX := hid (And.intro (hK.below BXX.out.1).bound (And.intro hg h64))
  have Hlt := hid (fun b hb => (h.lt b hb).2 : ∀ b, G b → b < W.heap.size)
  have hnp : np (.mk 4 s l) = npL l := by rw [np_mk, if_neg (by decide)]
  rw [hnp] at hm
  have HM := hid (And.intro hm h.most)
  obtain ⟨Y, hY⟩ : ∃ Y, Y = X.alloc (.cells #[.bool true, .slice none 0 0, .slice none 0 0] 108) := ⟨_, rfl⟩
  have BY := hid (show Below X.heap.size X Y ∧ Y.heap.size = X.heap.size + 1 from by rw [hY]; exact ⟨bel1 _ _, by simp⟩)
  have P0 := hid (show PT G Y Y base bb most S M A G X.heap.size true none 0 [] none 0 [] from
    ⟨HB.out.below (BXX.out.1.trans (BY.out.1.mono BXX.out.1.size)), fun b hb => .inl hb, fun b hb => by have := Hlt.out b hb; have := BXX.out.2; omega, BY.out.2.symm, by rw [hY]; exact alloc_new _ _, PR.nil _ _ _, PR.nil _ _ _, fun k hk => by simp [Value.ownBlock] at hk, Kept.refl _ _⟩)
  have HX := hid (And.intro hx6 hz)
  have hY6 : Y.heap[W.heap.size]? = some (.cells #[.int .i64 4, .int .u64 (ws s 0 : Int), .int .u64 (ws s 1 : Int), .int .u64 (ws s 2 : Int), .int .u64 (ws s 3 : Int), .slice a n c] 50 (0, 0)) := (BY.out.1.block _ (heap_lt hx6)).trans hx6
  obtain ⟨d0, d1, d2, d3, d4, d5⟩ := cells6 hY6
  clear h hrc hg hK hm h64 hz hx6 hY6
  go_enter Tryd.func84, Tryd.ntmps84
  go_upto_region 1 with fail
  rw [← hX]
  clear hX
  go_upto_region 2 with fail
  rw [← hY]
  clear hY
  go_wp2_with fail
  go_loopg [13] n (fun kk s12 wr => ∃ (i : Nat) (G1 : Nat → Prop) (a1 : Option Addr) (c1 : Nat) (a2 : Option Addr) (c2 : Nat), s12 = .int .i64 (i : Int) ∧ i + kk = n ∧ PT G Y wr base bb most (S ++ osL (l.take i)) (orM M (prC (l.take i) S.length)) (A ++ List.replicate (npL (l.take i)) (-1)) G1 X.heap.size (nulC (l.take i)) a1 c1 (fstC (l.take i) S.length) a2 c2 (lasC (l.take i) S.length))
  case atStart =>
    refine ⟨0, G, none, 0, none, 0, rfl, by omega, ?_⟩
    have e : orM M (prC [] S.length) = M := by funext i j; simp [orM, prC_nil]
    rw [List.take_zero, fstC_nil, lasC_nil, e]
    simpa [osL, npL, nulC] using P0.out
  case round =>
    obtain ⟨i, G1, a1, c1, a2, c2, rfl, hik, hpt⟩ := hrel
    by_cases hlt : i < n
    · have hlt' : (i : Int) < (n : Int) := by omega
      have hi0 : (0 : Int) ≤ (i : Int) := by omega
      obtain ⟨b, off, k', s', l', a', n', c', rfl, hgb, hb, hxe, hK', q0, q1, q2, q3, q4, q5⟩ := HKX.out.1.get hlt
      have hgn : ∀ b, (g b ∧ b < X.heap.size) → ¬ (G b ∨ b = X.heap.size ∨ Y.heap.size ≤ b) := fun b hb => by
        have := BY.out.2
        have := hb.2
        rintro (e | e | e)
        · exact HKX.out.2.1 b hb.1 e
        · omega
        · omega
      have hkx : ∀ b, (g b ∧ b < X.heap.size) → b < X.heap.size → wr.heap[b]? = X.heap[b]? := fun b hb hlt => (hpt.kp.block b (hgn b hb)).trans (BY.out.1.block b hlt)
      have hsX : X.heap.size ≤ wr.heap.size := by have := hpt.kp.size; have := BY.out.2; omega
      obtain ⟨S1, hS1⟩ : ∃ S1, S1 = S ++ osL (l.take i) := ⟨_, rfl⟩
      obtain ⟨M1, hM1⟩ : ∃ M1, M1 = orM M (prC (l.take i) S.length) := ⟨_, rfl⟩
      obtain ⟨A1, hA1⟩ : ∃ A1, A1 = A ++ List.replicate (npL (l.take i)) (-1) := ⟨_, rfl⟩
      obtain ⟨nl, hnl⟩ : ∃ nl, nl = nulC (l.take i) := ⟨_, rfl⟩
      obtain ⟨F, hF⟩ : ∃ F, F = fstC (l.take i) S.length := ⟨_, rfl⟩
      obtain ⟨L, hL⟩ : ∃ L, L = lasC (l.take i) S.length := ⟨_, rfl⟩
      obtain ⟨x, hx⟩ : ∃ x, x = Rx.mk k' s' l' := ⟨_, rfl⟩
      rw [← hx] at hxe
      rw [← hS1, ← hM1, ← hA1, ← hnl, ← hF, ← hL] at hpt
      have hSl : S1.length = S.length + npL (l.take i) := by rw [hS1, List.length_append, osL_length]
      have htk := npL_take hxe
      have hF1 : F.length ≤ 1000 := by rw [hF]; have := fstC_len (l.take i) S.length; have := HM.out; omega
      have hL1 : L.length ≤ 1000 := by rw [hL]; have := lasC_len (l.take i) S.length; have := HM.out; omega
      have hx1 : S1.length + np x ≤ most := by have := HM.out; omega
      have hxl : (fst x S1.length).length ≤ 1000 ∧ (las x S1.length).length ≤ 1000 := ⟨by have := (fst_ok x S1.length).1; have := HM.out; omega, by have := (las_ok x S1.length).1; have := HM.out; omega⟩
      have HN := hid (And.intro hS1 (And.intro hM1 (And.intro hA1 (And.intro hnl (And.intro hF (And.intro hL (And.intro hxe (And.intro hSl htk))))))))
      obtain ⟨U, hU⟩ : ∃ U, U = wr.alloc (.cells #[.int .i64 k', .int .u64 (ws s' 0 : Int), .int .u64 (ws s' 1 : Int), .int .u64 (ws s' 2 : Int), .int .u64 (ws s' 3 : Int), .slice a' n' c'] 50) := ⟨_, rfl⟩
      have BU := hid (show Below wr.heap.size wr U ∧ U.heap.size = wr.heap.size + 1 from by rw [hU]; exact ⟨bel1 _ _, by simp⟩)
      have hU6 : U.heap[wr.heap.size]? = some (.cells #[.int .i64 k', .int .u64 (ws s' 0 : Int), .int .u64 (ws s' 1 : Int), .int .u64 (ws s' 2 : Int), .int .u64 (ws s' 3 : Int), .slice a' n' c'] 50 (0, 0)) := by rw [hU]; exact alloc_new _ _
      have hcell : ∀ (j : Nat) v, X.cell? ⟨b, j, none⟩ = some v → wr.cell? ⟨b, j, none⟩ = some v := fun j v hv => by rw [← hv]; exact World.cell?_of_block (hkx b hgb hb)
      have q0 := hcell _ _ q0; have q1 := hcell _ _ q1; have q2 := hcell _ _ q2; have q3 := hcell _ _ q3; have q4 := hcell _ _ q4; have q5 := hcell _ _ q5
      have CF := hid (show Calls Tryd.prog 64 #[.pointer (some ⟨bb, 0, none⟩), .agg #[.int .i64 k', .int .u64 (ws s' 0 : Int), .int .u64 (ws s' 1 : Int), .int .u64 (ws s' 2 : Int), .int .u64 (ws s' 3 : Int), .slice a' n' c']] U (TR x base bb most S1 M1 A1 G1 U) from by
        have h1 := HKX.out.2.2 _ (List.mem_of_getElem? hxe) base bb most S1 M1 A1 G1 (fun b => g b ∧ b < X.heap.size) U (rcs k' s' (.slice a' n' c')) (hpt.bx.below BU.out.1) (by rw [hx]; exact RC_mk.2 ⟨a', n', c', rfl, (hK'.keep hsX hkx (fun _ h => h)).below BU.out.1⟩) (fun b hb hg1 => by
          rcases hpt.sub b hg1 with e | e
          · exact hgn b hb (.inl e)
          · exact hgn b hb (.inr (.inr e))) hx1
        exact h1)
      have HPT := hid hpt
      obtain ⟨e0, e1, e2, e3, e4, e5⟩ := cells6 hU6
      clear hpt hxe hK' hkx hgn hcell hS1 hM1 hA1 hnl hF hL hU6 hb hgb
      go_upto_region 5 with fail
      rw [← hU]
      clear hU q0 q1 q2 q3 q4 q5
      go_wp2_with fail
      refine CF.out.mono ?_
      intro e w3 h3
      obtain ⟨a3, c3, a4, c4, rfl, G2, hbx2, hG2, hr3, hr4, hkp3⟩ := h3.open
      obtain ⟨F2, hF2⟩ : ∃ F2, F2 = fst x S1.length := ⟨_, rfl⟩
      obtain ⟨L2, hL2⟩ : ∃ L2, L2 = las x S1.length := ⟨_, rfl⟩
      obtain ⟨y, hy⟩ : ∃ y, y = nul x := ⟨_, rfl⟩
      rw [← hF2] at hr3 hxl ⊢
      rw [← hL2] at hr4 hxl ⊢
      rw [← hy]
      have hsub2 : ∀ b, G2 b → G1 b ∨ wr.heap.size ≤ b := fun b hb => (hG2 b hb).imp_right fun e => by have := BU.out.2; omega
      have hp3 := HPT.out.call ((Kept.below BU.out.1 fun b hb => .inr hb).trans (hkp3.mono fun b hb => hb.imp_right fun e => by have := BU.out.2; omega)) hbx2 hsub2
      obtain ⟨V, hV⟩ : ∃ V, V = w3.alloc (.cells #[.bool y, .slice a3 F2.length c3, .slice a4 L2.length c4] 108) := ⟨_, rfl⟩
      have BV := hid (show Below w3.heap.size w3 V ∧ V.heap.size = w3.heap.size + 1 from by rw [hV]; exact ⟨bel1 _ _, by simp⟩)
      have PV := hid (hp3.below BV.out.1)
      have KV := hid (show KB V U.heap.size w3.heap.size y a3 c3 F2 a4 c4 L2 from ⟨by rw [hV]; exact alloc_new _ _, (hr3.below BV.out.1).1, (hr4.below BV.out.1).1, hkp3.size⟩)
      have HO := hid (show (∀ k, (Value.slice a1 F.length c1).ownBlock = some k → k < U.heap.size) ∧ (∀ k, (Value.slice a2 L.length c2).ownBlock = some k → k < U.heap.size) ∧ X.heap.size < U.heap.size from ⟨fun k hk => by have := (HPT.out.pf.1.lt k hk).2; have := BU.out.2; omega, fun k hk => by have := (HPT.out.pl.1.lt k hk).2; have := BU.out.2; omega, by have := heap_lt HPT.out.box; have := BU.out.2; omega⟩)
      have HN2 := hid (And.intro hF2 (And.intro hL2 hy))
      have HPR := hid (And.intro (hr3.below BV.out.1) (And.intro (hr4.below BV.out.1).2 (show ¬ G2 w3.heap.size from fun h => by have := (hbx2.lt _ h).2; omega)))
      have hx2 := hxl
      clear hbx2 hG2 hr3 hr4 hkp3 h3 hsub2 hp3 CF hF2 hL2 hy hxl e0 e1 e2 e3 e4 e5
      have CA := hid (addArcs_X base bb most (S1 ++ os x) (orM M1 (pr x S1.length)) (A1 ++ List.replicate (np x) (-1)) G2 V (.slice a2 L.length c2) (.slice a3 F2.length c3) PV.out.bx L F2 _ _ PV.out.pl HPR.out.1
        (fun z hz => by rw [HN.out.2.2.2.2.2.1] at hz; have := (lasC_ok (l.take i) S.length).2 z hz; have := HN.out.2.2.2.2.2.2.2.1; rw [List.length_append]; omega)
        (fun z hz => by rw [HN2.out.1] at hz; have := (fst_ok x S1.length).2 z hz; omega) hL1 hx2.1)
      obtain ⟨t0, t1, t2⟩ := cells3 PV.out.box
      obtain ⟨u0, u1, u2⟩ := KV.out.cells
      go_upto_region 6 with fail
      rw [← hV]
      clear hV
      go_wp2_with fail
      refine CA.out.mono ?_
      rintro e w4 ⟨rfl, hbx4, hkp4⟩
      have P4 := hid (PV.out.call (hkp4.mono fun b hb => .inl hb) hbx4 fun b hb => .inl hb)
      have K4 := hid (KV.out.kept2 hkp4 HPR.out.2.2 HPR.out.1.2 HPR.out.2.1)
      clear hbx4 hkp4 CA t0 t1 t2 u0 u1 u2
      cases nl
      · cases y
        · obtain ⟨v0, v1, v2⟩ := cells3 P4.out.box
          obtain ⟨s0, s1, s2⟩ := K4.out.cells
          go_upto_region 9 with fail
          have P5 := P4
          have K5 := K4
          clear v0 v1 v2 s0 s1 s2
          obtain ⟨v0, v1, v2⟩ := cells3 P5.out.box
          obtain ⟨s0, s1, s2⟩ := K5.out.cells
          have f7 := Go.Frame.free P5.out.box 2
          have P7 := hid P5.out.clr
          have K7 := hid (K5.out.kept ((Kept.refl (fun b => b = X.heap.size) w4).setCell (p := ⟨X.heap.size, 2, none⟩) rfl (.slice none 0 0)) fun b hb => .inl (by have := HO.out.2.2; omega))
          go_upto_region 11 with fail
          obtain ⟨V7, hV7⟩ : ∃ V7, V7 = w4.setCell ⟨X.heap.size, 2, none⟩ (.slice none 0 0) := ⟨_, rfl⟩
          rw [← hV7] at P7 K7 ⊢
          clear hV7 v0 v1 v2 s0 s1 s2 f7
          obtain ⟨v0, v1, v2⟩ := cells3 P7.out.box
          obtain ⟨s0, s1, s2⟩ := K7.out.cells
          have hs7 := P7.out.kp.size
          go_wp2_with (at_builtin; refine wpList_row rfl (.tmp 39) (.tmp 41) rfl rfl Y.heap.size U.heap.size none a4 0 c4 ([] : List Nat) L2 (by rfl) P7.out.pl.1 (by rfl) K7.out.r2 hs7 (by decide) hx2.2 ?_)
          intro LL a6 c6 w6 hLL ho6 hg6 hw6
          have P6 := hid (P7.out.last ho6 hg6 hw6)
          have b6 : w6.heap[X.heap.size]? = some (.cells #[.bool false, .slice a1 F.length c1, .slice none ([] : List Nat).length 0] 108 (0, 0)) := (hg6.block _ (heap_lt P7.out.box) (fun e => by have := (P7.out.pl.1.lt _ e.symm).1; have := BY.out.2; omega)).trans P7.out.box
          have f6 := Go.Frame.free b6 2
          obtain ⟨z0, z1, z2⟩ := cells3 b6
          have K6 := hid (K7.out.kept ((Kept.grown (F := fun b => b = X.heap.size ∨ (Value.slice none ([] : List Nat).length 0).ownBlock = some b ∨ V7.heap.size ≤ b) (Kept.refl _ V7) hg6 (fun b hb => .inr (.inr hb)) (fun k hk => .inr (.inl hk))).setCell (p := ⟨X.heap.size, 2, none⟩) (.inl rfl) (.slice a6 LL.length c6)) fun b hb => by
            rcases hb with e | e | e
            · exact .inl (by have := HO.out.2.2; omega)
            · exact .inl ((by simp [Value.ownBlock] at e))
            · exact .inr e)
          clear b6 ho6 hg6 hw6 v0 v1 v2 s0 s1 s2
          go_upto_region 12 with fail
          obtain ⟨V6, hV6⟩ : ∃ V6, V6 = w6.setCell ⟨X.heap.size, 2, none⟩ (.slice a6 LL.length c6) := ⟨_, rfl⟩
          rw [← hV6] at P6 K6 ⊢
          clear hV6 z0 z1 z2 f6
          obtain ⟨v0, v1, v2⟩ := cells3 P6.out.box
          obtain ⟨s0, s1, s2⟩ := K6.out.cells
          have f0 := Go.Frame.free P6.out.box 0
          have P9 := hid (P6.out.nul false)
          have HFL := hid (And.intro hLL.out True.intro)
          clear hLL 
          go_wp2
          go_roundg (gk - 1)
          case measure => omega
          case rel =>
            refine ⟨i + 1, G2, a1, c1, a6, c6, by go_num, by omega, ?_⟩
            obtain ⟨hS1, hM1, hA1, hnl, hF, hL, hxe, hSl, htk⟩ := HN.out
            obtain ⟨hF2, hL2, hy⟩ := HN2.out
            have h9 := P9.out
            have hyx : nulC [x] = nul x := by simp [nulC]
            rw [take_snoc hxe, osL_append, npL_append, fstC_append, lasC_append, nulC_append, hyx, ← hnl, ← hy]
            have g1 : S ++ (osL (l.take i) ++ osL [x]) = S1 ++ os x := by rw [hS1]; simp [osL]
            have g2 : orM M (prC (l.take i ++ [x]) S.length) = addM (orM M1 (pr x S1.length)) L F2 := by funext p q; rw [hM1, addM, orM, orM, orM, prC_snoc, hSl, hL, hF2, hSl, ← Bool.or_assoc, ← Bool.or_assoc]
            have g3 : A ++ List.replicate (npL (l.take i) + npL [x]) (-1 : Int) = A1 ++ List.replicate (np x) (-1) := by rw [hA1, npL, npL, Nat.add_zero, ← List.replicate_append_replicate, List.append_assoc]
            have g7 : fstC [x] (S.length + npL (l.take i)) = F2 := by rw [hF2, fstC_cons, fstC_nil, hSl]; simp
            have g8 : lasC [x] (S.length + npL (l.take i)) = L2 := by rw [hL2, lasC_cons, lasC_nil, hSl]; simp [nulC]
            rw [g1, g2, g3, g7, g8, ← hF, ← hL]
            rw [HFL.out.1] at h9
            simpa using h9
        · obtain ⟨v0, v1, v2⟩ := cells3 P4.out.box
          obtain ⟨s0, s1, s2⟩ := K4.out.cells
          go_upto_region 9 with fail
          have P5 := P4
          have K5 := K4
          clear v0 v1 v2 s0 s1 s2
          obtain ⟨v0, v1, v2⟩ := cells3 P5.out.box
          obtain ⟨s0, s1, s2⟩ := K5.out.cells
          go_upto_region 11 with fail
          have P7 := P5
          have K7 := K5
          clear v0 v1 v2 s0 s1 s2
          obtain ⟨v0, v1, v2⟩ := cells3 P7.out.box
          obtain ⟨s0, s1, s2⟩ := K7.out.cells
          have hs7 := P7.out.kp.size
          go_wp2_with (at_builtin; refine wpList_row rfl (.tmp 39) (.tmp 41) rfl rfl Y.heap.size U.heap.size a2 a4 c2 c4 L L2 (by rfl) P7.out.pl.1 (by rfl) K7.out.r2 hs7 hL1 hx2.2 ?_)
          intro LL a6 c6 w6 hLL ho6 hg6 hw6
          have P6 := hid (P7.out.last ho6 hg6 hw6)
          have b6 : w6.heap[X.heap.size]? = some (.cells #[.bool false, .slice a1 F.length c1, .slice a2 L.length c2] 108 (0, 0)) := (hg6.block _ (heap_lt P7.out.box) (fun e => by have := (P7.out.pl.1.lt _ e.symm).1; have := BY.out.2; omega)).trans P7.out.box
          have f6 := Go.Frame.free b6 2
          obtain ⟨z0, z1, z2⟩ := cells3 b6
          have K6 := hid (K7.out.kept ((Kept.grown (F := fun b => b = X.heap.size ∨ (Value.slice a2 L.length c2).ownBlock = some b ∨ w4.heap.size ≤ b) (Kept.refl _ w4) hg6 (fun b hb => .inr (.inr hb)) (fun k hk => .inr (.inl hk))).setCell (p := ⟨X.heap.size, 2, none⟩) (.inl rfl) (.slice a6 LL.length c6)) fun b hb => by
            rcases hb with e | e | e
            · exact .inl (by have := HO.out.2.2; omega)
            · exact .inl (HO.out.2.1 b e)
            · exact .inr e)
          clear b6 ho6 hg6 hw6 v0 v1 v2 s0 s1 s2
          go_upto_region 12 with fail
          obtain ⟨V6, hV6⟩ : ∃ V6, V6 = w6.setCell ⟨X.heap.size, 2, none⟩ (.slice a6 LL.length c6) := ⟨_, rfl⟩
          rw [← hV6] at P6 K6 ⊢
          clear hV6 z0 z1 z2 f6
          obtain ⟨v0, v1, v2⟩ := cells3 P6.out.box
          obtain ⟨s0, s1, s2⟩ := K6.out.cells
          have f0 := Go.Frame.free P6.out.box 0
          have P9 := hid (P6.out.nul false)
          have HFL := hid (And.intro hLL.out True.intro)
          clear hLL 
          go_wp2
          go_roundg (gk - 1)
          case measure => omega
          case rel =>
            refine ⟨i + 1, G2, a1, c1, a6, c6, by go_num, by omega, ?_⟩
            obtain ⟨hS1, hM1, hA1, hnl, hF, hL, hxe, hSl, htk⟩ := HN.out
            obtain ⟨hF2, hL2, hy⟩ := HN2.out
            have h9 := P9.out
            have hyx : nulC [x] = nul x := by simp [nulC]
            rw [take_snoc hxe, osL_append, npL_append, fstC_append, lasC_append, nulC_append, hyx, ← hnl, ← hy]
            have g1 : S ++ (osL (l.take i) ++ osL [x]) = S1 ++ os x := by rw [hS1]; simp [osL]
            have g2 : orM M (prC (l.take i ++ [x]) S.length) = addM (orM M1 (pr x S1.length)) L F2 := by funext p q; rw [hM1, addM, orM, orM, orM, prC_snoc, hSl, hL, hF2, hSl, ← Bool.or_assoc, ← Bool.or_assoc]
            have g3 : A ++ List.replicate (npL (l.take i) + npL [x]) (-1 : Int) = A1 ++ List.replicate (np x) (-1) := by rw [hA1, npL, npL, Nat.add_zero, ← List.replicate_append_replicate, List.append_assoc]
            have g7 : fstC [x] (S.length + npL (l.take i)) = F2 := by rw [hF2, fstC_cons, fstC_nil, hSl]; simp
            have g8 : lasC [x] (S.length + npL (l.take i)) = L2 := by rw [hL2, lasC_cons, lasC_nil, hSl]; simp [nulC]
            rw [g1, g2, g3, g7, g8, ← hF, ← hL]
            rw [HFL.out.1] at h9
            simpa using h9
      · cases y
        · have HBR := hid (And.intro True.intro True.intro)
          obtain ⟨v0, v1, v2⟩ := cells3 P4.out.box
          obtain ⟨s0, s1, s2⟩ := K4.out.cells
          have hs4 := P4.out.kp.size
          go_upto_region 8 with fail
          go_wp2_with (at_builtin; refine wpList_row rfl (.tmp 29) (.tmp 31) rfl rfl Y.heap.size U.heap.size a1 a3 c1 c3 F F2 (by rfl) P4.out.pf.1 (by rfl) K4.out.r1 hs4 hF1 hx2.1 ?_)
          intro FF a5 c5 w5 hFF ho5 hg5 hw5
          have P5 := hid (P4.out.first ho5 hg5 hw5)
          have b5 : w5.heap[X.heap.size]? = some (.cells #[.bool true, .slice a1 F.length c1, .slice a2 L.length c2] 108 (0, 0)) := (hg5.block _ (heap_lt P4.out.box) (fun e => by have := (P4.out.pf.1.lt _ e.symm).1; have := BY.out.2; omega)).trans P4.out.box
          have f5 := Go.Frame.free b5 1
          obtain ⟨z0, z1, z2⟩ := cells3 b5
          have K5 := hid (K4.out.kept ((Kept.grown (F := fun b => b = X.heap.size ∨ (Value.slice a1 F.length c1).ownBlock = some b ∨ w4.heap.size ≤ b) (Kept.refl _ w4) hg5 (fun b hb => .inr (.inr hb)) (fun k hk => .inr (.inl hk))).setCell (p := ⟨X.heap.size, 1, none⟩) (.inl rfl) (.slice a5 FF.length c5)) fun b hb => by
            rcases hb with e | e | e
            · exact .inl (by have := HO.out.2.2; omega)
            · exact .inl (HO.out.1 b e)
            · exact .inr e)
          clear b5 ho5 hg5 hw5 v0 v1 v2 s0 s1 s2
          go_upto_region 9 with fail
          obtain ⟨V5, hV5⟩ : ∃ V5, V5 = w5.setCell ⟨X.heap.size, 1, none⟩ (.slice a5 FF.length c5) := ⟨_, rfl⟩
          rw [← hV5] at P5 K5 ⊢
          clear hV5 z0 z1 z2 f5
          obtain ⟨v0, v1, v2⟩ := cells3 P5.out.box
          obtain ⟨s0, s1, s2⟩ := K5.out.cells
          have f7 := Go.Frame.free P5.out.box 2
          have P7 := hid P5.out.clr
          have K7 := hid (K5.out.kept ((Kept.refl (fun b => b = X.heap.size) V5).setCell (p := ⟨X.heap.size, 2, none⟩) rfl (.slice none 0 0)) fun b hb => .inl (by have := HO.out.2.2; omega))
          go_upto_region 11 with fail
          obtain ⟨V7, hV7⟩ : ∃ V7, V7 = V5.setCell ⟨X.heap.size, 2, none⟩ (.slice none 0 0) := ⟨_, rfl⟩
          rw [← hV7] at P7 K7 ⊢
          clear hV7 v0 v1 v2 s0 s1 s2 f7
          obtain ⟨v0, v1, v2⟩ := cells3 P7.out.box
          obtain ⟨s0, s1, s2⟩ := K7.out.cells
          have hs7 := P7.out.kp.size
          go_wp2_with (at_builtin; refine wpList_row rfl (.tmp 39) (.tmp 41) rfl rfl Y.heap.size U.heap.size none a4 0 c4 ([] : List Nat) L2 (by rfl) P7.out.pl.1 (by rfl) K7.out.r2 hs7 (by decide) hx2.2 ?_)
          intro LL a6 c6 w6 hLL ho6 hg6 hw6
          have P6 := hid (P7.out.last ho6 hg6 hw6)
          have b6 : w6.heap[X.heap.size]? = some (.cells #[.bool true, .slice a5 FF.length c5, .slice none ([] : List Nat).length 0] 108 (0, 0)) := (hg6.block _ (heap_lt P7.out.box) (fun e => by have := (P7.out.pl.1.lt _ e.symm).1; have := BY.out.2; omega)).trans P7.out.box
          have f6 := Go.Frame.free b6 2
          obtain ⟨z0, z1, z2⟩ := cells3 b6
          have K6 := hid (K7.out.kept ((Kept.grown (F := fun b => b = X.heap.size ∨ (Value.slice none ([] : List Nat).length 0).ownBlock = some b ∨ V7.heap.size ≤ b) (Kept.refl _ V7) hg6 (fun b hb => .inr (.inr hb)) (fun k hk => .inr (.inl hk))).setCell (p := ⟨X.heap.size, 2, none⟩) (.inl rfl) (.slice a6 LL.length c6)) fun b hb => by
            rcases hb with e | e | e
            · exact .inl (by have := HO.out.2.2; omega)
            · exact .inl ((by simp [Value.ownBlock] at e))
            · exact .inr e)
          clear b6 ho6 hg6 hw6 v0 v1 v2 s0 s1 s2
          go_upto_region 12 with fail
          obtain ⟨V6, hV6⟩ : ∃ V6, V6 = w6.setCell ⟨X.heap.size, 2, none⟩ (.slice a6 LL.length c6) := ⟨_, rfl⟩
          rw [← hV6] at P6 K6 ⊢
          clear hV6 z0 z1 z2 f6
          obtain ⟨v0, v1, v2⟩ := cells3 P6.out.box
          obtain ⟨s0, s1, s2⟩ := K6.out.cells
          have f0 := Go.Frame.free P6.out.box 0
          have P9 := hid (P6.out.nul false)
          have HFL := hid (And.intro hLL.out hFF.out)
          clear hLL hFF
          go_wp2
          go_roundg (gk - 1)
          case measure => omega
          case rel =>
            refine ⟨i + 1, G2, a5, c5, a6, c6, by go_num, by omega, ?_⟩
            obtain ⟨hS1, hM1, hA1, hnl, hF, hL, hxe, hSl, htk⟩ := HN.out
            obtain ⟨hF2, hL2, hy⟩ := HN2.out
            have h9 := P9.out
            have hyx : nulC [x] = nul x := by simp [nulC]
            rw [take_snoc hxe, osL_append, npL_append, fstC_append, lasC_append, nulC_append, hyx, ← hnl, ← hy]
            have g1 : S ++ (osL (l.take i) ++ osL [x]) = S1 ++ os x := by rw [hS1]; simp [osL]
            have g2 : orM M (prC (l.take i ++ [x]) S.length) = addM (orM M1 (pr x S1.length)) L F2 := by funext p q; rw [hM1, addM, orM, orM, orM, prC_snoc, hSl, hL, hF2, hSl, ← Bool.or_assoc, ← Bool.or_assoc]
            have g3 : A ++ List.replicate (npL (l.take i) + npL [x]) (-1 : Int) = A1 ++ List.replicate (np x) (-1) := by rw [hA1, npL, npL, Nat.add_zero, ← List.replicate_append_replicate, List.append_assoc]
            have g7 : fstC [x] (S.length + npL (l.take i)) = F2 := by rw [hF2, fstC_cons, fstC_nil, hSl]; simp
            have g8 : lasC [x] (S.length + npL (l.take i)) = L2 := by rw [hL2, lasC_cons, lasC_nil, hSl]; simp [nulC]
            rw [g1, g2, g3, g7, g8, ← hF, ← hL]
            rw [HFL.out.2] at h9
            rw [HFL.out.1] at h9
            simpa using h9
        · have HBR := hid (And.intro True.intro True.intro)
          obtain ⟨v0, v1, v2⟩ := cells3 P4.out.box
          obtain ⟨s0, s1, s2⟩ := K4.out.cells
          have hs4 := P4.out.kp.size
          go_upto_region 8 with fail
          go_wp2_with (at_builtin; refine wpList_row rfl (.tmp 29) (.tmp 31) rfl rfl Y.heap.size U.heap.size a1 a3 c1 c3 F F2 (by rfl) P4.out.pf.1 (by rfl) K4.out.r1 hs4 hF1 hx2.1 ?_)
          intro FF a5 c5 w5 hFF ho5 hg5 hw5
          have P5 := hid (P4.out.first ho5 hg5 hw5)
          have b5 : w5.heap[X.heap.size]? = some (.cells #[.bool true, .slice a1 F.length c1, .slice a2 L.length c2] 108 (0, 0)) := (hg5.block _ (heap_lt P4.out.box) (fun e => by have := (P4.out.pf.1.lt _ e.symm).1; have := BY.out.2; omega)).trans P4.out.box
          have f5 := Go.Frame.free b5 1
          obtain ⟨z0, z1, z2⟩ := cells3 b5
          have K5 := hid (K4.out.kept ((Kept.grown (F := fun b => b = X.heap.size ∨ (Value.slice a1 F.length c1).ownBlock = some b ∨ w4.heap.size ≤ b) (Kept.refl _ w4) hg5 (fun b hb => .inr (.inr hb)) (fun k hk => .inr (.inl hk))).setCell (p := ⟨X.heap.size, 1, none⟩) (.inl rfl) (.slice a5 FF.length c5)) fun b hb => by
            rcases hb with e | e | e
            · exact .inl (by have := HO.out.2.2; omega)
            · exact .inl (HO.out.1 b e)
            · exact .inr e)
          clear b5 ho5 hg5 hw5 v0 v1 v2 s0 s1 s2
          go_upto_region 9 with fail
          obtain ⟨V5, hV5⟩ : ∃ V5, V5 = w5.setCell ⟨X.heap.size, 1, none⟩ (.slice a5 FF.length c5) := ⟨_, rfl⟩
          rw [← hV5] at P5 K5 ⊢
          clear hV5 z0 z1 z2 f5
          obtain ⟨v0, v1, v2⟩ := cells3 P5.out.box
          obtain ⟨s0, s1, s2⟩ := K5.out.cells
          go_upto_region 11 with fail
          have P7 := P5
          have K7 := K5
          clear v0 v1 v2 s0 s1 s2
          obtain ⟨v0, v1, v2⟩ := cells3 P7.out.box
          obtain ⟨s0, s1, s2⟩ := K7.out.cells
          have hs7 := P7.out.kp.size
          go_wp2_with (at_builtin; refine wpList_row rfl (.tmp 39) (.tmp 41) rfl rfl Y.heap.size U.heap.size a2 a4 c2 c4 L L2 (by rfl) P7.out.pl.1 (by rfl) K7.out.r2 hs7 hL1 hx2.2 ?_)
          intro LL a6 c6 w6 hLL ho6 hg6 hw6
          have P6 := hid (P7.out.last ho6 hg6 hw6)
          have b6 : w6.heap[X.heap.size]? = some (.cells #[.bool true, .slice a5 FF.length c5, .slice a2 L.length c2] 108 (0, 0)) := (hg6.block _ (heap_lt P7.out.box) (fun e => by have := (P7.out.pl.1.lt _ e.symm).1; have := BY.out.2; omega)).trans P7.out.box
          have f6 := Go.Frame.free b6 2
          obtain ⟨z0, z1, z2⟩ := cells3 b6
          have K6 := hid (K7.out.kept ((Kept.grown (F := fun b => b = X.heap.size ∨ (Value.slice a2 L.length c2).ownBlock = some b ∨ V5.heap.size ≤ b) (Kept.refl _ V5) hg6 (fun b hb => .inr (.inr hb)) (fun k hk => .inr (.inl hk))).setCell (p := ⟨X.heap.size, 2, none⟩) (.inl rfl) (.slice a6 LL.length c6)) fun b hb => by
            rcases hb with e | e | e
            · exact .inl (by have := HO.out.2.2; omega)
            · exact .inl (HO.out.2.1 b e)
            · exact .inr e)
          clear b6 ho6 hg6 hw6 v0 v1 v2 s0 s1 s2
          go_upto_region 12 with fail
          obtain ⟨V6, hV6⟩ : ∃ V6, V6 = w6.setCell ⟨X.heap.size, 2, none⟩ (.slice a6 LL.length c6) := ⟨_, rfl⟩
          rw [← hV6] at P6 K6 ⊢
          clear hV6 z0 z1 z2 f6
          obtain ⟨v0, v1, v2⟩ := cells3 P6.out.box
          obtain ⟨s0, s1, s2⟩ := K6.out.cells
          have f0 := Go.Frame.free P6.out.box 0
          have P9 := hid (P6.out.nul true)
          have HFL := hid (And.intro hLL.out hFF.out)
          clear hLL hFF
          go_wp2
          go_roundg (gk - 1)
          case measure => omega
          case rel =>
            refine ⟨i + 1, G2, a5, c5, a6, c6, by go_num, by omega, ?_⟩
            obtain ⟨hS1, hM1, hA1, hnl, hF, hL, hxe, hSl, htk⟩ := HN.out
            obtain ⟨hF2, hL2, hy⟩ := HN2.out
            have h9 := P9.out
            have hyx : nulC [x] = nul x := by simp [nulC]
            rw [take_snoc hxe, osL_append, npL_append, fstC_append, lasC_append, nulC_append, hyx, ← hnl, ← hy]
            have g1 : S ++ (osL (l.take i) ++ osL [x]) = S1 ++ os x := by rw [hS1]; simp [osL]
            have g2 : orM M (prC (l.take i ++ [x]) S.length) = addM (orM M1 (pr x S1.length)) L F2 := by funext p q; rw [hM1, addM, orM, orM, orM, prC_snoc, hSl, hL, hF2, hSl, ← Bool.or_assoc, ← Bool.or_assoc]
            have g3 : A ++ List.replicate (npL (l.take i) + npL [x]) (-1 : Int) = A1 ++ List.replicate (np x) (-1) := by rw [hA1, npL, npL, Nat.add_zero, ← List.replicate_append_replicate, List.append_assoc]
            have g7 : fstC [x] (S.length + npL (l.take i)) = F2 := by rw [hF2, fstC_cons, fstC_nil, hSl]; simp
            have g8 : lasC [x] (S.length + npL (l.take i)) = L2 := by rw [hL2, lasC_cons, lasC_nil, hSl]; simp [nulC]
            rw [g1, g2, g3, g7, g8, ← hF, ← hL]
            rw [HFL.out.2] at h9
            rw [HFL.out.1] at h9
            simpa using h9
    · have hlt' : ¬ (i : Int) < (n : Int) := by omega
      have hfull : l.take i = l := List.take_of_length_le (by have := hll.out; omega)
      rw [hfull] at hpt
      obtain ⟨F, hF⟩ : ∃ F, F = fstC l S.length := ⟨_, rfl⟩
      obtain ⟨L, hL⟩ : ∃ L, L = lasC l S.length := ⟨_, rfl⟩
      obtain ⟨nl, hnl⟩ : ∃ nl, nl = nulC l := ⟨_, rfl⟩
      rw [← hF, ← hL, ← hnl] at hpt
      have HN := hid (And.intro hF (And.intro hL hnl))
      have hXs := BXX.out.2
      have hYs := BY.out.2
      have hzw : wr.heap[W.heap.size + 1]? = some (.cells #[.bool false, .slice none 0 0, .slice none 0 0] 108 (0, 0)) := (hpt.kp.block _ (by rintro (e | e | e); have := Hlt.out _ e; omega; omega; omega)).trans ((BY.out.1.block _ (by omega)).trans HX.out.2)
      have HPT := hid hpt
      have hbox := hpt.box
      obtain ⟨z0, z1, z2⟩ := cells3 hbox
      obtain ⟨r0, r1, r2⟩ := cells3 hzw
      obtain ⟨f0, f1, f2⟩ := frozen3 hzw
      have hR := three_set (x' := .bool nl) (y' := .slice a1 F.length c1) (z' := .slice a2 L.length c2) hzw
      obtain ⟨t0, t1, t2⟩ := cells3 hR
      clear hpt hF hL hnl hfull hzw hbox hR hXs hYs
      go_wp2
      refine bodyPost_ret (v := .agg #[.bool nl, .slice a1 F.length c1, .slice a2 L.length c2]) ?_ rfl ?_
      · simp [results, Tryd.results84, go_sem, t0, t1, t2]
      · obtain ⟨hF, hL, hnl⟩ := HN.out
        have hXs := BXX.out.2
        have hYs := BY.out.2
        have e1 : os (.mk 4 s l) = osL l := by rw [os_mk, if_neg (by decide)]
        have e3 : fst (.mk 4 s l) S.length = F := by rw [fst_mk, if_neg (by decide), if_pos rfl, hF]
        have e4 : las (.mk 4 s l) S.length = L := by rw [las_mk, if_neg (by decide), if_pos rfl, hL]
        have e5 : pr (.mk 4 s l) S.length = prC l S.length := by funext p q; rw [pr_mk, if_neg (by decide), if_pos rfl]
        have e6 : nul (.mk 4 s l) = nl := by rw [hnl]; simp [nul]
        have k4 : Kept (fun b => b = W.heap.size + 1) wr (set3 wr (W.heap.size + 1) (.bool nl) (.slice a1 F.length c1) (.slice a2 L.length c2)) := set3_kept (Kept.refl (fun b => b = W.heap.size + 1) wr) rfl
        refine ⟨.slice a1 F.length c1, .slice a2 L.length c2, by rw [e6], G1, ?_, fun b hb => (HPT.out.sub b hb).imp_right fun h => by omega, ?_, ?_, ?_⟩
        · rw [e1, e5, hnp]
          exact HPT.out.bx.kept k4 fun b hb e => by
            rcases HPT.out.sub b hb with h1 | h1
            · have := Hlt.out b h1; omega
            · omega
        · rw [e3]; exact (HPT.out.pf.kept k4 fun k hk e => by have := (HPT.out.pf.1.lt k hk).1; omega).mono (by omega)
        · rw [e4]; exact (HPT.out.pl.kept k4 fun k hk e => by have := (HPT.out.pl.1.lt k hk).1; omega).mono (by omega)
        · exact ((Kept.below (BXX.out.1.trans (BY.out.1.mono BXX.out.1.size)) fun b hb => .inr hb).trans (HPT.out.kp.mono fun b hb => by rcases hb with h | h | h; exact .inl h; exact .inr (by omega); exact .inr (by omega))).trans (k4.mono fun b hb => .inr (by omega))
end Go.Proofs.YtogpnlkjcdedlaaDoor
end
section
set_option linter.unusedSimpArgs false
set_option linter.unusedVariables false
namespace Go.Proofs.YtogpnlkjcdedlaaDoor
open Go.RowKit Bs Rg Nf Go.Frame
attribute [local go_sem] eq_zero eq_set

theorem trans_any (r : Rx) : Vd r → TS 64 r := by
  induction r using Rx.ind with
  | h k s l ih =>
    intro hv
    have hs := hv.shaped
    have hk := fun x hx => ih x hx (hv.kid hx)
    rcases shaped_kind hs with rfl | rfl | rfl | rfl | rfl | rfl
    · obtain rfl : l = [] := List.length_eq_zero_iff.1 (shaped_leaf hs (by simp))
      exact translate_1 s [] (none_any s)
    · obtain rfl : l = [] := List.length_eq_zero_iff.1 (shaped_leaf hs (by simp))
      exact translate_2 s [] (empty_any s)
    · obtain rfl : l = [] := List.length_eq_zero_iff.1 (shaped_leaf hs (by simp))
      exact translate_3 s [] (set_any s)
    · exact translate_4 s l (concat_any s l hk)
    · exact translate_5 s l (union_any s l hk)
    · obtain ⟨x, rfl⟩ := List.length_eq_one_iff.1 (shaped_star hs)
      exact translate_6 s [x] (star_any s x (hk x (by simp)))
theorem own_set {W : World} {base e n c g q : Nat} {xs : List Value} (h : W.ownsRow base e 1 (.slice (some ⟨g, 0, none⟩) n c) n xs) (v : Value) : (W.setCell ⟨g, q, none⟩ v).ownsRow base e 1 (.slice (some ⟨g, 0, none⟩) n c) n (xs.set q v) := by
  refine ⟨by have := h.1; simpa using this, ?_⟩
  rcases h.2 with ⟨e1, h0⟩ | ⟨g', cap, cur, e1, hb, hgg, hn2, hcm, hc2, ht⟩
  · cases e1
  · simp only [Value.slice.injEq, Option.some.injEq, Addr.mk.injEq] at e1
    obtain ⟨⟨rfl, _, _⟩, _, rfl⟩ := e1
    refine .inr ⟨g, c, cur.setIfInBounds q v, rfl, hb, blk_put hgg, hn2, hcm, by simpa using hc2, ?_⟩
    rw [Array.toList_setIfInBounds, ← ht, List.take_set]
theorem iv_set (A : List Int) (q : Nat) (x : Int) : (A.map iv).set q (.int .i64 x) = (A.set q x).map iv := by rw [List.map_set]; rfl
/-- A number written. -/
theorem BD.num {G : Nat → Prop} {W : World} {base bb most : Nat} {S : List BS} {M : Nat → Nat → Bool} {A : List Int} {sv av : Value} {g n c : Nat} {rb : Nat → Nat} (h : BD G W base bb most S M A sv av (.slice (some ⟨g, 0, none⟩) n c) rb) (hn : n = S.length) (q : Nat) (x : Int) : BD G (W.setCell ⟨g, q, none⟩ (.int .i64 x)) base bb most S M (A.set q x) sv av (.slice (some ⟨g, 0, none⟩) n c) rb ∧ Kept G W (W.setCell ⟨g, q, none⟩ (.int .i64 x)) := by
  subst hn
  have ho : ∀ k, k ≠ g → (W.setCell ⟨g, q, none⟩ (.int .i64 x)).heap[k]? = W.heap[k]? := fun k hk => heap_setCell_other _ _ _ _ hk
  have hown : (Value.slice (some ⟨g, 0, none⟩) S.length c).ownBlock = some g := rfl
  have hG : G g := h.gc g hown
  refine ⟨⟨(ho _ fun e => own_ne_block h.acc h.box (by decide) (by rw [hown, e])).trans h.box, ownsRow_keep h.sets fun k hk => ho k fun e => own_ne h.sets h.acc (by decide) hk (by rw [hown, e]), ownsRow_keep h.arcs fun k hk => ho k fun e => own_ne h.arcs h.acc (by decide) hk (by rw [hown, e]), ?_, fun i hi => ⟨?_, (h.rows i hi).2⟩, h.inj, h.gb, h.gs, h.ga, h.gc, fun b hb => by simpa using h.lt b hb, h.sup, h.most_le, h.len⟩, (Kept.refl G W).setCell (p := ⟨g, q, none⟩) hG _⟩
  · have := own_set (q := q) h.acc (.int .i64 x)
    rwa [iv_set] at this
  · have h1 : W.heap[rb i]? = some (.cells (bl (M i) most).toArray 4 (0, 0)) := (h.rows i hi).1
    exact (ho _ fun e => own_ne_block h.acc h1 (by decide) (by rw [hown, e])).trans h1
/-- The numbers behind one expression: nl and the last occurrences L. -/
def acl (nl : Bool) (L : List Nat) (x : Int) (A : List Int) : List Int := L.foldl (fun A q => A.set q x) (if nl = true ∧ A.getD 0 (-1) < 0 then A.set 0 x else A)
end Go.Proofs.YtogpnlkjcdedlaaDoor
end
section
set_option linter.unusedSimpArgs false
set_option linter.unusedVariables false
namespace Go.Proofs.YtogpnlkjcdedlaaDoor
open Go.RowKit Bs Rg Nf Go.Frame
attribute [local go_sem] eq_zero eq_set

/-- The nodes below the members of a list. -/
def sk : List Rx → Nat
  | [] => 0
  | x :: l => partsL x.l + sk l
theorem parts_eq (x : Rx) : parts x = 1 + partsL x.l := by cases x; rw [parts, Nat.add_comm]; rfl
theorem partsL_eq : ∀ l : List Rx, partsL l = l.length + sk l
  | [] => by rw [partsL]; rfl
  | x :: l => by rw [partsL, sk, parts_eq, partsL_eq l]; simp; omega
theorem sk_append : ∀ l m : List Rx, sk (l ++ m) = sk l + sk m
  | [], m => by simp [sk]
  | x :: l, m => by simp [sk, sk_append l m]; omega
theorem sk_snoc {l : List Rx} {i : Nat} {x : Rx} (h : l[i]? = some x) : sk (l.take (i + 1)) = sk (l.take i) + partsL x.l := by rw [take_snoc h, sk_append]; simp [sk]
theorem sk_le (l : List Rx) (i : Nat) : sk (l.take i) ≤ sk l := by
  have h : sk l = sk (l.take i) + sk (l.drop i) := by rw [← sk_append, List.take_append_drop]
  omega
/-- What countNodes answers. -/
def CN (l : List Rx) (d v : Nat) : Prop := (partsL l ≤ 500 → v = partsL l) ∧ (500 < partsL l → 500 < v) ∧ v ≤ 140737488355328 + 1000 * d
set_option maxRecDepth 100000 in
set_option maxHeartbeats 4000000 in
theorem count_any (g : Nat → Prop) : ∀ (d : Nat) (l : List Rx) (a : Option Addr) (n c : Nat) (W : World), d ≤ 1000 → (∀ x ∈ l, fits x d = true) → Kd g W a n l → Calls Tryd.prog 46 #[.slice a n c] W fun e w' => (∃ v : Nat, e = .returned (.int .i64 (v : Int)) ∧ CN l d v) ∧ Below W.heap.size W w' := by
  intro d
  induction d with
  | zero =>
    intro l a n c W _ hf hK
    have hl : l = [] := by
      cases l with
      | nil => rfl
      | cons x l => have := hf x (by simp); rw [fits_zero] at this; cases this
    subst hl
    obtain rfl : n = 0 := by have := hK.len; simpa using this.symm
    go_enter Tryd.func46, Tryd.ntmps46
    go_wp2_with fail
    go_loopg [3, 10] 0 (fun kk s3 s10 wr => s3 = .int .i64 0 ∧ s10 = .int .i64 0 ∧ wr = W)
    case atStart => exact ⟨rfl, rfl, rfl⟩
    case round =>
      obtain ⟨rfl, rfl, rfl⟩ := hrel
      go_wp2
      go_ret
      exact ⟨⟨0, rfl, by intro _; rw [partsL_eq]; rfl, by rw [partsL_eq]; simp [sk], by omega⟩, Below.refl _ _⟩
  | succ d ih =>
    intro l a n c W hd hf hK
    have IH := hid ih
    have HK := hid (And.intro hK hf)
    have hll := hid hK.len
    have hnn := hK.lt
    have hp := hid (partsL_eq l)
    clear ih hf hK
    go_enter Tryd.func46, Tryd.ntmps46
    go_wp2_with fail
    go_loopg [3, 10] n (fun kk s3 s10 wr => ∃ i v : Nat, s3 = .int .i64 (v : Int) ∧ s10 = .int .i64 (i : Int) ∧ i + kk = n ∧ (v = n + sk (l.take i) ∨ (500 < v ∧ 500 < partsL l)) ∧ v ≤ 140737488355328 + 1000 * (d + 1) ∧ Below W.heap.size W wr)
    case atStart => exact ⟨0, n, rfl, rfl, by omega, .inl (by simp [sk]), by omega, Below.refl _ _⟩
    case round =>
      obtain ⟨i, v, rfl, rfl, hik, hv, hvb, hbw⟩ := hrel
      by_cases hlt : i < n
      · have hlt' : (i : Int) < (n : Int) := by omega
        have hi0 : (0 : Int) ≤ (i : Int) := by omega
        obtain ⟨b, off, k, s, l2, a2, n2, c2, rfl, _, hb, hx, hK2, q0, q1, q2, q3, q4, q5⟩ := (HK.out.1.below hbw).get hlt
        have hfx := HK.out.2 _ (List.mem_of_getElem? hx)
        rw [fits_mk, Bool.and_eq_true, fitsL_iff] at hfx
        obtain ⟨U, hU⟩ : ∃ U, U = wr.alloc (.cells #[.int .i64 k, .int .u64 (ws s 0 : Int), .int .u64 (ws s 1 : Int), .int .u64 (ws s 2 : Int), .int .u64 (ws s 3 : Int), .slice a2 n2 c2] 50) := ⟨_, rfl⟩
        have hU6 : U.heap[wr.heap.size]? = some (.cells #[.int .i64 k, .int .u64 (ws s 0 : Int), .int .u64 (ws s 1 : Int), .int .u64 (ws s 2 : Int), .int .u64 (ws s 3 : Int), .slice a2 n2 c2] 50 (0, 0)) := by rw [hU]; exact alloc_new _ _
        have BU := hid (show Below wr.heap.size wr U from by rw [hU]; exact bel1 _ _)
        have HX := hid (And.intro hx (And.intro hfx.2 (And.intro (hK2.below BU.out) (And.intro hv hbw))))
        have CC := hid (IH.out l2 a2 n2 c2 U (by omega) HX.out.2.1 HX.out.2.2.1)
        obtain ⟨e0, e1, e2, e3, e4, e5⟩ := cells6 hU6
        clear hx hfx hK2 hv hbw hU6 hb
        go_upto_region 5 with fail
        rw [← hU]
        clear hU q0 q1 q2 q3 q4 q5
        by_cases h5 : 500 < v
        · have h5' : (500 : Int) < (v : Int) := by omega
          go_wp2
          go_ret
          obtain ⟨hx, _, _, hv, hbw⟩ := HX.out
          have h6 := sk_le l i
          have h7 := hp.out
          have h8 := hll.out
          refine ⟨⟨v, rfl, fun h9 => ?_, fun _ => h5, hvb⟩, hbw.trans (BU.out.mono hbw.size)⟩
          rcases hv with hv | hv <;> omega
        · have h5' : ¬ (500 : Int) < (v : Int) := by omega
          go_wp2_with fail
          refine CC.out.mono ?_
          rintro e w3 ⟨⟨v2, rfl, hcn⟩, b3⟩
          have HC := hid (And.intro hcn b3)
          have hv2 := hcn.2.2
          have hsum : IntKind.i64.wrap ((v : Int) + (v2 : Int)) = ((v + v2 : Nat) : Int) := by rw [wrapIn (by omega) (by omega)]; omega
          clear hcn b3 CC
          go_wp2
          go_roundg (gk - 1)
          case measure => omega
          case rel =>
            obtain ⟨hx, _, _, hv, hbw⟩ := HX.out
            obtain ⟨⟨c1, c2, c3⟩, b3⟩ := HC.out
            have h4 := sk_snoc hx
            have h6 := sk_le l (i + 1)
            have h7 := hp.out
            have h8 := hll.out
            have h9 : partsL (Rx.mk k s l2).l = partsL l2 := rfl
            rw [h9] at h4
            refine ⟨i + 1, v + v2, by push_cast; rfl, by go_num, by omega, ?_, by omega, hbw.trans ((BU.out.trans (b3.mono BU.out.size)).mono hbw.size)⟩
            rcases hv with hv | hv
            · by_cases hk : partsL l2 ≤ 500
              · left; rw [h4, c1 hk]; omega
              · right; have := c2 (by omega); omega
            · omega
      · have hlt' : ¬ (i : Int) < (n : Int) := by omega
        have HX := hid (And.intro hv hbw)
        clear hv hbw
        go_wp2
        go_ret
        obtain ⟨hv, hbw⟩ := HX.out
        have h7 := hp.out
        have h8 := hll.out
        rw [show l.take i = l from List.take_of_length_le (by omega)] at hv
        refine ⟨⟨v, rfl, fun h9 => ?_, fun h9 => ?_, hvb⟩, hbw⟩
        · rcases hv with hv | hv <;> omega
        · rcases hv with hv | hv <;> omega
end Go.Proofs.YtogpnlkjcdedlaaDoor
end
