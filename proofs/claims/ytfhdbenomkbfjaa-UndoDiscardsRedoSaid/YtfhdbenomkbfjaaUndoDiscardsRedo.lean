/-
  UndoDiscardsRedo, for every input: the law returns true and leaves its arguments as they read. No condition.
-/
import Derived.Test.YtfhdbenomkbfjaaT
set_option linter.unusedSimpArgs false
set_option linter.unusedVariables false
namespace Go.Proofs.Ytfhdbenomkbfjaa.undoDiscardsRedo
open Go.ChangeShapes Go.WideShapes Go.ChangeAt Go.RowKit Go.Frame
open Go.ChangeMaps (open_string shut_string)
open Te
set_option maxRecDepth 100000 in
set_option maxHeartbeats 40000000 in
theorem walk (s : ByteArray) (b : Option Addr) (len cap : Nat) (a d : Int) (t : ByteArray) (w : World) (hs0 : s.size ≤ 140737488351232) (hE : ∃ E : List Sp, SRow w b len E ∧ len ≤ 140737488351232 ∧ ∀ e ∈ E, InS e) (hin : In (a, d, t)) :
    Calls Try.prog 7 #[.string s, .slice b len cap, .agg #[.int .i64 a, .int .i64 d, .string t]] w fun e w' => e = .returned (.bool true) ∧ Below w.heap.size w w' := by
  obtain ⟨E, hrow, hlen, hI⟩ := hE
  have HI := hid hI
  have hl : E.length = len := by have := hrow.1; simpa using this
  have HL := hid hl
  obtain ⟨W, hW⟩ : ∃ W, W = w.alloc (.cells #[.int .i64 a, .int .i64 d, .string t] 31) := ⟨_, rfl⟩
  have bW : Below w.heap.size w W := by rw [hW]; exact (Below.refl _ _).alloc (Nat.le_refl _) _
  have HR := hid (hrow.below bW)
  have hx0 : W.heap[w.heap.size]? = some (.cells #[.int .i64 a, .int .i64 d, .string t] 31 (0, 0)) := by rw [hW]; exact alloc_new _ _
  have K0 := hid (show ∀ W', Below W.heap.size W W' → W'.cell? ⟨w.heap.size, 0, none⟩ = some (.int .i64 a) ∧ W'.cell? ⟨w.heap.size, 1, none⟩ = some (.int .i64 d) ∧ W'.cell? ⟨w.heap.size, 2, none⟩ = some (.string t) from fun W' hb => cells3 ((hb.block _ (heap_lt hx0)).trans hx0))
  have HW := hid hW
  have hle := hid bW.size
  have HN := hid hin
  have BW := hid bW
  obtain ⟨L, hL⟩ : ∃ L, L = E.map (·.2) := ⟨_, rfl⟩
  have HLL := hid hL
  have hLl := hid (show L.length = len by rw [hL, List.length_map, hl])
  clear hrow hI hl hx0 hW hin bW hL
  go_enter Try.func7, Try.ntmps7
  go_wp2_with fail
  rw [← HW.out]
  refine (awake_any W).mono ?_
  rintro e w1 ⟨rfl, b1⟩
  go_wp2_with fail
  refine (few_any s b len cap E w1 hlen HI.out hs0 (HR.out.below b1)).mono ?_
  rintro e w1' ⟨rfl, rfl⟩
  obtain ⟨k0, k1, k2⟩ := K0.out _ b1
  by_cases hF : Few s E
  · rw [decide_eq_true hF]
    by_cases ht : t.size ≤ 1000
    · have ht' : (t.size : Int) ≤ 1000 := by omega
      obtain ⟨h30, h20⟩ := hF
      have hs : s.size ≤ 20000 := by omega
      have HZ := hid (show szs E ≤ 20000 by omega)
      have hlen30 : len ≤ 30 := by have := HL.out; omega
      clear h30 h20 hlen
      obtain ⟨x0, hx0⟩ : ∃ x0 : St, x0 = ⟨s, [], [], 0⟩ := ⟨_, rfl⟩
      have HX0 := hid hx0
      have OK0 := hid (show ∀ i, Ok 20000 i (doAll x0 (L.take i)) from fun i => by
        have := ok_doAll (K := 20000) (by omega) (L.take i) 0 x0 (by rw [hx0]; exact Ok.new hs)
        exact this.mono (by simp; omega))
      have TA := hid (show ∀ i, Ta 20000 s (acs x0 (L.take i)) (acs x0 (L.take i)).length (doAll x0 (L.take i)) from fun i => by rw [hx0]; exact ta_start hs (by omega) _)
      go_wp2_with fail
      refine (new_any s w1).mono ?_
      rintro e w2 ⟨rfl, hh2, b2, z2⟩
      clear k0 k1 k2
      go_wp2_with fail
      refine (new_any s w2).mono ?_
      rintro e w3 ⟨rfl, hh3, b3, z3⟩
      have P3 : Pair W.heap.size w3 w1.heap.size w2.heap.size x0 x0 := by rw [hx0]; exact pair_new b1.size hh2 z2 hh3 b3 z3
      have B3 : Below W.heap.size W w3 := (b1.trans (b2.mono b1.size)).trans (b3.mono (b1.trans (b2.mono b1.size)).size)
      obtain ⟨B, hB⟩ : ∃ B, B = w1.heap.size := ⟨_, rfl⟩
      obtain ⟨C, hC⟩ : ∃ C, C = w2.heap.size := ⟨_, rfl⟩
      rw [← hB, ← hC] at P3
      rw [← hB, ← hC]
      clear hh2 hh3 b1 b2 b3 z2 z3 hx0 hB hC
      go_wp2_with fail
      go_loopg [9] len (fun k s9 wr => ∃ (i : Nat), s9 = .int .i64 i ∧ i + k = len ∧ Pair W.heap.size wr B C (doAll x0 (L.take i)) x0 ∧ Below W.heap.size W wr)
      case atStart => exact ⟨0, rfl, by omega, P3, B3⟩
      case round =>
        obtain ⟨i, rfl, hk, hP, hbw⟩ := hrel
        clear P3 B3
        by_cases hlt : i < len
        · have hlt' : (i : Int) < (len : Int) := by omega
          have hi0 : (0 : Int) ≤ (i : Int) := by omega
          obtain ⟨bb, off, ⟨kd, a1, d1, t1⟩, rfl, hbb, hxi, hmem, e0, e1, e2, e3⟩ := SRow.at (HR.out.below hbw) hlt
          obtain ⟨hk256, _, hamax, _, _, _⟩ := HI.out _ hmem
          have htsz : t1.size ≤ 20000 := Nat.le_trans (szs_mem hmem) HZ.out
          have hLi : L[i]? = some (a1, d1, t1) := by rw [HLL.out, List.getElem?_map, hxi]; rfl
          have hm := rem3 kd hk256
          by_cases hk0 : kd % 3 = 0
          · have hm0 : (kd : Int) % 3 = 0 := by omega
            have hkd : (kd : Int) ≤ 255 := by omega
            obtain ⟨x', z, er, hr⟩ : ∃ x' e er, doR (doAll x0 (L.take i)) (a1, d1, t1) = (x', e, er) := ⟨_, _, _, rfl⟩
            have DN := hid (pair_do hP hbw.size hr (OK0.out i) (by omega) (by omega) (by omega) hamax)
            have hx' := hid (show doAll x0 (L.take (i + 1)) = x' by rw [doAll_step hLi, hr])
            have HB := hid hbw
            clear hP hr hxi hmem hamax hbw hLi hm hk0
            go_wp2_with fail
            refine DN.out.mono ?_
            rintro e w4 ⟨rfl, P4, B4⟩
            clear e0 e1 e2 e3
            have P5 := hid (by rw [← hx'.out] at P4; exact P4)
            have B5 := hid (HB.out.trans B4)
            clear P4 B4
            go_wp2
            go_roundg (gk - 1)
            case measure => omega
            case rel => exact ⟨i + 1, by go_num, by omega, P5.out, B5.out⟩
          · have hm0 : ¬ (kd : Int) % 3 = 0 := by omega
            have hkd : (kd : Int) ≤ 255 := by omega
            have HB := hid hbw
            clear hm hxi hmem hamax hbw hP
            go_wp2
            go_ret
            exact ⟨rfl, BW.out.trans (HB.out.mono hle.out)⟩
        · have hin : ¬ (i : Int) < (len : Int) := by omega
          have hi : i = len := by omega
          obtain ⟨X, hX⟩ : ∃ X, X = doAll x0 L := ⟨_, rfl⟩
          obtain ⟨A, hA⟩ : ∃ A, A = acs x0 L := ⟨_, rfl⟩
          obtain ⟨N, hN⟩ : ∃ N, N = A.length := ⟨_, rfl⟩
          have hLt : L.take i = L := List.take_of_length_le (by rw [hLl.out]; omega)
          rw [hLt, ← hX] at hP
          have TX : Ta 20000 s A N X := by have := TA.out i; rw [hLt, ← hA, ← hX, ← hN] at this; exact this
          have OX : Ok 20000 30 X := by have := OK0.out i; rw [hLt, ← hX] at this; exact this.mono (by omega)
          have hNl : N ≤ 30 := by have := TX.lenU; have := OX.len; omega
          obtain ⟨go, rfl⟩ : ∃ go, go = gk := ⟨_, rfl⟩
          have DP := hid (show Calls Try.prog 14 #[.pointer (some ⟨B, 0, none⟩)] wr fun e w' => e = .returned (.tuple #[.int .i64 (N : Int), .int .i64 (X.R.length : Int)]) ∧ Below wr.heap.size wr w' from by rw [← TX.lenU]; exact pair_depth hP)
          have HP := hid hP
          have HB := hid hbw
          have HTX := hid TX
          have HOX := hid OX
          have HA := hid hA
          have HNA := hid hN
          clear hP hbw TX OX hX hA hN hLt hlt
          go_wp2_with fail
          refine DP.out.mono ?_
          rintro e w4 ⟨rfl, b4⟩
          have P4 := HP.out.below b4
          have B4 := HB.out.trans (b4.mono HB.out.size)
          clear b4
          go_wp2_with fail
          go_loopg [12] 2 (fun k s12 wr => ∃ (j : Nat) (y : St), s12 = .int .i64 j ∧ j + k = 2 ∧ j ≤ N ∧ Pair W.heap.size wr B C y x0 ∧ Ok 20000 (30 + j) y ∧ Ta 20000 s A (N - j) y ∧ Below W.heap.size W wr)
          case atStart => exact ⟨0, X, rfl, by omega, by omega, P4, HOX.out, HTX.out, B4⟩
          case round =>
            obtain ⟨j, y, rfl, hk2, hjN, hP, hO, hT, hbw⟩ := hrel
            clear P4 B4
            by_cases hlt : j < 2 ∧ j < N
            · obtain ⟨hl2, hlN⟩ := hlt
              have hl2' : (j : Int) < 2 := by omega
              have hlN' : (j : Int) < (N : Int) := by omega
              obtain ⟨y', ⟨ia, id, it⟩, hr, hT'⟩ := ta_undo (k := N - (j + 1)) (by rw [show N - (j + 1) + 1 = N - j by omega]; exact hT)
              have UN := hid (pair_undo hP hbw.size hr hO (by omega) (by omega))
              have HO' := hid (show Ok 20000 (30 + (j + 1)) y' by have := hO.undo; rwa [hr] at this)
              have HT' := hid hT'
              have HB := hid hbw
              clear hP hO hT hT' hr hbw
              go_wp2_with fail
              refine UN.out.mono ?_
              rintro e w5 ⟨rfl, P5, B5⟩
              have P6 := hid P5
              have B6 := hid (HB.out.trans B5)
              clear P5 B5
              go_wp2
              go_roundg (gk - 1)
              case measure => omega
              case rel => exact ⟨j + 1, y', by go_num, by omega, by omega, P6.out, HO'.out, HT'.out, B6.out⟩
            · obtain ⟨kept, hkept⟩ : ∃ kept, kept = N - j := ⟨_, rfl⟩
              rw [← hkept] at hT
              obtain ⟨gp, rfl⟩ : ∃ gp, gp = gk := ⟨_, rfl⟩
              have DQ := hid (show Calls Try.prog 14 #[.pointer (some ⟨B, 0, none⟩)] wr fun e w' => e = .returned (.tuple #[.int .i64 (kept : Int), .int .i64 (y.R.length : Int)]) ∧ Below wr.heap.size wr w' from by rw [← hT.lenU]; exact pair_depth hP)
              have HP := hid hP
              have HB := hid hbw
              have HT := hid hT
              have HO := hid hO
              have HK := hid hkept
              have hkN : kept ≤ N := by omega
              have out2 : ((j : Int) < 2 ∧ ¬ (j : Int) < (N : Int)) ∨ ¬ (j : Int) < 2 := by omega
              clear hP hbw hT hO hkept hlt
              rcases out2 with ⟨o1, o2⟩ | o1
              all_goals
                go_wp2_with fail
                refine DQ.out.mono ?_
                rintro e w5 ⟨rfl, b5⟩
                have P5 := (HP.out.below b5).swap
                have B5 := HB.out.trans (b5.mono HB.out.size)
                clear b5
                go_wp2_with fail
                go_loopg [15, 16] len (fun k s15 s16 wr => ∃ (q dn : Nat), s15 = .int .i64 dn ∧ s16 = .int .i64 q ∧ q + k = len ∧ dn = (acs x0 (L.take q)).length ∧ dn ≤ kept ∧ Pair W.heap.size wr C B (doAll x0 (L.take q)) y ∧ Below W.heap.size W wr)
                case atStart => exact ⟨0, 0, rfl, rfl, by omega, rfl, by omega, P5, B5⟩
                case round =>
                  obtain ⟨q, dn, rfl, rfl, hk3, hdn, hdnk, hP3, hbw3⟩ := hrel
                  clear P5 B5
                  by_cases hlt3 : q < len ∧ dn < kept
                  · obtain ⟨hql, hdl⟩ := hlt3
                    have hql' : (q : Int) < (len : Int) := by omega
                    have hdl' : (dn : Int) < (kept : Int) := by omega
                    have hq0 : (0 : Int) ≤ (q : Int) := by omega
                    obtain ⟨bb, off, ⟨kd, a1, d1, t1⟩, rfl, hbb, hxi, hmem, e0, e1, e2, e3⟩ := SRow.at (HR.out.below hbw3) hql
                    obtain ⟨hk256, _, hamax, _, _, _⟩ := HI.out _ hmem
                    have htsz : t1.size ≤ 20000 := Nat.le_trans (szs_mem hmem) HZ.out
                    have hLi : L[q]? = some (a1, d1, t1) := by rw [HLL.out, List.getElem?_map, hxi]; rfl
                    obtain ⟨x', z, er, hr⟩ : ∃ x' e er, doR (doAll x0 (L.take q)) (a1, d1, t1) = (x', e, er) := ⟨_, _, _, rfl⟩
                    have DN := hid (pair_do hP3 hbw3.size hr (OK0.out q) (by omega) (by omega) (by omega) hamax)
                    have hx' := hid (show doAll x0 (L.take (q + 1)) = x' by rw [doAll_step hLi, hr])
                    have hac := hid (show (acs x0 (L.take (q + 1))).length = dn + (if er = 0 then 1 else 0) by
                      rw [acs_step hLi, hr, List.length_append, ← hdn]
                      by_cases h0 : er = 0 <;> simp [h0])
                    have HB3 := hid hbw3
                    have hkN30 : (kept : Int) ≤ 30 := by omega
                    clear hP3 hr hxi hmem hamax hbw3 hLi hdn hk256
                    by_cases h0 : er = 0
                    · subst h0
                      go_wp2_with fail
                      refine DN.out.mono ?_
                      rintro e w6 ⟨rfl, P6, B6⟩
                      clear e0 e1 e2 e3
                      have P7 := hid (by rw [← hx'.out] at P6; exact P6)
                      have B7 := hid (HB3.out.trans B6)
                      clear P6 B6
                      go_wp2
                      go_roundg (gk - 1)
                      case measure => omega
                      case rel => exact ⟨q + 1, dn + 1, by go_num, by go_num, by omega, by rw [hac.out]; rfl, by omega, P7.out, B7.out⟩
                    · have he1 : (er == 0) = false := beq_eq_false_iff_ne.2 h0
                      go_wp2_with fail
                      refine DN.out.mono ?_
                      rintro e w6 ⟨rfl, P6, B6⟩
                      clear e0 e1 e2 e3
                      have P7 := hid (by rw [← hx'.out] at P6; exact P6)
                      have B7 := hid (HB3.out.trans B6)
                      clear P6 B6
                      go_wp2
                      go_roundg (gk - 1)
                      case measure => omega
                      case rel => exact ⟨q + 1, dn, rfl, by go_num, by omega, by rw [hac.out, if_neg h0]; rfl, by omega, P7.out, B7.out⟩
                  · skip
                    have hdk : dn = kept := by
                      rcases Classical.em (q < len) with hq | hq
                      · omega
                      · have : L.take q = L := List.take_of_length_le (by rw [hLl.out]; omega)
                        rw [this, ← HA.out, ← HNA.out] at hdn
                        omega
                    have hpre : acs x0 (L.take q) = A.take kept := by have := acs_pre x0 L q; rw [← hdn, hdk, ← HA.out] at this; exact this
                    obtain ⟨G, hG⟩ : ∃ G, G = doAll x0 (L.take q) := ⟨_, rfl⟩
                    have hyG : y.s = G.s := by rw [hG]; exact ta_pre HT.out (TA.out q) hpre
                    obtain ⟨y', z1, er, hry⟩ : ∃ x' e er, doR y (a, d, t) = (x', e, er) := ⟨_, _, _, rfl⟩
                    obtain ⟨G', z2, er2, hrg⟩ : ∃ x' e er, doR G (a, d, t) = (x', e, er) := ⟨_, _, _, rfl⟩
                    have hsame := doR_same hyG (a, d, t)
                    rw [hry, hrg] at hsame
                    obtain ⟨hee, hss⟩ := hsame
                    simp only at hee hss
                    subst hee
                    rw [← hG] at hP3
                    have OK0 := hid (show ∀ q, Ok 20000 30 (doAll x0 (L.take q)) from fun q => by
                      have hq := OK0.out len
                      rw [List.take_of_length_le (by rw [hLl.out]; omega)] at hq
                      have := ok_doAll (K := 20000) (by omega) (L.take q) 0 x0 (by rw [HX0.out]; exact Ok.new hs)
                      exact this.mono (by have := List.length_take_le q L; have := List.length_take (i := q) (l := L); have := hLl.out; omega))
                    have HP3 := hid hP3.swap
                    have HB3 := hid hbw3
                    have HSS := hid hss
                    have hout3 : ((q : Int) < (len : Int) ∧ ¬ (dn : Int) < (kept : Int)) ∨ ¬ (q : Int) < (len : Int) := by omega
                    have OKG := hid (show Ok 20000 30 G by rw [hG]; exact OK0.out q)
                    clear hP3 hbw3 hpre hyG hss hG hdn hdnk hlt3
                    rcases hout3 with ⟨o3, o4⟩ | o3
                    all_goals
                      by_cases h0 : er = 0
                      · subst h0
                        have hd := hid (And.intro hry hrg)
                        have DB := hid (show ∀ (w' : World) (xc : St), Pair W.heap.size w' B C y xc → W.heap.size ≤ w'.heap.size → Calls Try.prog 19 #[.pointer (some ⟨B, 0, none⟩), .agg #[.int .i64 a, .int .i64 d, .string t]] w' fun e w'' => e = .returned (.int .i64 0) ∧ Pair W.heap.size w'' B C y' xc ∧ Below W.heap.size w' w'' from fun w' xc hp hn => pair_do hp hn hd.out.1 HO.out (by omega) (by omega) (by omega) HN.out.2.1)
                        have DC := hid (show ∀ (w' : World) (xb : St), Pair W.heap.size w' C B G xb → W.heap.size ≤ w'.heap.size → Calls Try.prog 19 #[.pointer (some ⟨C, 0, none⟩), .agg #[.int .i64 a, .int .i64 d, .string t]] w' fun e w'' => e = .returned (.int .i64 0) ∧ Pair W.heap.size w'' C B G' xb ∧ Below W.heap.size w' w'' from fun w' xb hp hn => pair_do hp hn hd.out.2 OKG.out (by omega) (by omega) (by omega) HN.out.2.1)
                        have Q0 : Below W.heap.size W wr.drew := HB3.out.trans ((Below.refl _ wr).drew)
                        have hn0 : W.heap.size ≤ wr.drew.heap.size := Q0.size
                        have PB0 := HP3.out.below (Below.refl _ wr).drew
                        have PC0 := PB0.swap
                        have QB := DB.out _ _ PB0 hn0
                        have QC := DC.out _ _ PC0 hn0
                        have HH := hid (And.intro hry hrg)
                        have k7 := K0.out _ Q0
                        clear hry hrg PB0 PC0
                        go_wp2_with fail
                        go_region_held3 (fun w' => w'.cell? ⟨w.heap.size, 0, none⟩ = some (.int .i64 a) ∧ w'.cell? ⟨w.heap.size, 1, none⟩ = some (.int .i64 d) ∧ w'.cell? ⟨w.heap.size, 2, none⟩ = some (.string t))
                          (first | exact k7 | exact K0.out _ Q1 | exact K0.out _ Q2 | fail)
                          (first
                            | (go_at_call 19; refine QB.mono ?_; rintro e v1 ⟨rfl, P1, c1⟩; have Q1 := Q0.trans c1; have QC1 := DC.out _ _ P1.swap Q1.size; clear QB QC)
                            | (go_at_call 19; refine QC.mono ?_; rintro e v1 ⟨rfl, P1, c1⟩; have Q1 := Q0.trans c1; have QB1 := DB.out _ _ P1.swap Q1.size; clear QB QC)
                            | (go_at_call 19; refine QC1.mono ?_; rintro e v2 ⟨rfl, P2', c2⟩; have Q2 := Q1.trans c2; have P2 := P2'.swap; clear QC1 P2')
                            | (go_at_call 19; refine QB1.mono ?_; rintro e v2 ⟨rfl, P2, c2⟩; have Q2 := Q1.trans c2; clear QB1))
                        all_goals
                          have HP2 := hid P2
                          have HQ2 := hid Q2
                          clear P1 P2 Q1 Q0 c1 c2 k7 hn0
                          have hyR := redo_none (by have := doR_clears (x := y) (e := (a, d, t)) (by rw [HH.out.1]); rw [HH.out.1] at this; exact this)
                          have HOy := hid (show Ok 20000 (30 + j + 1) y' by have := HO.out.do (e := (a, d, t)) (by omega); rw [HH.out.1] at this; exact this)
                          have RE := hid (show Calls Try.prog 21 #[.pointer (some ⟨B, 0, none⟩)] v2 fun e w' => e = .returned (.tuple #[.agg #[.int .i64 0, .int .i64 0, .string { data := #[] }], .int .i64 15]) ∧ Pair W.heap.size w' B C y' G' ∧ Below W.heap.size v2 w' from pair_redo HP2.out HQ2.out.size hyR HOy.out (by omega) (by omega))
                          clear hyR
                          go_wp2_with fail
                          refine RE.out.mono ?_
                          rintro e v3 ⟨rfl, P3, c3⟩
                          have Q3 := HQ2.out.trans c3
                          have P4 := P3.below ((Below.refl _ v3).alloc (Nat.le_refl _) (.cells #[.int .i64 0, .int .i64 0, .string { data := #[] }] 31))
                          have Q4 := Q3.alloc Q3.size (.cells #[.int .i64 0, .int .i64 0, .string { data := #[] }] 31)
                          obtain ⟨v4, hv4⟩ : ∃ v4, v4 = v3.alloc (.cells #[.int .i64 0, .int .i64 0, .string { data := #[] }] 31) := ⟨_, rfl⟩
                          rw [← hv4] at P4 Q4
                          have HV4 := hid hv4
                          have T1 := hid (pair_text P4)
                          have T2 := hid (show Calls Try.prog 15 #[.pointer (some ⟨C, 0, none⟩)] v4 fun e w' => e = .returned (.string y'.s) ∧ v4 = w' from by rw [HSS.out]; exact pair_text P4.swap)
                          have HQ4 := hid Q4
                          clear P3 Q3 c3 hv4 P4 Q4
                          go_wp2_with fail
                          rw [← HV4.out]
                          refine T1.out.mono ?_
                          rintro e v5 ⟨rfl, rfl⟩
                          go_wp2_with fail
                          refine T2.out.mono ?_
                          rintro e v5 ⟨rfl, rfl⟩
                          go_wp2
                          go_ret
                          exact ⟨rfl, BW.out.trans (HQ4.out.mono hle.out)⟩
                      · skip
                        have hd := hid (And.intro hry hrg)
                        have he1 : (er == 0) = false := beq_eq_false_iff_ne.2 h0
                        have DB := hid (show ∀ (w' : World) (xc : St), Pair W.heap.size w' B C y xc → W.heap.size ≤ w'.heap.size → Calls Try.prog 19 #[.pointer (some ⟨B, 0, none⟩), .agg #[.int .i64 a, .int .i64 d, .string t]] w' fun e w'' => e = .returned (.int .i64 er) ∧ Pair W.heap.size w'' B C y' xc ∧ Below W.heap.size w' w'' from fun w' xc hp hn => pair_do hp hn hd.out.1 HO.out (by omega) (by omega) (by omega) HN.out.2.1)
                        have DC := hid (show ∀ (w' : World) (xb : St), Pair W.heap.size w' C B G xb → W.heap.size ≤ w'.heap.size → Calls Try.prog 19 #[.pointer (some ⟨C, 0, none⟩), .agg #[.int .i64 a, .int .i64 d, .string t]] w' fun e w'' => e = .returned (.int .i64 er) ∧ Pair W.heap.size w'' C B G' xb ∧ Below W.heap.size w' w'' from fun w' xb hp hn => pair_do hp hn hd.out.2 OKG.out (by omega) (by omega) (by omega) HN.out.2.1)
                        have Q0 : Below W.heap.size W wr.drew := HB3.out.trans ((Below.refl _ wr).drew)
                        have hn0 : W.heap.size ≤ wr.drew.heap.size := Q0.size
                        have PB0 := HP3.out.below (Below.refl _ wr).drew
                        have PC0 := PB0.swap
                        have QB := DB.out _ _ PB0 hn0
                        have QC := DC.out _ _ PC0 hn0
                        have HH := hid (And.intro hry hrg)
                        have k7 := K0.out _ Q0
                        clear hry hrg PB0 PC0
                        go_wp2_with fail
                        go_region_held3 (fun w' => w'.cell? ⟨w.heap.size, 0, none⟩ = some (.int .i64 a) ∧ w'.cell? ⟨w.heap.size, 1, none⟩ = some (.int .i64 d) ∧ w'.cell? ⟨w.heap.size, 2, none⟩ = some (.string t))
                          (first | exact k7 | exact K0.out _ Q1 | exact K0.out _ Q2 | fail)
                          (first
                            | (go_at_call 19; refine QB.mono ?_; rintro e v1 ⟨rfl, P1, c1⟩; have Q1 := Q0.trans c1; have QC1 := DC.out _ _ P1.swap Q1.size; clear QB QC)
                            | (go_at_call 19; refine QC.mono ?_; rintro e v1 ⟨rfl, P1, c1⟩; have Q1 := Q0.trans c1; have QB1 := DB.out _ _ P1.swap Q1.size; clear QB QC)
                            | (go_at_call 19; refine QC1.mono ?_; rintro e v2 ⟨rfl, P2', c2⟩; have Q2 := Q1.trans c2; have P2 := P2'.swap; clear QC1 P2')
                            | (go_at_call 19; refine QB1.mono ?_; rintro e v2 ⟨rfl, P2, c2⟩; have Q2 := Q1.trans c2; clear QB1))
                        all_goals
                          have HP2 := hid P2
                          have HQ2 := hid Q2
                          clear P1 P2 Q1 Q0 c1 c2 k7 hn0
                          have hy' : y' = y := by have := (do_out (K := 1000) ht HH.out.1).2 h0; exact this
                          obtain ⟨y2, ⟨ra, rd, rt⟩, r2, hre⟩ : ∃ y2 z r2, redoR y' = (y2, z, r2) := ⟨_, _, _, rfl⟩
                          have HOy := hid (show Ok 20000 (30 + j) y' by rw [hy']; exact HO.out)
                          have RE := hid (pair_redo HP2.out HQ2.out.size hre HOy.out (by omega) (by omega))
                          clear hy' hre
                          go_wp2_with fail
                          refine RE.out.mono ?_
                          rintro e v3 ⟨rfl, P3, c3⟩
                          have HQ3 := hid (HQ2.out.trans c3)
                          clear P3 c3
                          go_wp2
                          go_ret
                          exact ⟨rfl, BW.out.trans ((HQ3.out.alloc HQ3.out.size _).mono hle.out)⟩
    · have ht' : (1000 : Int) < (t.size : Int) := by omega
      go_wp2
      go_ret
      exact ⟨rfl, BW.out.trans (b1.mono hle.out)⟩
  · rw [decide_eq_false hF]
    go_wp2
    go_ret
    exact ⟨rfl, BW.out.trans (b1.mono hle.out)⟩

theorem lifted (os : Os) (started : os.Started) (H : Type) (enc : TypeId × Value → H) :
    ReturnsInHanded {} Try.checked os 7 .any (Rows.undoDiscardsRedoSpec.pre6 enc Try.prog Try.f7 Rows.undoDiscardsRedoRow.domain false) (Rows.undoDiscardsRedoSpec.post enc Try.prog Try.f7 false true false false) := by
  refine Go.Frame.lifted (C := Try.checked) (tb := 4) own started (by kernel_rfl) Try.func7
    (ChangeSpec.witness6 (enc := enc) (C := Try.checked) false ⟨#[], #[.string ByteArray.empty, .slice none 0 0, .agg #[.int .i64 0, .int .i64 0, .string ByteArray.empty]], []⟩ 8 (by kernel_rfl) (by kernel_rfl) (by kernel_rfl) (by kernel_rfl))
    laidOut (by kernel_rfl) (by kernel_rfl) Try.underlying4 rfl ?_ ?_
  · intro ds h
    have h : ds.length = 3 := h
    match ds, h with
    | [_, _, _], _ => rfl
  · intro W base args ds p hlen hval0 hA hsz0
    have hval : ∀ (j : Nat) t v, Try.f7.params[j]? = some t → args[j]? = some v → Value.okWide Try.prog W .any base t v := hval0
    have hA : DataW.TrodAll enc Try.prog W 0 (fun _ => true) true Try.f7.params.toList args.toList ds p := hA
    have hsz : (DataW.weightsEach Try.prog Try.f7.params.toList ds).all (· ≤ reachBytes) = true := hsz0
    rw [Try.params7] at hA hval hsz
    obtain ⟨v0, vs0, d0, ds0, p0, q0, hargs, hds, _, th0, tr0⟩ := trodAll_cons hA
    obtain ⟨v1, vs1, d1, ds1, p1, q1, rfl, rfl, _, th1, tr1⟩ := trodAll_cons tr0
    obtain ⟨v2, vs2, d2, ds2, p2, q2, rfl, rfl, _, th2, tr2⟩ := trodAll_cons tr1
    obtain ⟨rfl, rfl, _⟩ := trodAll_nil tr2
    obtain rfl : args = #[v0, v1, v2] := by cases args; simp_all
    subst hds
    obtain ⟨t0, rfl, hd0, _, _⟩ := open_string Try.underlying9 (hval 0 9 v0 rfl rfl) th0
    have hs0 : t0.size ≤ 140737488351232 := of_decide_eq_true (List.all_eq_true.1 hsz _ (DataW.weights_mem_each (j := 0) rfl rfl _ (by rw [hd0]; simp [DataW.weights])))
    obtain ⟨b1, len1, cap1, rfl⟩ := okWide_slice Try.underlying22 (hval 1 22 v1 rfl rfl)
    have hE : ∃ E : List Sp, SRow W b1 len1 E ∧ len1 ≤ 140737488351232 ∧ ∀ e ∈ E, InS e := by
      obtain ⟨fuel, hf⟩ := th1
      refine open_steps hf ?_
      intro n hn
      exact of_decide_eq_true (List.all_eq_true.1 hsz _ (DataW.weights_mem_each (j := 1) rfl rfl n hn))
    obtain ⟨a2, d2, s2, rfl, h2⟩ := open_edit (hval 2 31 v2 rfl rfl) th2 (fun n hn => of_decide_eq_true (List.all_eq_true.1 hsz _ (DataW.weights_mem_each (j := 2) rfl rfl n hn)))
    exact walk t0 b1 len1 cap1 a2 d2 s2 W hs0 hE h2

theorem over : Rows.undoDiscardsRedoRow.holds Try.pinned (OpenSpec.ofChange Rows.undoDiscardsRedoSpec) :=
  OpenClaim.holds_of_wide 7 Try.f7 rfl rfl rfl rfl rfl rfl rfl ⟨rfl, rfl, rfl, rfl, rfl⟩ rfl rfl rfl rfl rfl (by kernel_rfl) Try.func7 (by kernel_rfl)
    (of_decide_eq_true (by kernel_rfl)) (by unfold Func.isWrapper; first | (rw [if_pos (by decide +kernel)]; kernel_rfl) | (rw [if_neg (by decide +kernel)]; exact ⟨rfl, rfl⟩))
    (fun os started H enc _ => lifted os started H enc)

/-- THE STATEMENT -/
theorem proved : Rows.UndoDiscardsRedoSaid :=
  over
#print axioms proved
end Go.Proofs.Ytfhdbenomkbfjaa.undoDiscardsRedo
