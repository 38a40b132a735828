/-
  UndoRestores, for every input: the law returns true and leaves its arguments as they read. No condition.
-/
import Derived.Test.YtfhdbenomkbfjaaJ
set_option linter.unusedSimpArgs false
set_option linter.unusedVariables false
namespace Go.Proofs.Ytfhdbenomkbfjaa.undoRestores
open Go.ChangeShapes Go.WideShapes Go.ChangeAt Go.RowKit Go.Frame
open Go.ChangeMaps (open_string shut_string)
open Te
set_option maxRecDepth 100000 in
set_option maxHeartbeats 8000000 in
theorem walk (s : ByteArray) (b : Option Addr) (len cap : Nat) (a d : Int) (t : ByteArray) (w : World) (hs0 : s.size ≤ 140737488351232) (hE : ∃ E : List Sp, SRow w b len E ∧ len ≤ 140737488351232 ∧ ∀ e ∈ E, InS e) (hin : In (a, d, t)) :
    Calls Try.prog 5 #[.string s, .slice b len cap, .agg #[.int .i64 a, .int .i64 d, .string t]] w fun e w' => e = .returned (.bool true) ∧ Below w.heap.size w w' := by
  obtain ⟨E, hrow, hlen, hI⟩ := hE
  have HI := hid hI
  have hl : E.length = len := by have := hrow.1; simpa using this
  have HL := hid hl
  obtain ⟨W, hW⟩ : ∃ W, W = w.alloc (.cells #[.int .i64 a, .int .i64 d, .string t] 31) := ⟨_, rfl⟩
  have bW : Below w.heap.size w W := by rw [hW]; exact (Below.refl _ _).alloc (Nat.le_refl _) _
  have HR := hid (hrow.below bW)
  have hx0 : W.heap[w.heap.size]? = some (.cells #[.int .i64 a, .int .i64 d, .string t] 31 (0, 0)) := by rw [hW]; exact alloc_new _ _
  have K0 := hid (show ∀ W', Below W.heap.size W W' → W'.cell? ⟨w.heap.size, 0, none⟩ = some (.int .i64 a) ∧ W'.cell? ⟨w.heap.size, 1, none⟩ = some (.int .i64 d) ∧ W'.cell? ⟨w.heap.size, 2, none⟩ = some (.string t) from fun W' hb => cells3 ((hb.block _ (heap_lt hx0)).trans hx0))
  have HW := hid hW
  have hle := hid bW.size
  have HN := hid hin
  have BW := hid bW
  clear hrow hI hl hx0 hW hin bW
  go_enter Try.func5, Try.ntmps5
  go_wp2_with fail
  rw [← HW.out]
  refine (awake_any W).mono ?_
  rintro e w1 ⟨rfl, b1⟩
  go_wp2_with fail
  refine (few_any s b len cap E w1 hlen HI.out hs0 (HR.out.below b1)).mono ?_
  rintro e w1' ⟨rfl, rfl⟩
  obtain ⟨k0, k1, k2⟩ := K0.out _ b1
  by_cases hF : Few s E
  · rw [decide_eq_true hF]
    by_cases ht : t.size ≤ 1000
    · have ht' : (t.size : Int) ≤ 1000 := by omega
      obtain ⟨h30, h20⟩ := hF
      have hs : s.size ≤ 20000 := by omega
      have HZ := hid (show szs E ≤ 20000 by omega)
      have hlen30 : len ≤ 30 := by have := HL.out; omega
      clear h30 h20 hlen
      go_wp2_with fail
      refine (new_any s w1).mono ?_
      rintro e w2 ⟨rfl, hh, b2, _⟩
      clear k0 k1 k2
      obtain ⟨F, hF⟩ : ∃ F : Nat → Prop, F = fun b => W.heap.size ≤ b := ⟨_, rfl⟩
      have HFd := hid hF
      have H2 : Hi F w2 w1.heap.size ⟨s, [], [], 0⟩ := hh.mono fun b hb _ => by rw [hF]; exact (show W.heap.size ≤ b by rw [hb]; exact b1.size)
      have B2 : Below W.heap.size W w2 := b1.trans (b2.mono b1.size)
      clear hh b2 hF b1
      go_wp2_with fail
      go_loopg [8] len (fun k s8 wr => ∃ (i : Nat) (x : St), s8 = .int .i64 i ∧ i + k = len ∧ Hi F wr w1.heap.size x ∧ Ok 20000 i x ∧ Below W.heap.size W wr)
      case atStart => exact ⟨0, _, rfl, by omega, H2, Ok.new hs, B2⟩
      case round =>
        obtain ⟨i, x, rfl, hk, hH, hO, hbw⟩ := hrel
        clear H2 B2
        have hUp : Up F wr := fun b hb => by rw [HFd.out]; exact Nat.le_trans hbw.size hb
        by_cases hlt : i < len
        · have hlt' : (i : Int) < (len : Int) := by omega
          have hi0 : (0 : Int) ≤ (i : Int) := by omega
          obtain ⟨bb, off, ⟨kd, a1, d1, t1⟩, rfl, hbb, hxi, hmem, e0, e1, e2, e3⟩ := SRow.at (HR.out.below hbw) hlt
          obtain ⟨hk256, _, hamax, _, _, _⟩ := HI.out _ hmem
          have htsz : t1.size ≤ 20000 := Nat.le_trans (szs_mem hmem) HZ.out
          obtain ⟨x', ⟨a', d', t'⟩, er, hr⟩ : ∃ x' e er, runR x kd (a1, d1, t1) = (x', e, er) := ⟨_, _, _, rfl⟩
          have RN := hid (run_any F wr w1.heap.size x x' kd a1 d1 t1 a' d' t' er 20000 i hr hH hUp hO (by omega) (by omega) hk256 (by omega) hamax)
          have hO' : Ok 20000 (i + 1) x' := by have := hO.run (k := kd) (e := (a1, d1, t1)) (by omega); rwa [hr] at this
          have HX' := hid hO'
          have HB := hid hbw
          clear hH hO hO' hr hxi hmem hamax hbw hUp
          go_wp2_with fail
          refine RN.out.mono ?_
          rintro e w3 ⟨rfl, H3, A3⟩
          clear e0 e1 e2 e3
          have B3 := hid (HB.out.trans (A3.toBelow (n := W.heap.size) fun b hb => by rw [HFd.out] at hb; exact hb))
          clear A3
          go_wp2
          go_roundg (gk - 1)
          case measure => omega
          case rel => exact ⟨i + 1, x', by go_num, by omega, H3, HX'.out, B3.out⟩
        · have hin : ¬ (i : Int) < (len : Int) := by omega
          have hi30 : i ≤ 30 := by omega
          clear hlt
          obtain ⟨k0, k1, k2⟩ := K0.out _ hbw
          obtain ⟨x', z, er, hr⟩ : ∃ x' e er, doR x (a, d, t) = (x', e, er) := ⟨_, _, _, rfl⟩
          have DN := hid (do_any F wr w1.heap.size x x' a d t z er 20000 i hr hH hUp hO (by omega) (by omega) (by omega) HN.out.2.1)
          have HB := hid hbw
          have HO := hid hO
          have HRR := hid hr
          have TX := hid (text_hi F wr w1.heap.size x hH)
          have hO' : Ok 20000 (i + 1) x' := by have := hO.do (e := (a, d, t)) (by omega); rwa [hr] at this
          have HO' := hid hO'
          clear hO hH hr hbw hO'
          go_wp2_with fail
          refine TX.out.mono ?_
          rintro e wr' ⟨rfl, rfl⟩
          go_wp2_with fail
          refine DN.out.mono ?_
          rintro e w3 ⟨rfl, H3, A3⟩
          clear k0 k1 k2
          have U3 := hid (hUp.kept A3)
          have B3 := hid (HB.out.trans (A3.toBelow (n := W.heap.size) fun b hb => by rw [HFd.out] at hb; exact hb))
          clear A3 hUp
          by_cases h0 : er = 0
          · subst h0
            have hd := do_ok HRR.out
            obtain ⟨hf, hfx, hu⟩ := hd
            obtain ⟨y, hy, hys⟩ := undo_do hf hfx
            have UN := hid (undo_any F w3 w1.heap.size x' y (inv x.s (a, d, t)).1 (inv x.s (a, d, t)).2.1 (inv x.s (a, d, t)).2.2 0 20000 (i + 1) hy H3 U3.out HO'.out (by omega) (by omega))
            obtain ⟨⟨ia, id, it⟩, hiv⟩ : ∃ v, v = inv x.s (a, d, t) := ⟨_, rfl⟩
            rw [← hiv] at UN hy
            have hOy : Ok 20000 (i + 2) y := by have := HO'.out.undo; rwa [hy] at this
            have HOy := hid hOy
            obtain ⟨y', hy', hyy⟩ := redo_undo hf hfx hu hy
            have HY := hid hy'
            have HYS := hid hys
            have HYY := hid hyy
            have TX3 := hid (text_hi F w3 w1.heap.size x' H3)
            clear hf hfx hy hys hy' hyy hiv hu hOy H3
            go_wp2_with fail
            refine TX3.out.mono ?_
            rintro e w3' ⟨rfl, rfl⟩
            go_wp2_with fail
            refine UN.out.mono ?_
            rintro e w4 ⟨rfl, H4, A4⟩
            have U4 := U3.out.kept A4
            have B4 := hid (B3.out.trans (A4.toBelow (n := W.heap.size) fun b hb => by rw [HFd.out] at hb; exact hb))
            clear A4
            have H5 := H4.below ((Below.refl _ w4).alloc (Nat.le_refl _) (.cells #[.int .i64 ia, .int .i64 id, .string it] 31))
            have U5 : Up F (w4.alloc (.cells #[.int .i64 ia, .int .i64 id, .string it] 31)) := U4.mono (by simp)
            have B5 := B4.out.alloc B4.out.size (.cells #[.int .i64 ia, .int .i64 id, .string it] 31)
            obtain ⟨w5, hw5⟩ : ∃ w5, w5 = w4.alloc (.cells #[.int .i64 ia, .int .i64 id, .string it] 31) := ⟨_, rfl⟩
            rw [← hw5] at H5 U5 B5
            have HW5 := hid hw5
            have HB5 := hid B5
            clear hw5 H4 U4 B5
            have TX5 := hid (show Calls Try.prog 15 #[.pointer (some ⟨w1.heap.size, 0, none⟩)] w5 fun e w' => e = .returned (.string x.s) ∧ w5 = w' from by rw [← HYS.out]; exact text_hi F w5 w1.heap.size y H5)
            go_wp2_with fail
            rw [← HW5.out]
            refine TX5.out.mono ?_
            rintro e w5' ⟨rfl, rfl⟩
            go_wp2_with fail
            refine (redo_any F w5 w1.heap.size y y' a d t 0 20000 (i + 2) HY.out H5 U5 HOy.out (by omega) (by omega)).mono ?_
            rintro e w6 ⟨rfl, H6, A6⟩
            have B6 := HB5.out.trans (A6.toBelow (n := W.heap.size) fun b hb => by rw [HFd.out] at hb; exact hb)
            clear A6
            have H7 := H6.below ((Below.refl _ w6).alloc (Nat.le_refl _) (.cells #[.int .i64 a, .int .i64 d, .string t] 31))
            have B7 := B6.alloc B6.size (.cells #[.int .i64 a, .int .i64 d, .string t] 31)
            have X7 := alloc_new w6 (.cells #[.int .i64 a, .int .i64 d, .string t] 31)
            obtain ⟨w7, hw7⟩ : ∃ w7, w7 = w6.alloc (.cells #[.int .i64 a, .int .i64 d, .string t] 31) := ⟨_, rfl⟩
            rw [← hw7] at H7 B7 X7
            have HW7 := hid hw7
            have TX7 := hid (show Calls Try.prog 15 #[.pointer (some ⟨w1.heap.size, 0, none⟩)] w7 fun e w' => e = .returned (.string x'.s) ∧ w7 = w' from by rw [← HYY.out]; exact text_hi F w7 w1.heap.size y' H7)
            obtain ⟨k0, k1, k2⟩ := K0.out _ B7
            obtain ⟨c0, c1, c2⟩ := cells3 X7
            rw [hw7] at k0 k1 k2 c0 c1 c2
            clear hw7 H6 H5 X7
            go_wp2_with fail
            rw [← HW7.out]
            refine TX7.out.mono ?_
            rintro e w7' ⟨rfl, rfl⟩
            go_wp2
            go_ret
            exact ⟨rfl, BW.out.trans (B7.mono hle.out)⟩
          · have o1 := (do_out (K := 1000) ht HRR.out).2 h0
            subst o1
            have he1 : (er == 0) = false := beq_eq_false_iff_ne.2 h0
            go_wp2_with fail
            refine (text_hi F w3 w1.heap.size x' H3).mono ?_
            rintro e w3' ⟨rfl, rfl⟩
            go_wp2
            go_ret
            exact ⟨rfl, BW.out.trans (B3.out.mono hle.out)⟩
    · have ht' : (1000 : Int) < (t.size : Int) := by omega
      go_wp2
      go_ret
      exact ⟨rfl, BW.out.trans (b1.mono hle.out)⟩
  · rw [decide_eq_false hF]
    go_wp2
    go_ret
    exact ⟨rfl, BW.out.trans (b1.mono hle.out)⟩

theorem lifted (os : Os) (started : os.Started) (H : Type) (enc : TypeId × Value → H) :
    ReturnsInHanded {} Try.checked os 5 .any (Rows.undoRestoresSpec.pre6 enc Try.prog Try.f5 Rows.undoRestoresRow.domain false) (Rows.undoRestoresSpec.post enc Try.prog Try.f5 false true false false) := by
  refine Go.Frame.lifted (C := Try.checked) (tb := 4) own started (by kernel_rfl) Try.func5
    (ChangeSpec.witness6 (enc := enc) (C := Try.checked) false ⟨#[], #[.string ByteArray.empty, .slice none 0 0, .agg #[.int .i64 0, .int .i64 0, .string ByteArray.empty]], []⟩ 8 (by kernel_rfl) (by kernel_rfl) (by kernel_rfl) (by kernel_rfl))
    laidOut (by kernel_rfl) (by kernel_rfl) Try.underlying4 rfl ?_ ?_
  · intro ds h
    have h : ds.length = 3 := h
    match ds, h with
    | [_, _, _], _ => rfl
  · intro W base args ds p hlen hval0 hA hsz0
    have hval : ∀ (j : Nat) t v, Try.f5.params[j]? = some t → args[j]? = some v → Value.okWide Try.prog W .any base t v := hval0
    have hA : DataW.TrodAll enc Try.prog W 0 (fun _ => true) true Try.f5.params.toList args.toList ds p := hA
    have hsz : (DataW.weightsEach Try.prog Try.f5.params.toList ds).all (· ≤ reachBytes) = true := hsz0
    rw [Try.params5] at hA hval hsz
    obtain ⟨v0, vs0, d0, ds0, p0, q0, hargs, hds, _, th0, tr0⟩ := trodAll_cons hA
    obtain ⟨v1, vs1, d1, ds1, p1, q1, rfl, rfl, _, th1, tr1⟩ := trodAll_cons tr0
    obtain ⟨v2, vs2, d2, ds2, p2, q2, rfl, rfl, _, th2, tr2⟩ := trodAll_cons tr1
    obtain ⟨rfl, rfl, _⟩ := trodAll_nil tr2
    obtain rfl : args = #[v0, v1, v2] := by cases args; simp_all
    subst hds
    obtain ⟨t0, rfl, hd0, _, _⟩ := open_string Try.underlying9 (hval 0 9 v0 rfl rfl) th0
    have hs0 : t0.size ≤ 140737488351232 := of_decide_eq_true (List.all_eq_true.1 hsz _ (DataW.weights_mem_each (j := 0) rfl rfl _ (by rw [hd0]; simp [DataW.weights])))
    obtain ⟨b1, len1, cap1, rfl⟩ := okWide_slice Try.underlying22 (hval 1 22 v1 rfl rfl)
    have hE : ∃ E : List Sp, SRow W b1 len1 E ∧ len1 ≤ 140737488351232 ∧ ∀ e ∈ E, InS e := by
      obtain ⟨fuel, hf⟩ := th1
      refine open_steps hf ?_
      intro n hn
      exact of_decide_eq_true (List.all_eq_true.1 hsz _ (DataW.weights_mem_each (j := 1) rfl rfl n hn))
    obtain ⟨a2, d2, s2, rfl, h2⟩ := open_edit (hval 2 31 v2 rfl rfl) th2 (fun n hn => of_decide_eq_true (List.all_eq_true.1 hsz _ (DataW.weights_mem_each (j := 2) rfl rfl n hn)))
    exact walk t0 b1 len1 cap1 a2 d2 s2 W hs0 hE h2

theorem over : Rows.undoRestoresRow.holds Try.pinned (OpenSpec.ofChange Rows.undoRestoresSpec) :=
  OpenClaim.holds_of_wide 5 Try.f5 rfl rfl rfl rfl rfl rfl rfl ⟨rfl, rfl, rfl, rfl, rfl⟩ rfl rfl rfl rfl rfl (by kernel_rfl) Try.func5 (by kernel_rfl)
    (of_decide_eq_true (by kernel_rfl)) (by unfold Func.isWrapper; first | (rw [if_pos (by decide +kernel)]; kernel_rfl) | (rw [if_neg (by decide +kernel)]; exact ⟨rfl, rfl⟩))
    (fun os started H enc _ => lifted os started H enc)

/-- THE STATEMENT -/
theorem proved : Rows.UndoRestoresSaid :=
  over
#print axioms proved
end Go.Proofs.Ytfhdbenomkbfjaa.undoRestores
