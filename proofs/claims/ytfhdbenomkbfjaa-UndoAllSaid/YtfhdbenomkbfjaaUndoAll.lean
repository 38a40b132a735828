/-
  UndoAll, for every input: the law returns true and leaves its arguments as they read. No condition.
-/
import Derived.Test.YtfhdbenomkbfjaaJ
set_option linter.unusedSimpArgs false
set_option linter.unusedVariables false
namespace Go.Proofs.Ytfhdbenomkbfjaa.undoAll
open Go.ChangeShapes Go.WideShapes Go.ChangeAt Go.RowKit Go.Frame
open Go.ChangeMaps (open_string shut_string)
open Te
set_option maxRecDepth 100000 in
set_option maxHeartbeats 8000000 in
theorem walk (s : ByteArray) (b : Option Addr) (len cap : Nat) (w : World) (hs0 : s.size ≤ 140737488351232) (hE : ∃ E : List Sp, SRow w b len E ∧ len ≤ 140737488351232 ∧ ∀ e ∈ E, InS e) :
    Calls Try.prog 6 #[.string s, .slice b len cap] w fun e w' => e = .returned (.bool true) ∧ Below w.heap.size w w' := by
  obtain ⟨E, hrow, hlen, hin⟩ := hE
  have HR := hid hrow
  have HI := hid hin
  have hl : E.length = len := by have := hrow.1; simpa using this
  have HL := hid hl
  clear hrow hin hl
  go_enter Try.func6, Try.ntmps6
  go_wp2_with fail
  refine (awake_any w).mono ?_
  rintro e w1 ⟨rfl, b1⟩
  go_wp2_with fail
  refine (few_any s b len cap E w1 hlen HI.out hs0 (HR.out.below b1)).mono ?_
  rintro e w1' ⟨rfl, rfl⟩
  by_cases hF : Few s E
  · rw [decide_eq_true hF]
    obtain ⟨h30, h20⟩ := hF
    have hs : s.size ≤ 20000 := by omega
    have HZ := hid (show szs E ≤ 20000 by omega)
    have hlen30 : len ≤ 30 := by have := HL.out; omega
    clear h30 h20 hlen
    go_wp2_with fail
    refine (new_any s w1).mono ?_
    rintro e w2 ⟨rfl, hh, b2, _⟩
    obtain ⟨F, hF⟩ : ∃ F : Nat → Prop, F = fun b => w.heap.size ≤ b := ⟨_, rfl⟩
    have HFd := hid hF
    have H2 : Hi F w2 w1.heap.size ⟨s, [], [], 0⟩ := hh.mono fun b hb _ => by rw [hF]; exact (show w.heap.size ≤ b by rw [hb]; exact b1.size)
    have B2 : Below w.heap.size w w2 := b1.trans (b2.mono b1.size)
    clear hh b2 hF b1
    go_wp2_with fail
    obtain ⟨go, hgo⟩ : ∃ go : Nat, go = 0 := ⟨_, rfl⟩
    go_loopg [6] len (fun k s6 wr => ∃ (i : Nat) (x : St), s6 = .int .i64 i ∧ i + k = len ∧ Hi F wr w1.heap.size x ∧ Ok 20000 i x ∧ (∃ E' k', Ta 20000 s E' k' x) ∧ Below w.heap.size w wr)
    case atStart => exact ⟨0, _, rfl, by omega, H2, Ok.new hs, ⟨[], 0, Tale.start hs⟩, B2⟩
    case round =>
      obtain ⟨i, x, rfl, hk, hH, hO, hTa, hbw⟩ := hrel
      clear H2 B2 hgo
      have hUp : Up F wr := fun b hb => by rw [HFd.out]; exact Nat.le_trans hbw.size hb
      by_cases hlt : i < len
      · have hlt' : (i : Int) < (len : Int) := by omega
        have hi0 : (0 : Int) ≤ (i : Int) := by omega
        obtain ⟨bb, off, ⟨kd, a, d, t⟩, rfl, hbb, hxi, hmem, e0, e1, e2, e3⟩ := SRow.at (HR.out.below hbw) hlt
        obtain ⟨hk256, _, hamax, _, _, _⟩ := HI.out _ hmem
        have htsz : t.size ≤ 20000 := Nat.le_trans (szs_mem hmem) HZ.out
        obtain ⟨x', ⟨a', d', t'⟩, er, hr⟩ : ∃ x' e er, runR x kd (a, d, t) = (x', e, er) := ⟨_, _, _, rfl⟩
        have RN := hid (run_any F wr w1.heap.size x x' kd a d t a' d' t' er 20000 i hr hH hUp hO (by omega) (by omega) hk256 (by omega) hamax)
        have hO' : Ok 20000 (i + 1) x' := by have := hO.run (k := kd) (e := (a, d, t)) (by omega); rwa [hr] at this
        have hTa' : ∃ E' k', Ta 20000 s E' k' x' := by obtain ⟨E', k', h⟩ := hTa; have := ta_run h (by omega) kd (a, d, t); rwa [hr] at this
        have HX' := hid (And.intro hO' hTa')
        have HB := hid hbw
        clear hH hO hO' hTa hTa' hr hxi hmem hamax hbw hUp
        go_wp2_with fail
        refine RN.out.mono ?_
        rintro e w3 ⟨rfl, H3, A3⟩
        clear e0 e1 e2 e3
        have B3 := hid (HB.out.trans (A3.toBelow (n := w.heap.size) fun b hb => by rw [HFd.out] at hb; exact hb))
        clear A3
        go_wp2
        go_roundg (gk - 1)
        case measure => omega
        case rel => exact ⟨i + 1, x', by go_num, by omega, H3, HX'.out.1, HX'.out.2, B3.out⟩
      · have hin : ¬ (i : Int) < (len : Int) := by omega
        obtain ⟨E', n, hT⟩ := hTa
        obtain ⟨go, rfl⟩ : ∃ go, go = gk := ⟨_, rfl⟩
        have hi : i = len := by omega
        have hnE : x.U.length = n := hT.lenU
        have hnl : x.U.length ≤ len := by have := hO.len; omega
        have hml : x.R.length ≤ len := by have := hO.len; omega
        rw [hnE] at hnl
        have hnl' : (n : Int) ≤ (len : Int) := by omega
        have hml' : (x.R.length : Int) ≤ (len : Int) := by omega
        have hlen' : (len : Int) ≤ 30 := by omega
        have hg1 : decide (len < n) = false := decide_eq_false (by omega)
        have hg2 : decide (len < x.R.length) = false := decide_eq_false (by omega)

        have TX := hid (text_hi F wr w1.heap.size x hH)
        have DP := hid (show Calls Try.prog 14 #[.pointer (some ⟨w1.heap.size, 0, none⟩)] wr fun e w' => e = .returned (.tuple #[.int .i64 (n : Int), .int .i64 (x.R.length : Int)]) ∧ Below wr.heap.size wr w' from by rw [← hnE]; exact depth_hi F wr w1.heap.size x hH)
        have HT := hid hT
        have HH := hid hH
        have HB := hid hbw
        have HO := hid (show Ok 20000 len x by rw [← hi]; exact hO)
        have HEl := hid (show n ≤ E'.length from hT.le)
        clear hT hH hbw hO hnE hml hlt hUp
        go_wp2_with fail
        refine TX.out.mono ?_
        rintro e wr' ⟨rfl, rfl⟩
        go_wp2_with fail
        refine DP.out.mono ?_
        rintro e w3 ⟨rfl, b3⟩
        have H3 := HH.out.below b3
        have B3 := HB.out.trans (b3.mono HB.out.size)
        clear b3
        go_wp2_with fail
        go_loopg [10] n (fun k s10 wr => ∃ (j : Nat) (y : St), s10 = .int .i64 j ∧ j + k = n ∧ Hi F wr w1.heap.size y ∧ Ok 20000 (len + j) y ∧ Ta 20000 s E' (n - j) y ∧ Below w.heap.size w wr)
        case atStart => exact ⟨0, x, rfl, by omega, H3, HO.out, HT.out, B3⟩
        case round =>
          obtain ⟨j, y, rfl, hk2, hH, hO, hT, hbw⟩ := hrel
          clear H3 B3
          have hUp : Up F wr := fun b hb => by rw [HFd.out]; exact Nat.le_trans hbw.size hb
          by_cases hlt : j < n
          · have hlt' : (j : Int) < (n : Int) := by omega
            obtain ⟨y', ⟨ia, id, it⟩, hr, hT'⟩ := ta_undo (k := n - (j + 1)) (by rw [show n - (j + 1) + 1 = n - j by omega]; exact hT)
            have UN := hid (undo_any F wr w1.heap.size y y' ia id it 0 20000 (len + j) hr hH hUp hO (by omega) (by omega))
            have HO' := hid (show Ok 20000 (len + (j + 1)) y' by have := hO.undo; rwa [hr] at this)
            have HT' := hid hT'
            have HB := hid hbw
            clear hH hO hT hT' hr hbw hUp
            go_wp2_with fail
            refine UN.out.mono ?_
            rintro e w4 ⟨rfl, H4, A4⟩
            have B4 := HB.out.trans (A4.toBelow (n := w.heap.size) fun b hb => by rw [HFd.out] at hb; exact hb)
            have H5 := hid (H4.below ((Below.refl _ w4).alloc (Nat.le_refl _) (.cells #[.int .i64 ia, .int .i64 id, .string it] 31)))
            have B5 := hid (B4.alloc B4.size (.cells #[.int .i64 ia, .int .i64 id, .string it] 31))
            clear H4 B4 A4
            go_wp2
            go_roundg (gk - 1)
            case measure => omega
            case rel => exact ⟨j + 1, y', by go_num, by omega, H5.out, HO'.out, HT'.out, B5.out⟩
          · have hin2 : ¬ (j : Int) < (n : Int) := by omega
            have hj : j = n := by omega
            rw [hj, Nat.sub_self] at hT
            obtain ⟨hr, hys⟩ := ta_undo0 hT
            obtain ⟨gp, rfl⟩ : ∃ gp, gp = gk := ⟨_, rfl⟩
            have UN := hid (undo_any F wr w1.heap.size y y 0 0 { data := #[] } 15 20000 (len + j) hr hH hUp hO (by omega) (by omega))
            have HT' := hid hT
            have HO' := hid hO
            have HB := hid hbw
            have HYS := hid hys
            clear hH hO hT hr hbw hUp hys hlt
            go_wp2_with fail
            refine UN.out.mono ?_
            rintro e w4 ⟨rfl, H4, A4⟩
            have B4 := HB.out.trans (A4.toBelow (n := w.heap.size) fun b hb => by rw [HFd.out] at hb; exact hb)
            have H5 := H4.below ((Below.refl _ w4).alloc (Nat.le_refl _) (.cells #[.int .i64 0, .int .i64 0, .string { data := #[] }] 31))
            have B5 := B4.alloc B4.size (.cells #[.int .i64 0, .int .i64 0, .string { data := #[] }] 31)
            obtain ⟨w5, hw5⟩ : ∃ w5, w5 = w4.alloc (.cells #[.int .i64 0, .int .i64 0, .string { data := #[] }] 31) := ⟨_, rfl⟩
            rw [← hw5] at H5 B5
            have HW5 := hid hw5
            have TX5 := hid (show Calls Try.prog 15 #[.pointer (some ⟨w1.heap.size, 0, none⟩)] w5 fun e w' => e = .returned (.string s) ∧ w5 = w' from by have := text_hi F w5 w1.heap.size y H5; rw [HYS.out] at this; exact this)
            clear H4 B4 A4 hw5
            go_wp2_with fail
            rw [← HW5.out]
            refine TX5.out.mono ?_
            rintro e w5' ⟨rfl, rfl⟩
            go_wp2_with fail
            go_loopg [15] n (fun k s15 wr => ∃ (q : Nat) (z : St), s15 = .int .i64 q ∧ q + k = n ∧ Hi F wr w1.heap.size z ∧ Ok 20000 (len + n + q) z ∧ Ta 20000 s E' q z ∧ Below w.heap.size w wr)
            case atStart => exact ⟨0, y, rfl, by omega, H5, by have := HO'.out; rw [hj] at this; exact this, HT'.out, B5⟩
            case round =>
              obtain ⟨q, z, rfl, hk3, hH, hO, hT, hbw⟩ := hrel
              clear H5 B5
              have hUp : Up F wr := fun b hb => by rw [HFd.out]; exact Nat.le_trans hbw.size hb
              by_cases hlt : q < n
              · have hlt' : (q : Int) < (n : Int) := by omega
                obtain ⟨z', ⟨ia, id, it⟩, hr, hT'⟩ := ta_redo hT (by have := HEl.out; omega)
                have UN := hid (redo_any F wr w1.heap.size z z' ia id it 0 20000 (len + n + q) hr hH hUp hO (by omega) (by omega))
                have HO'' := hid (show Ok 20000 (len + n + (q + 1)) z' by have := hO.redo; rwa [hr] at this)
                have HT'' := hid hT'
                have HB := hid hbw
                clear hH hO hT hT' hr hbw hUp
                go_wp2_with fail
                refine UN.out.mono ?_
                rintro e w6 ⟨rfl, H6, A6⟩
                have B6 := HB.out.trans (A6.toBelow (n := w.heap.size) fun b hb => by rw [HFd.out] at hb; exact hb)
                have H7 := hid (H6.below ((Below.refl _ w6).alloc (Nat.le_refl _) (.cells #[.int .i64 ia, .int .i64 id, .string it] 31)))
                have B7 := hid (B6.alloc B6.size (.cells #[.int .i64 ia, .int .i64 id, .string it] 31))
                clear H6 B6 A6
                go_wp2
                go_roundg (gk - 1)
                case measure => omega
                case rel => exact ⟨q + 1, z', by go_num, by omega, H7.out, HO''.out, HT''.out, B7.out⟩
              · have hin3 : ¬ (q : Int) < (n : Int) := by omega
                have hq : q = n := by omega
                rw [hq] at hT
                have hzx := ta_same hT HT.out
                have TX7 := hid (show Calls Try.prog 15 #[.pointer (some ⟨w1.heap.size, 0, none⟩)] wr fun e w' => e = .returned (.string x.s) ∧ wr = w' from by rw [← hzx]; exact text_hi F wr w1.heap.size z hH)
                have HB := hid hbw
                clear hH hO hT hzx hbw hUp hlt hq
                go_wp2_with fail
                refine TX7.out.mono ?_
                rintro e wr' ⟨rfl, rfl⟩
                go_wp2
                go_ret
                exact ⟨rfl, HB.out⟩
  · rw [decide_eq_false hF]
    go_wp2
    go_ret
    exact ⟨rfl, b1⟩

theorem lifted (os : Os) (started : os.Started) (H : Type) (enc : TypeId × Value → H) :
    ReturnsInHanded {} Try.checked os 6 .any (Rows.undoAllSpec.pre6 enc Try.prog Try.f6 Rows.undoAllRow.domain false) (Rows.undoAllSpec.post enc Try.prog Try.f6 false true false false) := by
  refine Go.Frame.lifted (C := Try.checked) (tb := 4) own started (by kernel_rfl) Try.func6
    (ChangeSpec.witness6 (enc := enc) (C := Try.checked) false ⟨#[], #[.string ByteArray.empty, .slice none 0 0], []⟩ 8 (by kernel_rfl) (by kernel_rfl) (by kernel_rfl) (by kernel_rfl))
    laidOut (by kernel_rfl) (by kernel_rfl) Try.underlying4 rfl ?_ ?_
  · intro ds h
    have h : ds.length = 2 := h
    match ds, h with
    | [_, _], _ => rfl
  · intro W base args ds p hlen hval0 hA hsz0
    have hval : ∀ (j : Nat) t v, Try.f6.params[j]? = some t → args[j]? = some v → Value.okWide Try.prog W .any base t v := hval0
    have hA : DataW.TrodAll enc Try.prog W 0 (fun _ => true) true Try.f6.params.toList args.toList ds p := hA
    have hsz : (DataW.weightsEach Try.prog Try.f6.params.toList ds).all (· ≤ reachBytes) = true := hsz0
    rw [Try.params6] at hA hval hsz
    obtain ⟨v0, vs0, d0, ds0, p0, q0, hargs, hds, _, th0, tr0⟩ := trodAll_cons hA
    obtain ⟨v1, vs1, d1, ds1, p1, q1, rfl, rfl, _, th1, tr1⟩ := trodAll_cons tr0
    obtain ⟨rfl, rfl, _⟩ := trodAll_nil tr1
    obtain rfl : args = #[v0, v1] := by cases args; simp_all
    subst hds
    obtain ⟨t0, rfl, hd0, _, _⟩ := open_string Try.underlying9 (hval 0 9 v0 rfl rfl) th0
    have hs0 : t0.size ≤ 140737488351232 := of_decide_eq_true (List.all_eq_true.1 hsz _ (DataW.weights_mem_each (j := 0) rfl rfl _ (by rw [hd0]; simp [DataW.weights])))
    obtain ⟨b1, len1, cap1, rfl⟩ := okWide_slice Try.underlying22 (hval 1 22 v1 rfl rfl)
    have hE : ∃ E : List Sp, SRow W b1 len1 E ∧ len1 ≤ 140737488351232 ∧ ∀ e ∈ E, InS e := by
      obtain ⟨fuel, hf⟩ := th1
      refine open_steps hf ?_
      intro n hn
      exact of_decide_eq_true (List.all_eq_true.1 hsz _ (DataW.weights_mem_each (j := 1) rfl rfl n hn))
    exact walk t0 b1 len1 cap1 W hs0 hE

theorem over : Rows.undoAllRow.holds Try.pinned (OpenSpec.ofChange Rows.undoAllSpec) :=
  OpenClaim.holds_of_wide 6 Try.f6 rfl rfl rfl rfl rfl rfl rfl ⟨rfl, rfl, rfl, rfl, rfl⟩ rfl rfl rfl rfl rfl (by kernel_rfl) Try.func6 (by kernel_rfl)
    (of_decide_eq_true (by kernel_rfl)) (by unfold Func.isWrapper; first | (rw [if_pos (by decide +kernel)]; kernel_rfl) | (rw [if_neg (by decide +kernel)]; exact ⟨rfl, rfl⟩))
    (fun os started H enc _ => lifted os started H enc)

/-- THE STATEMENT -/
theorem proved : Rows.UndoAllSaid :=
  over
#print axioms proved
end Go.Proofs.Ytfhdbenomkbfjaa.undoAll
