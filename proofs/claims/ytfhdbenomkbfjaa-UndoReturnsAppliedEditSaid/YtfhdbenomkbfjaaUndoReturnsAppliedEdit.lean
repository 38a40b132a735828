/-
  UndoReturnsAppliedEdit, for every input: the law returns true and leaves its arguments as they read. No condition.
-/
import Derived.Test.YtfhdbenomkbfjaaJ
set_option linter.unusedSimpArgs false
set_option linter.unusedVariables false
namespace Go.Proofs.Ytfhdbenomkbfjaa.undoReturnsAppliedEdit
open Go.ChangeShapes Go.WideShapes Go.ChangeAt Go.RowKit Go.Frame
open Go.ChangeMaps (open_string shut_string)
open Te
set_option maxRecDepth 100000 in
set_option maxHeartbeats 8000000 in
theorem walk (s : ByteArray) (b : Option Addr) (len cap : Nat) (w : World) (hs0 : s.size ≤ 140737488351232) (hE : ∃ E : List Sp, SRow w b len E ∧ len ≤ 140737488351232 ∧ ∀ e ∈ E, InS e) :
    Calls Try.prog 4 #[.string s, .slice b len cap] w fun e w' => e = .returned (.bool true) ∧ Below w.heap.size w w' := by
  obtain ⟨E, hrow, hlen, hin⟩ := hE
  have HR := hid hrow
  have HI := hid hin
  have hl : E.length = len := by have := hrow.1; simpa using this
  have HL := hid hl
  clear hrow hin hl
  go_enter Try.func4, Try.ntmps4
  go_wp2_with fail
  refine (awake_any w).mono ?_
  rintro e w1 ⟨rfl, b1⟩
  go_wp2_with fail
  refine (few_any s b len cap E w1 hlen HI.out hs0 (HR.out.below b1)).mono ?_
  rintro e w1' ⟨rfl, rfl⟩
  by_cases hF : Few s E
  · rw [decide_eq_true hF]
    obtain ⟨h30, h20⟩ := hF
    have hs : s.size ≤ 20000 := by omega
    have HZ := hid (show szs E ≤ 20000 by omega)
    have hlen30 : len ≤ 30 := by have := HL.out; omega
    clear h30 h20 hlen
    go_wp2_with fail
    refine (new_any s w1).mono ?_
    rintro e w2 ⟨rfl, hh, b2, _⟩
    obtain ⟨F, hF⟩ : ∃ F : Nat → Prop, F = fun b => w.heap.size ≤ b := ⟨_, rfl⟩
    have HFd := hid hF
    have H2 : Hi F w2 w1.heap.size ⟨s, [], [], 0⟩ := hh.mono fun b hb _ => by rw [hF]; exact (show w.heap.size ≤ b by rw [hb]; exact b1.size)
    have B2 : Below w.heap.size w w2 := b1.trans (b2.mono b1.size)
    clear hh b2 hF b1
    go_wp2_with fail
    go_loopg [6] len (fun k s6 wr => ∃ (i : Nat) (x : St), s6 = .int .i64 i ∧ i + k = len ∧ Hi F wr w1.heap.size x ∧ Ok 20000 i x ∧ Below w.heap.size w wr)
    case atStart => exact ⟨0, _, rfl, by omega, H2, Ok.new hs, B2⟩
    case round =>
      obtain ⟨i, x, rfl, hk, hH, hO, hbw⟩ := hrel
      clear H2 B2
      by_cases hlt : i < len
      · have hlt' : (i : Int) < (len : Int) := by omega
        have hi0 : (0 : Int) ≤ (i : Int) := by omega
        obtain ⟨bb, off, ⟨kd, a, d, t⟩, rfl, hbb, hxi, hmem, e0, e1, e2, e3⟩ := SRow.at (HR.out.below hbw) hlt
        obtain ⟨hk256, _, hamax, _, _, _⟩ := HI.out _ hmem
        have htsz : t.size ≤ 20000 := Nat.le_trans (szs_mem hmem) HZ.out
        obtain ⟨x', ⟨a', d', t'⟩, er, hr⟩ : ∃ x' e er, runR x kd (a, d, t) = (x', e, er) := ⟨_, _, _, rfl⟩
        have hUp : Up F wr := fun b hb => by rw [HFd.out]; exact Nat.le_trans hbw.size hb
        have RN := hid (run_any F wr w1.heap.size x x' kd a d t a' d' t' er 20000 i hr hH hUp hO (by omega) (by omega) hk256 (by omega) hamax)
        have hO' : Ok 20000 (i + 1) x' := by have := hO.run (k := kd) (e := (a, d, t)) (by omega); rwa [hr] at this
        have OUT := hid (run_out hO htsz hr)
        have TX := hid (text_hi F wr w1.heap.size x hH)
        have HX := hid hO
        have HX' := hid hO'
        have HB := hid hbw
        have HU := hid hUp
        clear hH hO hO' hr hxi hmem hamax hbw hUp
        go_wp2_with fail
        refine TX.out.mono ?_
        rintro e wr' ⟨rfl, rfl⟩
        go_wp2_with fail
        refine RN.out.mono ?_
        rintro e w3 ⟨rfl, H3, A3⟩
        clear e0 e1 e2 e3
        have B3 := hid (HB.out.trans (A3.toBelow (n := w.heap.size) fun b hb => by rw [HFd.out] at hb; exact hb))
        have bb3 : Below w3.heap.size w3 (w3.alloc (.cells #[.int .i64 a', .int .i64 d', .string t'] 31)) := (Below.refl _ _).alloc (Nat.le_refl _) _
        have X4 := alloc_new w3 (.cells #[.int .i64 a', .int .i64 d', .string t'] 31)
        obtain ⟨w4, hw4⟩ : ∃ w4, w4 = w3.alloc (.cells #[.int .i64 a', .int .i64 d', .string t'] 31) := ⟨_, rfl⟩
        rw [← hw4] at X4 bb3
        have H4 := hid (H3.below bb3)
        have B4 := hid (B3.out.trans (bb3.mono B3.out.size))
        obtain ⟨c0, c1, c2⟩ := cells3 X4
        have HW4 := hid hw4
        rw [hw4] at c0 c1 c2
        clear hw4 H3 A3 bb3 X4
        by_cases h0 : er = 0
        · subst h0
          obtain ⟨o1, o2, o3⟩ := OUT.out.1 rfl
          have RA := hid (show ∀ W, Calls Try.prog 18 #[.string x.s, .agg #[.int .i64 a', .int .i64 d', .string t']] W fun e w' => e = .returned (.tuple #[.string x'.s, .int .i64 0]) ∧ Below W.heap.size W w' from fun W => by
            refine (rapply_any x.s t' a' d' W (Nat.le_trans HX.out.size (by omega)) (by omega)).mono ?_
            rintro e w' ⟨rfl, h⟩
            exact ⟨by rw [apv_yes o1, o2], h⟩)
          clear o1 o2 o3
          go_wp2_with fail
          rw [← HW4.out]
          refine (RA.out w4).mono ?_
          rintro e w5 ⟨rfl, b5⟩
          clear c0 c1 c2
          go_wp2_with fail
          refine (text_hi F w5 w1.heap.size x' (H4.out.below b5)).mono ?_
          rintro e w5' ⟨rfl, rfl⟩
          go_wp2
          go_roundg (gk - 1)
          case measure => omega
          case rel => exact ⟨i + 1, x', by go_num, by omega, H4.out.below b5, HX'.out, B4.out.trans (b5.mono B4.out.size)⟩
        · have o1 := OUT.out.2 h0
          subst o1
          have he1 : (er == 0) = false := beq_eq_false_iff_ne.2 h0
          go_wp2_with fail
          rw [← HW4.out]
          refine (text_hi F w4 w1.heap.size x' H4.out).mono ?_
          rintro e w4' ⟨rfl, rfl⟩
          go_wp2
          go_roundg (gk - 1)
          case measure => omega
          case rel => exact ⟨i + 1, x', by go_num, by omega, H4.out, HX'.out, B4.out⟩
      · have hin : ¬ (i : Int) < (len : Int) := by omega
        go_wp2
        go_ret
        exact ⟨rfl, hbw⟩
  · rw [decide_eq_false hF]
    go_wp2
    go_ret
    exact ⟨rfl, b1⟩

theorem lifted (os : Os) (started : os.Started) (H : Type) (enc : TypeId × Value → H) :
    ReturnsInHanded {} Try.checked os 4 .any (Rows.undoReturnsAppliedEditSpec.pre6 enc Try.prog Try.f4 Rows.undoReturnsAppliedEditRow.domain false) (Rows.undoReturnsAppliedEditSpec.post enc Try.prog Try.f4 false true false false) := by
  refine Go.Frame.lifted (C := Try.checked) (tb := 4) own started (by kernel_rfl) Try.func4
    (ChangeSpec.witness6 (enc := enc) (C := Try.checked) false ⟨#[], #[.string ByteArray.empty, .slice none 0 0], []⟩ 8 (by kernel_rfl) (by kernel_rfl) (by kernel_rfl) (by kernel_rfl))
    laidOut (by kernel_rfl) (by kernel_rfl) Try.underlying4 rfl ?_ ?_
  · intro ds h
    have h : ds.length = 2 := h
    match ds, h with
    | [_, _], _ => rfl
  · intro W base args ds p hlen hval0 hA hsz0
    have hval : ∀ (j : Nat) t v, Try.f4.params[j]? = some t → args[j]? = some v → Value.okWide Try.prog W .any base t v := hval0
    have hA : DataW.TrodAll enc Try.prog W 0 (fun _ => true) true Try.f4.params.toList args.toList ds p := hA
    have hsz : (DataW.weightsEach Try.prog Try.f4.params.toList ds).all (· ≤ reachBytes) = true := hsz0
    rw [Try.params4] at hA hval hsz
    obtain ⟨v0, vs0, d0, ds0, p0, q0, hargs, hds, _, th0, tr0⟩ := trodAll_cons hA
    obtain ⟨v1, vs1, d1, ds1, p1, q1, rfl, rfl, _, th1, tr1⟩ := trodAll_cons tr0
    obtain ⟨rfl, rfl, _⟩ := trodAll_nil tr1
    obtain rfl : args = #[v0, v1] := by cases args; simp_all
    subst hds
    obtain ⟨t0, rfl, hd0, _, _⟩ := open_string Try.underlying9 (hval 0 9 v0 rfl rfl) th0
    have hs0 : t0.size ≤ 140737488351232 := of_decide_eq_true (List.all_eq_true.1 hsz _ (DataW.weights_mem_each (j := 0) rfl rfl _ (by rw [hd0]; simp [DataW.weights])))
    obtain ⟨b1, len1, cap1, rfl⟩ := okWide_slice Try.underlying22 (hval 1 22 v1 rfl rfl)
    have hE : ∃ E : List Sp, SRow W b1 len1 E ∧ len1 ≤ 140737488351232 ∧ ∀ e ∈ E, InS e := by
      obtain ⟨fuel, hf⟩ := th1
      refine open_steps hf ?_
      intro n hn
      exact of_decide_eq_true (List.all_eq_true.1 hsz _ (DataW.weights_mem_each (j := 1) rfl rfl n hn))
    exact walk t0 b1 len1 cap1 W hs0 hE

theorem over : Rows.undoReturnsAppliedEditRow.holds Try.pinned (OpenSpec.ofChange Rows.undoReturnsAppliedEditSpec) :=
  OpenClaim.holds_of_wide 4 Try.f4 rfl rfl rfl rfl rfl rfl rfl ⟨rfl, rfl, rfl, rfl, rfl⟩ rfl rfl rfl rfl rfl (by kernel_rfl) Try.func4 (by kernel_rfl)
    (of_decide_eq_true (by kernel_rfl)) (by unfold Func.isWrapper; first | (rw [if_pos (by decide +kernel)]; kernel_rfl) | (rw [if_neg (by decide +kernel)]; exact ⟨rfl, rfl⟩))
    (fun os started H enc _ => lifted os started H enc)

/-- THE STATEMENT -/
theorem proved : Rows.UndoReturnsAppliedEditSaid :=
  over
#print axioms proved
end Go.Proofs.Ytfhdbenomkbfjaa.undoReturnsAppliedEdit
