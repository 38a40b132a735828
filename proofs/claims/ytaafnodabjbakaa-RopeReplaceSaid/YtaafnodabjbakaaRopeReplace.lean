/-
  RopeReplace, for every input: the law returns true and leaves its arguments as they read. No condition.
-/
import Derived.Test.YtaafnodabjbakaaRows
import Derived.Test.YtaafnodabjbakaaZ
import Derived.WalkKit
import Derived.ProofKit
import Derived.OpenShut
import Derived.ShutString
import Derived.ChangeOld
import Derived.Below
import Derived.Lib.SmallJoins
namespace Go.Proofs.Ytaafnodabjbakaa.ropeReplace
open Go.ChangeShapes Go.WideShapes Go.ChangeAt Go.RowKit
open Go.ChangeMaps (open_string shut_string)
set_option linter.unusedVariables false      -- a walk need not use every 'w<i>' (that an integer argument fits its kind)

theorem own : ownKnob Try.prog.godebug = none := by kernel_rfl
theorem laidOut : laidOutB Try.prog = true := by kernel_rfl

set_option maxRecDepth 100000 in
set_option maxHeartbeats 1000000 in
theorem walk (a0 : ByteArray) (a d : Int) (ins : ByteArray) (w : World) :
    Calls Try.prog 5 #[.string a0, .agg #[.int .i64 a, .int .i64 d, .string ins]] w fun e w' => e = .returned (.bool true) ∧ Below w.heap.size w w' := by
  obtain ⟨W, hW⟩ : ∃ W, W = w.alloc (.cells #[.int .i64 a, .int .i64 d, .string ins] 32) := ⟨_, rfl⟩
  have bW : Below w.heap.size w W := by rw [hW]; exact (Below.refl _ _).alloc (Nat.le_refl _) _
  have hbx : W.heap[w.heap.size]? = some (.cells #[.int .i64 a, .int .i64 d, .string ins] 32 (0, 0)) := by rw [hW]; exact alloc_new _ _
  have Keep := hid (show ∀ W', Below W.heap.size W W' → W'.cell? ⟨w.heap.size, 0, none⟩ = some (.int .i64 a) ∧ W'.cell? ⟨w.heap.size, 1, none⟩ = some (.int .i64 d) ∧ W'.cell? ⟨w.heap.size, 2, none⟩ = some (.string ins) from fun W' hb => by
    have e0 := hb.block w.heap.size (heap_lt hbx)
    refine ⟨?_, ?_, ?_⟩
    · show World.cell? W' ⟨w.heap.size, 0, none⟩ = _; unfold World.cell?; rw [e0, hbx]; rfl
    · show World.cell? W' ⟨w.heap.size, 1, none⟩ = _; unfold World.cell?; rw [e0, hbx]; rfl
    · show World.cell? W' ⟨w.heap.size, 2, none⟩ = _; unfold World.cell?; rw [e0, hbx]; rfl)
  obtain ⟨k0, k1, k2⟩ := Keep.out _ (Below.refl _ W)
  have HW := hid hW
  have hle := bW.size
  clear hbx hW
  by_cases h : 1000 < a0.size
  · have h' : (1000 : Int) < (a0.size : Int) := by omega
    go_enter Try.func5, Try.ntmps5
    go_wp2_with fail
    rw [← HW.out]
    refine (awake_any W).mono ?_
    rintro e w1 ⟨rfl, hb1⟩
    go_wp2
    go_ret
    exact ⟨rfl, bW.trans (hb1.mono hle)⟩
  · have h' : (a0.size : Int) ≤ 1000 := by omega
    by_cases g : 1000 < ins.size
    · have g' : (1000 : Int) < (ins.size : Int) := by omega
      go_enter Try.func5, Try.ntmps5
      go_wp2_with fail
      rw [← HW.out]
      refine (awake_any W).mono ?_
      rintro e w1 ⟨rfl, hb1⟩
      go_wp2
      go_ret
      exact ⟨rfl, bW.trans (hb1.mono hle)⟩
    · have g' : (ins.size : Int) ≤ 1000 := by omega
      obtain ⟨t, n, ht, hn, hR, hR'⟩ := replace_pair a0 a d ins (by omega) (by omega)
      have HR := hid hR
      have HR' := hid hR'
      have HN := hid hn
      clear hR hR' hn
      go_enter Try.func5, Try.ntmps5
      go_upto_region 3 with fail
      rw [← HW.out]
      go_cut [5, 6] from 19 to 25 (fun s5 s6 wx => ∃ (B : Nat) (r : Option Addr), s5 = .pointer (some ⟨B, 0, none⟩) ∧ s6 = .int .i64 n ∧ wx.heap[B]? = some (.cells #[.pointer r] 26 (0, 0)) ∧ Rope wx r t.data.toList ∧ Below W.heap.size W wx)
      case first =>
        go_region_held3 (fun W' => W'.cell? ⟨w.heap.size, 0, none⟩ = some (.int .i64 a) ∧ W'.cell? ⟨w.heap.size, 1, none⟩ = some (.int .i64 d) ∧ W'.cell? ⟨w.heap.size, 2, none⟩ = some (.string ins))
          (first | exact ⟨k0, k1, k2⟩ | exact Keep.out _ hb2 | exact Keep.out _ (hb2.alloc hb2.size _) | exact Keep.out _ (hb2.setCell (Nat.le_refl _) _) | exact Keep.out _ (hb2.setCell hb1.size _) | exact Keep.out _ hb1 | exact Keep.out _ (hb1.alloc hb1.size _) | exact Keep.out _ ((Below.refl _ _).alloc (Nat.le_refl _) _) | exact Keep.out _ ((Below.refl _ _).alloc (Nat.le_refl _) _).drew | exact Keep.out _ (hb2.setCell (by first | exact Nat.le_refl _ | exact hb1.size) _))
          (first
            | (go_at_call 13; (with_reducible refine (New_any a0 W.drew (by omega)).mono ?_); rintro e w1 ⟨p, rfl, hp, hb1'⟩; have hb1 := undrew hb1')
            | (go_at_call 13; refine (New_any a0 (W.alloc _).drew (by omega)).mono ?_; rintro e w1 ⟨p, rfl, hp, hb1'⟩; have x1 := box_after W _ _ (undrew hb1'); have hb1 := ((Below.refl W.heap.size W).alloc (Nat.le_refl _) _).trans ((undrew hb1').mono (by simp)))
            | (go_at_call 15; (with_reducible refine (HR.out p w1 hp).mono ?_); rintro e w2 ⟨r, rfl, hr, hb2'⟩; have hb2 := hb1.trans (hb2'.mono hb1.size); (try (have x2 := (hb2'.block _ (heap_lt x1)).trans x1; have q0 := cell_of_one x2; have q1 := free_of_one x2)))
            | (go_at_call 15; refine (HR.out p (w1.alloc _) (hp.below ((Below.refl _ _).alloc (Nat.le_refl _) _))).mono ?_; rintro e w2 ⟨r, rfl, hr, hb2'⟩; have x2 := box_after w1 _ _ hb2'; have q0 := cell_of_one x2; have q1 := free_of_one x2; have hb2 := (hb1.alloc hb1.size _).trans (hb2'.mono (by simp; exact Nat.le_trans hb1.size (by omega)))))
        all_goals (go_wp2_with fail; go_meet)
        · exact ⟨_, _, rfl, rfl, alloc_new _ _, hr.below ((Below.refl _ _).alloc (Nat.le_refl _) _), hb2.alloc hb2.size _⟩
        · exact ⟨_, _, rfl, rfl, setCell_box x2, hr.setBox x2, hb2.setCell hb1.size _⟩
        · exact ⟨_, _, rfl, rfl, setCell_box x2, hr.setBox x2, hb2.setCell (Nat.le_refl _) _⟩
      case rest =>
        obtain ⟨B, r, rfl, rfl, hB, hr, hb⟩ := hcut
        have j1 := Keep.out _ hb
        obtain ⟨j0, j1, j2⟩ := j1
        have Kb := hid (show ∀ W', Below wc.heap.size wc W' → W'.cell? ⟨B, 0, none⟩ = some (.pointer r) from fun W' hb => cell_of_one ((hb.block _ (heap_lt hB)).trans hB))
        clear hB
        go_wp2_with fail
        refine (HR'.out wc).mono ?_
        rintro e w3 ⟨rfl, hb3⟩
        have c3 := Kb.out _ hb3
        go_wp2_with fail
        refine (awake_any w3).mono ?_
        rintro e w4 ⟨rfl, hb4'⟩
        have hb4 := hb3.trans (hb4'.mono hb3.size)
        have c4 := Kb.out _ hb4
        go_wp2_with fail
        refine (holds_ok r t w4 (hr.below hb4) (by omega)).mono ?_
        rintro e w5 ⟨rfl, hb5'⟩
        have hb5 := hb4.trans (hb5'.mono hb4.size)
        go_wp2
        go_ret
        exact ⟨rfl, bW.trans ((hb.trans (hb5.mono hb.size)).mono hle)⟩

/-! ### THE ROW's STEP: WRITTEN OUT: LEAVE IT -/
set_option maxRecDepth 100000 in
theorem lifted (os : Os) (started : os.Started) (H : Type) (enc : TypeId × Value → H) :
    ReturnsInHanded {} Try.checked os 5 .any (Rows.ropeReplaceSpec.pre6 enc Try.prog Try.f5 Rows.ropeReplaceRow.domain false) (Rows.ropeReplaceSpec.post enc Try.prog Try.f5 false true false false) := by
  refine returnsInHanded_of_change (C := Try.checked) own started (by kernel_rfl) Try.func5
    (ChangeSpec.witness6 (enc := enc) (C := Try.checked) false ⟨#[], #[.string ByteArray.empty, .agg #[.int .i64 0, .int .i64 0, .string ByteArray.empty]], []⟩ 8 (by kernel_rfl) (by kernel_rfl) (by kernel_rfl) (by kernel_rfl)) ?_
  intro W base args ds gs before hval0 hW hcnd _
  have hval : ∀ (j : Nat) t v, Try.f5.params[j]? = some t → args[j]? = some v → Value.okWide Try.prog W .any base t v := hval0
  have hW' := hW
  obtain ⟨p, q, hA0, hV, rfl, hfz, hnd⟩ := hW
  have hA : DataW.TrodAll enc Try.prog W 0 (fun _ => true) true Try.f5.params.toList args.toList ds p := hA0
  rw [Try.params5] at hA hval
  obtain ⟨v0, vs0, d0, ds0, p0, q0, hargs, rfl, rfl, h0, r0⟩ := trodAll_cons hA
  obtain ⟨v1, vs1, d1, ds1, p1, q1, rfl, rfl, rfl, h1, r1⟩ := trodAll_cons r0
  obtain ⟨rfl, rfl, rfl⟩ := trodAll_nil r1
  obtain rfl : args = #[v0, v1] := by cases args; simp_all
  obtain ⟨rfl, rfl⟩ := trodVars_none hV
  obtain ⟨a0, rfl, rfl, rfl, w0⟩ := open_string Try.underlying9 (hval 0 9 v0 rfl rfl) h0
  have k1 := h1
  have lt1 : ∀ x ∈ p1, x.block < W.heap.size := by obtain ⟨m, hm⟩ := k1; exact DataW.trod_lt m _ _ _ hm
  obtain ⟨c0, c1, c2, y0, y1, y2, m, rfl, hd1, hp1, e0, e1, e2⟩ := Go.Joins.open_agg3 Try.underlying32 (by kernel_rfl) (by kernel_rfl) (hval 1 32 v1 rfl rfl) h1
  obtain ⟨a, ha, _, wa⟩ := DataW.trod_int Try.underlying3 e0
  obtain ⟨d, hd, _, wd⟩ := DataW.trod_int Try.underlying3 e1
  obtain ⟨ins, hi, _, wi⟩ := DataW.trod_string Try.underlying9 e2
  obtain rfl : c0 = .int .i64 a := by simpa using ha
  obtain rfl : c1 = .int .i64 d := by simpa using hd
  obtain rfl : c2 = .string ins := by simpa using hi
  clear hA0 hval0
  simp only [List.append_nil] at hW'
  refine (walk a0 a d ins W).mono fun e W' ⟨he, bel⟩ => ?_
  subst he
  exact ⟨_, rfl, _, _, _, [], _, [], hW', trodAll_mk1 (shut_bool Try.underlying4 _), trodAll_cons_mk (shut_string Try.underlying9 w0) (trodAll_cons_mk (Below.trod laidOut (by kernel_rfl) (of_decide_eq_true (by kernel_rfl)) k1 bel lt1) trodAll_mk0), rfl, bel.frame _, fun h => by cases h⟩

theorem over : Rows.ropeReplaceRow.holds Try.pinned (OpenSpec.ofChange Rows.ropeReplaceSpec) :=
  OpenClaim.holds_of_wide 5 Try.f5 rfl rfl rfl rfl rfl rfl rfl ⟨rfl, rfl, rfl, rfl, rfl⟩ rfl rfl rfl rfl rfl (by kernel_rfl) Try.func5 (by kernel_rfl)
    (of_decide_eq_true (by kernel_rfl)) (by unfold Func.isWrapper; first | (rw [if_pos (by decide +kernel)]; kernel_rfl) | (rw [if_neg (by decide +kernel)]; exact ⟨rfl, rfl⟩))
    (fun os started H enc _ => lifted os started H enc)

/-- ████ THE STATEMENT ████ -/
theorem proved : Rows.RopeReplaceSaid :=
  over
#print axioms proved
end Go.Proofs.Ytaafnodabjbakaa.ropeReplace
