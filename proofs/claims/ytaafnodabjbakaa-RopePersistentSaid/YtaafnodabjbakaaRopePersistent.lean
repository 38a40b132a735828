/-
  RopePersistent, for every input: the law returns true and leaves its arguments as they read. No condition.
-/
import Derived.Test.YtaafnodabjbakaaRows
import Derived.Test.YtaafnodabjbakaaZ
import Derived.WalkKit
import Derived.ProofKit
import Derived.OpenShut
import Derived.ShutString
import Derived.ChangeOld
import Derived.Below
import Derived.Lib.SmallJoins
namespace Go.Proofs.Ytaafnodabjbakaa.ropePersistent
open Go.ChangeShapes Go.WideShapes Go.ChangeAt Go.RowKit
open Go.ChangeMaps (open_string shut_string)
set_option linter.unusedVariables false      -- a walk need not use every 'w<i>' (that an integer argument fits its kind)

theorem own : ownKnob Try.prog.godebug = none := by kernel_rfl
theorem laidOut : laidOutB Try.prog = true := by kernel_rfl

theorem restore (l m : List UInt8) (i j : Nat) (h : i + j ≤ l.length) : (l.take i ++ m ++ l.drop (i + j)).take i ++ (l.drop i).take j ++ (l.take i ++ m ++ l.drop (i + j)).drop (i + m.length) = l := by
  have e : (l.take i).length = i := by rw [List.length_take]; omega
  have e2 : (l.take i ++ m).length = i + m.length := by rw [List.length_append, e]
  rw [List.drop_left' e2, List.append_assoc (l.take i) m, List.take_left' e, List.append_assoc, ← List.drop_drop, List.take_append_drop, List.take_append_drop]

set_option maxRecDepth 100000 in
set_option maxHeartbeats 4000000 in
theorem walk (a0 : ByteArray) (a d : Int) (ins : ByteArray) (w : World) :
    Calls Try.prog 8 #[.string a0, .agg #[.int .i64 a, .int .i64 d, .string ins]] w fun e w' => e = .returned (.bool true) ∧ Below w.heap.size w w' := by
  obtain ⟨W, hW⟩ : ∃ W, W = w.alloc (.cells #[.int .i64 a, .int .i64 d, .string ins] 32) := ⟨_, rfl⟩
  have bW : Below w.heap.size w W := by rw [hW]; exact (Below.refl _ _).alloc (Nat.le_refl _) _
  have hbx : W.heap[w.heap.size]? = some (.cells #[.int .i64 a, .int .i64 d, .string ins] 32 (0, 0)) := by rw [hW]; exact alloc_new _ _
  have Keep := hid (show ∀ W', Below W.heap.size W W' → W'.cell? ⟨w.heap.size, 0, none⟩ = some (.int .i64 a) ∧ W'.cell? ⟨w.heap.size, 1, none⟩ = some (.int .i64 d) ∧ W'.cell? ⟨w.heap.size, 2, none⟩ = some (.string ins) from fun W' hb => by
    have e0 := hb.block w.heap.size (heap_lt hbx)
    refine ⟨?_, ?_, ?_⟩
    · show World.cell? W' ⟨w.heap.size, 0, none⟩ = _; unfold World.cell?; rw [e0, hbx]; rfl
    · show World.cell? W' ⟨w.heap.size, 1, none⟩ = _; unfold World.cell?; rw [e0, hbx]; rfl
    · show World.cell? W' ⟨w.heap.size, 2, none⟩ = _; unfold World.cell?; rw [e0, hbx]; rfl)
  obtain ⟨k0, k1, k2⟩ := Keep.out _ (Below.refl _ W)
  have HW := hid hW
  have hle := bW.size
  clear hbx hW
  by_cases h : 1000 < a0.size
  · have h' : (1000 : Int) < (a0.size : Int) := by omega
    go_enter Try.func8, Try.ntmps8
    go_wp2_with fail
    rw [← HW.out]
    refine (awake_any W).mono ?_
    rintro e w1 ⟨rfl, hb1⟩
    go_wp2
    go_ret
    exact ⟨rfl, bW.trans (hb1.mono hle)⟩
  · have h' : (a0.size : Int) ≤ 1000 := by omega
    by_cases g : 1000 < ins.size
    · have g' : (1000 : Int) < (ins.size : Int) := by omega
      go_enter Try.func8, Try.ntmps8
      go_wp2_with fail
      rw [← HW.out]
      refine (awake_any W).mono ?_
      rintro e w1 ⟨rfl, hb1⟩
      go_wp2
      go_ret
      exact ⟨rfl, bW.trans (hb1.mono hle)⟩
    · have g' : (ins.size : Int) ≤ 1000 := by omega
      by_cases hx : a < 0 ∨ (0 ≤ a ∧ d < 0) ∨ (0 ≤ a ∧ 0 ≤ d ∧ (a0.size : Int) < a) ∨ (0 ≤ a ∧ 0 ≤ d ∧ a ≤ (a0.size : Int) ∧ (a0.size : Int) - a < d)
      · have HX := hid hx
        clear hx
        go_enter Try.func8, Try.ntmps8
        go_wp2_with fail
        rw [← HW.out]
        refine (Fits_no a0.size a d ins W (by omega) HX.out).mono ?_
        rintro e w1 ⟨rfl, hb1⟩
        go_wp2_with fail
        refine (awake_any w1).mono ?_
        rintro e w2 ⟨rfl, hb2'⟩
        have hb2 := hb1.trans (hb2'.mono hb1.size)
        go_wp2
        go_ret
        exact ⟨rfl, bW.trans (hb2.mono hle)⟩
      · obtain ⟨i, rfl⟩ : ∃ i : Nat, a = i := ⟨a.toNat, by omega⟩
        obtain ⟨j, rfl⟩ : ∃ j : Nat, d = j := ⟨d.toNat, by omega⟩
        have x1 : (0 : Int) ≤ (i : Int) := by omega
        have x2 : (0 : Int) ≤ (j : Int) := by omega
        have x3 : (i : Int) ≤ (a0.size : Int) := by omega
        have x4 : (j : Int) ≤ (a0.size : Int) - (i : Int) := by omega
        have x5 : (i : Int) + (j : Int) ≤ (a0.size : Int) := by omega
        have x6 : (i : Int) ≤ (i : Int) + (j : Int) := by omega
        have e4 : IntKind.i64.wrap (↑i + ↑j) = (i : Int) + (j : Int) := wrapIn (by omega) (by omega)
        clear hx
        go_enter Try.func8, Try.ntmps8
        go_wp2_with fail
        rw [← HW.out]
        refine (Fits_any a0.size i j ins W (by omega) x1 x2 x3 x4).mono ?_
        rintro e w1 ⟨rfl, hb1⟩
        obtain ⟨k0, k1, k2⟩ := Keep.out _ hb1
        go_wp2_with fail
        refine (New_any a0 w1 (by omega)).mono ?_
        rintro e w2 ⟨p, rfl, hp, hb2'⟩
        have hb2 := hb1.trans (hb2'.mono hb1.size)
        obtain ⟨k0, k1, k2⟩ := Keep.out _ hb2
        obtain ⟨U, hU⟩ : ∃ U, U = w2.alloc (.cells #[.pointer p] 26) := ⟨_, rfl⟩
        have HU := hid hU
        have bU : Below w2.heap.size w2 U := by rw [hU]; exact (Below.refl _ _).alloc (Nat.le_refl _) _
        have hux : U.heap[w2.heap.size]? = some (.cells #[.pointer p] 26 (0, 0)) := by rw [hU]; exact alloc_new _ _
        have hbU := hb2.trans (bU.mono hb2.size)
        have KU := hid (show ∀ W', Below U.heap.size U W' → W'.cell? ⟨w2.heap.size, 0, none⟩ = some (.pointer p) ∧ W'.cell? ⟨w.heap.size, 0, none⟩ = some (.int .i64 i) ∧ W'.cell? ⟨w.heap.size, 1, none⟩ = some (.int .i64 j) ∧ W'.cell? ⟨w.heap.size, 2, none⟩ = some (.string ins) from fun W' hb =>
          ⟨cell_of_one ((hb.block _ (heap_lt hux)).trans hux), Keep.out _ (hbU.trans (hb.mono hbU.size))⟩)
        obtain ⟨q, k0, k1, k2⟩ := KU.out _ (Below.refl _ U)
        have hpU := hp.below bU
        have KK := KU.out _ (Below.refl _ U)
        rw [hU] at KK
        obtain ⟨q', k0', k1', k2'⟩ := KK
        clear hU hux bU hb2' hb2 hb1 hp
        go_wp2_with fail
        rw [← HU.out]
        refine (Replace_ok p a0.data.toList U hpU i j ins (by simp; omega) (by simp; omega) (by omega)).mono ?_
        rintro e w3 ⟨r, rfl, hr, hb3⟩
        obtain ⟨q, k0, k1, k2⟩ := KU.out _ hb3
        obtain ⟨V, hV⟩ : ∃ V, V = w3.alloc (.cells #[.pointer r] 26) := ⟨_, rfl⟩
        have HV := hid hV
        have bV : Below w3.heap.size w3 V := by rw [hV]; exact (Below.refl _ _).alloc (Nat.le_refl _) _
        have hvx : V.heap[w3.heap.size]? = some (.cells #[.pointer r] 26 (0, 0)) := by rw [hV]; exact alloc_new _ _
        have hbV := hb3.trans (bV.mono hb3.size)
        have KV := hid (show ∀ W', Below V.heap.size V W' → W'.cell? ⟨w3.heap.size, 0, none⟩ = some (.pointer r) ∧ W'.cell? ⟨w2.heap.size, 0, none⟩ = some (.pointer p) ∧ W'.cell? ⟨w.heap.size, 0, none⟩ = some (.int .i64 i) ∧ W'.cell? ⟨w.heap.size, 1, none⟩ = some (.int .i64 j) ∧ W'.cell? ⟨w.heap.size, 2, none⟩ = some (.string ins) from fun W' hb =>
          ⟨cell_of_one ((hb.block _ (heap_lt hvx)).trans hvx), KU.out _ (hbV.trans (hb.mono hbV.size))⟩)
        have hpV := hpU.below hbV
        have hrV := hr.below bV
        have hbWV := hbU.trans (hbV.mono hbU.size)
        have z1 : ((a0.data.toList.take i ++ ins.data.toList ++ a0.data.toList.drop (i + j))).length = a0.size - j + ins.size := by
          simp only [List.length_append, List.length_take, List.length_drop, Array.length_toList, ByteArray.size_data]; omega
        have z2 : (a0.extract i (i + j)).size = j := by rw [ByteArray.size_extract]; omega
        have HR := hid (show ∀ X, Below V.heap.size V X → Calls Try.prog 15 #[.agg #[.pointer r], .agg #[.int .i64 i, .int .i64 ins.size, .string (a0.extract i ((i : Int) + (j : Int)).toNat)]] X fun e w' => ∃ r2 : Option Addr, e = .returned (.tuple #[.agg #[.pointer r2], .int .i64 0]) ∧ Rope w' r2 a0.data.toList ∧ Below X.heap.size X w' from fun X hX => by
          rw [show ((i : Int) + (j : Int)).toNat = i + j by omega]
          refine (Replace_ok r _ X (hrV.below hX) i ins.size _ (by rw [z1]; omega) (by rw [z1]; omega) (by rw [z2]; omega)).mono ?_
          rintro e w' ⟨r2, rfl, hr2, hb⟩
          refine ⟨r2, rfl, ?_, hb⟩
          have key := restore a0.data.toList ins.data.toList i j (by simp; omega)
          rw [extract_toList, Nat.add_sub_cancel_left] at hr2
          rw [show ins.data.toList.length = ins.size by simp] at key
          rw [key] at hr2
          exact hr2)
        have QQ := KV.out _ (Below.refl _ V)
        have K5 := hid QQ
        rw [hV] at QQ
        obtain ⟨q5, q4, q0, q1, q2⟩ := QQ
        clear hV hvx bV z1 z2 hr hpU q k0 k1 k2 q' k0' k1' k2'
        go_upto_region 5 with fail
        rw [← HV.out]
        clear q5 q4 q0 q1 q2
        obtain ⟨q5, q4, q0, q1, q2⟩ := K5.out
        go_cut [8, 9] from 35 to 54 (fun s8 s9 wx => ∃ (B : Nat) (r2 : Option Addr), s8 = .pointer (some ⟨B, 0, none⟩) ∧ s9 = .int .i64 0 ∧ wx.heap[B]? = some (.cells #[.pointer r2] 26 (0, 0)) ∧ Rope wx r2 a0.data.toList ∧ Below V.heap.size V wx)
        case first =>
          go_region_held3 (fun W' => W'.cell? ⟨w3.heap.size, 0, none⟩ = some (.pointer r) ∧ W'.cell? ⟨w.heap.size, 0, none⟩ = some (.int .i64 i) ∧ W'.cell? ⟨w.heap.size, 1, none⟩ = some (.int .i64 j) ∧ W'.cell? ⟨w.heap.size, 2, none⟩ = some (.string ins))
            (first
              | exact ⟨q5, q0, q1, q2⟩
              | exact ⟨(KV.out _ g1).1, (KV.out _ g1).2.2⟩
              | exact ⟨(KV.out _ (g1.alloc g1.size _)).1, (KV.out _ (g1.alloc g1.size _)).2.2⟩
              | exact ⟨(KV.out _ (g1.setCell (Nat.le_refl _) _)).1, (KV.out _ (g1.setCell (Nat.le_refl _) _)).2.2⟩
              | exact ⟨(KV.out _ ((Below.refl _ _).alloc (Nat.le_refl _) _)).1, (KV.out _ ((Below.refl _ _).alloc (Nat.le_refl _) _)).2.2⟩
              | exact ⟨(KV.out _ ((Below.refl _ _).alloc (Nat.le_refl _) _).drew).1, (KV.out _ ((Below.refl _ _).alloc (Nat.le_refl _) _).drew).2.2⟩)
            (first
              | (go_at_call 15; (with_reducible refine (HR.out V.drew (Below.refl _ _).drew).mono ?_); rintro e y1 ⟨r2, rfl, s1, g1'⟩; have g1 := undrew g1')
              | (go_at_call 15; refine (HR.out (V.alloc _).drew ((Below.refl _ _).alloc (Nat.le_refl _) _).drew).mono ?_; rintro e y1 ⟨r2, rfl, s1, g1'⟩; have x2 := box_after V _ _ (undrew g1'); have c0 := cell_of_one x2; have c1 := free_of_one x2; have g1 := ((Below.refl V.heap.size V).alloc (Nat.le_refl _) _).trans ((undrew g1').mono (by simp))))
          all_goals (go_wp2_with fail; go_meet)
          · exact ⟨_, _, rfl, rfl, alloc_new _ _, s1.below ((Below.refl _ _).alloc (Nat.le_refl _) _), g1.alloc g1.size _⟩
          · exact ⟨_, _, rfl, rfl, setCell_box x2, s1.setBox x2, g1.setCell (Nat.le_refl _) _⟩
        case rest =>
          obtain ⟨B, r2, rfl, rfl, hB, hr2, hb4⟩ := hcut
          have KB := hid (show ∀ W', Below wc.heap.size wc W' → W'.cell? ⟨B, 0, none⟩ = some (.pointer r2) ∧ W'.cell? ⟨w2.heap.size, 0, none⟩ = some (.pointer p) from fun W' hb =>
            ⟨cell_of_one ((hb.block _ (heap_lt hB)).trans hB), (KV.out _ (hb4.trans (hb.mono hb4.size))).2.1⟩)
          have hpc := hpV.below hb4
          have hbe := hbWV.trans (hb4.mono hbWV.size)
          clear hB q5 q4 q0 q1 q2
          go_wp2_with fail
          refine (awake_any wc).mono ?_
          rintro e y1 ⟨rfl, g1⟩
          obtain ⟨v0, v1⟩ := KB.out _ g1
          go_wp2_with fail
          refine (String_s p a0 y1 (hpc.below g1) (by omega)).mono ?_
          rintro e y2 ⟨rfl, g2'⟩
          have g2 := g1.trans (g2'.mono g1.size)
          obtain ⟨v0, v1⟩ := KB.out _ g2
          go_wp2_with fail
          refine (String_s r2 a0 y2 (hr2.below g2) (by omega)).mono ?_
          rintro e y3 ⟨rfl, g3'⟩
          have g3 := g2.trans (g3'.mono g2.size)
          obtain ⟨v0, v1⟩ := KB.out _ g3
          go_wp2_with fail
          refine (holds_ok r2 a0 y3 (hr2.below g3) (by omega)).mono ?_
          rintro e y4 ⟨rfl, g4'⟩
          have g4 := g3.trans (g4'.mono g3.size)
          go_wp2
          go_ret
          exact ⟨rfl, bW.trans ((hbe.trans (g4.mono hbe.size)).mono hle)⟩

/-! ### THE ROW's STEP: WRITTEN OUT: LEAVE IT -/
set_option maxRecDepth 100000 in
theorem lifted (os : Os) (started : os.Started) (H : Type) (enc : TypeId × Value → H) :
    ReturnsInHanded {} Try.checked os 8 .any (Rows.ropePersistentSpec.pre6 enc Try.prog Try.f8 Rows.ropePersistentRow.domain false) (Rows.ropePersistentSpec.post enc Try.prog Try.f8 false true false false) := by
  refine returnsInHanded_of_change (C := Try.checked) own started (by kernel_rfl) Try.func8
    (ChangeSpec.witness6 (enc := enc) (C := Try.checked) false ⟨#[], #[.string ByteArray.empty, .agg #[.int .i64 0, .int .i64 0, .string ByteArray.empty]], []⟩ 8 (by kernel_rfl) (by kernel_rfl) (by kernel_rfl) (by kernel_rfl)) ?_
  intro W base args ds gs before hval0 hW hcnd _
  have hval : ∀ (j : Nat) t v, Try.f8.params[j]? = some t → args[j]? = some v → Value.okWide Try.prog W .any base t v := hval0
  have hW' := hW
  obtain ⟨p, q, hA0, hV, rfl, hfz, hnd⟩ := hW
  have hA : DataW.TrodAll enc Try.prog W 0 (fun _ => true) true Try.f8.params.toList args.toList ds p := hA0
  rw [Try.params8] at hA hval
  obtain ⟨v0, vs0, d0, ds0, p0, q0, hargs, rfl, rfl, h0, r0⟩ := trodAll_cons hA
  obtain ⟨v1, vs1, d1, ds1, p1, q1, rfl, rfl, rfl, h1, r1⟩ := trodAll_cons r0
  obtain ⟨rfl, rfl, rfl⟩ := trodAll_nil r1
  obtain rfl : args = #[v0, v1] := by cases args; simp_all
  obtain ⟨rfl, rfl⟩ := trodVars_none hV
  obtain ⟨a0, rfl, rfl, rfl, w0⟩ := open_string Try.underlying9 (hval 0 9 v0 rfl rfl) h0
  have k1 := h1
  have lt1 : ∀ x ∈ p1, x.block < W.heap.size := by obtain ⟨m, hm⟩ := k1; exact DataW.trod_lt m _ _ _ hm
  obtain ⟨c0, c1, c2, y0, y1, y2, m, rfl, hd1, hp1, e0, e1, e2⟩ := Go.Joins.open_agg3 Try.underlying32 (by kernel_rfl) (by kernel_rfl) (hval 1 32 v1 rfl rfl) h1
  obtain ⟨a, ha, _, wa⟩ := DataW.trod_int Try.underlying3 e0
  obtain ⟨d, hd, _, wd⟩ := DataW.trod_int Try.underlying3 e1
  obtain ⟨ins, hi, _, wi⟩ := DataW.trod_string Try.underlying9 e2
  obtain rfl : c0 = .int .i64 a := by simpa using ha
  obtain rfl : c1 = .int .i64 d := by simpa using hd
  obtain rfl : c2 = .string ins := by simpa using hi
  clear hA0 hval0
  simp only [List.append_nil] at hW'
  refine (walk a0 a d ins W).mono fun e W' ⟨he, bel⟩ => ?_
  subst he
  exact ⟨_, rfl, _, _, _, [], _, [], hW', trodAll_mk1 (shut_bool Try.underlying4 _), trodAll_cons_mk (shut_string Try.underlying9 w0) (trodAll_cons_mk (Below.trod laidOut (by kernel_rfl) (of_decide_eq_true (by kernel_rfl)) k1 bel lt1) trodAll_mk0), rfl, bel.frame _, fun h => by cases h⟩

theorem over : Rows.ropePersistentRow.holds Try.pinned (OpenSpec.ofChange Rows.ropePersistentSpec) :=
  OpenClaim.holds_of_wide 8 Try.f8 rfl rfl rfl rfl rfl rfl rfl ⟨rfl, rfl, rfl, rfl, rfl⟩ rfl rfl rfl rfl rfl (by kernel_rfl) Try.func8 (by kernel_rfl)
    (of_decide_eq_true (by kernel_rfl)) (by unfold Func.isWrapper; first | (rw [if_pos (by decide +kernel)]; kernel_rfl) | (rw [if_neg (by decide +kernel)]; exact ⟨rfl, rfl⟩))
    (fun os started H enc _ => lifted os started H enc)

/-- ████ THE STATEMENT ████ -/
theorem proved : Rows.RopePersistentSaid :=
  over
#print axioms proved
end Go.Proofs.Ytaafnodabjbakaa.ropePersistent
