/-
  RegexDeriveAll, for every input: the law returns true and leaves its arguments as they read. No condition beside the listed variable's own text (the card ties it).
-/
import Derived.Test.YtednoideboeehaaDoorZ05
import Derived.Test.YtednoideboeehaaDoorZ22
import Derived.Test.YtednoideboeehaaDoorZ24
set_option linter.unusedSimpArgs false
set_option linter.unusedVariables false
namespace Go.Proofs.YtednoideboeehaaDoor.regexDeriveAll
open Go.ChangeShapes Go.WideShapes Go.ChangeAt Go.RowKit Go.Frame
open Go.ChangeMaps (open_string shut_string)
open Bs Rg
attribute [local irreducible] ws
attribute [local go_sem] eq_zero eq_set
theorem rc_apart {g : Nat → Prop} {W : World} {D : Nat} (r : Rx) {cs : List Value} (h : RC g W r cs) (hg : ∀ b, g b → b ≠ D) : RC (fun b => b ≠ D) W r cs := RC.keep (Nat.le_refl _) (fun _ _ _ => rfl) hg r h
theorem rc_past {W W' : World} {D : Nat} {r : Rx} {cs : List Value} (h : RC (fun b => b ≠ D) W r cs) (hs : W.heap.size ≤ W'.heap.size) (hk : ∀ b, b ≠ D → b < W.heap.size → W'.heap[b]? = W.heap[b]?) : RC (fun b => b ≠ D) W' r cs := RC.keep hs hk (fun _ h => h) r h
set_option maxRecDepth 100000 in
set_option maxHeartbeats 4000000 in
theorem walk (q0 : Rx) (cs0 : List Value) (t1 : ByteArray) (w : World) (hq0 : RC (fun _ => True) w q0 cs0) (hT : Tb w) :
    Calls Tryd.prog 9 #[.agg cs0.toArray, .string t1] w fun e w' => e = .returned (.bool true) ∧ Below w.heap.size w w' := by
  obtain ⟨k, s, l⟩ := q0
  obtain ⟨a, n, c, rfl, hK⟩ := RC_mk.1 hq0
  have hR := fun V (hV : Below w.heap.size w V) => RC_mk.2 (⟨a, n, c, rfl, hK.below hV⟩ : ∃ a' n' c', rcs k s (.slice a n c) = rcs k s (.slice a' n' c') ∧ Kd (fun _ => True) V a' n' l)
  have HR := hid hR
  have CS := hid (fun V (hV : Below w.heap.size w V) => small_any _ (.mk k s l) 20 V _ (by decide) (hR V hV))
  have CA := hid (fun V (hV : Below w.heap.size w V) => awake_any V (hT.below hV))
  obtain ⟨y, hy⟩ : ∃ y, y = small (.mk k s l) ((20 : Nat) : Int) := ⟨_, rfl⟩
  rw [← hy] at CS
  have x0 := hid (alloc_new w (.cells #[.int .i64 k, .int .u64 (ws s 0 : Int), .int .u64 (ws s 1 : Int), .int .u64 (ws s 2 : Int), .int .u64 (ws s 3 : Int), .slice a n c] 27))
  have B0 := hid (bel1 w (.cells #[.int .i64 k, .int .u64 (ws s 0 : Int), .int .u64 (ws s 1 : Int), .int .u64 (ws s 2 : Int), .int .u64 (ws s 3 : Int), .slice a n c] 27))
  have HY := hid hy
  clear hR hK hq0 hT hy
  show Calls Tryd.prog 9 #[.agg #[.int .i64 k, .int .u64 (ws s 0 : Int), .int .u64 (ws s 1 : Int), .int .u64 (ws s 2 : Int), .int .u64 (ws s 3 : Int), .slice a n c], .string t1] w _
  go_enter Tryd.func9, Tryd.ntmps9
  go_wp2_with fail
  refine (CS.out _ B0.out).mono ?_
  rintro e W ⟨rfl, b1⟩
  have X := hid ((b1.block _ (heap_lt x0.out)).trans x0.out)
  have Z1 := hid (B0.out.trans (b1.mono B0.out.size))
  clear b1
  cases y
  · skip
    go_wp2_with fail
    refine (CA.out _ Z1.out).mono ?_
    rintro e W9 ⟨rfl, b9⟩
    go_wp2
    go_ret
    exact ⟨rfl, Z1.out.trans (b9.mono Z1.out.size)⟩
  have HS := hid (small_of (r := .mk k s l) (most := 20) HY.out.symm)
  by_cases h12 : (6 : Int) < (t1.size : Int)
  · skip
    go_wp2_with fail
    refine (CA.out _ Z1.out).mono ?_
    rintro e W9 ⟨rfl, b9⟩
    go_wp2
    go_ret
    exact ⟨rfl, Z1.out.trans (b9.mono Z1.out.size)⟩
  have HL := hid (show t1.size ≤ 6 by omega)
  have HI := hid (show ∀ d, Dv (.mk k s l) d → Vd d ∧ fits d 32 = true ∧ parts d ≤ 99999 from fun d hd => by
    have h := hd.fine HS.out.2.1
    have h8 := HS.out.2.2
    have hp := HS.out.1
    have h1 : parts (.mk k s l) * parts (.mk k s l) ≤ 21 * 21 := Nat.mul_le_mul hp hp
    have h2 : parts (.mk k s l) * (parts (.mk k s l) * parts (.mk k s l) + 1) ≤ 21 * (21 * 21 + 1) := Nat.mul_le_mul hp (by omega)
    exact ⟨h.1, (fits_depth h.1).2 (by omega), by omega⟩)
  obtain ⟨p0, p1, p2, p3, p4, p5⟩ := cells6 X.out
  go_wp2_with fail
  clear p0 p1 p2 p3 p4 p5
  obtain ⟨U, hU⟩ : ∃ U, U = W.alloc (.cells #[.int .i64 k, .int .u64 (ws s 0 : Int), .int .u64 (ws s 1 : Int), .int .u64 (ws s 2 : Int), .int .u64 (ws s 3 : Int), .slice a n c] 27) := ⟨_, rfl⟩
  have HU := hid (show U.heap[W.heap.size]? = some (.cells #[.int .i64 k, .int .u64 (ws s 0 : Int), .int .u64 (ws s 1 : Int), .int .u64 (ws s 2 : Int), .int .u64 (ws s 3 : Int), .slice a n c] 27 (0, 0)) ∧ RC (fun b => b ≠ W.heap.size) U (.mk k s l) (rcs k s (.slice a n c)) ∧ U.heap[w.heap.size]? = some (.cells #[.int .i64 k, .int .u64 (ws s 0 : Int), .int .u64 (ws s 1 : Int), .int .u64 (ws s 2 : Int), .int .u64 (ws s 3 : Int), .slice a n c] 27 (0, 0)) ∧ Below w.heap.size w U from by
    have h1 : Below W.heap.size W U := by rw [hU]; exact bel1 _ _
    refine ⟨by rw [hU]; exact alloc_new _ _, ?_, (h1.block _ (heap_lt X.out)).trans X.out, Z1.out.trans (h1.mono Z1.out.size)⟩
    exact rc_apart _ ((RC.within _ (HR.out W Z1.out)).below h1) fun b hb => Nat.ne_of_lt hb)
  rw [← hU]
  clear hU
  go_loopg [6] t1.size (fun kk s6 wr => ∃ (i : Nat) (K : Int) (S' : BS) (l' : List Rx) (a' : Option Addr) (n' c' : Nat), s6 = .int .i64 (i : Int) ∧ i + kk = t1.size ∧ wr.heap[W.heap.size]? = some (.cells #[.int .i64 K, .int .u64 (ws S' 0 : Int), .int .u64 (ws S' 1 : Int), .int .u64 (ws S' 2 : Int), .int .u64 (ws S' 3 : Int), .slice a' n' c'] 27 (0, 0)) ∧ RC (fun b => b ≠ W.heap.size) wr (.mk K S' l') (rcs K S' (.slice a' n' c')) ∧ wr.heap[w.heap.size]? = some (.cells #[.int .i64 k, .int .u64 (ws s 0 : Int), .int .u64 (ws s 1 : Int), .int .u64 (ws s 2 : Int), .int .u64 (ws s 3 : Int), .slice a n c] 27 (0, 0)) ∧ Below w.heap.size w wr ∧ Dv (.mk k s l) (.mk K S' l') ∧ mtc (.mk K S' l') (t1.data.toList.drop i) = mtc (.mk k s l) t1.data.toList)
  case atStart => exact ⟨0, k, s, l, a, n, c, rfl, by omega, HU.out.1, HU.out.2.1, HU.out.2.2.1, HU.out.2.2.2, .inl rfl, rfl⟩
  case round =>
    obtain ⟨i, K, S', l', a', n', c', rfl, hk, hbx, hrc, hrb, hbw, hdv, hm⟩ := hrel
    by_cases hlt : i < t1.size
    · have hlt' : (i : Int) < (t1.size : Int) := by omega
      have hf := HI.out _ hdv
      have CD := hid (fun V (hV : Below wr.heap.size wr V) => show Calls Tryd.prog 26 #[.agg #[.int .i64 K, .int .u64 (ws S' 0 : Int), .int .u64 (ws S' 1 : Int), .int .u64 (ws S' 2 : Int), .int .u64 (ws S' 3 : Int), .slice a' n' c'], .int .u8 (t1[i].toNat : Int)] V fun e w' => DR t1[i] (.mk K S' l') V e w' ∧ Below V.heap.size V w' from (Derive_any _ (.mk K S' l') t1[i] V _ hf.2.1 hf.2.2 (hrc.below hV)).mono (fun e w' h => ⟨DR.of h.1, h.2⟩))
      have HG := hid (And.intro hbx (And.intro hrb (And.intro hbw (And.intro hdv (And.intro hm (And.intro hf.1 hlt))))))
      have lA := heap_lt hbx
      clear hrc hrb hbw hdv hm hf
      go_wp2_with fail
      refine (wpIn_wide (n := 0)).1 (wpIn_region_below_tail 4 free_wide (by kernel_rfl) (by kernel_rfl) (by kernel_rfl) ?_)
      intro X' f _ hf hs
      have k0 := fun x => (cells6 (((hf.out x).block _ lA).trans hbx)).1
      have k1 := fun x => (cells6 (((hf.out x).block _ lA).trans hbx)).2.1
      have k2 := fun x => (cells6 (((hf.out x).block _ lA).trans hbx)).2.2.1
      have k3 := fun x => (cells6 (((hf.out x).block _ lA).trans hbx)).2.2.2.1
      have k4 := fun x => (cells6 (((hf.out x).block _ lA).trans hbx)).2.2.2.2.1
      have k5 := fun x => (cells6 (((hf.out x).block _ lA).trans hbx)).2.2.2.2.2
      simp only [List.take_succ_cons, List.take_zero, List.drop_succ_cons, List.drop_zero]
      repeat (go_big_quiet_step (first | fail))
      refine wpQuiet_nil ?_
      intro Y hY
      have HY2 := hid hY
      have CK := CD.out Y hY
      clear hY k0 k1 k2 k3 k4 k5 hf hs hbx lA CD
      gi_wp2
      refine ⟨trivial, rfl, callsIn_wide.2 (CK.mono ?_)⟩
      rintro e V ⟨⟨K2, S2, a2, n2, c2, l2, rfl, hd2, hk2⟩, b2⟩
      have hV2 := HY2.out.trans (b2.mono HY2.out.size)
      have hbV := (hV2.block _ (heap_lt HG.out.1)).trans HG.out.1
      have HV := hid (And.intro hbV (And.intro hd2 (And.intro hk2 (And.intro hV2 HY2.out))))
      obtain ⟨q0, q1, q2, q3, q4, q5⟩ := cells6 hbV
      have f0 := Go.Frame.free hbV 0
      have f1 := Go.Frame.free hbV 1
      have f2 := Go.Frame.free hbV 2
      have f3 := Go.Frame.free hbV 3
      have f4 := Go.Frame.free hbV 4
      have f5 := Go.Frame.free hbV 5
      clear hd2 hk2 b2 hV2 hbV CK
      gi_wp2
      go_wp2
      go_roundg (gk - 1)
      case measure => omega
      case rel =>
        obtain ⟨g1, g2, g3, g4, g5, g6, g7⟩ := HG.out
        obtain ⟨v1, v2, v3, v4, v5⟩ := HV.out
        have hne : w.heap.size ≠ W.heap.size := by have := heap_lt X.out; omega
        have far : ∀ b, b ≠ W.heap.size → ∀ (x0 x1 x2 x3 x4 x5 : Value), ((((((V.setCell ⟨W.heap.size, 0, none⟩ x0).setCell ⟨W.heap.size, 1, none⟩ x1).setCell ⟨W.heap.size, 2, none⟩ x2).setCell ⟨W.heap.size, 3, none⟩ x3).setCell ⟨W.heap.size, 4, none⟩ x4).setCell ⟨W.heap.size, 5, none⟩ x5).heap[b]? = V.heap[b]? := fun b hb x0 x1 x2 x3 x4 x5 => by
          rw [heap_setCell_other _ _ _ _ hb, heap_setCell_other _ _ _ _ hb, heap_setCell_other _ _ _ _ hb, heap_setCell_other _ _ _ _ hb, heap_setCell_other _ _ _ _ hb, heap_setCell_other _ _ _ _ hb]
        refine ⟨i + 1, K2, S2, l2, a2, n2, c2, by go_num, by omega, six_set v1, ?_, ?_, ?_, g4.step v2, ?_⟩
        · refine rc_past (rc_apart (D := W.heap.size) _ v3 fun b hb => ?_) (by simp) fun b hb _ => far b hb _ _ _ _ _ _
          have := v5.size; have := heap_lt g1; have : Y.heap.size ≤ b := hb; omega
        · exact (far _ hne _ _ _ _ _ _).trans ((v4.block _ (heap_lt g2)).trans g2)
        · have hge : w.heap.size ≤ W.heap.size := Z1.out.size
          exact below_put (below_put (below_put (below_put (below_put (below_put (g3.trans (v4.mono g3.size)) hge) hge) hge) hge) hge) hge
        · rw [der_mtc v2 g6, ← g5]
          congr 1
          exact (List.drop_eq_getElem_cons (show i < t1.data.toList.length from g7)).symm
    · have hin : ¬ (i : Int) < (t1.size : Int) := by omega
      obtain ⟨z, hz⟩ : ∃ z, z = mtc (.mk k s l) t1.data.toList := ⟨_, rfl⟩
      have hnul : nul (.mk K S' l') = z := by
        rw [hz, ← hm, List.drop_eq_nil_of_le (by show t1.size ≤ i; omega)]; rfl
      have hf := HI.out _ hdv
      have DN := hid (fun V (hV : Below wr.heap.size wr V) => show Calls Tryd.prog 25 #[.agg #[.int .i64 K, .int .u64 (ws S' 0 : Int), .int .u64 (ws S' 1 : Int), .int .u64 (ws S' 2 : Int), .int .u64 (ws S' 3 : Int), .slice a' n' c']] V fun e w' => e = .returned (.bool z) ∧ Below V.heap.size V w' from (by have := Nullable_any _ (.mk K S' l') V _ (hrc.below hV) hf.2.1; rw [hnul] at this; exact this))
      have DR := hid (fun V (hV : Below wr.heap.size wr V) => show Calls Tryd.prog 24 #[.agg #[.int .i64 k, .int .u64 (ws s 0 : Int), .int .u64 (ws s 1 : Int), .int .u64 (ws s 2 : Int), .int .u64 (ws s 3 : Int), .slice a n c], .string t1] V fun e w' => e = .returned (.bool z) ∧ Below V.heap.size V w' from (by have := rMatch_any _ (.mk k s l) t1 V _ HS.out.2.1 (by have := HL.out; omega) (HR.out _ (hbw.trans (hV.mono hbw.size))); rw [← hz] at this; exact this))
      have DA := hid (fun V (hV : Below wr.heap.size wr V) => CA.out V (hbw.trans (hV.mono hbw.size)))
      have HB := hid hbw
      have lA := heap_lt hbx
      have lB := heap_lt hrb
      clear CS CA hnul hz hf hm hdv hrc hbw
      go_wp2_with fail
      refine wp_region_below (by kernel_rfl) (by kernel_rfl) ?_
      intro X' f _ hf hs
      have k0 := fun x => (cells6 ((hf.out x).block _ lB |>.trans hrb)).1
      have k1 := fun x => (cells6 ((hf.out x).block _ lB |>.trans hrb)).2.1
      have k2 := fun x => (cells6 ((hf.out x).block _ lB |>.trans hrb)).2.2.1
      have k3 := fun x => (cells6 ((hf.out x).block _ lB |>.trans hrb)).2.2.2.1
      have k4 := fun x => (cells6 ((hf.out x).block _ lB |>.trans hrb)).2.2.2.2.1
      have k5 := fun x => (cells6 ((hf.out x).block _ lB |>.trans hrb)).2.2.2.2.2
      have m0 := fun x => (cells6 ((hf.out x).block _ lA |>.trans hbx)).1
      have m1 := fun x => (cells6 ((hf.out x).block _ lA |>.trans hbx)).2.1
      have m2 := fun x => (cells6 ((hf.out x).block _ lA |>.trans hbx)).2.2.1
      have m3 := fun x => (cells6 ((hf.out x).block _ lA |>.trans hbx)).2.2.2.1
      have m4 := fun x => (cells6 ((hf.out x).block _ lA |>.trans hbx)).2.2.2.2.1
      have m5 := fun x => (cells6 ((hf.out x).block _ lA |>.trans hbx)).2.2.2.2.2
      repeat (go_big_quiet_step (first
        | (go_at_call 13; exact calls_below hf hs (DA.out _ (hf.out _)))
        | (go_at_call 24; with_reducible exact calls_below hf hs (DR.out _ (hf.out _)))
        | (go_at_call 25; with_reducible exact calls_below hf hs (DN.out _ (hf.out _)))))
      refine wpQuiet_nil ?_
      intro w' hw'
      clear k0 k1 k2 k3 k4 k5 m0 m1 m2 m3 m4 m5 hf hs
      go_wp2
      go_ret
      exact ⟨rfl, HB.out.trans (hw'.mono HB.out.size)⟩

set_option maxRecDepth 100000 in
theorem lifted (os : Os) (started : os.Started) (H : Type) (enc : TypeId × Value → H) :
    ReturnsInHanded {} Tryd.checked os 9 .any (fun w args => (Rows.regexDeriveAllSpec.pre enc Tryd.prog Tryd.f9 [] false w args ∧ laidMetH Tryd.prog laidT w) ∧ sizedMet enc Tryd.prog Tryd.f9 (OpenSpec.ofChange Rows.regexDeriveAllSpec) false w args) (Rows.regexDeriveAllSpec.post enc Tryd.prog Tryd.f9 false true false false) := by
  refine Go.Frame.lifted_laid (C := Tryd.checked) (tb := 4) laidT own started (by kernel_rfl) Tryd.func9
    (ChangeSpec.witness_shaped (enc := enc) (C := Tryd.checked) (os := os) (X := fun w _ => laidMetH Tryd.prog laidT w) false (World.doorLaid Tryd.prog 400 os) #[.agg #[.int .i64 0, .int .u64 0, .int .u64 0, .int .u64 0, .int .u64 0, .slice none 0 0], .string ByteArray.empty] 8 rfl (World.shaped_of_RefB (by kernel_rfl) (by kernel_rfl)) (by kernel_rfl) (by kernel_rfl) (by kernel_rfl) (door_met os _))
    laidOut (by kernel_rfl) (by kernel_rfl) Tryd.underlying4 rfl ?_ ?_
  · intro ds h
    have h : ds.length = 2 := h
    match ds, h with
    | [_, _], _ => rfl
  · intro W base args ds p hlen hval0 hA hsz0 hlaid
    have hval : ∀ (j : Nat) t v, Tryd.f9.params[j]? = some t → args[j]? = some v → Value.okWide Tryd.prog W .any base t v := hval0
    have hA : DataW.TrodAll enc Tryd.prog W 0 (fun _ => true) true Tryd.f9.params.toList args.toList ds p := hA
    have hsz : (DataW.weightsEach Tryd.prog Tryd.f9.params.toList ds).all (· ≤ reachBytes) = true := hsz0
    have hT := tb_of_laid hlaid
    rw [Tryd.params9] at hA hval hsz
    obtain ⟨v0, vs0, d0, ds0, p0, q0, hargs, hds, _, th0, tr0⟩ := trodAll_cons hA
    obtain ⟨v1, vs1, d1, ds1, p1, q1, rfl, rfl, _, th1, tr1⟩ := trodAll_cons tr0
    obtain ⟨rfl, rfl, _⟩ := trodAll_nil tr1
    obtain rfl : args = #[v0, v1] := by cases args; simp_all
    subst hds
    obtain ⟨q0, cs0, rfl, hq0⟩ := open_rx (hval 0 27 v0 rfl rfl) th0 (fun n hn => of_decide_eq_true (List.all_eq_true.1 hsz _ (DataW.weights_mem_each (j := 0) rfl rfl n hn)))
    obtain ⟨t1, rfl, hd1, _, _⟩ := open_string Tryd.underlying9 (hval 1 9 v1 rfl rfl) th1
    exact walk q0 cs0 t1 W hq0 hT

theorem over : Rows.RegexDeriveAllSaid :=
  OpenClaim.holds_of_wide 9 Tryd.f9 rfl rfl rfl rfl rfl rfl rfl ⟨rfl, rfl, rfl, rfl, rfl⟩ rfl rfl rfl rfl rfl (by kernel_rfl) Tryd.func9 (by kernel_rfl)
    (of_decide_eq_true (by kernel_rfl)) (by unfold Func.isWrapper; first | (rw [if_pos (by decide +kernel)]; kernel_rfl) | (rw [if_neg (by decide +kernel)]; exact ⟨rfl, rfl⟩))
    (fun os started H enc _ => lifted os started H enc)

/-- THE STATEMENT: the tied card. -/
theorem proved : Rows.RegexDeriveAllCardSaid :=
  Claim7.holds_tied_plain_at .later [] [.data] true (true, "dd46b08e84a61b7e61138d74753cff02afb7ed2cf4ddd25005136ca1f7ca6772") false
    over (fun _ h => by cases h) (by kernel_rfl) (fun _ h => by cases h) regexDeriveAll_row_tie rfl ⟨rfl, rfl⟩ (by kernel_rfl) rfl
    (fun f fn hf hfn => by
      obtain rfl : f = 9 := Option.some.inj ((show Tryd.prog.funcNamed "emendate/emendatelaw08.RegexDeriveAll" = some 9 by kernel_rfl).symm.trans hf) |>.symm
      obtain rfl : fn = Tryd.f9 := (Option.some.inj (Tryd.func9.symm.trans hfn)).symm
      exact ⟨by kernel_rfl, fun j t ht => by
        rw [Tryd.params9] at ht
        have hm : t ∈ [27, 9] := by simpa using Array.mem_of_getElem? ht
        have hall : ([27, 9].all fun u => !Tryd.prog.wantsStandIn u) = true := by kernel_rfl
        exact (show Tryd.prog.wantsStandIn t = false by simpa using List.all_eq_true.1 hall t hm)⟩)
    (by kernel_rfl)
#print axioms proved
end Go.Proofs.YtednoideboeehaaDoor.regexDeriveAll
