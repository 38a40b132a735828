/-
  RegexFormat, for every input: the law returns true and leaves its arguments as they read. No condition beside the listed variable's own text (the card ties it).
-/
import Derived.Test.YtednoideboeehaaDoorZ05
import Derived.Test.YtednoideboeehaaDoorZ22
import Derived.Test.YtednoideboeehaaDoorZ26
set_option linter.unusedSimpArgs false
set_option linter.unusedVariables false
namespace Go.Proofs.YtednoideboeehaaDoor.regexFormat
open Go.ChangeShapes Go.WideShapes Go.ChangeAt Go.RowKit Go.Frame
open Go.ChangeMaps (open_string shut_string)
open Bs Rg
attribute [local irreducible] ws
attribute [local go_sem] eq_zero eq_set
set_option maxRecDepth 100000 in
set_option maxHeartbeats 4000000 in
theorem walk (q0 : Rx) (cs0 : List Value) (w : World) (hq0 : RC (fun _ => True) w q0 cs0) (hT : Tb w) :
    Calls Tryd.prog 5 #[.agg cs0.toArray] w fun e w' => e = .returned (.bool true) ∧ Below w.heap.size w w' := by
  obtain ⟨k, s, l⟩ := q0
  obtain ⟨a, n, c, rfl, hK⟩ := RC_mk.1 hq0
  have hR := fun V (hV : Below w.heap.size w V) => RC_mk.2 (⟨a, n, c, rfl, hK.below hV⟩ : ∃ a' n' c', rcs k s (.slice a n c) = rcs k s (.slice a' n' c') ∧ Kd (fun _ => True) V a' n' l)
  have HR := hid hR
  have HT := hid hT
  have CS := hid (fun V (hV : Below w.heap.size w V) => small_any _ (.mk k s l) 60 V _ (by decide) (hR V hV))
  have CA := hid (fun V (hV : Below w.heap.size w V) => awake_any V (hT.below hV))
  obtain ⟨y, hy⟩ : ∃ y, y = small (.mk k s l) ((60 : Nat) : Int) := ⟨_, rfl⟩
  rw [← hy] at CS
  have x0 := hid (alloc_new w (.cells #[.int .i64 k, .int .u64 (ws s 0 : Int), .int .u64 (ws s 1 : Int), .int .u64 (ws s 2 : Int), .int .u64 (ws s 3 : Int), .slice a n c] 27))
  have B0 := hid (bel1 w (.cells #[.int .i64 k, .int .u64 (ws s 0 : Int), .int .u64 (ws s 1 : Int), .int .u64 (ws s 2 : Int), .int .u64 (ws s 3 : Int), .slice a n c] 27))
  have HY := hid hy
  clear hR hK hq0 hT hy
  show Calls Tryd.prog 5 #[.agg #[.int .i64 k, .int .u64 (ws s 0 : Int), .int .u64 (ws s 1 : Int), .int .u64 (ws s 2 : Int), .int .u64 (ws s 3 : Int), .slice a n c]] w _
  go_enter Tryd.func5, Tryd.ntmps5
  go_wp2_with fail
  refine (CS.out _ B0.out).mono ?_
  rintro e W ⟨rfl, b1⟩
  have X := hid ((b1.block _ (heap_lt x0.out)).trans x0.out)
  have Z1 := hid (B0.out.trans (b1.mono B0.out.size))
  clear b1
  cases y
  · skip
    go_wp2_with fail
    refine (CA.out _ Z1.out).mono ?_
    rintro e W9 ⟨rfl, b9⟩
    go_wp2
    go_ret
    exact ⟨rfl, Z1.out.trans (b9.mono Z1.out.size)⟩
  have HS := hid (small_of (r := .mk k s l) (most := 60) HY.out.symm)
  have CP := hid (fun V (hV : Below w.heap.size w V) => rPrintable_any _ (.mk k s l) V _ HS.out.2.1 (HR.out V hV))
  obtain ⟨p, hp⟩ : ∃ p, p = prt (.mk k s l) := ⟨_, rfl⟩
  rw [← hp] at CP
  have HP := hid hp
  clear hp
  obtain ⟨p0, p1, p2, p3, p4, p5⟩ := cells6 X.out
  go_wp2_with fail
  refine (CP.out _ Z1.out).mono ?_
  rintro e W2 ⟨rfl, b2⟩
  have X2 := hid ((b2.block _ (heap_lt X.out)).trans X.out)
  have Z2 := hid (Z1.out.trans (b2.mono Z1.out.size))
  clear b2 p0 p1 p2 p3 p4 p5
  cases p
  · skip
    go_wp2_with fail
    refine (CA.out _ Z2.out).mono ?_
    rintro e W9 ⟨rfl, b9⟩
    go_wp2
    go_ret
    exact ⟨rfl, Z2.out.trans (b9.mono Z2.out.size)⟩
  have hf30 : fits (.mk k s l) 30 = true := (fits_depth HS.out.2.1).2 (by have := HS.out.2.2; omega)
  obtain ⟨F, hF⟩ : ∃ F : ByteArray, F = ⟨(fmt (.mk k s l)).toArray⟩ := ⟨_, rfl⟩
  have DF := hid (fun V (hV : Below W2.heap.size W2 V) => show Calls Tryd.prog 21 #[.agg #[.int .i64 k, .int .u64 (ws s 0 : Int), .int .u64 (ws s 1 : Int), .int .u64 (ws s 2 : Int), .int .u64 (ws s 3 : Int), .slice a n c]] V fun e w' => e = .returned (.string F) ∧ Below V.heap.size V w' from (by have := Format_any _ (.mk k s l) V _ hf30 HP.out.symm (by have := HS.out.1; omega) (HT.out.below (Z2.out.trans (hV.mono Z2.out.size))) (HR.out V (Z2.out.trans (hV.mono Z2.out.size))); rw [← hF] at this; exact this))
  have DG := hid (fun V (hV : Below W2.heap.size W2 V) => show Calls Tryd.prog 22 #[.agg #[.int .i64 k, .int .u64 (ws s 0 : Int), .int .u64 (ws s 1 : Int), .int .u64 (ws s 2 : Int), .int .u64 (ws s 3 : Int), .slice a n c]] V fun e w' => e = .returned (.string F) ∧ Below V.heap.size V w' from (by have := rFormat_any _ (.mk k s l) HS.out.2.1 HP.out.symm (by have := HS.out.1; omega) V _ (HR.out V (Z2.out.trans (hV.mono Z2.out.size))); rw [← hF] at this; exact this))
  have DA := hid (fun V (hV : Below W2.heap.size W2 V) => CA.out V (Z2.out.trans (hV.mono Z2.out.size)))
  clear hF hf30 CS CA CP
  go_wp2_with fail
  refine wp_region_below (by kernel_rfl) (by kernel_rfl) ?_
  intro X' f _ hf hs
  have k0 := fun x => (cells6 ((hf.out x).block _ (heap_lt X2.out) |>.trans X2.out)).1
  have k1 := fun x => (cells6 ((hf.out x).block _ (heap_lt X2.out) |>.trans X2.out)).2.1
  have k2 := fun x => (cells6 ((hf.out x).block _ (heap_lt X2.out) |>.trans X2.out)).2.2.1
  have k3 := fun x => (cells6 ((hf.out x).block _ (heap_lt X2.out) |>.trans X2.out)).2.2.2.1
  have k4 := fun x => (cells6 ((hf.out x).block _ (heap_lt X2.out) |>.trans X2.out)).2.2.2.2.1
  have k5 := fun x => (cells6 ((hf.out x).block _ (heap_lt X2.out) |>.trans X2.out)).2.2.2.2.2
  repeat (go_big_quiet_step (first
    | (go_at_call 13; exact calls_below hf hs (DA.out _ (hf.out _)))
    | (go_at_call 21; with_reducible exact calls_below hf hs (DF.out _ (hf.out _)))
    | (go_at_call 22; with_reducible exact calls_below hf hs (DG.out _ (hf.out _)))))
  refine wpQuiet_nil ?_
  intro w' hw'
  clear k0 k1 k2 k3 k4 k5 hf hs
  go_wp2
  go_ret
  exact ⟨rfl, Z2.out.trans (hw'.mono Z2.out.size)⟩

set_option maxRecDepth 100000 in
theorem lifted (os : Os) (started : os.Started) (H : Type) (enc : TypeId × Value → H) :
    ReturnsInHanded {} Tryd.checked os 5 .any (fun w args => (Rows.regexFormatSpec.pre enc Tryd.prog Tryd.f5 [] false w args ∧ laidMetH Tryd.prog laidT w) ∧ sizedMet enc Tryd.prog Tryd.f5 (OpenSpec.ofChange Rows.regexFormatSpec) false w args) (Rows.regexFormatSpec.post enc Tryd.prog Tryd.f5 false true false false) := by
  refine Go.Frame.lifted_laid (C := Tryd.checked) (tb := 4) laidT own started (by kernel_rfl) Tryd.func5
    (ChangeSpec.witness_shaped (enc := enc) (C := Tryd.checked) (os := os) (X := fun w _ => laidMetH Tryd.prog laidT w) false (World.doorLaid Tryd.prog 400 os) #[.agg #[.int .i64 0, .int .u64 0, .int .u64 0, .int .u64 0, .int .u64 0, .slice none 0 0]] 8 rfl (World.shaped_of_RefB (by kernel_rfl) (by kernel_rfl)) (by kernel_rfl) (by kernel_rfl) (by kernel_rfl) (door_met os _))
    laidOut (by kernel_rfl) (by kernel_rfl) Tryd.underlying4 rfl ?_ ?_
  · intro ds h
    have h : ds.length = 1 := h
    match ds, h with
    | [_], _ => rfl
  · intro W base args ds p hlen hval0 hA hsz0 hlaid
    have hval : ∀ (j : Nat) t v, Tryd.f5.params[j]? = some t → args[j]? = some v → Value.okWide Tryd.prog W .any base t v := hval0
    have hA : DataW.TrodAll enc Tryd.prog W 0 (fun _ => true) true Tryd.f5.params.toList args.toList ds p := hA
    have hsz : (DataW.weightsEach Tryd.prog Tryd.f5.params.toList ds).all (· ≤ reachBytes) = true := hsz0
    have hT := tb_of_laid hlaid
    rw [Tryd.params5] at hA hval hsz
    obtain ⟨v0, vs0, d0, ds0, p0, q0, hargs, hds, _, th0, tr0⟩ := trodAll_cons hA
    obtain ⟨rfl, rfl, _⟩ := trodAll_nil tr0
    obtain rfl : args = #[v0] := by cases args; simp_all
    subst hds
    obtain ⟨q0, cs0, rfl, hq0⟩ := open_rx (hval 0 27 v0 rfl rfl) th0 (fun n hn => of_decide_eq_true (List.all_eq_true.1 hsz _ (DataW.weights_mem_each (j := 0) rfl rfl n hn)))
    exact walk q0 cs0 W hq0 hT

theorem over : Rows.RegexFormatSaid :=
  OpenClaim.holds_of_wide 5 Tryd.f5 rfl rfl rfl rfl rfl rfl rfl ⟨rfl, rfl, rfl, rfl, rfl⟩ rfl rfl rfl rfl rfl (by kernel_rfl) Tryd.func5 (by kernel_rfl)
    (of_decide_eq_true (by kernel_rfl)) (by unfold Func.isWrapper; first | (rw [if_pos (by decide +kernel)]; kernel_rfl) | (rw [if_neg (by decide +kernel)]; exact ⟨rfl, rfl⟩))
    (fun os started H enc _ => lifted os started H enc)

/-- THE STATEMENT: the tied card. -/
theorem proved : Rows.RegexFormatCardSaid :=
  Claim7.holds_tied_plain_at .later [] [.data] true (true, "dd46b08e84a61b7e61138d74753cff02afb7ed2cf4ddd25005136ca1f7ca6772") false
    over (fun _ h => by cases h) (by kernel_rfl) (fun _ h => by cases h) regexFormat_row_tie rfl ⟨rfl, rfl⟩ (by kernel_rfl) rfl
    (fun f fn hf hfn => by
      obtain rfl : f = 5 := Option.some.inj ((show Tryd.prog.funcNamed "emendate/emendatelaw08.RegexFormat" = some 5 by kernel_rfl).symm.trans hf) |>.symm
      obtain rfl : fn = Tryd.f5 := (Option.some.inj (Tryd.func5.symm.trans hfn)).symm
      exact ⟨by kernel_rfl, fun j t ht => by
        rw [Tryd.params5] at ht
        have hm : t ∈ [27] := by simpa using Array.mem_of_getElem? ht
        have hall : ([27].all fun u => !Tryd.prog.wantsStandIn u) = true := by kernel_rfl
        exact (show Tryd.prog.wantsStandIn t = false by simpa using List.all_eq_true.1 hall t hm)⟩)
    (by kernel_rfl)
#print axioms proved
end Go.Proofs.YtednoideboeehaaDoor.regexFormat
