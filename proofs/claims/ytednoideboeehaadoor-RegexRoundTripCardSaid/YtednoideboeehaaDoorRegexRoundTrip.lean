/-
  RegexRoundTrip, for every input: the law returns true and leaves its arguments as they read. No condition beside the listed variable's own text (the card ties it).
-/
import Derived.Test.YtednoideboeehaaDoorZ05
import Derived.Test.YtednoideboeehaaDoorZ22
import Derived.Test.YtednoideboeehaaDoorZ23
set_option linter.unusedSimpArgs false
set_option linter.unusedVariables false
namespace Go.Proofs.YtednoideboeehaaDoor.regexRoundTrip
open Go.ChangeShapes Go.WideShapes Go.ChangeAt Go.RowKit Go.Frame
open Go.ChangeMaps (open_string shut_string)
open Bs Rg
attribute [local irreducible] ws
attribute [local go_sem] eq_zero eq_set
set_option maxRecDepth 100000 in
set_option maxHeartbeats 4000000 in
theorem walk (q0 : Rx) (cs0 : List Value) (t1 : ByteArray) (w : World) (hq0 : RC (fun _ => True) w q0 cs0) (hT : Tb w) :
    Calls Tryd.prog 6 #[.agg cs0.toArray, .string t1] w fun e w' => e = .returned (.bool true) ∧ Below w.heap.size w w' := by
  obtain ⟨k, s, l⟩ := q0
  obtain ⟨a, n, c, rfl, hK⟩ := RC_mk.1 hq0
  have hR := fun V (hV : Below w.heap.size w V) => RC_mk.2 (⟨a, n, c, rfl, hK.below hV⟩ : ∃ a' n' c', rcs k s (.slice a n c) = rcs k s (.slice a' n' c') ∧ Kd (fun _ => True) V a' n' l)
  have HR := hid hR
  have HT := hid hT
  have CS := hid (fun V (hV : Below w.heap.size w V) => small_any _ (.mk k s l) 40 V _ (by decide) (hR V hV))
  have CA := hid (fun V (hV : Below w.heap.size w V) => awake_any V (hT.below hV))
  obtain ⟨y, hy⟩ : ∃ y, y = small (.mk k s l) ((40 : Nat) : Int) := ⟨_, rfl⟩
  rw [← hy] at CS
  have x0 := hid (alloc_new w (.cells #[.int .i64 k, .int .u64 (ws s 0 : Int), .int .u64 (ws s 1 : Int), .int .u64 (ws s 2 : Int), .int .u64 (ws s 3 : Int), .slice a n c] 27))
  have B0 := hid (bel1 w (.cells #[.int .i64 k, .int .u64 (ws s 0 : Int), .int .u64 (ws s 1 : Int), .int .u64 (ws s 2 : Int), .int .u64 (ws s 3 : Int), .slice a n c] 27))
  have HY := hid hy
  clear hR hK hq0 hT hy
  show Calls Tryd.prog 6 #[.agg #[.int .i64 k, .int .u64 (ws s 0 : Int), .int .u64 (ws s 1 : Int), .int .u64 (ws s 2 : Int), .int .u64 (ws s 3 : Int), .slice a n c], .string t1] w _
  go_enter Tryd.func6, Tryd.ntmps6
  go_wp2_with fail
  refine (CS.out _ B0.out).mono ?_
  rintro e W ⟨rfl, b1⟩
  have X := hid ((b1.block _ (heap_lt x0.out)).trans x0.out)
  have Z1 := hid (B0.out.trans (b1.mono B0.out.size))
  clear b1
  cases y
  · skip
    go_wp2_with fail
    refine (CA.out _ Z1.out).mono ?_
    rintro e W9 ⟨rfl, b9⟩
    go_wp2
    go_ret
    exact ⟨rfl, Z1.out.trans (b9.mono Z1.out.size)⟩
  have HS := hid (small_of (r := .mk k s l) (most := 40) HY.out.symm)
  have CP := hid (fun V (hV : Below w.heap.size w V) => rPrintable_any _ (.mk k s l) V _ HS.out.2.1 (HR.out V hV))
  obtain ⟨p, hp⟩ : ∃ p, p = prt (.mk k s l) := ⟨_, rfl⟩
  rw [← hp] at CP
  have HP := hid hp
  clear hp
  obtain ⟨p0, p1, p2, p3, p4, p5⟩ := cells6 X.out
  go_wp2_with fail
  refine (CP.out _ Z1.out).mono ?_
  rintro e W2 ⟨rfl, b2⟩
  have X2 := hid ((b2.block _ (heap_lt X.out)).trans X.out)
  have Z2 := hid (Z1.out.trans (b2.mono Z1.out.size))
  clear b2 p0 p1 p2 p3 p4 p5
  cases p
  · skip
    go_wp2_with fail
    refine (CA.out _ Z2.out).mono ?_
    rintro e W9 ⟨rfl, b9⟩
    go_wp2
    go_ret
    exact ⟨rfl, Z2.out.trans (b9.mono Z2.out.size)⟩
  by_cases h12 : (12 : Int) < (t1.size : Int)
  · skip
    go_wp2_with fail
    refine (CA.out _ Z2.out).mono ?_
    rintro e W9 ⟨rfl, b9⟩
    go_wp2
    go_ret
    exact ⟨rfl, Z2.out.trans (b9.mono Z2.out.size)⟩
  have HL := hid (show t1.size ≤ 12 by omega)
  have hv : Vd (.mk k s l) := HS.out.2.1
  have hf30 : fits (.mk k s l) 30 = true := (fits_depth hv).2 (by have := HS.out.2.2; omega)
  have hpar := HS.out.1
  have hlen := fmt_len (.mk k s l)
  obtain ⟨F, hF⟩ : ∃ F : List UInt8, F = fmt (.mk k s l) := ⟨_, rfl⟩
  have hpr : parseR F = (.mk k s l, 0, 0) := by
    unfold parseR
    rw [hF, parse_fmt hv HP.out.symm]
    show (if depth (.mk k s l) ≤ 30 then _ else _) = _
    rw [if_pos (by have := HS.out.2.2; omega)]
  have hFs : (⟨F.toArray⟩ : ByteArray).size ≤ 1000000 := by show F.toArray.size ≤ _; simp; rw [hF]; omega
  have CF := hid (fun V (hV : Below w.heap.size w V) => show Calls Tryd.prog 21 #[.agg #[.int .i64 k, .int .u64 (ws s 0 : Int), .int .u64 (ws s 1 : Int), .int .u64 (ws s 2 : Int), .int .u64 (ws s 3 : Int), .slice a n c]] V fun e w' => e = .returned (.string ⟨F.toArray⟩) ∧ Below V.heap.size V w' from (by have := Format_any _ (.mk k s l) V _ hf30 HP.out.symm (by omega) (HT.out.below hV) (HR.out V hV); rw [← hF] at this; exact this))
  have CPa := hid (fun V => Parse_at ⟨F.toArray⟩ V hFs k s l 0 0 (by rw [show (⟨F.toArray⟩ : ByteArray).data.toList = F by simp]; exact hpr))
  have HF := hid (And.intro hv (And.intro hf30 hF))
  clear hv hf30 hpar hlen hF hpr hFs
  obtain ⟨p0, p1, p2, p3, p4, p5⟩ := cells6 X2.out
  go_wp2_with fail
  refine (CF.out _ Z2.out).mono ?_
  rintro e W3 ⟨rfl, b3⟩
  have X3 := hid ((b3.block _ (heap_lt X2.out)).trans X2.out)
  have Z3 := hid (Z2.out.trans (b3.mono Z2.out.size))
  clear b3 p0 p1 p2 p3 p4 p5
  go_wp2_with fail
  refine (CPa.out _).mono ?_
  rintro e V ⟨⟨a', n', c', rfl, hn', hk'⟩, b4⟩
  have B4 := hid b4
  have HK := hid hk'
  clear b4 hk' hn'
  go_upto_region 5 with fail
  obtain ⟨U, hU⟩ : ∃ U, U = V.alloc (.cells #[.int .i64 k, .int .u64 (ws s 0 : Int), .int .u64 (ws s 1 : Int), .int .u64 (ws s 2 : Int), .int .u64 (ws s 3 : Int), .slice a' n' c'] 27) := ⟨_, rfl⟩
  have XQ := hid (show BX U V.heap.size k s a' n' c' l ∧ Below W3.heap.size W3 U from by rw [hU]; exact ⟨BX.new HK.out, below_made B4.out B4.out.size⟩)
  have X4 := hid ((XQ.out.2.block _ (heap_lt X3.out)).trans X3.out)
  have Z4 := hid (Z3.out.trans (XQ.out.2.mono Z3.out.size))
  rw [← hU]
  clear hU
  obtain ⟨m, hm⟩ : ∃ m, m = mtc (.mk k s l) t1.data.toList := ⟨_, rfl⟩
  have DF := hid (fun V' (hV : Below U.heap.size U V') => show Calls Tryd.prog 21 #[.agg #[.int .i64 k, .int .u64 (ws s 0 : Int), .int .u64 (ws s 1 : Int), .int .u64 (ws s 2 : Int), .int .u64 (ws s 3 : Int), .slice a' n' c']] V' fun e w' => e = .returned (.string ⟨F.toArray⟩) ∧ Below V'.heap.size V' w' from (by have := Format_any _ (.mk k s l) V' _ HF.out.2.1 HP.out.symm (by have := HS.out.1; omega) (HT.out.below (Z4.out.trans (hV.mono Z4.out.size))) (XQ.out.1.below hV).rc; rw [← HF.out.2.2] at this; exact this))
  have DM := hid (fun V' (hV : Below U.heap.size U V') => show Calls Tryd.prog 23 #[.agg #[.int .i64 k, .int .u64 (ws s 0 : Int), .int .u64 (ws s 1 : Int), .int .u64 (ws s 2 : Int), .int .u64 (ws s 3 : Int), .slice a' n' c'], .string t1] V' fun e w' => e = .returned (.bool m) ∧ Below V'.heap.size V' w' from (by have := Match_any _ (.mk k s l) t1 V' _ (fits_mono (by decide) HF.out.2.1) (by have := HS.out.1; omega) (by have := HL.out; omega) (XQ.out.1.below hV).rc; rw [← hm] at this; exact this))
  have DN := hid (fun V' (hV : Below U.heap.size U V') => show Calls Tryd.prog 23 #[.agg #[.int .i64 k, .int .u64 (ws s 0 : Int), .int .u64 (ws s 1 : Int), .int .u64 (ws s 2 : Int), .int .u64 (ws s 3 : Int), .slice a n c], .string t1] V' fun e w' => e = .returned (.bool m) ∧ Below V'.heap.size V' w' from (by have := Match_any _ (.mk k s l) t1 V' _ (fits_mono (by decide) HF.out.2.1) (by have := HS.out.1; omega) (by have := HL.out; omega) (HR.out _ (Z4.out.trans (hV.mono Z4.out.size))); rw [← hm] at this; exact this))
  have DA := hid (fun V' (hV : Below U.heap.size U V') => CA.out V' (Z4.out.trans (hV.mono Z4.out.size)))
  clear hm CS CA CP CF CPa
  go_wp2_with fail
  refine wp_region_below (by kernel_rfl) (by kernel_rfl) ?_
  intro X' f _ hf hs
  have k0 := fun x => (cells6 ((hf.out x).block _ (heap_lt X4.out) |>.trans X4.out)).1
  have k1 := fun x => (cells6 ((hf.out x).block _ (heap_lt X4.out) |>.trans X4.out)).2.1
  have k2 := fun x => (cells6 ((hf.out x).block _ (heap_lt X4.out) |>.trans X4.out)).2.2.1
  have k3 := fun x => (cells6 ((hf.out x).block _ (heap_lt X4.out) |>.trans X4.out)).2.2.2.1
  have k4 := fun x => (cells6 ((hf.out x).block _ (heap_lt X4.out) |>.trans X4.out)).2.2.2.2.1
  have k5 := fun x => (cells6 ((hf.out x).block _ (heap_lt X4.out) |>.trans X4.out)).2.2.2.2.2
  have m0 := fun x => (cells6 ((hf.out x).block _ (heap_lt XQ.out.1.box) |>.trans XQ.out.1.box)).1
  have m1 := fun x => (cells6 ((hf.out x).block _ (heap_lt XQ.out.1.box) |>.trans XQ.out.1.box)).2.1
  have m2 := fun x => (cells6 ((hf.out x).block _ (heap_lt XQ.out.1.box) |>.trans XQ.out.1.box)).2.2.1
  have m3 := fun x => (cells6 ((hf.out x).block _ (heap_lt XQ.out.1.box) |>.trans XQ.out.1.box)).2.2.2.1
  have m4 := fun x => (cells6 ((hf.out x).block _ (heap_lt XQ.out.1.box) |>.trans XQ.out.1.box)).2.2.2.2.1
  have m5 := fun x => (cells6 ((hf.out x).block _ (heap_lt XQ.out.1.box) |>.trans XQ.out.1.box)).2.2.2.2.2
  repeat (go_big_quiet_step (first
    | (go_at_call 13; exact calls_below hf hs (DA.out _ (hf.out _)))
    | (go_at_call 21; exact calls_below hf hs (DF.out _ (hf.out _)))
    | (go_at_call 23; with_reducible exact calls_below hf hs (DM.out _ (hf.out _)))
    | (go_at_call 23; with_reducible exact calls_below hf hs (DN.out _ (hf.out _)))))
  refine wpQuiet_nil ?_
  intro w' hw'
  clear k0 k1 k2 k3 k4 k5 m0 m1 m2 m3 m4 m5 hf hs
  go_wp2
  go_ret
  exact ⟨rfl, Z4.out.trans (hw'.mono Z4.out.size)⟩

set_option maxRecDepth 100000 in
theorem lifted (os : Os) (started : os.Started) (H : Type) (enc : TypeId × Value → H) :
    ReturnsInHanded {} Tryd.checked os 6 .any (fun w args => (Rows.regexRoundTripSpec.pre enc Tryd.prog Tryd.f6 [] false w args ∧ laidMetH Tryd.prog laidT w) ∧ sizedMet enc Tryd.prog Tryd.f6 (OpenSpec.ofChange Rows.regexRoundTripSpec) false w args) (Rows.regexRoundTripSpec.post enc Tryd.prog Tryd.f6 false true false false) := by
  refine Go.Frame.lifted_laid (C := Tryd.checked) (tb := 4) laidT own started (by kernel_rfl) Tryd.func6
    (ChangeSpec.witness_shaped (enc := enc) (C := Tryd.checked) (os := os) (X := fun w _ => laidMetH Tryd.prog laidT w) false (World.doorLaid Tryd.prog 400 os) #[.agg #[.int .i64 0, .int .u64 0, .int .u64 0, .int .u64 0, .int .u64 0, .slice none 0 0], .string ByteArray.empty] 8 rfl (World.shaped_of_RefB (by kernel_rfl) (by kernel_rfl)) (by kernel_rfl) (by kernel_rfl) (by kernel_rfl) (door_met os _))
    laidOut (by kernel_rfl) (by kernel_rfl) Tryd.underlying4 rfl ?_ ?_
  · intro ds h
    have h : ds.length = 2 := h
    match ds, h with
    | [_, _], _ => rfl
  · intro W base args ds p hlen hval0 hA hsz0 hlaid
    have hval : ∀ (j : Nat) t v, Tryd.f6.params[j]? = some t → args[j]? = some v → Value.okWide Tryd.prog W .any base t v := hval0
    have hA : DataW.TrodAll enc Tryd.prog W 0 (fun _ => true) true Tryd.f6.params.toList args.toList ds p := hA
    have hsz : (DataW.weightsEach Tryd.prog Tryd.f6.params.toList ds).all (· ≤ reachBytes) = true := hsz0
    have hT := tb_of_laid hlaid
    rw [Tryd.params6] at hA hval hsz
    obtain ⟨v0, vs0, d0, ds0, p0, q0, hargs, hds, _, th0, tr0⟩ := trodAll_cons hA
    obtain ⟨v1, vs1, d1, ds1, p1, q1, rfl, rfl, _, th1, tr1⟩ := trodAll_cons tr0
    obtain ⟨rfl, rfl, _⟩ := trodAll_nil tr1
    obtain rfl : args = #[v0, v1] := by cases args; simp_all
    subst hds
    obtain ⟨q0, cs0, rfl, hq0⟩ := open_rx (hval 0 27 v0 rfl rfl) th0 (fun n hn => of_decide_eq_true (List.all_eq_true.1 hsz _ (DataW.weights_mem_each (j := 0) rfl rfl n hn)))
    obtain ⟨t1, rfl, hd1, _, _⟩ := open_string Tryd.underlying9 (hval 1 9 v1 rfl rfl) th1
    exact walk q0 cs0 t1 W hq0 hT

theorem over : Rows.RegexRoundTripSaid :=
  OpenClaim.holds_of_wide 6 Tryd.f6 rfl rfl rfl rfl rfl rfl rfl ⟨rfl, rfl, rfl, rfl, rfl⟩ rfl rfl rfl rfl rfl (by kernel_rfl) Tryd.func6 (by kernel_rfl)
    (of_decide_eq_true (by kernel_rfl)) (by unfold Func.isWrapper; first | (rw [if_pos (by decide +kernel)]; kernel_rfl) | (rw [if_neg (by decide +kernel)]; exact ⟨rfl, rfl⟩))
    (fun os started H enc _ => lifted os started H enc)

/-- THE STATEMENT: the tied card. -/
theorem proved : Rows.RegexRoundTripCardSaid :=
  Claim7.holds_tied_plain_at .later [] [.data] true (true, "dd46b08e84a61b7e61138d74753cff02afb7ed2cf4ddd25005136ca1f7ca6772") false
    over (fun _ h => by cases h) (by kernel_rfl) (fun _ h => by cases h) regexRoundTrip_row_tie rfl ⟨rfl, rfl⟩ (by kernel_rfl) rfl
    (fun f fn hf hfn => by
      obtain rfl : f = 6 := Option.some.inj ((show Tryd.prog.funcNamed "emendate/emendatelaw08.RegexRoundTrip" = some 6 by kernel_rfl).symm.trans hf) |>.symm
      obtain rfl : fn = Tryd.f6 := (Option.some.inj (Tryd.func6.symm.trans hfn)).symm
      exact ⟨by kernel_rfl, fun j t ht => by
        rw [Tryd.params6] at ht
        have hm : t ∈ [27, 9] := by simpa using Array.mem_of_getElem? ht
        have hall : ([27, 9].all fun u => !Tryd.prog.wantsStandIn u) = true := by kernel_rfl
        exact (show Tryd.prog.wantsStandIn t = false by simpa using List.all_eq_true.1 hall t hm)⟩)
    (by kernel_rfl)
#print axioms proved
end Go.Proofs.YtednoideboeehaaDoor.regexRoundTrip
