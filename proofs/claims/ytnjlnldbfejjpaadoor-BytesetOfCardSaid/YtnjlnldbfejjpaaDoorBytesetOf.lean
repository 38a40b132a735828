/-
  BytesetOf, for every input: the law returns true and leaves its arguments as they read. No condition beside the listed variable's own text (the card ties it).
-/
import Derived.Test.YtnjlnldbfejjpaaDoorY
namespace Go.Proofs.YtnjlnldbfejjpaaDoor.bytesetOf
open Go.ChangeShapes Go.WideShapes Go.ChangeAt Go.RowKit Go.Frame
open Go.ChangeMaps (open_string shut_string)
open Bs
attribute [local irreducible] nb cnt pc els cf fs
attribute [local go_sem] eqIn eql_set neq_set
set_option maxRecDepth 100000 in
set_option maxHeartbeats 4000000 in
theorem walk (s : ByteArray) (lo hi : Nat) (w : World) (hlo : lo < 256) (hhi : hi < 256) (hT : Tb w) :
    Calls Tryd.prog 3 #[.string s, .int .u8 (lo : Int), .int .u8 (hi : Int)] w fun e w' => e = .returned (.bool true) ∧ Below w.heap.size w w' := by
  by_cases h6 : s.size ≤ 600
  · have n6 : ¬ (600 : Int) < (s.size : Int) := by omega
    obtain ⟨p, hp⟩ : ∃ p, p = ofp s s.size := ⟨_, rfl⟩
    obtain ⟨q, hq⟩ : ∃ q, q = rgp lo (hi + 1) := ⟨_, rfl⟩
    have C10 := hid (fun V => show Calls Tryd.prog 10 #[.string s] V fun e w'' => e = .returned (.agg #[.int .u64 (wd p 0 : Int), .int .u64 (wd p 1 : Int), .int .u64 (wd p 2 : Int), .int .u64 (wd p 3 : Int)]) ∧ Below V.heap.size V w'' from by rw [hp]; exact Of_any s V (by omega))
    have C12 := hid (fun V => show Calls Tryd.prog 12 #[.string s] V fun e w'' => e = .returned (.agg #[.int .u64 (wd p 0 : Int), .int .u64 (wd p 1 : Int), .int .u64 (wd p 2 : Int), .int .u64 (wd p 3 : Int)]) ∧ Below V.heap.size V w'' from by rw [hp]; exact rOf_any s V (by omega))
    have C11 := hid (fun V => show Calls Tryd.prog 11 #[.int .u8 (lo : Int), .int .u8 (hi : Int)] V fun e w'' => e = .returned (.agg #[.int .u64 (wd q 0 : Int), .int .u64 (wd q 1 : Int), .int .u64 (wd q 2 : Int), .int .u64 (wd q 3 : Int)]) ∧ Below V.heap.size V w'' from by rw [hq]; exact Range_any lo hi V hlo hhi)
    have C13 := hid (fun V => show Calls Tryd.prog 13 #[.int .u8 (lo : Int), .int .u8 (hi : Int)] V fun e w'' => e = .returned (.agg #[.int .u64 (wd q 0 : Int), .int .u64 (wd q 1 : Int), .int .u64 (wd q 2 : Int), .int .u64 (wd q 3 : Int)]) ∧ Below V.heap.size V w'' from by rw [hq]; exact rRange_any lo hi V hlo hhi)
    have hqh : q hi = decide ((lo : Int) ≤ (hi : Int)) := by rw [hq]; unfold rgp; rw [Bool.eq_iff_iff]; simp
    obtain ⟨b1, hb1⟩ : ∃ b, p lo = b := ⟨_, rfl⟩
    obtain ⟨b2, hb2⟩ : ∃ b, q hi = b := ⟨_, rfl⟩
    have C14 := hid (fun V => show Calls Tryd.prog 14 #[.agg #[.int .u64 (wd p 0 : Int), .int .u64 (wd p 1 : Int), .int .u64 (wd p 2 : Int), .int .u64 (wd p 3 : Int)], .int .u8 (lo : Int)] V fun e w'' => e = .returned (.bool b1) ∧ Below V.heap.size V w'' from hb1 ▸ Has_any p lo V hlo)
    have C15 := hid (fun V => show Calls Tryd.prog 15 #[.agg #[.int .u64 (wd p 0 : Int), .int .u64 (wd p 1 : Int), .int .u64 (wd p 2 : Int), .int .u64 (wd p 3 : Int)], .int .u8 (lo : Int)] V fun e w'' => e = .returned (.bool b1) ∧ Below V.heap.size V w'' from hb1 ▸ rHas_any p lo V hlo)
    have C16 := hid (fun V => show Calls Tryd.prog 14 #[.agg #[.int .u64 (wd q 0 : Int), .int .u64 (wd q 1 : Int), .int .u64 (wd q 2 : Int), .int .u64 (wd q 3 : Int)], .int .u8 (hi : Int)] V fun e w'' => e = .returned (.bool b2) ∧ Below V.heap.size V w'' from hb2 ▸ Has_any q hi V hhi)
    have D2 := hid (show decide (lo ≤ hi) = b2 from by rw [← hb2, hqh]; simp)
    have HT := hid hT
    clear hT h6 hp hq hqh hb1 hb2 hlo hhi
    go_enter Tryd.func3, Tryd.ntmps3
    go_wp2_with fail
    refine (C10.out _).mono ?_
    rintro e w1 ⟨rfl, x1⟩
    have B1 := hid x1
    clear x1
    go_wp2_with fail
    refine (C11.out _).mono ?_
    rintro e w2 ⟨rfl, x2⟩
    have B2 := hid (B1.out.trans (x2.mono B1.out.size))
    clear x2
    go_wp2_with fail
    have bW1 := B2.out.size
    obtain ⟨W, hW⟩ : ∃ W, W = (w2.alloc (.cells #[.int .u64 (wd p 0 : Int), .int .u64 (wd p 1 : Int), .int .u64 (wd p 2 : Int), .int .u64 (wd p 3 : Int)] 25)).alloc (.cells #[.int .u64 (wd q 0 : Int), .int .u64 (wd q 1 : Int), .int .u64 (wd q 2 : Int), .int .u64 (wd q 3 : Int)] 25) := ⟨_, rfl⟩
    have X := hid (by have := Go.Frame.two w2 (.cells #[.int .u64 (wd p 0 : Int), .int .u64 (wd p 1 : Int), .int .u64 (wd p 2 : Int), .int .u64 (wd p 3 : Int)] 25) (.cells #[.int .u64 (wd q 0 : Int), .int .u64 (wd q 1 : Int), .int .u64 (wd q 2 : Int), .int .u64 (wd q 3 : Int)] 25); rw [← hW] at this; exact this)
    have hs1 : (w2.alloc (.cells #[.int .u64 (wd p 0 : Int), .int .u64 (wd p 1 : Int), .int .u64 (wd p 2 : Int), .int .u64 (wd p 3 : Int)] 25)).heap.size = w2.heap.size + 1 := by simp
    try rw [hs1]
    rw [← hW]
    clear hW hs1
    have BW := hid (B2.out.trans (X.out.2.2.1.mono B2.out.size))
    have CA := hid (fun V (hV : Below W.heap.size W V) => awake_any V ((HT.out.below BW.out).below hV))
    refine wp_region_below (by kernel_rfl) (by kernel_rfl) ?_
    intro X' f _ hf hs
    have lA := heap_lt X.out.1
    have lB := heap_lt X.out.2.1
    have k0 := fun x => (cells4 (((hf.out x).block _ lA).trans X.out.1)).1
    have k1 := fun x => (cells4 (((hf.out x).block _ lA).trans X.out.1)).2.1
    have k2 := fun x => (cells4 (((hf.out x).block _ lA).trans X.out.1)).2.2.1
    have k3 := fun x => (cells4 (((hf.out x).block _ lA).trans X.out.1)).2.2.2
    have m0 := fun x => (cells4 (((hf.out x).block _ lB).trans X.out.2.1)).1
    have m1 := fun x => (cells4 (((hf.out x).block _ lB).trans X.out.2.1)).2.1
    have m2 := fun x => (cells4 (((hf.out x).block _ lB).trans X.out.2.1)).2.2.1
    have m3 := fun x => (cells4 (((hf.out x).block _ lB).trans X.out.2.1)).2.2.2
    repeat (go_big_quiet_step (first
      | (go_at_call 9; exact calls_below hf hs (CA.out _ (hf.out _)))
      | (go_at_call 12; with_reducible exact calls_below hf hs (C12.out _))
      | (go_at_call 13; with_reducible exact calls_below hf hs (C13.out _))
      | (go_at_call 14; with_reducible exact calls_below hf hs (C14.out _))
      | (go_at_call 14; with_reducible exact calls_below hf hs (C16.out _))
      | (go_at_call 15; with_reducible exact calls_below hf hs (C15.out _))))
    refine wpQuiet_nil ?_
    intro w' hw'
    clear k0 k1 k2 k3 m0 m1 m2 m3 hf hs
    go_wp2
    go_ret
    exact ⟨by rw [D2.out]; simp, BW.out.trans (hw'.mono BW.out.size)⟩
  · have n6 : (600 : Int) < (s.size : Int) := by omega
    have CA := hid (awake_any w hT)
    clear hT h6
    go_enter Tryd.func3, Tryd.ntmps3
    go_wp2_with fail
    refine CA.out.mono ?_
    rintro e w1 ⟨rfl, b1⟩
    go_wp2
    go_ret
    exact ⟨rfl, b1⟩

set_option maxRecDepth 100000 in
theorem lifted (os : Os) (started : os.Started) (H : Type) (enc : TypeId × Value → H) :
    ReturnsInHanded {} Tryd.checked os 3 .any (fun w args => (Rows.bytesetOfSpec.pre enc Tryd.prog Tryd.f3 [] false w args ∧ laidMetH Tryd.prog laidT w) ∧ sizedMet enc Tryd.prog Tryd.f3 (OpenSpec.ofChange Rows.bytesetOfSpec) false w args) (Rows.bytesetOfSpec.post enc Tryd.prog Tryd.f3 false true false false) := by
  refine Go.Frame.lifted_laid (C := Tryd.checked) (tb := 4) laidT own started (by kernel_rfl) Tryd.func3
    (ChangeSpec.witness_shaped (enc := enc) (C := Tryd.checked) (os := os) (X := fun w _ => laidMetH Tryd.prog laidT w) false (World.doorLaid Tryd.prog 400 os) #[.string ByteArray.empty, .int .u8 0, .int .u8 0] 8 rfl (World.shaped_of_RefB (by kernel_rfl) (by kernel_rfl)) (by kernel_rfl) (by kernel_rfl) (by kernel_rfl) (door_met os _))
    laidOut (by kernel_rfl) (by kernel_rfl) Tryd.underlying4 rfl ?_ ?_
  · intro ds h
    have h : ds.length = 3 := h
    match ds, h with
    | [_, _, _], _ => rfl
  · intro W base args ds p hlen hval0 hA hsz0 hlaid
    have hval : ∀ (j : Nat) t v, Tryd.f3.params[j]? = some t → args[j]? = some v → Value.okWide Tryd.prog W .any base t v := hval0
    have hA : DataW.TrodAll enc Tryd.prog W 0 (fun _ => true) true Tryd.f3.params.toList args.toList ds p := hA
    have hsz : (DataW.weightsEach Tryd.prog Tryd.f3.params.toList ds).all (· ≤ reachBytes) = true := hsz0
    have hT := tb_of_laid hlaid
    rw [Tryd.params3] at hA hval hsz
    obtain ⟨v0, vs0, d0, ds0, p0, q0, hargs, hds, _, th0, tr0⟩ := trodAll_cons hA
    obtain ⟨v1, vs1, d1, ds1, p1, q1, rfl, rfl, _, th1, tr1⟩ := trodAll_cons tr0
    obtain ⟨v2, vs2, d2, ds2, p2, q2, rfl, rfl, _, th2, tr2⟩ := trodAll_cons tr1
    obtain ⟨rfl, rfl, _⟩ := trodAll_nil tr2
    obtain rfl : args = #[v0, v1, v2] := by cases args; simp_all
    subst hds
    obtain ⟨t0, rfl, hd0, _, _⟩ := open_string Tryd.underlying9 (hval 0 9 v0 rfl rfl) th0
    obtain ⟨n1, rfl, hn1⟩ := open_u8 (hval 1 5 v1 rfl rfl) th1
    obtain ⟨n2, rfl, hn2⟩ := open_u8 (hval 2 5 v2 rfl rfl) th2
    exact walk t0 n1 n2 W hn1 hn2 hT

theorem over : Rows.BytesetOfSaid :=
  OpenClaim.holds_of_wide 3 Tryd.f3 rfl rfl rfl rfl rfl rfl rfl ⟨rfl, rfl, rfl, rfl, rfl⟩ rfl rfl rfl rfl rfl (by kernel_rfl) Tryd.func3 (by kernel_rfl)
    (of_decide_eq_true (by kernel_rfl)) (by unfold Func.isWrapper; first | (rw [if_pos (by decide +kernel)]; kernel_rfl) | (rw [if_neg (by decide +kernel)]; exact ⟨rfl, rfl⟩))
    (fun os started H enc _ => lifted os started H enc)

/-- THE STATEMENT: the tied card. -/
theorem proved : Rows.BytesetOfCardSaid :=
  Claim7.holds_tied_plain_at .later [] [.data] true (true, "f672231fa7014273d113998005b6c842c6084454db453b3aa5ceee129e95c009") false
    over (fun _ h => by cases h) (by kernel_rfl) (fun _ h => by cases h) bytesetOf_row_tie rfl ⟨rfl, rfl⟩ (by kernel_rfl) rfl
    (fun f fn hf hfn => by
      obtain rfl : f = 3 := Option.some.inj ((show Tryd.prog.funcNamed "emendate/emendatelaw07.BytesetOf" = some 3 by kernel_rfl).symm.trans hf) |>.symm
      obtain rfl : fn = Tryd.f3 := (Option.some.inj (Tryd.func3.symm.trans hfn)).symm
      exact ⟨by kernel_rfl, fun j t ht => by
        rw [Tryd.params3] at ht
        have hm : t ∈ [9, 5, 5] := by simpa using Array.mem_of_getElem? ht
        have hall : ([9, 5, 5].all fun u => !Tryd.prog.wantsStandIn u) = true := by kernel_rfl
        exact (show Tryd.prog.wantsStandIn t = false by simpa using List.all_eq_true.1 hall t hm)⟩)
    (by kernel_rfl)
#print axioms proved
end Go.Proofs.YtnjlnldbfejjpaaDoor.bytesetOf
