/-
  BytesetOperations, for every input: the law returns true and leaves its arguments as they read. No condition beside the listed variable's own text (the card ties it).
-/
import Derived.Test.YtnjlnldbfejjpaaDoorY
namespace Go.Proofs.YtnjlnldbfejjpaaDoor.bytesetOperations
open Go.ChangeShapes Go.WideShapes Go.ChangeAt Go.RowKit Go.Frame
open Go.ChangeMaps (open_string shut_string)
open Bs
attribute [local irreducible] nb cnt pc els cf fs
attribute [local go_sem] eqIn eql_set neq_set
set_option maxRecDepth 100000 in
set_option maxHeartbeats 4000000 in
theorem walk (p q : Nat → Bool) (w : World) (hT : Tb w) :
    Calls Tryd.prog 4 #[sv p, sv q] w fun e w' => e = .returned (.bool true) ∧ Below w.heap.size w w' := by
  obtain ⟨u, hu⟩ : ∃ u : Nat → Bool, u = fun x => p x || q x := ⟨_, rfl⟩
  obtain ⟨n, hn⟩ : ∃ n : Nat → Bool, n = fun x => p x && q x := ⟨_, rfl⟩
  obtain ⟨c, hc⟩ : ∃ c : Nat → Bool, c = fun x => !p x := ⟨_, rfl⟩
  have C16 := hid (fun V => show Calls Tryd.prog 16 #[.agg #[.int .u64 (wd (p) 0 : Int), .int .u64 (wd (p) 1 : Int), .int .u64 (wd (p) 2 : Int), .int .u64 (wd (p) 3 : Int)], .agg #[.int .u64 (wd (q) 0 : Int), .int .u64 (wd (q) 1 : Int), .int .u64 (wd (q) 2 : Int), .int .u64 (wd (q) 3 : Int)]] V fun e w'' => e = .returned (.agg #[.int .u64 (wd (u) 0 : Int), .int .u64 (wd (u) 1 : Int), .int .u64 (wd (u) 2 : Int), .int .u64 (wd (u) 3 : Int)]) ∧ Below V.heap.size V w'' from hu ▸ Union_any p q V)
  have C17 := hid (fun V => show Calls Tryd.prog 17 #[.agg #[.int .u64 (wd (p) 0 : Int), .int .u64 (wd (p) 1 : Int), .int .u64 (wd (p) 2 : Int), .int .u64 (wd (p) 3 : Int)], .agg #[.int .u64 (wd (q) 0 : Int), .int .u64 (wd (q) 1 : Int), .int .u64 (wd (q) 2 : Int), .int .u64 (wd (q) 3 : Int)]] V fun e w'' => e = .returned (.agg #[.int .u64 (wd (u) 0 : Int), .int .u64 (wd (u) 1 : Int), .int .u64 (wd (u) 2 : Int), .int .u64 (wd (u) 3 : Int)]) ∧ Below V.heap.size V w'' from hu ▸ rUnion_any p q V)
  have C18 := hid (fun V => show Calls Tryd.prog 18 #[.agg #[.int .u64 (wd (p) 0 : Int), .int .u64 (wd (p) 1 : Int), .int .u64 (wd (p) 2 : Int), .int .u64 (wd (p) 3 : Int)], .agg #[.int .u64 (wd (q) 0 : Int), .int .u64 (wd (q) 1 : Int), .int .u64 (wd (q) 2 : Int), .int .u64 (wd (q) 3 : Int)]] V fun e w'' => e = .returned (.agg #[.int .u64 (wd (n) 0 : Int), .int .u64 (wd (n) 1 : Int), .int .u64 (wd (n) 2 : Int), .int .u64 (wd (n) 3 : Int)]) ∧ Below V.heap.size V w'' from hn ▸ Intersect_any p q V)
  have C19 := hid (fun V => show Calls Tryd.prog 19 #[.agg #[.int .u64 (wd (p) 0 : Int), .int .u64 (wd (p) 1 : Int), .int .u64 (wd (p) 2 : Int), .int .u64 (wd (p) 3 : Int)], .agg #[.int .u64 (wd (q) 0 : Int), .int .u64 (wd (q) 1 : Int), .int .u64 (wd (q) 2 : Int), .int .u64 (wd (q) 3 : Int)]] V fun e w'' => e = .returned (.agg #[.int .u64 (wd (n) 0 : Int), .int .u64 (wd (n) 1 : Int), .int .u64 (wd (n) 2 : Int), .int .u64 (wd (n) 3 : Int)]) ∧ Below V.heap.size V w'' from hn ▸ rIntersect_any p q V)
  have C20 := hid (fun V => show Calls Tryd.prog 20 #[.agg #[.int .u64 (wd (p) 0 : Int), .int .u64 (wd (p) 1 : Int), .int .u64 (wd (p) 2 : Int), .int .u64 (wd (p) 3 : Int)]] V fun e w'' => e = .returned (.agg #[.int .u64 (wd (c) 0 : Int), .int .u64 (wd (c) 1 : Int), .int .u64 (wd (c) 2 : Int), .int .u64 (wd (c) 3 : Int)]) ∧ Below V.heap.size V w'' from hc ▸ Complement_any p V)
  have C21 := hid (fun V => show Calls Tryd.prog 21 #[.agg #[.int .u64 (wd (p) 0 : Int), .int .u64 (wd (p) 1 : Int), .int .u64 (wd (p) 2 : Int), .int .u64 (wd (p) 3 : Int)]] V fun e w'' => e = .returned (.agg #[.int .u64 (wd (c) 0 : Int), .int .u64 (wd (c) 1 : Int), .int .u64 (wd (c) 2 : Int), .int .u64 (wd (c) 3 : Int)]) ∧ Below V.heap.size V w'' from hc ▸ rComplement_any p V)
  have C22 := hid (fun V => show Calls Tryd.prog 22 #[.agg #[.int .u64 (wd (p) 0 : Int), .int .u64 (wd (p) 1 : Int), .int .u64 (wd (p) 2 : Int), .int .u64 (wd (p) 3 : Int)]] V fun e w'' => e = .returned (.int .i64 (cnt p 256 : Int)) ∧ Below V.heap.size V w'' from Len_any p V)
  have C23 := hid (fun V => show Calls Tryd.prog 23 #[.agg #[.int .u64 (wd (p) 0 : Int), .int .u64 (wd (p) 1 : Int), .int .u64 (wd (p) 2 : Int), .int .u64 (wd (p) 3 : Int)]] V fun e w'' => e = .returned (.int .i64 (cnt p 256 : Int)) ∧ Below V.heap.size V w'' from rLen_any p V)
  obtain ⟨W, hW⟩ : ∃ W, W = (w.alloc (.cells #[.int .u64 (wd (p) 0 : Int), .int .u64 (wd (p) 1 : Int), .int .u64 (wd (p) 2 : Int), .int .u64 (wd (p) 3 : Int)] 25)).alloc (.cells #[.int .u64 (wd (q) 0 : Int), .int .u64 (wd (q) 1 : Int), .int .u64 (wd (q) 2 : Int), .int .u64 (wd (q) 3 : Int)] 25) := ⟨_, rfl⟩
  have X := hid (by have := Go.Frame.two w (.cells #[.int .u64 (wd (p) 0 : Int), .int .u64 (wd (p) 1 : Int), .int .u64 (wd (p) 2 : Int), .int .u64 (wd (p) 3 : Int)] 25) (.cells #[.int .u64 (wd (q) 0 : Int), .int .u64 (wd (q) 1 : Int), .int .u64 (wd (q) 2 : Int), .int .u64 (wd (q) 3 : Int)] 25); rw [← hW] at this; exact this)
  have CA := hid (fun V (hV : Below W.heap.size W V) => awake_any V ((hT.below X.out.2.2.1).below hV))
  clear hu hn hc hT
  unfold sv
  go_enter Tryd.func4, Tryd.ntmps4
  go_wp2_with fail
  rw [← hW]
  clear hW
  refine wp_region_below (by kernel_rfl) (by kernel_rfl) ?_
  intro X' f _ hf hs
  have lA := heap_lt X.out.1
  have lB := heap_lt X.out.2.1
  have k0 := fun x => (cells4 (((hf.out x).block _ lA).trans X.out.1)).1
  have k1 := fun x => (cells4 (((hf.out x).block _ lA).trans X.out.1)).2.1
  have k2 := fun x => (cells4 (((hf.out x).block _ lA).trans X.out.1)).2.2.1
  have k3 := fun x => (cells4 (((hf.out x).block _ lA).trans X.out.1)).2.2.2
  have m0 := fun x => (cells4 (((hf.out x).block _ lB).trans X.out.2.1)).1
  have m1 := fun x => (cells4 (((hf.out x).block _ lB).trans X.out.2.1)).2.1
  have m2 := fun x => (cells4 (((hf.out x).block _ lB).trans X.out.2.1)).2.2.1
  have m3 := fun x => (cells4 (((hf.out x).block _ lB).trans X.out.2.1)).2.2.2
  repeat (go_big_quiet_step (first
    | (go_at_call 9; exact calls_below hf hs (CA.out _ (hf.out _)))
    | (go_at_call 16; with_reducible exact calls_below hf hs (C16.out _))
    | (go_at_call 17; with_reducible exact calls_below hf hs (C17.out _))
    | (go_at_call 18; with_reducible exact calls_below hf hs (C18.out _))
    | (go_at_call 19; with_reducible exact calls_below hf hs (C19.out _))
    | (go_at_call 20; with_reducible exact calls_below hf hs (C20.out _))
    | (go_at_call 21; with_reducible exact calls_below hf hs (C21.out _))
    | (go_at_call 22; with_reducible exact calls_below hf hs (C22.out _))
    | (go_at_call 23; with_reducible exact calls_below hf hs (C23.out _))))
  refine wpQuiet_nil ?_
  intro w' hw'
  clear k0 k1 k2 k3 m0 m1 m2 m3 hf hs
  go_wp2
  go_ret
  exact ⟨by simp, X.out.2.2.1.trans (hw'.mono X.out.2.2.1.size)⟩

set_option maxRecDepth 100000 in
theorem lifted (os : Os) (started : os.Started) (H : Type) (enc : TypeId × Value → H) :
    ReturnsInHanded {} Tryd.checked os 4 .any (fun w args => (Rows.bytesetOperationsSpec.pre enc Tryd.prog Tryd.f4 [] false w args ∧ laidMetH Tryd.prog laidT w) ∧ sizedMet enc Tryd.prog Tryd.f4 (OpenSpec.ofChange Rows.bytesetOperationsSpec) false w args) (Rows.bytesetOperationsSpec.post enc Tryd.prog Tryd.f4 false true false false) := by
  refine Go.Frame.lifted_laid (C := Tryd.checked) (tb := 4) laidT own started (by kernel_rfl) Tryd.func4
    (ChangeSpec.witness_shaped (enc := enc) (C := Tryd.checked) (os := os) (X := fun w _ => laidMetH Tryd.prog laidT w) false (World.doorLaid Tryd.prog 400 os) #[.agg #[.int .u64 0, .int .u64 0, .int .u64 0, .int .u64 0], .agg #[.int .u64 0, .int .u64 0, .int .u64 0, .int .u64 0]] 8 rfl (World.shaped_of_RefB (by kernel_rfl) (by kernel_rfl)) (by kernel_rfl) (by kernel_rfl) (by kernel_rfl) (door_met os _))
    laidOut (by kernel_rfl) (by kernel_rfl) Tryd.underlying4 rfl ?_ ?_
  · intro ds h
    have h : ds.length = 2 := h
    match ds, h with
    | [_, _], _ => rfl
  · intro W base args ds p hlen hval0 hA hsz0 hlaid
    have hval : ∀ (j : Nat) t v, Tryd.f4.params[j]? = some t → args[j]? = some v → Value.okWide Tryd.prog W .any base t v := hval0
    have hA : DataW.TrodAll enc Tryd.prog W 0 (fun _ => true) true Tryd.f4.params.toList args.toList ds p := hA
    have hsz : (DataW.weightsEach Tryd.prog Tryd.f4.params.toList ds).all (· ≤ reachBytes) = true := hsz0
    have hT := tb_of_laid hlaid
    rw [Tryd.params4] at hA hval hsz
    obtain ⟨v0, vs0, d0, ds0, p0, q0, hargs, hds, _, th0, tr0⟩ := trodAll_cons hA
    obtain ⟨v1, vs1, d1, ds1, p1, q1, rfl, rfl, _, th1, tr1⟩ := trodAll_cons tr0
    obtain ⟨rfl, rfl, _⟩ := trodAll_nil tr1
    obtain rfl : args = #[v0, v1] := by cases args; simp_all
    subst hds
    obtain ⟨q0, rfl⟩ := open_set (hval 0 25 v0 rfl rfl) th0
    obtain ⟨q1, rfl⟩ := open_set (hval 1 25 v1 rfl rfl) th1
    exact walk q0 q1 W  hT

theorem over : Rows.BytesetOperationsSaid :=
  OpenClaim.holds_of_wide 4 Tryd.f4 rfl rfl rfl rfl rfl rfl rfl ⟨rfl, rfl, rfl, rfl, rfl⟩ rfl rfl rfl rfl rfl (by kernel_rfl) Tryd.func4 (by kernel_rfl)
    (of_decide_eq_true (by kernel_rfl)) (by unfold Func.isWrapper; first | (rw [if_pos (by decide +kernel)]; kernel_rfl) | (rw [if_neg (by decide +kernel)]; exact ⟨rfl, rfl⟩))
    (fun os started H enc _ => lifted os started H enc)

/-- THE STATEMENT: the tied card. -/
theorem proved : Rows.BytesetOperationsCardSaid :=
  Claim7.holds_tied_plain_at .later [] [.data] true (true, "f672231fa7014273d113998005b6c842c6084454db453b3aa5ceee129e95c009") false
    over (fun _ h => by cases h) (by kernel_rfl) (fun _ h => by cases h) bytesetOperations_row_tie rfl ⟨rfl, rfl⟩ (by kernel_rfl) rfl
    (fun f fn hf hfn => by
      obtain rfl : f = 4 := Option.some.inj ((show Tryd.prog.funcNamed "emendate/emendatelaw07.BytesetOperations" = some 4 by kernel_rfl).symm.trans hf) |>.symm
      obtain rfl : fn = Tryd.f4 := (Option.some.inj (Tryd.func4.symm.trans hfn)).symm
      exact ⟨by kernel_rfl, fun j t ht => by
        rw [Tryd.params4] at ht
        have hm : t ∈ [25, 25] := by simpa using Array.mem_of_getElem? ht
        have hall : ([25, 25].all fun u => !Tryd.prog.wantsStandIn u) = true := by kernel_rfl
        exact (show Tryd.prog.wantsStandIn t = false by simpa using List.all_eq_true.1 hall t hm)⟩)
    (by kernel_rfl)
#print axioms proved
end Go.Proofs.YtnjlnldbfejjpaaDoor.bytesetOperations
