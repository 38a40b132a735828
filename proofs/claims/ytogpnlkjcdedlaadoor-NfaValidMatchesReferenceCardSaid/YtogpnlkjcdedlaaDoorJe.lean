/-
  Contracts: the reference's Valid, shallow, Few, Depth, Equal; small.
-/
import Derived.Test.YtogpnlkjcdedlaaDoorJd
set_option linter.unusedSimpArgs false
set_option linter.unusedVariables false
namespace Go.Proofs.YtogpnlkjcdedlaaDoor
open Go.RowKit Bs Rg Go.Frame
attribute [local go_sem] eq_zero eq_set

theorem bel1 (w : World) (o : Obj) : Below w.heap.size w (w.alloc o) := (Below.refl _ _).alloc (Nat.le_refl _) o
theorem shL_neg {l : List Rx} {lv : Nat} {c : Int} (h : c < 0) : shL l lv c = c := by
  cases l with
  | nil => rw [shL]
  | cons x l => rw [shL, if_pos h]

set_option maxRecDepth 100000 in
set_option maxHeartbeats 4000000 in
theorem rValid_any (g : Nat → Prop) (r : Rx) (w : World) (cs : List Value) (h : RC g w r cs) :
    Calls Tryd.prog 43 #[.agg cs.toArray] w fun e w' => e = .returned (.bool (fits r 30)) ∧ Below w.heap.size w w' := by
  obtain ⟨k, s, l⟩ := r
  obtain ⟨a, n, c, rfl, hK⟩ := RC_mk.1 h
  have CF := hid (fun V (hV : Below w.heap.size w V) => rvalid_any g (.mk k s l) 30 0 V _ rfl (by decide) (RC_mk.2 ⟨a, n, c, rfl, hK.below hV⟩))
  clear hK h
  show Calls Tryd.prog 43 #[.agg #[.int .i64 k, .int .u64 (ws s 0 : Int), .int .u64 (ws s 1 : Int), .int .u64 (ws s 2 : Int), .int .u64 (ws s 3 : Int), .slice a n c]] w _
  go_enter Tryd.func43, Tryd.ntmps43
  go_wp2_with fail
  refine (CF.out _ (bel1 _ _)).mono ?_
  rintro e W ⟨rfl, b2⟩
  have B := hid ((bel1 w _).trans (b2.mono (bel1 w _).size))
  clear b2
  go_wp2
  go_ret
  exact ⟨rfl, B.out⟩

end Go.Proofs.YtogpnlkjcdedlaaDoor
