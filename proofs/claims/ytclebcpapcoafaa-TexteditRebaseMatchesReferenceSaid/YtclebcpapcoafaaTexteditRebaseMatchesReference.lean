/-
  TexteditRebaseMatchesReference, for every input: the law returns true and leaves its arguments as they read. No condition.
-/
import Derived.Test.YtclebcpapcoafaaH
namespace Go.Proofs.Ytclebcpapcoafaa.texteditRebaseMatchesReference
open Go.ChangeShapes Go.WideShapes Go.ChangeAt Go.RowKit Go.Frame
open Go.ChangeMaps (open_string shut_string)
open Te
set_option maxRecDepth 100000 in
set_option maxHeartbeats 4000000 in
theorem walk (a d : Int) (s : ByteArray) (b g : Int) (t : ByteArray) (w : World) (hI : In (a, d, s)) (hJ : In (b, g, t)) :
    Calls Try.prog 9 #[.agg #[.int .i64 a, .int .i64 d, .string s], .agg #[.int .i64 b, .int .i64 g, .string t]] w fun e w' => e = .returned (.bool true) ∧ Below w.heap.size w w' := by
  obtain ⟨W, hW⟩ : ∃ W, W = (w.alloc (.cells #[.int .i64 a, .int .i64 d, .string s] 23)).alloc (.cells #[.int .i64 b, .int .i64 g, .string t] 23) := ⟨_, rfl⟩
  have bW : Below w.heap.size w W := by rw [hW]; exact ((Below.refl _ _).alloc (Nat.le_refl _) _).alloc (by simp) _
  have hsz : W.heap.size = w.heap.size + 1 + 1 := by rw [hW]; simp
  have X := hid (show ∀ W', Below W.heap.size W W' → Bx W' w.heap.size (a, d, s) ∧ Bx W' (w.heap.size + 1) (b, g, t) from fun W' h => ⟨(show Bx W w.heap.size (a, d, s) by rw [hW]; exact blk_alloc (alloc_new _ _)).below h, (show Bx W (w.heap.size + 1) (b, g, t) by rw [hW]; exact alloc_at _ _ (by simp)).below h⟩)
  have HW := hid hW
  clear hW
  have hle := bW.size
  have ha := hid hI.2.1
  have hb := hid hJ.2.1
  have ht := hid (show t.size ≤ 1000000000000000 by have := hJ.2.2.2.2; simp only at this; omega)
  clear hI hJ
  go_enter Try.func9, Try.ntmps9
  go_wp2_with fail
  rw [← HW.out]
  refine (awake_any W).mono ?_
  rintro e w1 ⟨rfl, hb1⟩
  obtain ⟨x1, x2⟩ := X.out _ hb1
  obtain ⟨k00, k01, k02⟩ := x1.cells
  obtain ⟨k10, k11, k12⟩ := x2.cells
  clear x1 x2
  go_wp2_with fail
  refine (rebase_any a d s b g t w1 ha.out hb.out ht.out).mono ?_
  rintro e w2 ⟨rfl, b2⟩
  have hb2 := hb1.trans (b2.mono hb1.size)
  obtain ⟨x, y, z, o, hx⟩ : ∃ (x y : Int) (z : ByteArray) (o : Bool), rbv (a, d, s) (b, g, t) = .tuple #[.agg #[.int .i64 x, .int .i64 y, .string z], .bool o] := ⟨_, _, _, _, rfl⟩
  rw [hx]
  clear k00 k01 k02 k10 k11 k12
  obtain ⟨x1, x2⟩ := X.out _ (hb2.alloc hb2.size (.cells #[.int .i64 x, .int .i64 y, .string z] 23))
  obtain ⟨k00, k01, k02⟩ := x1.cells
  obtain ⟨k10, k11, k12⟩ := x2.cells
  clear x1 x2
  go_wp2_with fail
  have Y : Bx (w2.alloc (.cells #[.int .i64 x, .int .i64 y, .string z] 23)) w2.heap.size (x, y, z) := alloc_new _ _
  have hb2' := hb2.alloc hb2.size (.cells #[.int .i64 x, .int .i64 y, .string z] 23)
  refine (rrebase_any a d s b g t _ ha.out hb.out ht.out).mono ?_
  rintro e w3 ⟨rfl, b3⟩
  rw [hx]
  have hb3 := hb2'.trans (b3.mono hb2'.size)
  have Y3 := Y.below b3
  obtain ⟨m0, m1, m2⟩ := Y3.cells
  have hl := heap_lt Y3
  clear k00 k01 k02 k10 k11 k12 Y Y3
  go_wp2
  go_ret
  exact ⟨rfl, bW.trans ((hb3.alloc hb3.size _).mono hle)⟩

theorem lifted (os : Os) (started : os.Started) (H : Type) (enc : TypeId × Value → H) :
    ReturnsInHanded {} Try.checked os 9 .any (Rows.texteditRebaseMatchesReferenceSpec.pre6 enc Try.prog Try.f9 Rows.texteditRebaseMatchesReferenceRow.domain false) (Rows.texteditRebaseMatchesReferenceSpec.post enc Try.prog Try.f9 false true false false) := by
  refine Go.Frame.lifted (C := Try.checked) (tb := 4) own started (by kernel_rfl) Try.func9
    (ChangeSpec.witness6 (enc := enc) (C := Try.checked) false ⟨#[], #[.agg #[.int .i64 0, .int .i64 0, .string ByteArray.empty], .agg #[.int .i64 0, .int .i64 0, .string ByteArray.empty]], []⟩ 8 (by kernel_rfl) (by kernel_rfl) (by kernel_rfl) (by kernel_rfl))
    laidOut (by kernel_rfl) (by kernel_rfl) Try.underlying4 rfl ?_ ?_
  · intro ds h
    have h : ds.length = 2 := h
    match ds, h with
    | [_, _], _ => rfl
  · intro W base args ds p hlen hval0 hA hsz0
    have hval : ∀ (j : Nat) t v, Try.f9.params[j]? = some t → args[j]? = some v → Value.okWide Try.prog W .any base t v := hval0
    have hA : DataW.TrodAll enc Try.prog W 0 (fun _ => true) true Try.f9.params.toList args.toList ds p := hA
    have hsz : (DataW.weightsEach Try.prog Try.f9.params.toList ds).all (· ≤ reachBytes) = true := hsz0
    rw [Try.params9] at hA hval hsz
    obtain ⟨v0, vs0, d0, ds0, p0, q0, hargs, hds, _, th0, tr0⟩ := trodAll_cons hA
    obtain ⟨v1, vs1, d1, ds1, p1, q1, rfl, rfl, _, th1, tr1⟩ := trodAll_cons tr0
    obtain ⟨rfl, rfl, _⟩ := trodAll_nil tr1
    obtain rfl : args = #[v0, v1] := by cases args; simp_all
    subst hds
    obtain ⟨a0, d0, s0, rfl, h0⟩ := open_edit (hval 0 23 v0 rfl rfl) th0 (fun n hn => of_decide_eq_true (List.all_eq_true.1 hsz _ (DataW.weights_mem_each (j := 0) rfl rfl n hn)))
    obtain ⟨a1, d1, s1, rfl, h1⟩ := open_edit (hval 1 23 v1 rfl rfl) th1 (fun n hn => of_decide_eq_true (List.all_eq_true.1 hsz _ (DataW.weights_mem_each (j := 1) rfl rfl n hn)))
    exact walk a0 d0 s0 a1 d1 s1 W h0 h1

theorem over : Rows.texteditRebaseMatchesReferenceRow.holds Try.pinned (OpenSpec.ofChange Rows.texteditRebaseMatchesReferenceSpec) :=
  OpenClaim.holds_of_wide 9 Try.f9 rfl rfl rfl rfl rfl rfl rfl ⟨rfl, rfl, rfl, rfl, rfl⟩ rfl rfl rfl rfl rfl (by kernel_rfl) Try.func9 (by kernel_rfl)
    (of_decide_eq_true (by kernel_rfl)) (by unfold Func.isWrapper; first | (rw [if_pos (by decide +kernel)]; kernel_rfl) | (rw [if_neg (by decide +kernel)]; exact ⟨rfl, rfl⟩))
    (fun os started H enc _ => lifted os started H enc)

/-- THE STATEMENT -/
theorem proved : Rows.TexteditRebaseMatchesReferenceSaid :=
  over
#print axioms proved
end Go.Proofs.Ytclebcpapcoafaa.texteditRebaseMatchesReference
