/-
  TexteditInvertRestores, for every input: the law returns true and leaves its arguments as they read. No condition.
-/
import Derived.Test.YtclebcpapcoafaaH
namespace Go.Proofs.Ytclebcpapcoafaa.texteditInvertRestores
open Go.ChangeShapes Go.WideShapes Go.ChangeAt Go.RowKit Go.Frame
open Go.ChangeMaps (open_string shut_string)
open Te
set_option maxRecDepth 100000 in
set_option maxHeartbeats 4000000 in
theorem walk (s : ByteArray) (a d : Int) (t : ByteArray) (w : World) (hI : In (a, d, t)) :
    Calls Try.prog 5 #[.string s, .agg #[.int .i64 a, .int .i64 d, .string t]] w fun e w' => e = .returned (.bool true) ∧ Below w.heap.size w w' := by
  have HI := hid hI
  have HI' := hid (show ∀ e ∈ [((a, d, t) : Ed)], In e from fun e he => by simp at he; rw [he]; exact hI)
  have ha := hid hI.2.1
  clear hI
  obtain ⟨W, hW⟩ : ∃ W, W = w.alloc (.cells #[.int .i64 a, .int .i64 d, .string t] 23) := ⟨_, rfl⟩
  have bW : Below w.heap.size w W := by rw [hW]; exact (Below.refl _ _).alloc (Nat.le_refl _) _
  have hsz : W.heap.size = w.heap.size + 1 := by rw [hW]; simp
  have X := hid (show ∀ W', Below W.heap.size W W' → Bx W' w.heap.size (a, d, t) from fun W' h => (show Bx W w.heap.size (a, d, t) by rw [hW]; exact alloc_new _ _).below h)
  have HW := hid hW
  clear hW
  have hle := bW.size
  go_enter Try.func5, Try.ntmps5
  go_wp2_with fail
  rw [← HW.out]
  refine (awake_any W).mono ?_
  rintro e w1 ⟨rfl, hb1⟩
  obtain ⟨k00, k01, k02⟩ := (X.out _ hb1).cells
  go_wp2_with fail
  have b1' : Below W.heap.size W (w1.alloc (.cells (ecells [(a, d, t)]).toArray 23)) := hb1.alloc hb1.size _
  refine (few_any s (some ⟨w1.heap.size, 0, none⟩) 1 1 [(a, d, t)] _ (In.few HI'.out) (row_blk (alloc_new _ _) rfl)).mono ?_
  rintro e w1' ⟨rfl, rfl⟩
  obtain ⟨u, hu⟩ : ∃ u, u = w1.alloc (.cells (ecells [(a, d, t)]).toArray 23) := ⟨_, rfl⟩
  rw [show w1.alloc _ = u from hu.symm]
  rw [← hu] at b1'
  clear hu k00 k01 k02
  obtain ⟨k00, k01, k02⟩ := (X.out _ b1').cells
  by_cases hF : Few s [(a, d, t)]
  · rw [decide_eq_true hF]
    have hS := hid hF.sum
    have hs := hid (show s.size ≤ 1000000 by have := hS.out; omega)
    have ht := hid (show t.size ≤ 1000000 by have := hS.out; simp only [sz] at this; omega)
    have hs' := hid hF.1
    clear hF
    go_wp2_with fail
    refine (apply_any s t a d u hs.out ht.out ha.out).mono ?_
    rintro e w2 ⟨rfl, b2⟩
    have hb2 := b1'.trans (b2.mono b1'.size)
    clear k00 k01 k02
    obtain ⟨k00, k01, k02⟩ := (X.out _ hb2).cells
    by_cases hf : Fit s.size (a, d, t)
    · obtain ⟨f1, f2, f3⟩ := ap_inv hf
      have hz := ap_size hf
      have hz1 := hid (show (ap s (a, d, t)).size ≤ 1000000 by have := hS.out; have h0 := hf.2.1; simp only [sz] at this; simp only at hz h0; omega)
      rw [apv_yes hf]
      have F1 := hid f1
      have F2 := hid f2
      have F3 := hid f3
      have HF := hid hf
      clear hf f1 f2 f3 hz
      obtain ⟨v, hv⟩ : ∃ v, v = ap s (a, d, t) := ⟨_, rfl⟩
      obtain ⟨⟨a', d', t'⟩, he⟩ : ∃ e, e = inv s (a, d, t) := ⟨_, rfl⟩
      rw [← hv] at F1 F2 F3 hz1 ⊢
      rw [← he] at F1 F2 F3
      have ht' := hid (show t'.size ≤ 1000000 by
        have e : t' = s.extract a.toNat (a.toNat + d.toNat) := by
          have := congrArg (fun e => e.2.2) he
          exact this
        rw [e, ByteArray.size_extract]
        have := hs.out
        omega)
      have ha' := hid (show a' ≤ 9223372036854775807 by
        have e : a' = a := congrArg (fun e => e.1) he
        rw [e]
        exact ha.out)
      have HE := hid he
      clear hv he
      go_wp2_with fail
      refine (invert_any s t a d w2 hs.out ht.out ha.out).mono ?_
      rintro e w3 ⟨rfl, b3⟩
      have hb3 := hb2.trans (b3.mono hb2.size)
      rw [show inv' s (a, d, t) = .tuple #[edv (inv s (a, d, t)), .int .i64 0] from if_pos HF.out, ← HE.out]
      unfold edv
      go_wp2_with fail
      have Y : Bx (w3.alloc (.cells #[.int .i64 a', .int .i64 d', .string t'] 23)) w3.heap.size (a', d', t') := alloc_new _ _
      have hb3' := hb3.alloc hb3.size (.cells #[.int .i64 a', .int .i64 d', .string t'] 23)
      obtain ⟨z, hz⟩ : ∃ z, z = w3.alloc (.cells #[.int .i64 a', .int .i64 d', .string t'] 23) := ⟨_, rfl⟩
      rw [← hz] at Y hb3' ⊢
      clear hz
      refine (apply_any v t' a' d' z hz1.out ht'.out ha'.out).mono ?_
      rintro e w4 ⟨rfl, b4⟩
      have hb4 := hb3'.trans (b4.mono hb3'.size)
      have Y4 := Y.below b4
      rw [apv_yes F1.out, F2.out]
      clear Y k00 k01 k02
      obtain ⟨k00, k01, k02⟩ := (X.out _ hb4).cells
      obtain ⟨k10, k11, k12⟩ := Y4.cells
      go_wp2_with fail
      refine (invert_any v t' a' d' w4 hz1.out ht'.out ha'.out).mono ?_
      rintro e w5 ⟨rfl, b5⟩
      have hb5 := hb4.trans (b5.mono hb4.size)
      rw [show inv' v (a', d', t') = .tuple #[edv (inv v (a', d', t')), .int .i64 0] from if_pos F1.out, F3.out]
      unfold edv
      clear k00 k01 k02 k10 k11 k12
      obtain ⟨k00, k01, k02⟩ := (X.out _ hb5).cells
      have hl5 : w.heap.size < w5.heap.size := heap_lt (X.out _ hb5)
      go_wp2
      go_ret
      exact ⟨rfl, bW.trans ((hb5.alloc hb5.size _).mono hle)⟩
    · have HF := hid hf
      rw [apv_no hf]
      clear hf
      go_wp2_with fail
      refine (invert_any s t a d w2 hs.out ht.out ha.out).mono ?_
      rintro e w3 ⟨rfl, b3⟩
      have hb3 := hb2.trans (b3.mono hb2.size)
      rw [show inv' s (a, d, t) = .tuple #[edv (0, 0, .empty), .int .i64 2] from if_neg HF.out]
      unfold edv
      go_wp2
      go_ret
      exact ⟨rfl, bW.trans ((hb3.alloc hb3.size _).mono hle)⟩
  · rw [decide_eq_false hF]
    go_wp2
    go_ret
    exact ⟨rfl, bW.trans (b1'.mono hle)⟩

theorem lifted (os : Os) (started : os.Started) (H : Type) (enc : TypeId × Value → H) :
    ReturnsInHanded {} Try.checked os 5 .any (Rows.texteditInvertRestoresSpec.pre6 enc Try.prog Try.f5 Rows.texteditInvertRestoresRow.domain false) (Rows.texteditInvertRestoresSpec.post enc Try.prog Try.f5 false true false false) := by
  refine Go.Frame.lifted (C := Try.checked) (tb := 4) own started (by kernel_rfl) Try.func5
    (ChangeSpec.witness6 (enc := enc) (C := Try.checked) false ⟨#[], #[.string ByteArray.empty, .agg #[.int .i64 0, .int .i64 0, .string ByteArray.empty]], []⟩ 8 (by kernel_rfl) (by kernel_rfl) (by kernel_rfl) (by kernel_rfl))
    laidOut (by kernel_rfl) (by kernel_rfl) Try.underlying4 rfl ?_ ?_
  · intro ds h
    have h : ds.length = 2 := h
    match ds, h with
    | [_, _], _ => rfl
  · intro W base args ds p hlen hval0 hA hsz0
    have hval : ∀ (j : Nat) t v, Try.f5.params[j]? = some t → args[j]? = some v → Value.okWide Try.prog W .any base t v := hval0
    have hA : DataW.TrodAll enc Try.prog W 0 (fun _ => true) true Try.f5.params.toList args.toList ds p := hA
    have hsz : (DataW.weightsEach Try.prog Try.f5.params.toList ds).all (· ≤ reachBytes) = true := hsz0
    rw [Try.params5] at hA hval hsz
    obtain ⟨v0, vs0, d0, ds0, p0, q0, hargs, hds, _, th0, tr0⟩ := trodAll_cons hA
    obtain ⟨v1, vs1, d1, ds1, p1, q1, rfl, rfl, _, th1, tr1⟩ := trodAll_cons tr0
    obtain ⟨rfl, rfl, _⟩ := trodAll_nil tr1
    obtain rfl : args = #[v0, v1] := by cases args; simp_all
    subst hds
    obtain ⟨t0, rfl, _, _, _⟩ := open_string Try.underlying9 (hval 0 9 v0 rfl rfl) th0
    obtain ⟨a1, d1, s1, rfl, h1⟩ := open_edit (hval 1 23 v1 rfl rfl) th1 (fun n hn => of_decide_eq_true (List.all_eq_true.1 hsz _ (DataW.weights_mem_each (j := 1) rfl rfl n hn)))
    exact walk t0 a1 d1 s1 W h1

theorem over : Rows.texteditInvertRestoresRow.holds Try.pinned (OpenSpec.ofChange Rows.texteditInvertRestoresSpec) :=
  OpenClaim.holds_of_wide 5 Try.f5 rfl rfl rfl rfl rfl rfl rfl ⟨rfl, rfl, rfl, rfl, rfl⟩ rfl rfl rfl rfl rfl (by kernel_rfl) Try.func5 (by kernel_rfl)
    (of_decide_eq_true (by kernel_rfl)) (by unfold Func.isWrapper; first | (rw [if_pos (by decide +kernel)]; kernel_rfl) | (rw [if_neg (by decide +kernel)]; exact ⟨rfl, rfl⟩))
    (fun os started H enc _ => lifted os started H enc)

/-- THE STATEMENT -/
theorem proved : Rows.TexteditInvertRestoresSaid :=
  over
#print axioms proved
end Go.Proofs.Ytclebcpapcoafaa.texteditInvertRestores
