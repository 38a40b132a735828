/-
  TexteditSplit, for every input: the law returns true and leaves its arguments as they read. No condition.
-/
import Derived.Test.YtclebcpapcoafaaH
namespace Go.Proofs.Ytclebcpapcoafaa.texteditSplit
open Go.ChangeShapes Go.WideShapes Go.ChangeAt Go.RowKit Go.Frame
open Go.ChangeMaps (open_string shut_string)
open Te
theorem split_all {s t : ByteArray} {a d : Int} (h : Fit s.size (a, d, t)) : apAll s [(a, d, { data := #[] }), (a, 0, t)] = some (ap s (a, d, t)) ∧ cmp s [(a, d, { data := #[] }), (a, 0, t)] = some (a, d, t) := by
  obtain ⟨x, y, t', he, hl⟩ := h.nat
  simp only [Prod.mk.injEq] at he
  obtain ⟨rfl, rfl, rfl⟩ := he
  obtain ⟨P, D, Q, h1, h2, h3⟩ := split hl
  have f1 : Fit s.size ((x : Int), (y : Int), ({ data := #[] } : ByteArray)) := fit_nat.2 hl
  have z1 := ap_size f1
  have e1 := apl (t := { data := #[] }) h1 h2 h3
  have e0 : L ({ data := #[] } : ByteArray) = [] := rfl
  rw [e0, List.append_nil] at e1
  have s0 : ByteArray.size { data := #[] } = 0 := rfl
  simp only [s0] at z1
  obtain ⟨v, hv⟩ : ∃ v, v = ap s ((x : Int), (y : Int), ({ data := #[] } : ByteArray)) := ⟨_, rfl⟩
  rw [← hv] at z1 e1
  have f2 : Fit v.size ((x : Int), ((0 : Nat) : Int), t) := fit_nat.2 (by omega)
  have e2 := apl (t := t) (s := v) (P := P) (D := []) (Q := Q) (a := x) (d := 0) (by rw [e1, List.append_nil]) h2 rfl
  have e3 := apl (t := t) h1 h2 h3
  have hap : ap v ((x : Int), ((0 : Nat) : Int), t) = ap s ((x : Int), (y : Int), t) := L_inj (by rw [e2, e3])
  have f2' : Fit v.size ((x : Int), (0 : Int), t) := f2
  have hap' : ap v ((x : Int), (0 : Int), t) = ap s ((x : Int), (y : Int), t) := hap
  have z3 := ap_size h
  simp only at z3
  constructor
  · simp only [apAll, if_pos f1, ← hv, if_pos f2', hap']
  · unfold cmp
    rw [if_neg (by simp)]
    simp only [cst, if_pos f1, ← hv, if_pos f2', hap', Option.map_some, fin]
    have hm := mid e3 h2 (L_len t)
    have m1 : min (min (s.size : Int) x) x = x := by omega
    have m2 : min (min (s.size : Int) (s.size - x - y)) (v.size - x - 0) = s.size - x - y := by omega
    rw [m1, m2]
    have hq : (((ap s ((x : Int), (y : Int), t)).size : Int) - (s.size - x - y)).toNat = x + t.size := by omega
    rw [hq, Int.toNat_natCast]
    have : (ap s ((x : Int), (y : Int), t)).extract x (x + t.size) = t := L_inj hm
    rw [this]
    simp only [Option.some.injEq, Prod.mk.injEq, true_and, and_true]
    omega

set_option maxRecDepth 100000 in
set_option maxHeartbeats 4000000 in
theorem walk (s : ByteArray) (a d : Int) (t : ByteArray) (w : World) (hI : In (a, d, t)) :
    Calls Try.prog 11 #[.string s, .agg #[.int .i64 a, .int .i64 d, .string t]] w fun e w' => e = .returned (.bool true) ∧ Below w.heap.size w w' := by
  have HI := hid hI
  have HI' := hid (show ∀ e ∈ [((a, d, t) : Ed)], In e from fun e he => by simp at he; rw [he]; exact hI)
  have ha := hid hI.2.1
  clear hI
  obtain ⟨W, hW⟩ : ∃ W, W = w.alloc (.cells #[.int .i64 a, .int .i64 d, .string t] 23) := ⟨_, rfl⟩
  have bW : Below w.heap.size w W := by rw [hW]; exact (Below.refl _ _).alloc (Nat.le_refl _) _
  have hsz : W.heap.size = w.heap.size + 1 := by rw [hW]; simp
  have X := hid (show ∀ W', Below W.heap.size W W' → Bx W' w.heap.size (a, d, t) from fun W' h => (show Bx W w.heap.size (a, d, t) by rw [hW]; exact alloc_new _ _).below h)
  have HW := hid hW
  clear hW
  have hle := bW.size
  go_enter Try.func11, Try.ntmps11
  go_wp2_with fail
  rw [← HW.out]
  refine (awake_any W).mono ?_
  rintro e w1 ⟨rfl, hb1⟩
  obtain ⟨k00, k01, k02⟩ := (X.out _ hb1).cells
  go_wp2_with fail
  have b1' : Below W.heap.size W (w1.alloc (.cells (ecells [(a, d, t)]).toArray 23)) := hb1.alloc hb1.size _
  refine (few_any s (some ⟨w1.heap.size, 0, none⟩) 1 1 [(a, d, t)] _ (In.few HI'.out) (row_blk (alloc_new _ _) rfl)).mono ?_
  rintro e w1' ⟨rfl, rfl⟩
  obtain ⟨u, hu⟩ : ∃ u, u = w1.alloc (.cells (ecells [(a, d, t)]).toArray 23) := ⟨_, rfl⟩
  rw [show w1.alloc _ = u from hu.symm]
  rw [← hu] at b1'
  clear hu k00 k01 k02
  obtain ⟨k00, k01, k02⟩ := (X.out _ b1').cells
  by_cases hF : Few s [(a, d, t)]
  · rw [decide_eq_true hF]
    have hS := hid hF.sum
    have hs := hid (show s.size ≤ 1000000 by have := hS.out; omega)
    have ht := hid (show t.size ≤ 1000000 by have := hS.out; simp only [sz] at this; omega)
    have hS2 := hid (show s.size + sz [(a, d, ({ data := #[] } : ByteArray)), (a, 0, t)] ≤ 1000000 by have := hS.out; simp only [sz, show ByteArray.size { data := #[] } = 0 from rfl] at *; omega)
    have hB2 := hid (show Big [(a, d, ({ data := #[] } : ByteArray)), (a, 0, t)] by intro x hx; simp at hx; rcases hx with rfl | rfl <;> exact ha.out)
    clear hF
    go_wp2_with fail
    by_cases hf : Fit s.size (a, d, t)
    · obtain ⟨q1, q2⟩ := split_all hf
      have HF := hid hf
      have Q1 := hid q1
      have Q2 := hid q2
      clear hf q1 q2
      refine (fits_yes a d s t u hs.out HF.out).mono ?_
      rintro e w2 ⟨rfl, b2⟩
      have hb2 := b1'.trans (b2.mono b1'.size)
      clear k00 k01 k02
      obtain ⟨k00, k01, k02⟩ := (X.out _ hb2).cells
      obtain ⟨n00, n01, n02⟩ := (X.out _ (hb2.alloc hb2.size (.cells #[.int .i64 a, .int .i64 d, .string { data := #[] }, .int .i64 a, .int .i64 0, .string t] 23))).cells
      go_wp2_with fail
      clear k00 k01 k02 n00 n01 n02
      have R3 := row_blk (W := w2.alloc (.cells (ecells [(a, d, ({ data := #[] } : ByteArray)), (a, 0, t)]).toArray 23)) (alloc_new _ _) (n := 2) rfl
      have hb3 := hb2.alloc hb2.size (.cells (ecells [(a, d, ({ data := #[] } : ByteArray)), (a, 0, t)]).toArray 23)
      obtain ⟨z, hz⟩ : ∃ z, z = w2.alloc (.cells (ecells [(a, d, ({ data := #[] } : ByteArray)), (a, 0, t)]).toArray 23) := ⟨_, rfl⟩
      rw [show w2.alloc (.cells #[.int .i64 a, .int .i64 d, .string { data := #[] }, .int .i64 a, .int .i64 0, .string t] 23) = z from hz.symm]
      rw [← hz] at R3 hb3
      clear hz
      refine (apply_any s t a d z hs.out ht.out ha.out).mono ?_
      rintro e w3 ⟨rfl, b3⟩
      have hb4 := hb3.trans (b3.mono hb3.size)
      rw [apv_yes HF.out]
      have R4 := R3.below b3
      clear R3
      go_wp2_with fail
      refine (applyAll_any s (some ⟨w2.heap.size, 0, none⟩) 2 2 _ w3 (by decide) hS2.out hB2.out R4).mono ?_
      rintro e w4 ⟨rfl, b4⟩
      have hb5 := hb4.trans (b4.mono hb4.size)
      rw [Q1.out]
      unfold alv
      have R5 := R4.below b4
      clear R4
      go_wp2_with fail
      refine (compose_any s (some ⟨w2.heap.size, 0, none⟩) 2 2 _ w4 (by decide) hS2.out hB2.out R5).mono ?_
      rintro e w5 ⟨rfl, b5⟩
      have hb6 := hb5.trans (b5.mono hb5.size)
      rw [Q2.out]
      unfold cmv edv
      have hl6 := heap_lt (X.out _ hb6)
      obtain ⟨k00, k01, k02⟩ := (X.out _ hb6).cells
      clear R5
      go_wp2
      go_ret
      exact ⟨rfl, bW.trans ((hb6.alloc hb6.size _).mono hle)⟩
    · have HF := hid hf
      clear hf
      refine (fits_no a d s t u hs.out HF.out).mono ?_
      rintro e w2 ⟨rfl, b2⟩
      have hb2 := b1'.trans (b2.mono b1'.size)
      go_wp2
      go_ret
      exact ⟨rfl, bW.trans (hb2.mono hle)⟩
  · rw [decide_eq_false hF]
    go_wp2
    go_ret
    exact ⟨rfl, bW.trans (b1'.mono hle)⟩

theorem lifted (os : Os) (started : os.Started) (H : Type) (enc : TypeId × Value → H) :
    ReturnsInHanded {} Try.checked os 11 .any (Rows.texteditSplitSpec.pre6 enc Try.prog Try.f11 Rows.texteditSplitRow.domain false) (Rows.texteditSplitSpec.post enc Try.prog Try.f11 false true false false) := by
  refine Go.Frame.lifted (C := Try.checked) (tb := 4) own started (by kernel_rfl) Try.func11
    (ChangeSpec.witness6 (enc := enc) (C := Try.checked) false ⟨#[], #[.string ByteArray.empty, .agg #[.int .i64 0, .int .i64 0, .string ByteArray.empty]], []⟩ 8 (by kernel_rfl) (by kernel_rfl) (by kernel_rfl) (by kernel_rfl))
    laidOut (by kernel_rfl) (by kernel_rfl) Try.underlying4 rfl ?_ ?_
  · intro ds h
    have h : ds.length = 2 := h
    match ds, h with
    | [_, _], _ => rfl
  · intro W base args ds p hlen hval0 hA hsz0
    have hval : ∀ (j : Nat) t v, Try.f11.params[j]? = some t → args[j]? = some v → Value.okWide Try.prog W .any base t v := hval0
    have hA : DataW.TrodAll enc Try.prog W 0 (fun _ => true) true Try.f11.params.toList args.toList ds p := hA
    have hsz : (DataW.weightsEach Try.prog Try.f11.params.toList ds).all (· ≤ reachBytes) = true := hsz0
    rw [Try.params11] at hA hval hsz
    obtain ⟨v0, vs0, d0, ds0, p0, q0, hargs, hds, _, th0, tr0⟩ := trodAll_cons hA
    obtain ⟨v1, vs1, d1, ds1, p1, q1, rfl, rfl, _, th1, tr1⟩ := trodAll_cons tr0
    obtain ⟨rfl, rfl, _⟩ := trodAll_nil tr1
    obtain rfl : args = #[v0, v1] := by cases args; simp_all
    subst hds
    obtain ⟨t0, rfl, _, _, _⟩ := open_string Try.underlying9 (hval 0 9 v0 rfl rfl) th0
    obtain ⟨a1, d1, s1, rfl, h1⟩ := open_edit (hval 1 23 v1 rfl rfl) th1 (fun n hn => of_decide_eq_true (List.all_eq_true.1 hsz _ (DataW.weights_mem_each (j := 1) rfl rfl n hn)))
    exact walk t0 a1 d1 s1 W h1

theorem over : Rows.texteditSplitRow.holds Try.pinned (OpenSpec.ofChange Rows.texteditSplitSpec) :=
  OpenClaim.holds_of_wide 11 Try.f11 rfl rfl rfl rfl rfl rfl rfl ⟨rfl, rfl, rfl, rfl, rfl⟩ rfl rfl rfl rfl rfl (by kernel_rfl) Try.func11 (by kernel_rfl)
    (of_decide_eq_true (by kernel_rfl)) (by unfold Func.isWrapper; first | (rw [if_pos (by decide +kernel)]; kernel_rfl) | (rw [if_neg (by decide +kernel)]; exact ⟨rfl, rfl⟩))
    (fun os started H enc _ => lifted os started H enc)

/-- THE STATEMENT -/
theorem proved : Rows.TexteditSplitSaid :=
  over
#print axioms proved
end Go.Proofs.Ytclebcpapcoafaa.texteditSplit
