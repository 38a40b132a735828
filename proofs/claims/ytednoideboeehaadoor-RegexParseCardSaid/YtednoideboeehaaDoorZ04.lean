/-
  Contracts: IndexFunc, ContainsFunc, nullable, Nullable.
  Contracts: the reference's valid, shallow, Depth, Equal; Few, small.
  Contracts: the reference's Valid, shallow, Few, Depth, Equal; small.
  Contracts: the reference's Equal; small.
  Arguments opened, whatever the seat: a slice whose elements take several cells; what each element is (no program; lies as <Seat>Op, behind <Seat>Ba).
  The frame of a law whose row lists variables: a walk that ends in 'true' with old memory as it was, given what the list says of the world, gives the row; the tied card out of it (no program; lies as <Seat>La, behind <Seat>Fr).
-/
import Derived.Test.YtednoideboeehaaDoorZ03
import Derived.Test.YtednoideboeehaaDoorZ01
import Derived.ChangeOld
import Derived.Deep.Slices
import Derived.Deep.Strs
import Derived.Lib.SmallJoins
import Derived.LaidMore
import Derived.Stop.Joined
import Derived.SevenTiedAt
section
set_option linter.unusedSimpArgs false
set_option linter.unusedVariables false
namespace Go.Proofs.YtednoideboeehaaDoor
open Go.RowKit Bs Rg Go.Frame
attribute [local go_sem] eq_zero eq_set

set_option maxRecDepth 100000 in
set_option maxHeartbeats 4000000 in
/-- slices.IndexFunc over a row of expressions: whether some kid has the property. -/
theorem IndexFunc_any (g : Nat → Prop) (F : Nat) (p : Rx → Bool) (l : List Rx) (a : Option Addr) (n c : Nat) (w : World) (hK : Kd g w a n l) (hF0 : F = 48 ∨ F = 70)
    (hF : ∀ x ∈ l, ∀ (V : World) (cs : List Value), RC g V x cs → Calls Tryd.prog F #[.agg cs.toArray] V fun e w' => e = .returned (.bool (p x)) ∧ Below V.heap.size V w') :
    Calls Tryd.prog 88 #[.slice a n c, .func (.func F) #[] #[]] w fun e w' => (∃ j : Int, e = .returned (.int .i64 j) ∧ (decide (0 ≤ j) = l.any p)) ∧ Below w.heap.size w w' := by
  rcases hF0 with rfl | rfl
  all_goals
    have hln := hid hK.len
    have hnl := hK.lt
    have HK := hid hK
    have HF := hid hF
    clear hK hF
    go_enter Tryd.func88, Tryd.ntmps88
    go_wp2_with fail
    go_loopg [8] n (fun k sl wr => ∃ i : Nat, sl = .int .i64 i ∧ i + k = n ∧ (∀ y ∈ l.take i, p y = false) ∧ Below w.heap.size w wr)
    case atStart => exact ⟨0, rfl, by omega, by simp, Below.refl _ _⟩
    case round =>
      obtain ⟨i, rfl, hk, hall, hbw⟩ := hrel
      by_cases hlt : i < n
      · have hlt' : (i : Int) < (n : Int) := by omega
        obtain ⟨b, off, k', s', l', a', n', c', rfl, _, hb, hx, hK', q0, q1, q2, q3, q4, q5⟩ := (HK.out.below hbw).get hlt
        have HX := hid (And.intro hx (And.intro hK' (And.intro hbw hall)))
        clear hx hK' hbw hall
        have CR := hid (HF.out _ (List.mem_of_getElem? HX.out.1) wr _ (RC_mk.2 ⟨a', n', c', rfl, HX.out.2.1⟩))
        go_wp2_with fail
        refine CR.out.mono ?_
        rintro e W2 ⟨rfl, b2⟩
        have HB := hid (HX.out.2.2.1.trans (b2.mono HX.out.2.2.1.size))
        clear b2
        cases hf : p (.mk k' s' l')
        · go_wp2
          go_roundg (gk - 1)
          case measure => omega
          case rel => exact ⟨i + 1, by go_num, by omega, take_all HX.out.2.2.2 HX.out.1 hf, HB.out⟩
        · go_wp2
          go_ret
          refine ⟨⟨_, rfl, ?_⟩, HB.out⟩
          have : l.any p = true := List.any_eq_true.2 ⟨_, List.mem_of_getElem? HX.out.1, hf⟩
          rw [this]
          simp
      · have hin : ¬ (i : Int) < (n : Int) := by omega
        have HX := hid (And.intro hall hbw)
        clear hall hbw
        go_wp2
        go_ret
        refine ⟨⟨_, rfl, ?_⟩, HX.out.2⟩
        have : l.any p = false := by
          rw [List.any_eq_false]
          intro x hx
          rw [take_full HX.out.1 hln.out (by omega) x hx]
          simp
        rw [this]
        rfl

set_option maxRecDepth 100000 in
set_option maxHeartbeats 4000000 in
theorem ContainsFunc_any (g : Nat → Prop) (F : Nat) (p : Rx → Bool) (l : List Rx) (a : Option Addr) (n c : Nat) (w : World) (hK : Kd g w a n l) (hF0 : F = 48 ∨ F = 70)
    (hF : ∀ x ∈ l, ∀ (V : World) (cs : List Value), RC g V x cs → Calls Tryd.prog F #[.agg cs.toArray] V fun e w' => e = .returned (.bool (p x)) ∧ Below V.heap.size V w') :
    Calls Tryd.prog 69 #[.slice a n c, .func (.func F) #[] #[]] w fun e w' => e = .returned (.bool (l.any p)) ∧ Below w.heap.size w w' := by
  have CI := hid (IndexFunc_any g F p l a n c w hK hF0 hF)
  clear hK hF
  rcases hF0 with rfl | rfl
  all_goals
    go_enter Tryd.func69, Tryd.ntmps69
    go_wp2_with fail
    refine CI.out.mono ?_
    rintro e W ⟨⟨j, rfl, hj⟩, b⟩
    have HJ := hid (And.intro hj b)
    clear hj b
    go_wp2
    go_ret
    exact ⟨by rw [← HJ.out.1]; rfl, HJ.out.2⟩

set_option maxRecDepth 100000 in
set_option maxHeartbeats 4000000 in
theorem nullable_any (g : Nat → Prop) (r : Rx) : ∀ (w : World) (cs : List Value), RC g w r cs →
    Calls Tryd.prog 48 #[.agg cs.toArray] w fun e w' => e = .returned (.bool (nul r)) ∧ Below w.heap.size w w' := by
  induction r using Rx.ind with
  | h k s l ih =>
  intro w cs h
  obtain ⟨a, n, c, rfl, hK⟩ := RC_mk.1 h
  clear h
  show Calls Tryd.prog 48 #[.agg #[.int .i64 k, .int .u64 (ws s 0 : Int), .int .u64 (ws s 1 : Int), .int .u64 (ws s 2 : Int), .int .u64 (ws s 3 : Int), .slice a n c]] w _
  have b1 : Below w.heap.size w (w.alloc (.cells #[.int .i64 k, .int .u64 (ws s 0 : Int), .int .u64 (ws s 1 : Int), .int .u64 (ws s 2 : Int), .int .u64 (ws s 3 : Int), .slice a n c] 27)) := (Below.refl _ _).alloc (Nat.le_refl _) _
  have C4 := hid (fun V (hV : Below w.heap.size w V) => ContainsFunc_any g 70 (fun x => !nul x) l a n c V (hK.below hV) (.inr rfl) (fun x hx V cs hc => by
    obtain ⟨k', s', l'⟩ := x
    obtain ⟨a', n', c', rfl, hK'⟩ := RC_mk.1 hc
    have b1' : ∀ o, Below V.heap.size V (V.alloc o) := fun o => (Below.refl _ _).alloc (Nat.le_refl _) o
    have CI := hid (fun U (hU : Below V.heap.size V U) => ih _ hx U _ (RC_mk.2 ⟨a', n', c', rfl, hK'.below hU⟩))
    clear hK' hc
    show Calls Tryd.prog 70 #[.agg #[.int .i64 k', .int .u64 (ws s' 0 : Int), .int .u64 (ws s' 1 : Int), .int .u64 (ws s' 2 : Int), .int .u64 (ws s' 3 : Int), .slice a' n' c']] V _
    go_enter Tryd.func70, Tryd.ntmps70
    go_wp2_with fail
    refine (CI.out _ (b1' _)).mono ?_
    rintro e W ⟨rfl, b2⟩
    have B := hid ((b1' _).trans (b2.mono (b1' _).size))
    clear b2
    go_wp2
    go_ret
    exact ⟨rfl, B.out⟩))
  have C5 := hid (fun V (hV : Below w.heap.size w V) => ContainsFunc_any g 48 nul l a n c V (hK.below hV) (.inl rfl) (fun x hx V cs hc => ih x hx V cs hc))
  have B1 := hid b1
  clear hK ih b1
  obtain ⟨q, hq⟩ : ∃ q, q = nul (.mk k s l) := ⟨_, rfl⟩
  rw [← hq]
  rw [nul] at hq
  have hk : k = 2 ∨ k = 6 ∨ k = 4 ∨ k = 5 ∨ (k ≠ 2 ∧ k ≠ 6 ∧ k ≠ 4 ∧ k ≠ 5) := by omega
  rcases hk with rfl | rfl | rfl | rfl | ⟨h2, h6, h4, h5⟩
  · have HQ := hid hq
    clear hq
    go_enter Tryd.func48, Tryd.ntmps48
    go_wp2_with fail
    go_ret
    exact ⟨by rw [HQ.out]; rfl, B1.out⟩
  · have HQ := hid hq
    clear hq
    go_enter Tryd.func48, Tryd.ntmps48
    go_wp2_with fail
    go_ret
    exact ⟨by rw [HQ.out]; rfl, B1.out⟩
  · have HQ := hid (show q = !l.any (fun x => !nul x) by
      rw [hq]
      simp
      rw [Bool.eq_iff_iff, nulC_iff]
      simp)
    clear hq
    go_enter Tryd.func48, Tryd.ntmps48
    go_wp2_with fail
    refine (C4.out _ B1.out).mono ?_
    rintro e W ⟨rfl, b2⟩
    have B := hid (B1.out.trans (b2.mono B1.out.size))
    clear b2
    go_wp2
    go_ret
    exact ⟨by rw [HQ.out]; rfl, B.out⟩
  · have HQ := hid (show q = l.any nul by
      rw [hq]
      simp
      rw [Bool.eq_iff_iff, nulU_iff]
      simp)
    clear hq
    go_enter Tryd.func48, Tryd.ntmps48
    go_wp2_with fail
    refine (C5.out _ B1.out).mono ?_
    rintro e W ⟨rfl, b2⟩
    have B := hid (B1.out.trans (b2.mono B1.out.size))
    clear b2
    go_wp2
    go_ret
    exact ⟨by rw [HQ.out]; rfl, B.out⟩
  · have HQ := hid (show q = false by rw [hq]; simp [h2, h6, h4, h5])
    clear hq
    go_enter Tryd.func48, Tryd.ntmps48
    go_wp2_with fail
    go_ret
    exact ⟨by rw [HQ.out]; rfl, B1.out⟩

set_option maxRecDepth 100000 in
set_option maxHeartbeats 4000000 in
theorem Nullable_any (g : Nat → Prop) (r : Rx) (w : World) (cs : List Value) (h : RC g w r cs) (hf : fits r 32 = true) :
    Calls Tryd.prog 25 #[.agg cs.toArray] w fun e w' => e = .returned (.bool (nul r)) ∧ Below w.heap.size w w' := by
  obtain ⟨k, s, l⟩ := r
  obtain ⟨a, n, c, rfl, hK⟩ := RC_mk.1 h
  have b1 : ∀ o, Below w.heap.size w (w.alloc o) := fun o => (Below.refl _ _).alloc (Nat.le_refl _) o
  have CM := hid (fun V (hV : Below w.heap.size w V) => matchable_any g (.mk k s l) V _ (RC_mk.2 ⟨a, n, c, rfl, hK.below hV⟩))
  have CN := hid (fun V (hV : Below w.heap.size w V) => nullable_any g (.mk k s l) V _ (RC_mk.2 ⟨a, n, c, rfl, hK.below hV⟩))
  have HF := hid hf
  have x0 := hid (alloc_new w (.cells #[.int .i64 k, .int .u64 (ws s 0 : Int), .int .u64 (ws s 1 : Int), .int .u64 (ws s 2 : Int), .int .u64 (ws s 3 : Int), .slice a n c] 27))
  clear hK h hf
  show Calls Tryd.prog 25 #[.agg #[.int .i64 k, .int .u64 (ws s 0 : Int), .int .u64 (ws s 1 : Int), .int .u64 (ws s 2 : Int), .int .u64 (ws s 3 : Int), .slice a n c]] w _
  go_enter Tryd.func25, Tryd.ntmps25
  go_wp2_with fail
  refine (CM.out _ (b1 _)).mono ?_
  rintro e W ⟨rfl, b2⟩
  rw [HF.out]
  have y0 := (b2.block _ (heap_lt x0.out)).trans x0.out
  have z0 : W.cell? ⟨w.heap.size, 0, none⟩ = some (.int .i64 k) := by simp [World.cell?, y0]
  have z1 : W.cell? ⟨w.heap.size, 1, none⟩ = some (.int .u64 (ws s 0 : Int)) := by simp [World.cell?, y0]
  have z2 : W.cell? ⟨w.heap.size, 2, none⟩ = some (.int .u64 (ws s 1 : Int)) := by simp [World.cell?, y0]
  have z3 : W.cell? ⟨w.heap.size, 3, none⟩ = some (.int .u64 (ws s 2 : Int)) := by simp [World.cell?, y0]
  have z4 : W.cell? ⟨w.heap.size, 4, none⟩ = some (.int .u64 (ws s 3 : Int)) := by simp [World.cell?, y0]
  have z5 : W.cell? ⟨w.heap.size, 5, none⟩ = some (.slice a n c) := by simp [World.cell?, y0]
  have B := hid ((b1 _).trans (b2.mono (b1 _).size))
  clear b2 y0
  go_wp2_with fail
  refine (CN.out _ B.out).mono ?_
  rintro e W3 ⟨rfl, b3⟩
  have B3 := hid (B.out.trans (b3.mono B.out.size))
  clear b3 z0 z1 z2 z3 z4 z5
  go_wp2
  go_ret
  exact ⟨rfl, B3.out⟩
end Go.Proofs.YtednoideboeehaaDoor
end
section
set_option linter.unusedSimpArgs false
set_option linter.unusedVariables false
namespace Go.Proofs.YtednoideboeehaaDoor
open Go.RowKit Bs Rg Go.Frame
attribute [local go_sem] eq_zero eq_set

theorem cells6 {W : World} {b : Nat} {x0 x1 x2 x3 x4 x5 : Value} {t : TypeId} (h : W.heap[b]? = some (.cells #[x0, x1, x2, x3, x4, x5] t (0, 0))) : W.cell? ⟨b, 0, none⟩ = some x0 ∧ W.cell? ⟨b, 1, none⟩ = some x1 ∧ W.cell? ⟨b, 2, none⟩ = some x2 ∧ W.cell? ⟨b, 3, none⟩ = some x3 ∧ W.cell? ⟨b, 4, none⟩ = some x4 ∧ W.cell? ⟨b, 5, none⟩ = some x5 := by
  refine ⟨?_, ?_, ?_, ?_, ?_, ?_⟩ <;> simp [World.cell?, h]

set_option maxRecDepth 100000 in
set_option maxHeartbeats 4000000 in
theorem rvalid_no (k : Int) (s : BS) (a : Option Addr) (n c : Nat) (w : World) (v : Int) (hn : n < 140737488355328) (h : v < 30 → shaped k s n = false) :
    Calls Tryd.prog 30 #[.agg #[.int .i64 k, .int .u64 (ws s 0 : Int), .int .u64 (ws s 1 : Int), .int .u64 (ws s 2 : Int), .int .u64 (ws s 3 : Int), .slice a n c], .int .i64 v] w fun e w' => e = .returned (.bool false) ∧ Below w.heap.size w w' := by
  have hk : k = 1 ∨ k = 2 ∨ k = 3 ∨ k = 4 ∨ k = 5 ∨ k = 6 ∨ (k ≠ 1 ∧ k ≠ 2 ∧ k ≠ 3 ∧ k ≠ 4 ∧ k ≠ 5 ∧ k ≠ 6) := by omega
  have hn : n = 0 ∨ n = 1 ∨ ((2 : Int) ≤ n ∧ ¬ (n : Int) < 2 ∧ ¬ (n : Int) = 0 ∧ ¬ (n : Int) = 1 ∧ ¬ n = 0 ∧ ¬ n = 1 ∧ 2 ≤ n) := by omega
  by_cases hv : v < 30
  · have h := h hv
    have hv' : ¬ 30 ≤ v := by omega
    rcases hk with rfl | rfl | rfl | rfl | rfl | rfl | ⟨h1, h2, h3, h4, h5, h6⟩ <;> rcases hn with rfl | rfl | ⟨n1, n2, n3, n4, n5, n6, n7⟩ <;> cases he : emp s
    all_goals try (exfalso; simp [shaped, *] at h; done)
    all_goals
      clear h
      go_enter Tryd.func30, Tryd.ntmps30
      go_wp2
    all_goals
      go_ret
      exact ⟨by first | rfl | simp [*], (Below.refl _ _).alloc (Nat.le_refl _) _⟩
  · have hv' : 30 ≤ v := by omega
    clear hk hn h
    go_enter Tryd.func30, Tryd.ntmps30
    go_wp2
    go_ret
    exact ⟨rfl, (Below.refl _ _).alloc (Nat.le_refl _) _⟩

set_option maxRecDepth 100000 in
set_option maxHeartbeats 4000000 in
theorem rvalid_any (g : Nat → Prop) (r : Rx) : ∀ (d : Nat) (v : Int) (w : World) (cs : List Value), v = 30 - (d : Int) → d ≤ 30 → RC g w r cs →
    Calls Tryd.prog 30 #[.agg cs.toArray, .int .i64 v] w fun e w' => e = .returned (.bool (fits r d)) ∧ Below w.heap.size w w' := by
  induction r using Rx.ind with
  | h k s l ih =>
  intro d v w cs hv hd h
  obtain ⟨a, n, c, rfl, hK⟩ := RC_mk.1 h
  clear h
  show Calls Tryd.prog 30 #[.agg #[.int .i64 k, .int .u64 (ws s 0 : Int), .int .u64 (ws s 1 : Int), .int .u64 (ws s 2 : Int), .int .u64 (ws s 3 : Int), .slice a n c], .int .i64 v] w _
  obtain ⟨q, hq⟩ : ∃ q, q = fits (.mk k s l) d := ⟨_, rfl⟩
  rw [← hq]
  cases d with
  | zero =>
    rw [fits_zero] at hq
    rw [hq]
    exact rvalid_no k s a n c w v hK.lt (fun h => by omega)
  | succ d =>
    rw [fits_mk, hK.len] at hq
    cases hs : shaped k s n with
    | false =>
      rw [hs, Bool.false_and] at hq
      rw [hq]
      exact rvalid_no k s a n c w v hK.lt (fun _ => hs)
    | true =>
      rw [hs, Bool.true_and] at hq
      have hln := hid hK.len
      have hnl := hK.lt
      have hv0 : ¬ 30 ≤ v := by omega
      have hv1 : IntKind.i64.wrap (v + 1) = v + 1 := by rw [wrapIn] <;> omega
      have IH := hid fun x hx W cs hc => ih x hx d (v + 1) W cs (by omega) (by omega) hc
      obtain ⟨W, hW⟩ : ∃ W, W = w.alloc (.cells #[.int .i64 k, .int .u64 (ws s 0 : Int), .int .u64 (ws s 1 : Int), .int .u64 (ws s 2 : Int), .int .u64 (ws s 3 : Int), .slice a n c] 27) := ⟨_, rfl⟩
      have bW : Below w.heap.size w W := by rw [hW]; exact (Below.refl _ _).alloc (Nat.le_refl _) _
      have x0 : W.heap[w.heap.size]? = some (.cells #[.int .i64 k, .int .u64 (ws s 0 : Int), .int .u64 (ws s 1 : Int), .int .u64 (ws s 2 : Int), .int .u64 (ws s 3 : Int), .slice a n c] 27 (0, 0)) := by rw [hW]; exact alloc_new _ _
      have HK := hid (And.intro (hK.below bW) (And.intro bW x0))
      have F := hid hq
      have he : k ≠ 3 → emp s = true := fun h3 => emp_iff.2 (shaped_emp hs h3)
      have hk : ((k = 1 ∨ k = 2) ∧ n = 0 ∧ emp s = true) ∨ (k = 3 ∧ n = 0 ∧ emp s = false) ∨ ((k = 4 ∨ k = 5) ∧ ¬ (n : Int) < 2 ∧ emp s = true) ∨ (k = 6 ∧ n = 1 ∧ emp s = true) := by
        rcases shaped_kind hs with rfl | rfl | rfl | rfl | rfl | rfl
        · exact .inl ⟨.inl rfl, shaped_leaf hs (by simp), he (by decide)⟩
        · exact .inl ⟨.inr rfl, shaped_leaf hs (by simp), he (by decide)⟩
        · exact .inr (.inl ⟨rfl, shaped_leaf hs (by simp), by simp [shaped] at hs; exact hs.2⟩)
        · exact .inr (.inr (.inl ⟨.inl rfl, by have := shaped_two hs (by simp); omega, he (by decide)⟩))
        · exact .inr (.inr (.inl ⟨.inr rfl, by have := shaped_two hs (by simp); omega, he (by decide)⟩))
        · exact .inr (.inr (.inr ⟨rfl, shaped_star hs, he (by decide)⟩))
      clear hK ih bW x0 hq hs he hv
      rcases hk with ⟨rfl | rfl, rfl, he⟩ | ⟨rfl, rfl, he⟩ | ⟨rfl | rfl, hn2, he⟩ | ⟨rfl, rfl, he⟩
      · go_enter Tryd.func30, Tryd.ntmps30
        go_wp2
        go_ret
        rw [← hW]
        have hl : l = [] := List.eq_nil_of_length_eq_zero hln.out
        exact ⟨by rw [F.out, hl, fitsL]; rfl, HK.out.2.1⟩
      · go_enter Tryd.func30, Tryd.ntmps30
        go_wp2
        go_ret
        rw [← hW]
        have hl : l = [] := List.eq_nil_of_length_eq_zero hln.out
        exact ⟨by rw [F.out, hl, fitsL]; rfl, HK.out.2.1⟩
      · go_enter Tryd.func30, Tryd.ntmps30
        go_wp2
        go_ret
        rw [← hW]
        have hl : l = [] := List.eq_nil_of_length_eq_zero hln.out
        exact ⟨by rw [F.out, hl, fitsL]; rfl, HK.out.2.1⟩
      all_goals
        try rw [show ((1 : Nat) : Int) = 1 from rfl] at *
        go_enter Tryd.func30, Tryd.ntmps30
        go_wp2_with fail
        rw [← hW]
        go_loopg [6] l.length (fun k sl wr => ∃ i : Nat, sl = .int .i64 i ∧ i + k = l.length ∧ (∀ y ∈ l.take i, fits y d = true) ∧ Below W.heap.size W wr)
        case atStart => exact ⟨0, rfl, by omega, by simp, Below.refl _ _⟩
        case round =>
          obtain ⟨i, rfl, hk, hall, hbw⟩ := hrel
          have hlen := hln.out
          by_cases hlt : i < l.length
          · have hlt' : (i : Int) < (l.length : Int) := by omega
            rw [hlen] at hlt'
            try rw [show ((1 : Nat) : Int) = 1 from rfl] at hlt'
            obtain ⟨b, off, k', s', l', a', n', c', rfl, _, hb, hx, hK', q0, q1, q2, q3, q4, q5⟩ := (HK.out.1.below hbw).get (i := i) (by omega)
            have c5 := (cells6 ((hbw.block _ (heap_lt HK.out.2.2)).trans HK.out.2.2)).2.2.2.2.2
            have HX := hid (And.intro hx (And.intro hK' (And.intro hbw hall)))
            have CR := hid (IH.out _ (List.mem_of_getElem? HX.out.1) wr _ (RC_mk.2 ⟨a', n', c', rfl, HX.out.2.1⟩))
            clear hx hK' hbw hall hlen
            go_wp2_with fail
            refine CR.out.mono ?_
            rintro e W2 ⟨rfl, b2⟩
            have HB := hid (HX.out.2.2.1.trans (b2.mono HX.out.2.2.1.size))
            clear b2
            cases hf : fits (.mk k' s' l') d
            · go_wp2
              go_ret
              refine ⟨?_, HK.out.2.1.trans (HB.out.mono HK.out.2.1.size)⟩
              have : q = false := by
                rw [F.out, ← Bool.not_eq_true, fitsL_iff]
                intro h
                have := h _ (List.mem_of_getElem? HX.out.1)
                rw [hf] at this; cases this
              rw [this]; rfl
            · go_wp2
              go_roundg (gk - 1)
              case measure => omega
              case rel => exact ⟨i + 1, by go_num, by omega, take_all HX.out.2.2.2 HX.out.1 hf, HB.out⟩
          · have hin : ¬ (i : Int) < (l.length : Int) := by omega
            rw [hlen] at hin
            try rw [show ((1 : Nat) : Int) = 1 from rfl] at hin
            have HX := hid (And.intro hall hbw)
            clear hall hbw hlen
            go_wp2
            go_ret
            refine ⟨?_, HK.out.2.1.trans (HX.out.2.mono HK.out.2.1.size)⟩
            have : q = true := by
              rw [F.out, fitsL_iff]
              exact take_full HX.out.1 rfl (by omega)
            rw [this]; rfl
end Go.Proofs.YtednoideboeehaaDoor
end
section
set_option linter.unusedSimpArgs false
set_option linter.unusedVariables false
namespace Go.Proofs.YtednoideboeehaaDoor
open Go.RowKit Bs Rg Go.Frame
attribute [local go_sem] eq_zero eq_set

theorem bel1 (w : World) (o : Obj) : Below w.heap.size w (w.alloc o) := (Below.refl _ _).alloc (Nat.le_refl _) o
theorem shL_neg {l : List Rx} {lv : Nat} {c : Int} (h : c < 0) : shL l lv c = c := by
  cases l with
  | nil => rw [shL]
  | cons x l => rw [shL, if_pos h]

set_option maxRecDepth 100000 in
set_option maxHeartbeats 4000000 in
theorem rValid_any (g : Nat → Prop) (r : Rx) (w : World) (cs : List Value) (h : RC g w r cs) :
    Calls Tryd.prog 15 #[.agg cs.toArray] w fun e w' => e = .returned (.bool (fits r 30)) ∧ Below w.heap.size w w' := by
  obtain ⟨k, s, l⟩ := r
  obtain ⟨a, n, c, rfl, hK⟩ := RC_mk.1 h
  have CF := hid (fun V (hV : Below w.heap.size w V) => rvalid_any g (.mk k s l) 30 0 V _ rfl (by decide) (RC_mk.2 ⟨a, n, c, rfl, hK.below hV⟩))
  clear hK h
  show Calls Tryd.prog 15 #[.agg #[.int .i64 k, .int .u64 (ws s 0 : Int), .int .u64 (ws s 1 : Int), .int .u64 (ws s 2 : Int), .int .u64 (ws s 3 : Int), .slice a n c]] w _
  go_enter Tryd.func15, Tryd.ntmps15
  go_wp2_with fail
  refine (CF.out _ (bel1 _ _)).mono ?_
  rintro e W ⟨rfl, b2⟩
  have B := hid ((bel1 w _).trans (b2.mono (bel1 w _).size))
  clear b2
  go_wp2
  go_ret
  exact ⟨rfl, B.out⟩

set_option maxRecDepth 100000 in
set_option maxHeartbeats 4000000 in
theorem shallow_any (g : Nat → Prop) (r : Rx) : ∀ (lv : Nat) (left : Int) (w : World) (cs : List Value), lv ≤ 51 → -1 ≤ left → left ≤ 1000000 → RC g w r cs →
    Calls Tryd.prog 28 #[.agg cs.toArray, .int .i64 (lv : Int), .int .i64 left] w fun e w' => e = .returned (.int .i64 (sh r lv left)) ∧ Below w.heap.size w w' := by
  induction r using Rx.ind with
  | h k s l ih =>
  intro lv left w cs hlv hl0 hl1 h
  obtain ⟨a, n, c, rfl, hK⟩ := RC_mk.1 h
  clear h
  show Calls Tryd.prog 28 #[.agg #[.int .i64 k, .int .u64 (ws s 0 : Int), .int .u64 (ws s 1 : Int), .int .u64 (ws s 2 : Int), .int .u64 (ws s 3 : Int), .slice a n c], .int .i64 (lv : Int), .int .i64 left] w _
  obtain ⟨q, hq⟩ : ∃ q, q = sh (.mk k s l) lv left := ⟨_, rfl⟩
  rw [← hq]
  rw [sh] at hq
  by_cases h1 : 50 < lv
  · have h1' : (50 : Int) < (lv : Int) := by omega
    have F := hid (show q = -1 by rw [hq, if_pos (.inl h1)])
    clear hq hK ih
    go_enter Tryd.func28, Tryd.ntmps28
    go_wp2
    go_ret
    exact ⟨by rw [F.out]; rfl, bel1 _ _⟩
  · have h1' : ¬ (50 : Int) < (lv : Int) := by omega
    by_cases h2 : left ≤ 0
    · have F := hid (show q = -1 by rw [hq, if_pos (.inr h2)])
      clear hq hK ih
      go_enter Tryd.func28, Tryd.ntmps28
      go_wp2
      go_ret
      exact ⟨by rw [F.out]; rfl, bel1 _ _⟩
    · have F := hid (show q = shL l (lv + 1) (left - 1) by rw [hq, if_neg (by simp [h1, h2])])
      have hln := hid hK.len
      have hnl := hK.lt
      have hv1 : IntKind.i64.wrap ((lv : Int) + 1) = ((lv + 1 : Nat) : Int) := by rw [wrapIn] <;> omega
      have hv2 : IntKind.i64.wrap (left - 1) = left - 1 := by rw [wrapIn] <;> omega
      have IH := hid fun x hx (cur : Int) (h0 : -1 ≤ cur) (h1 : cur ≤ left) W cs hc => ih x hx (lv + 1) cur W cs (by omega) h0 (by omega) hc
      obtain ⟨W, hW⟩ : ∃ W, W = w.alloc (.cells #[.int .i64 k, .int .u64 (ws s 0 : Int), .int .u64 (ws s 1 : Int), .int .u64 (ws s 2 : Int), .int .u64 (ws s 3 : Int), .slice a n c] 27) := ⟨_, rfl⟩
      have bW : Below w.heap.size w W := by rw [hW]; exact bel1 _ _
      have x0 : W.heap[w.heap.size]? = some (.cells #[.int .i64 k, .int .u64 (ws s 0 : Int), .int .u64 (ws s 1 : Int), .int .u64 (ws s 2 : Int), .int .u64 (ws s 3 : Int), .slice a n c] 27 (0, 0)) := by rw [hW]; exact alloc_new _ _
      have HK := hid (And.intro (hK.below bW) (And.intro bW x0))
      clear hK ih bW x0 hq
      go_enter Tryd.func28, Tryd.ntmps28
      go_wp2_with fail
      rw [← hW]
      go_loopg [2, 7] n (fun k s2 s7 wr => ∃ (i : Nat) (cur : Int), s2 = .int .i64 cur ∧ s7 = .int .i64 i ∧ i + k = n ∧ -1 ≤ cur ∧ cur ≤ left ∧ shL l (lv + 1) (left - 1) = shL (l.drop i) (lv + 1) cur ∧ Below W.heap.size W wr)
      case atStart => exact ⟨0, _, rfl, rfl, by omega, by omega, by omega, by simp, Below.refl _ _⟩
      case round =>
        obtain ⟨i, cur, rfl, rfl, hk, hc0, hc1, hsh, hbw⟩ := hrel
        by_cases hlt : i < n
        · have hlt' : (i : Int) < (n : Int) := by omega
          obtain ⟨b, off, k', s', l', a', n', c', rfl, _, hb, hx, hK', q0, q1, q2, q3, q4, q5⟩ := (HK.out.1.below hbw).get (i := i) hlt
          have c5 := (cells6 ((hbw.block _ (heap_lt HK.out.2.2)).trans HK.out.2.2)).2.2.2.2.2
          by_cases hcn : 0 ≤ cur
          · have hdr : l.drop i = .mk k' s' l' :: l.drop (i + 1) := (List.drop_eq_getElem_cons (by have := hln.out; omega)).trans (by rw [List.getElem?_eq_getElem (by have := hln.out; omega)] at hx; simp at hx; rw [hx])
            have HX := hid (And.intro hx (And.intro hK' (And.intro hbw (show shL l (lv + 1) (left - 1) = shL (l.drop (i + 1)) (lv + 1) (sh (.mk k' s' l') (lv + 1) cur) by rw [hsh, hdr, shL, if_neg (by omega)]))))
            have CR := hid (IH.out _ (List.mem_of_getElem? HX.out.1) cur hc0 hc1 wr _ (RC_mk.2 ⟨a', n', c', rfl, HX.out.2.1⟩))
            have hr0 := (@sh_parts (.mk k' s' l') (lv + 1) cur).1
            have hr1 := @sh_le (.mk k' s' l') (lv + 1) cur
            clear hx hK' hbw hsh hdr
            obtain ⟨z, hz⟩ : ∃ z, z = sh (.mk k' s' l') (lv + 1) cur := ⟨_, rfl⟩
            rw [← hz] at hr0 hr1
            have HZ := hid hz
            clear hz
            go_wp2_with fail
            refine CR.out.mono ?_
            rintro e W2 ⟨rfl, b2⟩
            rw [← HZ.out]
            have HB := hid (HX.out.2.2.1.trans (b2.mono HX.out.2.2.1.size))
            clear b2
            go_wp2
            go_roundg (gk - 1)
            case measure => omega
            case rel => exact ⟨i + 1, z, rfl, by go_num, by omega, hr0, by omega, by rw [HZ.out]; exact HX.out.2.2.2, HB.out⟩
          · have HX := hid (And.intro hsh hbw)
            clear hx hK' hbw hsh
            go_wp2
            go_ret
            exact ⟨by rw [F.out, HX.out.1, shL_neg (by omega)]; rfl, HK.out.2.1.trans (HX.out.2.mono HK.out.2.1.size)⟩
        · have hin : ¬ (i : Int) < (n : Int) := by omega
          have HX := hid (And.intro hsh hbw)
          have c5 := (cells6 ((hbw.block _ (heap_lt HK.out.2.2)).trans HK.out.2.2)).2.2.2.2.2
          clear hsh hbw
          go_wp2
          go_ret
          refine ⟨?_, HK.out.2.1.trans (HX.out.2.mono HK.out.2.1.size)⟩
          rw [F.out, HX.out.1, List.drop_eq_nil_of_le (by have := hln.out; omega), shL]; rfl

set_option maxRecDepth 100000 in
set_option maxHeartbeats 4000000 in
theorem Few_any (g : Nat → Prop) (r : Rx) (most : Nat) (w : World) (cs : List Value) (hm : most ≤ 100000) (h : RC g w r cs) :
    Calls Tryd.prog 12 #[.agg cs.toArray, .int .i64 (most : Int)] w fun e w' => e = .returned (.bool (few r most)) ∧ Below w.heap.size w w' := by
  obtain ⟨k, s, l⟩ := r
  obtain ⟨a, n, c, rfl, hK⟩ := RC_mk.1 h
  have CF := hid (fun V (hV : Below w.heap.size w V) => shallow_any g (.mk k s l) 0 ((most : Int) + 1) V _ (by decide) (by omega) (by omega) (RC_mk.2 ⟨a, n, c, rfl, hK.below hV⟩))
  have hv1 : IntKind.i64.wrap ((most : Int) + 1) = (most : Int) + 1 := by rw [wrapIn] <;> omega
  obtain ⟨q, hq⟩ : ∃ q, q = sh (.mk k s l) 0 ((most : Int) + 1) := ⟨_, rfl⟩
  unfold few
  rw [← hq] at CF ⊢
  clear hK h hq
  show Calls Tryd.prog 12 #[.agg #[.int .i64 k, .int .u64 (ws s 0 : Int), .int .u64 (ws s 1 : Int), .int .u64 (ws s 2 : Int), .int .u64 (ws s 3 : Int), .slice a n c], .int .i64 (most : Int)] w _
  go_enter Tryd.func12, Tryd.ntmps12
  go_wp2_with fail
  refine (CF.out _ (bel1 _ _)).mono ?_
  rintro e W ⟨rfl, b2⟩
  have B := hid ((bel1 w _).trans (b2.mono (bel1 w _).size))
  clear b2
  go_wp2
  go_ret
  exact ⟨rfl, B.out⟩

set_option maxRecDepth 100000 in
set_option maxHeartbeats 4000000 in
theorem Depth_any (g : Nat → Prop) (r : Rx) : ∀ (w : World) (cs : List Value), depth r ≤ 1000 → RC g w r cs →
    Calls Tryd.prog 36 #[.agg cs.toArray] w fun e w' => e = .returned (.int .i64 (depth r : Int)) ∧ Below w.heap.size w w' := by
  induction r using Rx.ind with
  | h k s l ih =>
  intro w cs hd h
  obtain ⟨a, n, c, rfl, hK⟩ := RC_mk.1 h
  clear h
  show Calls Tryd.prog 36 #[.agg #[.int .i64 k, .int .u64 (ws s 0 : Int), .int .u64 (ws s 1 : Int), .int .u64 (ws s 2 : Int), .int .u64 (ws s 3 : Int), .slice a n c]] w _
  rw [depth] at hd
  have hdl : ∀ x ∈ l, depth x ≤ 999 := depthL_le.1 (by omega)
  obtain ⟨q, hq⟩ : ∃ q, q = depth (.mk k s l) := ⟨_, rfl⟩
  rw [← hq]
  rw [depth] at hq
  have F := hid hq
  have hln := hid hK.len
  have hnl := hK.lt
  have IH := hid fun x hx W cs hc => ih x hx W cs (by have := hdl x hx; omega) hc
  have HD := hid hdl
  obtain ⟨W, hW⟩ : ∃ W, W = w.alloc (.cells #[.int .i64 k, .int .u64 (ws s 0 : Int), .int .u64 (ws s 1 : Int), .int .u64 (ws s 2 : Int), .int .u64 (ws s 3 : Int), .slice a n c] 27) := ⟨_, rfl⟩
  have bW : Below w.heap.size w W := by rw [hW]; exact bel1 _ _
  have x0 : W.heap[w.heap.size]? = some (.cells #[.int .i64 k, .int .u64 (ws s 0 : Int), .int .u64 (ws s 1 : Int), .int .u64 (ws s 2 : Int), .int .u64 (ws s 3 : Int), .slice a n c] 27 (0, 0)) := by rw [hW]; exact alloc_new _ _
  have HK := hid (And.intro (hK.below bW) (And.intro bW x0))
  clear hK ih bW x0 hq hdl hd
  go_enter Tryd.func36, Tryd.ntmps36
  go_wp2_with fail
  rw [← hW]
  go_loopg [3, 4] n (fun k s3 s4 wr => ∃ (i m : Nat), s3 = .int .i64 (m : Int) ∧ s4 = .int .i64 i ∧ i + k = n ∧ m ≤ 999 ∧ depthL l = max m (depthL (l.drop i)) ∧ Below W.heap.size W wr)
  case atStart => exact ⟨0, 0, rfl, rfl, by omega, by omega, by simp, Below.refl _ _⟩
  case round =>
    obtain ⟨i, m, rfl, rfl, hk, hm, hsh, hbw⟩ := hrel
    by_cases hlt : i < n
    · have hlt' : (i : Int) < (n : Int) := by omega
      obtain ⟨b, off, k', s', l', a', n', c', rfl, _, hb, hx, hK', q0, q1, q2, q3, q4, q5⟩ := (HK.out.1.below hbw).get (i := i) hlt
      have c5 := (cells6 ((hbw.block _ (heap_lt HK.out.2.2)).trans HK.out.2.2)).2.2.2.2.2
      have hdr : l.drop i = .mk k' s' l' :: l.drop (i + 1) := (List.drop_eq_getElem_cons (by have := hln.out; omega)).trans (by rw [List.getElem?_eq_getElem (by have := hln.out; omega)] at hx; simp at hx; rw [hx])
      have HX := hid (And.intro hx (And.intro hK' (And.intro hbw (show depthL l = max (max m (depth (.mk k' s' l'))) (depthL (l.drop (i + 1))) by rw [hsh, hdr, depthL, Nat.max_assoc]))))
      have CR := hid (IH.out _ (List.mem_of_getElem? HX.out.1) wr _ (RC_mk.2 ⟨a', n', c', rfl, HX.out.2.1⟩))
      have hz9 := HD.out _ (List.mem_of_getElem? HX.out.1)
      clear hx hK' hbw hsh hdr
      obtain ⟨z, hz⟩ : ∃ z, z = depth (.mk k' s' l') := ⟨_, rfl⟩
      rw [← hz] at hz9
      have HZ := hid hz
      clear hz
      go_wp2_with fail
      refine CR.out.mono ?_
      rintro e W2 ⟨rfl, b2⟩
      rw [← HZ.out]
      have HB := hid (HX.out.2.2.1.trans (b2.mono HX.out.2.2.1.size))
      clear b2
      go_wp2
      all_goals
        go_roundg (gk - 1)
        case measure => omega
        case rel => exact ⟨i + 1, max m z, by first | rfl | (congr 1; omega), by go_num, by omega, by omega, by rw [HZ.out]; exact HX.out.2.2.2, HB.out⟩
    · have hin : ¬ (i : Int) < (n : Int) := by omega
      have hv : IntKind.i64.wrap ((m : Int) + 1) = (m : Int) + 1 := by rw [wrapIn] <;> omega
      have HX := hid (And.intro hsh hbw)
      have c5 := (cells6 ((hbw.block _ (heap_lt HK.out.2.2)).trans HK.out.2.2)).2.2.2.2.2
      clear hsh hbw
      go_wp2
      go_ret
      refine ⟨?_, HK.out.2.1.trans (HX.out.2.mono HK.out.2.1.size)⟩
      have : q = m + 1 := by
        rw [F.out, HX.out.1, List.drop_eq_nil_of_le (by have := hln.out; omega), depthL]; omega
      rw [this]; simp
end Go.Proofs.YtednoideboeehaaDoor
end
section
set_option linter.unusedSimpArgs false
set_option linter.unusedVariables false
namespace Go.Proofs.YtednoideboeehaaDoor
open Go.RowKit Bs Rg Go.Frame
attribute [local go_sem] eq_zero eq_set

noncomputable def beqx (r r' : Rx) : Bool := @decide (r = r') (Classical.propDecidable _)
theorem beqx_iff {r r' : Rx} : beqx r r' = true ↔ r = r' := by unfold beqx; simp
theorem beqx_false {r r' : Rx} : beqx r r' = false ↔ r ≠ r' := by unfold beqx; simp

set_option maxRecDepth 100000 in
set_option maxHeartbeats 4000000 in
theorem Equal_any (g g' : Nat → Prop) (r : Rx) : ∀ (r' : Rx) (w : World) (cs cs' : List Value), RC g w r cs → RC g' w r' cs' →
    Calls Tryd.prog 18 #[.agg cs.toArray, .agg cs'.toArray] w fun e w' => e = .returned (.bool (beqx r r')) ∧ Below w.heap.size w w' := by
  induction r using Rx.ind with
  | h k s l ih =>
  intro r' w cs cs' h h'
  obtain ⟨k', s', l'⟩ := r'
  obtain ⟨a, n, c, rfl, hK⟩ := RC_mk.1 h
  obtain ⟨a', n', c', rfl, hK'⟩ := RC_mk.1 h'
  clear h h'
  show Calls Tryd.prog 18 #[.agg #[.int .i64 k, .int .u64 (ws s 0 : Int), .int .u64 (ws s 1 : Int), .int .u64 (ws s 2 : Int), .int .u64 (ws s 3 : Int), .slice a n c], .agg #[.int .i64 k', .int .u64 (ws s' 0 : Int), .int .u64 (ws s' 1 : Int), .int .u64 (ws s' 2 : Int), .int .u64 (ws s' 3 : Int), .slice a' n' c']] w _
  have bb : Below w.heap.size w ((w.alloc (.cells #[.int .i64 k, .int .u64 (ws s 0 : Int), .int .u64 (ws s 1 : Int), .int .u64 (ws s 2 : Int), .int .u64 (ws s 3 : Int), .slice a n c] 27)).alloc (.cells #[.int .i64 k', .int .u64 (ws s' 0 : Int), .int .u64 (ws s' 1 : Int), .int .u64 (ws s' 2 : Int), .int .u64 (ws s' 3 : Int), .slice a' n' c'] 27)) := (bel1 _ _).alloc (by simp) _
  by_cases hne : k = k' ∧ s = s' ∧ n = n'
  · obtain ⟨rfl, rfl, rfl⟩ := hne
    have hln := hid hK.len
    have hln' := hid hK'.len
    have hnl := hK.lt
    have he : eqs s s = true := eqs_iff.2 rfl
    obtain ⟨q, hq⟩ : ∃ q, q = beqx (.mk k s l) (.mk k s l') := ⟨_, rfl⟩
    rw [← hq]
    have F := hid (show (q = true ↔ l = l') by rw [hq, beqx_iff]; simp)
    have IH := hid fun x hx r' W cs cs' hc hc' => ih x hx r' W cs cs' hc hc'
    obtain ⟨W, hW⟩ : ∃ W, W = (w.alloc (.cells #[.int .i64 k, .int .u64 (ws s 0 : Int), .int .u64 (ws s 1 : Int), .int .u64 (ws s 2 : Int), .int .u64 (ws s 3 : Int), .slice a n c] 27)).alloc (.cells #[.int .i64 k, .int .u64 (ws s 0 : Int), .int .u64 (ws s 1 : Int), .int .u64 (ws s 2 : Int), .int .u64 (ws s 3 : Int), .slice a' n c'] 27) := ⟨_, rfl⟩
    obtain ⟨x0, x1, bW, hsz⟩ := two w (.cells #[.int .i64 k, .int .u64 (ws s 0 : Int), .int .u64 (ws s 1 : Int), .int .u64 (ws s 2 : Int), .int .u64 (ws s 3 : Int), .slice a n c] 27) (.cells #[.int .i64 k, .int .u64 (ws s 0 : Int), .int .u64 (ws s 1 : Int), .int .u64 (ws s 2 : Int), .int .u64 (ws s 3 : Int), .slice a' n c'] 27)
    rw [← hW] at x0 x1 bW hsz
    have HK := hid (And.intro (hK.below bW) (And.intro (hK'.below bW) (And.intro bW (And.intro x0 x1))))
    clear hK hK' ih bW x0 x1 hsz hq bb
    go_enter Tryd.func18, Tryd.ntmps18
    go_wp2_with fail
    rw [← hW]
    go_loopg [5] n (fun k sl wr => ∃ i : Nat, sl = .int .i64 i ∧ i + k = n ∧ l.take i = l'.take i ∧ Below W.heap.size W wr)
    case atStart => exact ⟨0, rfl, by omega, by simp, Below.refl _ _⟩
    case round =>
      obtain ⟨i, rfl, hk, hall, hbw⟩ := hrel
      have c5 := (cells6 ((hbw.block _ (heap_lt HK.out.2.2.2.1)).trans HK.out.2.2.2.1)).2.2.2.2.2
      have d5 := (cells6 ((hbw.block _ (heap_lt HK.out.2.2.2.2)).trans HK.out.2.2.2.2)).2.2.2.2.2
      by_cases hlt : i < n
      · have hlt' : (i : Int) < (n : Int) := by omega
        obtain ⟨b, off, k1, s1, l1, a1, n1, c1, rfl, _, hb, hx, hK1, q0, q1, q2, q3, q4, q5⟩ := (HK.out.1.below hbw).get (i := i) hlt
        obtain ⟨b2, off2, k2, s2, l2, a2, n2, c2, rfl, _, hb2, hx2, hK2, p0, p1, p2, p3, p4, p5⟩ := (HK.out.2.1.below hbw).get (i := i) hlt
        have HX := hid (And.intro hx (And.intro hK1 (And.intro hx2 (And.intro hK2 (And.intro hbw hall)))))
        have CR := hid (fun V (hV : Below wr.heap.size wr V) => IH.out _ (List.mem_of_getElem? HX.out.1) (.mk k2 s2 l2) V _ _ (RC_mk.2 ⟨a1, n1, c1, rfl, HX.out.2.1.below hV⟩) (RC_mk.2 ⟨a2, n2, c2, rfl, HX.out.2.2.2.1.below hV⟩))
        have HC := hid (And.intro q0 (And.intro q1 (And.intro q2 (And.intro q3 (And.intro q4 q5)))))
        have HP := hid (And.intro p0 (And.intro p1 (And.intro p2 (And.intro p3 (And.intro p4 p5)))))
        have HD := hid (And.intro c5 d5)
        have hl1 := hid (heap_lt ((hbw.block _ (heap_lt HK.out.2.2.2.1)).trans HK.out.2.2.2.1))
        have hl2 := hid (heap_lt ((hbw.block _ (heap_lt HK.out.2.2.2.2)).trans HK.out.2.2.2.2))
        clear hx hK1 hx2 hK2 hbw hall q0 q1 q2 q3 q4 q5 p0 p1 p2 p3 p4 p5
        go_wp2_with fail
        refine wp_region_below (by kernel_rfl) (by kernel_rfl) ?_
        intro X f _ hf hs
        have g5 := fun x => ((hf.out x).cell (p := ⟨w.heap.size, 5, none⟩) hl1.out).trans HD.out.1
        have k5 := fun x => ((hf.out x).cell (p := ⟨w.heap.size + 1, 5, none⟩) hl2.out).trans HD.out.2
        have q0 := fun x => ((hf.out x).cell (p := ⟨b, _, none⟩) hb).trans HC.out.1
        have q1 := fun x => ((hf.out x).cell (p := ⟨b, _, none⟩) hb).trans HC.out.2.1
        have q2 := fun x => ((hf.out x).cell (p := ⟨b, _, none⟩) hb).trans HC.out.2.2.1
        have q3 := fun x => ((hf.out x).cell (p := ⟨b, _, none⟩) hb).trans HC.out.2.2.2.1
        have q4 := fun x => ((hf.out x).cell (p := ⟨b, _, none⟩) hb).trans HC.out.2.2.2.2.1
        have q5 := fun x => ((hf.out x).cell (p := ⟨b, _, none⟩) hb).trans HC.out.2.2.2.2.2
        have p0 := fun x => ((hf.out x).cell (p := ⟨b2, _, none⟩) hb2).trans HP.out.1
        have p1 := fun x => ((hf.out x).cell (p := ⟨b2, _, none⟩) hb2).trans HP.out.2.1
        have p2 := fun x => ((hf.out x).cell (p := ⟨b2, _, none⟩) hb2).trans HP.out.2.2.1
        have p3 := fun x => ((hf.out x).cell (p := ⟨b2, _, none⟩) hb2).trans HP.out.2.2.2.1
        have p4 := fun x => ((hf.out x).cell (p := ⟨b2, _, none⟩) hb2).trans HP.out.2.2.2.2.1
        have p5 := fun x => ((hf.out x).cell (p := ⟨b2, _, none⟩) hb2).trans HP.out.2.2.2.2.2
        clear c5 d5
        repeat (go_big_quiet_step (first | (go_at_call 18; exact calls_below hf hs (CR.out _ (hf.out _)))))
        refine wpQuiet_nil ?_
        intro W2 b2'
        have HB := hid (HX.out.2.2.2.2.1.trans (b2'.mono HX.out.2.2.2.2.1.size))
        clear b2' q0 q1 q2 q3 q4 q5 p0 p1 p2 p3 p4 p5 g5 k5 hf hs
        cases hf : beqx (.mk k1 s1 l1) (.mk k2 s2 l2)
        · go_wp2
          go_ret
          refine ⟨?_, HK.out.2.2.1.trans (HB.out.mono HK.out.2.2.1.size)⟩
          have : q = false := by
            rw [← Bool.not_eq_true, F.out]
            intro h
            have h1 := HX.out.1
            rw [h, HX.out.2.2.1] at h1
            simp only [Option.some.injEq] at h1
            exact (beqx_false.1 hf) h1.symm
          rw [this]; rfl
        · go_wp2
          go_roundg (gk - 1)
          case measure => omega
          case rel => exact ⟨i + 1, by go_num, by omega, by rw [List.take_add_one, List.take_add_one, HX.out.2.2.2.2.2, HX.out.1, HX.out.2.2.1, beqx_iff.1 hf], HB.out⟩
      · have hin : ¬ (i : Int) < (n : Int) := by omega
        have HX := hid (And.intro hall hbw)
        clear hall hbw
        go_wp2
        go_ret
        refine ⟨?_, HK.out.2.2.1.trans (HX.out.2.mono HK.out.2.2.1.size)⟩
        have : q = true := by
          rw [F.out]
          have := HX.out.1
          rw [List.take_of_length_le (by have := hln.out; omega), List.take_of_length_le (by have := hln'.out; omega)] at this
          exact this
        rw [this]; rfl
  · have hq : beqx (.mk k s l) (.mk k' s' l') = false := by
      rw [beqx_false]
      intro h
      injection h with h1 h2 h3
      exact hne ⟨h1, h2, by rw [← hK.len, ← hK'.len, h3]⟩
    rw [hq]
    have B := hid bb
    clear hK hK' ih hq bb
    by_cases h1 : k = k'
    · subst h1
      by_cases h2 : s = s'
      · subst h2
        have he : eqs s s = true := eqs_iff.2 rfl
        have h3 : ¬ n = n' := fun h => hne ⟨rfl, rfl, h⟩
        have h4 : ¬ (n : Int) = (n' : Int) := by omega
        clear hne
        go_enter Tryd.func18, Tryd.ntmps18
        go_wp2
        go_ret
        exact ⟨rfl, B.out⟩
      · have he : eqs s s' = false := eqs_false.2 h2
        clear hne
        go_enter Tryd.func18, Tryd.ntmps18
        go_wp2
        go_ret
        exact ⟨rfl, B.out⟩
    · clear hne
      go_enter Tryd.func18, Tryd.ntmps18
      go_wp2
      go_ret
      exact ⟨rfl, B.out⟩

set_option maxRecDepth 100000 in
set_option maxHeartbeats 4000000 in
theorem small_any (g : Nat → Prop) (r : Rx) (most : Nat) (w : World) (cs : List Value) (hm : most ≤ 100000) (h : RC g w r cs) :
    Calls Tryd.prog 19 #[.agg cs.toArray, .int .i64 (most : Int)] w fun e w' => e = .returned (.bool (small r most)) ∧ Below w.heap.size w w' := by
  obtain ⟨k, s, l⟩ := r
  obtain ⟨a, n, c, rfl, hK⟩ := RC_mk.1 h
  have C1 := hid (fun V (hV : Below w.heap.size w V) => Few_any g (.mk k s l) most V _ hm (RC_mk.2 ⟨a, n, c, rfl, hK.below hV⟩))
  have C2 := hid (fun V (hV : Below w.heap.size w V) => rValid_any g (.mk k s l) V _ (RC_mk.2 ⟨a, n, c, rfl, hK.below hV⟩))
  have C3 := hid (fun V (hV : Below w.heap.size w V) (hd : depth (.mk k s l) ≤ 1000) => Depth_any g (.mk k s l) V _ hd (RC_mk.2 ⟨a, n, c, rfl, hK.below hV⟩))
  have x0 := hid (alloc_new w (.cells #[.int .i64 k, .int .u64 (ws s 0 : Int), .int .u64 (ws s 1 : Int), .int .u64 (ws s 2 : Int), .int .u64 (ws s 3 : Int), .slice a n c] 27))
  obtain ⟨q, hq⟩ : ∃ q, q = small (.mk k s l) most := ⟨_, rfl⟩
  rw [← hq]
  unfold small at hq
  have F := hid hq
  clear hK h hq
  show Calls Tryd.prog 19 #[.agg #[.int .i64 k, .int .u64 (ws s 0 : Int), .int .u64 (ws s 1 : Int), .int .u64 (ws s 2 : Int), .int .u64 (ws s 3 : Int), .slice a n c], .int .i64 (most : Int)] w _
  go_enter Tryd.func19, Tryd.ntmps19
  go_wp2_with fail
  refine (C1.out _ (bel1 _ _)).mono ?_
  rintro e W ⟨rfl, b2⟩
  obtain ⟨z0, z1, z2, z3, z4, z5⟩ := cells6 ((b2.block _ (heap_lt x0.out)).trans x0.out)
  have hl := heap_lt ((b2.block _ (heap_lt x0.out)).trans x0.out)
  have B := hid ((bel1 w _).trans (b2.mono (bel1 w _).size))
  clear b2
  cases h1 : few (.mk k s l) most
  · go_wp2
    go_ret
    exact ⟨by rw [F.out, h1]; rfl, B.out⟩
  · go_wp2_with fail
    refine (C2.out _ B.out).mono ?_
    rintro e W3 ⟨rfl, b3⟩
    have y0 := (b3.cell hl).trans z0
    have y1 := (b3.cell hl).trans z1
    have y2 := (b3.cell hl).trans z2
    have y3 := (b3.cell hl).trans z3
    have y4 := (b3.cell hl).trans z4
    have y5 := (b3.cell hl).trans z5
    have B3 := hid (B.out.trans (b3.mono B.out.size))
    clear b3 z0 z1 z2 z3 z4 z5
    cases h2 : fits (.mk k s l) 30
    · go_wp2
      go_ret
      exact ⟨by rw [F.out, h1, h2]; rfl, B3.out⟩
    · have hd := (fits_depth ⟨30, h2⟩).1 h2
      go_wp2_with fail
      refine (C3.out _ B3.out (by omega)).mono ?_
      rintro e W4 ⟨rfl, b4⟩
      have B4 := hid (B3.out.trans (b4.mono B3.out.size))
      clear b4 y0 y1 y2 y3 y4 y5
      obtain ⟨z, hz⟩ : ∃ z, z = depth (.mk k s l) := ⟨_, rfl⟩
      rw [← hz]
      have Z := hid hz
      clear hz
      go_wp2
      go_ret
      refine ⟨?_, B4.out⟩
      rw [F.out, h1, h2, ← Z.out]
      simp only [Bool.true_and]
      have : decide (z ≤ 8) = decide ((z : Int) ≤ 8) := by
        rw [Bool.eq_iff_iff, decide_eq_true_eq, decide_eq_true_eq]; omega
      rw [this]; rfl
end Go.Proofs.YtednoideboeehaaDoor
end
section
namespace Go.Frame
open Go.RowKit Go.WideShapes Go.ChangeShapes Go.ChangeAt

/-- A slice in memory: the cells of each element, c to an element. -/
def CRow (c : Nat) (W : World) (p : Option Addr) (n : Nat) (C : List (List Value)) : Prop :=
  C.length = n ∧ (n = 0 ∨ ∃ b off, p = some ⟨b, off, none⟩ ∧ b < W.heap.size ∧ ∀ i cs, C[i]? = some cs → ∀ j (v : Value), cs[j]? = some v → W.cell? ⟨b, off + i * c + j, none⟩ = some v)
theorem CRow.below {c : Nat} {W W' : World} {p : Option Addr} {n : Nat} {C : List (List Value)} (h : CRow c W p n C) (hb : Below W.heap.size W W') : CRow c W' p n C := by
  refine ⟨h.1, h.2.imp id ?_⟩
  rintro ⟨b, off, rfl, hlt, hx⟩
  exact ⟨b, off, rfl, Nat.lt_of_lt_of_le hlt hb.size, fun i cs hi j v hj => (hb.cell (p := ⟨b, _, none⟩) hlt).trans (hx i cs hi j v hj)⟩
theorem CRow.set {c : Nat} {W : World} {p : Option Addr} {n : Nat} {C : List (List Value)} (h : CRow c W p n C) {x : Addr} {v : Value} (hp : ∀ a, p = some a → a.block ≠ x.block) : CRow c (W.setCell x v) p n C := by
  refine ⟨h.1, h.2.imp id ?_⟩
  rintro ⟨b, off, rfl, hb, hx⟩
  refine ⟨b, off, rfl, by simpa using hb, fun i cs hi j y hy => ?_⟩
  rw [World.cell?_setCell_other _ _ _ _ (fun e => hp _ rfl (by rw [e]))]
  exact hx i cs hi j y hy
/-- What is known of every element's cells is known of a list of data. -/
theorem choose_list {α β : Type} {R : β → α → Prop} : ∀ (C : List β), (∀ c ∈ C, ∃ e, R c e) → ∃ E : List α, E.length = C.length ∧ ∀ (i : Nat) (c : β), C[i]? = some c → ∃ e : α, E[i]? = some e ∧ R c e
  | [], _ => ⟨[], rfl, fun i c h => by simp at h⟩
  | c :: C, h => by
    obtain ⟨e, he⟩ := h c (by simp)
    obtain ⟨E, hl, hE⟩ := choose_list C (fun c' hc' => h c' (by simp [hc']))
    refine ⟨e :: E, by simp [hl], fun i c' hi => ?_⟩
    cases i with
    | zero => simp at hi; subst hi; exact ⟨e, rfl, he⟩
    | succ i => simpa using hE i c' (by simpa using hi)
theorem open_rows {H : Type} {enc : TypeId × Value → H} {P : Program} {t e : TypeId} {w : World} {base : Nat} {spare : Nat → Bool} {held : Bool} {fuel : Nat} {a : Option Addr} {len cap : Nat} {x : DataW H × List MemPlace} (ht : P.underlying t = some (.slice e)) (hc : 0 < P.cellsOf e)
    (h : DataW.trod enc P w base spare held fuel t [.slice a len cap] = some x) :
    ∃ C : List (List Value), CRow (P.cellsOf e) w a len C ∧ (∃ k, (k = 0 ∨ k ∈ x.1.weights P t) ∧ len * P.bytesOf e ≤ k) ∧ ∀ cs ∈ C, cs.length = P.cellsOf e ∧ ∃ n y, DataW.trod enc P w base spare held n e cs = some y ∧ ∀ k ∈ y.1.weights P e, k ∈ x.1.weights P t := by
  rcases Go.Deep.open_slice ht h with ⟨hc, _⟩ | ⟨y, l, c, m, n, D, Pl, hc', _, hl, hm, hmm, hxe, hx⟩
  · simp at hc
    exact ⟨[], ⟨hc.2.1.symm, .inl hc.2.1⟩, ⟨0, .inl rfl, by simp [hc.2.1]⟩, by simp⟩
  · simp at hc'
    obtain ⟨rfl, rfl, rfl⟩ := hc'
    by_cases h0 : len = 0
    · exact ⟨[], ⟨h0.symm, .inl h0⟩, ⟨0, .inl rfl, by simp [h0]⟩, by simp⟩
    have hlm : len ≤ m := by rw [hmm]; split <;> omega
    have each : ∀ i ∈ List.range len, ∃ cs', w.cells? base (y.add (i * P.cellsOf e)) (P.cellsOf e) = some cs' ∧ DataW.trod enc P w base spare held n e cs' = some (D i, Pl i) := fun i hi => hx i (by have := List.mem_range.1 hi; omega)
    obtain ⟨C, hCl, hC⟩ := choose_list (List.range len) each
    have hlen : C.length = len := by rw [hCl, List.length_range]
    have hi' : ∀ i, i < len → ∃ cs', C[i]? = some cs' ∧ w.cells? base (y.add (i * P.cellsOf e)) (P.cellsOf e) = some cs' ∧ DataW.trod enc P w base spare held n e cs' = some (D i, Pl i) := fun i hi => hC i i (by simp [hi])
    obtain ⟨b, off, spot⟩ := y
    have hcell0 : ∃ v, w.cell? ((⟨b, off, spot⟩ : Addr)) = some v := by
      obtain ⟨cs', _, h1, _⟩ := hi' 0 (by omega)
      obtain ⟨_, hl', hcell⟩ := World.cells?_some h1
      have h3 := hcell 0 (by omega)
      refine ⟨cs'[0]'(by omega), ?_⟩
      rw [Go.Deep.add_add, List.getElem?_eq_getElem (by omega)] at h3
      simpa [Addr.add] using h3
    obtain ⟨v0, hv0⟩ := hcell0
    obtain rfl : spot = none := World.cell?_spot hv0
    have hb : b < w.heap.size := World.block_lt_of_cell? w _ hv0
    refine ⟨C, ⟨hlen, .inr ⟨b, off, rfl, hb, fun i cs hi j v hj => ?_⟩⟩, ?_, fun cs hcs => ?_⟩
    · have hil : i < len := by have := (List.getElem?_eq_some_iff.1 hi).1; omega
      obtain ⟨cs', h1, h2, _⟩ := hi' i hil
      rw [hi] at h1
      simp only [Option.some.injEq] at h1
      subst h1
      obtain ⟨_, hl', hcell⟩ := World.cells?_some h2
      have hjl := (List.getElem?_eq_some_iff.1 hj).1
      have h3 := hcell j (by omega)
      rw [Go.Deep.add_add, add_at] at h3
      rw [show off + i * P.cellsOf e + j = off + (i * P.cellsOf e + j) by omega]
      rw [← hj]
      simpa using h3
    · refine ⟨(len + (m - len)) * P.bytesOf e, .inr ?_, Nat.mul_le_mul_right _ (by omega)⟩
      subst hxe
      simp only [DataW.weights, ht, List.mem_cons, List.length_map, List.length_range]
      exact .inl trivial
    · obtain ⟨i, hi⟩ := List.getElem?_of_mem hcs
      have hil : i < len := by have := (List.getElem?_eq_some_iff.1 hi).1; omega
      obtain ⟨cs', h1, h2, h3⟩ := hi' i hil
      rw [hi] at h1
      simp only [Option.some.injEq] at h1
      subst h1
      obtain ⟨_, hl', _⟩ := World.cells?_some h2
      refine ⟨hl', n, _, h3, fun k hk => ?_⟩
      subst hxe
      have hmem : D i ∈ (List.range len).map D := List.mem_map.2 ⟨i, by simpa using hil, rfl⟩
      simp only [DataW.weights, ht, List.mem_cons, List.mem_append]
      exact .inr (.inl (weightsAll_mem hmem _ hk))
/-- The elements as data of a type of our own: each element's cells are those of a datum with a property. -/
theorem CRow.data {α : Type} (f : α → List Value) (Q : α → Prop) {c : Nat} {W : World} {p : Option Addr} {n : Nat} {C : List (List Value)} (h : CRow c W p n C) (hd : ∀ cs ∈ C, ∃ e, cs = f e ∧ Q e) : ∃ E : List α, CRow c W p n (E.map f) ∧ ∀ e ∈ E, Q e := by
  obtain ⟨E, hl, hE⟩ := choose_list C hd
  have hm : C = E.map f := by
    apply List.ext_getElem?
    intro i
    rw [List.getElem?_map]
    cases hc : C[i]? with
    | none => rw [List.getElem?_eq_none_iff] at hc; rw [List.getElem?_eq_none (by omega)]; rfl
    | some c => obtain ⟨e, he, hfe, _⟩ := hE i c hc; rw [he, hfe]; rfl
  refine ⟨E, hm ▸ h, fun e he => ?_⟩
  obtain ⟨i, hi⟩ := List.getElem?_of_mem he
  have hil : i < C.length := by have := (List.getElem?_eq_some_iff.1 hi).1; omega
  obtain ⟨e', he', _, hq⟩ := hE i _ (List.getElem?_eq_getElem hil)
  rw [hi] at he'
  simp only [Option.some.injEq] at he'
  exact he' ▸ hq
end Go.Frame
end
section
namespace Go.Frame
open Go.ChangeShapes Go.WideShapes Go.ChangeAt Go.RowKit

theorem lifted_laid {C : Checked} {os : Os} {f : FuncId} {fn : Func} {s : ChangeSpec} {tb : TypeId} {H : Type} {enc : TypeId × Value → H} (laid : List (String × DataW Unit))
    (own : ownKnob C.prog.godebug = none) (started : os.Started) (noInit : C.prog.inits.idxOf? f = none) (hfn : C.prog.funcs[f]? = some fn)
    (witness : ∃ (w : World) (tape : Tape) (i : Input), w.os = os ∧ (w.forCall tape i).Shaped C.prog ∧ i.vars = [] ∧ Input.okWide C.prog (w.forCall tape i) .any w.heap.size f i ∧
      ((s.pre enc C.prog fn [] false (w.forCall tape i).memory i.args ∧ laidMetH C.prog laid (w.forCall tape i).memory) ∧ sizedMet enc C.prog fn (OpenSpec.ofChange s) false (w.forCall tape i).memory i.args) ∧
      ({} : Assume).holds C.prog (lone (Frame.enter C.prog f i.args .normal) [] (w.forCall tape i)))
    (hl : laidOutB C.prog = true) (hp : fn.params.toList.all (fun t => C.prog.readableRec t && decide (t < C.prog.types.size)) = true)
    (hres : fn.resultTypes = #[tb]) (hub : C.prog.underlying tb = some .bool) (hvars : s.vars = [])
    (hspec : ∀ ds : List (DataW H), ds.length = fn.params.toList.length → s.fn H ds = { results := [.lit (.bool true)], args := ds })
    (walk : ∀ (W : World) (base : Nat) (args : Array Value) (ds : List (DataW H)) (p : List MemPlace), args.toList.length = fn.params.toList.length →
      (∀ (j : Nat) t v, fn.params[j]? = some t → args[j]? = some v → Value.okWide C.prog W .any base t v) →
      DataW.TrodAll enc C.prog W 0 (fun _ => true) true fn.params.toList args.toList ds p →
      (DataW.weightsEach C.prog fn.params.toList ds).all (· ≤ reachBytes) = true → laidMetH C.prog laid W →
      Calls C.prog f args W fun e W' => e = .returned (.bool true) ∧ Below W.heap.size W W') :
    ReturnsInHanded {} C os f .any (fun w args => (s.pre enc C.prog fn [] false w args ∧ laidMetH C.prog laid w) ∧ sizedMet enc C.prog fn (OpenSpec.ofChange s) false w args) (s.post enc C.prog fn false true false false) := by
  refine returnsInHanded_of_change_and (X := fun w _ => laidMetH C.prog laid w) (fun _ _ _ hh h => h.of_heap hh) own started noInit hfn witness ?_
  intro W base args ds gs before hval hW _ hsz hlaid _
  have hW' := hW
  obtain ⟨p, q, hA, hV, rfl, hfz, hnd⟩ := hW
  rw [hvars] at hV
  obtain ⟨rfl, rfl⟩ := trodVars_none hV
  obtain ⟨l1, l2⟩ := trodAll_length hA
  have hv : DataSpec.varTypes C.prog s.plain = [] := by simp [DataSpec.varTypes, ChangeSpec.plain, hvars]
  rw [hv] at hsz
  simp only [List.append_nil] at hsz hW'
  refine (walk W base args ds p l2 hval hA hsz hlaid).mono fun e W' ⟨he, bel⟩ => ?_
  subst he
  have hsp := hspec ds l1
  refine ⟨_, rfl, ds, [], _, [], p, [], hW', ?_, ?_, ?_, bel.frame _, fun h => by cases h⟩
  · rw [List.append_nil, hsp, hres]
    exact trodAll_mk1 (shut_bool hub _)
  · rw [List.append_nil, hsp]
    refine trodAll_below hl bel ?_ hA
    intro t ht
    have := List.all_eq_true.1 hp t ht
    simpa [Bool.and_eq_true] using this
  · rw [List.append_nil, hsp, hvars]
    simp [DataW.TrodVars]
end Go.Frame
end
