/-
  Contracts: the reference's valid, shallow, Depth, Equal; Few, small.
-/
import Derived.Test.YtogpnlkjcdedlaaDoorJb
set_option linter.unusedSimpArgs false
set_option linter.unusedVariables false
namespace Go.Proofs.YtogpnlkjcdedlaaDoor
open Go.RowKit Bs Rg Go.Frame
attribute [local go_sem] eq_zero eq_set

theorem cells6 {W : World} {b : Nat} {x0 x1 x2 x3 x4 x5 : Value} {t : TypeId} (h : W.heap[b]? = some (.cells #[x0, x1, x2, x3, x4, x5] t (0, 0))) : W.cell? ⟨b, 0, none⟩ = some x0 ∧ W.cell? ⟨b, 1, none⟩ = some x1 ∧ W.cell? ⟨b, 2, none⟩ = some x2 ∧ W.cell? ⟨b, 3, none⟩ = some x3 ∧ W.cell? ⟨b, 4, none⟩ = some x4 ∧ W.cell? ⟨b, 5, none⟩ = some x5 := by
  refine ⟨?_, ?_, ?_, ?_, ?_, ?_⟩ <;> simp [World.cell?, h]

set_option maxRecDepth 100000 in
set_option maxHeartbeats 4000000 in
theorem rvalid_no (k : Int) (s : BS) (a : Option Addr) (n c : Nat) (w : World) (v : Int) (hn : n < 140737488355328) (h : v < 30 → shaped k s n = false) :
    Calls Tryd.prog 62 #[.agg #[.int .i64 k, .int .u64 (ws s 0 : Int), .int .u64 (ws s 1 : Int), .int .u64 (ws s 2 : Int), .int .u64 (ws s 3 : Int), .slice a n c], .int .i64 v] w fun e w' => e = .returned (.bool false) ∧ Below w.heap.size w w' := by
  have hk : k = 1 ∨ k = 2 ∨ k = 3 ∨ k = 4 ∨ k = 5 ∨ k = 6 ∨ (k ≠ 1 ∧ k ≠ 2 ∧ k ≠ 3 ∧ k ≠ 4 ∧ k ≠ 5 ∧ k ≠ 6) := by omega
  have hn : n = 0 ∨ n = 1 ∨ ((2 : Int) ≤ n ∧ ¬ (n : Int) < 2 ∧ ¬ (n : Int) = 0 ∧ ¬ (n : Int) = 1 ∧ ¬ n = 0 ∧ ¬ n = 1 ∧ 2 ≤ n) := by omega
  by_cases hv : v < 30
  · have h := h hv
    have hv' : ¬ 30 ≤ v := by omega
    rcases hk with rfl | rfl | rfl | rfl | rfl | rfl | ⟨h1, h2, h3, h4, h5, h6⟩ <;> rcases hn with rfl | rfl | ⟨n1, n2, n3, n4, n5, n6, n7⟩ <;> cases he : emp s
    all_goals try (exfalso; simp [shaped, *] at h; done)
    all_goals
      clear h
      go_enter Tryd.func62, Tryd.ntmps62
      go_wp2
    all_goals
      go_ret
      exact ⟨by first | rfl | simp [*], (Below.refl _ _).alloc (Nat.le_refl _) _⟩
  · have hv' : 30 ≤ v := by omega
    clear hk hn h
    go_enter Tryd.func62, Tryd.ntmps62
    go_wp2
    go_ret
    exact ⟨rfl, (Below.refl _ _).alloc (Nat.le_refl _) _⟩

set_option maxRecDepth 100000 in
set_option maxHeartbeats 4000000 in
theorem rvalid_any (g : Nat → Prop) (r : Rx) : ∀ (d : Nat) (v : Int) (w : World) (cs : List Value), v = 30 - (d : Int) → d ≤ 30 → RC g w r cs →
    Calls Tryd.prog 62 #[.agg cs.toArray, .int .i64 v] w fun e w' => e = .returned (.bool (fits r d)) ∧ Below w.heap.size w w' := by
  induction r using Rx.ind with
  | h k s l ih =>
  intro d v w cs hv hd h
  obtain ⟨a, n, c, rfl, hK⟩ := RC_mk.1 h
  clear h
  show Calls Tryd.prog 62 #[.agg #[.int .i64 k, .int .u64 (ws s 0 : Int), .int .u64 (ws s 1 : Int), .int .u64 (ws s 2 : Int), .int .u64 (ws s 3 : Int), .slice a n c], .int .i64 v] w _
  obtain ⟨q, hq⟩ : ∃ q, q = fits (.mk k s l) d := ⟨_, rfl⟩
  rw [← hq]
  cases d with
  | zero =>
    rw [fits_zero] at hq
    rw [hq]
    exact rvalid_no k s a n c w v hK.lt (fun h => by omega)
  | succ d =>
    rw [fits_mk, hK.len] at hq
    cases hs : shaped k s n with
    | false =>
      rw [hs, Bool.false_and] at hq
      rw [hq]
      exact rvalid_no k s a n c w v hK.lt (fun _ => hs)
    | true =>
      rw [hs, Bool.true_and] at hq
      have hln := hid hK.len
      have hnl := hK.lt
      have hv0 : ¬ 30 ≤ v := by omega
      have hv1 : IntKind.i64.wrap (v + 1) = v + 1 := by rw [wrapIn] <;> omega
      have IH := hid fun x hx W cs hc => ih x hx d (v + 1) W cs (by omega) (by omega) hc
      obtain ⟨W, hW⟩ : ∃ W, W = w.alloc (.cells #[.int .i64 k, .int .u64 (ws s 0 : Int), .int .u64 (ws s 1 : Int), .int .u64 (ws s 2 : Int), .int .u64 (ws s 3 : Int), .slice a n c] 50) := ⟨_, rfl⟩
      have bW : Below w.heap.size w W := by rw [hW]; exact (Below.refl _ _).alloc (Nat.le_refl _) _
      have x0 : W.heap[w.heap.size]? = some (.cells #[.int .i64 k, .int .u64 (ws s 0 : Int), .int .u64 (ws s 1 : Int), .int .u64 (ws s 2 : Int), .int .u64 (ws s 3 : Int), .slice a n c] 50 (0, 0)) := by rw [hW]; exact alloc_new _ _
      have HK := hid (And.intro (hK.below bW) (And.intro bW x0))
      have F := hid hq
      have he : k ≠ 3 → emp s = true := fun h3 => emp_iff.2 (shaped_emp hs h3)
      have hk : ((k = 1 ∨ k = 2) ∧ n = 0 ∧ emp s = true) ∨ (k = 3 ∧ n = 0 ∧ emp s = false) ∨ ((k = 4 ∨ k = 5) ∧ ¬ (n : Int) < 2 ∧ emp s = true) ∨ (k = 6 ∧ n = 1 ∧ emp s = true) := by
        rcases shaped_kind hs with rfl | rfl | rfl | rfl | rfl | rfl
        · exact .inl ⟨.inl rfl, shaped_leaf hs (by simp), he (by decide)⟩
        · exact .inl ⟨.inr rfl, shaped_leaf hs (by simp), he (by decide)⟩
        · exact .inr (.inl ⟨rfl, shaped_leaf hs (by simp), by simp [shaped] at hs; exact hs.2⟩)
        · exact .inr (.inr (.inl ⟨.inl rfl, by have := shaped_two hs (by simp); omega, he (by decide)⟩))
        · exact .inr (.inr (.inl ⟨.inr rfl, by have := shaped_two hs (by simp); omega, he (by decide)⟩))
        · exact .inr (.inr (.inr ⟨rfl, shaped_star hs, he (by decide)⟩))
      clear hK ih bW x0 hq hs he hv
      rcases hk with ⟨rfl | rfl, rfl, he⟩ | ⟨rfl, rfl, he⟩ | ⟨rfl | rfl, hn2, he⟩ | ⟨rfl, rfl, he⟩
      · go_enter Tryd.func62, Tryd.ntmps62
        go_wp2
        go_ret
        rw [← hW]
        have hl : l = [] := List.eq_nil_of_length_eq_zero hln.out
        exact ⟨by rw [F.out, hl, fitsL]; rfl, HK.out.2.1⟩
      · go_enter Tryd.func62, Tryd.ntmps62
        go_wp2
        go_ret
        rw [← hW]
        have hl : l = [] := List.eq_nil_of_length_eq_zero hln.out
        exact ⟨by rw [F.out, hl, fitsL]; rfl, HK.out.2.1⟩
      · go_enter Tryd.func62, Tryd.ntmps62
        go_wp2
        go_ret
        rw [← hW]
        have hl : l = [] := List.eq_nil_of_length_eq_zero hln.out
        exact ⟨by rw [F.out, hl, fitsL]; rfl, HK.out.2.1⟩
      all_goals
        try rw [show ((1 : Nat) : Int) = 1 from rfl] at *
        go_enter Tryd.func62, Tryd.ntmps62
        go_wp2_with fail
        rw [← hW]
        go_loopg [6] l.length (fun k sl wr => ∃ i : Nat, sl = .int .i64 i ∧ i + k = l.length ∧ (∀ y ∈ l.take i, fits y d = true) ∧ Below W.heap.size W wr)
        case atStart => exact ⟨0, rfl, by omega, by simp, Below.refl _ _⟩
        case round =>
          obtain ⟨i, rfl, hk, hall, hbw⟩ := hrel
          have hlen := hln.out
          by_cases hlt : i < l.length
          · have hlt' : (i : Int) < (l.length : Int) := by omega
            rw [hlen] at hlt'
            try rw [show ((1 : Nat) : Int) = 1 from rfl] at hlt'
            obtain ⟨b, off, k', s', l', a', n', c', rfl, _, hb, hx, hK', q0, q1, q2, q3, q4, q5⟩ := (HK.out.1.below hbw).get (i := i) (by omega)
            have c5 := (cells6 ((hbw.block _ (heap_lt HK.out.2.2)).trans HK.out.2.2)).2.2.2.2.2
            have HX := hid (And.intro hx (And.intro hK' (And.intro hbw hall)))
            have CR := hid (IH.out _ (List.mem_of_getElem? HX.out.1) wr _ (RC_mk.2 ⟨a', n', c', rfl, HX.out.2.1⟩))
            clear hx hK' hbw hall hlen
            go_wp2_with fail
            refine CR.out.mono ?_
            rintro e W2 ⟨rfl, b2⟩
            have HB := hid (HX.out.2.2.1.trans (b2.mono HX.out.2.2.1.size))
            clear b2
            cases hf : fits (.mk k' s' l') d
            · go_wp2
              go_ret
              refine ⟨?_, HK.out.2.1.trans (HB.out.mono HK.out.2.1.size)⟩
              have : q = false := by
                rw [F.out, ← Bool.not_eq_true, fitsL_iff]
                intro h
                have := h _ (List.mem_of_getElem? HX.out.1)
                rw [hf] at this; cases this
              rw [this]; rfl
            · go_wp2
              go_roundg (gk - 1)
              case measure => omega
              case rel => exact ⟨i + 1, by go_num, by omega, take_all HX.out.2.2.2 HX.out.1 hf, HB.out⟩
          · have hin : ¬ (i : Int) < (l.length : Int) := by omega
            rw [hlen] at hin
            try rw [show ((1 : Nat) : Int) = 1 from rfl] at hin
            have HX := hid (And.intro hall hbw)
            clear hall hbw hlen
            go_wp2
            go_ret
            refine ⟨?_, HK.out.2.1.trans (HX.out.2.mono HK.out.2.1.size)⟩
            have : q = true := by
              rw [F.out, fitsL_iff]
              exact take_full HX.out.1 rfl (by omega)
            rw [this]; rfl

end Go.Proofs.YtogpnlkjcdedlaaDoor
