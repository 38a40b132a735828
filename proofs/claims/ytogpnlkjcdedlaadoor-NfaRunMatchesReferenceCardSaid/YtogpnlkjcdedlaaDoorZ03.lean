/-
  Contracts: fits, Valid, matchable.
  Contracts: the reference's valid, shallow, Depth, Equal; Few, small.
  Contracts: the reference's Valid, shallow, Few, Depth, Equal; small.
  Arguments opened, whatever the seat: a slice whose elements take several cells; what each element is (no program; lies as <Seat>Op, behind <Seat>Ba).
  The frame of a law whose row lists variables: a walk that ends in 'true' with old memory as it was, given what the list says of the world, gives the row; the tied card out of it (no program; lies as <Seat>La, behind <Seat>Fr).
  The arguments opened: expressions; the table out of what the row lists.
  Plain maths: nondeterministic automata: closures, steps, runs; the position automaton (namespace Nf; no program).
-/
import Derived.Test.YtogpnlkjcdedlaaDoorZ02
import Derived.Deep.LoopGhost
import Derived.LoopIn
import Derived.TacticsInMore
import Derived.Test.YtogpnlkjcdedlaaDoorZ01
import Derived.ChangeOld
import Derived.Deep.Slices
import Derived.Deep.Strs
import Derived.Lib.SmallJoins
import Derived.LaidMore
import Derived.Stop.Joined
import Derived.SevenTiedAt
import Derived.Test.YtogpnlkjcdedlaaDoorRows
import Derived.Test.YtogpnlkjcdedlaaDoorTie
import Derived.Test.YtogpnlkjcdedlaaDoorCards
import Derived.Lib.LaidTab
import Derived.Laws.IdiomArrays
import Derived.ShutString
import Derived.ProofKit
section
set_option linter.unusedSimpArgs false
set_option linter.unusedVariables false
namespace Go.Proofs.YtogpnlkjcdedlaaDoor
open Go.RowKit Bs Rg Go.Frame
attribute [local go_sem] eq_zero eq_set

theorem take_all {l : List Rx} {P : Rx → Prop} {i : Nat} {x : Rx} (h : ∀ y ∈ l.take i, P y) (hi : l[i]? = some x) (hx : P x) : ∀ y ∈ l.take (i + 1), P y := by
  intro y hy
  rw [List.take_add_one, hi] at hy
  rcases List.mem_append.1 hy with h' | h'
  · exact h y h'
  · simp at h'; rw [h']; exact hx
theorem take_full {l : List Rx} {P : Rx → Prop} {i n : Nat} (h : ∀ y ∈ l.take i, P y) (hl : l.length = n) (hi : n ≤ i) : ∀ y ∈ l, P y := by
  rw [List.take_of_length_le (by omega)] at h; exact h

set_option maxRecDepth 100000 in
set_option maxHeartbeats 4000000 in
theorem fits_any (g : Nat → Prop) (r : Rx) : ∀ (d : Nat) (w : World) (cs : List Value), d ≤ 1000 → RC g w r cs →
    Calls Tryd.prog 63 #[.agg cs.toArray, .int .i64 (d : Int)] w fun e w' => e = .returned (.bool (fits r d)) ∧ Below w.heap.size w w' := by
  induction r using Rx.ind with
  | h k s l ih =>
  intro d w cs hd h
  obtain ⟨a, n, c, rfl, hK⟩ := RC_mk.1 h
  clear h
  show Calls Tryd.prog 63 #[.agg #[.int .i64 k, .int .u64 (ws s 0 : Int), .int .u64 (ws s 1 : Int), .int .u64 (ws s 2 : Int), .int .u64 (ws s 3 : Int), .slice a n c], .int .i64 (d : Int)] w _
  cases d with
  | zero =>
    go_enter Tryd.func63, Tryd.ntmps63
    go_wp2
    go_ret
    rw [fits_zero]
    exact ⟨rfl, (Below.refl _ _).alloc (Nat.le_refl _) _⟩
  | succ d =>
    obtain ⟨m, hm⟩ : ∃ m : Int, m = ((d + 1 : Nat) : Int) := ⟨_, rfl⟩
    rw [← hm]
    have hd0 : (m == 0) = false := by simp; omega
    have hd1 : IntKind.i64.wrap (m - 1) = (d : Int) := by rw [wrapIn] <;> omega
    obtain ⟨q, hq⟩ : ∃ q, q = fits (.mk k s l) (d + 1) := ⟨_, rfl⟩
    rw [← hq]
    rw [fits_mk, hK.len] at hq
    have F := hid hq
    clear hq
    have hln := hid hK.len
    have hnl := hK.lt
    have IH := hid fun x hx W cs hc => ih x hx d W cs (by omega) hc
    obtain ⟨W, hW⟩ : ∃ W, W = w.alloc (.cells #[.int .i64 k, .int .u64 (ws s 0 : Int), .int .u64 (ws s 1 : Int), .int .u64 (ws s 2 : Int), .int .u64 (ws s 3 : Int), .slice a n c] 50) := ⟨_, rfl⟩
    have bW : Below w.heap.size w W := by rw [hW]; exact (Below.refl _ _).alloc (Nat.le_refl _) _
    have x0 : W.heap[w.heap.size]? = some (.cells #[.int .i64 k, .int .u64 (ws s 0 : Int), .int .u64 (ws s 1 : Int), .int .u64 (ws s 2 : Int), .int .u64 (ws s 3 : Int), .slice a n c] 50 (0, 0)) := by rw [hW]; exact alloc_new _ _
    have CS := hid (shaped_any k s a n c W hK.lt)
    have HK := hid (And.intro (hK.below bW) (And.intro bW x0))
    clear hK ih hm bW x0
    go_enter Tryd.func63, Tryd.ntmps63
    go_wp2_with fail
    rw [← hW]
    refine CS.out.mono ?_
    rintro e W1 ⟨rfl, b1⟩
    have c5 : W1.cell? ⟨w.heap.size, 5, none⟩ = some (.slice a n c) := by
      simp [World.cell?, (b1.block _ (heap_lt HK.out.2.2)).trans HK.out.2.2]
    have H1 := hid (And.intro (HK.out.1.below b1) (HK.out.2.1.trans (b1.mono HK.out.2.1.size)))
    clear hW b1
    cases hs : shaped k s n
    · go_wp2
      go_ret
      exact ⟨by rw [F.out, hs]; rfl, H1.out.2⟩
    · have F := hid (show q = fitsL l d by rw [F.out, hs, Bool.true_and])
      clear hs
      go_wp2_with fail
      go_loopg [17] n (fun k sl wr => ∃ i : Nat, sl = .int .i64 i ∧ i + k = n ∧ (∀ y ∈ l.take i, fits y d = true) ∧ Below W1.heap.size W1 wr)
      case atStart => exact ⟨0, rfl, by omega, by simp, Below.refl _ _⟩
      case round =>
        obtain ⟨i, rfl, hk, hall, hbw⟩ := hrel
        by_cases hlt : i < n
        · have hlt' : (i : Int) < (n : Int) := by omega
          obtain ⟨b, off, k', s', l', a', n', c', rfl, _, hb, hx, hK', q0, q1, q2, q3, q4, q5⟩ := (H1.out.1.below hbw).get hlt
          have HX := hid (And.intro hx (And.intro hK' (And.intro hbw hall)))
          clear hx hK' hbw hall
          have CR := hid (fun V (hV : Below wr.heap.size wr V) => IH.out _ (List.mem_of_getElem? HX.out.1) V _ (RC_mk.2 ⟨a', n', c', rfl, HX.out.2.1.below hV⟩))
          go_wp2_with fail
          refine (CR.out _ ((Below.refl _ _).alloc (Nat.le_refl _) _)).mono ?_
          rintro e W2 ⟨rfl, b2⟩
          have b2' : Below wr.heap.size wr W2 := ((Below.refl _ _).alloc (Nat.le_refl _) _).trans (b2.mono (by simp))
          have HB := hid (HX.out.2.2.1.trans (b2'.mono HX.out.2.2.1.size))
          clear b2 b2'
          cases hf : fits (.mk k' s' l') d
          · go_wp2
            go_ret
            refine ⟨?_, H1.out.2.trans (HB.out.mono H1.out.2.size)⟩
            have : q = false := by
              rw [F.out, ← Bool.not_eq_true, fitsL_iff]
              intro h
              have := h _ (List.mem_of_getElem? HX.out.1)
              rw [hf] at this; cases this
            rw [this]; rfl
          · go_wp2
            go_roundg (gk - 1)
            case measure => omega
            case rel => exact ⟨i + 1, by go_num, by omega, take_all HX.out.2.2.2 HX.out.1 hf, HB.out⟩
        · have hin : ¬ (i : Int) < (n : Int) := by omega
          have HX := hid (And.intro hall hbw)
          clear hall hbw
          go_wp2
          go_ret
          refine ⟨?_, H1.out.2.trans (HX.out.2.mono H1.out.2.size)⟩
          have : q = true := by
            rw [F.out, fitsL_iff]
            exact take_full HX.out.1 hln.out (by omega)
          rw [this]; rfl
theorem Valid_any (g : Nat → Prop) (r : Rx) (w : World) (cs : List Value) (h : RC g w r cs) :
    Calls Tryd.prog 45 #[.agg cs.toArray] w fun e w' => e = .returned (.bool (fits r 30)) ∧ Below w.heap.size w w' := by
  obtain ⟨k, s, l⟩ := r
  obtain ⟨a, n, c, rfl, hK⟩ := RC_mk.1 h
  have b1 : ∀ o, Below w.heap.size w (w.alloc o) := fun o => (Below.refl _ _).alloc (Nat.le_refl _) o
  have CF := hid (fun V (hV : Below w.heap.size w V) => fits_any g (.mk k s l) 30 V _ (by decide) (RC_mk.2 ⟨a, n, c, rfl, hK.below hV⟩))
  clear hK h
  show Calls Tryd.prog 45 #[.agg #[.int .i64 k, .int .u64 (ws s 0 : Int), .int .u64 (ws s 1 : Int), .int .u64 (ws s 2 : Int), .int .u64 (ws s 3 : Int), .slice a n c]] w _
  go_enter Tryd.func45, Tryd.ntmps45
  go_wp2_with fail
  refine (CF.out _ (b1 _)).mono ?_
  rintro e W ⟨rfl, b2⟩
  have B := hid ((b1 _).trans (b2.mono (b1 _).size))
  clear b2
  go_wp2
  go_ret
  exact ⟨rfl, B.out⟩
end Go.Proofs.YtogpnlkjcdedlaaDoor
end
section
set_option linter.unusedSimpArgs false
set_option linter.unusedVariables false
namespace Go.Proofs.YtogpnlkjcdedlaaDoor
open Go.RowKit Bs Rg Go.Frame
attribute [local go_sem] eq_zero eq_set

theorem cells6 {W : World} {b : Nat} {x0 x1 x2 x3 x4 x5 : Value} {t : TypeId} (h : W.heap[b]? = some (.cells #[x0, x1, x2, x3, x4, x5] t (0, 0))) : W.cell? ⟨b, 0, none⟩ = some x0 ∧ W.cell? ⟨b, 1, none⟩ = some x1 ∧ W.cell? ⟨b, 2, none⟩ = some x2 ∧ W.cell? ⟨b, 3, none⟩ = some x3 ∧ W.cell? ⟨b, 4, none⟩ = some x4 ∧ W.cell? ⟨b, 5, none⟩ = some x5 := by
  refine ⟨?_, ?_, ?_, ?_, ?_, ?_⟩ <;> simp [World.cell?, h]

set_option maxRecDepth 100000 in
set_option maxHeartbeats 4000000 in
theorem rvalid_no (k : Int) (s : BS) (a : Option Addr) (n c : Nat) (w : World) (v : Int) (hn : n < 140737488355328) (h : v < 30 → shaped k s n = false) :
    Calls Tryd.prog 62 #[.agg #[.int .i64 k, .int .u64 (ws s 0 : Int), .int .u64 (ws s 1 : Int), .int .u64 (ws s 2 : Int), .int .u64 (ws s 3 : Int), .slice a n c], .int .i64 v] w fun e w' => e = .returned (.bool false) ∧ Below w.heap.size w w' := by
  have hk : k = 1 ∨ k = 2 ∨ k = 3 ∨ k = 4 ∨ k = 5 ∨ k = 6 ∨ (k ≠ 1 ∧ k ≠ 2 ∧ k ≠ 3 ∧ k ≠ 4 ∧ k ≠ 5 ∧ k ≠ 6) := by omega
  have hn : n = 0 ∨ n = 1 ∨ ((2 : Int) ≤ n ∧ ¬ (n : Int) < 2 ∧ ¬ (n : Int) = 0 ∧ ¬ (n : Int) = 1 ∧ ¬ n = 0 ∧ ¬ n = 1 ∧ 2 ≤ n) := by omega
  by_cases hv : v < 30
  · have h := h hv
    have hv' : ¬ 30 ≤ v := by omega
    rcases hk with rfl | rfl | rfl | rfl | rfl | rfl | ⟨h1, h2, h3, h4, h5, h6⟩ <;> rcases hn with rfl | rfl | ⟨n1, n2, n3, n4, n5, n6, n7⟩ <;> cases he : emp s
    all_goals try (exfalso; simp [shaped, *] at h; done)
    all_goals
      clear h
      go_enter Tryd.func62, Tryd.ntmps62
      go_wp2
    all_goals
      go_ret
      exact ⟨by first | rfl | simp [*], (Below.refl _ _).alloc (Nat.le_refl _) _⟩
  · have hv' : 30 ≤ v := by omega
    clear hk hn h
    go_enter Tryd.func62, Tryd.ntmps62
    go_wp2
    go_ret
    exact ⟨rfl, (Below.refl _ _).alloc (Nat.le_refl _) _⟩

set_option maxRecDepth 100000 in
set_option maxHeartbeats 4000000 in
theorem rvalid_any (g : Nat → Prop) (r : Rx) : ∀ (d : Nat) (v : Int) (w : World) (cs : List Value), v = 30 - (d : Int) → d ≤ 30 → RC g w r cs →
    Calls Tryd.prog 62 #[.agg cs.toArray, .int .i64 v] w fun e w' => e = .returned (.bool (fits r d)) ∧ Below w.heap.size w w' := by
  induction r using Rx.ind with
  | h k s l ih =>
  intro d v w cs hv hd h
  obtain ⟨a, n, c, rfl, hK⟩ := RC_mk.1 h
  clear h
  show Calls Tryd.prog 62 #[.agg #[.int .i64 k, .int .u64 (ws s 0 : Int), .int .u64 (ws s 1 : Int), .int .u64 (ws s 2 : Int), .int .u64 (ws s 3 : Int), .slice a n c], .int .i64 v] w _
  obtain ⟨q, hq⟩ : ∃ q, q = fits (.mk k s l) d := ⟨_, rfl⟩
  rw [← hq]
  cases d with
  | zero =>
    rw [fits_zero] at hq
    rw [hq]
    exact rvalid_no k s a n c w v hK.lt (fun h => by omega)
  | succ d =>
    rw [fits_mk, hK.len] at hq
    cases hs : shaped k s n with
    | false =>
      rw [hs, Bool.false_and] at hq
      rw [hq]
      exact rvalid_no k s a n c w v hK.lt (fun _ => hs)
    | true =>
      rw [hs, Bool.true_and] at hq
      have hln := hid hK.len
      have hnl := hK.lt
      have hv0 : ¬ 30 ≤ v := by omega
      have hv1 : IntKind.i64.wrap (v + 1) = v + 1 := by rw [wrapIn] <;> omega
      have IH := hid fun x hx W cs hc => ih x hx d (v + 1) W cs (by omega) (by omega) hc
      obtain ⟨W, hW⟩ : ∃ W, W = w.alloc (.cells #[.int .i64 k, .int .u64 (ws s 0 : Int), .int .u64 (ws s 1 : Int), .int .u64 (ws s 2 : Int), .int .u64 (ws s 3 : Int), .slice a n c] 50) := ⟨_, rfl⟩
      have bW : Below w.heap.size w W := by rw [hW]; exact (Below.refl _ _).alloc (Nat.le_refl _) _
      have x0 : W.heap[w.heap.size]? = some (.cells #[.int .i64 k, .int .u64 (ws s 0 : Int), .int .u64 (ws s 1 : Int), .int .u64 (ws s 2 : Int), .int .u64 (ws s 3 : Int), .slice a n c] 50 (0, 0)) := by rw [hW]; exact alloc_new _ _
      have HK := hid (And.intro (hK.below bW) (And.intro bW x0))
      have F := hid hq
      have he : k ≠ 3 → emp s = true := fun h3 => emp_iff.2 (shaped_emp hs h3)
      have hk : ((k = 1 ∨ k = 2) ∧ n = 0 ∧ emp s = true) ∨ (k = 3 ∧ n = 0 ∧ emp s = false) ∨ ((k = 4 ∨ k = 5) ∧ ¬ (n : Int) < 2 ∧ emp s = true) ∨ (k = 6 ∧ n = 1 ∧ emp s = true) := by
        rcases shaped_kind hs with rfl | rfl | rfl | rfl | rfl | rfl
        · exact .inl ⟨.inl rfl, shaped_leaf hs (by simp), he (by decide)⟩
        · exact .inl ⟨.inr rfl, shaped_leaf hs (by simp), he (by decide)⟩
        · exact .inr (.inl ⟨rfl, shaped_leaf hs (by simp), by simp [shaped] at hs; exact hs.2⟩)
        · exact .inr (.inr (.inl ⟨.inl rfl, by have := shaped_two hs (by simp); omega, he (by decide)⟩))
        · exact .inr (.inr (.inl ⟨.inr rfl, by have := shaped_two hs (by simp); omega, he (by decide)⟩))
        · exact .inr (.inr (.inr ⟨rfl, shaped_star hs, he (by decide)⟩))
      clear hK ih bW x0 hq hs he hv
      rcases hk with ⟨rfl | rfl, rfl, he⟩ | ⟨rfl, rfl, he⟩ | ⟨rfl | rfl, hn2, he⟩ | ⟨rfl, rfl, he⟩
      · go_enter Tryd.func62, Tryd.ntmps62
        go_wp2
        go_ret
        rw [← hW]
        have hl : l = [] := List.eq_nil_of_length_eq_zero hln.out
        exact ⟨by rw [F.out, hl, fitsL]; rfl, HK.out.2.1⟩
      · go_enter Tryd.func62, Tryd.ntmps62
        go_wp2
        go_ret
        rw [← hW]
        have hl : l = [] := List.eq_nil_of_length_eq_zero hln.out
        exact ⟨by rw [F.out, hl, fitsL]; rfl, HK.out.2.1⟩
      · go_enter Tryd.func62, Tryd.ntmps62
        go_wp2
        go_ret
        rw [← hW]
        have hl : l = [] := List.eq_nil_of_length_eq_zero hln.out
        exact ⟨by rw [F.out, hl, fitsL]; rfl, HK.out.2.1⟩
      all_goals
        try rw [show ((1 : Nat) : Int) = 1 from rfl] at *
        go_enter Tryd.func62, Tryd.ntmps62
        go_wp2_with fail
        rw [← hW]
        go_loopg [6] l.length (fun k sl wr => ∃ i : Nat, sl = .int .i64 i ∧ i + k = l.length ∧ (∀ y ∈ l.take i, fits y d = true) ∧ Below W.heap.size W wr)
        case atStart => exact ⟨0, rfl, by omega, by simp, Below.refl _ _⟩
        case round =>
          obtain ⟨i, rfl, hk, hall, hbw⟩ := hrel
          have hlen := hln.out
          by_cases hlt : i < l.length
          · have hlt' : (i : Int) < (l.length : Int) := by omega
            rw [hlen] at hlt'
            try rw [show ((1 : Nat) : Int) = 1 from rfl] at hlt'
            obtain ⟨b, off, k', s', l', a', n', c', rfl, _, hb, hx, hK', q0, q1, q2, q3, q4, q5⟩ := (HK.out.1.below hbw).get (i := i) (by omega)
            have c5 := (cells6 ((hbw.block _ (heap_lt HK.out.2.2)).trans HK.out.2.2)).2.2.2.2.2
            have HX := hid (And.intro hx (And.intro hK' (And.intro hbw hall)))
            have CR := hid (IH.out _ (List.mem_of_getElem? HX.out.1) wr _ (RC_mk.2 ⟨a', n', c', rfl, HX.out.2.1⟩))
            clear hx hK' hbw hall hlen
            go_wp2_with fail
            refine CR.out.mono ?_
            rintro e W2 ⟨rfl, b2⟩
            have HB := hid (HX.out.2.2.1.trans (b2.mono HX.out.2.2.1.size))
            clear b2
            cases hf : fits (.mk k' s' l') d
            · go_wp2
              go_ret
              refine ⟨?_, HK.out.2.1.trans (HB.out.mono HK.out.2.1.size)⟩
              have : q = false := by
                rw [F.out, ← Bool.not_eq_true, fitsL_iff]
                intro h
                have := h _ (List.mem_of_getElem? HX.out.1)
                rw [hf] at this; cases this
              rw [this]; rfl
            · go_wp2
              go_roundg (gk - 1)
              case measure => omega
              case rel => exact ⟨i + 1, by go_num, by omega, take_all HX.out.2.2.2 HX.out.1 hf, HB.out⟩
          · have hin : ¬ (i : Int) < (l.length : Int) := by omega
            rw [hlen] at hin
            try rw [show ((1 : Nat) : Int) = 1 from rfl] at hin
            have HX := hid (And.intro hall hbw)
            clear hall hbw hlen
            go_wp2
            go_ret
            refine ⟨?_, HK.out.2.1.trans (HX.out.2.mono HK.out.2.1.size)⟩
            have : q = true := by
              rw [F.out, fitsL_iff]
              exact take_full HX.out.1 rfl (by omega)
            rw [this]; rfl

end Go.Proofs.YtogpnlkjcdedlaaDoor
end
section
set_option linter.unusedSimpArgs false
set_option linter.unusedVariables false
namespace Go.Proofs.YtogpnlkjcdedlaaDoor
open Go.RowKit Bs Rg Go.Frame
attribute [local go_sem] eq_zero eq_set

theorem bel1 (w : World) (o : Obj) : Below w.heap.size w (w.alloc o) := (Below.refl _ _).alloc (Nat.le_refl _) o
theorem shL_neg {l : List Rx} {lv : Nat} {c : Int} (h : c < 0) : shL l lv c = c := by
  cases l with
  | nil => rw [shL]
  | cons x l => rw [shL, if_pos h]

set_option maxRecDepth 100000 in
set_option maxHeartbeats 4000000 in
theorem rValid_any (g : Nat → Prop) (r : Rx) (w : World) (cs : List Value) (h : RC g w r cs) :
    Calls Tryd.prog 43 #[.agg cs.toArray] w fun e w' => e = .returned (.bool (fits r 30)) ∧ Below w.heap.size w w' := by
  obtain ⟨k, s, l⟩ := r
  obtain ⟨a, n, c, rfl, hK⟩ := RC_mk.1 h
  have CF := hid (fun V (hV : Below w.heap.size w V) => rvalid_any g (.mk k s l) 30 0 V _ rfl (by decide) (RC_mk.2 ⟨a, n, c, rfl, hK.below hV⟩))
  clear hK h
  show Calls Tryd.prog 43 #[.agg #[.int .i64 k, .int .u64 (ws s 0 : Int), .int .u64 (ws s 1 : Int), .int .u64 (ws s 2 : Int), .int .u64 (ws s 3 : Int), .slice a n c]] w _
  go_enter Tryd.func43, Tryd.ntmps43
  go_wp2_with fail
  refine (CF.out _ (bel1 _ _)).mono ?_
  rintro e W ⟨rfl, b2⟩
  have B := hid ((bel1 w _).trans (b2.mono (bel1 w _).size))
  clear b2
  go_wp2
  go_ret
  exact ⟨rfl, B.out⟩

end Go.Proofs.YtogpnlkjcdedlaaDoor
end
section
namespace Go.Frame
open Go.RowKit Go.WideShapes Go.ChangeShapes Go.ChangeAt

/-- A slice in memory: the cells of each element, c to an element. -/
def CRow (c : Nat) (W : World) (p : Option Addr) (n : Nat) (C : List (List Value)) : Prop :=
  C.length = n ∧ (n = 0 ∨ ∃ b off, p = some ⟨b, off, none⟩ ∧ b < W.heap.size ∧ ∀ i cs, C[i]? = some cs → ∀ j (v : Value), cs[j]? = some v → W.cell? ⟨b, off + i * c + j, none⟩ = some v)
theorem CRow.below {c : Nat} {W W' : World} {p : Option Addr} {n : Nat} {C : List (List Value)} (h : CRow c W p n C) (hb : Below W.heap.size W W') : CRow c W' p n C := by
  refine ⟨h.1, h.2.imp id ?_⟩
  rintro ⟨b, off, rfl, hlt, hx⟩
  exact ⟨b, off, rfl, Nat.lt_of_lt_of_le hlt hb.size, fun i cs hi j v hj => (hb.cell (p := ⟨b, _, none⟩) hlt).trans (hx i cs hi j v hj)⟩
theorem CRow.set {c : Nat} {W : World} {p : Option Addr} {n : Nat} {C : List (List Value)} (h : CRow c W p n C) {x : Addr} {v : Value} (hp : ∀ a, p = some a → a.block ≠ x.block) : CRow c (W.setCell x v) p n C := by
  refine ⟨h.1, h.2.imp id ?_⟩
  rintro ⟨b, off, rfl, hb, hx⟩
  refine ⟨b, off, rfl, by simpa using hb, fun i cs hi j y hy => ?_⟩
  rw [World.cell?_setCell_other _ _ _ _ (fun e => hp _ rfl (by rw [e]))]
  exact hx i cs hi j y hy
/-- What is known of every element's cells is known of a list of data. -/
theorem choose_list {α β : Type} {R : β → α → Prop} : ∀ (C : List β), (∀ c ∈ C, ∃ e, R c e) → ∃ E : List α, E.length = C.length ∧ ∀ (i : Nat) (c : β), C[i]? = some c → ∃ e : α, E[i]? = some e ∧ R c e
  | [], _ => ⟨[], rfl, fun i c h => by simp at h⟩
  | c :: C, h => by
    obtain ⟨e, he⟩ := h c (by simp)
    obtain ⟨E, hl, hE⟩ := choose_list C (fun c' hc' => h c' (by simp [hc']))
    refine ⟨e :: E, by simp [hl], fun i c' hi => ?_⟩
    cases i with
    | zero => simp at hi; subst hi; exact ⟨e, rfl, he⟩
    | succ i => simpa using hE i c' (by simpa using hi)
theorem open_rows {H : Type} {enc : TypeId × Value → H} {P : Program} {t e : TypeId} {w : World} {base : Nat} {spare : Nat → Bool} {held : Bool} {fuel : Nat} {a : Option Addr} {len cap : Nat} {x : DataW H × List MemPlace} (ht : P.underlying t = some (.slice e)) (hc : 0 < P.cellsOf e)
    (h : DataW.trod enc P w base spare held fuel t [.slice a len cap] = some x) :
    ∃ C : List (List Value), CRow (P.cellsOf e) w a len C ∧ (∃ k, (k = 0 ∨ k ∈ x.1.weights P t) ∧ len * P.bytesOf e ≤ k) ∧ ∀ cs ∈ C, cs.length = P.cellsOf e ∧ ∃ n y, DataW.trod enc P w base spare held n e cs = some y ∧ ∀ k ∈ y.1.weights P e, k ∈ x.1.weights P t := by
  rcases Go.Deep.open_slice ht h with ⟨hc, _⟩ | ⟨y, l, c, m, n, D, Pl, hc', _, hl, hm, hmm, hxe, hx⟩
  · simp at hc
    exact ⟨[], ⟨hc.2.1.symm, .inl hc.2.1⟩, ⟨0, .inl rfl, by simp [hc.2.1]⟩, by simp⟩
  · simp at hc'
    obtain ⟨rfl, rfl, rfl⟩ := hc'
    by_cases h0 : len = 0
    · exact ⟨[], ⟨h0.symm, .inl h0⟩, ⟨0, .inl rfl, by simp [h0]⟩, by simp⟩
    have hlm : len ≤ m := by rw [hmm]; split <;> omega
    have each : ∀ i ∈ List.range len, ∃ cs', w.cells? base (y.add (i * P.cellsOf e)) (P.cellsOf e) = some cs' ∧ DataW.trod enc P w base spare held n e cs' = some (D i, Pl i) := fun i hi => hx i (by have := List.mem_range.1 hi; omega)
    obtain ⟨C, hCl, hC⟩ := choose_list (List.range len) each
    have hlen : C.length = len := by rw [hCl, List.length_range]
    have hi' : ∀ i, i < len → ∃ cs', C[i]? = some cs' ∧ w.cells? base (y.add (i * P.cellsOf e)) (P.cellsOf e) = some cs' ∧ DataW.trod enc P w base spare held n e cs' = some (D i, Pl i) := fun i hi => hC i i (by simp [hi])
    obtain ⟨b, off, spot⟩ := y
    have hcell0 : ∃ v, w.cell? ((⟨b, off, spot⟩ : Addr)) = some v := by
      obtain ⟨cs', _, h1, _⟩ := hi' 0 (by omega)
      obtain ⟨_, hl', hcell⟩ := World.cells?_some h1
      have h3 := hcell 0 (by omega)
      refine ⟨cs'[0]'(by omega), ?_⟩
      rw [Go.Deep.add_add, List.getElem?_eq_getElem (by omega)] at h3
      simpa [Addr.add] using h3
    obtain ⟨v0, hv0⟩ := hcell0
    obtain rfl : spot = none := World.cell?_spot hv0
    have hb : b < w.heap.size := World.block_lt_of_cell? w _ hv0
    refine ⟨C, ⟨hlen, .inr ⟨b, off, rfl, hb, fun i cs hi j v hj => ?_⟩⟩, ?_, fun cs hcs => ?_⟩
    · have hil : i < len := by have := (List.getElem?_eq_some_iff.1 hi).1; omega
      obtain ⟨cs', h1, h2, _⟩ := hi' i hil
      rw [hi] at h1
      simp only [Option.some.injEq] at h1
      subst h1
      obtain ⟨_, hl', hcell⟩ := World.cells?_some h2
      have hjl := (List.getElem?_eq_some_iff.1 hj).1
      have h3 := hcell j (by omega)
      rw [Go.Deep.add_add, add_at] at h3
      rw [show off + i * P.cellsOf e + j = off + (i * P.cellsOf e + j) by omega]
      rw [← hj]
      simpa using h3
    · refine ⟨(len + (m - len)) * P.bytesOf e, .inr ?_, Nat.mul_le_mul_right _ (by omega)⟩
      subst hxe
      simp only [DataW.weights, ht, List.mem_cons, List.length_map, List.length_range]
      exact .inl trivial
    · obtain ⟨i, hi⟩ := List.getElem?_of_mem hcs
      have hil : i < len := by have := (List.getElem?_eq_some_iff.1 hi).1; omega
      obtain ⟨cs', h1, h2, h3⟩ := hi' i hil
      rw [hi] at h1
      simp only [Option.some.injEq] at h1
      subst h1
      obtain ⟨_, hl', _⟩ := World.cells?_some h2
      refine ⟨hl', n, _, h3, fun k hk => ?_⟩
      subst hxe
      have hmem : D i ∈ (List.range len).map D := List.mem_map.2 ⟨i, by simpa using hil, rfl⟩
      simp only [DataW.weights, ht, List.mem_cons, List.mem_append]
      exact .inr (.inl (weightsAll_mem hmem _ hk))
/-- The elements as data of a type of our own: each element's cells are those of a datum with a property. -/
theorem CRow.data {α : Type} (f : α → List Value) (Q : α → Prop) {c : Nat} {W : World} {p : Option Addr} {n : Nat} {C : List (List Value)} (h : CRow c W p n C) (hd : ∀ cs ∈ C, ∃ e, cs = f e ∧ Q e) : ∃ E : List α, CRow c W p n (E.map f) ∧ ∀ e ∈ E, Q e := by
  obtain ⟨E, hl, hE⟩ := choose_list C hd
  have hm : C = E.map f := by
    apply List.ext_getElem?
    intro i
    rw [List.getElem?_map]
    cases hc : C[i]? with
    | none => rw [List.getElem?_eq_none_iff] at hc; rw [List.getElem?_eq_none (by omega)]; rfl
    | some c => obtain ⟨e, he, hfe, _⟩ := hE i c hc; rw [he, hfe]; rfl
  refine ⟨E, hm ▸ h, fun e he => ?_⟩
  obtain ⟨i, hi⟩ := List.getElem?_of_mem he
  have hil : i < C.length := by have := (List.getElem?_eq_some_iff.1 hi).1; omega
  obtain ⟨e', he', _, hq⟩ := hE i _ (List.getElem?_eq_getElem hil)
  rw [hi] at he'
  simp only [Option.some.injEq] at he'
  exact he' ▸ hq
end Go.Frame
end
section
namespace Go.Frame
open Go.ChangeShapes Go.WideShapes Go.ChangeAt Go.RowKit

theorem lifted_laid {C : Checked} {os : Os} {f : FuncId} {fn : Func} {s : ChangeSpec} {tb : TypeId} {H : Type} {enc : TypeId × Value → H} (laid : List (String × DataW Unit))
    (own : ownKnob C.prog.godebug = none) (started : os.Started) (noInit : C.prog.inits.idxOf? f = none) (hfn : C.prog.funcs[f]? = some fn)
    (witness : ∃ (w : World) (tape : Tape) (i : Input), w.os = os ∧ (w.forCall tape i).Shaped C.prog ∧ i.vars = [] ∧ Input.okWide C.prog (w.forCall tape i) .any w.heap.size f i ∧
      ((s.pre enc C.prog fn [] false (w.forCall tape i).memory i.args ∧ laidMetH C.prog laid (w.forCall tape i).memory) ∧ sizedMet enc C.prog fn (OpenSpec.ofChange s) false (w.forCall tape i).memory i.args) ∧
      ({} : Assume).holds C.prog (lone (Frame.enter C.prog f i.args .normal) [] (w.forCall tape i)))
    (hl : laidOutB C.prog = true) (hp : fn.params.toList.all (fun t => C.prog.readableRec t && decide (t < C.prog.types.size)) = true)
    (hres : fn.resultTypes = #[tb]) (hub : C.prog.underlying tb = some .bool) (hvars : s.vars = [])
    (hspec : ∀ ds : List (DataW H), ds.length = fn.params.toList.length → s.fn H ds = { results := [.lit (.bool true)], args := ds })
    (walk : ∀ (W : World) (base : Nat) (args : Array Value) (ds : List (DataW H)) (p : List MemPlace), args.toList.length = fn.params.toList.length →
      (∀ (j : Nat) t v, fn.params[j]? = some t → args[j]? = some v → Value.okWide C.prog W .any base t v) →
      DataW.TrodAll enc C.prog W 0 (fun _ => true) true fn.params.toList args.toList ds p →
      (DataW.weightsEach C.prog fn.params.toList ds).all (· ≤ reachBytes) = true → laidMetH C.prog laid W →
      Calls C.prog f args W fun e W' => e = .returned (.bool true) ∧ Below W.heap.size W W') :
    ReturnsInHanded {} C os f .any (fun w args => (s.pre enc C.prog fn [] false w args ∧ laidMetH C.prog laid w) ∧ sizedMet enc C.prog fn (OpenSpec.ofChange s) false w args) (s.post enc C.prog fn false true false false) := by
  refine returnsInHanded_of_change_and (X := fun w _ => laidMetH C.prog laid w) (fun _ _ _ hh h => h.of_heap hh) own started noInit hfn witness ?_
  intro W base args ds gs before hval hW _ hsz hlaid _
  have hW' := hW
  obtain ⟨p, q, hA, hV, rfl, hfz, hnd⟩ := hW
  rw [hvars] at hV
  obtain ⟨rfl, rfl⟩ := trodVars_none hV
  obtain ⟨l1, l2⟩ := trodAll_length hA
  have hv : DataSpec.varTypes C.prog s.plain = [] := by simp [DataSpec.varTypes, ChangeSpec.plain, hvars]
  rw [hv] at hsz
  simp only [List.append_nil] at hsz hW'
  refine (walk W base args ds p l2 hval hA hsz hlaid).mono fun e W' ⟨he, bel⟩ => ?_
  subst he
  have hsp := hspec ds l1
  refine ⟨_, rfl, ds, [], _, [], p, [], hW', ?_, ?_, ?_, bel.frame _, fun h => by cases h⟩
  · rw [List.append_nil, hsp, hres]
    exact trodAll_mk1 (shut_bool hub _)
  · rw [List.append_nil, hsp]
    refine trodAll_below hl bel ?_ hA
    intro t ht
    have := List.all_eq_true.1 hp t ht
    simpa [Bool.and_eq_true] using this
  · rw [List.append_nil, hsp, hvars]
    simp [DataW.TrodVars]
end Go.Frame
end
section
namespace Go.Proofs.YtogpnlkjcdedlaaDoor
open Go.RowKit Bs Rg Go.Frame Go.WideShapes Go.ChangeShapes Go.ChangeAt
attribute [local irreducible] nb cnt pc els cf fs

theorem own : ownKnob Tryd.prog.godebug = none := by kernel_rfl
theorem laidOut : laidOutB Tryd.prog = true := by kernel_rfl
theorem gTab : Tryd.prog.globalNamed "math/bits.deBruijn64tab" = some 0 := by kernel_rfl
theorem tTab : (Tryd.prog.globals[0]?).map (·.type) = some 117 := by kernel_rfl
theorem cells5 : Tryd.prog.cellsOf 5 = 1 := by kernel_rfl
theorem cells117 : Tryd.prog.cellsOf 117 = 64 := by kernel_rfl
theorem cT3 : Tryd.prog.cellsOf 3 = 1 := by kernel_rfl
theorem cells48 : Tryd.prog.cellsOf 48 = 4 := by kernel_rfl
theorem cells37 : Tryd.prog.cellsOf 37 = 1 := by kernel_rfl
theorem cells50 : Tryd.prog.cellsOf 50 = 6 := by kernel_rfl
theorem bytes50 : Tryd.prog.bytesOf 50 = 64 := by kernel_rfl

abbrev laidT : List (String × DataW Unit) := [("math/bits.deBruijn64tab", Rows.laid_math_bits_deBruijn64tab)]
theorem door_met (os : Os) (args : Array Value) : laidMetH Tryd.prog laidT ((World.doorLaid Tryd.prog 400 os).forCall (fun _ _ => 0) ⟨#[], args, []⟩).memory :=
  laidMetH_of_parts3 (fuel := 8) (laidMet_of_run' 8 (by kernel_rfl) (by kernel_rfl)) (by kernel_rfl) (by kernel_rfl)
theorem tb_of_laid {W : World} (h : laidMetH Tryd.prog laidT W) : Tb W := by
  rw [MakeChecks.laidMetH_plain _ _ _ (by kernel_rfl)] at h
  have ht : Lib.TabIs Tryd.prog W "math/bits.deBruijn64tab" .u8 (dbl.map fun (x : Nat) => (x : Int)) :=
    Lib.tabIs_of_head (rest := []) gTab tTab Tryd.underlying117 Tryd.underlying5 cells5 cells117 h
  have hc : ∀ i, i < 64 → W.cell? ⟨0, i, none⟩ = some (.int .u8 (db i : Int)) := fun i hi => by
    have := ht.cell gTab i (by simpa [dbl] using hi)
    rw [this]
    have e : (dbl.map fun (x : Nat) => (x : Int)).getD i 0 = (db i : Int) := by
      unfold db
      rw [List.getD_eq_getElem?_getD, List.getD_eq_getElem?_getD, List.getElem?_map]
      cases dbl[i]? <;> rfl
    rw [e]
  refine ⟨World.block_lt_of_cell? W _ (hc 0 (by decide)), hc⟩
theorem u64_nat {x : Int} (h : (Lit.int .u64 x : Lit).wf = true) : ∃ n : Nat, x = n ∧ n < 2 ^ 64 := by
  have := bounds_u64 h
  exact ⟨x.toNat, by omega, by omega⟩
theorem u8_nat {x : Int} (h : (Lit.int .u8 x : Lit).wf = true) : ∃ n : Nat, x = n ∧ n < 256 := by
  have := bounds_u8 h
  exact ⟨x.toNat, by omega, by omega⟩
section
variable {H : Type} {enc : TypeId × Value → H} {w : World} {base : Nat} {sp : Nat → Bool} {held : Bool}
/-- Four cells that read as a set. -/
theorem read_set {fuel : Nat} {cs : List Value} {x : DataW H × List MemPlace} (hl : cs.length = 4) (h : DataW.trod enc Tryd.prog w base sp held fuel 48 cs = some x) :
    ∃ s : BS, cs = [.int .u64 (ws s 0 : Int), .int .u64 (ws s 1 : Int), .int .u64 (ws s 2 : Int), .int .u64 (ws s 3 : Int)] := by
  obtain ⟨c0, c1, c2, c3, rfl⟩ : ∃ c0 c1 c2 c3, cs = [c0, c1, c2, c3] := by
    match cs, hl with
    | [c0, c1, c2, c3], _ => exact ⟨c0, c1, c2, c3, rfl⟩
  obtain ⟨y0, y1, y2, y3, m, _, h0, h1, h2, h3⟩ := trod_array4 Tryd.underlying48 cells46 h
  obtain ⟨x0, e0, _, w0⟩ := DataW.trod_int Tryd.underlying46 h0
  obtain ⟨x1, e1, _, w1⟩ := DataW.trod_int Tryd.underlying46 h1
  obtain ⟨x2, e2, _, w2⟩ := DataW.trod_int Tryd.underlying46 h2
  obtain ⟨x3, e3, _, w3⟩ := DataW.trod_int Tryd.underlying46 h3
  obtain ⟨a, rfl, ha⟩ := u64_nat w0
  obtain ⟨b, rfl, hb⟩ := u64_nat w1
  obtain ⟨c, rfl, hc⟩ := u64_nat w2
  obtain ⟨d, rfl, hd⟩ := u64_nat w3
  simp at e0 e1 e2 e3
  subst e0 e1 e2 e3
  have h1 := sv_of ha hb hc hd
  refine ⟨fun u => ofw a b c d u.toNat, ?_⟩
  have h2 : sv (ofw a b c d) = sv (lf fun u => ofw a b c d u.toNat) := sv_congr fun x hx => by
    unfold lf
    show _ = ofw a b c d (UInt8.ofNat x).toNat
    rw [UInt8.toNat_ofNat_of_lt' (by simpa using hx)]
  rw [h2, sv_lf] at h1
  simp only [Value.agg.injEq] at h1
  have h3 := congrArg Array.toList h1
  simpa using h3.symm
/-- Six cells that read as an expression. -/
theorem read_rx (N : Nat) : ∀ {fuel : Nat} {cs : List Value} {x : DataW H × List MemPlace}, SizeOf.sizeOf x.1 < N → cs.length = 6 → DataW.trod enc Tryd.prog w base sp held fuel 50 cs = some x → (∀ n ∈ x.1.weights Tryd.prog 50, n ≤ reachBytes) → ∃ r : Rx, RC (fun _ => True) w r cs := by
  induction N with
  | zero => intro _ _ x h; omega
  | succ N ih =>
  intro fuel cs x hN hl h hz
  obtain ⟨v0, v1, v2, v3, v4, v5, rfl⟩ : ∃ v0 v1 v2 v3 v4 v5, cs = [v0, v1, v2, v3, v4, v5] := by
    match cs, hl with
    | [v0, v1, v2, v3, v4, v5], _ => exact ⟨v0, v1, v2, v3, v4, v5, rfl⟩
  obtain ⟨y0, y1, y2, m, hx, _, g0, g1, g2⟩ := Go.Deep.trod_struct3 Tryd.underlying50 h
  simp [cT3] at g0
  simp [cells48] at g1
  simp [cells37] at g2
  obtain ⟨k, hk, _, _⟩ := DataW.trod_int Tryd.underlying3 g0
  obtain rfl : v0 = .int .i64 k := by simpa using hk
  obtain ⟨s, hs⟩ := read_set (by rfl) g1
  simp at hs
  obtain ⟨rfl, rfl, rfl, rfl⟩ := hs
  have hw2 : ∀ n ∈ y2.1.weights Tryd.prog 37, n ≤ reachBytes := fun n hn => hz n (by
    rw [hx]
    simp [DataW.weights, Tryd.underlying50, DataW.weightsEach]
    exact .inr (.inr hn))
  have hN2 : SizeOf.sizeOf y2.1 < N := by
    rw [hx] at hN
    simp at hN
    omega
  clear hz hN h g0 g1 hk hx
  rcases Go.Deep.open_slice Tryd.underlying37 g2 with ⟨hc, _⟩ | ⟨a, len, cap, m', n, D, Pl, hc', _, hlc, hm, hmm, hxe, hxx⟩
  · simp at hc
    subst hc
    exact ⟨.mk k s [], RC_mk.2 ⟨none, 0, 0, rfl, rfl, by decide, .inl rfl⟩⟩
  · simp at hc'
    subst hc'
    have hlm : len ≤ m' := by rw [hmm]; split <;> omega
    rw [cells50] at hxx
    have hlen : len < 140737488355328 := by
      have h1 : (len + (m' - len)) * Tryd.prog.bytesOf 50 ≤ reachBytes := hw2 _ (by
        rw [hxe]
        simp only [DataW.weights, Tryd.underlying37, List.mem_cons, List.length_map, List.length_range]
        exact .inl trivial)
      rw [bytes50] at h1
      unfold reachBytes at h1
      omega
    have each : ∀ i ∈ List.range len, ∃ q : Rx, ∃ cs', w.cells? base (a.add (i * 6)) 6 = some cs' ∧ RC (fun _ => True) w q cs' := fun i hi => by
      have hil := List.mem_range.1 hi
      obtain ⟨cs', h1, h2⟩ := hxx i (by omega)
      have hl6 : cs'.length = 6 := (World.cells?_some h1).2.1
      have hDm : D i ∈ (List.range len).map D := List.mem_map.2 ⟨i, hi, rfl⟩
      obtain ⟨q, hq⟩ := ih (x := (D i, Pl i)) (by
        have h3 := List.sizeOf_lt_of_mem hDm
        rw [hxe] at hN2
        simp at hN2
        simp
        omega) hl6 h2 (fun k hk => hw2 k (by
          rw [hxe]
          simp only [DataW.weights, Tryd.underlying37, List.mem_cons, List.mem_append]
          exact .inr (.inl (weightsAll_mem hDm _ hk))))
      exact ⟨q, cs', h1, hq⟩
    obtain ⟨l, hll, hl'⟩ := choose_list (List.range len) each
    have hlen' : l.length = len := by rw [hll, List.length_range]
    refine ⟨.mk k s l, RC_mk.2 ⟨some a, len, cap, rfl, hlen', hlen, ?_⟩⟩
    by_cases h0 : len = 0
    · exact .inl h0
    right
    obtain ⟨b, off, spot⟩ := a
    have get : ∀ i q, l[i]? = some q → ∃ cs', w.cells? base ((⟨b, off, spot⟩ : Addr).add (i * 6)) 6 = some cs' ∧ RC (fun _ => True) w q cs' := fun i q hi => by
      have hil := (List.getElem?_eq_some_iff.1 hi).1
      obtain ⟨q', h1, h2⟩ := hl' i i (by rw [List.getElem?_range (by omega)])
      rw [hi] at h1
      simp only [Option.some.injEq] at h1
      exact h1 ▸ h2
    obtain ⟨q0, hq0⟩ : ∃ q, l[0]? = some q := ⟨l[0]'(by omega), List.getElem?_eq_getElem _⟩
    obtain ⟨v0, hv0⟩ : ∃ v, w.cell? (⟨b, off, spot⟩ : Addr) = some v := by
      obtain ⟨cs', h1, _⟩ := get 0 q0 hq0
      obtain ⟨_, hl', hcell⟩ := World.cells?_some h1
      have h3 := hcell 0 (by omega)
      refine ⟨cs'[0]'(by omega), ?_⟩
      rw [Go.Deep.add_add, List.getElem?_eq_getElem (by omega)] at h3
      simpa [Addr.add] using h3
    obtain rfl : spot = none := World.cell?_spot hv0
    have hb : b < w.heap.size := World.block_lt_of_cell? w _ hv0
    refine ⟨b, off, rfl, trivial, hb, RK_of fun i q hi => ?_⟩
    obtain ⟨cs', h1, h2⟩ := get i q hi
    refine ⟨cs', fun j v hj => ?_, h2⟩
    obtain ⟨_, hl', hcell⟩ := World.cells?_some h1
    have hjl := (List.getElem?_eq_some_iff.1 hj).1
    have h3 := hcell j (by omega)
    rw [Go.Deep.add_add, add_at] at h3
    rw [show off + i * 6 + j = off + (i * 6 + j) by omega, ← hj]
    simpa using h3
set_option maxRecDepth 100000 in
theorem open_rx {r : Reach} {b0 : Nat} {v : Value} {d : DataW H} {p : List MemPlace} (hv : Value.okWide Tryd.prog w r b0 50 v) (h : DataW.Trod enc Tryd.prog w base sp held 50 v d p) (hz : ∀ n ∈ d.weights Tryd.prog 50, n ≤ reachBytes) :
    ∃ (q : Rx) (cs : List Value), v = .agg cs.toArray ∧ RC (fun _ => True) w q cs := by
  obtain ⟨cs, rfl, hsz⟩ := okWide_struct Tryd.underlying50 hv
  obtain ⟨fuel, hf⟩ := h
  obtain ⟨l⟩ := cs
  rw [cells50] at hsz
  obtain ⟨q, hq⟩ := read_rx (SizeOf.sizeOf d + 1) (cs := l) (x := (d, p)) (Nat.lt_succ_self _) (by simpa using hsz) hf hz
  exact ⟨q, l, rfl, hq⟩
set_option maxRecDepth 100000 in
theorem open_u8 {r : Reach} {b0 : Nat} {v : Value} {d : DataW H} {p : List MemPlace} (hv : Value.okWide Tryd.prog w r b0 5 v) (h : DataW.Trod enc Tryd.prog w base sp held 5 v d p) : ∃ n : Nat, v = .int .u8 (n : Int) ∧ n < 256 := by
  obtain ⟨x, rfl, _, _, w0⟩ := open_int Tryd.underlying5 hv h
  obtain ⟨a, rfl, ha⟩ := u8_nat w0
  exact ⟨a, rfl, ha⟩
end

end Go.Proofs.YtogpnlkjcdedlaaDoor
end
section
set_option linter.unusedVariables false
namespace Nf
open Rg

structure Arc where
  f : Int
  t : Int
  e : Bool
  s : BS
structure Nfa where
  n : Int
  st : Int
  arcs : List Arc
  acc : List Int
def isS (n x : Int) : Bool := decide (0 ≤ x) && decide (x < n)
def arcOk (n : Int) (a : Arc) : Bool := isS n a.f && isS n a.t && (!a.e || emp a.s)
def valid (N : Nfa) : Bool := decide (1 ≤ N.n) && decide (N.n ≤ 2000) && isS N.n N.st && N.arcs.all (arcOk N.n) && decide ((N.acc.length : Int) = N.n) && N.acc.all fun x => decide (-1 ≤ x)
/-- A valid automaton with n states. -/
structure Vn (N : Nfa) (n : Nat) : Prop where
  hn : N.n = (n : Int)
  pos : 1 ≤ n
  le : n ≤ 2000
  st : ∃ q : Nat, q < n ∧ N.st = (q : Int)
  arcs : ∀ a ∈ N.arcs, ∃ x y : Nat, x < n ∧ y < n ∧ a.f = (x : Int) ∧ a.t = (y : Int) ∧ (a.e = true → a.s = none8)
  acc : N.acc.length = n
  ge : ∀ x ∈ N.acc, -1 ≤ x
theorem isS_iff {n x : Int} : isS n x = true ↔ 0 ≤ x ∧ x < n := by simp [isS]
theorem arcOk_iff {n : Int} {a : Arc} : arcOk n a = true ↔ (0 ≤ a.f ∧ a.f < n) ∧ (0 ≤ a.t ∧ a.t < n) ∧ (a.e = true → a.s = none8) := by
  unfold arcOk
  rw [Bool.and_eq_true, Bool.and_eq_true, isS_iff, isS_iff, Bool.or_eq_true, emp_iff, and_assoc]
  cases a.e <;> simp
theorem valid_iff {N : Nfa} : valid N = true ↔ ∃ n, Vn N n := by
  unfold valid
  simp only [Bool.and_eq_true, decide_eq_true_eq, List.all_eq_true, isS_iff, arcOk_iff]
  constructor
  · rintro ⟨⟨⟨⟨⟨h1, h2⟩, h3⟩, h4⟩, h5⟩, h6⟩
    refine ⟨N.n.toNat, by omega, by omega, by omega, ⟨N.st.toNat, by omega, by omega⟩, fun a ha => ?_, by omega, h6⟩
    obtain ⟨⟨a1, a2⟩, ⟨a3, a4⟩, a5⟩ := h4 a ha
    exact ⟨a.f.toNat, a.t.toNat, by omega, by omega, by omega, by omega, a5⟩
  · rintro ⟨n, h⟩
    obtain ⟨q, hq, hq2⟩ := h.st
    have := h.hn; have := h.pos; have := h.le; have := h.acc
    refine ⟨⟨⟨⟨⟨by omega, by omega⟩, by omega⟩, fun a ha => ?_⟩, by omega⟩, h.ge⟩
    obtain ⟨x, y, h1, h2, h3, h4, h5⟩ := h.arcs a ha
    exact ⟨by omega, by omega, h5⟩

/-! Closures. -/
inductive Rt (R : Nat → Nat → Prop) (p : Nat → Bool) : Nat → Prop
  | base {x} : p x = true → Rt R p x
  | step {x y} : Rt R p x → R x y → Rt R p y
noncomputable def clo (R : Nat → Nat → Prop) (p : Nat → Bool) : Nat → Bool := fun x => @decide (Rt R p x) (Classical.propDecidable _)
theorem clo_iff {R : Nat → Nat → Prop} {p : Nat → Bool} {x : Nat} : clo R p x = true ↔ Rt R p x := by unfold clo; simp
theorem clo_eq {R : Nat → Nat → Prop} {p q : Nat → Bool} (h1 : ∀ x, p x = true → q x = true) (h2 : ∀ x y, q x = true → R x y → q y = true) (h3 : ∀ x, q x = true → Rt R p x) : q = clo R p := by
  funext x
  rw [Bool.eq_iff_iff, clo_iff]
  refine ⟨h3 x, fun h => ?_⟩
  induction h with
  | base h => exact h1 _ h
  | step _ hr ih => exact h2 _ _ ih hr
theorem Rt.mono {R : Nat → Nat → Prop} {p q : Nat → Bool} (h : ∀ x, p x = true → Rt R q x) {x : Nat} (k : Rt R p x) : Rt R q x := by
  induction k with
  | base h' => exact h _ h'
  | step _ hr ih => exact Rt.step ih hr
theorem clo_clo (R : Nat → Nat → Prop) (p : Nat → Bool) : clo R (clo R p) = clo R p := by
  refine (clo_eq (fun x h => h) (fun x y h hr => ?_) (fun x h => .base h)).symm
  rw [clo_iff] at h ⊢; exact .step h hr
theorem clo_mono {R : Nat → Nat → Prop} {p q : Nat → Bool} (h : ∀ x, p x = true → q x = true) {x : Nat} (k : clo R p x = true) : clo R q x = true := by
  rw [clo_iff] at k ⊢; exact k.mono fun x hx => .base (h x hx)
theorem clo_none {R : Nat → Nat → Prop} (h : ∀ x y, ¬ R x y) (p : Nat → Bool) : clo R p = p :=
  (clo_eq (fun _ h => h) (fun x y _ hr => absurd hr (h x y)) (fun x h => .base h)).symm
theorem clo_lt {R : Nat → Nat → Prop} {p : Nat → Bool} {n : Nat} (hp : ∀ x, p x = true → x < n) (hR : ∀ x y, R x y → y < n) {x : Nat} (h : clo R p x = true) : x < n := by
  rw [clo_iff] at h
  cases h with
  | base h => exact hp _ h
  | step _ h => exact hR _ _ h

/-- Epsilon transitions. -/
def Ep (N : Nfa) (x y : Nat) : Prop := ∃ a ∈ N.arcs, a.e = true ∧ a.f = (x : Int) ∧ a.t = (y : Int)
/-- Where a byte leads. -/
def tgt (N : Nfa) (p : Nat → Bool) (b : UInt8) (y : Nat) : Bool := N.arcs.any fun a => a.s b && decide (0 ≤ a.f) && p a.f.toNat && decide (a.t = (y : Int))
theorem tgt_iff {N : Nfa} {p : Nat → Bool} {b : UInt8} {y : Nat} : tgt N p b y = true ↔ ∃ a ∈ N.arcs, a.s b = true ∧ (∃ x : Nat, a.f = (x : Int) ∧ p x = true) ∧ a.t = (y : Int) := by
  unfold tgt
  rw [List.any_eq_true]
  constructor
  · rintro ⟨a, ha, h⟩
    simp only [Bool.and_eq_true, decide_eq_true_eq] at h
    exact ⟨a, ha, h.1.1.1, ⟨a.f.toNat, by omega, h.1.2⟩, h.2⟩
  · rintro ⟨a, ha, h1, ⟨x, h2, h3⟩, h4⟩
    refine ⟨a, ha, ?_⟩
    simp only [Bool.and_eq_true, decide_eq_true_eq]
    exact ⟨⟨⟨h1, by omega⟩, by rw [h2]; exact h3⟩, h4⟩
noncomputable def stp (N : Nfa) (p : Nat → Bool) (b : UInt8) : Nat → Bool := clo (Ep N) (tgt N p b)
/-- A list of numbers as a set of states. -/
def ini (n : Nat) (l : List Int) (x : Nat) : Bool := decide (x < n) && l.any fun y => decide (y = (x : Int))
theorem ini_iff {n : Nat} {l : List Int} {x : Nat} : ini n l x = true ↔ x < n ∧ (x : Int) ∈ l := by
  unfold ini
  rw [Bool.and_eq_true, decide_eq_true_eq, List.any_eq_true]
  exact and_congr_right fun _ => ⟨fun ⟨y, h, e⟩ => by rw [← of_decide_eq_true e]; exact h, fun h => ⟨_, h, by simp⟩⟩
/-- The elements, in order. -/
def elx (n : Nat) (p : Nat → Bool) : List Nat := (List.range n).filter p
theorem mem_elx {n : Nat} {p : Nat → Bool} {x : Nat} : x ∈ elx n p ↔ x < n ∧ p x = true := by simp [elx]
theorem elx_succ (n : Nat) (p : Nat → Bool) : elx (n + 1) p = elx n p ++ (if p n = true then [n] else []) := by
  unfold elx; rw [List.range_succ, List.filter_append]; congr 1; simp only [List.filter_cons, List.filter_nil]
theorem elx_more {n m : Nat} {p : Nat → Bool} (h : n ≤ m) (hp : ∀ x, p x = true → x < n) : elx m p = elx n p := by
  induction m with
  | zero => rw [show n = 0 by omega]
  | succ m ih =>
    by_cases e : n = m + 1
    · rw [e]
    · rw [elx_succ, ih (by omega), if_neg (fun hm => by have := hp m hm; omega), List.append_nil]
theorem elx_length (n : Nat) (p : Nat → Bool) : (elx n p).length ≤ n := by
  unfold elx; exact Nat.le_trans (List.length_filter_le _ _) (by simp)
theorem ini_elx {n : Nat} {p : Nat → Bool} (hp : ∀ x, p x = true → x < n) : ini n ((elx n p).map fun (x : Nat) => (x : Int)) = p := by
  funext x
  rw [Bool.eq_iff_iff, ini_iff]
  constructor
  · rintro ⟨_, h2⟩
    obtain ⟨y, hy, e⟩ := List.mem_map.1 h2
    have : y = x := by have h9 : (y : Int) = (x : Int) := e; omega
    exact this ▸ (mem_elx.1 hy).2
  · intro h
    exact ⟨hp x h, List.mem_map.2 ⟨x, mem_elx.2 ⟨hp x h, h⟩, rfl⟩⟩
/-- The least number that is accepted. -/
def least (acc : List Int) (l : List Nat) : Int := l.foldl (fun b x => if 0 ≤ acc.getD x (-1) ∧ (b < 0 ∨ acc.getD x (-1) < b) then acc.getD x (-1) else b) (-1)
noncomputable def start (N : Nfa) (n : Nat) : Nat → Bool := clo (Ep N) (ini n [N.st])
noncomputable def after (N : Nfa) (n : Nat) (s : List UInt8) : Nat → Bool := s.foldl (stp N) (start N n)
noncomputable def run (N : Nfa) (n : Nat) (s : List UInt8) : Int := least N.acc (elx n (after N n s))
theorem Ep_lt {N : Nfa} {n : Nat} (h : Vn N n) {x y : Nat} (k : Ep N x y) : y < n := by
  obtain ⟨a, ha, _, _, h2⟩ := k
  obtain ⟨x', y', _, h3, _, h4, _⟩ := h.arcs a ha
  omega
theorem tgt_lt {N : Nfa} {n : Nat} (h : Vn N n) {p : Nat → Bool} {b : UInt8} {y : Nat} (k : tgt N p b y = true) : y < n := by
  obtain ⟨a, ha, _, _, h2⟩ := tgt_iff.1 k
  obtain ⟨x', y', _, h3, _, h4, _⟩ := h.arcs a ha
  omega
theorem stp_lt {N : Nfa} {n : Nat} (h : Vn N n) {p : Nat → Bool} {b : UInt8} {y : Nat} (k : stp N p b y = true) : y < n := clo_lt (fun x hx => tgt_lt h hx) (fun x y hr => Ep_lt h hr) k
theorem cini_lt {N : Nfa} {n : Nat} (h : Vn N n) {l : List Int} {y : Nat} (k : clo (Ep N) (ini n l) y = true) : y < n := clo_lt (fun x hx => (ini_iff.1 hx).1) (fun x y hr => Ep_lt h hr) k
theorem start_lt {N : Nfa} {n : Nat} (h : Vn N n) {y : Nat} (k : start N n y = true) : y < n := cini_lt h k
theorem foldl_lt {N : Nfa} {n : Nat} (h : Vn N n) : ∀ (s : List UInt8) {p : Nat → Bool}, (∀ y, p y = true → y < n) → ∀ y, s.foldl (stp N) p y = true → y < n
  | [], _, hp, y, k => hp y k
  | b :: s, _, _, y, k => foldl_lt h s (fun y k => stp_lt h k) y k
theorem after_lt {N : Nfa} {n : Nat} (h : Vn N n) {s : List UInt8} {y : Nat} (k : after N n s y = true) : y < n := foldl_lt h s (fun y k => start_lt h k) y k
theorem after_snoc (N : Nfa) (n : Nat) (s : List UInt8) (b : UInt8) : after N n (s ++ [b]) = stp N (after N n s) b := by unfold after; rw [List.foldl_append]; rfl
theorem stp_mono {N : Nfa} {p q : Nat → Bool} {b : UInt8} (h : ∀ x, p x = true → q x = true) {y : Nat} (k : stp N p b y = true) : stp N q b y = true :=
  clo_mono (fun x hx => by
    obtain ⟨a, h1, h2, ⟨z, h3, h4⟩, h5⟩ := tgt_iff.1 hx
    exact tgt_iff.2 ⟨a, h1, h2, ⟨z, h3, h z h4⟩, h5⟩) k
/-- What stp leads to is closed. -/
theorem clo_stp (N : Nfa) (p : Nat → Bool) (b : UInt8) : clo (Ep N) (stp N p b) = stp N p b := clo_clo _ _

/-! The position automaton. -/
mutual
def np : Rx → Nat
  | .mk k _ l => if k = 3 then 1 else npL l
def npL : List Rx → Nat
  | [] => 0
  | x :: l => np x + npL l
end
mutual
def os : Rx → List BS
  | .mk k s l => if k = 3 then [s] else osL l
def osL : List Rx → List BS
  | [] => []
  | x :: l => os x ++ osL l
end
mutual
/-- The first occurrences, counted from o. -/
def fst : Rx → Nat → List Nat
  | .mk k _ l => fun o => if k = 3 then [o] else if k = 4 then fstC l o else fstU l o
def fstC : List Rx → Nat → List Nat
  | [] => fun _ => []
  | x :: l => fun o => fst x o ++ (if nul x = true then fstC l (o + np x) else [])
def fstU : List Rx → Nat → List Nat
  | [] => fun _ => []
  | x :: l => fun o => fst x o ++ fstU l (o + np x)
end
mutual
def las : Rx → Nat → List Nat
  | .mk k _ l => fun o => if k = 3 then [o] else if k = 4 then lasC l o else lasU l o
def lasC : List Rx → Nat → List Nat
  | [] => fun _ => []
  | x :: l => fun o => (if nulC l = true then las x o else []) ++ lasC l (o + np x)
def lasU : List Rx → Nat → List Nat
  | [] => fun _ => []
  | x :: l => fun o => las x o ++ lasU l (o + np x)
end
mutual
/-- The pairs. -/
def pr : Rx → Nat → Nat → Nat → Bool
  | .mk k _ l => fun o i j => if k = 3 then false else if k = 4 then prC l o i j else prU l o i j || (decide (k = 6) && (lasU l o).contains i && (fstU l o).contains j)
def prC : List Rx → Nat → Nat → Nat → Bool
  | [] => fun _ _ _ => false
  | x :: l => fun o i j => pr x o i j || prC l (o + np x) i j || ((las x o).contains i && (fstC l (o + np x)).contains j)
def prU : List Rx → Nat → Nat → Nat → Bool
  | [] => fun _ _ _ => false
  | x :: l => fun o i j => pr x o i j || prU l (o + np x) i j
end
/-- The arcs. -/
def prW (l : List Rx) (i j : Nat) : Bool := prU l 1 i j || (decide (i = 0) && (fstU l 1).contains j)
/-- One expression's numbers laid. -/
def acc1 (x : Rx) (i o : Nat) (A : Nat → Int) (q : Nat) : Int := if q = 0 then (if nul x = true ∧ A 0 < 0 then (i : Int) else A 0) else if q ∈ las x o then (i : Int) else A q
def accW : List Rx → Nat → Nat → (Nat → Int) → Nat → Int
  | [], _, _, A => A
  | x :: l, i, o, A => accW l (i + 1) (o + np x) (acc1 x i o A)
def setsW (l : List Rx) : List BS := none8 :: osL l
def PA (l : List Rx) : Nfa where
  n := (npL l + 1 : Nat)
  st := 0
  arcs := (List.range (npL l + 1)).flatMap fun (i : Nat) => ((List.range (npL l + 1)).filter (prW l i)).map fun (j : Nat) => ⟨(i : Int), (j : Int), false, (setsW l).getD j none8⟩
  acc := (List.range (npL l + 1)).map (accW l 0 1 fun _ => -1)
theorem fst_mk {k : Int} {s : BS} {l : List Rx} {o : Nat} : fst (.mk k s l) o = if k = 3 then [o] else if k = 4 then fstC l o else fstU l o := by rw [fst]
theorem las_mk {k : Int} {s : BS} {l : List Rx} {o : Nat} : las (.mk k s l) o = if k = 3 then [o] else if k = 4 then lasC l o else lasU l o := by rw [las]
theorem pr_mk {k : Int} {s : BS} {l : List Rx} {o i j : Nat} : pr (.mk k s l) o i j = if k = 3 then false else if k = 4 then prC l o i j else prU l o i j || (decide (k = 6) && (lasU l o).contains i && (fstU l o).contains j) := by rw [pr]
theorem os_mk {k : Int} {s : BS} {l : List Rx} : os (.mk k s l) = if k = 3 then [s] else osL l := by rw [os]
theorem fstC_nil {o : Nat} : fstC [] o = [] := by rw [fstC]
theorem fstC_cons {x : Rx} {l : List Rx} {o : Nat} : fstC (x :: l) o = fst x o ++ (if nul x = true then fstC l (o + np x) else []) := by rw [fstC]
theorem fstU_nil {o : Nat} : fstU [] o = [] := by rw [fstU]
theorem fstU_cons {x : Rx} {l : List Rx} {o : Nat} : fstU (x :: l) o = fst x o ++ fstU l (o + np x) := by rw [fstU]
theorem lasC_nil {o : Nat} : lasC [] o = [] := by rw [lasC]
theorem lasC_cons {x : Rx} {l : List Rx} {o : Nat} : lasC (x :: l) o = (if nulC l = true then las x o else []) ++ lasC l (o + np x) := by rw [lasC]
theorem lasU_nil {o : Nat} : lasU [] o = [] := by rw [lasU]
theorem lasU_cons {x : Rx} {l : List Rx} {o : Nat} : lasU (x :: l) o = las x o ++ lasU l (o + np x) := by rw [lasU]
theorem prC_nil {o i j : Nat} : prC [] o i j = false := by rw [prC]
theorem prC_cons {x : Rx} {l : List Rx} {o i j : Nat} : prC (x :: l) o i j = (pr x o i j || prC l (o + np x) i j || ((las x o).contains i && (fstC l (o + np x)).contains j)) := by rw [prC]
theorem prU_nil {o i j : Nat} : prU [] o i j = false := by rw [prU]
theorem prU_cons {x : Rx} {l : List Rx} {o i j : Nat} : prU (x :: l) o i j = (pr x o i j || prU l (o + np x) i j) := by rw [prU]
theorem np_mk {k : Int} {s : BS} {l : List Rx} : np (.mk k s l) = if k = 3 then 1 else npL l := by rw [np]
theorem os_length (r : Rx) : (os r).length = np r := by
  induction r using Rx.ind with
  | h k s l ih =>
    rw [os, np]
    split
    · rfl
    · have : ∀ m : List Rx, (∀ x ∈ m, (os x).length = np x) → (osL m).length = npL m := by
        intro m
        induction m with
        | nil => intro _; rw [osL, npL]; rfl
        | cons x m ih => intro h; rw [osL, npL, List.length_append, h x (List.mem_cons_self ..), ih fun y hy => h y (List.mem_cons_of_mem _ hy)]
      exact this l ih
theorem osL_length : ∀ l : List Rx, (osL l).length = npL l
  | [] => by rw [osL, npL]; rfl
  | x :: l => by rw [osL, npL, List.length_append, os_length, osL_length l]
theorem npL_append : ∀ l m : List Rx, npL (l ++ m) = npL l + npL m
  | [], m => by rw [List.nil_append, npL]; omega
  | x :: l, m => by rw [List.cons_append, npL, npL, npL_append l m]; omega
theorem osL_append : ∀ l m : List Rx, osL (l ++ m) = osL l ++ osL m
  | [], m => by rw [List.nil_append, osL]; rfl
  | x :: l, m => by rw [List.cons_append, osL, osL, osL_append l m, List.append_assoc]
theorem fstC_append : ∀ (l m : List Rx) (o : Nat), fstC (l ++ m) o = fstC l o ++ (if nulC l = true then fstC m (o + npL l) else [])
  | [], m, o => by rw [List.nil_append, fstC_nil, npL, nulC, if_pos rfl]; rfl
  | x :: l, m, o => by
    rw [List.cons_append, fstC_cons, fstC_cons, npL, nulC, fstC_append l m]
    cases nul x <;> cases nulC l <;> simp [Nat.add_assoc]
theorem lasC_append : ∀ (l m : List Rx) (o : Nat), lasC (l ++ m) o = (if nulC m = true then lasC l o else []) ++ lasC m (o + npL l)
  | [], m, o => by rw [List.nil_append, lasC_nil, npL]; simp
  | x :: l, m, o => by
    have hn : nulC (l ++ m) = (nulC l && nulC m) := by rw [Bool.eq_iff_iff, Bool.and_eq_true, nulC_iff, nulC_iff, nulC_iff]; simp [or_imp, forall_and]
    rw [List.cons_append, lasC_cons, lasC_cons, npL, lasC_append l m, hn]
    cases nulC l <;> cases nulC m <;> simp [Nat.add_assoc]
theorem fstU_append : ∀ (l m : List Rx) (o : Nat), fstU (l ++ m) o = fstU l o ++ fstU m (o + npL l)
  | [], m, o => by rw [List.nil_append, fstU_nil, npL]; rfl
  | x :: l, m, o => by rw [List.cons_append, fstU_cons, fstU_cons, npL, fstU_append l m, List.append_assoc, Nat.add_assoc]
theorem lasU_append : ∀ (l m : List Rx) (o : Nat), lasU (l ++ m) o = lasU l o ++ lasU m (o + npL l)
  | [], m, o => by rw [List.nil_append, lasU_nil, npL]; rfl
  | x :: l, m, o => by rw [List.cons_append, lasU_cons, lasU_cons, npL, lasU_append l m, List.append_assoc, Nat.add_assoc]
theorem prU_append : ∀ (l m : List Rx) (o i j : Nat), prU (l ++ m) o i j = (prU l o i j || prU m (o + npL l) i j)
  | [], m, o, i, j => by rw [List.nil_append, prU_nil, npL]; rfl
  | x :: l, m, o, i, j => by rw [List.cons_append, prU_cons, prU_cons, npL, prU_append l m, Bool.or_assoc, Nat.add_assoc]
theorem nulC_append (l m : List Rx) : nulC (l ++ m) = (nulC l && nulC m) := by rw [Bool.eq_iff_iff, Bool.and_eq_true, nulC_iff, nulC_iff, nulC_iff]; simp [or_imp, forall_and]
theorem or4 (a b c d e : Bool) : (a || (b || c || d) || e) = (a || b || e || c || d) := by cases a <;> cases b <;> cases c <;> cases d <;> cases e <;> rfl
theorem or6 (a b c d e f g : Bool) : (a || (b || c || (d && f)) || (e && (g || f))) = (a || b || (e && g) || c || ((e || d) && f)) := by cases a <;> cases b <;> cases c <;> cases d <;> cases e <;> cases f <;> cases g <;> rfl
theorem cont_append (l m : List Nat) (i : Nat) : (l ++ m).contains i = (l.contains i || m.contains i) := by rw [Bool.eq_iff_iff, Bool.or_eq_true]; simp
theorem prC_snoc : ∀ (l : List Rx) (x : Rx) (o i j : Nat), prC (l ++ [x]) o i j = (prC l o i j || pr x (o + npL l) i j || ((lasC l o).contains i && (fst x (o + npL l)).contains j))
  | [], x, o, i, j => by
    rw [List.nil_append, prC_cons, prC_nil, prC_nil, npL, fstC_nil, lasC_nil]
    simp
  | y :: l, x, o, i, j => by
    rw [List.cons_append, prC_cons, prC_cons, npL, prC_snoc l x, fstC_append, lasC_cons]
    simp only [fstC_cons, fstC_nil, List.append_nil, ite_self, Nat.add_assoc]
    cases nulC l
    · rw [if_neg (by simp), if_neg (by simp), List.append_nil, List.nil_append]
      exact or4 _ _ _ _ _
    · rw [if_pos rfl, if_pos rfl]
      simp only [cont_append]
      exact or6 _ _ _ _ _ _ _
end Nf
end
