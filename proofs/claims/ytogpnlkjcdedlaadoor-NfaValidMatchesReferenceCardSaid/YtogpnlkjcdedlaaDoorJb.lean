/-
  Contracts: fits, Valid, matchable.
-/
import Derived.Test.YtogpnlkjcdedlaaDoorJa
import Derived.Deep.LoopGhost
import Derived.LoopIn
import Derived.TacticsInMore
set_option linter.unusedSimpArgs false
set_option linter.unusedVariables false
namespace Go.Proofs.YtogpnlkjcdedlaaDoor
open Go.RowKit Bs Rg Go.Frame
attribute [local go_sem] eq_zero eq_set

theorem take_all {l : List Rx} {P : Rx → Prop} {i : Nat} {x : Rx} (h : ∀ y ∈ l.take i, P y) (hi : l[i]? = some x) (hx : P x) : ∀ y ∈ l.take (i + 1), P y := by
  intro y hy
  rw [List.take_add_one, hi] at hy
  rcases List.mem_append.1 hy with h' | h'
  · exact h y h'
  · simp at h'; rw [h']; exact hx
theorem take_full {l : List Rx} {P : Rx → Prop} {i n : Nat} (h : ∀ y ∈ l.take i, P y) (hl : l.length = n) (hi : n ≤ i) : ∀ y ∈ l, P y := by
  rw [List.take_of_length_le (by omega)] at h; exact h

set_option maxRecDepth 100000 in
set_option maxHeartbeats 4000000 in
theorem fits_any (g : Nat → Prop) (r : Rx) : ∀ (d : Nat) (w : World) (cs : List Value), d ≤ 1000 → RC g w r cs →
    Calls Tryd.prog 63 #[.agg cs.toArray, .int .i64 (d : Int)] w fun e w' => e = .returned (.bool (fits r d)) ∧ Below w.heap.size w w' := by
  induction r using Rx.ind with
  | h k s l ih =>
  intro d w cs hd h
  obtain ⟨a, n, c, rfl, hK⟩ := RC_mk.1 h
  clear h
  show Calls Tryd.prog 63 #[.agg #[.int .i64 k, .int .u64 (ws s 0 : Int), .int .u64 (ws s 1 : Int), .int .u64 (ws s 2 : Int), .int .u64 (ws s 3 : Int), .slice a n c], .int .i64 (d : Int)] w _
  cases d with
  | zero =>
    go_enter Tryd.func63, Tryd.ntmps63
    go_wp2
    go_ret
    rw [fits_zero]
    exact ⟨rfl, (Below.refl _ _).alloc (Nat.le_refl _) _⟩
  | succ d =>
    obtain ⟨m, hm⟩ : ∃ m : Int, m = ((d + 1 : Nat) : Int) := ⟨_, rfl⟩
    rw [← hm]
    have hd0 : (m == 0) = false := by simp; omega
    have hd1 : IntKind.i64.wrap (m - 1) = (d : Int) := by rw [wrapIn] <;> omega
    obtain ⟨q, hq⟩ : ∃ q, q = fits (.mk k s l) (d + 1) := ⟨_, rfl⟩
    rw [← hq]
    rw [fits_mk, hK.len] at hq
    have F := hid hq
    clear hq
    have hln := hid hK.len
    have hnl := hK.lt
    have IH := hid fun x hx W cs hc => ih x hx d W cs (by omega) hc
    obtain ⟨W, hW⟩ : ∃ W, W = w.alloc (.cells #[.int .i64 k, .int .u64 (ws s 0 : Int), .int .u64 (ws s 1 : Int), .int .u64 (ws s 2 : Int), .int .u64 (ws s 3 : Int), .slice a n c] 50) := ⟨_, rfl⟩
    have bW : Below w.heap.size w W := by rw [hW]; exact (Below.refl _ _).alloc (Nat.le_refl _) _
    have x0 : W.heap[w.heap.size]? = some (.cells #[.int .i64 k, .int .u64 (ws s 0 : Int), .int .u64 (ws s 1 : Int), .int .u64 (ws s 2 : Int), .int .u64 (ws s 3 : Int), .slice a n c] 50 (0, 0)) := by rw [hW]; exact alloc_new _ _
    have CS := hid (shaped_any k s a n c W hK.lt)
    have HK := hid (And.intro (hK.below bW) (And.intro bW x0))
    clear hK ih hm bW x0
    go_enter Tryd.func63, Tryd.ntmps63
    go_wp2_with fail
    rw [← hW]
    refine CS.out.mono ?_
    rintro e W1 ⟨rfl, b1⟩
    have c5 : W1.cell? ⟨w.heap.size, 5, none⟩ = some (.slice a n c) := by
      simp [World.cell?, (b1.block _ (heap_lt HK.out.2.2)).trans HK.out.2.2]
    have H1 := hid (And.intro (HK.out.1.below b1) (HK.out.2.1.trans (b1.mono HK.out.2.1.size)))
    clear hW b1
    cases hs : shaped k s n
    · go_wp2
      go_ret
      exact ⟨by rw [F.out, hs]; rfl, H1.out.2⟩
    · have F := hid (show q = fitsL l d by rw [F.out, hs, Bool.true_and])
      clear hs
      go_wp2_with fail
      go_loopg [17] n (fun k sl wr => ∃ i : Nat, sl = .int .i64 i ∧ i + k = n ∧ (∀ y ∈ l.take i, fits y d = true) ∧ Below W1.heap.size W1 wr)
      case atStart => exact ⟨0, rfl, by omega, by simp, Below.refl _ _⟩
      case round =>
        obtain ⟨i, rfl, hk, hall, hbw⟩ := hrel
        by_cases hlt : i < n
        · have hlt' : (i : Int) < (n : Int) := by omega
          obtain ⟨b, off, k', s', l', a', n', c', rfl, _, hb, hx, hK', q0, q1, q2, q3, q4, q5⟩ := (H1.out.1.below hbw).get hlt
          have HX := hid (And.intro hx (And.intro hK' (And.intro hbw hall)))
          clear hx hK' hbw hall
          have CR := hid (fun V (hV : Below wr.heap.size wr V) => IH.out _ (List.mem_of_getElem? HX.out.1) V _ (RC_mk.2 ⟨a', n', c', rfl, HX.out.2.1.below hV⟩))
          go_wp2_with fail
          refine (CR.out _ ((Below.refl _ _).alloc (Nat.le_refl _) _)).mono ?_
          rintro e W2 ⟨rfl, b2⟩
          have b2' : Below wr.heap.size wr W2 := ((Below.refl _ _).alloc (Nat.le_refl _) _).trans (b2.mono (by simp))
          have HB := hid (HX.out.2.2.1.trans (b2'.mono HX.out.2.2.1.size))
          clear b2 b2'
          cases hf : fits (.mk k' s' l') d
          · go_wp2
            go_ret
            refine ⟨?_, H1.out.2.trans (HB.out.mono H1.out.2.size)⟩
            have : q = false := by
              rw [F.out, ← Bool.not_eq_true, fitsL_iff]
              intro h
              have := h _ (List.mem_of_getElem? HX.out.1)
              rw [hf] at this; cases this
            rw [this]; rfl
          · go_wp2
            go_roundg (gk - 1)
            case measure => omega
            case rel => exact ⟨i + 1, by go_num, by omega, take_all HX.out.2.2.2 HX.out.1 hf, HB.out⟩
        · have hin : ¬ (i : Int) < (n : Int) := by omega
          have HX := hid (And.intro hall hbw)
          clear hall hbw
          go_wp2
          go_ret
          refine ⟨?_, H1.out.2.trans (HX.out.2.mono H1.out.2.size)⟩
          have : q = true := by
            rw [F.out, fitsL_iff]
            exact take_full HX.out.1 hln.out (by omega)
          rw [this]; rfl
theorem Valid_any (g : Nat → Prop) (r : Rx) (w : World) (cs : List Value) (h : RC g w r cs) :
    Calls Tryd.prog 45 #[.agg cs.toArray] w fun e w' => e = .returned (.bool (fits r 30)) ∧ Below w.heap.size w w' := by
  obtain ⟨k, s, l⟩ := r
  obtain ⟨a, n, c, rfl, hK⟩ := RC_mk.1 h
  have b1 : ∀ o, Below w.heap.size w (w.alloc o) := fun o => (Below.refl _ _).alloc (Nat.le_refl _) o
  have CF := hid (fun V (hV : Below w.heap.size w V) => fits_any g (.mk k s l) 30 V _ (by decide) (RC_mk.2 ⟨a, n, c, rfl, hK.below hV⟩))
  clear hK h
  show Calls Tryd.prog 45 #[.agg #[.int .i64 k, .int .u64 (ws s 0 : Int), .int .u64 (ws s 1 : Int), .int .u64 (ws s 2 : Int), .int .u64 (ws s 3 : Int), .slice a n c]] w _
  go_enter Tryd.func45, Tryd.ntmps45
  go_wp2_with fail
  refine (CF.out _ (b1 _)).mono ?_
  rintro e W ⟨rfl, b2⟩
  have B := hid ((b1 _).trans (b2.mono (b1 _).size))
  clear b2
  go_wp2
  go_ret
  exact ⟨rfl, B.out⟩
end Go.Proofs.YtogpnlkjcdedlaaDoor
