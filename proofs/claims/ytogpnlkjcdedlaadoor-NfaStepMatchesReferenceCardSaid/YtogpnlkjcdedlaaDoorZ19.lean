/-
  Contracts: the reference's Same, Accepted, Run; light.
  Contract: the reference's Run.
-/
import Derived.Test.YtogpnlkjcdedlaaDoorZ16
import Derived.Test.YtogpnlkjcdedlaaDoorZ17
import Derived.Test.YtogpnlkjcdedlaaDoorZ18
section
set_option linter.unusedSimpArgs false
set_option linter.unusedVariables false
namespace Go.Proofs.YtogpnlkjcdedlaaDoor
open Go.RowKit Bs Rg Nf Go.Frame
attribute [local go_sem] eq_zero eq_set

set_option maxRecDepth 100000 in
set_option maxHeartbeats 4000000 in
theorem RSame_any (w : World) (p1 p2 : Option Addr) (n1 c1 n2 c2 : Nat) (l1 l2 : List Int) (h1 : Row w p1 n1 (l1.map iv)) (h2 : Row w p2 n2 (l2.map iv)) (hn : n1 ≤ 140737488355328) :
    Calls Tryd.prog 16 #[.slice p1 n1 c1, .slice p2 n2 c2] w fun e w' => e = .returned (.bool (decide (l1 = l2))) ∧ Below w.heap.size w w' := by
  have H0 := hid (And.intro h1 h2)
  have hl1 : l1.length = n1 := by have := h1.1; simpa using this
  have hl2 : l2.length = n2 := by have := h2.1; simpa using this
  have HL := hid (And.intro hl1 hl2)
  obtain ⟨y, hy⟩ : ∃ y, y = decide (l1 = l2) := ⟨_, rfl⟩
  rw [← hy]
  have HY := hid hy
  clear h1 h2 hl1 hl2 hy
  by_cases hnn : n1 = n2
  · subst hnn
    go_enter Tryd.func16, Tryd.ntmps16
    go_wp2_with fail
    go_loopg [5] n1 (fun kk s5 wr => ∃ i : Nat, s5 = .int .i64 (i : Int) ∧ i + kk = n1 ∧ (∀ j, j < i → l1[j]? = l2[j]?) ∧ Below w.heap.size w wr)
    case atStart => exact ⟨0, rfl, by omega, fun j hj => by omega, Below.refl _ _⟩
    case round =>
      obtain ⟨i, rfl, hik, hall, hbw⟩ := hrel
      by_cases hlt : i < n1
      · have hlt' : (i : Int) < (n1 : Int) := by omega
        have hi0 : (0 : Int) ≤ (i : Int) := by omega
        obtain ⟨b1, o1, x1, rfl, _, hx1, q0⟩ := int_at (H0.out.1.below hbw) hlt
        obtain ⟨b2, o2, x2, rfl, _, hx2, r0⟩ := int_at (H0.out.2.below hbw) hlt
        have HH := hid (And.intro hall (And.intro hbw (And.intro hx1 hx2)))
        clear hall hbw hx1 hx2
        by_cases hxx : x1 = x2
        · subst hxx
          have hf : (x1 != x1) = false := by simp
          go_wp2_with fail
          go_quiet (fail)
          go_wp2
          go_roundg (gk - 1)
          case measure => omega
          case rel =>
            refine ⟨i + 1, by go_num, by omega, fun j hj => ?_, below_drewN HH.out.2.1 _⟩
            by_cases e : j = i
            · subst e; rw [HH.out.2.2.1, HH.out.2.2.2]
            · exact HH.out.1 j (by omega)
        · have hf : (x1 != x2) = true := by simpa using hxx
          go_wp2_with fail
          go_quiet (fail)
          go_wp2
          go_ret
          refine ⟨?_, below_drewN HH.out.2.1 _⟩
          have : y = false := by
            rw [HY.out]
            refine decide_eq_false fun e => hxx ?_
            have h1 := HH.out.2.2.1
            rw [e, HH.out.2.2.2] at h1
            simpa using h1.symm
          rw [this]; rfl
      · have hlt' : ¬ (i : Int) < (n1 : Int) := by omega
        have HH := hid (And.intro hall hbw)
        clear hall hbw
        go_wp2
        go_ret
        refine ⟨?_, HH.out.2⟩
        have : y = true := by
          rw [HY.out]
          refine decide_eq_true ?_
          apply List.ext_getElem?
          intro j
          by_cases e : j < i
          · exact HH.out.1 j e
          · rw [List.getElem?_eq_none (by have := HL.out.1; omega), List.getElem?_eq_none (by have := HL.out.2; omega)]
        rw [this]; rfl
  · have hnn' : ((n1 : Int) != (n2 : Int)) = true := by
      simp; omega
    go_enter Tryd.func16, Tryd.ntmps16
    go_wp2
    go_ret
    refine ⟨?_, Below.refl _ _⟩
    have : y = false := by
      rw [HY.out]
      refine decide_eq_false fun e => hnn ?_
      have h1 := HL.out.1
      rw [e, HL.out.2] at h1
      exact h1.symm
    rw [this]; rfl
set_option maxRecDepth 100000 in
set_option maxHeartbeats 4000000 in
theorem light_any (w : World) (N : Nfa) (a1 a2 : Option Addr) (m c1 k c2 : Nat) (h : NA w N a1 m a2 k) :
    Calls Tryd.prog 14 #[.agg #[.int .i64 N.n, .int .i64 N.st, .slice a1 m c1, .slice a2 k c2]] w fun r w' => r = .returned (.bool (decide (m ≤ 60) && decide (N.n ≤ 40) && valid N)) ∧ Below w.heap.size w w' := by
  have CV := hid (fun V (hV : Below w.heap.size w V) => RValid_any V N a1 a2 m c1 k c2 (h.below hV))
  have hm := h.hm
  obtain ⟨y, hy⟩ : ∃ y, y = valid N := ⟨_, rfl⟩
  rw [← hy] at CV ⊢
  clear hy h
  obtain ⟨n, st, arcs, acc⟩ := N
  simp only at CV ⊢
  obtain ⟨q, hq⟩ : ∃ q, q = (decide (m ≤ 60) && decide (n ≤ 40) && y) := ⟨_, rfl⟩
  rw [← hq]
  have HQ := hid hq
  clear hq
  obtain ⟨W, hW⟩ : ∃ W, W = w.alloc (.cells #[.int .i64 n, .int .i64 st, .slice a1 m c1, .slice a2 k c2] 25) := ⟨_, rfl⟩
  have HB := hid (show Below w.heap.size w W from by rw [hW]; exact bel1 _ _)
  have HW := hid (show W.heap[w.heap.size]? = some (.cells #[.int .i64 n, .int .i64 st, .slice a1 m c1, .slice a2 k c2] 25 (0, 0)) from by rw [hW]; exact alloc_new _ _)
  obtain ⟨d0, d1, d2, d3⟩ := cells4 HW.out
  go_enter Tryd.func14, Tryd.ntmps14
  go_upto_region 1 with fail
  rw [← hW]
  clear hW
  by_cases h1 : m ≤ 60
  · have h1' : (m : Int) ≤ 60 := by omega
    by_cases h2 : n ≤ 40
    · go_wp2_with fail
      refine (CV.out _ HB.out).mono ?_
      rintro r V ⟨rfl, b1⟩
      go_wp2
      go_ret
      exact ⟨by rw [HQ.out, decide_eq_true h1, decide_eq_true h2]; rfl, HB.out.trans (b1.mono HB.out.size)⟩
    · go_wp2
      go_ret
      exact ⟨by rw [HQ.out, decide_eq_false (by omega : ¬ n ≤ 40), Bool.and_false, Bool.false_and]; rfl, HB.out⟩
  · have h1' : ¬ (m : Int) ≤ 60 := by omega
    go_wp2
    go_ret
    exact ⟨by rw [HQ.out, decide_eq_false (by omega : ¬ m ≤ 60), Bool.false_and, Bool.false_and]; rfl, HB.out⟩
set_option maxRecDepth 100000 in
set_option maxHeartbeats 4000000 in
theorem RAcc_any (w : World) (n : Nat) (st : Int) (acc : List Int) (a1 a2 : Option Addr) (m c1 k c2 : Nat) (hacc : Row w a2 k (acc.map iv)) (hk : k ≤ 140737488355328) (a : Option Addr) (q c : Nat) (l : List Nat) (hl : Row w a q (ints l)) (hq : q ≤ 140737488355328) (hlk : ∀ x ∈ l, x < k) :
    Calls Tryd.prog 22 #[.agg #[.int .i64 (n : Int), .int .i64 st, .slice a1 m c1, .slice a2 k c2], .slice a q c] w fun e w' => e = .returned (.int .i64 (least acc l)) ∧ Below w.heap.size w w' := by
  obtain ⟨W, hW⟩ : ∃ W, W = w.alloc (.cells #[.int .i64 (n : Int), .int .i64 st, .slice a1 m c1, .slice a2 k c2] 25) := ⟨_, rfl⟩
  have HB := hid (show Below w.heap.size w W from by rw [hW]; exact bel1 _ _)
  have HW := hid (show W.heap[w.heap.size]? = some (.cells #[.int .i64 (n : Int), .int .i64 st, .slice a1 m c1, .slice a2 k c2] 25 (0, 0)) from by rw [hW]; exact alloc_new _ _)
  have H0 := hid (And.intro (hacc.below HB.out) (And.intro (hl.below HB.out) hlk))
  have hlq : l.length = q := by have := hl.1; simpa [ints] using this
  have HLQ := hid hlq
  clear hacc hl hlk hlq
  go_enter Tryd.func22, Tryd.ntmps22
  go_upto_region 1 with fail
  rw [← hW]
  clear hW
  go_wp2_with fail
  go_loopg [5, 6] q (fun kk s5 s6 wr => ∃ i : Nat, s6 = .int .i64 (i : Int) ∧ i + kk = q ∧ s5 = .int .i64 (least acc (l.take i)) ∧ Below W.heap.size W wr)
  case atStart => exact ⟨0, rfl, by omega, rfl, Below.refl _ _⟩
  case round =>
    obtain ⟨i, rfl, hik, rfl, hbw⟩ := hrel
    by_cases hlt : i < q
    · have hlt' : (i : Int) < (q : Int) := by omega
      have hi0 : (0 : Int) ≤ (i : Int) := by omega
      obtain ⟨x, hx⟩ : ∃ x, l[i]? = some x := ⟨l[i]'(by have := HLQ.out; omega), List.getElem?_eq_getElem _⟩
      have hxk := H0.out.2.2 x (List.mem_of_getElem? hx)
      have hlr := H0.out.2.1.below hbw
      obtain ⟨rb, ro, rfl, q0⟩ : ∃ rb ro, a = some ⟨rb, ro, none⟩ ∧ wr.cell? ⟨rb, ro + i, none⟩ = some (.int .i64 (x : Int)) := by
        rcases hlr.2 with h0 | ⟨rb, ro, e, hb', hc⟩
        · omega
        · exact ⟨rb, ro, e, hc i _ (Go.Frame.ints_at hx)⟩
      obtain ⟨b2, o2, v, rfl, _, hv, p0⟩ := int_at (H0.out.1.below hbw) hxk
      have hvd : acc.getD x (-1) = v := by rw [List.getD_eq_getElem?_getD, hv]; rfl
      have hnext : least acc (l.take (i + 1)) = l1 acc (least acc (l.take i)) x := by rw [List.take_add_one, hx]; exact least_snoc _ _ _
      obtain ⟨d0, d1, d2, d3⟩ := cells4 ((hbw.block _ (heap_lt HW.out)).trans HW.out)
      have hx0 : (0 : Int) ≤ (x : Int) := by omega
      have hxk' : (x : Int) < (k : Int) := by omega
      obtain ⟨bst, hb⟩ : ∃ z, z = least acc (l.take i) := ⟨_, rfl⟩
      rw [← hb] at hnext ⊢
      unfold l1 at hnext
      rw [hvd] at hnext
      have HN := hid hnext
      have HBW := hid hbw
      clear hnext hb hvd hv hx hxk hlt hlr hbw
      go_wp2_with fail
      go_quiet (fail)
      by_cases g1 : 0 ≤ v
      · by_cases g2 : bst < 0
        · have g4 : (0 ≤ v ∧ (bst < 0 ∨ v < bst)) := ⟨g1, .inl g2⟩
          go_wp2
          go_roundg (gk - 1)
          case measure => omega
          case rel => exact ⟨i + 1, by go_num, by omega, by rw [HN.out, if_pos g4], below_drewN HBW.out _⟩
        · by_cases g3 : v < bst
          · have g4 : (0 ≤ v ∧ (bst < 0 ∨ v < bst)) := ⟨g1, .inr g3⟩
            go_wp2
            go_roundg (gk - 1)
            case measure => omega
            case rel => exact ⟨i + 1, by go_num, by omega, by rw [HN.out, if_pos g4], below_drewN HBW.out _⟩
          · have g4 : ¬ (0 ≤ v ∧ (bst < 0 ∨ v < bst)) := fun h => h.2.elim (fun h => by omega) (fun h => by omega)
            go_wp2
            go_roundg (gk - 1)
            case measure => omega
            case rel => exact ⟨i + 1, by go_num, by omega, by rw [HN.out, if_neg g4], below_drewN HBW.out _⟩
      · have g4 : ¬ (0 ≤ v ∧ (bst < 0 ∨ v < bst)) := fun h => g1 h.1
        go_wp2
        go_roundg (gk - 1)
        case measure => omega
        case rel => exact ⟨i + 1, by go_num, by omega, by rw [HN.out, if_neg g4], below_drewN HBW.out _⟩
    · have hlt' : ¬ (i : Int) < (q : Int) := by omega
      have htk : l.take i = l := List.take_of_length_le (by have := HLQ.out; omega)
      rw [htk]
      have HBW := hid hbw
      clear hbw
      go_wp2
      go_ret
      exact ⟨rfl, HB.out.trans (HBW.out.mono HB.out.size)⟩
theorem NMS_any (w : World) (N : Nfa) (n : Nat) (hv : Vn N n) (a1 a2 : Option Addr) (m c1 k c2 : Nat) (hmc : m ≤ c1) (hcc : c1 ≤ 9223372036854775807) (hnil : a1 = none → c1 = 0) (h : NA w N a1 m a2 k) (hm6 : m ≤ 900) : NMS w N n a1 m c1 a2 k c2 :=
  fun V hV => newMachine_any V N n hv a1 a2 m c1 k c2 hmc hcc hnil (h.below hV) hm6
end Go.Proofs.YtogpnlkjcdedlaaDoor
end
section
set_option linter.unusedSimpArgs false
set_option linter.unusedVariables false
namespace Go.Proofs.YtogpnlkjcdedlaaDoor
open Go.RowKit Bs Rg Nf Go.Frame
attribute [local go_sem] eq_zero eq_set

theorem after_take (N : Nfa) (n : Nat) (s : List UInt8) {i : Nat} {b : UInt8} (h : s[i]? = some b) : after N n (s.take (i + 1)) = stp N (after N n (s.take i)) b := by
  rw [List.take_add_one, h]; exact after_snoc N n _ b
/-- What a run's list of states, closed once more, is. -/
theorem clo_after {N : Nfa} {n : Nat} (hv : Vn N n) (s : List UInt8) : clo (Ep N) (ini n ((elx n (after N n s)).map fun (x : Nat) => (x : Int))) = after N n s := by
  rw [ini_elx fun x hx => after_lt hv hx]
  rcases s.eq_nil_or_concat with rfl | ⟨t, b, rfl⟩
  · exact clo_clo _ _
  · rw [List.concat_eq_append, after_snoc]; exact clo_clo _ _
set_option maxRecDepth 100000 in
set_option maxHeartbeats 4000000 in
theorem RRun_any (w : World) (N : Nfa) (n : Nat) (hv : Vn N n) (a1 a2 : Option Addr) (m c1 k c2 : Nat) (h : NA w N a1 m a2 k) (hm6 : m ≤ 1000000) (s : ByteArray) (hs : s.size ≤ 1000000) :
    Calls Tryd.prog 21 #[.agg #[.int .i64 N.n, .int .i64 N.st, .slice a1 m c1, .slice a2 k c2], .string s] w fun e w' => e = .returned (.int .i64 (run N n s.data.toList)) ∧ Below w.heap.size w w' := by
  have CR := hid (fun V (hV : Below w.heap.size w V) E a q c (hE : Row V a q (E.map iv)) (hq : q ≤ 140737488355328) => RClosure_any V N n hv a1 a2 m c1 k c2 (h.below hV) E a q c hE hq)
  have CS := hid (fun V (hV : Below w.heap.size w V) E a q c (hE : Row V a q (E.map iv)) (hq : q ≤ 140737488355328) b hb => RStep_any V N n hv a1 a2 m c1 k c2 (h.below hV) hm6 E a q c hE hq b hb)
  have HKN := hid (show k = n from by have h1 := h.lk; have h2 := hv.acc; omega)
  have CA := hid (fun V (hV : Below w.heap.size w V) a q c (l : List Nat) (hl : Row V a q (ints l)) (hq : q ≤ 140737488355328) (hlk : ∀ x ∈ l, x < k) => show Calls Tryd.prog 22 #[.agg #[.int .i64 N.n, .int .i64 N.st, .slice a1 m c1, .slice a2 k c2], .slice a q c] V fun e w' => e = .returned (.int .i64 (least N.acc l)) ∧ Below V.heap.size V w' from by rw [hv.hn]; exact RAcc_any V n N.st N.acc a1 a2 m c1 k c2 (h.below hV).acc h.hk a q c l hl hq hlk)
  have hn := hv.le
  obtain ⟨nn, st, arcs, acc⟩ := N
  obtain rfl : nn = (n : Int) := hv.hn
  obtain ⟨N, hN⟩ : ∃ N, N = Nfa.mk (n : Int) st arcs acc := ⟨_, rfl⟩
  have HV := hid (show Vn N n from by rw [hN]; exact hv)
  have HN := hid hN
  obtain ⟨W, hW⟩ : ∃ W, W = w.alloc (.cells #[.int .i64 (n : Int), .int .i64 st, .slice a1 m c1, .slice a2 k c2] 25) := ⟨_, rfl⟩
  have HB := hid (show Below w.heap.size w W from by rw [hW]; exact bel1 _ _)
  have HW := hid (show W.heap[w.heap.size]? = some (.cells #[.int .i64 (n : Int), .int .i64 st, .slice a1 m c1, .slice a2 k c2] 25 (0, 0)) from by rw [hW]; exact alloc_new _ _)
  have CR2 := hid (fun V (hV : Below w.heap.size w V) E a q c (hE : Row V a q (E.map iv)) (hq : q ≤ 140737488355328) => show Calls Tryd.prog 17 #[.agg #[.int .i64 (n : Int), .int .i64 st, .slice a1 m c1, .slice a2 k c2], .slice a q c] V (RS (elx n (clo (Ep N) (ini n E))) V) from by rw [hN]; exact CR.out V hV E a q c hE hq)
  have CS2 := hid (fun V (hV : Below w.heap.size w V) E a q c (hE : Row V a q (E.map iv)) (hq : q ≤ 140737488355328) b hb => show Calls Tryd.prog 19 #[.agg #[.int .i64 (n : Int), .int .i64 st, .slice a1 m c1, .slice a2 k c2], .slice a q c, .int .u8 ((b : Nat) : Int)] V (RS (elx n (stp N (clo (Ep N) (ini n E)) (UInt8.ofNat b))) V) from by rw [hN]; exact CS.out V hV E a q c hE hq b hb)
  have CA2 := hid (fun V (hV : Below w.heap.size w V) a q c (l : List Nat) (hl : Row V a q (ints l)) (hq : q ≤ 140737488355328) (hlk : ∀ x ∈ l, x < k) => show Calls Tryd.prog 22 #[.agg #[.int .i64 (n : Int), .int .i64 st, .slice a1 m c1, .slice a2 k c2], .slice a q c] V fun e w' => e = .returned (.int .i64 (least acc l)) ∧ Below V.heap.size V w' from CA.out V hV a q c l hl hq hlk)
  obtain ⟨d0, d1, d2, d3⟩ := cells4 HW.out
  clear h hv CR CS CA
  show Calls Tryd.prog 21 #[.agg #[.int .i64 (n : Int), .int .i64 st, .slice a1 m c1, .slice a2 k c2], .string s] w fun e w' => e = .returned (.int .i64 (run (Nfa.mk (n : Int) st arcs acc) n s.data.toList)) ∧ Below w.heap.size w w'
  rw [← hN]
  show Calls Tryd.prog 21 #[.agg #[.int .i64 (n : Int), .int .i64 st, .slice a1 m c1, .slice a2 k c2], .string s] w fun e w' => e = .returned (.int .i64 (run N n s.data.toList)) ∧ Below w.heap.size w w'
  clear hN
  go_enter Tryd.func21, Tryd.ntmps21
  go_upto_region 1 with fail
  rw [← hW]
  clear hW
  obtain ⟨V3, hV3⟩ : ∃ V3, V3 = W.alloc (.cells #[.int .i64 st] 3) := ⟨_, rfl⟩
  have b3 : Below W.heap.size W V3 := by rw [hV3]; exact bel1 _ _
  have H3 := hid (show Below w.heap.size w V3 ∧ V3.heap[w.heap.size]? = some (.cells #[.int .i64 (n : Int), .int .i64 st, .slice a1 m c1, .slice a2 k c2] 25 (0, 0)) ∧ Row V3 (some ⟨W.heap.size, 0, none⟩) 1 ([st].map iv) from
    ⟨HB.out.trans (b3.mono HB.out.size), (b3.block _ (heap_lt HW.out)).trans HW.out, ⟨rfl, .inr ⟨W.heap.size, 0, rfl, by rw [hV3]; simp, fun i x hi => by
      have hi0 : i = 0 := by have := (List.getElem?_eq_some_iff.1 hi).1; simp at this; exact this
      subst hi0
      simp at hi
      subst hi
      have := alloc_new W (.cells #[.int .i64 st] 3)
      rw [← hV3] at this
      simp [World.cell?, this, iv]⟩⟩⟩)
  have CC := hid (CR2.out V3 H3.out.1 [st] _ 1 1 H3.out.2.2 (by omega))
  clear b3
  go_wp2_with fail
  rw [← hV3]
  clear hV3
  refine CC.out.mono ?_
  rintro r V4 ⟨⟨ra0, rc0, rfl, hrow⟩, b4⟩
  have hst : clo (Ep N) (ini n [st]) = after N n (s.data.toList.take 0) := by rw [HN.out]; rfl
  rw [hst] at hrow
  have H4 := hid (show Below w.heap.size w V4 ∧ V4.heap[w.heap.size]? = some (.cells #[.int .i64 (n : Int), .int .i64 st, .slice a1 m c1, .slice a2 k c2] 25 (0, 0)) ∧ Row V4 ra0 (elx n (after N n (s.data.toList.take 0))).length (ints (elx n (after N n (s.data.toList.take 0)))) from
    ⟨H3.out.1.trans (b4.mono H3.out.1.size), (b4.block _ (heap_lt H3.out.2.1)).trans H3.out.2.1, hrow⟩)
  rw [hst]
  obtain ⟨q0, hq0⟩ : ∃ q, q = (elx n (after N n (s.data.toList.take 0))).length := ⟨_, rfl⟩
  rw [← hq0] at H4 ⊢
  have HQ0 := hid hq0
  clear b4 hrow hst CC d0 d1 d2 d3 hq0
  go_wp2_with fail
  go_loopg [5, 6] s.size (fun kk s5 s6 wr => ∃ (i q : Nat) (ra : Option Addr) (rc : Nat), s6 = .int .i64 (i : Int) ∧ i + kk = s.size ∧ s5 = .slice ra q rc ∧ q = (elx n (after N n (s.data.toList.take i))).length ∧ Row wr ra q (ints (elx n (after N n (s.data.toList.take i)))) ∧ Below w.heap.size w wr ∧ wr.heap[w.heap.size]? = some (.cells #[.int .i64 (n : Int), .int .i64 st, .slice a1 m c1, .slice a2 k c2] 25 (0, 0)))
  case atStart => exact ⟨0, q0, ra0, rc0, rfl, by omega, rfl, HQ0.out, H4.out.2.2, H4.out.1, H4.out.2.1⟩
  case round =>
    obtain ⟨i, q, ra, rc, rfl, hik, rfl, hq, hrow, hbw, hbx⟩ := hrel
    obtain ⟨d0, d1, d2, d3⟩ := cells4 hbx
    have hqn : q ≤ 2000 := by rw [hq]; exact Nat.le_trans (elx_length _ _) (by omega)
    by_cases hlt : i < s.size
    · have hlt' : (i : Int) < (s.size : Int) := by omega
      have hi0 : (0 : Int) ≤ (i : Int) := by omega
      have e9 : s.data.toList[i]? = some s[i] := by rw [List.getElem?_eq_getElem (show i < s.data.toList.length from hlt)]; rfl
      have HE := hid (show stp N (clo (Ep N) (ini n ((elx n (after N n (s.data.toList.take i))).map fun (x : Nat) => (x : Int)))) (UInt8.ofNat s[i].toNat) = after N n (s.data.toList.take (i + 1)) from by
        rw [clo_after HV.out, after_take N n _ e9, UInt8.ofNat_toNat])
      have HX := hid (And.intro hrow (And.intro hbw hbx))
      have hbt := s[i].toNat_lt
      have hbi : (Value.int .u8 (s[i].toNat : Int)) = .int .u8 ((s[i].toNat : Nat) : Int) := rfl
      obtain ⟨L2, hL2⟩ : ∃ L2, L2 = elx n (after N n (s.data.toList.take (i + 1))) := ⟨_, rfl⟩
      have HL2 := hid hL2
      clear hrow hbw hbx e9 hq hL2 d0 d1 d2 d3
      go_wp2_with fail
      refine region_inv (fun b a' w' => ∃ (v18 v19 v20 v21 v22 v23 v5 : Value), a' = { tmps := #[.agg #[.int .i64 (n : Int), .int .i64 st, .slice a1 m c1, .slice a2 k c2], .string s, .pointer (some ⟨w.heap.size, 0, none⟩), undef, .int .i64 0, v5, .int .i64 (i : Int), .agg #[.int .i64 (n : Int), .int .i64 st, .slice a1 m c1, .slice a2 k c2], .pointer (some ⟨w.heap.size, 1, none⟩), .int .i64 st, .slice (some ⟨W.heap.size, 0, none⟩) 1 1, .slice ra0 q0 rc0, .int .i64 (i : Int), .string s, .int .i64 (s.size : Int), .bool true, u16, u17, v18, v19, v20, v21, v22, v23, undef, undef, undef], defers := [] } ∧ Below wr.heap.size wr w' ∧ w'.heap[w.heap.size]? = some (.cells #[.int .i64 (n : Int), .int .i64 st, .slice a1 m c1, .slice a2 k c2] 25 (0, 0)) ∧ (b 0 = true → v18 = .agg #[.int .i64 (n : Int), .int .i64 st, .slice a1 m c1, .slice a2 k c2]) ∧ (b 1 = true → v19 = .slice ra q rc) ∧ (b 2 = true → v20 = .string s) ∧ (b 3 = true → v21 = .int .i64 (i : Int)) ∧ (b 4 = true → v22 = .int .u8 (s[i].toNat : Int)) ∧ (b 5 = true → ∃ (a : Option Addr) (c : Nat), v23 = .slice a L2.length c ∧ Row w' a L2.length (ints L2)) ∧ (b 6 = true → v5 = v23) ∧ (b 6 = false → v5 = .slice ra q rc) ∧ (b 4 = true → b 2 = true) ∧ (b 4 = true → b 3 = true) ∧ (b 5 = true → b 0 = true) ∧ (b 5 = true → b 1 = true) ∧ (b 5 = true → b 4 = true) ∧ (b 6 = true → b 5 = true)) (by kernel_rfl) (back_of (by kernel_rfl)) ?step2 ?done2 ?init2
      case step2 =>
        rintro b a' w' i o ho ⟨v18, v19, v20, v21, v22, v23, v5, rfl, hk, hx, h0, h1, h2, h3, h4, h5, h6, k5, q4_2, q4_3, q5_0, q5_1, q5_4, q6_5⟩ hbi hd K hK
        have hlt : i < 7 := by have := (Array.getElem?_eq_some_iff.1 ho).1; simpa using this
        have dep : ∀ k, (o.after.any fun e => Region.binds .any e && e.on == k) = true → b k = true := fun k hk => by
          obtain ⟨e, he, h⟩ := Array.any_eq_true'.1 hk
          simp only [Bool.and_eq_true, beq_iff_eq] at h
          rw [← h.2]; exact hd e he h.1
        clear hd
        have hi : i = 0 ∨ i = 1 ∨ i = 2 ∨ i = 3 ∨ i = 4 ∨ i = 5 ∨ i = 6 := by omega
        clear hlt
        rcases hi with rfl | rfl | rfl | rfl | rfl | rfl | rfl
        · simp only [List.getElem?_toArray, List.getElem?_cons_zero, List.getElem?_cons_succ, Option.some.injEq] at ho
          subst ho
          obtain ⟨d0, d1, d2, d3⟩ := cells4 hx
          go_simp
          refine hK.out _ _ ⟨_, _, _, _, _, _, _, rfl, hk, hx, fun _ => rfl, fun h => h1 (by simpa using h), fun h => h2 (by simpa using h), fun h => h3 (by simpa using h), fun h => h4 (by simpa using h), fun h => h5 (by simpa using h), fun h => h6 (by simpa using h), fun h => k5 (by simpa using h), fun h => by simp [q4_2 (by simpa using h)], fun h => by simp [q4_3 (by simpa using h)], fun h => by simp [q5_0 (by simpa using h)], fun h => by simp [q5_1 (by simpa using h)], fun h => by simp [q5_4 (by simpa using h)], fun h => by simp [q6_5 (by simpa using h)]⟩
        · simp only [List.getElem?_toArray, List.getElem?_cons_zero, List.getElem?_cons_succ, Option.some.injEq] at ho
          subst ho
          have n6 : b 6 = false := by
            cases hb6 : b 6
            · rfl
            · have := q5_1 (q6_5 hb6); rw [hbi] at this; cases this
          obtain rfl := k5 n6
          go_simp
          refine hK.out _ _ ⟨_, _, _, _, _, _, _, rfl, hk, hx, fun h => h0 (by simpa using h), fun _ => rfl, fun h => h2 (by simpa using h), fun h => h3 (by simpa using h), fun h => h4 (by simpa using h), fun h => h5 (by simpa using h), fun h => absurd h (by simp [n6]), fun _ => rfl, fun h => by simp [q4_2 (by simpa using h)], fun h => by simp [q4_3 (by simpa using h)], fun h => by simp [q5_0 (by simpa using h)], fun h => by simp [q5_1 (by simpa using h)], fun h => by simp [q5_4 (by simpa using h)], fun h => by simp [q6_5 (by simpa using h)]⟩
        · simp only [List.getElem?_toArray, List.getElem?_cons_zero, List.getElem?_cons_succ, Option.some.injEq] at ho
          subst ho
          go_simp
          refine hK.out _ _ ⟨_, _, _, _, _, _, _, rfl, hk, hx, fun h => h0 (by simpa using h), fun h => h1 (by simpa using h), fun _ => rfl, fun h => h3 (by simpa using h), fun h => h4 (by simpa using h), fun h => h5 (by simpa using h), fun h => h6 (by simpa using h), fun h => k5 (by simpa using h), fun h => by simp [q4_2 (by simpa using h)], fun h => by simp [q4_3 (by simpa using h)], fun h => by simp [q5_0 (by simpa using h)], fun h => by simp [q5_1 (by simpa using h)], fun h => by simp [q5_4 (by simpa using h)], fun h => by simp [q6_5 (by simpa using h)]⟩
        · simp only [List.getElem?_toArray, List.getElem?_cons_zero, List.getElem?_cons_succ, Option.some.injEq] at ho
          subst ho
          go_simp
          refine hK.out _ _ ⟨_, _, _, _, _, _, _, rfl, hk, hx, fun h => h0 (by simpa using h), fun h => h1 (by simpa using h), fun h => h2 (by simpa using h), fun _ => rfl, fun h => h4 (by simpa using h), fun h => h5 (by simpa using h), fun h => h6 (by simpa using h), fun h => k5 (by simpa using h), fun h => by simp [q4_2 (by simpa using h)], fun h => by simp [q4_3 (by simpa using h)], fun h => by simp [q5_0 (by simpa using h)], fun h => by simp [q5_1 (by simpa using h)], fun h => by simp [q5_4 (by simpa using h)], fun h => by simp [q6_5 (by simpa using h)]⟩
        · simp only [List.getElem?_toArray, List.getElem?_cons_zero, List.getElem?_cons_succ, Option.some.injEq] at ho
          subst ho
          have e_2 := dep 2 (by kernel_rfl)
          have e_3 := dep 3 (by kernel_rfl)
          obtain rfl := h2 e_2
          obtain rfl := h3 e_3
          go_simp
          refine hK.out _ _ ⟨_, _, _, _, _, _, _, rfl, hk, hx, fun h => h0 (by simpa using h), fun h => h1 (by simpa using h), fun _ => rfl, fun _ => rfl, fun _ => rfl, fun h => h5 (by simpa using h), fun h => h6 (by simpa using h), fun h => k5 (by simpa using h), fun _ => by simp [e_2], fun _ => by simp [e_3], fun h => by simp [q5_0 (by simpa using h)], fun h => by simp [q5_1 (by simpa using h)], fun h => by simp [q5_4 (by simpa using h)], fun h => by simp [q6_5 (by simpa using h)]⟩
        · simp only [List.getElem?_toArray, List.getElem?_cons_zero, List.getElem?_cons_succ, Option.some.injEq] at ho
          subst ho
          have e_0 := dep 0 (by kernel_rfl)
          have e_1 := dep 1 (by kernel_rfl)
          have e_4 := dep 4 (by kernel_rfl)
          have e_2 := q4_2 e_4
          have e_3 := q4_3 e_4
          obtain rfl := h0 e_0
          obtain rfl := h1 e_1
          obtain rfl := h2 e_2
          obtain rfl := h3 e_3
          obtain rfl := h4 e_4
          have n6 : b 6 = false := by
            cases hb6 : b 6
            · rfl
            · have := q6_5 hb6; rw [hbi] at this; cases this
          obtain rfl := k5 n6
          have CS := CS2.out w' (HX.out.2.1.trans (hk.mono HX.out.2.1.size)) _ ra q rc (by rw [← ints_iv]; exact HX.out.1.below hk) (by omega) s[i].toNat hbt
          rw [HE.out, ← HL2.out] at CS
          have HCS := hid CS
          clear CS
          go_simp
          refine HCS.out.mono ?_
          rintro e W5 ⟨⟨a9, c9, rfl, hrow9⟩, b5⟩
          refine hK.out _ _ ⟨_, _, _, _, _, _, _, rfl, hk.trans (b5.mono hk.size), (b5.block _ (heap_lt hx)).trans hx, fun _ => rfl, fun _ => rfl, fun _ => rfl, fun _ => rfl, fun _ => rfl, fun _ => ⟨a9, c9, rfl, hrow9⟩, fun h => absurd h (by simp [n6]), fun _ => rfl, fun h => by simp [q4_2 (by simpa using h)], fun h => by simp [q4_3 (by simpa using h)], fun _ => by simp [e_0], fun _ => by simp [e_1], fun _ => by simp [e_4], fun h => by simp [q6_5 (by simpa using h)]⟩
        · simp only [List.getElem?_toArray, List.getElem?_cons_zero, List.getElem?_cons_succ, Option.some.injEq] at ho
          subst ho
          have e_5 := dep 5 (by kernel_rfl)
          have e_0 := q5_0 e_5
          have e_1 := q5_1 e_5
          have e_4 := q5_4 e_5
          have e_2 := q4_2 e_4
          have e_3 := q4_3 e_4
          obtain rfl := h0 e_0
          obtain rfl := h1 e_1
          obtain rfl := h2 e_2
          obtain rfl := h3 e_3
          obtain rfl := h4 e_4
          obtain ⟨a9, c9, rfl, hrow9⟩ := (h5 e_5)
          go_simp
          refine hK.out _ _ ⟨_, _, _, _, _, _, _, rfl, hk, hx, fun _ => rfl, fun _ => rfl, fun _ => rfl, fun _ => rfl, fun _ => rfl, fun _ => ⟨a9, c9, rfl, hrow9⟩, fun _ => rfl, fun h => absurd h (by simp), fun h => by simp [q4_2 (by simpa using h)], fun h => by simp [q4_3 (by simpa using h)], fun h => by simp [q5_0 (by simpa using h)], fun h => by simp [q5_1 (by simpa using h)], fun h => by simp [q5_4 (by simpa using h)], fun _ => by simp [e_5]⟩
      case done2 =>
        rintro b a' w' ⟨v18, v19, v20, v21, v22, v23, v5, rfl, hk, hx, h0, h1, h2, h3, h4, h5, h6, k5, q4_2, q4_3, q5_0, q5_1, q5_4, q6_5⟩ hall
        obtain rfl := h0 (hall 0)
        obtain rfl := h1 (hall 1)
        obtain rfl := h2 (hall 2)
        obtain rfl := h3 (hall 3)
        obtain rfl := h4 (hall 4)
        obtain ⟨a9, c9, e23, hrow9⟩ := h5 (hall 5)
        obtain rfl := h6 (hall 6)
        subst e23
        have HR2 := hid (And.intro hrow9 (And.intro hk hx))
        clear h0 h1 h2 h3 h4 h5 h6 k5 hk hx hrow9 hall
        obtain ⟨w2, hw2⟩ : ∃ w2, w2 = w' := ⟨_, rfl⟩
        rw [← hw2] at HR2 ⊢
        clear hw2
        go_wp2
        go_roundg (gk - 1)
        case measure => omega
        case rel =>
          refine ⟨i + 1, L2.length, a9, c9, by go_num, by omega, rfl, by rw [HL2.out], ?_, HX.out.2.1.trans (HR2.out.2.1.mono HX.out.2.1.size), HR2.out.2.2⟩
          rw [← HL2.out]; exact HR2.out.1
      case init2 =>
        exact ⟨_, _, _, _, _, _, _, rfl, (Below.refl _ _).drew, HX.out.2.2, fun h => absurd h (by simp), fun h => absurd h (by simp), fun h => absurd h (by simp), fun h => absurd h (by simp), fun h => absurd h (by simp), fun h => absurd h (by simp), fun h => absurd h (by simp), fun _ => rfl, fun h => absurd h (by simp), fun h => absurd h (by simp), fun h => absurd h (by simp), fun h => absurd h (by simp), fun h => absurd h (by simp), fun h => absurd h (by simp)⟩
    · have hlt' : ¬ (i : Int) < (s.size : Int) := by omega
      have hfull : s.data.toList.take i = s.data.toList := List.take_of_length_le (show s.data.toList.length ≤ i from by have : s.data.toList.length = s.size := rfl; omega)
      rw [hfull] at hrow hq
      have CF := hid (CA2.out wr hbw ra q rc _ hrow (by omega) (fun x hx => by rw [HKN.out]; exact (mem_elx.1 hx).1))
      have HX := hid hbw
      clear hrow hbw hbx hq hfull
      go_wp2_with fail
      refine CF.out.mono ?_
      rintro e V5 ⟨rfl, b5⟩
      go_wp2
      go_ret
      exact ⟨by rw [HN.out]; rfl, HX.out.trans (b5.mono HX.out.size)⟩
end Go.Proofs.YtogpnlkjcdedlaaDoor
end
