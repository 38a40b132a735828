/-
  Contracts: leastAccepted, Run, Closure, Step, where newMachine keeps its contract.
-/
import Derived.Test.YtogpnlkjcdedlaaDoorMn
import Derived.Test.YtogpnlkjcdedlaaDoorIv
set_option linter.unusedSimpArgs false
set_option linter.unusedVariables false
namespace Go.Proofs.YtogpnlkjcdedlaaDoor
open Go.RowKit Bs Rg Nf Go.Frame
attribute [local go_sem] eq_zero eq_set

/-- One step of the least number. -/
def l1 (acc : List Int) (b : Int) (x : Nat) : Int := if 0 ≤ acc.getD x (-1) ∧ (b < 0 ∨ acc.getD x (-1) < b) then acc.getD x (-1) else b
theorem least_snoc (acc : List Int) (l : List Nat) (x : Nat) : least acc (l ++ [x]) = l1 acc (least acc l) x := by unfold least; rw [List.foldl_append]; rfl
set_option maxRecDepth 100000 in
set_option maxHeartbeats 4000000 in
theorem leastA_any (w : World) (n : Nat) (st : Int) (acc : List Int) (a1 a2 : Option Addr) (m c1 k c2 : Nat) (hacc : Row w a2 k (acc.map iv)) (hk : k ≤ 140737488355328) (a : Option Addr) (q c : Nat) (l : List Nat) (hl : Row w a q (ints l)) (hq : q ≤ 140737488355328) (hlk : ∀ x ∈ l, x < k) :
    Calls Tryd.prog 42 #[.agg #[.int .i64 (n : Int), .int .i64 st, .slice a1 m c1, .slice a2 k c2], .slice a q c] w fun e w' => e = .returned (.int .i64 (least acc l)) ∧ Below w.heap.size w w' := by
  obtain ⟨W, hW⟩ : ∃ W, W = w.alloc (.cells #[.int .i64 (n : Int), .int .i64 st, .slice a1 m c1, .slice a2 k c2] 25) := ⟨_, rfl⟩
  have HB := hid (show Below w.heap.size w W from by rw [hW]; exact bel1 _ _)
  have HW := hid (show W.heap[w.heap.size]? = some (.cells #[.int .i64 (n : Int), .int .i64 st, .slice a1 m c1, .slice a2 k c2] 25 (0, 0)) from by rw [hW]; exact alloc_new _ _)
  have H0 := hid (And.intro (hacc.below HB.out) (And.intro (hl.below HB.out) hlk))
  have hlq : l.length = q := by have := hl.1; simpa [ints] using this
  have HLQ := hid hlq
  clear hacc hl hlk hlq
  go_enter Tryd.func42, Tryd.ntmps42
  go_upto_region 1 with fail
  rw [← hW]
  clear hW
  go_wp2_with fail
  go_loopg [5, 11] q (fun kk s5 s11 wr => ∃ i : Nat, s11 = .int .i64 (i : Int) ∧ i + kk = q ∧ s5 = .int .i64 (least acc (l.take i)) ∧ wr = W)
  case atStart => exact ⟨0, rfl, by omega, rfl, rfl⟩
  case round =>
    obtain ⟨i, rfl, hik, rfl, rfl⟩ := hrel
    by_cases hlt : i < q
    · have hlt' : (i : Int) < (q : Int) := by omega
      have hi0 : (0 : Int) ≤ (i : Int) := by omega
      obtain ⟨x, hx⟩ : ∃ x, l[i]? = some x := ⟨l[i]'(by have := HLQ.out; omega), List.getElem?_eq_getElem _⟩
      have hxk := H0.out.2.2 x (List.mem_of_getElem? hx)
      obtain ⟨rb, ro, rfl, q0⟩ : ∃ rb ro, a = some ⟨rb, ro, none⟩ ∧ wr.cell? ⟨rb, ro + i, none⟩ = some (.int .i64 (x : Int)) := by
        rcases H0.out.2.1.2 with h0 | ⟨rb, ro, e, hb', hc⟩
        · omega
        · exact ⟨rb, ro, e, hc i _ (Go.Frame.ints_at hx)⟩
      obtain ⟨b2, o2, v, rfl, _, hv, p0⟩ := int_at H0.out.1 hxk
      have hvd : acc.getD x (-1) = v := by rw [List.getD_eq_getElem?_getD, hv]; rfl
      have hnext : least acc (l.take (i + 1)) = l1 acc (least acc (l.take i)) x := by rw [List.take_add_one, hx]; exact least_snoc _ _ _
      obtain ⟨d0, d1, d2, d3⟩ := cells4 HW.out
      have hx0 : (0 : Int) ≤ (x : Int) := by omega
      have hxk' : (x : Int) < (k : Int) := by omega
      obtain ⟨bst, hb⟩ : ∃ z, z = least acc (l.take i) := ⟨_, rfl⟩
      rw [← hb] at hnext ⊢
      unfold l1 at hnext
      rw [hvd] at hnext
      have HN := hid hnext
      clear hnext hb hvd hv hx hxk hlt
      by_cases g1 : 0 ≤ v
      · by_cases g2 : bst < 0
        · have g4 : (0 ≤ v ∧ (bst < 0 ∨ v < bst)) := ⟨g1, .inl g2⟩
          go_wp2
          go_roundg (gk - 1)
          case measure => omega
          case rel => exact ⟨i + 1, by go_num, by omega, by rw [HN.out, if_pos g4], rfl⟩
        · by_cases g3 : v < bst
          · have g4 : (0 ≤ v ∧ (bst < 0 ∨ v < bst)) := ⟨g1, .inr g3⟩
            go_wp2
            go_roundg (gk - 1)
            case measure => omega
            case rel => exact ⟨i + 1, by go_num, by omega, by rw [HN.out, if_pos g4], rfl⟩
          · have g4 : ¬ (0 ≤ v ∧ (bst < 0 ∨ v < bst)) := fun h => h.2.elim (fun h => by omega) (fun h => by omega)
            go_wp2
            go_roundg (gk - 1)
            case measure => omega
            case rel => exact ⟨i + 1, by go_num, by omega, by rw [HN.out, if_neg g4], rfl⟩
      · have g4 : ¬ (0 ≤ v ∧ (bst < 0 ∨ v < bst)) := fun h => g1 h.1
        go_wp2
        go_roundg (gk - 1)
        case measure => omega
        case rel => exact ⟨i + 1, by go_num, by omega, by rw [HN.out, if_neg g4], rfl⟩
    · have hlt' : ¬ (i : Int) < (q : Int) := by omega
      have htk : l.take i = l := List.take_of_length_le (by have := HLQ.out; omega)
      rw [htk]
      go_wp2
      go_ret
      exact ⟨rfl, HB.out⟩
/-- newMachine keeps its contract for an automaton. -/
def NMS (w : World) (N : Nfa) (n : Nat) (a1 : Option Addr) (m c1 : Nat) (a2 : Option Addr) (k c2 : Nat) : Prop := ∀ V, Below w.heap.size w V → Calls Tryd.prog 36 #[.agg #[.int .i64 N.n, .int .i64 N.st, .slice a1 m c1, .slice a2 k c2]] V fun e w' => (∃ v, e = .returned v ∧ NMO V N n v w') ∧ Below V.heap.size V w'
set_option maxRecDepth 100000 in
set_option maxHeartbeats 4000000 in
theorem NRun_any (w : World) (N : Nfa) (n : Nat) (hv : Vn N n) (a1 a2 : Option Addr) (m c1 k c2 : Nat) (h : NA w N a1 m a2 k) (hnm : NMS w N n a1 m c1 a2 k c2) (s : ByteArray) (hs : s.size ≤ 1000000) (hT : Tb w) :
    Calls Tryd.prog 20 #[.agg #[.int .i64 N.n, .int .i64 N.st, .slice a1 m c1, .slice a2 k c2], .string s] w fun e w' => e = .returned (.int .i64 (run N n s.data.toList)) ∧ Below w.heap.size w w' := by
  have hval := valid_iff.2 ⟨n, hv⟩
  have HNM := hid hnm
  have HV := hid hv
  obtain ⟨nn, st, arcs, acc⟩ := N
  obtain rfl : nn = (n : Int) := hv.hn
  obtain ⟨N, hN⟩ : ∃ N, N = Nfa.mk (n : Int) st arcs acc := ⟨_, rfl⟩
  obtain ⟨W, hW⟩ : ∃ W, W = w.alloc (.cells #[.int .i64 (n : Int), .int .i64 st, .slice a1 m c1, .slice a2 k c2] 25) := ⟨_, rfl⟩
  have HB := hid (show Below w.heap.size w W from by rw [hW]; exact bel1 _ _)
  have HW := hid (show W.heap[w.heap.size]? = some (.cells #[.int .i64 (n : Int), .int .i64 st, .slice a1 m c1, .slice a2 k c2] 25 (0, 0)) from by rw [hW]; exact alloc_new _ _)
  have HA := hid (And.intro h hT)
  have CV := hid (show Calls Tryd.prog 12 #[.agg #[.int .i64 (n : Int), .int .i64 st, .slice a1 m c1, .slice a2 k c2]] W fun r w' => r = .returned (.bool true) ∧ Below W.heap.size W w' from by have := NValid_any W ⟨(n : Int), st, arcs, acc⟩ a1 a2 m c1 k c2 (h.below HB.out); rw [hval] at this; exact this)
  have hn := hv.le
  have hn1 := hv.pos
  have HKN := hid (show k = n from by have := h.lk; have := hv.acc; simp at *; omega)
  have CM := hid (fun V (hV : Below w.heap.size w V) => show Calls Tryd.prog 36 #[.agg #[.int .i64 (n : Int), .int .i64 st, .slice a1 m c1, .slice a2 k c2]] V fun e w' => (∃ v, e = .returned v ∧ NMO V N n v w') ∧ Below V.heap.size V w' from by rw [hN]; exact hnm V hV)
  have HN := hid hN
  clear h hv hnm hT hval
  obtain ⟨d0, d1, d2, d3⟩ := cells4 HW.out
  show Calls Tryd.prog 20 #[.agg #[.int .i64 (n : Int), .int .i64 st, .slice a1 m c1, .slice a2 k c2], .string s] w fun e w' => e = .returned (.int .i64 (run (Nfa.mk (n : Int) st arcs acc) n s.data.toList)) ∧ Below w.heap.size w w'
  rw [← hN]
  clear hN
  show Calls Tryd.prog 20 #[.agg #[.int .i64 (n : Int), .int .i64 st, .slice a1 m c1, .slice a2 k c2], .string s] w _
  go_enter Tryd.func20, Tryd.ntmps20
  go_upto_region 1 with fail
  rw [← hW]
  clear hW
  go_wp2_with fail
  refine CV.out.mono ?_
  rintro r V1 ⟨rfl, b1⟩
  have H1 := hid (show Below w.heap.size w V1 ∧ V1.heap[w.heap.size]? = some (.cells #[.int .i64 (n : Int), .int .i64 st, .slice a1 m c1, .slice a2 k c2] 25 (0, 0)) from ⟨HB.out.trans (b1.mono HB.out.size), (b1.block _ (heap_lt HW.out)).trans HW.out⟩)
  clear b1 d0 d1 d2 d3
  obtain ⟨d0, d1, d2, d3⟩ := cells4 H1.out.2
  go_wp2_with fail
  refine (CM.out V1 H1.out.1).mono ?_
  rintro r V2 ⟨⟨v, rfl, mb, ab, sb, km, ca, cs, rfl, hmc, hkm⟩, b1⟩
  have H2 := hid (show Below w.heap.size w V2 ∧ V2.heap[w.heap.size]? = some (.cells #[.int .i64 (n : Int), .int .i64 st, .slice a1 m c1, .slice a2 k c2] 25 (0, 0)) from ⟨H1.out.1.trans (b1.mono H1.out.1.size), (b1.block _ (heap_lt H1.out.2)).trans H1.out.2⟩)
  have hwk : w.heap.size < km := by have := heap_lt H1.out.2; omega
  obtain ⟨V3, hV3⟩ : ∃ V3, V3 = V2.alloc (.cells #[.int .i64 st] 3) := ⟨_, rfl⟩
  have b3 : Below V2.heap.size V2 V3 := by rw [hV3]; exact bel1 _ _
  have H3 := hid (show Below w.heap.size w V3 ∧ V3.heap[w.heap.size]? = some (.cells #[.int .i64 (n : Int), .int .i64 st, .slice a1 m c1, .slice a2 k c2] 25 (0, 0)) ∧ MC (fun _ => True) V3 mb ab sb km ca cs N n ∧ Row V3 (some ⟨V2.heap.size, 0, none⟩) 1 ([st].map iv) ∧ w.heap.size < km from
    ⟨H2.out.1.trans (b3.mono H2.out.1.size), (b3.block _ (heap_lt H2.out.2)).trans H2.out.2, hmc.below b3, ⟨rfl, .inr ⟨V2.heap.size, 0, rfl, by rw [hV3]; simp, fun i x hi => by
      have hi0 : i = 0 := by have := (List.getElem?_eq_some_iff.1 hi).1; simp at this; exact this
      subst hi0
      simp at hi
      subst hi
      have := alloc_new V2 (.cells #[.int .i64 st] 3)
      rw [← hV3] at this
      simp [World.cell?, this, iv]⟩⟩, hwk⟩)
  have CC := hid (closure_any _ V3 mb ab sb km ca cs n N H3.out.2.2.1 _ 1 1 [st] H3.out.2.2.2.1 (by omega) (HA.out.2.below H3.out.1) (by omega))
  clear b1 b3 hmc hkm d0 d1 d2 d3
  obtain ⟨d0, d1, d2, d3⟩ := cells4 H2.out.2
  go_wp2_with fail
  rw [← hV3]
  clear hV3
  refine CC.out.mono ?_
  rintro r V4 ⟨rfl, hmb, b4⟩
  have hst : clo (Ep N) (ini n [st]) = after N n [] := by rw [HN.out]; rfl
  rw [hst] at hmb
  have H4 := hid (show Below w.heap.size w V4 ∧ V4.heap[w.heap.size]? = some (.cells #[.int .i64 (n : Int), .int .i64 st, .slice a1 m c1, .slice a2 k c2] 25 (0, 0)) ∧ MC (fun _ => True) V4 mb ab sb km ca cs N n ∧ MB V4 V3.heap.size (after N n []) (mw n) ∧ V3.heap.size ≠ km from
    ⟨H3.out.1.trans (b4.mono H3.out.1.size), (b4.block _ (heap_lt H3.out.2.1)).trans H3.out.2.1, H3.out.2.2.1.below b4, hmb, by have := H3.out.2.2.1.gk; omega⟩)
  clear b4 hmb hst CC d0 d1 d2 d3 CM CV hwk
  go_wp2_with fail
  go_loopg [6, 20] s.size (fun kk s6 s20 wr => ∃ i blk : Nat, s20 = .int .i64 (i : Int) ∧ i + kk = s.size ∧ s6 = .slice (some ⟨blk, 0, none⟩) (mw n) (mw n) ∧ MB wr blk (after N n (s.data.toList.take i)) (mw n) ∧ blk ≠ km ∧ MC (fun _ => True) wr mb ab sb km ca cs N n ∧ Below w.heap.size w wr ∧ wr.heap[w.heap.size]? = some (.cells #[.int .i64 (n : Int), .int .i64 st, .slice a1 m c1, .slice a2 k c2] 25 (0, 0)))
  case atStart => exact ⟨0, _, rfl, by omega, rfl, H4.out.2.2.2.1, H4.out.2.2.2.2, H4.out.2.2.1, H4.out.1, H4.out.2.1⟩
  case round =>
    obtain ⟨i, blk, rfl, hik, rfl, hmb, hbk, hmc, hbw, hbx⟩ := hrel
    by_cases hlt : i < s.size
    · have hlt' : (i : Int) < (s.size : Int) := by omega
      have hi0 : (0 : Int) ≤ (i : Int) := by omega
      have hkm := H3.out.2.2.2.2
      have CS := hid (step_any _ wr mb ab sb km ca cs n N hmc blk _ s[i].toNat s[i].toNat_lt hmb (fun x hx => after_lt (by have := HV.out; rw [← HN.out] at this; exact this) hx) (HA.out.2.below hbw) (by omega))
      have HX := hid (And.intro hbw hbx)
      have e9 : s.data.toList[i]? = some s[i] := by rw [List.getElem?_eq_getElem (show i < s.data.toList.length from hlt)]; rfl
      have HE := hid e9
      clear hmb hbk hmc hbw hbx e9
      go_wp2_with fail
      refine CS.out.mono ?_
      rintro e V5 ⟨b2, rfl, hle, hmb, hbk, hmc, hkp⟩
      rw [show UInt8.ofNat s[i].toNat = s[i] from UInt8.ofNat_toNat] at hmb
      have H5 := hid (show MB V5 b2 (after N n (s.data.toList.take (i + 1))) (mw n) ∧ b2 ≠ km ∧ MC (fun _ => True) V5 mb ab sb km ca cs N n ∧ Below w.heap.size w V5 ∧ V5.heap[w.heap.size]? = some (.cells #[.int .i64 (n : Int), .int .i64 st, .slice a1 m c1, .slice a2 k c2] 25 (0, 0)) from
        ⟨by rw [List.take_add_one, HE.out]; show MB V5 b2 (after N n (s.data.toList.take i ++ [s[i]])) _; rw [after_snoc]; exact hmb, hbk, hmc.more fun _ _ _ => trivial, HX.out.1.trans (Kept.toBelow hkp fun b hb => by have := HX.out.1.size; rcases hb with h | h <;> omega), (hkp.block _ (by have := heap_lt HX.out.2; rintro (h | h) <;> omega)).trans HX.out.2⟩)
      clear hle hmb hbk hmc hkp CS
      go_wp2
      go_roundg (gk - 1)
      case measure => omega
      case rel => exact ⟨i + 1, b2, by go_num, by omega, rfl, H5.out.1, H5.out.2.1, H5.out.2.2.1, H5.out.2.2.2.1, H5.out.2.2.2.2⟩
    · have hlt' : ¬ (i : Int) < (s.size : Int) := by omega
      rw [List.take_of_length_le (show s.data.toList.length ≤ i from by have : s.data.toList.length = s.size := rfl; omega)] at hmb
      have HX := hid (And.intro hmb (And.intro hbw hbx))
      clear hmb hbk hmc hbw hbx
      obtain ⟨V, hV⟩ : ∃ V, V = wr := ⟨_, rfl⟩
      rw [← hV] at HX
      go_wp2_with fail
      rw [← hV]
      clear hV
      refine region_inv (fun b a' w' => ∃ (v4 v30 v31 v32 v33 : Value), a' = { tmps := #[.agg #[.int .i64 (n : Int), .int .i64 st, .slice a1 m c1, .slice a2 k c2], .string s, .pointer (some ⟨w.heap.size, 0, none⟩), undef, v4, .pointer (some ⟨mb, 0, none⟩), .slice (some ⟨blk, 0, none⟩) (mw n) (mw n), u7, .agg #[.int .i64 (n : Int), .int .i64 st, .slice a1 m c1, .slice a2 k c2], .bool true, .bool false, .agg #[.int .i64 (n : Int), .int .i64 st, .slice a1 m c1, .slice a2 k c2], .pointer (some ⟨mb, 0, none⟩), .pointer (some ⟨mb, 0, none⟩), .pointer (some ⟨w.heap.size, 1, none⟩), .int .i64 st, .slice (some ⟨V2.heap.size, 0, none⟩) 1 1, .slice (some ⟨V3.heap.size, 0, none⟩) (mw n) (mw n), .string s, .int .i64 (s.size : Int), .int .i64 (i : Int), .bool false, u22, u23, u24, u25, u26, u27, u28, u29, v30, v31, v32, v33], defers := [] } ∧ Below V.heap.size V w' ∧ (b 0 = true → v30 = .agg #[.int .i64 (n : Int), .int .i64 st, .slice a1 m c1, .slice a2 k c2]) ∧ (b 1 = true → v31 = .slice (some ⟨blk, 0, none⟩) (mw n) (mw n)) ∧ (b 2 = true → ∃ (a : Option Addr) (c : Nat), v32 = .slice a (elx n (after N n s.data.toList)).length c ∧ Row w' a (elx n (after N n s.data.toList)).length (ints (elx n (after N n s.data.toList)))) ∧ (b 3 = true → v33 = .int .i64 (least acc (elx n (after N n s.data.toList)))) ∧ (b 4 = true → v4 = .int .i64 (least acc (elx n (after N n s.data.toList))))) (by kernel_rfl) (back_of (by kernel_rfl)) ?step ?done ?init
      case step =>
        rintro b a' w' i o ho ⟨v4, v30, v31, v32, v33, rfl, hb, h0, h1, h2, h3, h4⟩ hbi hd K hK
        have hlt : i < 5 := by have := (Array.getElem?_eq_some_iff.1 ho).1; simpa using this
        have dep : ∀ k, (o.after.any fun e => Region.binds .any e && e.on == k) = true → b k = true := fun k hk => by
          obtain ⟨e, he, h⟩ := Array.any_eq_true'.1 hk
          simp only [Bool.and_eq_true, beq_iff_eq] at h
          rw [← h.2]; exact hd e he h.1
        clear hd
        have hi : i = 0 ∨ i = 1 ∨ i = 2 ∨ i = 3 ∨ i = 4 := by omega
        clear hlt
        rcases hi with rfl | rfl | rfl | rfl | rfl
        · simp only [List.getElem?_toArray, List.getElem?_cons_zero, List.getElem?_cons_succ, Option.some.injEq] at ho
          subst ho
          obtain ⟨d0, d1, d2, d3⟩ := cells4 ((hb.block _ (heap_lt HX.out.2.2)).trans HX.out.2.2)
          go_simp
          refine hK.out _ _ ⟨_, _, _, _, _, rfl, hb, fun _ => rfl, fun h => h1 (by simpa using h), fun h => h2 (by simpa using h), fun h => h3 (by simpa using h), fun h => h4 (by simpa using h)⟩
        · simp only [List.getElem?_toArray, List.getElem?_cons_zero, List.getElem?_cons_succ, Option.some.injEq] at ho
          subst ho
          go_simp
          refine hK.out _ _ ⟨_, _, _, _, _, rfl, hb, fun h => h0 (by simpa using h), fun _ => rfl, fun h => h2 (by simpa using h), fun h => h3 (by simpa using h), fun h => h4 (by simpa using h)⟩
        · simp only [List.getElem?_toArray, List.getElem?_cons_zero, List.getElem?_cons_succ, Option.some.injEq] at ho
          subst ho
          obtain rfl := h1 (dep 1 (by kernel_rfl))
          have CL := hid (list_any w' blk (mw n) _ (HX.out.1.below hb) (mw_le hn) (HA.out.2.below (HX.out.2.1.trans (hb.mono HX.out.2.1.size))))
          have hel : elx (64 * mw n) (after N n s.data.toList) = elx n (after N n s.data.toList) := elx_more (by unfold mw; omega) fun x hx => after_lt (by have := HV.out; rw [← HN.out] at this; exact this) hx
          go_simp
          refine CL.out.mono ?_
          rintro e W5 ⟨⟨v, rfl, hown⟩, b5⟩
          rw [hel] at hown
          obtain ⟨a9, c9, rfl⟩ := own_form hown
          refine hK.out _ _ ⟨_, _, _, _, _, rfl, hb.trans (b5.mono hb.size), fun h => h0 (by simpa using h), fun _ => rfl, fun _ => ⟨a9, c9, rfl, own_row' hown⟩, fun h => h3 (by simpa using h), fun h => h4 (by simpa using h)⟩
        · simp only [List.getElem?_toArray, List.getElem?_cons_zero, List.getElem?_cons_succ, Option.some.injEq] at ho
          subst ho
          obtain rfl := h0 (dep 0 (by kernel_rfl))
          obtain ⟨a9, c9, rfl, hrow⟩ := h2 (dep 2 (by kernel_rfl))
          have CA := hid (leastA_any w' n st acc a1 a2 m c1 k c2 (HA.out.1.acc.below (HX.out.2.1.trans (hb.mono HX.out.2.1.size))) HA.out.1.hk a9 _ c9 (elx n (after N n s.data.toList)) hrow (Nat.le_trans (elx_length _ _) (by have := hn; omega)) fun x hx => by rw [HKN.out]; exact (mem_elx.1 hx).1)
          go_simp
          refine CA.out.mono ?_
          rintro e W5 ⟨rfl, b5⟩
          refine hK.out _ _ ⟨_, _, _, _, _, rfl, hb.trans (b5.mono hb.size), fun _ => rfl, fun h => h1 (by simpa using h), fun _ => ⟨a9, c9, rfl, hrow.below b5⟩, fun _ => rfl, fun h => h4 (by simpa using h)⟩
        · simp only [List.getElem?_toArray, List.getElem?_cons_zero, List.getElem?_cons_succ, Option.some.injEq] at ho
          subst ho
          obtain rfl := h3 (dep 3 (by kernel_rfl))
          go_simp
          refine hK.out _ _ ⟨_, _, _, _, _, rfl, hb, fun h => h0 (by simpa using h), fun h => h1 (by simpa using h), fun h => h2 (by simpa using h), fun _ => rfl, fun _ => rfl⟩
      case done =>
        rintro b a' w' ⟨v4, v30, v31, v32, v33, rfl, hb, h0, h1, h2, h3, h4⟩ hall
        obtain rfl := h4 (hall 4)
        obtain rfl := h0 (hall 0)
        obtain rfl := h1 (hall 1)
        obtain rfl := h3 (hall 3)
        obtain ⟨a9, c9, rfl, -⟩ := h2 (hall 2)
        have HB9 := hid (HX.out.2.1.trans (hb.mono HX.out.2.1.size))
        clear h0 h1 h2 h3 h4 hb
        dsimp only
        go_wp2
        go_ret
        exact ⟨by rw [HN.out]; rfl, HB9.out⟩
      case init =>
        exact ⟨_, _, _, _, _, rfl, (Below.refl _ _).drew, fun h => absurd h (by simp), fun h => absurd h (by simp), fun h => absurd h (by simp), fun h => absurd h (by simp), fun h => absurd h (by simp)⟩
end Go.Proofs.YtogpnlkjcdedlaaDoor
