/-
  Contracts: Closure, Step.
  Contracts: the reference's list, Closure.
  Contract: the reference's Closure.
  Contracts: the reference's Has, Step.
-/
import Derived.Test.YtogpnlkjcdedlaaDoorZ07
import Derived.Test.YtogpnlkjcdedlaaDoorZ04
import Derived.Test.YtogpnlkjcdedlaaDoorZ05
import Derived.Test.YtogpnlkjcdedlaaDoorZ08
import Derived.Test.YtogpnlkjcdedlaaDoorZ02
section
set_option linter.unusedSimpArgs false
set_option linter.unusedVariables false
namespace Go.Proofs.YtogpnlkjcdedlaaDoor
open Go.RowKit Bs Rg Nf Go.Frame
attribute [local go_sem] eq_zero eq_set

/-- A list of states that a call hands back. -/
def RS (l : List Nat) (w : World) (e : Ending) (w' : World) : Prop := (∃ a c, e = .returned (.slice a l.length c) ∧ Row w' a l.length (ints l)) ∧ Below w.heap.size w w'
theorem ints_iv (l : List Nat) : ints l = (l.map fun (x : Nat) => (x : Int)).map iv := by unfold ints; rw [List.map_map]; rfl
set_option maxRecDepth 100000 in
set_option maxHeartbeats 4000000 in
theorem NClosure_any (w : World) (N : Nfa) (n : Nat) (hv : Vn N n) (a1 a2 : Option Addr) (m c1 k c2 : Nat) (h : NA w N a1 m a2 k) (hnm : NMS w N n a1 m c1 a2 k c2) (E : List Int) (a : Option Addr) (q c : Nat) (hE : Row w a q (E.map iv)) (hq : q ≤ 140737488355328) (hT : Tb w) :
    Calls Tryd.prog 15 #[.agg #[.int .i64 N.n, .int .i64 N.st, .slice a1 m c1, .slice a2 k c2], .slice a q c] w (RS (elx n (clo (Ep N) (ini n E))) w) := by
  have hval := valid_iff.2 ⟨n, hv⟩
  obtain ⟨nn, st, arcs, acc⟩ := N
  obtain rfl : nn = (n : Int) := hv.hn
  obtain ⟨N, hN⟩ : ∃ N, N = Nfa.mk (n : Int) st arcs acc := ⟨_, rfl⟩
  obtain ⟨W, hW⟩ : ∃ W, W = w.alloc (.cells #[.int .i64 (n : Int), .int .i64 st, .slice a1 m c1, .slice a2 k c2] 25) := ⟨_, rfl⟩
  have HB := hid (show Below w.heap.size w W from by rw [hW]; exact bel1 _ _)
  have HW := hid (show W.heap[w.heap.size]? = some (.cells #[.int .i64 (n : Int), .int .i64 st, .slice a1 m c1, .slice a2 k c2] 25 (0, 0)) from by rw [hW]; exact alloc_new _ _)
  have HA := hid (And.intro hE (And.intro hT hT.1))
  have CV := hid (show Calls Tryd.prog 12 #[.agg #[.int .i64 (n : Int), .int .i64 st, .slice a1 m c1, .slice a2 k c2]] W fun r w' => r = .returned (.bool true) ∧ Below W.heap.size W w' from by have := NValid_any W ⟨(n : Int), st, arcs, acc⟩ a1 a2 m c1 k c2 (h.below HB.out); rw [hval] at this; exact this)
  have hn := hv.le
  have hn1 := hv.pos
  have HV := hid (show Vn N n from by rw [hN]; exact hv)
  have CM := hid (fun V (hV : Below w.heap.size w V) => show Calls Tryd.prog 36 #[.agg #[.int .i64 (n : Int), .int .i64 st, .slice a1 m c1, .slice a2 k c2]] V fun e w' => (∃ v, e = .returned v ∧ NMO V N n v w') ∧ Below V.heap.size V w' from by rw [hN]; exact hnm V hV)
  clear h hv hnm hT hval hE
  obtain ⟨d0, d1, d2, d3⟩ := cells4 HW.out
  show Calls Tryd.prog 15 #[.agg #[.int .i64 (n : Int), .int .i64 st, .slice a1 m c1, .slice a2 k c2], .slice a q c] w (RS (elx n (clo (Ep (Nfa.mk (n : Int) st arcs acc)) (ini n E))) w)
  rw [← hN]
  clear hN
  go_enter Tryd.func15, Tryd.ntmps15
  go_upto_region 1 with fail
  rw [← hW]
  clear hW
  go_wp2_with fail
  refine CV.out.mono ?_
  rintro r V1 ⟨rfl, b1⟩
  have H1 := hid (show Below w.heap.size w V1 ∧ V1.heap[w.heap.size]? = some (.cells #[.int .i64 (n : Int), .int .i64 st, .slice a1 m c1, .slice a2 k c2] 25 (0, 0)) from ⟨HB.out.trans (b1.mono HB.out.size), (b1.block _ (heap_lt HW.out)).trans HW.out⟩)
  clear b1 d0 d1 d2 d3
  obtain ⟨d0, d1, d2, d3⟩ := cells4 H1.out.2
  go_wp2_with fail
  refine (CM.out V1 H1.out.1).mono ?_
  rintro r V2 ⟨⟨v, rfl, mb, ab, sb, km, ca, cs, rfl, hmc, hkm⟩, b2⟩
  have hkw : w.heap.size ≤ km := by have h2 := H1.out.1.size; omega
  have hkm0 : km ≠ 0 := by have h1 := HA.out.2.2; have h2 := H1.out.1.size; omega
  have H2 := hid (show Below w.heap.size w V2 from H1.out.1.trans (b2.mono H1.out.1.size))
  have CC := hid (closure_any _ V2 mb ab sb km ca cs n N hmc a q c E (HA.out.1.below H2.out) hq (HA.out.2.1.below H2.out) hkm0)
  have HMC := hid hmc
  clear b2 d0 d1 d2 d3 hmc hkm CV CM
  go_wp2_with fail
  refine CC.out.mono ?_
  rintro r V3 ⟨rfl, hmb, b3⟩
  have H3 := hid (show Below w.heap.size w V3 ∧ MB V3 V2.heap.size (clo (Ep N) (ini n E)) (mw n) from ⟨H2.out.trans (b3.mono H2.out.size), hmb⟩)
  have HM3 := hid (HMC.out.below b3)
  have hne : V2.heap.size ≠ km := by have := HMC.out.gk; omega
  clear b3 hmb CC
  have CL := hid (list_any V3 V2.heap.size (mw n) _ H3.out.2 (mw_le hn) (HA.out.2.1.below H3.out.1))
  have hel : elx (64 * mw n) (clo (Ep N) (ini n E)) = elx n (clo (Ep N) (ini n E)) := elx_more (by unfold mw; omega) fun x hx => cini_lt HV.out hx
  have HEL := hid hel
  clear hel
  go_wp2_with fail
  refine CL.out.mono ?_
  rintro r V4 ⟨⟨v, rfl, hown⟩, b4⟩
  rw [HEL.out] at hown
  obtain ⟨a9, c9, rfl⟩ := own_form hown
  have HO := hid (And.intro (own_row' hown) (H3.out.1.trans (b4.mono H3.out.1.size)))
  clear hown b4 CL
  go_wp2
  go_ret
  exact ⟨⟨a9, c9, rfl, HO.out.1⟩, HO.out.2⟩
set_option maxRecDepth 100000 in
set_option maxHeartbeats 4000000 in
theorem NStep_any (w : World) (N : Nfa) (n : Nat) (hv : Vn N n) (a1 a2 : Option Addr) (m c1 k c2 : Nat) (h : NA w N a1 m a2 k) (hnm : NMS w N n a1 m c1 a2 k c2) (E : List Int) (a : Option Addr) (q c : Nat) (hE : Row w a q (E.map iv)) (hq : q ≤ 140737488355328) (bt : Nat) (hbt : bt < 256) (hT : Tb w) :
    Calls Tryd.prog 18 #[.agg #[.int .i64 N.n, .int .i64 N.st, .slice a1 m c1, .slice a2 k c2], .slice a q c, .int .u8 (bt : Int)] w (RS (elx n (stp N (clo (Ep N) (ini n E)) (UInt8.ofNat bt))) w) := by
  have hval := valid_iff.2 ⟨n, hv⟩
  obtain ⟨nn, st, arcs, acc⟩ := N
  obtain rfl : nn = (n : Int) := hv.hn
  obtain ⟨N, hN⟩ : ∃ N, N = Nfa.mk (n : Int) st arcs acc := ⟨_, rfl⟩
  obtain ⟨W, hW⟩ : ∃ W, W = w.alloc (.cells #[.int .i64 (n : Int), .int .i64 st, .slice a1 m c1, .slice a2 k c2] 25) := ⟨_, rfl⟩
  have HB := hid (show Below w.heap.size w W from by rw [hW]; exact bel1 _ _)
  have HW := hid (show W.heap[w.heap.size]? = some (.cells #[.int .i64 (n : Int), .int .i64 st, .slice a1 m c1, .slice a2 k c2] 25 (0, 0)) from by rw [hW]; exact alloc_new _ _)
  have HA := hid (And.intro hE (And.intro hT hT.1))
  have CV := hid (show Calls Tryd.prog 12 #[.agg #[.int .i64 (n : Int), .int .i64 st, .slice a1 m c1, .slice a2 k c2]] W fun r w' => r = .returned (.bool true) ∧ Below W.heap.size W w' from by have := NValid_any W ⟨(n : Int), st, arcs, acc⟩ a1 a2 m c1 k c2 (h.below HB.out); rw [hval] at this; exact this)
  have hn := hv.le
  have hn1 := hv.pos
  have HV := hid (show Vn N n from by rw [hN]; exact hv)
  have CM := hid (fun V (hV : Below w.heap.size w V) => show Calls Tryd.prog 36 #[.agg #[.int .i64 (n : Int), .int .i64 st, .slice a1 m c1, .slice a2 k c2]] V fun e w' => (∃ v, e = .returned v ∧ NMO V N n v w') ∧ Below V.heap.size V w' from by rw [hN]; exact hnm V hV)
  clear h hv hnm hT hval hE
  obtain ⟨d0, d1, d2, d3⟩ := cells4 HW.out
  show Calls Tryd.prog 18 #[.agg #[.int .i64 (n : Int), .int .i64 st, .slice a1 m c1, .slice a2 k c2], .slice a q c, .int .u8 (bt : Int)] w (RS (elx n (stp (Nfa.mk (n : Int) st arcs acc) (clo (Ep (Nfa.mk (n : Int) st arcs acc)) (ini n E)) (UInt8.ofNat bt))) w)
  rw [← hN]
  clear hN
  go_enter Tryd.func18, Tryd.ntmps18
  go_upto_region 1 with fail
  rw [← hW]
  clear hW
  go_wp2_with fail
  refine CV.out.mono ?_
  rintro r V1 ⟨rfl, b1⟩
  have H1 := hid (show Below w.heap.size w V1 ∧ V1.heap[w.heap.size]? = some (.cells #[.int .i64 (n : Int), .int .i64 st, .slice a1 m c1, .slice a2 k c2] 25 (0, 0)) from ⟨HB.out.trans (b1.mono HB.out.size), (b1.block _ (heap_lt HW.out)).trans HW.out⟩)
  clear b1 d0 d1 d2 d3
  obtain ⟨d0, d1, d2, d3⟩ := cells4 H1.out.2
  go_wp2_with fail
  refine (CM.out V1 H1.out.1).mono ?_
  rintro r V2 ⟨⟨v, rfl, mb, ab, sb, km, ca, cs, rfl, hmc, hkm⟩, b2⟩
  have hkw : w.heap.size ≤ km := by have h2 := H1.out.1.size; omega
  have hkm0 : km ≠ 0 := by have h1 := HA.out.2.2; have h2 := H1.out.1.size; omega
  have H2 := hid (show Below w.heap.size w V2 from H1.out.1.trans (b2.mono H1.out.1.size))
  have CC := hid (closure_any _ V2 mb ab sb km ca cs n N hmc a q c E (HA.out.1.below H2.out) hq (HA.out.2.1.below H2.out) hkm0)
  have HMC := hid hmc
  clear b2 d0 d1 d2 d3 hmc hkm CV CM
  go_wp2_with fail
  refine CC.out.mono ?_
  rintro r V3 ⟨rfl, hmb, b3⟩
  have H3 := hid (show Below w.heap.size w V3 ∧ MB V3 V2.heap.size (clo (Ep N) (ini n E)) (mw n) from ⟨H2.out.trans (b3.mono H2.out.size), hmb⟩)
  have HM3 := hid (HMC.out.below b3)
  have hne : V2.heap.size ≠ km := by have := HMC.out.gk; omega
  clear b3 hmb CC
  have CS := hid (step_any _ V3 mb ab sb km ca cs n N HM3.out V2.heap.size _ bt hbt H3.out.2 (fun x hx => cini_lt HV.out hx) (HA.out.2.1.below H3.out.1) hkm0)
  go_wp2_with fail
  refine CS.out.mono ?_
  rintro e V5 ⟨b2, rfl, hle, hmb, hbk, hmc, hkp⟩
  have H5 := hid (show Below w.heap.size w V5 ∧ MB V5 b2 (stp N (clo (Ep N) (ini n E)) (UInt8.ofNat bt)) (mw n) from
    ⟨H3.out.1.trans (Kept.toBelow hkp fun b hb => by have := H3.out.1.size; rcases hb with h | h <;> omega), hmb⟩)
  clear hle hmb hbk hmc hkp CS
  have CL := hid (list_any V5 b2 (mw n) _ H5.out.2 (mw_le hn) (HA.out.2.1.below H5.out.1))
  have hel : elx (64 * mw n) (stp N (clo (Ep N) (ini n E)) (UInt8.ofNat bt)) = elx n (stp N (clo (Ep N) (ini n E)) (UInt8.ofNat bt)) := elx_more (by unfold mw; omega) fun x hx => stp_lt HV.out hx
  have HEL := hid hel
  clear hel
  go_wp2_with fail
  refine CL.out.mono ?_
  rintro r V4 ⟨⟨v, rfl, hown⟩, b4⟩
  rw [HEL.out] at hown
  obtain ⟨a9, c9, rfl⟩ := own_form hown
  have HO := hid (And.intro (own_row' hown) (H5.out.1.trans (b4.mono H5.out.1.size)))
  clear hown b4 CL
  go_wp2
  go_ret
  exact ⟨⟨a9, c9, rfl, HO.out.1⟩, HO.out.2⟩
end Go.Proofs.YtogpnlkjcdedlaaDoor
end
section
set_option linter.unusedSimpArgs false
set_option linter.unusedVariables false
namespace Go.Proofs.YtogpnlkjcdedlaaDoor
open Go.RowKit Bs Rg Nf Go.Frame
attribute [local go_sem] eq_zero eq_set

theorem BR.put {W : World} {b N x : Nat} {G : Nat → Bool} (h : BR W b N G) (v : Bool) : BR (W.setCell ⟨b, x, none⟩ (.bool v)) b N (fun j => if j = x then v else G j) := by
  have h1 := blk_put (k := x) (v := .bool v) (show W.heap[b]? = some (.cells (bl G N).toArray 4 (0, 0)) from h)
  unfold BR
  rw [h1]
  congr 2
  rw [List.setIfInBounds_toArray]
  congr 1
  apply List.ext_getElem?
  intro j
  by_cases hj : j < N
  · rw [bl_get _ hj]
    by_cases e : j = x
    · subst e
      rw [List.getElem?_set_self (by rw [bl_len]; exact hj), if_pos rfl]
    · rw [List.getElem?_set_ne (Ne.symm e), bl_get _ hj, if_neg e]
  · rw [List.getElem?_eq_none (by rw [List.length_set, bl_len]; omega), List.getElem?_eq_none (by rw [bl_len]; omega)]
theorem BR.below {W W' : World} {b N : Nat} {G : Nat → Bool} (h : BR W b N G) (hb : Below W.heap.size W W') : BR W' b N G := (hb.block b (heap_lt (show W.heap[b]? = some (.cells (bl G N).toArray 4 (0, 0)) from h))).trans h
theorem BR.lt {W : World} {b N : Nat} {G : Nat → Bool} (h : BR W b N G) : b < W.heap.size := heap_lt (show W.heap[b]? = some (.cells (bl G N).toArray 4 (0, 0)) from h)
theorem BR.free {W : World} {b N : Nat} {G : Nat → Bool} (h : BR W b N G) (k : Nat) : W.frozen? ⟨b, k, none⟩ = false := Go.Frame.free (show W.heap[b]? = some (.cells (bl G N).toArray 4 (0, 0)) from h) k
set_option maxRecDepth 100000 in
set_option maxHeartbeats 4000000 in
theorem rlist_any (W : World) (b n c : Nat) (p : Nat → Bool) (h : BR W b n p) (hn : n ≤ 1000000) :
    Calls Tryd.prog 39 #[.slice (some ⟨b, 0, none⟩) n c] W (RS (elx n p) W) := by
  obtain ⟨i0, hi, hz0, hz1, hz2⟩ := info_parts Tryd.info3
  have H0 := hid h
  clear h
  go_enter Tryd.func39, Tryd.ntmps39
  go_wp2_with fail
  go_loopg [3, 4] n (fun kk s3 s4 wr => ∃ i : Nat, s4 = .int .i64 (i : Int) ∧ i + kk = n ∧ wr.ownsRow W.heap.size 3 1 s3 (elx i p).length (ints (elx i p)) ∧ Below W.heap.size W wr)
  case atStart => exact ⟨0, rfl, by omega, World.ownsRow_nil _ _ _ _, Below.refl _ _⟩
  case round =>
    obtain ⟨i, rfl, hik, hown, hbw⟩ := hrel
    by_cases hlt : i < n
    · have hlt' : (i : Int) < (n : Int) := by omega
      have hi0 : (0 : Int) ≤ (i : Int) := by omega
      have c0 := (H0.out.below hbw).cell hlt
      have hlen : (elx i p).length ≤ 1000000 := Nat.le_trans (elx_length _ _) (by omega)
      have hel := elx_succ i p
      obtain ⟨y, hy⟩ : ∃ y, y = p i := ⟨_, rfl⟩
      rw [← hy] at c0 hel
      have HH := hid (And.intro hel hbw)
      clear hy hel hbw
      cases y
      · have HO := hid hown
        clear hown
        go_wp2
        go_roundg (gk - 1)
        case measure => omega
        case rel =>
          refine ⟨i + 1, by go_num, by omega, ?_, HH.out.2⟩
          have h1 := HH.out.1
          rw [if_neg (by simp), List.append_nil] at h1
          rw [h1]; exact HO.out
      · go_wp2_with (at_builtin; refine wpList_append_own _ rfl (.tmp 15) (.tmp 17) 23 rfl W.heap.size 3 i0 (.int .i64 0) 1 8 Tryd.underlying23 hi hz0 hz1 hz2 rfl (by decide) _ _ _ rfl (hown.alloc _) ⟨wr.heap.size, 0, none⟩ 1 1 [.int .i64 (i : Int)] rfl rfl ?c1 ?c2 ?c3 ?c4 ?c5 ?_)
        first | (case c1 => exact fun j u hj => one_cell _ _ _ _ _ hj) | skip
        first | (case c2 => first | rfl | (intro u hu; simp at hu; subst hu; rfl)) | skip
        first | (case c3 => unfold maxLen; omega) | skip
        first | (case c4 => omega) | skip
        first | (case c5 => (have := HH.out.2.size; simp; omega)) | skip
        intro v' w1 hown' hgrow _
        have hbw := HH.out.2
        have hb1 : Below W.heap.size W w1 := (hbw.alloc hbw.size _).grown hgrow (by have := hbw.size; simp; omega) (fun k hk => (hown.lt k hk).1)
        have hown2 : w1.ownsRow W.heap.size 3 1 v' (elx (i + 1) p).length (ints (elx (i + 1) p)) := by
          have h1 := HH.out.1
          simp only [if_true] at h1
          rw [h1]
          simpa [ints] using hown'
        have HN := hid (And.intro hown2 hb1)
        clear hown' hgrow hown hbw hb1 hown2
        go_wp2
        go_roundg (gk - 1)
        case measure => omega
        case rel => exact ⟨i + 1, by go_num, by omega, HN.out.1, HN.out.2⟩
    · have hlt' : ¬ (i : Int) < (n : Int) := by omega
      obtain rfl : i = n := by omega
      obtain ⟨a9, c9, rfl⟩ := own_form hown
      have HX := hid (And.intro (own_row' hown) hbw)
      clear hown hbw
      go_wp2
      go_ret
      exact ⟨⟨a9, c9, rfl, HX.out.1⟩, HX.out.2⟩
/-- How many states are not in a set. -/
def cnf (n : Nat) (p : Nat → Bool) : Nat := ((List.range n).filter fun x => !p x).length
theorem cnf_le (n : Nat) (p : Nat → Bool) : cnf n p ≤ n := by unfold cnf; exact Nat.le_trans (List.length_filter_le _ _) (by simp)
theorem cnf_put {n y : Nat} {p : Nat → Bool} (hy : y < n) (hp : p y = false) : cnf n (fun j => if j = y then true else p j) < cnf n p := by
  induction n with
  | zero => omega
  | succ n ih =>
    have hs : ∀ q, cnf (n + 1) q = cnf n q + (if q n = true then 0 else 1) := fun q => by
      unfold cnf; rw [List.range_succ, List.filter_append, List.length_append]; congr 1
      cases h : q n <;> simp [h]
    rw [hs, hs]
    by_cases e : y = n
    · subst e
      have h0 : cnf y (fun j => if j = y then true else p j) = cnf y p := by
        unfold cnf
        congr 1
        refine List.filter_congr fun x hx => ?_
        have := List.mem_range.1 hx
        show (!(if x = y then true else p x)) = !p x
        rw [if_neg (by omega)]
      rw [h0, if_pos (by simp), hp]
      simp
    · have h1 := ih (by omega)
      have h2 : (if n = y then true else p n) = p n := if_neg (Ne.symm e)
      rw [h2]
      omega
/-- A set on the way to the closure. -/
structure Wy (N : Nfa) (n : Nat) (E : List Int) (p : Nat → Bool) : Prop where
  base : ∀ x, ini n E x = true → p x = true
  reach : ∀ x, p x = true → Rt (Ep N) (ini n E) x
theorem Wy.put {N : Nfa} {n : Nat} {E : List Int} {p : Nat → Bool} (h : Wy N n E p) {x y : Nat} (hx : p x = true) (he : Ep N x y) : Wy N n E (fun j => if j = y then true else p j) := by
  refine ⟨fun z hz => ?_, fun z hz => ?_⟩
  · show (if z = y then true else p z) = true
    split
    · rfl
    · exact h.base z hz
  · by_cases e : z = y
    · subst e; exact .step (h.reach x hx) he
    · have hz : (if z = y then true else p z) = true := hz
      rw [if_neg e] at hz; exact h.reach z hz
theorem Wy.closed {N : Nfa} {n : Nat} {E : List Int} {p : Nat → Bool} (h : Wy N n E p) (hc : ∀ a ∈ N.arcs, ∀ x y : Nat, a.e = true → a.f = (x : Int) → a.t = (y : Int) → p x = true → p y = true) : p = clo (Ep N) (ini n E) :=
  clo_eq h.base (fun x y hx ⟨a, ha, he, hf, ht⟩ => hc a ha x y he hf ht hx) h.reach
/-- The list's first states marked. -/
theorem ini_snoc {n : Nat} {E : List Int} {i : Nat} {e : Int} (he : E[i]? = some e) (x : Nat) : ini n (E.take (i + 1)) x = (ini n (E.take i) x || (decide (x < n) && decide (e = (x : Int)))) := by
  rw [Bool.eq_iff_iff, Bool.or_eq_true, ini_iff, ini_iff, Bool.and_eq_true, decide_eq_true_eq, decide_eq_true_eq, List.take_add_one, he, List.mem_append]
  simp
  constructor
  · rintro ⟨h1, h2 | h2⟩
    · exact .inl ⟨h1, h2⟩
    · exact .inr ⟨h1, h2.symm⟩
  · rintro (⟨h1, h2⟩ | ⟨h1, h2⟩)
    · exact ⟨h1, .inl h2⟩
    · exact ⟨h1, .inr h2.symm⟩
end Go.Proofs.YtogpnlkjcdedlaaDoor
end
section
set_option linter.unusedSimpArgs false
set_option linter.unusedVariables false
namespace Go.Proofs.YtogpnlkjcdedlaaDoor
open Go.RowKit Bs Rg Nf Go.Frame
attribute [local go_sem] eq_zero eq_set

set_option maxRecDepth 100000 in
set_option maxHeartbeats 4000000 in
theorem RClosure_any (w : World) (N : Nfa) (n : Nat) (hv : Vn N n) (a1 a2 : Option Addr) (m c1 k c2 : Nat) (h : NA w N a1 m a2 k) (E : List Int) (a : Option Addr) (q c : Nat) (hE : Row w a q (E.map iv)) (hq : q ≤ 140737488355328) :
    Calls Tryd.prog 17 #[.agg #[.int .i64 N.n, .int .i64 N.st, .slice a1 m c1, .slice a2 k c2], .slice a q c] w (RS (elx n (clo (Ep N) (ini n E))) w) := by
  obtain ⟨nn, st, arcs, acc⟩ := N
  obtain rfl : nn = (n : Int) := hv.hn
  have HV0 := hid hv
  obtain ⟨N, hN⟩ : ∃ N, N = Nfa.mk (n : Int) st arcs acc := ⟨_, rfl⟩
  obtain ⟨W, hW⟩ : ∃ W, W = w.alloc (.cells #[.int .i64 (n : Int), .int .i64 st, .slice a1 m c1, .slice a2 k c2] 25) := ⟨_, rfl⟩
  have HB := hid (show Below w.heap.size w W ∧ W.heap.size = w.heap.size + 1 from by rw [hW]; exact ⟨bel1 _ _, by simp⟩)
  have HW := hid (show W.heap[w.heap.size]? = some (.cells #[.int .i64 (n : Int), .int .i64 st, .slice a1 m c1, .slice a2 k c2] 25 (0, 0)) from by rw [hW]; exact alloc_new _ _)
  have HA := hid (And.intro (h.arcs.below HB.out.1) (hE.below HB.out.1))
  have hmb := h.hm
  have hlm : arcs.length = m := h.lm
  have HL := hid (And.intro hlm (show E.length = q from by have := hE.1; simpa using this))
  have hn := hv.le
  have HV := hid (show Vn N n from by rw [hN]; exact hv)
  have HN := hid hN
  have hna : N.arcs = arcs := by rw [hN]
  have HNA := hid hna
  have mk := fun w => make_row n (by omega) w
  clear h hv hE hlm hna
  obtain ⟨d0, d1, d2, d3⟩ := cells4 HW.out
  show Calls Tryd.prog 17 #[.agg #[.int .i64 (n : Int), .int .i64 st, .slice a1 m c1, .slice a2 k c2], .slice a q c] w (RS (elx n (clo (Ep (Nfa.mk (n : Int) st arcs acc)) (ini n E))) w)
  rw [← hN]
  clear hN
  go_enter Tryd.func17, Tryd.ntmps17
  go_upto_region 1 with fail
  rw [← hW]
  clear hW
  go_wp2_with fail
  obtain ⟨X, hX⟩ : ∃ X, X = W.alloc (.cells (bl (fun _ => false) n).toArray 4) := ⟨_, rfl⟩
  have HX := hid (show X.heap[w.heap.size]? = some (.cells #[.int .i64 (n : Int), .int .i64 st, .slice a1 m c1, .slice a2 k c2] 25 (0, 0)) ∧ BR X W.heap.size n (fun _ => false) ∧ Below W.heap.size W X ∧ Below w.heap.size w X from by
    have b1 : Below W.heap.size W X := by rw [hX]; exact bel1 _ _
    exact ⟨(b1.block _ (heap_lt HW.out)).trans HW.out, by rw [hX]; exact alloc_new _ _, b1, HB.out.1.trans (b1.mono HB.out.1.size)⟩)
  rw [← hX]
  clear hX d0 d1 d2 d3
  go_loopg [6] q (fun kk s6 wr => ∃ i : Nat, s6 = .int .i64 (i : Int) ∧ i + kk = q ∧ BR wr W.heap.size n (ini n (E.take i)) ∧ Below W.heap.size W wr)
  case atStart =>
    refine ⟨0, rfl, by omega, ?_, HX.out.2.2.1⟩
    have e : ini n (E.take 0) = fun _ => false := by funext x; simp [ini]
    rw [e]; exact HX.out.2.1
  case round =>
    obtain ⟨i, rfl, hik, hbr, hbw⟩ := hrel
    have hx := (hbw.block _ (heap_lt HW.out)).trans HW.out
    obtain ⟨d0, d1, d2, d3⟩ := cells4 hx
    by_cases hlt : i < q
    · have hlt' : (i : Int) < (q : Int) := by omega
      have hi0 : (0 : Int) ≤ (i : Int) := by omega
      obtain ⟨b0, off, e, rfl, hbl, he, q0⟩ := int_at (HA.out.2.below hbw) hlt
      have HH := hid (And.intro hbr (And.intro hbw he))
      clear hbw he hbl hx
      by_cases h1 : 0 ≤ e
      · have h1' : decide (0 ≤ e) = true := decide_eq_true h1
        by_cases h2 : e < (n : Int)
        · have h2' : decide (e < (n : Int)) = true := decide_eq_true h2
          obtain ⟨x, rfl⟩ : ∃ x : Nat, e = (x : Int) := ⟨e.toNat, by omega⟩
          have hxn : x < n := by omega
          have c0 := hbr.cell hxn
          have f0 := hbr.free x
          clear hbr
          go_wp2_with fail
          go_quiet (fail)
          go_wp2
          go_roundg (gk - 1)
          case measure => omega
          case rel =>
            refine ⟨i + 1, by go_num, by omega, ?_, (below_put (below_drewN HH.out.2.1 _) (Nat.le_refl _))⟩
            have h9 := HH.out.1.put (x := x) true
            have e9 : ini n (E.take (i + 1)) = fun j => if j = x then true else ini n (E.take i) j := by
              funext z
              rw [ini_snoc HH.out.2.2]
              by_cases e1 : z = x
              · subst e1; simp [hxn]
              · rw [if_neg e1]
                have : decide ((x : Int) = (z : Int)) = false := decide_eq_false (by omega)
                rw [this]; simp
            rw [e9]; exact h9
        · have h2' : decide (e < (n : Int)) = false := decide_eq_false h2
          clear hbr
          go_wp2_with fail
          go_quiet (fail)
          go_wp2
          go_roundg (gk - 1)
          case measure => omega
          case rel =>
            refine ⟨i + 1, by go_num, by omega, ?_, below_drewN HH.out.2.1 _⟩
            have e9 : ini n (E.take (i + 1)) = ini n (E.take i) := by
              funext z
              rw [ini_snoc HH.out.2.2]
              have : (decide (z < n) && decide (e = (z : Int))) = false := by
                rw [← Bool.not_eq_true, Bool.and_eq_true, decide_eq_true_eq, decide_eq_true_eq]; omega
              rw [this, Bool.or_false]
            rw [e9]; exact HH.out.1
      · have h1' : decide (0 ≤ e) = false := decide_eq_false h1
        clear hbr
        go_wp2_with fail
        go_quiet (fail)
        go_wp2
        go_roundg (gk - 1)
        case measure => omega
        case rel =>
          refine ⟨i + 1, by go_num, by omega, ?_, below_drewN HH.out.2.1 _⟩
          have e9 : ini n (E.take (i + 1)) = ini n (E.take i) := by
            funext z
            rw [ini_snoc HH.out.2.2]
            have : (decide (z < n) && decide (e = (z : Int))) = false := by
              rw [← Bool.not_eq_true, Bool.and_eq_true, decide_eq_true_eq, decide_eq_true_eq]; omega
            rw [this, Bool.or_false]
          rw [e9]; exact HH.out.1
    · have hlt' : ¬ (i : Int) < (q : Int) := by omega
      have hw9 : Wy N n E (ini n E) := ⟨fun _ h => h, fun _ h => .base h⟩
      rw [List.take_of_length_le (show E.length ≤ i by have := HL.out.2; omega)] at hbr
      have H1 := hid (And.intro hbr (And.intro hbw hw9))
      clear hbr hbw hw9 hx d0 d1 d2 d3
      obtain ⟨w3, hw3⟩ : ∃ w3, w3 = wr := ⟨_, rfl⟩
      rw [← hw3] at H1
      go_wp2_with fail
      rw [← hw3]
      clear hw3
      go_loopg [7] (n + 1) (fun kk s7 wr => ∃ (p : Nat → Bool) (cc : Bool), s7 = .bool cc ∧ BR wr W.heap.size n p ∧ Wy N n E p ∧ Below W.heap.size W wr ∧ (cc = true → cnf n p + 1 ≤ kk) ∧ (cc = false → ∀ a ∈ N.arcs, ∀ x y : Nat, a.e = true → a.f = (x : Int) → a.t = (y : Int) → p x = true → p y = true))
      case atStart => exact ⟨ini n E, true, rfl, H1.out.1, H1.out.2.2, H1.out.2.1, fun _ => by have := cnf_le n (ini n E); omega, fun h => by cases h⟩
      case round =>
        obtain ⟨p, cc, rfl, hbr, hwy, hbw, hc1, hc0⟩ := hrel
        cases cc
        · have HZ := hid (hwy.closed (hc0 rfl))
          have CL := hid (rlist_any wr W.heap.size n n p hbr (by omega))
          have HB2 := hid hbw
          clear hbr hwy hbw hc1 hc0
          go_wp2_with fail
          refine CL.out.mono ?_
          rintro e V ⟨⟨a9, c9, rfl, hrow⟩, b9⟩
          have HO := hid (And.intro hrow (HB2.out.trans (b9.mono HB2.out.size)))
          clear hrow b9 CL
          go_wp2
          go_ret
          rw [HZ.out] at HO ⊢
          exact ⟨⟨a9, c9, rfl, HO.out.1⟩, HB.out.1.trans (HO.out.2.mono HB.out.1.size)⟩
        · have hg := hc1 rfl
          have H2 := hid (And.intro hbr (And.intro hwy hbw))
          clear hbr hwy hbw hc1 hc0
          obtain ⟨go, rfl⟩ : ∃ go, go = gk := ⟨_, rfl⟩
          obtain ⟨w4, hw4⟩ : ∃ w4, w4 = wr := ⟨_, rfl⟩
          rw [← hw4] at H2
          go_wp2_with fail
          rw [← hw4]
          clear hw4
          go_loopg [7, 8] m (fun k3 s7 s8 wr => ∃ (i : Nat) (r : Nat → Bool) (cc : Bool), s7 = .bool cc ∧ s8 = .int .i64 (i : Int) ∧ i + k3 = m ∧ BR wr W.heap.size n r ∧ Wy N n E r ∧ Below W.heap.size W wr ∧ (cc = true → cnf n r < cnf n p) ∧ (cc = false → r = p ∧ ∀ a ∈ arcs.take i, ∀ x y : Nat, a.e = true → a.f = (x : Int) → a.t = (y : Int) → p x = true → p y = true) ∧ cnf n r ≤ cnf n p)
          case atStart => exact ⟨0, p, false, rfl, rfl, by omega, H2.out.1, H2.out.2.1, H2.out.2.2, (fun h => by cases h), fun _ => ⟨rfl, fun a ha => by simp at ha⟩, Nat.le_refl _⟩
          case round =>
            obtain ⟨i, r, cc, rfl, rfl, hik, hbr, hwy, hbw, hc1, hc0, hle⟩ := hrel
            have hx := (hbw.block _ (heap_lt HW.out)).trans HW.out
            obtain ⟨d0, d1, d2, d3⟩ := cells4 hx
            by_cases hlt : i < m
            · have hlt' : (i : Int) < (m : Int) := by omega
              have hi0 : (0 : Int) ≤ (i : Int) := by omega
              obtain ⟨b0, off, f, t, ee, s, rfl, hbl, ha, q0, q1, q2, q3, q4, q5, q6⟩ := arc_at (HA.out.1.below hbw) hlt
              obtain ⟨x, y, hxn, hyn, hfx, hty, -⟩ := HV0.out.arcs _ (List.mem_of_getElem? ha)
              simp only at hfx hty
              subst hfx hty
              obtain ⟨V, hV⟩ : ∃ V, V = wr.alloc (.cells #[.int .i64 (x : Int), .int .i64 (y : Int), .bool ee, .int .u64 (ws s 0 : Int), .int .u64 (ws s 1 : Int), .int .u64 (ws s 2 : Int), .int .u64 (ws s 3 : Int)] 55) := ⟨_, rfl⟩
              have bV : Below wr.heap.size wr V := by rw [hV]; exact bel1 _ _
              have hV1 : V.heap[w.heap.size]? = some (.cells #[.int .i64 (n : Int), .int .i64 st, .slice (some ⟨b0, off, none⟩) m c1, .slice a2 k c2] 25 (0, 0)) := (bV.block _ (heap_lt hx)).trans hx
              have hV2 : V.heap[wr.heap.size]? = some (.cells #[.int .i64 (x : Int), .int .i64 (y : Int), .bool ee, .int .u64 (ws s 0 : Int), .int .u64 (ws s 1 : Int), .int .u64 (ws s 2 : Int), .int .u64 (ws s 3 : Int)] 55 (0, 0)) := by rw [hV]; exact alloc_new _ _
              have hbV := hbr.below bV
              have HH := hid (And.intro hbV (And.intro (hbw.trans (bV.mono hbw.size)) (And.intro ha (And.intro hwy (And.intro hc1 (And.intro hc0 hle))))))
              clear hbr hbw ha hwy hc1 hc0 hle hx bV hbl
              go_upto_region 14 with fail
              rw [← hV]
              clear hV d0 d1 d2 d3 q0 q1 q2 q3 q4 q5 q6
              obtain ⟨d0, d1, d2, d3⟩ := cells4 hV1
              obtain ⟨e0, e1, e2, e3, e4, e5, e6⟩ := cells7a hV2
              have cx := hbV.cell hxn
              have cy := hbV.cell hyn
              have fy := hbV.free y
              clear hV1 hV2 hbV
              have hx0 : (0 : Int) ≤ (x : Int) := by omega
              have hx1 : (x : Int) < (n : Int) := by omega
              have hy0 : (0 : Int) ≤ (y : Int) := by omega
              have hy1 : (y : Int) < (n : Int) := by omega
              obtain ⟨gx, hgx⟩ : ∃ g, g = r x := ⟨_, rfl⟩
              obtain ⟨gy, hgy⟩ : ∃ g, g = r y := ⟨_, rfl⟩
              rw [← hgx] at cx
              rw [← hgy] at cy
              have HG := hid (And.intro hgx hgy)
              clear hgx hgy
              have same : (¬ (ee = true ∧ gx = true ∧ gy = false)) → ∀ cc', cc' = cc → ∃ (i' : Nat) (r' : Nat → Bool) (cc2 : Bool), Value.bool cc' = .bool cc2 ∧ Value.int .i64 ((i : Int) + 1) = .int .i64 (i' : Int) ∧ i' + (gk - 1) = m ∧ BR V W.heap.size n r' ∧ Wy N n E r' ∧ Below W.heap.size W V ∧ (cc2 = true → cnf n r' < cnf n p) ∧ (cc2 = false → r' = p ∧ ∀ a ∈ arcs.take i', ∀ x y : Nat, a.e = true → a.f = (x : Int) → a.t = (y : Int) → p x = true → p y = true) ∧ cnf n r' ≤ cnf n p := by
                rintro hno cc' rfl
                obtain ⟨h1, h2, h3, h4, h5, h6, h7⟩ := HH.out
                refine ⟨i + 1, r, cc', rfl, by push_cast; rfl, by omega, h1, h4, h2, h5, fun hcc => ?_, h7⟩
                obtain ⟨h8, h9⟩ := h6 hcc
                refine ⟨h8, fun a ha x' y' hae haf hat hpx => ?_⟩
                rw [List.take_add_one, h3, List.mem_append] at ha
                rcases ha with ha | ha
                · exact h9 a ha x' y' hae haf hat hpx
                · simp at ha
                  subst ha
                  simp only at hae haf hat
                  obtain rfl : x = x' := by omega
                  obtain rfl : y = y' := by omega
                  cases hpy : p y
                  · exact absurd ⟨hae, by rw [HG.out.1, h8]; exact hpx, by rw [HG.out.2, h8]; exact hpy⟩ hno
                  · rfl
              have SAME := hid same
              clear same
              cases ee
              · go_wp2
                go_roundg (gk - 1)
                case measure => omega
                case rel => exact SAME.out (by simp) _ rfl
              · cases gx
                · go_wp2
                  go_roundg (gk - 1)
                  case measure => omega
                  case rel => exact SAME.out (by simp) _ rfl
                · cases gy
                  · go_wp2
                    go_roundg (gk - 1)
                    case measure => omega
                    case rel =>
                      obtain ⟨h1, h2, h3, h4, h5, h6, h7⟩ := HH.out
                      have hlt9 := cnf_put (p := r) hyn HG.out.2.symm
                      refine ⟨i + 1, _, true, rfl, by go_num, by omega, h1.put true, h4.put HG.out.1.symm ⟨_, by rw [HNA.out]; exact List.mem_of_getElem? h3, rfl, rfl, rfl⟩, below_put h2 (Nat.le_refl _), fun _ => by omega, (fun h => by cases h), by omega⟩
                  · go_wp2
                    go_roundg (gk - 1)
                    case measure => omega
                    case rel => exact SAME.out (by simp) _ rfl
            · have hlt' : ¬ (i : Int) < (m : Int) := by omega
              have HH := hid (And.intro hbr (And.intro hwy (And.intro hbw (And.intro hc1 (And.intro hc0 hle)))))
              clear hbr hwy hbw hc1 hc0 hle hx
              go_wp2
              go_roundg (go - 1)
              case measure => omega
              case rel =>
                obtain ⟨h1, h2, h3, h4, h5, h6⟩ := HH.out
                refine ⟨r, cc, rfl, h1, h2, h3, fun hcc => by have := h4 hcc; omega, fun hcc => ?_⟩
                obtain ⟨h8, h9⟩ := h5 hcc
                rw [List.take_of_length_le (show arcs.length ≤ i by have := HL.out.1; omega), ← HNA.out] at h9
                rw [h8]; exact h9
end Go.Proofs.YtogpnlkjcdedlaaDoor
end
section
set_option linter.unusedSimpArgs false
set_option linter.unusedVariables false
namespace Go.Proofs.YtogpnlkjcdedlaaDoor
open Go.RowKit Bs Rg Nf Go.Frame
attribute [local go_sem] eq_zero eq_set

set_option maxRecDepth 100000 in
set_option maxHeartbeats 2000000 in
theorem RHas_nat (p : Nat → Bool) (b : Nat) (w : World) (hb : b < 256) :
    Calls Tryd.prog 41 #[sv p, .int .u8 (b : Int)] w fun e w' => e = .returned (.bool (p b)) ∧ Below w.heap.size w w' := by
  obtain ⟨k, j, hk, hj, rfl⟩ : ∃ k j, k < 4 ∧ j < 64 ∧ b = 64 * k + j := ⟨b / 64, b % 64, by omega, by omega, by omega⟩
  obtain ⟨b, hb'⟩ : ∃ b, b = 64 * k + j := ⟨_, rfl⟩
  have q1 : (b : Int) / 64 = (k : Int) := by omega
  have q2 : (b : Int) % 64 = (j : Int) := by omega
  have q3 : b / 64 = k := by omega
  have q4 : b % 64 = j := by omega
  have E := has_bit (p := p) (k := k) hj
  rw [← hb'] at E ⊢
  clear hb' hb hj
  unfold sv
  have hk4 : k = 0 ∨ k = 1 ∨ k = 2 ∨ k = 3 := by omega
  cases hp : p b
  all_goals (
    rw [hp] at E
    simp only [Bool.toNat_false, Bool.toNat_true, Int.natCast_zero, Int.natCast_one] at E
    clear hp
    rcases hk4 with rfl | rfl | rfl | rfl
    all_goals (
      go_enter Tryd.func41, Tryd.ntmps41
      go_wp2
      go_ret
      exact ⟨rfl, (Below.refl _ _).alloc (Nat.le_refl _) _⟩))
theorem RHas_any (s : BS) (b : Nat) (w : World) (hb : b < 256) : Calls Tryd.prog 41 #[.agg #[.int .u64 (ws s 0 : Int), .int .u64 (ws s 1 : Int), .int .u64 (ws s 2 : Int), .int .u64 (ws s 3 : Int)], .int .u8 (b : Int)] w fun e w' => e = .returned (.bool (s (UInt8.ofNat b))) ∧ Below w.heap.size w w' := by
  have := RHas_nat (lf s) b w hb
  rw [sv_lf] at this
  exact this
theorem tgt_ini {N : Nfa} {n : Nat} (hv : Vn N n) {P : Nat → Bool} {b : UInt8} {T : List Int} (h : ∀ y : Nat, (y : Int) ∈ T ↔ ∃ a ∈ N.arcs, a.e = false ∧ a.s b = true ∧ (∃ x : Nat, a.f = (x : Int) ∧ P x = true) ∧ a.t = (y : Int)) : ini n T = tgt N P b := by
  funext y
  rw [Bool.eq_iff_iff, ini_iff, h, tgt_iff]
  constructor
  · rintro ⟨_, a, ha, _, h2, h3, h4⟩
    exact ⟨a, ha, h2, h3, h4⟩
  · rintro ⟨a, ha, h2, h3, h4⟩
    obtain ⟨x', y', hx', hy', _, hy2, he⟩ := hv.arcs a ha
    refine ⟨by omega, a, ha, ?_, h2, h3, h4⟩
    cases hae : a.e
    · rfl
    · rw [he hae] at h2; simp [none8] at h2
set_option maxRecDepth 100000 in
set_option maxHeartbeats 4000000 in
theorem RStep_any (w : World) (N : Nfa) (n : Nat) (hv : Vn N n) (a1 a2 : Option Addr) (m c1 k c2 : Nat) (h : NA w N a1 m a2 k) (hm6 : m ≤ 1000000) (E : List Int) (a : Option Addr) (q c : Nat) (hE : Row w a q (E.map iv)) (hq : q ≤ 140737488355328) (bt : Nat) (hbt : bt < 256) :
    Calls Tryd.prog 19 #[.agg #[.int .i64 N.n, .int .i64 N.st, .slice a1 m c1, .slice a2 k c2], .slice a q c, .int .u8 (bt : Int)] w (RS (elx n (stp N (clo (Ep N) (ini n E)) (UInt8.ofNat bt))) w) := by
  obtain ⟨i0, hi, hz0, hz1, hz2⟩ := info_parts Tryd.info3
  have CR := hid (fun V (hV : Below w.heap.size w V) E a q c (hE : Row V a q (E.map iv)) (hq : q ≤ 140737488355328) => RClosure_any V N n hv a1 a2 m c1 k c2 (h.below hV) E a q c hE hq)
  obtain ⟨nn, st, arcs, acc⟩ := N
  obtain rfl : nn = (n : Int) := hv.hn
  have HV0 := hid hv
  obtain ⟨N, hN⟩ : ∃ N, N = Nfa.mk (n : Int) st arcs acc := ⟨_, rfl⟩
  obtain ⟨W, hW⟩ : ∃ W, W = w.alloc (.cells #[.int .i64 (n : Int), .int .i64 st, .slice a1 m c1, .slice a2 k c2] 25) := ⟨_, rfl⟩
  have HB := hid (show Below w.heap.size w W ∧ W.heap.size = w.heap.size + 1 from by rw [hW]; exact ⟨bel1 _ _, by simp⟩)
  have HW := hid (show W.heap[w.heap.size]? = some (.cells #[.int .i64 (n : Int), .int .i64 st, .slice a1 m c1, .slice a2 k c2] 25 (0, 0)) from by rw [hW]; exact alloc_new _ _)
  have HA := hid (And.intro (h.arcs.below HB.out.1) (hE.below HB.out.1))
  have hmb := h.hm
  have hlm : arcs.length = m := h.lm
  have HL := hid hlm
  have hn := hv.le
  have HV := hid (show Vn N n from by rw [hN]; exact hv)
  have HN := hid hN
  have hna : N.arcs = arcs := by rw [hN]
  have HNA := hid hna
  have mk := fun w => make_row n (by omega) w
  have CR2 := hid (fun V (hV : Below w.heap.size w V) E a q c (hE : Row V a q (E.map iv)) (hq : q ≤ 140737488355328) => show Calls Tryd.prog 17 #[.agg #[.int .i64 (n : Int), .int .i64 st, .slice a1 m c1, .slice a2 k c2], .slice a q c] V (RS (elx n (clo (Ep N) (ini n E))) V) from by rw [hN]; exact CR.out V hV E a q c hE hq)
  clear h hv hE hlm hna CR
  obtain ⟨d0, d1, d2, d3⟩ := cells4 HW.out
  show Calls Tryd.prog 19 #[.agg #[.int .i64 (n : Int), .int .i64 st, .slice a1 m c1, .slice a2 k c2], .slice a q c, .int .u8 (bt : Int)] w (RS (elx n (stp (Nfa.mk (n : Int) st arcs acc) (clo (Ep (Nfa.mk (n : Int) st arcs acc)) (ini n E)) (UInt8.ofNat bt))) w)
  rw [← hN]
  clear hN
  obtain ⟨P, hP⟩ : ∃ P, P = clo (Ep N) (ini n E) := ⟨_, rfl⟩
  have HPn := hid (show ∀ x, P x = true → x < n from fun x hx => by rw [hP] at hx; exact cini_lt HV.out hx)
  obtain ⟨L, hL⟩ : ∃ L, L = elx n P := ⟨_, rfl⟩
  have HLL := hid hL
  have hln : L.length ≤ n := by rw [hL]; exact elx_length _ _
  rw [← hP]
  have CE := hid (fun V (hV : Below w.heap.size w V) (hV2 : Below W.heap.size W V) => show Calls Tryd.prog 17 #[.agg #[.int .i64 (n : Int), .int .i64 st, .slice a1 m c1, .slice a2 k c2], .slice a q c] V (RS L V) from by rw [hL, hP]; exact CR2.out V hV E a q c (HA.out.2.below hV2) hq)
  clear hP hL
  go_enter Tryd.func19, Tryd.ntmps19
  go_upto_region 1 with fail
  rw [← hW]
  clear hW
  go_upto_region 2 with fail
  obtain ⟨X, hX⟩ : ∃ X, X = W.alloc (.cells (bl (fun _ => false) n).toArray 4) := ⟨_, rfl⟩
  have HX := hid (show X.heap[w.heap.size]? = some (.cells #[.int .i64 (n : Int), .int .i64 st, .slice a1 m c1, .slice a2 k c2] 25 (0, 0)) ∧ BR X W.heap.size n (fun _ => false) ∧ Below W.heap.size W X ∧ Below w.heap.size w X from by
    have b1 : Below W.heap.size W X := by rw [hX]; exact bel1 _ _
    exact ⟨(b1.block _ (heap_lt HW.out)).trans HW.out, by rw [hX]; exact alloc_new _ _, b1, HB.out.1.trans (b1.mono HB.out.1.size)⟩)
  rw [← hX]
  clear hX d0 d1 d2 d3
  obtain ⟨d0, d1, d2, d3⟩ := cells4 HX.out.1
  go_wp2_with fail
  refine (CE.out X HX.out.2.2.2 HX.out.2.2.1).mono ?_
  rintro e Y ⟨⟨a9, c9, rfl, hrow⟩, bY⟩
  have HY := hid (show Row Y a9 L.length (ints L) ∧ BR Y W.heap.size n (fun _ => false) ∧ Below W.heap.size W Y ∧ Y.heap[w.heap.size]? = some (.cells #[.int .i64 (n : Int), .int .i64 st, .slice a1 m c1, .slice a2 k c2] 25 (0, 0)) from
    ⟨hrow, HX.out.2.1.below bY, HX.out.2.2.1.trans (bY.mono HX.out.2.2.1.size), (bY.block _ (heap_lt HX.out.1)).trans HX.out.1⟩)
  clear hrow bY CE d0 d1 d2 d3
  obtain ⟨nl, hnl⟩ : ∃ nl, nl = L.length := ⟨_, rfl⟩
  have HNL := hid hnl
  rw [← hnl] at hln
  rw [← hnl]
  clear hnl
  go_wp2_with fail
  go_loopg [9] nl (fun kk s9 wr => ∃ i : Nat, s9 = .int .i64 (i : Int) ∧ i + kk = nl ∧ BR wr W.heap.size n (fun x => (L.take i).contains x) ∧ Kept (fun b => b = W.heap.size) Y wr)
  case atStart =>
    exact ⟨0, rfl, by omega, HY.out.2.1, Kept.refl _ _⟩
  case round =>
    obtain ⟨i, rfl, hik, hbr, hkw⟩ := hrel
    by_cases hlt : i < nl
    · have hlt' : (i : Int) < (nl : Int) := by omega
      have hi0 : (0 : Int) ≤ (i : Int) := by omega
      obtain ⟨x, hx⟩ : ∃ x, L[i]? = some x := ⟨L[i]'(by rw [← HNL.out]; exact hlt), List.getElem?_eq_getElem _⟩
      have hxn : x < n := by have h1 := List.mem_of_getElem? hx; rw [HLL.out] at h1; exact (mem_elx.1 h1).1
      have hxI : (x : Int) < (n : Int) := by omega
      have hrw : ∃ b0 off, a9 = some ⟨b0, off, none⟩ ∧ wr.cell? ⟨b0, off + i, none⟩ = some (.int .i64 (x : Int)) := by
        have hr : Row Y a9 L.length (L.map fun (x : Nat) => Value.int .i64 (x : Int)) := HY.out.1
        rcases hr.2 with h0 | ⟨b0, off, e, hb0, hc⟩
        · rw [← HNL.out] at h0; omega
        · refine ⟨b0, off, e, ?_⟩
          have h1 := hc i (.int .i64 (x : Int)) (by rw [List.getElem?_map, hx]; rfl)
          refine (World.cell?_of_block (hkw.block b0 fun e9 => ?_)).trans h1
          have h2 := HY.out.2.1
          rw [← e9] at h2
          have hd : Y.heap[b0]? = some (.cells (bl (fun _ => false) n).toArray 4 (0, 0)) := h2
          simp only [World.cell?, hd] at h1
          have h1 : (bl (fun _ => false) n)[off + i]? = some (.int .i64 (x : Int)) := by simpa using h1
          by_cases h9 : off + i < n
          · rw [bl_get _ h9] at h1; cases h1
          · rw [List.getElem?_eq_none (by rw [bl_len]; omega)] at h1; cases h1
      obtain ⟨b0, off, rfl, q0⟩ := hrw
      have c0 := hbr.cell hxn
      have f0 := hbr.free x
      have HH := hid (And.intro hbr (And.intro hkw hx))
      clear hbr hkw hx
      go_wp2
      go_roundg (gk - 1)
      case measure => omega
      case rel =>
        refine ⟨i + 1, by go_num, by omega, ?_, HH.out.2.1.setCell (p := ⟨W.heap.size, x, none⟩) rfl _⟩
        have h9 := HH.out.1.put (x := x) true
        have e9 : (fun z => (L.take (i + 1)).contains z) = fun j => if j = x then true else (L.take i).contains j := by
          funext z
          rw [List.take_add_one, HH.out.2.2, cont_append]
          by_cases e1 : z = x
          · subst e1; simp
          · rw [if_neg e1]; simp [e1]
        rw [e9]; exact h9
    · have hlt' : ¬ (i : Int) < (nl : Int) := by omega
      have hP9 : (fun x => (L.take i).contains x) = P := by
        funext x
        rw [List.take_of_length_le (by rw [← HNL.out]; omega), Bool.eq_iff_iff]
        rw [HLL.out]
        simp only [List.contains_iff_mem, mem_elx]
        exact ⟨fun h => h.2, fun h => ⟨HPn.out x h, h⟩⟩
      rw [hP9] at hbr
      have H3 := hid (show BR wr W.heap.size n P ∧ Below W.heap.size W wr ∧ wr.heap[w.heap.size]? = some (.cells #[.int .i64 (n : Int), .int .i64 st, .slice a1 m c1, .slice a2 k c2] 25 (0, 0)) from
        ⟨hbr, HY.out.2.2.1.trans (hkw.toBelow fun b hb => Nat.le_of_eq hb.symm), (hkw.block _ (by have := HB.out.2; omega)).trans HY.out.2.2.2⟩)
      clear hbr hkw hP9
      obtain ⟨w3, hw3⟩ : ∃ w3, w3 = wr := ⟨_, rfl⟩
      rw [← hw3] at H3
      go_wp2_with fail
      rw [← hw3]
      clear hw3
      go_loopg [10, 11] m (fun kk s10 s11 wr => ∃ (i : Nat) (T : List Int), s11 = .int .i64 (i : Int) ∧ i + kk = m ∧ wr.ownsRow w3.heap.size 3 1 s10 T.length (T.map iv) ∧ T.length ≤ i ∧ (∀ y : Nat, (y : Int) ∈ T ↔ ∃ a ∈ arcs.take i, a.e = false ∧ a.s (UInt8.ofNat bt) = true ∧ (∃ x : Nat, a.f = (x : Int) ∧ P x = true) ∧ a.t = (y : Int)) ∧ Below w3.heap.size w3 wr)
      case atStart => exact ⟨0, [], rfl, by omega, World.ownsRow_nil _ _ _ _, Nat.le_refl _, fun y => ⟨fun h => by simp at h, fun ⟨a, ha, _⟩ => by simp at ha⟩, Below.refl _ _⟩
      case round =>
        obtain ⟨i, T, rfl, hik, hown, hTl, hT, hbw⟩ := hrel
        have hx := (hbw.block _ (heap_lt H3.out.2.2)).trans H3.out.2.2
        obtain ⟨d0, d1, d2, d3⟩ := cells4 hx
        by_cases hlt : i < m
        · have hlt' : (i : Int) < (m : Int) := by omega
          have hi0 : (0 : Int) ≤ (i : Int) := by omega
          obtain ⟨b0, off, f, t, ee, s, rfl, hbl, ha, q0, q1, q2, q3, q4, q5, q6⟩ := arc_at (HA.out.1.below (H3.out.2.1.trans (hbw.mono H3.out.2.1.size))) hlt
          obtain ⟨x, y, hxn, hyn, hfx, hty, -⟩ := HV0.out.arcs _ (List.mem_of_getElem? ha)
          simp only at hfx hty
          subst hfx hty
          obtain ⟨V, hV⟩ : ∃ V, V = wr.alloc (.cells #[.int .i64 (x : Int), .int .i64 (y : Int), .bool ee, .int .u64 (ws s 0 : Int), .int .u64 (ws s 1 : Int), .int .u64 (ws s 2 : Int), .int .u64 (ws s 3 : Int)] 55) := ⟨_, rfl⟩
          have bV : Below wr.heap.size wr V := by rw [hV]; exact bel1 _ _
          have hV1 : V.heap[w.heap.size]? = some (.cells #[.int .i64 (n : Int), .int .i64 st, .slice (some ⟨b0, off, none⟩) m c1, .slice a2 k c2] 25 (0, 0)) := (bV.block _ (heap_lt hx)).trans hx
          have hV2 : V.heap[wr.heap.size]? = some (.cells #[.int .i64 (x : Int), .int .i64 (y : Int), .bool ee, .int .u64 (ws s 0 : Int), .int .u64 (ws s 1 : Int), .int .u64 (ws s 2 : Int), .int .u64 (ws s 3 : Int)] 55 (0, 0)) := by rw [hV]; exact alloc_new _ _
          have hbV := (H3.out.1.below hbw).below bV
          have hoV : V.ownsRow w3.heap.size 3 1 u10 T.length (T.map iv) := ownsRow_keep hown fun k hk => bV.block k (hown.lt k hk).2
          have HH := hid (And.intro hoV (And.intro (hbw.trans (bV.mono hbw.size)) (And.intro ha (And.intro hT hTl))))
          have HE := hid (And.intro (And.intro hV1 hV2) (And.intro hbV hbw.size))
          have hTm : T.length ≤ 1000000 := by omega
          clear hbw ha hT hTl hx bV hbl hown hoV
          go_upto_region 12 with fail
          rw [← hV]
          clear hV d0 d1 d2 d3 q0 q1 q2 q3 q4 q5 q6
          obtain ⟨d0, d1, d2, d3⟩ := cells4 hV1
          obtain ⟨e0, e1, e2, e3, e4, e5, e6⟩ := cells7a hV2
          have cx := hbV.cell hxn
          clear hV1 hV2 hbV
          have hx0 : (0 : Int) ≤ (x : Int) := by omega
          have hx1 : (x : Int) < (n : Int) := by omega
          obtain ⟨gx, hgx⟩ : ∃ g, g = P x := ⟨_, rfl⟩
          rw [← hgx] at cx
          have HG := hid hgx
          clear hgx
          have CH := hid (RHas_any s bt V hbt)
          obtain ⟨gs, hgs⟩ : ∃ g, g = s (UInt8.ofNat bt) := ⟨_, rfl⟩
          rw [← hgs] at CH
          have HGS := hid hgs
          clear hgs
          have same : (¬ (ee = false ∧ gs = true ∧ gx = true)) → ∀ y' : Nat, (y' : Int) ∈ T ↔ ∃ a ∈ arcs.take (i + 1), a.e = false ∧ a.s (UInt8.ofNat bt) = true ∧ (∃ x : Nat, a.f = (x : Int) ∧ P x = true) ∧ a.t = (y' : Int) := by
            intro hno y'
            rw [HH.out.2.2.2.1, List.take_add_one, HH.out.2.2.1]
            constructor
            · rintro ⟨a, ha, h⟩; exact ⟨a, by simp [ha], h⟩
            · rintro ⟨a, ha, h1, h2, ⟨z, h3, h4⟩, h5⟩
              simp only [List.mem_append, Option.toList_some, List.mem_singleton] at ha
              rcases ha with ha | rfl
              · exact ⟨a, ha, h1, h2, ⟨z, h3, h4⟩, h5⟩
              · simp only at h1 h2 h3
                obtain rfl : x = z := by omega
                exact absurd ⟨h1, by rw [HGS.out]; exact h2, by rw [HG.out]; exact h4⟩ hno
          have SAME := hid same
          clear same
          cases ee
          · cases gx
            · go_wp2
              go_roundg (gk - 1)
              case measure => omega
              case rel => exact ⟨i + 1, T, by go_num, by omega, HH.out.1, by have := HH.out.2.2.2.2; omega, SAME.out (by simp), HH.out.2.1⟩
            · go_wp2_with fail
              refine CH.out.mono ?_
              rintro e V2 ⟨rfl, bV2⟩
              have hV1 := (bV2.block _ (heap_lt HE.out.1.1)).trans HE.out.1.1
              have hV2 := (bV2.block _ (heap_lt HE.out.1.2)).trans HE.out.1.2
              have hown : V2.ownsRow w3.heap.size 3 1 u10 T.length (T.map iv) := ownsRow_keep HH.out.1 fun k hk => bV2.block k (HH.out.1.lt k hk).2
              have HB3 := hid (HH.out.2.1.trans (bV2.mono HH.out.2.1.size))
              clear bV2 d0 d1 d2 d3 e0 e1 e2 e3 e4 e5 e6 cx CH
              obtain ⟨d0, d1, d2, d3⟩ := cells4 hV1
              obtain ⟨e0, e1, e2, e3, e4, e5, e6⟩ := cells7a hV2
              clear hV1 hV2
              cases gs
              · have HO := hid hown
                clear hown
                go_wp2
                go_roundg (gk - 1)
                case measure => omega
                case rel => exact ⟨i + 1, T, by go_num, by omega, HO.out, by have := HH.out.2.2.2.2; omega, SAME.out (by simp), HB3.out⟩
              · go_wp2_with (at_builtin; refine wpList_append_own _ rfl (.tmp 59) (.tmp 62) 23 rfl w3.heap.size 3 i0 (.int .i64 0) 1 8 Tryd.underlying23 hi hz0 hz1 hz2 rfl (by decide) _ _ _ rfl (hown.alloc _) ⟨V2.heap.size, 0, none⟩ 1 1 [.int .i64 (y : Int)] rfl rfl ?c1 ?c2 ?c3 ?c4 ?c5 ?_)
                first | (case c1 => exact fun j u hj => one_cell _ _ _ _ _ hj) | skip
                first | (case c2 => first | rfl | (intro u hu; simp at hu; subst hu; rfl)) | skip
                first | (case c3 => unfold maxLen; omega) | skip
                first | (case c4 => omega) | skip
                first | (case c5 => (have := HB3.out.size; simp; omega)) | skip
                intro v' w1 hown' hgrow _
                have hbw := HB3.out
                have hb1 : Below w3.heap.size w3 w1 := (hbw.alloc hbw.size _).grown hgrow (by have := hbw.size; simp; omega) (fun k hk => (hown.lt k hk).1)
                have hown2 : w1.ownsRow w3.heap.size 3 1 v' (T ++ [(y : Int)]).length ((T ++ [(y : Int)]).map iv) := by simpa [iv] using hown'
                have HN2 := hid (And.intro hown2 hb1)
                clear hown' hgrow hown hbw hb1 hown2
                go_wp2
                go_roundg (gk - 1)
                case measure => omega
                case rel =>
                  refine ⟨i + 1, T ++ [(y : Int)], by go_num, by omega, HN2.out.1, by have := HH.out.2.2.2.2; simp; omega, fun y' => ?_, HN2.out.2⟩
                  rw [List.mem_append, HH.out.2.2.2.1, List.take_add_one, HH.out.2.2.1, List.mem_singleton]
                  constructor
                  · rintro (⟨a, ha, h⟩ | h)
                    · exact ⟨a, by simp [ha], h⟩
                    · exact ⟨⟨(x : Int), (y : Int), false, s⟩, by simp, rfl, HGS.out.symm, ⟨x, rfl, HG.out.symm⟩, h.symm⟩
                  · rintro ⟨a, ha, h1, h2, h3, h5⟩
                    simp only [List.mem_append, Option.toList_some, List.mem_singleton] at ha
                    rcases ha with ha | rfl
                    · exact .inl ⟨a, ha, h1, h2, h3, h5⟩
                    · exact .inr h5.symm
          · go_wp2
            go_roundg (gk - 1)
            case measure => omega
            case rel => exact ⟨i + 1, T, by go_num, by omega, HH.out.1, by have := HH.out.2.2.2.2; omega, SAME.out (by simp), HH.out.2.1⟩
        · have hlt' : ¬ (i : Int) < (m : Int) := by omega
          obtain ⟨a8, c8, rfl⟩ := own_form hown
          have hTe : ini n T = tgt N P (UInt8.ofNat bt) := tgt_ini HV.out fun y => by
            rw [hT y, List.take_of_length_le (by rw [HL.out]; omega), HNA.out]
          have h3w : Below w.heap.size w wr := HB.out.1.trans ((H3.out.2.1.trans (hbw.mono H3.out.2.1.size)).mono HB.out.1.size)
          have CE := hid (CR2.out wr h3w T a8 T.length c8 (own_row' hown) (by omega))
          rw [hTe] at CE
          have HW3 := hid h3w
          clear hown hT hTl hbw hTe h3w hx
          go_wp2_with fail
          refine CE.out.mono ?_
          rintro e Z ⟨⟨a7, c7, rfl, hrow⟩, bZ⟩
          have HO := hid (And.intro hrow (HW3.out.trans (bZ.mono HW3.out.size)))
          clear hrow bZ CE
          go_wp2
          go_ret
          exact ⟨⟨a7, c7, rfl, HO.out.1⟩, HO.out.2⟩
end Go.Proofs.YtogpnlkjcdedlaaDoor
end
