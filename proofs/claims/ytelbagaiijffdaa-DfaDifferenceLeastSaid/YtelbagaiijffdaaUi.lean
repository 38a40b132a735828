/-
  Contract: Minimize.
-/
import Derived.Test.YtelbagaiijffdaaUh
import Derived.Test.YtelbagaiijffdaaIw
set_option linter.unusedSimpArgs false
set_option linter.unusedVariables false
namespace Go.Proofs.Ytelbagaiijffdaa
open Go.RowKit Lx Go.Frame

def F2 (D : Df) (W : World) (v : Value) : Prop := ∃ a c, v = .slice a (mBy D).length c ∧ Row W a (mBy D).length ((zs (mBy D)).map iv)
def F3 (D : Df) (n : Nat) (W : World) (v : Value) : Prop := ∃ x1 y1 x2 y2, v = .agg #[.slice x1 (n + 1) y1, .slice x2 (n + 1) y2] ∧ Rows2 W x1 (n + 1) ((mT D).nx.map zs) ∧ Row W x2 (n + 1) ((mT D).ac.map iv)
def F4 (D : Df) (base : Nat) (W : World) (v : Value) : Prop := ∃ FB x1 y1 rv b, v = .tuple #[.slice x1 (List.length rv) y1, .slice (some ⟨b, 0, none⟩) (mR D).2.length (mR D).2.length] ∧ OR W FB (.slice x1 rv.length y1) rv ∧ rv.map (·.2) = (mR D).1 ∧ IB W b ((mR D).2.map fun x => (mT D).ac.getD x 0) ∧ base ≤ FB ∧ base ≤ b
theorem F2.keep {D : Df} {W W' : World} {v : Value} (h : F2 D W v) (hb : Below W.heap.size W W') : F2 D W' v := by
  obtain ⟨a, c, e, h1⟩ := h
  exact ⟨a, c, e, h1.below hb⟩
theorem F3.keep {D : Df} {n : Nat} {W W' : World} {v : Value} (h : F3 D n W v) (hb : Below W.heap.size W W') : F3 D n W' v := by
  obtain ⟨x1, y1, x2, y2, e, h1, h2⟩ := h
  exact ⟨x1, y1, x2, y2, e, h1.below hb, h2.below hb⟩
theorem F4.keep {D : Df} {base : Nat} {W W' : World} {v : Value} (h : F4 D base W v) (hb : Below W.heap.size W W') : F4 D base W' v := by
  obtain ⟨FB, x1, y1, rv, b, e, h1, h2, h3, h4⟩ := h
  exact ⟨FB, x1, y1, rv, b, e, h1.keep hb, h2, h3.keep hb, h4⟩
def tup0 : Value → Value
  | .tuple a => a.getD 0 (.bool false)
  | _ => .bool false
def tup1 : Value → Value
  | .tuple a => a.getD 1 (.bool false)
  | _ => .bool false
/-- One row in another's place. -/
theorem OR.setAt {W : World} {base g n c i b : Nat} {rv : List (Nat × List Int)} {r : List Int} (h : OR W base (.slice (some ⟨g, 0, none⟩) n c) rv) (hn : rv.length = n) (hi : i < n) (hI : IB W b r) (hb : base ≤ b) : OR (W.setCell ⟨g, i, none⟩ (rvv (b, r))) base (.slice (some ⟨g, 0, none⟩) n c) (rv.set i (b, r)) ∧ (∃ y z u, W.cell? ⟨g, i, none⟩ = some (.slice y z u)) ∧ W.frozen? ⟨g, i, none⟩ = false ∧ base ≤ g := by
  have hi' : i < rv.length := by omega
  rcases h.1.2 with ⟨e, _⟩ | ⟨g', cap, cur, e, hg, hc, h1, h2, h3, h4⟩
  · cases e
  · simp only [Value.slice.injEq, Option.some.injEq, Addr.mk.injEq, and_true, true_and] at e
    obtain ⟨rfl, _, rfl⟩ := e
    rw [Nat.mul_one] at h3 h4
    have hcur : cur.toList[i]? = some (rvv rv[i]) := by
      have h5 : (cur.toList.take rv.length)[i]? = (rv.map rvv)[i]? := by rw [h4]
      rw [List.getElem?_take, if_pos hi', List.getElem?_map, List.getElem?_eq_getElem hi'] at h5
      exact h5
    refine ⟨⟨⟨by simp, .inr ⟨g, c, _, by rw [List.length_set, hn], hg, blk_put hc, by rw [List.length_set]; exact h1, h2, by simpa using h3, ?_⟩⟩, fun p hp => ?_⟩, ⟨some ⟨rv[i].1, 0, none⟩, rv[i].2.length, rv[i].2.length, ?_⟩, Go.Frame.free hc i, hg⟩
    · rw [Nat.mul_one, List.length_set, Array.toList_setIfInBounds, List.take_set, h4, List.map_set]
    · have hkp : ∀ k l, IB W k l → IB (W.setCell ⟨g, i, none⟩ (rvv (b, r))) k l := fun k l hk => blk_set hk (ib_ne hk hc (by decide))
      rcases List.mem_or_eq_of_mem_set hp with hp | rfl
      · exact ⟨hkp _ _ (h.2 p hp).1, (h.2 p hp).2⟩
      · exact ⟨hkp _ _ hI, hb⟩
    · simp only [World.cell?, hc]
      rw [← Array.getElem?_toList, hcur]
      rfl
/-- A slice of numbers in a block of the call's own. -/
def ZOwn (w : World) (l : List Nat) (e : Ending) (w' : World) : Prop := (∃ a c, e = .returned (.slice a l.length c) ∧ w'.ownsRow w.heap.size 3 1 (.slice a l.length c) l.length ((zs l).map iv)) ∧ Below w.heap.size w w'
set_option maxRecDepth 100000 in
set_option maxHeartbeats 4000000 in
theorem firsts_own (w : World) (a1 : Option Addr) (n1 c1 : Nat) (ns : List Int) (h1 : Row w a1 n1 (ns.map iv)) (hn1 : n1 ≤ 1000000) (out : List Nat) (hout : out = fi ns n1) :
    Calls Try.prog 28 #[.slice a1 n1 c1] w (ZOwn w out) := by
  obtain ⟨i0, hi, hz0, hz1, hz2⟩ := info_parts info3
  subst hout
  have H1 := hid h1
  clear h1
  unfold ZOwn
  go_enter Try.func28, Try.ntmps28
  go_wp2_with fail
  go_loopg [3, 8] n1 (fun kk s3 s8 wr => ∃ i : Nat, s8 = .int .i64 (i : Int) ∧ i + kk = n1 ∧ wr.ownsRow w.heap.size 3 1 s3 (fi ns i).length ((zs (fi ns i)).map iv) ∧ Below w.heap.size w wr)
  case atStart => exact ⟨0, rfl, by omega, World.ownsRow_nil _ _ _ _, Below.refl _ _⟩
  case round =>
    obtain ⟨i, rfl, hik, hown, hbw⟩ := hrel
    obtain ⟨a9, c9, rfl⟩ := own_form hown
    by_cases hlt : i < n1
    · have hlt' : (i : Int) < (n1 : Int) := by omega
      have hi0 : (0 : Int) ≤ (i : Int) := by omega
      have hi1 : IntKind.i64.wrap ((i : Int) + 1) = (i : Int) + 1 := wrapIn (by omega) (by omega)
      obtain ⟨b2, o2, x, rfl, _, hx, p2⟩ := int_at (H1.out.below hbw) hlt
      have hlen : (fi ns i).length ≤ 1000000 := Nat.le_trans (fi_len _ _) (by omega)
      have hel : fi ns (i + 1) = fi ns i ++ (if x = ((fi ns i).length : Int) then [i] else []) := by rw [fi, List.getD_eq_getElem?_getD, hx, Option.getD_some]
      by_cases hq : x = ((fi ns i).length : Int)
      · rw [if_pos hq] at hel
        have HH := hid (And.intro hel hbw)
        clear hel hbw hx
        go_wp2_with (at_builtin; refine wpList_append_own _ rfl (.tmp 17) (.tmp 19) 22 rfl w.heap.size 3 i0 (.int .i64 0) 1 8 Try.underlying22 hi hz0 hz1 hz2 rfl (by decide) _ _ _ rfl (own_alloc hown _) ⟨wr.heap.size, 0, none⟩ 1 1 [.int .i64 (i : Int)] rfl rfl ?c1 ?c2 ?c3 ?c4 ?c5 ?_)
        first | (case c1 => exact fun j u hj => one_cell _ _ _ _ _ hj) | skip
        first | (case c2 => first | rfl | (intro u hu; simp at hu; subst hu; rfl)) | skip
        first | (case c3 => unfold maxLen; omega) | skip
        first | (case c4 => omega) | skip
        first | (case c5 => (have := HH.out.2.size; simp; omega)) | skip
        intro v' w1 hown' hgrow _
        have hbw := HH.out.2
        have hb1 : Below w.heap.size w w1 := (hbw.alloc hbw.size _).grown hgrow (by have := hbw.size; simp; omega) (fun k hk => (hown.lt k hk).1)
        have hown2 : w1.ownsRow w.heap.size 3 1 v' (fi ns (i + 1)).length ((zs (fi ns (i + 1))).map iv) := by
          rw [HH.out.1, zs_snoc]
          simpa using hown'
        have HN := hid (And.intro hown2 hb1)
        clear hown' hgrow hown hbw hb1 hown2
        go_wp2
        go_roundg (gk - 1)
        case measure => omega
        case rel => exact ⟨i + 1, by go_num, by omega, HN.out.1, HN.out.2⟩
      · rw [if_neg hq, List.append_nil] at hel
        have HH := hid (And.intro hel (And.intro hbw hown))
        clear hel hbw hx hown
        go_wp2
        go_roundg (gk - 1)
        case measure => omega
        case rel => exact ⟨i + 1, by go_num, by omega, by rw [HH.out.1]; exact HH.out.2.2, HH.out.2.1⟩
    · have hlt' : ¬ (i : Int) < (n1 : Int) := by omega
      obtain rfl : i = n1 := by omega
      have HX := hid (And.intro hown hbw)
      clear hown hbw
      go_wp2
      go_ret
      exact ⟨⟨a9, c9, rfl, HX.out.1⟩, HX.out.2⟩
theorem strs_col {D : Df} {n k : Nat} (hv : Vd D n k) : Rk.ranks ((List.range (mBy D).length).map fun c => strOfNums (kbs (col (mR D).1 c))) = mCs D := by
  unfold mCs
  have hVT := vt_tb hv (mBy D) (mBy_lt hv)
  obtain ⟨h1, h2, h3, h4⟩ := mRes_len hVT (by omega) (by have := hv.le; omega)
  rw [show ((List.range (mBy D).length).map fun c => strOfNums (kbs (col (mR D).1 c))) = ((List.range (mBy D).length).map (col (mR D).1)).map (fun l => strOfNums (kbs l)) from by rw [List.map_map]; rfl]
  have hb : ∀ l ∈ (List.range (mBy D).length).map (col (mR D).1), ∀ x ∈ l, -1 ≤ x ∧ x ≤ 65534 := fun l hl x hx => by
    obtain ⟨c, _, rfl⟩ := List.mem_map.1 hl
    unfold col at hx
    obtain ⟨r, hr, rfl⟩ := List.mem_map.1 hx
    have h5 := (h4 r (by have e : mR D = mRes (mT D) (D.nxt.length + 1) := rfl
                         rw [e, hv.hn] at hr; exact hr)).2
    rw [List.getD_eq_getElem?_getD]
    cases hq : r[c]? with
    | none => simp
    | some y =>
      have h6 := h5 y (List.mem_of_getElem? hq)
      have hle := hv.le
      show -1 ≤ y ∧ y ≤ 65534
      have h7 : ((mRes (tb D (mBy D)) (n + 1)).2.length : Int) ≤ (n : Int) + 1 := by omega
      omega
  exact (Rk.ranks_map _ _ fun x hx y hy e => key_inj (hb x hx) (hb y hy) e).1
theorem OR.block {W : World} {base g n c : Nat} {rv : List (Nat × List Int)} (h : OR W base (.slice (some ⟨g, 0, none⟩) n c) rv) : ∃ cur, W.heap[g]? = some (Obj.cells cur 22 (0, 0)) := by
  rcases h.1.2 with ⟨e, _⟩ | ⟨g', cap, cur, e, hg, hc, h1, h2, h3, h4⟩
  · cases e
  · simp only [Value.slice.injEq, Option.some.injEq, Addr.mk.injEq, and_true, true_and] at e
    obtain ⟨rfl, _, rfl⟩ := e
    exact ⟨cur, hc⟩
/-- The memory of Minimize's last loop. -/
structure MZ (D : Df) (w X3 W : World) (FB g L z2 bc cb zb : Nat) (ka : Option Addr) (kc : Nat) (rv : List (Nat × List Int)) : Prop where
  nx : OR W FB (.slice (some ⟨g, 0, none⟩) L z2) rv
  i1 : IB W bc (zs (mCl D))
  i2 : IB W cb (zs (mCs D))
  i3 : W.ownsRow X3.heap.size 3 1 (.slice ka (mKp D).length kc) (mKp D).length ((zs (mKp D)).map iv)
  i4 : IB W zb ((mR D).2.map fun x => (mT D).ac.getD x 0)
  rb : W.heap[w.heap.size + 1]? = some (Obj.cells #[.slice none 0 0, .slice none 0 0, .slice none 0 0] 25 (0, 0))
  bel : Below w.heap.size w W
theorem MZ.keep {D : Df} {w X3 W W' : World} {FB g L z2 bc cb zb : Nat} {ka : Option Addr} {kc : Nat} {rv : List (Nat × List Int)} (h : MZ D w X3 W FB g L z2 bc cb zb ka kc rv) (hb : Below W.heap.size W W') : MZ D w X3 W' FB g L z2 bc cb zb ka kc rv :=
  ⟨h.nx.keep hb, h.i1.keep hb, h.i2.keep hb, ownsRow_keep h.i3 fun k hk => hb.block k (h.i3.lt k hk).2, h.i4.keep hb, (hb.block _ (heap_lt h.rb)).trans h.rb, h.bel.trans (hb.mono h.bel.size)⟩
theorem MZ.setAt {D : Df} {w X3 W : World} {FB g L z2 bc cb zb : Nat} {ka : Option Addr} {kc : Nat} {rv : List (Nat × List Int)} (h : MZ D w X3 W FB g L z2 bc cb zb ka kc rv) {i b : Nat} {r : List Int} (hn : rv.length = L) (hi : i < L) (hI : IB W b r) (hb : FB ≤ b) (hw : w.heap.size ≤ FB) : MZ D w X3 (W.setCell ⟨g, i, none⟩ (rvv (b, r))) FB g L z2 bc cb zb ka kc (rv.set i (b, r)) := by
  obtain ⟨cur, hc⟩ := h.nx.block
  obtain ⟨s1, _, _, s4⟩ := h.nx.setAt hn hi hI hb
  exact ⟨s1, blk_set h.i1 (ib_ne h.i1 hc (by decide)), blk_set h.i2 (ib_ne h.i2 hc (by decide)), ownsRow_keep h.i3 fun k hk => heap_setCell_other _ _ _ _ fun e => own_ne_block h.i3 hc (by decide) ((show k = g from e) ▸ hk), blk_set h.i4 (ib_ne h.i4 hc (by decide)), blk_set h.rb (fun e => by have h9 := h.rb; rw [show w.heap.size + 1 = g from e, hc] at h9; simp at h9), below_put h.bel (by omega)⟩
theorem mKp_lt (D : Df) : ∀ p ∈ mKp D, p < (mBy D).length := by
  have := (fi_kn ((List.range (mBy D).length).map (col (mR D).1)) (mBy D).length (by simp)).2
  exact this
theorem take_drop_set {α : Type} {A B : List α} {i : Nat} {x : α} (hA : A[i]? = some x) (hl : A.length = B.length) : (A.take i ++ B.drop i).set i x = A.take (i + 1) ++ B.drop (i + 1) := by
  have hil := (List.getElem?_eq_some_iff.1 hA).1
  have ht : (A.take i).length = i := by rw [List.length_take]; omega
  rw [List.set_append, if_neg (by omega), ht, Nat.sub_self, List.drop_eq_getElem_cons (show i < B.length by omega), List.set_cons_zero, List.take_add_one, hA, List.append_assoc]
  rfl
/-- What Minimize returns. -/
def MnRes (w : World) (D : Df) (e : Ending) (w' : World) : Prop := (∃ x1 y1 x2 y2 x3 y3, e = .returned (.agg #[.slice x1 256 y1, .slice x2 (mR D).2.length y2, .slice x3 (mR D).2.length y3]) ∧ DA w' (mini D) x1 256 x2 (mR D).2.length x3 (mR D).2.length) ∧ Below w.heap.size w w'
set_option maxRecDepth 100000 in
set_option maxHeartbeats 8000000 in
theorem minimize_any (w : World) (D : Df) (n k : Nat) (hv : Vd D n k) (a1 : Option Addr) (n1 c1 : Nat) (a2 : Option Addr) (n2 c2 : Nat) (a3 : Option Addr) (n3 c3 : Nat) (h : DA w D a1 n1 a2 n2 a3 n3) :
    Calls Try.prog 14 #[.agg #[.slice a1 n1 c1, .slice a2 n2 c2, .slice a3 n3 c3]] w (MnRes w D) := by
  have hn2 : n = n2 := by have h1 := h.l2; have h2 := hv.hn; omega
  have hn1 : n1 = 256 := by have h1 := h.l1; have h2 := hv.cl; omega
  have hn3 : n = n3 := by have h1 := h.l3; have h2 := hv.al; omega
  subst hn2 hn1 hn3
  have hpos := hv.pos
  have hle := hv.le
  have hVT := vt_tb hv (mBy D) (mBy_lt hv)
  have hRL : (mR D).1.length = (mR D).2.length ∧ 1 ≤ (mR D).2.length ∧ (mR D).2.length ≤ n + 1 ∧ ∀ r ∈ (mR D).1, r.length = (mBy D).length ∧ ∀ x ∈ r, -1 ≤ x ∧ x < (mR D).2.length := by
    have := mRes_len hVT (by omega) (by omega)
    have e : mR D = mRes (mT D) (D.nxt.length + 1) := rfl
    rw [e, hv.hn]; exact this
  obtain ⟨hb1, hb2, hb3⟩ := mBy_len hv
  have HV := hid (And.intro hv (And.intro h (And.intro hVT hRL)))
  have HER := hid (show mR D = mRes (mT D) (n + 1) from by unfold mR; rw [hv.hn])
  clear hb1
  obtain ⟨W, hW⟩ : ∃ W, W = (w.alloc (.cells #[.slice a1 256 c1, .slice a2 n c2, .slice a3 n c3] 25)).alloc (.cells #[.slice none 0 0, .slice none 0 0, .slice none 0 0] 25) := ⟨_, rfl⟩
  have x1 := alloc_new w (.cells #[.slice a1 256 c1, .slice a2 n c2, .slice a3 n c3] 25)
  have hWx : W.heap[w.heap.size]? = some (.cells #[.slice a1 256 c1, .slice a2 n c2, .slice a3 n c3] 25 (0, 0)) ∧ W.heap[w.heap.size + 1]? = some (.cells #[.slice none 0 0, .slice none 0 0, .slice none 0 0] 25 (0, 0)) ∧ Below w.heap.size w W ∧ W.heap.size = w.heap.size + 2 := by
    rw [hW]
    refine ⟨blk_alloc x1, ?_, (bel1 _ _).alloc (by simp) _, by simp⟩
    have := alloc_new (w.alloc (.cells #[.slice a1 256 c1, .slice a2 n c2, .slice a3 n c3] 25)) (.cells #[.slice none 0 0, .slice none 0 0, .slice none 0 0] 25)
    rw [World.size_alloc] at this
    exact this
  clear x1
  have HW := hid hWx
  obtain ⟨d0, d1, d2⟩ := cells3 hWx.1
  have CV := hid (show Calls Try.prog 10 #[.agg #[.slice a1 256 c1, .slice a2 n c2, .slice a3 n c3]] W fun e w' => e = .returned (.bool true) ∧ Below W.heap.size W w' from by
    have := Valid_any W D a1 256 c1 a2 n c2 a3 n c3 (h.below hWx.2.2.1)
    rw [valid_iff.2 ⟨n, k, hv⟩] at this
    exact this)
  clear hWx h hv
  unfold MnRes
  go_enter Try.func14, Try.ntmps14
  go_upto_region 1 with fail
  rw [← hW]
  clear hW
  go_wp2_with fail
  refine CV.out.mono ?_
  rintro e V ⟨rfl, b1⟩
  have HX := hid (And.intro (HW.out.2.2.1.trans (b1.mono HW.out.2.2.1.size)) (And.intro ((b1.block _ (heap_lt HW.out.1)).trans HW.out.1) ((b1.block _ (heap_lt HW.out.2.1)).trans HW.out.2.1)))
  clear b1 CV d0 d1 d2
  obtain ⟨d0, d1, d2⟩ := cells3 HX.out.2.1
  have CR := hid (ranks_any V a1 256 c1 D.cls (HV.out.2.1.cls.below HX.out.1) (by omega) _ rfl)
  go_wp2_with fail
  refine CR.out.mono ?_
  rintro e V2 ⟨⟨bc, rfl, hI, hbc⟩, b2⟩
  have hcl := mCl_len HV.out.1
  rw [zs_len, show Rk.ranks D.cls = mCl D from rfl, hcl]
  have HY := hid (And.intro (HX.out.1.trans (b2.mono HX.out.1.size)) (And.intro ((b2.block _ (heap_lt HX.out.2.1)).trans HX.out.2.1) (And.intro ((b2.block _ (heap_lt HX.out.2.2)).trans HX.out.2.2) (show IB V2 bc (zs (mCl D)) from hI))))
  have hcr := hI.row
  rw [zs_len, show Rk.ranks D.cls = mCl D from rfl, hcl] at hcr
  have CF := hid (fun (X : World) (hX : Below V2.heap.size V2 X) => firsts_any X (some ⟨bc, 0, none⟩) 256 256 (zs (mCl D)) (hcr.below hX) (by omega) (mBy D) rfl)
  clear hI b2 CR d0 d1 d2 hcr
  go_upto_region 4 with fail
  refine region_invB (fun b a' w' => ∃ (v18 v19 v20 v21 v22 v17 v23 v24 v4 v5 : Value), a' = { tmps := #[.agg #[.slice a1 256 c1, .slice a2 n c2, .slice a3 n c3], .pointer (some ⟨w.heap.size, 0, none⟩), .pointer (some ⟨w.heap.size + 1, 0, none⟩), .slice (some ⟨bc, 0, none⟩) 256 256, v4, v5, undef, undef, undef, undef, .agg #[.slice a1 256 c1, .slice a2 n c2, .slice a3 n c3], .bool true, .bool false, undef, .pointer (some ⟨w.heap.size, 0, none⟩), .slice a1 256 c1, .slice (some ⟨bc, 0, none⟩) 256 256, v17, v18, v19, v20, v21, v22, v23, v24, undef, undef, undef, undef, undef, undef, undef, undef, undef, undef, undef, undef, undef, undef, undef, undef, undef, undef, undef, undef, undef, undef, undef, undef, undef], defers := [] } ∧ Below V2.heap.size V2 w' ∧ (b 0 = true → v18 = .agg #[.slice a1 256 c1, .slice a2 n c2, .slice a3 n c3]) ∧ (b 1 = true → v19 = .slice (some ⟨bc, 0, none⟩) 256 256) ∧ (b 2 = true → F2 D w' v20) ∧ (b 3 = true → F3 D n w' v21) ∧ (b 4 = true → F4 D w.heap.size w' v22) ∧ (b 5 = true → v17 = v22) ∧ (b 6 = true → v23 = tup0 v22) ∧ (b 7 = true → v24 = tup1 v22) ∧ (b 8 = true → v4 = tup0 v22) ∧ (b 9 = true → v5 = tup1 v22) ∧ (b 2 = true → b 1 = true) ∧ (b 3 = true → b 0 = true) ∧ (b 3 = true → b 2 = true) ∧ (b 4 = true → b 3 = true) ∧ (b 5 = true → b 4 = true) ∧ (b 6 = true → b 5 = true) ∧ (b 7 = true → b 5 = true) ∧ (b 8 = true → b 6 = true) ∧ (b 9 = true → b 7 = true)) (by kernel_rfl) (bindB_of (by kernel_rfl)) ?step ?done ?init
  case step =>
    rintro b a' w' i o ho ⟨v18, v19, v20, v21, v22, v17, v23, v24, v4, v5, rfl, hk, h0, h1, h2, h3, h4, h5, h6, h7, h8, h9, q2_1, q3_0, q3_2, q4_3, q5_4, q6_5, q7_5, q8_6, q9_7⟩ hbi hd K hK
    have hlt : i < 10 := by have := (Array.getElem?_eq_some_iff.1 ho).1; simpa using this
    have dep : ∀ k, (o.after.any fun e => Region.binds .any e && e.on == k) = true → b k = true := fun k hk => by
      obtain ⟨e, he, h⟩ := Array.any_eq_true'.1 hk
      simp only [Bool.and_eq_true, beq_iff_eq] at h
      rw [← h.2]; exact hd e he h.1
    clear hd
    have hi : i = 0 ∨ i = 1 ∨ i = 2 ∨ i = 3 ∨ i = 4 ∨ i = 5 ∨ i = 6 ∨ i = 7 ∨ i = 8 ∨ i = 9 := by omega
    clear hlt
    rcases hi with rfl | rfl | rfl | rfl | rfl | rfl | rfl | rfl | rfl | rfl
    · simp only [List.getElem?_toArray, List.getElem?_cons_zero, List.getElem?_cons_succ, Option.some.injEq] at ho
      subst ho
      obtain ⟨d0, d1, d2⟩ := cells3 ((hk.block _ (heap_lt HY.out.2.1)).trans HY.out.2.1)
      go_simp
      refine hK.out _ _ ⟨_, _, _, _, _, _, _, _, _, _, rfl, hk, fun _ => rfl, fun h => h1 (by simpa using h), fun h => h2 (by simpa using h), fun h => h3 (by simpa using h), fun h => h4 (by simpa using h), fun h => h5 (by simpa using h), fun h => h6 (by simpa using h), fun h => h7 (by simpa using h), fun h => h8 (by simpa using h), fun h => h9 (by simpa using h), fun h => by simp [q2_1 (by simpa using h)], fun h => by simp [q3_0 (by simpa using h)], fun h => by simp [q3_2 (by simpa using h)], fun h => by simp [q4_3 (by simpa using h)], fun h => by simp [q5_4 (by simpa using h)], fun h => by simp [q6_5 (by simpa using h)], fun h => by simp [q7_5 (by simpa using h)], fun h => by simp [q8_6 (by simpa using h)], fun h => by simp [q9_7 (by simpa using h)]⟩
    · simp only [List.getElem?_toArray, List.getElem?_cons_zero, List.getElem?_cons_succ, Option.some.injEq] at ho
      subst ho
      go_simp
      refine hK.out _ _ ⟨_, _, _, _, _, _, _, _, _, _, rfl, hk, fun h => h0 (by simpa using h), fun _ => rfl, fun h => h2 (by simpa using h), fun h => h3 (by simpa using h), fun h => h4 (by simpa using h), fun h => h5 (by simpa using h), fun h => h6 (by simpa using h), fun h => h7 (by simpa using h), fun h => h8 (by simpa using h), fun h => h9 (by simpa using h), fun h => by simp [q2_1 (by simpa using h)], fun h => by simp [q3_0 (by simpa using h)], fun h => by simp [q3_2 (by simpa using h)], fun h => by simp [q4_3 (by simpa using h)], fun h => by simp [q5_4 (by simpa using h)], fun h => by simp [q6_5 (by simpa using h)], fun h => by simp [q7_5 (by simpa using h)], fun h => by simp [q8_6 (by simpa using h)], fun h => by simp [q9_7 (by simpa using h)]⟩
    · simp only [List.getElem?_toArray, List.getElem?_cons_zero, List.getElem?_cons_succ, Option.some.injEq] at ho
      subst ho
      have e_1 := dep 1 (by kernel_rfl)
      obtain rfl := h1 e_1
      have CC := hid (CF.out _ hk)
      go_simp
      refine CC.out.mono ?_
      rintro e W5 ⟨⟨fa, fc, rfl, fr⟩, b5⟩
      refine hK.out _ _ ⟨_, _, _, _, _, _, _, _, _, _, rfl, hk.trans (b5.mono hk.size), fun h => h0 (by simpa using h), fun _ => rfl, fun _ => ⟨fa, fc, rfl, fr⟩, fun h => F3.keep (h3 (by simpa using h)) b5, fun h => F4.keep (h4 (by simpa using h)) b5, fun h => h5 (by simpa using h), fun h => h6 (by simpa using h), fun h => h7 (by simpa using h), fun h => h8 (by simpa using h), fun h => h9 (by simpa using h), fun _ => by simp [e_1], fun h => by simp [q3_0 (by simpa using h)], fun h => by simp [q3_2 (by simpa using h)], fun h => by simp [q4_3 (by simpa using h)], fun h => by simp [q5_4 (by simpa using h)], fun h => by simp [q6_5 (by simpa using h)], fun h => by simp [q7_5 (by simpa using h)], fun h => by simp [q8_6 (by simpa using h)], fun h => by simp [q9_7 (by simpa using h)]⟩
    · simp only [List.getElem?_toArray, List.getElem?_cons_zero, List.getElem?_cons_succ, Option.some.injEq] at ho
      subst ho
      have e_0 := dep 0 (by kernel_rfl)
      have e_2 := dep 2 (by kernel_rfl)
      have e_1 := q2_1 e_2
      obtain rfl := h0 e_0
      obtain rfl := h1 e_1
      have f2 := h2 e_2
      obtain ⟨fa, fc, rfl, fr⟩ := f2
      have CC := hid (newTable_any w' D n k HV.out.1 a1 256 c1 a2 n c2 a3 n c3 (HV.out.2.1.below (HY.out.1.trans (hk.mono HY.out.1.size))) fa (mBy D).length fc (mBy D) fr hb3 hb2 (mBy_lt HV.out.1))
      go_simp
      refine CC.out.mono ?_
      rintro e W5 ⟨⟨x1, y1, x2, y2, rfl, r1, r2⟩, b5⟩
      refine hK.out _ _ ⟨_, _, _, _, _, _, _, _, _, _, rfl, hk.trans (b5.mono hk.size), fun _ => rfl, fun _ => rfl, fun _ => ⟨fa, fc, rfl, fr.below b5⟩, fun _ => ⟨x1, y1, x2, y2, rfl, r1, r2⟩, fun h => F4.keep (h4 (by simpa using h)) b5, fun h => h5 (by simpa using h), fun h => h6 (by simpa using h), fun h => h7 (by simpa using h), fun h => h8 (by simpa using h), fun h => h9 (by simpa using h), fun h => by simp [q2_1 (by simpa using h)], fun _ => by simp [e_0], fun _ => by simp [e_2], fun h => by simp [q4_3 (by simpa using h)], fun h => by simp [q5_4 (by simpa using h)], fun h => by simp [q6_5 (by simpa using h)], fun h => by simp [q7_5 (by simpa using h)], fun h => by simp [q8_6 (by simpa using h)], fun h => by simp [q9_7 (by simpa using h)]⟩
    · simp only [List.getElem?_toArray, List.getElem?_cons_zero, List.getElem?_cons_succ, Option.some.injEq] at ho
      subst ho
      have e_3 := dep 3 (by kernel_rfl)
      have e_0 := q3_0 e_3
      have e_2 := q3_2 e_3
      have e_1 := q2_1 e_2
      obtain rfl := h0 e_0
      obtain rfl := h1 e_1
      have f3 := h3 e_3
      obtain ⟨x1, y1, x2, y2, rfl, r1, r2⟩ := f3
      have CC := merge_any w' x1 (n + 1) y1 x2 y2 (mT D) (mBy D).length HV.out.2.2.1 r1 r2 (by omega) (by omega) hb2
      rw [← HER.out] at CC
      have CC := hid CC
      go_simp
      refine CC.out.mono ?_
      rintro e W5 ⟨⟨FB, z1, z2, rv, zb, rfl, t1, t2, t3, t4, t5⟩, b5⟩
      refine hK.out _ _ ⟨_, _, _, _, _, _, _, _, _, _, rfl, hk.trans (b5.mono hk.size), fun _ => rfl, fun _ => rfl, fun h => F2.keep (h2 (by simpa using h)) b5, fun _ => ⟨x1, y1, x2, y2, rfl, r1.below b5, r2.below b5⟩, fun _ => ⟨FB, z1, z2, rv, zb, rfl, t1, t2, t3, Nat.le_trans (Nat.le_trans HY.out.1.size hk.size) t4, Nat.le_trans (Nat.le_trans HY.out.1.size hk.size) t5⟩, fun h => absurd (q5_4 (by simpa using h)) (by simp [hbi]), fun h => absurd (q5_4 (q6_5 (by simpa using h))) (by simp [hbi]), fun h => absurd (q5_4 (q7_5 (by simpa using h))) (by simp [hbi]), fun h => absurd (q5_4 (q6_5 (q8_6 (by simpa using h)))) (by simp [hbi]), fun h => absurd (q5_4 (q7_5 (q9_7 (by simpa using h)))) (by simp [hbi]), fun h => by simp [q2_1 (by simpa using h)], fun h => by simp [q3_0 (by simpa using h)], fun h => by simp [q3_2 (by simpa using h)], fun _ => by simp [e_3], fun h => by simp [q5_4 (by simpa using h)], fun h => by simp [q6_5 (by simpa using h)], fun h => by simp [q7_5 (by simpa using h)], fun h => by simp [q8_6 (by simpa using h)], fun h => by simp [q9_7 (by simpa using h)]⟩
    · simp only [List.getElem?_toArray, List.getElem?_cons_zero, List.getElem?_cons_succ, Option.some.injEq] at ho
      subst ho
      have e_4 := dep 4 (by kernel_rfl)
      have e_3 := q4_3 e_4
      have e_0 := q3_0 e_3
      have e_2 := q3_2 e_3
      have e_1 := q2_1 e_2
      obtain rfl := h0 e_0
      obtain rfl := h1 e_1
      go_simp
      refine hK.out _ _ ⟨_, _, _, _, _, _, _, _, _, _, rfl, hk, fun _ => rfl, fun _ => rfl, fun h => h2 (by simpa using h), fun h => h3 (by simpa using h), fun h => h4 (by simpa using h), fun _ => rfl, fun h => h6 (by simpa using h), fun h => h7 (by simpa using h), fun h => h8 (by simpa using h), fun h => h9 (by simpa using h), fun h => by simp [q2_1 (by simpa using h)], fun h => by simp [q3_0 (by simpa using h)], fun h => by simp [q3_2 (by simpa using h)], fun h => by simp [q4_3 (by simpa using h)], fun _ => by simp [e_4], fun h => by simp [q6_5 (by simpa using h)], fun h => by simp [q7_5 (by simpa using h)], fun h => by simp [q8_6 (by simpa using h)], fun h => by simp [q9_7 (by simpa using h)]⟩
    · simp only [List.getElem?_toArray, List.getElem?_cons_zero, List.getElem?_cons_succ, Option.some.injEq] at ho
      subst ho
      have e_5 := dep 5 (by kernel_rfl)
      have e_4 := q5_4 e_5
      have e_3 := q4_3 e_4
      have e_0 := q3_0 e_3
      have e_2 := q3_2 e_3
      have e_1 := q2_1 e_2
      obtain rfl := h0 e_0
      obtain rfl := h1 e_1
      obtain ⟨FB, z1, z2, rv, zb, rfl, t1, t2, t3, t4, t5⟩ := h4 (q5_4 e_5)
      obtain rfl := h5 e_5
      go_simp
      refine hK.out _ _ ⟨_, _, _, _, _, _, _, _, _, _, rfl, hk, fun _ => rfl, fun _ => rfl, fun h => h2 (by simpa using h), fun h => h3 (by simpa using h), fun _ => ⟨FB, z1, z2, rv, zb, rfl, t1, t2, t3, t4, t5⟩, fun _ => rfl, fun _ => rfl, fun h => h7 (by simpa using h), fun h => h8 (by simpa using h), fun h => h9 (by simpa using h), fun h => by simp [q2_1 (by simpa using h)], fun h => by simp [q3_0 (by simpa using h)], fun h => by simp [q3_2 (by simpa using h)], fun h => by simp [q4_3 (by simpa using h)], fun h => by simp [q5_4 (by simpa using h)], fun _ => by simp [e_5], fun h => by simp [q7_5 (by simpa using h)], fun h => by simp [q8_6 (by simpa using h)], fun h => by simp [q9_7 (by simpa using h)]⟩
    · simp only [List.getElem?_toArray, List.getElem?_cons_zero, List.getElem?_cons_succ, Option.some.injEq] at ho
      subst ho
      have e_5 := dep 5 (by kernel_rfl)
      have e_4 := q5_4 e_5
      have e_3 := q4_3 e_4
      have e_0 := q3_0 e_3
      have e_2 := q3_2 e_3
      have e_1 := q2_1 e_2
      obtain rfl := h0 e_0
      obtain rfl := h1 e_1
      obtain ⟨FB, z1, z2, rv, zb, rfl, t1, t2, t3, t4, t5⟩ := h4 (q5_4 e_5)
      obtain rfl := h5 e_5
      go_simp
      refine hK.out _ _ ⟨_, _, _, _, _, _, _, _, _, _, rfl, hk, fun _ => rfl, fun _ => rfl, fun h => h2 (by simpa using h), fun h => h3 (by simpa using h), fun _ => ⟨FB, z1, z2, rv, zb, rfl, t1, t2, t3, t4, t5⟩, fun _ => rfl, fun h => h6 (by simpa using h), fun _ => rfl, fun h => h8 (by simpa using h), fun h => h9 (by simpa using h), fun h => by simp [q2_1 (by simpa using h)], fun h => by simp [q3_0 (by simpa using h)], fun h => by simp [q3_2 (by simpa using h)], fun h => by simp [q4_3 (by simpa using h)], fun h => by simp [q5_4 (by simpa using h)], fun h => by simp [q6_5 (by simpa using h)], fun _ => by simp [e_5], fun h => by simp [q8_6 (by simpa using h)], fun h => by simp [q9_7 (by simpa using h)]⟩
    · simp only [List.getElem?_toArray, List.getElem?_cons_zero, List.getElem?_cons_succ, Option.some.injEq] at ho
      subst ho
      have e_6 := dep 6 (by kernel_rfl)
      have e_5 := q6_5 e_6
      have e_4 := q5_4 e_5
      have e_3 := q4_3 e_4
      have e_0 := q3_0 e_3
      have e_2 := q3_2 e_3
      have e_1 := q2_1 e_2
      obtain rfl := h0 e_0
      obtain rfl := h1 e_1
      go_simp
      refine hK.out _ _ ⟨_, _, _, _, _, _, _, _, _, _, rfl, hk, fun _ => rfl, fun _ => rfl, fun h => h2 (by simpa using h), fun h => h3 (by simpa using h), fun h => h4 (by simpa using h), fun _ => rfl, fun _ => rfl, fun h => h7 (by simpa using h), fun _ => rfl, fun h => h9 (by simpa using h), fun h => by simp [q2_1 (by simpa using h)], fun h => by simp [q3_0 (by simpa using h)], fun h => by simp [q3_2 (by simpa using h)], fun h => by simp [q4_3 (by simpa using h)], fun h => by simp [q5_4 (by simpa using h)], fun h => by simp [q6_5 (by simpa using h)], fun h => by simp [q7_5 (by simpa using h)], fun _ => by simp [e_6], fun h => by simp [q9_7 (by simpa using h)]⟩
    · simp only [List.getElem?_toArray, List.getElem?_cons_zero, List.getElem?_cons_succ, Option.some.injEq] at ho
      subst ho
      have e_7 := dep 7 (by kernel_rfl)
      have e_5 := q7_5 e_7
      have e_4 := q5_4 e_5
      have e_3 := q4_3 e_4
      have e_0 := q3_0 e_3
      have e_2 := q3_2 e_3
      have e_1 := q2_1 e_2
      obtain rfl := h0 e_0
      obtain rfl := h1 e_1
      go_simp
      refine hK.out _ _ ⟨_, _, _, _, _, _, _, _, _, _, rfl, hk, fun _ => rfl, fun _ => rfl, fun h => h2 (by simpa using h), fun h => h3 (by simpa using h), fun h => h4 (by simpa using h), fun _ => rfl, fun h => h6 (by simpa using h), fun _ => rfl, fun h => h8 (by simpa using h), fun _ => rfl, fun h => by simp [q2_1 (by simpa using h)], fun h => by simp [q3_0 (by simpa using h)], fun h => by simp [q3_2 (by simpa using h)], fun h => by simp [q4_3 (by simpa using h)], fun h => by simp [q5_4 (by simpa using h)], fun h => by simp [q6_5 (by simpa using h)], fun h => by simp [q7_5 (by simpa using h)], fun h => by simp [q8_6 (by simpa using h)], fun _ => by simp [e_7]⟩
  case done =>
    rintro b a' w' ⟨v18, v19, v20, v21, v22, v17, v23, v24, v4, v5, rfl, hk, h0, h1, h2, h3, h4, h5, h6, h7, h8, h9, q2_1, q3_0, q3_2, q4_3, q5_4, q6_5, q7_5, q8_6, q9_7⟩ hall
    obtain rfl := h0 (hall 0)
    obtain rfl := h1 (hall 1)
    obtain ⟨f2a, f2c, rfl, f2r⟩ := h2 (hall 2)
    obtain ⟨x1, y1, x2, y2, rfl, r1, r2⟩ := h3 (hall 3)
    obtain ⟨FB, z1, z2, rv, zb, e22, t1, t2, t3, t4, t5⟩ := h4 (hall 4)
    subst e22
    have e8 : v4 = .slice z1 rv.length z2 := h8 (hall 8)
    have e9 : v5 = .slice (some ⟨zb, 0, none⟩) (mR D).2.length (mR D).2.length := h9 (hall 9)
    subst e8 e9
    have HO := hid (And.intro t1 (And.intro t2 (And.intro t3 (And.intro t4 (And.intro t5 hk)))))
    clear h0 h1 h2 h3 h4 h5 h6 h7 h8 h9 hall t1 t2 t3 t4 t5 hk r1 r2 f2r
    obtain ⟨X, hX⟩ : ∃ X, X = w' := ⟨_, rfl⟩
    rw [← hX] at HO ⊢
    clear hX
    obtain ⟨hr1, hr2, hr3, hr4⟩ := HV.out.2.2.2
    have hrl : rv.length = (mR D).2.length := by have := congrArg List.length HO.out.2.1; rw [List.length_map, hr1] at this; exact this
    obtain ⟨L, hL⟩ : ∃ L, L = (mR D).2.length := ⟨_, rfl⟩
    have hOR : OR X FB (.slice z1 L z2) rv := by have := HO.out.1; rw [hrl, ← hL] at this; exact this
    rw [hrl, ← hL]
    rw [← hL] at hrl hr1 hr2 hr3
    have HLL := hid hL
    obtain ⟨g, hg⟩ : ∃ g, z1 = some ⟨g, 0, none⟩ := by
      rcases hOR.1.2 with ⟨e, _⟩ | ⟨g, cap, cur, e, _⟩
      · simp at e; omega
      · simp at e; exact ⟨g, e.1⟩
    subst hg
    obtain ⟨p1, p2, hse, hR2⟩ := hOR.rows2 (fun p hp => by
      have h9 : p.2 ∈ rv.map (·.2) := List.mem_map.2 ⟨p, hp, rfl⟩
      rw [HO.out.2.1] at h9
      rw [(hr4 _ h9).1]; omega)
    rw [HO.out.2.1, hrl] at hR2
    rw [hrl] at hse
    simp only [Value.slice.injEq, true_and] at hse
    obtain ⟨rfl, rfl⟩ := hse
    have HOR := hid hOR
    have HR4 := hid hr4
    have HR1 := hid hr1
    obtain ⟨M, hM⟩ : ∃ M, M = (mBy D).length := ⟨_, rfl⟩
    have HM := hid hM
    have hb2' : M ≤ 256 := by omega
    have hb3' : 1 ≤ M := by omega
    have CC := columns_any X (some ⟨g, 0, none⟩) L z2 (mR D).1 M hR2 (by omega) (by omega) (by omega) (fun r hr => by rw [hM]; exact (hr4 r hr).1) _ rfl
    have hcl2 : ((List.range M).map fun c => strOfNums (kbs (col (mR D).1 c))).length = M := by simp
    have CC := hid CC
    have HRL := hid hrl
    have hsc := strs_col HV.out.1
    rw [← hM] at hsc
    have HSC := hid hsc
    clear hL hM hR2 hOR hr4 hr1 hsc hrl
    go_wp2_with fail
    refine CC.out.mono ?_
    rintro e X2 ⟨⟨gb, rfl, hS, hgb⟩, bX2⟩
    rw [hcl2]
    have hSr := hS.row
    rw [hcl2] at hSr
    have C2 := hid (ranksS_any X2 (some ⟨gb, 0, none⟩) M M _ hSr (by omega) _ rfl)
    rw [HSC.out] at C2
    have HX2 := hid bX2
    have hmc : (zs (mCs D)).length = M := by rw [zs_len, ← HSC.out, Rk.ranks_length]; exact hcl2
    clear hS hSr CC hcl2 bX2
    go_wp2_with fail
    refine C2.out.mono ?_
    rintro e X3 ⟨⟨cb, rfl, hI3, hcb⟩, bX3⟩
    rw [hmc]
    have hI3r := hI3.row
    rw [hmc] at hI3r
    have HX3 := hid (And.intro (HX2.out.trans (bX3.mono HX2.out.size)) hI3)
    have C3 := firsts_own X3 (some ⟨cb, 0, none⟩) M M (zs (mCs D)) hI3r (by omega) (mKp D) (by rw [HM.out]; rfl)
    have C3 := hid C3
    clear hI3 hI3r C2 bX3
    go_wp2_with fail
    refine C3.out.mono ?_
    rintro e X4 ⟨⟨ka, kc, rfl, hK⟩, bX4⟩
    have HX4 := hid (And.intro (HX3.out.1.trans (bX4.mono HX3.out.1.size)) (And.intro (HX3.out.2.keep bX4) hK))
    obtain ⟨K, hKl⟩ : ∃ K, K = (mKp D).length := ⟨_, rfl⟩
    have hK1 : K ≤ 1000000 := by rw [hKl]; unfold mKp; have := fi_len (zs (mCs D)) (mBy D).length; omega
    have HKL := hid hKl
    rw [← hKl]
    have HZ0 := hid (show MZ D w X3 X4 FB g L z2 bc cb zb ka kc rv from by
      have hb : Below X.heap.size X X4 := HX4.out.1
      refine ⟨HOR.out.keep hb, HY.out.2.2.2.keep (HO.out.2.2.2.2.2.trans (hb.mono HO.out.2.2.2.2.2.size)), HX4.out.2.1, HX4.out.2.2, HO.out.2.2.1.keep hb, ?_, (HY.out.1.trans (HO.out.2.2.2.2.2.mono HY.out.1.size)).trans (hb.mono (Nat.le_trans HY.out.1.size HO.out.2.2.2.2.2.size))⟩
      have hbx := HO.out.2.2.2.2.2.trans (hb.mono HO.out.2.2.2.2.2.size)
      exact (hbx.block _ (heap_lt HY.out.2.2.1)).trans HY.out.2.2.1)
    clear hK bX4 C3 hKl
    go_wp2_with fail
    obtain ⟨G, hG⟩ : ∃ G, G = fun r : List Int => (mKp D).map fun p => r.getD p 0 := ⟨_, rfl⟩
    have HG := hid hG
    clear hG
    go_loopg [32] L (fun kk s32 wr => ∃ (i : Nat) (rv' : List (Nat × List Int)), s32 = .int .i64 (i : Int) ∧ i + kk = L ∧ MZ D w X3 wr FB g L z2 bc cb zb ka kc rv' ∧ rv'.map (·.2) = ((mR D).1.map G).take i ++ (mR D).1.drop i)
    case atStart => exact ⟨0, rv, rfl, by omega, HZ0.out, by rw [HO.out.2.1]; simp⟩
    case round =>
      obtain ⟨i, rv', rfl, hk, hZ, hrv⟩ := hrel
      have hl' : rv'.length = L := by
        have := congrArg List.length hrv
        rw [List.length_map, List.length_append, List.length_take, List.length_map, List.length_drop, HR1.out] at this
        omega
      have HZ := hid (And.intro hZ (And.intro hrv hl'))
      by_cases hlt : i < L
      · have hlt' : (i : Int) < (L : Int) := by omega
        have hi0 : (0 : Int) ≤ (i : Int) := by omega
        have hi1 : IntKind.i64.wrap ((i : Int) + 1) = (i : Int) + 1 := wrapIn (by omega) (by omega)
        obtain ⟨r, hr⟩ : ∃ r, (mR D).1[i]? = some r := ⟨_, List.getElem?_eq_getElem (by rw [HR1.out]; exact hlt)⟩
        have hq : rv'[i]? = some (rv'[i]'(by omega)) := List.getElem?_eq_getElem _
        obtain ⟨⟨qb, qr⟩, hqe⟩ : ∃ q, q = rv'[i]'(by omega) := ⟨_, rfl⟩
        rw [← hqe] at hq
        have hqr : qr = r := by
          have h9 := congrArg (fun l => l[i]?) hrv
          simp only [List.getElem?_map, hq, Option.map_some] at h9
          rw [List.getElem?_append_right (by rw [List.length_take]; omega), List.length_take, List.length_map, HR1.out, Nat.min_eq_left (by omega), Nat.sub_self, List.getElem?_drop, Nat.add_zero, hr] at h9
          exact Option.some.inj h9
        subst hqr
        have hrM : qr.length = M := by rw [HM.out]; exact (HR4.out qr (List.mem_of_getElem? hr)).1
        have hIq := (hZ.nx.2 _ (List.mem_of_getElem? hq)).1
        obtain ⟨pa, pb_, pc_, hcl0⟩ := hZ.nx.setAt hl' hlt hIq (hZ.nx.2 _ (List.mem_of_getElem? hq)).2
        have h0n := hZ.nx.1
        rw [hl'] at h0n
        have hrow := own_row' h0n
        obtain ⟨og, oo, e9, _, hx9⟩ := hrow.2.resolve_left (by omega)
        simp only [Option.some.injEq, Addr.mk.injEq, and_true] at e9
        obtain ⟨rfl, rfl⟩ := e9
        have hc9 := hx9 i (rvv (qb, qr)) (by rw [List.getElem?_map, hq]; rfl)
        unfold rvv at hc9
        rw [show (qb, qr).2.length = M from hrM, Nat.zero_add] at hc9
        have hIr := hIq.row
        rw [show (qb, qr).2.length = M from hrM] at hIr
        have hKr := own_row' hZ.i3
        have CK := pick_any wr (some ⟨qb, 0, none⟩) M M qr ka (mKp D).length kc (mKp D) hIr hKr (by omega) (by have := HKL.out; omega) (fun x hx => by rw [HM.out]; exact mKp_lt D x hx) (G qr) (by rw [HG.out])
        rw [← HKL.out] at CK
        have CK := hid CK
        have hGl : (G qr).length = K := by rw [HG.out, HKL.out, List.length_map]
        have HGL := hid hGl
        have HR := hid hr
        clear hZ hrv hr hq hqe hIq pa pb_ pc_ hcl0 hx9 hIr hKr hrow hGl h0n
        go_wp2_with fail
        refine CK.out.mono ?_
        rintro e Y ⟨⟨nb, rfl, hIn, hnb⟩, hbY⟩
        rw [HGL.out]
        have hZY := HZ.out.1.keep hbY
        have hFn : FB ≤ nb := by have h8 := HZ.out.1.nx.1.lt g rfl; omega
        obtain ⟨gs, ⟨gx1, gx2, gx3, gx⟩, gf, gl⟩ := hZY.nx.setAt HZ.out.2.2 hlt hIn hFn
        have hN := hZY.setAt HZ.out.2.2 hlt hIn hFn HO.out.2.2.2.1
        have hvv : rvv (nb, G qr) = .slice (some ⟨nb, 0, none⟩) K K := by unfold rvv; rw [show (nb, G qr).2.length = K from HGL.out]
        rw [hvv] at hN
        have HN := hid (show MZ D w X3 (Y.setCell ⟨g, i, none⟩ (.slice (some ⟨nb, 0, none⟩) K K)) FB g L z2 bc cb zb ka kc (rv'.set i (nb, G qr)) ∧ (rv'.set i (nb, G qr)).map (·.2) = ((mR D).1.map G).take (i + 1) ++ (mR D).1.drop (i + 1) from ⟨hN, by
          rw [List.map_set, HZ.out.2.1]
          exact take_drop_set (by rw [List.getElem?_map, HR.out]; rfl) (by simp)⟩)
        clear hZY gs gl hN hIn hvv hbY CK
        go_wp2_with fail
        go_roundg (gk - 1)
        case measure => omega
        case rel => exact ⟨i + 1, _, by go_num, by omega, HN.out.1, HN.out.2⟩
      · have hlt' : ¬ (i : Int) < (L : Int) := by omega
        obtain rfl : i = L := by omega
        have h5 := HZ.out.1.i2.row
        rw [hmc] at h5
        have h6 := HZ.out.1.i1.row
        rw [zs_len, hcl] at h6
        have CP := hid (pick_any wr (some ⟨cb, 0, none⟩) M M (zs (mCs D)) (some ⟨bc, 0, none⟩) 256 256 (mCl D) h5 h6 (by omega) (by omega) (fun x hx => by rw [HM.out]; exact mCl_lt HV.out.1 x hx) (mini D).cls rfl)
        have hml : (mini D).cls.length = 256 := by unfold mini; rw [List.length_map, hcl]
        have HML := hid hml
        clear hZ hrv h5 h6 hml
        go_wp2_with fail
        refine CP.out.mono ?_
        rintro e Y ⟨⟨nb, rfl, hIn, hnb⟩, hbY⟩
        rw [HML.out]
        have HY2 := hid (HZ.out.1.keep hbY)
        have HIN := hid hIn
        have hrb := HY2.out.rb
        obtain ⟨f0, f1, f2⟩ : Y.frozen? ⟨w.heap.size + 1, 0, none⟩ = false ∧ Y.frozen? ⟨w.heap.size + 1, 1, none⟩ = false ∧ Y.frozen? ⟨w.heap.size + 1, 2, none⟩ = false := ⟨Go.Frame.free hrb 0, Go.Frame.free hrb 1, Go.Frame.free hrb 2⟩
        obtain ⟨d0, d1, d2⟩ := cells3 hrb
        have R1 := blk_put (k := 0) (v := .slice (some ⟨nb, 0, none⟩) 256 256) hrb
        have R2 := blk_put (k := 1) (v := .slice (some ⟨g, 0, none⟩) i z2) R1
        have R3 := blk_put (k := 2) (v := .slice (some ⟨zb, 0, none⟩) i i) R2
        have O3 := ((HY2.out.nx.put (j := 0) (u := .slice (some ⟨nb, 0, none⟩) 256 256) hrb (by decide) (.inl (by decide))).put (j := 1) (u := .slice (some ⟨g, 0, none⟩) i z2) R1 (by decide) (.inl (by decide))).put (j := 2) (u := .slice (some ⟨zb, 0, none⟩) i i) R2 (by decide) (.inl (by decide))
        have Ix : ∀ k l, IB Y k l → IB (((Y.setCell ⟨w.heap.size + 1, 0, none⟩ (.slice (some ⟨nb, 0, none⟩) 256 256)).setCell ⟨w.heap.size + 1, 1, none⟩ (.slice (some ⟨g, 0, none⟩) i z2)).setCell ⟨w.heap.size + 1, 2, none⟩ (.slice (some ⟨zb, 0, none⟩) i i)) k l := fun k l hk => by
          have hne := ib_ne hk hrb (by decide)
          exact blk_set (blk_set (blk_set hk hne) hne) hne
        obtain ⟨s0, s1, s2⟩ := cells3 (R3.trans rfl)
        have hBel : Below w.heap.size w (((Y.setCell ⟨w.heap.size + 1, 0, none⟩ (.slice (some ⟨nb, 0, none⟩) 256 256)).setCell ⟨w.heap.size + 1, 1, none⟩ (.slice (some ⟨g, 0, none⟩) i z2)).setCell ⟨w.heap.size + 1, 2, none⟩ (.slice (some ⟨zb, 0, none⟩) i i)) := below_put (below_put (below_put HY2.out.bel (by omega)) (by omega)) (by omega)
        have HDA := hid (show DA (((Y.setCell ⟨w.heap.size + 1, 0, none⟩ (.slice (some ⟨nb, 0, none⟩) 256 256)).setCell ⟨w.heap.size + 1, 1, none⟩ (.slice (some ⟨g, 0, none⟩) i z2)).setCell ⟨w.heap.size + 1, 2, none⟩ (.slice (some ⟨zb, 0, none⟩) i i)) (mini D) (some ⟨nb, 0, none⟩) 256 (some ⟨g, 0, none⟩) i (some ⟨zb, 0, none⟩) i ∧ Below w.heap.size w (((Y.setCell ⟨w.heap.size + 1, 0, none⟩ (.slice (some ⟨nb, 0, none⟩) 256 256)).setCell ⟨w.heap.size + 1, 1, none⟩ (.slice (some ⟨g, 0, none⟩) i z2)).setCell ⟨w.heap.size + 1, 2, none⟩ (.slice (some ⟨zb, 0, none⟩) i i)) from by
          refine ⟨?_, hBel⟩
          have hnx : rv'.map (·.2) = (mini D).nxt := by
            have h9 := HZ.out.2.1
            rw [List.drop_of_length_le (by rw [HR1.out]; exact Nat.le_refl _), List.append_nil, List.take_of_length_le (by rw [List.length_map, HR1.out]; exact Nat.le_refl _), HG.out] at h9
            exact h9
          obtain ⟨p1, p2, hse, hR⟩ := O3.rows2 (fun p hp => by
            have h9 : p.2 ∈ rv'.map (·.2) := List.mem_map.2 ⟨p, hp, rfl⟩
            rw [hnx] at h9
            obtain ⟨r9, _, e9⟩ := List.mem_map.1 h9
            rw [← e9, List.length_map, ← HKL.out]; exact hK1)
          rw [HZ.out.2.2] at hse hR
          simp only [Value.slice.injEq, true_and] at hse
          obtain ⟨rfl, rfl⟩ := hse
          rw [hnx] at hR
          have r1 := (Ix _ _ HIN.out).row
          rw [HML.out] at r1
          have r2 := (Ix _ _ HY2.out.i4).row
          rw [List.length_map, ← HLL.out] at r2
          refine ⟨r1, hR, r2, by omega, by omega, by omega, fun x hx => ?_⟩
          obtain ⟨q, _, rfl⟩ := List.mem_map.1 hx
          rw [List.getD_eq_getElem?_getD]
          cases hq : (mT D).ac[q]? with
          | none => simp
          | some y =>
            have hy : y ∈ D.acc ++ [-1] := List.mem_of_getElem? hq
            rcases List.mem_append.1 hy with hy | hy
            · exact HV.out.2.1.mx y hy
            · simp only [List.mem_singleton] at hy
              subst hy
              show (-1 : Int) ≤ _
              omega)
        clear hrb hIn hbY CP R1 R2 R3 O3 Ix hBel
        go_wp2_with fail
        refine bodyPost_ret (v := .agg #[.slice (some ⟨nb, 0, none⟩) 256 256, .slice (some ⟨g, 0, none⟩) i z2, .slice (some ⟨zb, 0, none⟩) i i]) ?_ rfl ⟨⟨_, 256, _, z2, _, i, by rw [← HLL.out], by rw [← HLL.out]; exact HDA.out.1⟩, HDA.out.2⟩
        simp [results, Try.results14, go_sem, s0, s1, s2]
  case init =>
    exact ⟨_, _, _, _, _, _, _, _, _, _, rfl, (Below.refl _ _).drew, fun h => absurd h (by simp), fun h => absurd h (by simp), fun h => absurd h (by simp), fun h => absurd h (by simp), fun h => absurd h (by simp), fun h => absurd h (by simp), fun h => absurd h (by simp), fun h => absurd h (by simp), fun h => absurd h (by simp), fun h => absurd h (by simp), fun h => absurd h (by simp), fun h => absurd h (by simp), fun h => absurd h (by simp), fun h => absurd h (by simp), fun h => absurd h (by simp), fun h => absurd h (by simp), fun h => absurd h (by simp), fun h => absurd h (by simp), fun h => absurd h (by simp)⟩
end Go.Proofs.Ytelbagaiijffdaa
