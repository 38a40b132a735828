/-
  Contracts: the reference's group and Format.
-/
import Derived.Test.YtednoideboeehaaDoorZ25
import Derived.Test.YtednoideboeehaaDoorZ24
import Derived.Test.YtednoideboeehaaDoorZ12
import Derived.Deep.Cut
section
set_option linter.unusedSimpArgs false
set_option linter.unusedVariables false
namespace Go.Proofs.YtednoideboeehaaDoor
open Go.RowKit Bs Rg Go.Frame
attribute [local go_sem] eq_zero eq_set

theorem bsz (l : List UInt8) : (⟨l.toArray⟩ : ByteArray).size = l.length := by show l.toArray.size = _; simp
set_option maxRecDepth 100000 in
set_option maxHeartbeats 4000000 in
theorem group_any (g : Nat → Prop) (x : Rx) (p : Bool) (w : World) (cs : List Value) (hl : (fmt x).length ≤ 1000000000) (IH : ∀ (w : World) (cs : List Value), RC g w x cs → Calls Tryd.prog 22 #[.agg cs.toArray] w fun e w' => e = .returned (.string ⟨(fmt x).toArray⟩) ∧ Below w.heap.size w w') (h : RC g w x cs) :
    Calls Tryd.prog 43 #[.agg cs.toArray, .bool p] w fun e w' => e = .returned (.string ⟨(grp p (fmt x)).toArray⟩) ∧ Below w.heap.size w w' := by
  obtain ⟨k, s, l⟩ := x
  obtain ⟨a, n, c, rfl, hK⟩ := RC_mk.1 h
  have CF := hid (fun V (hV : Below w.heap.size w V) => IH V _ (RC_mk.2 ⟨a, n, c, rfl, hK.below hV⟩))
  obtain ⟨F, hF⟩ : ∃ F, F = fmt (.mk k s l) := ⟨_, rfl⟩
  rw [← hF] at CF hl ⊢
  obtain ⟨Q, hQ⟩ : ∃ Q : ByteArray, Q = ⟨F.toArray⟩ := ⟨_, rfl⟩
  rw [← hQ] at CF
  have hQs : Q.size ≤ 1000000000 := by rw [hQ, bsz]; exact hl
  have n1 : ¬ 9223372036854775807 < 1 + Q.size := by omega
  have n2 : ¬ 9223372036854775807 < 1 + Q.size + 1 := by omega
  have B0 := hid (bel1 w (.cells #[.int .i64 k, .int .u64 (ws s 0 : Int), .int .u64 (ws s 1 : Int), .int .u64 (ws s 2 : Int), .int .u64 (ws s 3 : Int), .slice a n c] 27))
  have x0 := alloc_new w (.cells #[.int .i64 k, .int .u64 (ws s 0 : Int), .int .u64 (ws s 1 : Int), .int .u64 (ws s 2 : Int), .int .u64 (ws s 3 : Int), .slice a n c] 27)
  obtain ⟨c0, c1, c2, c3, c4, c5⟩ := cells6 x0
  have HQ := hid hQ
  clear hK h IH hF hQ hQs hl x0
  show Calls Tryd.prog 43 #[.agg #[.int .i64 k, .int .u64 (ws s 0 : Int), .int .u64 (ws s 1 : Int), .int .u64 (ws s 2 : Int), .int .u64 (ws s 3 : Int), .slice a n c], .bool p] w _
  cases p
  · go_enter Tryd.func43, Tryd.ntmps43
    go_wp2_with fail
    refine (CF.out _ B0.out).mono ?_
    rintro e V ⟨rfl, b1⟩
    go_wp2
    go_ret
    exact ⟨by rw [HQ.out]; rfl, B0.out.trans (b1.mono B0.out.size)⟩
  · go_enter Tryd.func43, Tryd.ntmps43
    go_wp2_with fail
    refine (CF.out _ B0.out).mono ?_
    rintro e V ⟨rfl, b1⟩
    go_wp2
    go_ret
    refine ⟨?_, B0.out.trans (b1.mono B0.out.size)⟩
    show Ending.returned (.string ({ data := #[40] } ++ Q ++ { data := #[41] })) = _
    congr 2
    apply ByteArray.ext
    rw [HQ.out]
    simp [grp]
/-- What stands behind the kids up to i. -/
theorem fmtC_drop {l : List Rx} {i : Nat} {x : Rx} (h : l[i]? = some x) : fmtC (l.drop i) = grp (x.k == 4 || x.k == 5) (fmt x) ++ fmtC (l.drop (i + 1)) := by rw [drop_here h, fmtC_cons]
theorem fmtV_drop {l : List Rx} {i : Nat} {x : Rx} (h : l[i]? = some x) : fmtV (l.drop i) = 124 :: (grp (x.k == 5) (fmt x) ++ fmtV (l.drop (i + 1))) := by rw [drop_here h, fmtV_cons]
theorem fmtU_zero {l : List Rx} {x : Rx} (h : l[0]? = some x) : fmtU l = grp (x.k == 5) (fmt x) ++ fmtV (l.drop 1) := by
  have := drop_here h
  rw [List.drop_zero] at this
  conv => lhs; rw [this]
  rw [fmtU_cons]
theorem grp_len (p : Bool) (l : List UInt8) : (grp p l).length ≤ l.length + 2 := by unfold grp; split <;> simp
set_option maxRecDepth 100000 in
set_option maxHeartbeats 4000000 in
theorem rFormat_2 (g : Nat → Prop) (s : BS) (l : List Rx) (w : World) (cs : List Value) (hv : Vd (.mk 2 s l)) (hp : prt (.mk 2 s l) = true) (hlen : (fmt (.mk 2 s l)).length ≤ 100000000) (h : RC g w (.mk 2 s l) cs) :
    Calls Tryd.prog 22 #[.agg cs.toArray] w fun e w' => e = .returned (.string ⟨(fmt (.mk 2 s l)).toArray⟩) ∧ Below w.heap.size w w' := by
  obtain ⟨a, n, c, rfl, hK⟩ := RC_mk.1 h
  show Calls Tryd.prog 22 #[.agg #[.int .i64 2, .int .u64 (ws s 0 : Int), .int .u64 (ws s 1 : Int), .int .u64 (ws s 2 : Int), .int .u64 (ws s 3 : Int), .slice a n c]] w _
  obtain ⟨W, hW⟩ : ∃ W, W = w.alloc (.cells #[.int .i64 2, .int .u64 (ws s 0 : Int), .int .u64 (ws s 1 : Int), .int .u64 (ws s 2 : Int), .int .u64 (ws s 3 : Int), .slice a n c] 27) := ⟨_, rfl⟩
  have HX := hid (show W.heap[w.heap.size]? = some (.cells #[.int .i64 2, .int .u64 (ws s 0 : Int), .int .u64 (ws s 1 : Int), .int .u64 (ws s 2 : Int), .int .u64 (ws s 3 : Int), .slice a n c] 27 (0, 0)) ∧ Below w.heap.size w W from by rw [hW]; exact ⟨alloc_new _ _, bel1 _ _⟩)
  obtain ⟨c0, c1, c2, c3, c4, c5⟩ := cells6 (hW ▸ HX.out.1)
  have F := hid (show fmt (.mk 2 s l) = [40, 41] by rw [fmt_mk]; rfl)
  clear hK h
  go_enter Tryd.func22, Tryd.ntmps22
  go_wp2
  go_ret
  exact ⟨by rw [F.out]; rfl, hW ▸ HX.out.2⟩
set_option maxRecDepth 100000 in
set_option maxHeartbeats 4000000 in
theorem rFormat_3 (g : Nat → Prop) (s : BS) (l : List Rx) (w : World) (cs : List Value) (hv : Vd (.mk 3 s l)) (hp : prt (.mk 3 s l) = true) (hlen : (fmt (.mk 3 s l)).length ≤ 100000000) (h : RC g w (.mk 3 s l) cs) :
    Calls Tryd.prog 22 #[.agg cs.toArray] w fun e w' => e = .returned (.string ⟨(fmt (.mk 3 s l)).toArray⟩) ∧ Below w.heap.size w w' := by
  obtain ⟨a, n, c, rfl, hK⟩ := RC_mk.1 h
  show Calls Tryd.prog 22 #[.agg #[.int .i64 3, .int .u64 (ws s 0 : Int), .int .u64 (ws s 1 : Int), .int .u64 (ws s 2 : Int), .int .u64 (ws s 3 : Int), .slice a n c]] w _
  obtain ⟨W, hW⟩ : ∃ W, W = w.alloc (.cells #[.int .i64 3, .int .u64 (ws s 0 : Int), .int .u64 (ws s 1 : Int), .int .u64 (ws s 2 : Int), .int .u64 (ws s 3 : Int), .slice a n c] 27) := ⟨_, rfl⟩
  have HX := hid (show W.heap[w.heap.size]? = some (.cells #[.int .i64 3, .int .u64 (ws s 0 : Int), .int .u64 (ws s 1 : Int), .int .u64 (ws s 2 : Int), .int .u64 (ws s 3 : Int), .slice a n c] 27 (0, 0)) ∧ Below w.heap.size w W from by rw [hW]; exact ⟨alloc_new _ _, bel1 _ _⟩)
  obtain ⟨c0, c1, c2, c3, c4, c5⟩ := cells6 (hW ▸ HX.out.1)
  have F := hid (show fmt (.mk 3 s l) = fmtS s by rw [fmt_mk]; rfl)
  rw [prt_mk] at hp
  simp only [show ¬ ((3 : Int) = 1) by omega, if_false, if_true] at hp
  have CS := hid (fun V => rset_any s V hp)
  clear hK h hp hv
  go_enter Tryd.func22, Tryd.ntmps22
  go_wp2_with fail
  rw [← hW]
  refine (CS.out _).mono ?_
  rintro e V ⟨rfl, b1⟩
  go_wp2
  go_ret
  exact ⟨by rw [F.out]; rfl, HX.out.2.trans (b1.mono HX.out.2.size)⟩
set_option maxRecDepth 100000 in
set_option maxHeartbeats 4000000 in
theorem rFormat_6 (g : Nat → Prop) (s : BS) (l : List Rx) (w : World) (cs : List Value) (hv : Vd (.mk 6 s l)) (hp : prt (.mk 6 s l) = true) (hlen : (fmt (.mk 6 s l)).length ≤ 100000000) (IH : ∀ x ∈ l, ∀ (w : World) (cs : List Value), RC g w x cs → Calls Tryd.prog 22 #[.agg cs.toArray] w fun e w' => e = .returned (.string ⟨(fmt x).toArray⟩) ∧ Below w.heap.size w w') (hkl : ∀ x ∈ l, (fmt x).length ≤ 100000000) (h : RC g w (.mk 6 s l) cs) :
    Calls Tryd.prog 22 #[.agg cs.toArray] w fun e w' => e = .returned (.string ⟨(fmt (.mk 6 s l)).toArray⟩) ∧ Below w.heap.size w w' := by
  obtain ⟨a, n, c, rfl, hK⟩ := RC_mk.1 h
  show Calls Tryd.prog 22 #[.agg #[.int .i64 6, .int .u64 (ws s 0 : Int), .int .u64 (ws s 1 : Int), .int .u64 (ws s 2 : Int), .int .u64 (ws s 3 : Int), .slice a n c]] w _
  obtain ⟨W, hW⟩ : ∃ W, W = w.alloc (.cells #[.int .i64 6, .int .u64 (ws s 0 : Int), .int .u64 (ws s 1 : Int), .int .u64 (ws s 2 : Int), .int .u64 (ws s 3 : Int), .slice a n c] 27) := ⟨_, rfl⟩
  have HX := hid (show W.heap[w.heap.size]? = some (.cells #[.int .i64 6, .int .u64 (ws s 0 : Int), .int .u64 (ws s 1 : Int), .int .u64 (ws s 2 : Int), .int .u64 (ws s 3 : Int), .slice a n c] 27 (0, 0)) ∧ Below w.heap.size w W from by rw [hW]; exact ⟨alloc_new _ _, bel1 _ _⟩)
  obtain ⟨c0, c1, c2, c3, c4, c5⟩ := cells6 (hW ▸ HX.out.1)
  have hn1 : l.length = 1 := shaped_star hv.shaped
  obtain rfl : n = 1 := by rw [← hK.len]; exact hn1
  obtain ⟨x, hx1⟩ := one_of hn1
  have HF := hid (And.intro hK True.intro)
  obtain ⟨b, off, k', s', l', a', n', c', rfl, _, hb, hx, hK', q0, q1, q2, q3, q4, q5⟩ := (hK.below HX.out.2).get (i := 0) (by omega)
  have hmem := List.mem_of_getElem? hx
  obtain ⟨g3, hg3⟩ : ∃ g3, g3 = !(k' == 3) := ⟨_, rfl⟩
  have CG := hid (fun V (hV : Below W.heap.size W V) => show Calls Tryd.prog 43 #[.agg #[.int .i64 k', .int .u64 (ws s' 0 : Int), .int .u64 (ws s' 1 : Int), .int .u64 (ws s' 2 : Int), .int .u64 (ws s' 3 : Int), .slice a' n' c'], .bool g3] V fun e w' => e = .returned (.string ⟨(grp g3 (fmt (.mk k' s' l'))).toArray⟩) ∧ Below V.heap.size V w' from group_any g (.mk k' s' l') g3 V _ (by have := hkl _ hmem; omega) (IH _ hmem) (RC_mk.2 ⟨a', n', c', rfl, hK'.below hV⟩))
  have F := hid (show fmt (.mk 6 s l) = grp g3 (fmt (.mk k' s' l')) ++ [42] by
    rw [fmt_mk]
    simp only [show ¬ ((6 : Int) = 2) by omega, show ¬ ((6 : Int) = 3) by omega, show ¬ ((6 : Int) = 4) by omega, show ¬ ((6 : Int) = 5) by omega, if_false, if_true]
    rw [hx1] at hx ⊢
    simp at hx
    rw [hx, fmtK, hg3]; rfl)
  obtain ⟨Q, hQ⟩ : ∃ Q : ByteArray, Q = ⟨(grp g3 (fmt (.mk k' s' l'))).toArray⟩ := ⟨_, rfl⟩
  have hQs : Q.size ≤ 1000000000 := by rw [hQ, bsz]; have := grp_len g3 (fmt (.mk k' s' l')); have := hkl _ hmem; omega
  rw [← hQ] at CG
  have n1 : ¬ 9223372036854775807 < Q.size + 1 := by omega
  have HQ := hid (And.intro hQ True.intro)
  simp only [Nat.zero_mul, Nat.add_zero] at q0 q1 q2 q3 q4 q5
  have K1 := hid (fun V (hV : Below W.heap.size W V) => (show V.cell? ⟨w.heap.size, 5, none⟩ = some (.slice (some ⟨b, off, none⟩) 1 c) ∧ V.cell? ⟨b, off, none⟩ = some (.int .i64 k') ∧ V.cell? ⟨b, off + 1, none⟩ = some (.int .u64 (ws s' 0 : Int)) ∧ V.cell? ⟨b, off + 2, none⟩ = some (.int .u64 (ws s' 1 : Int)) ∧ V.cell? ⟨b, off + 3, none⟩ = some (.int .u64 (ws s' 2 : Int)) ∧ V.cell? ⟨b, off + 4, none⟩ = some (.int .u64 (ws s' 3 : Int)) ∧ V.cell? ⟨b, off + 5, none⟩ = some (.slice a' n' c') from
    ⟨(cells6 ((hV.block _ (heap_lt HX.out.1)).trans HX.out.1)).2.2.2.2.2, (World.cell?_of_block (a := ⟨b, off, none⟩) (hV.block _ hb)).trans q0, (World.cell?_of_block (a := ⟨b, off + 1, none⟩) (hV.block _ hb)).trans q1, (World.cell?_of_block (a := ⟨b, off + 2, none⟩) (hV.block _ hb)).trans q2, (World.cell?_of_block (a := ⟨b, off + 3, none⟩) (hV.block _ hb)).trans q3, (World.cell?_of_block (a := ⟨b, off + 4, none⟩) (hV.block _ hb)).trans q4, (World.cell?_of_block (a := ⟨b, off + 5, none⟩) (hV.block _ hb)).trans q5⟩))
  clear hx1 hx hK' hmem hQ hQs hkl IH hK h hp hv q0 q1 q2 q3 q4 q5 hn1 hlen
  cases h3 : (k' == 3)
  all_goals
    rw [h3] at hg3
    have h3' := h3
    rw [← Bool.not_inj_iff] at h3'
    change (k' != 3) = _ at h3'
    simp only [Bool.not_false, Bool.not_true] at h3' hg3
    subst hg3
    go_enter Tryd.func22, Tryd.ntmps22
    go_wp2_with fail
    rw [← hW]
    clear c0 c1 c2 c3 c4 c5
    refine wp_region_below (by kernel_rfl) (by kernel_rfl) ?_
    intro X' f _ hf hs
    have k0 := fun x => (K1.out _ (hf.out x)).1
    have k1 := fun x => (K1.out _ (hf.out x)).2.1
    have k2 := fun x => (K1.out _ (hf.out x)).2.2.1
    have k3 := fun x => (K1.out _ (hf.out x)).2.2.2.1
    have k4 := fun x => (K1.out _ (hf.out x)).2.2.2.2.1
    have k5 := fun x => (K1.out _ (hf.out x)).2.2.2.2.2.1
    have k6 := fun x => (K1.out _ (hf.out x)).2.2.2.2.2.2
    repeat (go_big_quiet_step (first
      | (go_at_call 43; with_reducible exact calls_below hf hs (CG.out _ (hf.out _)))))
    refine wpQuiet_nil ?_
    intro w' hw'
    clear k0 k1 k2 k3 k4 k5 k6 hf hs
    go_wp2
    go_ret
    refine ⟨?_, HX.out.2.trans (hw'.mono HX.out.2.size)⟩
    rw [F.out]
    show Ending.returned (.string (Q ++ { data := #[42] })) = _
    congr 2
    apply ByteArray.ext
    rw [HQ.out.1]
    simp
set_option maxRecDepth 100000 in
set_option maxHeartbeats 4000000 in
theorem rFormat_4 (g : Nat → Prop) (s : BS) (l : List Rx) (w : World) (cs : List Value) (hv : Vd (.mk 4 s l)) (hp : prt (.mk 4 s l) = true) (hlen : (fmt (.mk 4 s l)).length ≤ 100000000) (IH : ∀ x ∈ l, ∀ (w : World) (cs : List Value), RC g w x cs → Calls Tryd.prog 22 #[.agg cs.toArray] w fun e w' => e = .returned (.string ⟨(fmt x).toArray⟩) ∧ Below w.heap.size w w') (hkl : ∀ x ∈ l, (fmt x).length ≤ 100000000) (h : RC g w (.mk 4 s l) cs) :
    Calls Tryd.prog 22 #[.agg cs.toArray] w fun e w' => e = .returned (.string ⟨(fmt (.mk 4 s l)).toArray⟩) ∧ Below w.heap.size w w' := by
  obtain ⟨a, n, c, rfl, hK⟩ := RC_mk.1 h
  show Calls Tryd.prog 22 #[.agg #[.int .i64 4, .int .u64 (ws s 0 : Int), .int .u64 (ws s 1 : Int), .int .u64 (ws s 2 : Int), .int .u64 (ws s 3 : Int), .slice a n c]] w _
  obtain ⟨W, hW⟩ : ∃ W, W = w.alloc (.cells #[.int .i64 4, .int .u64 (ws s 0 : Int), .int .u64 (ws s 1 : Int), .int .u64 (ws s 2 : Int), .int .u64 (ws s 3 : Int), .slice a n c] 27) := ⟨_, rfl⟩
  have HX := hid (show W.heap[w.heap.size]? = some (.cells #[.int .i64 4, .int .u64 (ws s 0 : Int), .int .u64 (ws s 1 : Int), .int .u64 (ws s 2 : Int), .int .u64 (ws s 3 : Int), .slice a n c] 27 (0, 0)) ∧ Below w.heap.size w W from by rw [hW]; exact ⟨alloc_new _ _, bel1 _ _⟩)
  obtain ⟨c0, c1, c2, c3, c4, c5⟩ := cells6 (hW ▸ HX.out.1)
  have F := hid (show fmt (.mk 4 s l) = fmtC l by rw [fmt_mk]; rfl)
  have HF := hid (And.intro hK True.intro)
  have hln := hid hK.len
  have hnl := hK.lt
  have HI := hid (And.intro IH hkl)
  rw [F.out] at hlen
  have HL := hid hlen
  have h2n : 2 ≤ n := by rw [← hln.out]; exact shaped_two hv.shaped (.inl rfl)
  clear hK h hp hv IH hkl hlen
  go_enter Tryd.func22, Tryd.ntmps22
  go_wp2_with fail
  rw [← hW]
  clear hW c0 c1 c2 c3 c4 c5
  go_loopg [3, 4] n (fun kk s3 s4 wr => ∃ (i : Nat) (S : ByteArray), s3 = .string S ∧ s4 = .int .i64 (i : Int) ∧ i + kk = n ∧ S.data.toList ++ fmtC (l.drop i) = fmtC l ∧ wr.heap[w.heap.size]? = some (.cells #[.int .i64 4, .int .u64 (ws s 0 : Int), .int .u64 (ws s 1 : Int), .int .u64 (ws s 2 : Int), .int .u64 (ws s 3 : Int), .slice a n c] 27 (0, 0)) ∧ Below w.heap.size w wr)
  case atStart => exact ⟨0, ⟨#[]⟩, rfl, rfl, by omega, by simp, HX.out.1, HX.out.2⟩
  case round =>
    obtain ⟨i, S, rfl, rfl, hk, hSE, hbx, hbw⟩ := hrel
    by_cases hlt : i < n
    · have hlt' : (i : Int) < (n : Int) := by omega
      obtain ⟨b, off, k', s', l', a', n', c', rfl, _, hb, hx, hK', q0, q1, q2, q3, q4, q5⟩ := ((HF.out.1.below hbw).get (i := i) hlt)
      obtain ⟨c0, c1, c2, c3, c4, c5⟩ := cells6 hbx
      have hmem := List.mem_of_getElem? hx
      obtain ⟨p, hp⟩ : ∃ p, p = (k' == 5 || k' == 4) := ⟨_, rfl⟩
      have CG := hid (fun V (hV : Below wr.heap.size wr V) => group_any g (.mk k' s' l') p V _ (by have := HI.out.2 _ hmem; omega) (HI.out.1 _ hmem) (RC_mk.2 ⟨a', n', c', rfl, hK'.below hV⟩))
      obtain ⟨Q, hQ⟩ : ∃ Q : ByteArray, Q = ⟨(grp p (fmt (.mk k' s' l'))).toArray⟩ := ⟨_, rfl⟩
      rw [← hQ] at CG
      have hQs : Q.size ≤ 1000000000 := by rw [hQ, bsz]; have := grp_len p (fmt (.mk k' s' l')); have := HI.out.2 _ hmem; omega
      have hSs : S.size ≤ 100000000 := by
        have h1 := congrArg List.length hSE
        rw [List.length_append, size_len] at h1
        have := HL.out; omega
      have n1 : ¬ 9223372036854775807 < S.size + Q.size := by omega
      have n2 : ¬ 9223372036854775807 < S.size + 1 := by omega
      have n3 : ¬ 9223372036854775807 < S.size + 1 + Q.size := by omega
      have B0 := hid (Below.refl wr.heap.size wr)
      have HQ := hid (And.intro hQ (And.intro hp (And.intro hx (And.intro hSE (And.intro hbx hbw)))))
      clear hQ hx hSE hbx hbw hQs hSs hK' hmem
      cases h5 : (k' == 5)
      all_goals
        cases h4 : (k' == 4)
        all_goals
          have hp2 := hp
          rw [h5, h4] at hp2
          simp only [Bool.or_false, Bool.or_true, Bool.false_or] at hp2
          subst hp2
          have HH := hid (And.intro h5 h4)
          clear hp
          go_wp2_with fail
          refine (CG.out _ B0.out).mono ?_
          rintro e V ⟨rfl, b1⟩
          have B1 := hid b1
          clear b1
          go_wp2
          go_roundg (gk - 1)
          case measure => omega
          case rel =>
            obtain ⟨r1, r2, r3, r4, r5, r6⟩ := HQ.out
            refine ⟨i + 1, S ++ Q, rfl, by go_num, by omega, ?_, (B1.out.block _ (heap_lt r5)).trans r5, r6.trans (B1.out.mono r6.size)⟩
            rw [← r4, fmtC_drop r3, r1]
            have : ((Rx.mk k' s' l').k == 4 || (Rx.mk k' s' l').k == 5) = (k' == 5 || k' == 4) := Bool.or_comm _ _
            rw [this, ← r2]
            simp
    · have hin : ¬ (i : Int) < (n : Int) := by omega
      obtain ⟨c0, c1, c2, c3, c4, c5⟩ := cells6 hbx
      have HA := hid (And.intro hSE hbw)
      have HN := hid h2n
      clear hSE hbx hbw h2n
      go_wp2
      go_ret
      refine ⟨?_, HA.out.2⟩
      have h1 := HA.out.1
      have hdn : l.drop i = [] := List.drop_eq_nil_of_le (by have := hln.out; omega)
      rw [hdn, fmtC, List.append_nil] at h1
      rw [F.out, ← h1]; rfl
set_option maxRecDepth 100000 in
set_option maxHeartbeats 4000000 in
theorem rFormat_5 (g : Nat → Prop) (s : BS) (l : List Rx) (w : World) (cs : List Value) (hv : Vd (.mk 5 s l)) (hp : prt (.mk 5 s l) = true) (hlen : (fmt (.mk 5 s l)).length ≤ 100000000) (IH : ∀ x ∈ l, ∀ (w : World) (cs : List Value), RC g w x cs → Calls Tryd.prog 22 #[.agg cs.toArray] w fun e w' => e = .returned (.string ⟨(fmt x).toArray⟩) ∧ Below w.heap.size w w') (hkl : ∀ x ∈ l, (fmt x).length ≤ 100000000) (h : RC g w (.mk 5 s l) cs) :
    Calls Tryd.prog 22 #[.agg cs.toArray] w fun e w' => e = .returned (.string ⟨(fmt (.mk 5 s l)).toArray⟩) ∧ Below w.heap.size w w' := by
  obtain ⟨a, n, c, rfl, hK⟩ := RC_mk.1 h
  show Calls Tryd.prog 22 #[.agg #[.int .i64 5, .int .u64 (ws s 0 : Int), .int .u64 (ws s 1 : Int), .int .u64 (ws s 2 : Int), .int .u64 (ws s 3 : Int), .slice a n c]] w _
  obtain ⟨W, hW⟩ : ∃ W, W = w.alloc (.cells #[.int .i64 5, .int .u64 (ws s 0 : Int), .int .u64 (ws s 1 : Int), .int .u64 (ws s 2 : Int), .int .u64 (ws s 3 : Int), .slice a n c] 27) := ⟨_, rfl⟩
  have HX := hid (show W.heap[w.heap.size]? = some (.cells #[.int .i64 5, .int .u64 (ws s 0 : Int), .int .u64 (ws s 1 : Int), .int .u64 (ws s 2 : Int), .int .u64 (ws s 3 : Int), .slice a n c] 27 (0, 0)) ∧ Below w.heap.size w W from by rw [hW]; exact ⟨alloc_new _ _, bel1 _ _⟩)
  obtain ⟨c0, c1, c2, c3, c4, c5⟩ := cells6 (hW ▸ HX.out.1)
  have F := hid (show fmt (.mk 5 s l) = fmtU l by rw [fmt_mk]; rfl)
  have HF := hid (And.intro hK True.intro)
  have hln := hid hK.len
  have hnl := hK.lt
  have HI := hid (And.intro IH hkl)
  rw [F.out] at hlen
  have HL := hid hlen
  have h2n : 2 ≤ n := by rw [← hln.out]; exact shaped_two hv.shaped (.inr rfl)
  clear hK h hp hv IH hkl hlen
  go_enter Tryd.func22, Tryd.ntmps22
  go_wp2_with fail
  rw [← hW]
  clear hW c0 c1 c2 c3 c4 c5
  go_loopg [3, 4] n (fun kk s3 s4 wr => ∃ (i : Nat) (S : ByteArray), s3 = .string S ∧ s4 = .int .i64 (i : Int) ∧ i + kk = n ∧ S.data.toList ++ (if i = 0 then fmtU l else fmtV (l.drop i)) = fmtU l ∧ wr.heap[w.heap.size]? = some (.cells #[.int .i64 5, .int .u64 (ws s 0 : Int), .int .u64 (ws s 1 : Int), .int .u64 (ws s 2 : Int), .int .u64 (ws s 3 : Int), .slice a n c] 27 (0, 0)) ∧ Below w.heap.size w wr)
  case atStart => exact ⟨0, ⟨#[]⟩, rfl, rfl, by omega, by simp, HX.out.1, HX.out.2⟩
  case round =>
    obtain ⟨i, S, rfl, rfl, hk, hSE, hbx, hbw⟩ := hrel
    by_cases hlt : i < n
    · have hlt' : (i : Int) < (n : Int) := by omega
      obtain ⟨b, off, k', s', l', a', n', c', rfl, _, hb, hx, hK', q0, q1, q2, q3, q4, q5⟩ := ((HF.out.1.below hbw).get (i := i) hlt)
      obtain ⟨c0, c1, c2, c3, c4, c5⟩ := cells6 hbx
      have hmem := List.mem_of_getElem? hx
      obtain ⟨p, hp⟩ : ∃ p, p = (k' == 5) := ⟨_, rfl⟩
      have CG := hid (fun V (hV : Below wr.heap.size wr V) => group_any g (.mk k' s' l') p V _ (by have := HI.out.2 _ hmem; omega) (HI.out.1 _ hmem) (RC_mk.2 ⟨a', n', c', rfl, hK'.below hV⟩))
      obtain ⟨Q, hQ⟩ : ∃ Q : ByteArray, Q = ⟨(grp p (fmt (.mk k' s' l'))).toArray⟩ := ⟨_, rfl⟩
      rw [← hQ] at CG
      have hQs : Q.size ≤ 1000000000 := by rw [hQ, bsz]; have := grp_len p (fmt (.mk k' s' l')); have := HI.out.2 _ hmem; omega
      have hSs : S.size ≤ 100000000 := by
        have h1 := congrArg List.length hSE
        rw [List.length_append, size_len] at h1
        have := HL.out; omega
      have n1 : ¬ 9223372036854775807 < S.size + Q.size := by omega
      have n2 : ¬ 9223372036854775807 < S.size + 1 := by omega
      have n3 : ¬ 9223372036854775807 < S.size + 1 + Q.size := by omega
      have B0 := hid (Below.refl wr.heap.size wr)
      rcases Nat.eq_zero_or_pos i with hi | hi
      · subst hi
        have HQ := hid (And.intro hQ (And.intro hp (And.intro hx (And.intro hSE (And.intro hbx hbw)))))
        clear hQ hx hSE hbx hbw hQs hSs hK' hmem
        have hp2 : (k' == 5) = p := hp.symm
        clear hp
        simp only [Nat.zero_mul, Nat.add_zero] at q0 q1 q2 q3 q4 q5
        go_wp2_with fail
        refine (CG.out _ B0.out).mono ?_
        rintro e V ⟨rfl, b1⟩
        have B1 := hid b1
        clear b1
        go_wp2
        go_roundg (gk - 1)
        case measure => omega
        case rel =>
          obtain ⟨r1, r2, r3, r4, r5, r6⟩ := HQ.out
          refine ⟨0 + 1, S ++ Q, rfl, by go_num, by omega, ?_, (B1.out.block _ (heap_lt r5)).trans r5, r6.trans (B1.out.mono r6.size)⟩
          have r4' : S.data.toList = [] := by simpa using r4
          rw [if_neg (by omega), fmtU_zero r3, r1]
          have : ((Rx.mk k' s' l').k == 5) = p := r2.symm
          rw [this]
          simp [r4']
      · have hi' : (0 : Int) < (i : Int) := by omega
        have HQ := hid (And.intro hQ (And.intro hp (And.intro hx (And.intro hSE (And.intro hbx (And.intro hbw hi))))))
        clear hQ hx hSE hbx hbw hQs hSs hK' hmem
        have hp2 : (k' == 5) = p := hp.symm
        clear hp
        go_wp2_with fail
        refine (CG.out _ B0.out).mono ?_
        rintro e V ⟨rfl, b1⟩
        have B1 := hid b1
        clear b1
        go_wp2
        go_roundg (gk - 1)
        case measure => omega
        case rel =>
          obtain ⟨r1, r2, r3, r4, r5, r6, r7⟩ := HQ.out
          refine ⟨i + 1, S ++ { data := #[124] } ++ Q, rfl, by go_num, by omega, ?_, (B1.out.block _ (heap_lt r5)).trans r5, r6.trans (B1.out.mono r6.size)⟩
          rw [← r4, if_neg (by omega), if_neg (by omega), fmtV_drop r3, r1]
          have : ((Rx.mk k' s' l').k == 5) = p := r2.symm
          rw [this]
          simp
    · have hin : ¬ (i : Int) < (n : Int) := by omega
      obtain ⟨c0, c1, c2, c3, c4, c5⟩ := cells6 hbx
      have HA := hid (And.intro hSE hbw)
      have HN := hid h2n
      clear hSE hbx hbw h2n
      go_wp2
      go_ret
      refine ⟨?_, HA.out.2⟩
      have h1 := HA.out.1
      have hdn : l.drop i = [] := List.drop_eq_nil_of_le (by have := hln.out; omega)
      rw [if_neg (by have := HN.out; omega), hdn, fmtV, List.append_nil] at h1
      rw [F.out, ← h1]; rfl
theorem parts_kid {k : Int} {s : BS} {l : List Rx} {x : Rx} (hx : x ∈ l) : parts x ≤ parts (.mk k s l) := by
  rw [parts]; have := parts_mem hx; omega
theorem rFormat_any (g : Nat → Prop) (r : Rx) : Vd r → prt r = true → parts r ≤ 1000 → ∀ (w : World) (cs : List Value), RC g w r cs → Calls Tryd.prog 22 #[.agg cs.toArray] w fun e w' => e = .returned (.string ⟨(fmt r).toArray⟩) ∧ Below w.heap.size w w' := by
  induction r using Rx.ind with
  | h k s l ih =>
    intro hv hp hn w cs h
    have hl : ∀ x, parts x ≤ 1000 → (fmt x).length ≤ 100000000 := fun x hx => by have := fmt_len x; omega
    have hsh := hv.shaped
    have hkp : ∀ x ∈ l, parts x ≤ 1000 := fun x hx => Nat.le_trans (parts_kid hx) hn
    have key : k ≠ 1 → k ≠ 3 → ∀ x ∈ l, ∀ (w : World) (cs : List Value), RC g w x cs → Calls Tryd.prog 22 #[.agg cs.toArray] w fun e w' => e = .returned (.string ⟨(fmt x).toArray⟩) ∧ Below w.heap.size w w' := fun h1 h3 x hx => ih x hx (hv.kid hx) (by
      rw [prt_mk, if_neg h1, if_neg h3, prtL_iff] at hp
      exact hp x hx) (hkp x hx)
    rcases shaped_kind hsh with rfl | rfl | rfl | rfl | rfl | rfl
    · rw [prt_mk, if_pos rfl] at hp; cases hp
    · exact rFormat_2 g s l w cs hv hp (hl _ hn) h
    · exact rFormat_3 g s l w cs hv hp (hl _ hn) h
    · exact rFormat_4 g s l w cs hv hp (hl _ hn) (key (by omega) (by omega)) (fun x hx => hl x (hkp x hx)) h
    · exact rFormat_5 g s l w cs hv hp (hl _ hn) (key (by omega) (by omega)) (fun x hx => hl x (hkp x hx)) h
    · exact rFormat_6 g s l w cs hv hp (hl _ hn) (key (by omega) (by omega)) (fun x hx => hl x (hkp x hx)) h
end Go.Proofs.YtednoideboeehaaDoor
end
