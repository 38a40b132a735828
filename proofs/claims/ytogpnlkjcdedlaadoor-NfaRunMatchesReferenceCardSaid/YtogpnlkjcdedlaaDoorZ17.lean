/-
  Contract: the reference's Valid.
  DERIVED: THE SHELF's CONTRACTS AT THIS DUMP, IN PLAIN WORDS (tools/lay-plain.mjs out of 'TrydShelf.lean', which tools/lay-shelf.mjs wrote): THE SAME DECLARATIONS UNDER THE SAME NAMES: 'import', 'namespace', 'open', 'def', 'theorem' AND NOTHING ELSE: no command of the shelf's: FOR A HAND-IN. Each laying: the table of numbers ('.._ren') and one theorem, a field a fact of the dump's own or the kernel's comparison; each contract: ONE APPLICATION.
  Contracts: a copy of the arcs, and its sort.
  Contract: arcsByFrom, whatever the arcs' order.
-/
import Derived.Test.YtogpnlkjcdedlaaDoorZ04
import Derived.Shelf.SlGeneric
import Derived.Shelf.SlSortCmp.WholeK
import Derived.Shelf.SlicesE.Clone
import Derived.Ground.SlsfProg
import Derived.Ground.SlgnProg
import Derived.Test.YtogpnlkjcdedlaaDoorProg
import Derived.Test.YtogpnlkjcdedlaaDoorZ06
import Derived.Test.YtogpnlkjcdedlaaDoorZ14
section
set_option linter.unusedSimpArgs false
set_option linter.unusedVariables false
namespace Go.Proofs.YtogpnlkjcdedlaaDoor
open Go.RowKit Bs Rg Nf Go.Frame
attribute [local go_sem] eq_zero eq_set

theorem valid_def (n st : Int) (arcs : List Arc) (acc : List Int) (k : Nat) (hk : acc.length = k) : valid ⟨n, st, arcs, acc⟩ = (decide (1 ≤ n) && decide (n ≤ 2000) && isS n st && arcs.all (arcOk n) && decide ((k : Int) = n) && acc.all fun x => decide (-1 ≤ x)) := by rw [← hk]; rfl
theorem arc_no {k f t : Int} {e : Bool} {s : BS} (h : f < 0 ∨ k ≤ f ∨ t < 0 ∨ k ≤ t) : arcOk k ⟨f, t, e, s⟩ = false := by
  rw [← Bool.not_eq_true, arcOk_iff]
  rintro ⟨⟨h1, h2⟩, ⟨h3, h4⟩, _⟩
  simp only at h1 h2 h3 h4
  omega
set_option maxRecDepth 100000 in
set_option maxHeartbeats 4000000 in
theorem RValid_any (w : World) (N : Nfa) (a1 a2 : Option Addr) (m c1 k c2 : Nat) (h : NA w N a1 m a2 k) :
    Calls Tryd.prog 13 #[.agg #[.int .i64 N.n, .int .i64 N.st, .slice a1 m c1, .slice a2 k c2]] w fun r w' => r = .returned (.bool (valid N)) ∧ Below w.heap.size w w' := by
  obtain ⟨n, st, arcs, acc⟩ := N
  have hlk := h.lk
  have hlm := h.lm
  simp only at hlk hlm
  have hkb := h.hk
  have hmb := h.hm
  obtain ⟨W, hW⟩ : ∃ W, W = w.alloc (.cells #[.int .i64 n, .int .i64 st, .slice a1 m c1, .slice a2 k c2] 25) := ⟨_, rfl⟩
  have HB := hid (show Below w.heap.size w W from by rw [hW]; exact bel1 _ _)
  have HW := hid (show W.heap[w.heap.size]? = some (.cells #[.int .i64 n, .int .i64 st, .slice a1 m c1, .slice a2 k c2] 25 (0, 0)) from by rw [hW]; exact alloc_new _ _)
  have H := hid (h.below HB.out)
  clear h
  obtain ⟨q, hq⟩ : ∃ q, q = valid ⟨n, st, arcs, acc⟩ := ⟨_, rfl⟩
  rw [← hq]
  rw [valid_def n st arcs acc k hlk] at hq
  have hq' := hid hq
  have HL := hid (And.intro hlk hlm)
  clear hq hlk hlm
  obtain ⟨d0, d1, d2, d3⟩ := cells4 HW.out
  go_enter Tryd.func13, Tryd.ntmps13
  go_upto_region 1 with fail
  rw [← hW]
  clear hW
  by_cases g1 : n < 1
  · go_wp2
    go_ret
    exact ⟨by rw [hq'.out, decide_eq_false (by omega : ¬ 1 ≤ n)]; simp, HB.out⟩
  by_cases g2 : 2000 < n
  · go_wp2
    go_ret
    exact ⟨by rw [hq'.out, decide_eq_false (by omega : ¬ n ≤ 2000)]; simp, HB.out⟩
  by_cases g3 : st < 0
  · go_wp2
    go_ret
    have e : isS n st = false := by rw [← Bool.not_eq_true, isS_iff]; omega
    exact ⟨by rw [hq'.out, e]; simp, HB.out⟩
  by_cases g4 : n ≤ st
  · go_wp2
    go_ret
    have e : isS n st = false := by rw [← Bool.not_eq_true, isS_iff]; omega
    exact ⟨by rw [hq'.out, e]; simp, HB.out⟩
  by_cases g5 : (k : Int) = n
  · have HQ := hid (show q = (arcs.all (arcOk n) && acc.all fun x => decide (-1 ≤ x)) from by
      have e : isS n st = true := by rw [isS_iff]; omega
      rw [hq'.out, e, decide_eq_true (by omega : 1 ≤ n), decide_eq_true (by omega : n ≤ 2000), decide_eq_true g5]; simp)
    clear hq'
    subst g5
    go_wp2_with fail
    go_loopg [3] k (fun kk s3 wr => ∃ i : Nat, s3 = .int .i64 (i : Int) ∧ i + kk = k ∧ (acc.take i).all (fun x => decide (-1 ≤ x)) = true ∧ wr = W)
    case atStart => exact ⟨0, rfl, by omega, by simp, rfl⟩
    case round =>
      obtain ⟨i, rfl, hik, htk, hw⟩ := hrel
      obtain rfl : W = wr := hw.symm
      by_cases hlt : i < k
      · have hlt' : (i : Int) < (k : Int) := by omega
        obtain ⟨b, off, x, rfl, hbl, ha, p0⟩ := int_at H.out.acc hlt
        have HX := hid (And.intro htk ha)
        clear htk ha hbl
        by_cases hx : x < -1
        · go_wp2
          go_ret
          refine ⟨?_, HB.out⟩
          have e : (acc.all fun x => decide (-1 ≤ x)) = false := by
            rw [List.all_eq_false]
            exact ⟨_, List.mem_of_getElem? HX.out.2, by simp; omega⟩
          rw [HQ.out, e]; simp
        · go_wp2
          go_roundg (gk - 1)
          case measure => omega
          case rel =>
            refine ⟨i + 1, by go_num, by omega, ?_, rfl⟩
            rw [List.take_add_one, HX.out.2, List.all_append, HX.out.1, Bool.true_and]
            simp; omega
      · have hlt' : ¬ (i : Int) < (k : Int) := by omega
        have HA := hid (show (acc.all fun x => decide (-1 ≤ x)) = true from by rw [List.take_of_length_le (by have := HL.out.1; omega)] at htk; exact htk)
        clear htk
        go_wp2_with fail
        go_loopg [4, 5] m (fun kk s4 _ wr => ∃ i : Nat, s4 = .int .i64 (i : Int) ∧ i + kk = m ∧ (arcs.take i).all (arcOk k) = true ∧ Below W.heap.size W wr)
        case atStart => exact ⟨0, rfl, by omega, by simp, Below.refl _ _⟩
        case round =>
          obtain ⟨i, rfl, hik, htk, hbw⟩ := hrel
          have hW2 := (hbw.block _ (heap_lt HW.out)).trans HW.out
          clear d0 d1 d2 d3
          obtain ⟨d0, d1, d2, d3⟩ := cells4 hW2
          by_cases hlt : i < m
          · have hlt' : (i : Int) < (m : Int) := by omega
            obtain ⟨b, off, f, t, e, s, rfl, hbl, ha, q0, q1, q2, q3, q4, q5, q6⟩ := arc_at (H.out.arcs.below hbw) hlt
            have HX := hid (And.intro htk (And.intro hbw ha))
            obtain ⟨V, hV⟩ : ∃ V, V = wr.alloc (.cells #[.int .i64 f, .int .i64 t, .bool e, .int .u64 (ws s 0 : Int), .int .u64 (ws s 1 : Int), .int .u64 (ws s 2 : Int), .int .u64 (ws s 3 : Int)] 55) := ⟨_, rfl⟩
            have HV := hid (show Below W.heap.size W V from by rw [hV]; exact hbw.trans ((bel1 _ _).mono hbw.size))
            have hV2 : V.heap[w.heap.size]? = some (.cells #[.int .i64 (k : Int), .int .i64 st, .slice (some ⟨b, off, none⟩) m c1, .slice a2 k c2] 25 (0, 0)) := by rw [hV]; exact blk_alloc hW2
            have hV3 : V.heap[wr.heap.size]? = some (.cells #[.int .i64 f, .int .i64 t, .bool e, .int .u64 (ws s 0 : Int), .int .u64 (ws s 1 : Int), .int .u64 (ws s 2 : Int), .int .u64 (ws s 3 : Int)] 55 (0, 0)) := by rw [hV]; exact alloc_new _ _
            clear htk ha hbl hbw hW2
            go_upto_region 12 with fail
            rw [← hV]
            clear hV d0 d1 d2 d3 q0 q1 q2 q3 q4 q5 q6
            obtain ⟨d0, d1, d2, d3⟩ := cells4 hV2
            obtain ⟨e0, e1, e2, e3, e4, e5, e6⟩ := cells7a hV3
            clear hV2 hV3
            have no : arcOk (k : Int) ⟨f, t, e, s⟩ = false → q = false := fun h => by
              have e : arcs.all (arcOk (k : Int)) = false := by
                rw [List.all_eq_false]
                exact ⟨_, List.mem_of_getElem? HX.out.2.2, by rw [h]; simp⟩
              rw [HQ.out, e]; rfl
            have NO := hid no
            clear no
            by_cases h1 : f < 0
            · go_wp2
              go_ret
              exact ⟨by rw [NO.out (arc_no (.inl h1))]; rfl, HB.out.trans (HV.out.mono HB.out.size)⟩
            by_cases h2 : (k : Int) ≤ f
            · go_wp2
              go_ret
              exact ⟨by rw [NO.out (arc_no (.inr (.inl h2)))]; rfl, HB.out.trans (HV.out.mono HB.out.size)⟩
            by_cases h3 : t < 0
            · go_wp2
              go_ret
              exact ⟨by rw [NO.out (arc_no (.inr (.inr (.inl h3))))]; rfl, HB.out.trans (HV.out.mono HB.out.size)⟩
            by_cases h4 : (k : Int) ≤ t
            · go_wp2
              go_ret
              exact ⟨by rw [NO.out (arc_no (.inr (.inr (.inr h4))))]; rfl, HB.out.trans (HV.out.mono HB.out.size)⟩
            have yes : (e = true → emp s = true) → (arcs.take (i + 1)).all (arcOk (k : Int)) = true := fun h => by
              rw [List.take_add_one, HX.out.2.2, List.all_append, HX.out.1, Bool.true_and]
              show (arcOk (k : Int) ⟨f, t, e, s⟩ && true) = true
              rw [Bool.and_true, arcOk_iff]
              exact ⟨⟨by show 0 ≤ f; omega, by show f < _; omega⟩, ⟨by show 0 ≤ t; omega, by show t < _; omega⟩, fun he => emp_iff.1 (h he)⟩
            have YES := hid yes
            clear yes
            cases e
            · go_wp2
              go_roundg (gk - 1)
              case measure => omega
              case rel => exact ⟨i + 1, by go_num, by omega, YES.out (fun h => by cases h), HV.out⟩
            · cases hs : emp s
              · go_wp2
                go_ret
                exact ⟨by rw [NO.out (by rw [← Bool.not_eq_true, arcOk_iff]; rintro ⟨_, _, h⟩; rw [emp_iff.2 (h rfl)] at hs; cases hs)]; rfl, HB.out.trans (HV.out.mono HB.out.size)⟩
              · go_wp2
                go_roundg (gk - 1)
                case measure => omega
                case rel => exact ⟨i + 1, by go_num, by omega, YES.out (fun _ => hs), HV.out⟩
          · have hlt' : ¬ (i : Int) < (m : Int) := by omega
            have HA2 := hid (show arcs.all (arcOk (k : Int)) = true from by rw [List.take_of_length_le (by have := HL.out.2; omega)] at htk; exact htk)
            have HV := hid hbw
            clear htk hbw hW2
            go_wp2
            go_ret
            exact ⟨by rw [HQ.out, HA.out, HA2.out]; rfl, HB.out.trans (HV.out.mono HB.out.size)⟩
  · have g6 : ((k : Int) == n) = false := by simpa using g5
    go_wp2
    go_ret
    exact ⟨by rw [hq'.out, decide_eq_false g5]; simp, HB.out⟩
end Go.Proofs.YtogpnlkjcdedlaaDoor
end
section
namespace Go.Proofs
open Go.Shelf
def Tryd.cloneArcs_ren : Go.Shelf.Ren := ⟨fun | 41 => 71 | n => n, fun | 22 => 22 | 23 => 55 | 4 => 4 | n => n, fun | n => n⟩
theorem Tryd.cloneArcs : Go.Proofs.SlLaysE0.n41 Tryd.prog Tryd.cloneArcs_ren := {
  mixed := by kernel_rfl
  f41 := ⟨Tryd.f71.name, by decide, Tryd.func71.trans (congrArg some (by kernel_rfl))⟩
  t4 := Tryd.underlying4
  a4 := Tryd.isAgg4
  z4 := Tryd.sizeOf4
  v4 := Tryd.zeroValue4
  t22 := Tryd.underlying22
  a22 := Tryd.isAgg22
  z22 := Tryd.sizeOf22
  v22 := Tryd.zeroValue22 }
def Tryd.sortArcs_ren : Go.Shelf.Ren := ⟨fun | 6 => 72 | 15 => 80 | 14 => 79 | 28 => 95 | 29 => 96 | 20 => 87 | 21 => 88 | 22 => 89 | 23 => 90 | 24 => 91 | 25 => 92 | 26 => 93 | 27 => 94 | 46 => 97 | 47 => 98 | 48 => 99 | 49 => 100 | 50 => 101 | 57 => 102 | n => n, fun | 22 => 22 | 24 => 55 | 25 => 113 | 3 => 3 | 39 => 118 | 0 => 0 | 53 => 136 | 55 => 46 | 4 => 4 | 46 => 129 | 45 => 128 | 50 => 133 | 5 => 5 | 9 => 9 | 66 => 137 | 70 => 141 | 76 => 143 | 77 => 144 | n => n, fun | n => n⟩
theorem Tryd.sortArcs : Go.Proofs.SlLaysF0.n6 Tryd.prog Tryd.sortArcs_ren := {
  mixed := by kernel_rfl
  f6 := ⟨Tryd.f72.name, by decide, Tryd.func72.trans (congrArg some (by kernel_rfl))⟩
  f14 := ⟨Tryd.f79.name, by decide, Tryd.func79.trans (congrArg some (by kernel_rfl))⟩
  f15 := Tryd.func80.trans (congrArg some (by kernel_rfl))
  f20 := ⟨Tryd.f87.name, by decide, Tryd.func87.trans (congrArg some (by kernel_rfl))⟩
  f21 := ⟨Tryd.f88.name, by decide, Tryd.func88.trans (congrArg some (by kernel_rfl))⟩
  f22 := ⟨Tryd.f89.name, by decide, Tryd.func89.trans (congrArg some (by kernel_rfl))⟩
  f23 := ⟨Tryd.f90.name, by decide, Tryd.func90.trans (congrArg some (by kernel_rfl))⟩
  f24 := ⟨Tryd.f91.name, by decide, Tryd.func91.trans (congrArg some (by kernel_rfl))⟩
  f25 := ⟨Tryd.f92.name, by decide, Tryd.func92.trans (congrArg some (by kernel_rfl))⟩
  f26 := ⟨Tryd.f93.name, by decide, Tryd.func93.trans (congrArg some (by kernel_rfl))⟩
  f27 := ⟨Tryd.f94.name, by decide, Tryd.func94.trans (congrArg some (by kernel_rfl))⟩
  f28 := Tryd.func95.trans (congrArg some (by kernel_rfl))
  f29 := Tryd.func96.trans (congrArg some (by kernel_rfl))
  f46 := ⟨Tryd.f97.name, by decide, Tryd.func97.trans (congrArg some (by kernel_rfl))⟩
  f47 := Tryd.func98.trans (congrArg some (by kernel_rfl))
  f48 := Tryd.func99.trans (congrArg some (by kernel_rfl))
  f49 := ⟨Tryd.f100.name, by decide, Tryd.func100.trans (congrArg some (by kernel_rfl))⟩
  f50 := ⟨Tryd.f101.name, by decide, Tryd.func101.trans (congrArg some (by kernel_rfl))⟩
  f57 := ⟨Tryd.f102.name, by decide, Tryd.func102.trans (congrArg some (by kernel_rfl))⟩
  t0 := Tryd.underlying0
  a0 := Tryd.isAgg0
  z0 := Tryd.sizeOf0
  v0 := Tryd.zeroValue0
  t3 := Tryd.underlying3
  a3 := Tryd.isAgg3
  z3 := Tryd.sizeOf3
  v3 := Tryd.zeroValue3
  t4 := Tryd.underlying4
  a4 := Tryd.isAgg4
  z4 := Tryd.sizeOf4
  v4 := Tryd.zeroValue4
  t5 := Tryd.underlying5
  a5 := Tryd.isAgg5
  z5 := Tryd.sizeOf5
  v5 := Tryd.zeroValue5
  t9 := Tryd.underlying9
  a9 := Tryd.isAgg9
  z9 := Tryd.sizeOf9
  v9 := Tryd.zeroValue9
  t22 := Tryd.underlying22
  a22 := Tryd.isAgg22
  z22 := Tryd.sizeOf22
  v22 := Tryd.zeroValue22
  t25 := Tryd.underlying113
  a25 := Tryd.isAgg113
  z25 := Tryd.sizeOf113
  v25 := Tryd.zeroValue113
  t39 := Tryd.underlying118
  a39 := Tryd.isAgg118
  z39 := Tryd.sizeOf118
  v39 := Tryd.zeroValue118
  t45 := Tryd.underlying128
  a45 := Tryd.isAgg128
  z45 := Tryd.sizeOf128
  v45 := Tryd.zeroValue128
  t46 := Tryd.underlying129
  a46 := Tryd.isAgg129
  z46 := Tryd.sizeOf129
  v46 := Tryd.zeroValue129
  t50 := Tryd.underlying133
  a50 := Tryd.isAgg133
  z50 := Tryd.sizeOf133
  v50 := Tryd.zeroValue133
  t53 := Tryd.underlying136
  a53 := Tryd.isAgg136
  z53 := Tryd.sizeOf136
  v53 := Tryd.zeroValue136
  t55 := Tryd.underlying46
  a55 := Tryd.isAgg46
  z55 := Tryd.sizeOf46
  v55 := Tryd.zeroValue46
  t66 := Tryd.underlying137
  a66 := Tryd.isAgg137
  z66 := Tryd.sizeOf137
  v66 := Tryd.zeroValue137
  t70 := Tryd.underlying141
  a70 := Tryd.isAgg141
  z70 := Tryd.sizeOf141
  v70 := Tryd.zeroValue141
  t76 := Tryd.underlying143
  a76 := Tryd.isAgg143
  z76 := Tryd.sizeOf143
  v76 := Tryd.zeroValue143
  t77 := Tryd.underlying144
  a77 := Tryd.isAgg144
  z77 := Tryd.sizeOf144
  v77 := Tryd.zeroValue144 }
end Go.Proofs
end
section
set_option linter.unusedSimpArgs false
set_option linter.unusedVariables false
namespace Go.Proofs.YtogpnlkjcdedlaaDoor
open Go.RowKit Bs Rg Nf Go.Frame Go.Shelf Go.Sort
attribute [local go_sem] eq_zero eq_set

instance arcInh : Inhabited Arc := ⟨⟨0, 0, false, none8⟩⟩
def cfA (x y : Arc) : Int := cmpI x.f y.f
theorem ltA (x y : Arc) : ltOf cfA x y = decide (x.f < y.f) := by
  unfold ltOf cfA
  rw [decide_eq_decide]
  exact cmpI_neg
theorem swoA : SWO (ltOf cfA) where
  irrefl x := by rw [ltA]; simp
  trans x y z h1 h2 := by rw [ltA] at *; simp at *; omega
  ntrans x y z h1 h2 := by rw [ltA] at *; simp at *; omega
theorem cmpLaysA (g : Nat) (m : Nat) (w : World) : CmpLays Tryd.prog 68 #[] acs 7 cfA g 0 m w := by
  intro q os dk hs x y
  obtain ⟨f1, t1, e1, s1⟩ := x
  obtain ⟨f2, t2, e2, s2⟩ := y
  refine (clo68_any (sortWorldK acs 7 w g 0 q dk os) f1 t1 f2 t2 e1 e2 s1 s2).mono ?_
  rintro e w' ⟨rfl, rfl⟩
  exact ⟨rfl, 0, _, by rw [alloc_eq_grow, alloc_eq_grow, grow_grow]; rfl⟩
theorem flat_len : ∀ l : List Arc, (l.flatMap acs).length = l.length * 7
  | [] => rfl
  | x :: l => by rw [List.flatMap_cons, List.length_append, flat_len l, List.length_cons]; show 7 + _ = _; omega
theorem holds_own {W : World} {base g m cap : Nat} {l : List Arc} (h : W.ownsRow base 55 7 (.slice (some ⟨g, 0, none⟩) m cap) m (l.flatMap acs)) (hl : l.length = m) (h0 : 0 < m) : HoldsK acs 7 W g 0 l.toArray := by
  intro j hj
  have hj : j < m * 7 := by simpa [hl] using hj
  obtain ⟨x, hx⟩ : ∃ x, l[j / 7]? = some x := ⟨l[j / 7]'(by omega), List.getElem?_eq_getElem _⟩
  have hr : j % 7 < 7 := Nat.mod_lt _ (by decide)
  have h2 := flat_get acs 7 (fun x => rfl) l (j / 7) (j % 7) x hx hr
  have hlen : (acs x).length = 7 := rfl
  rw [List.getElem?_eq_getElem (show j % 7 < (acs x).length by rw [hlen]; exact hr)] at h2
  have e7 : j / 7 * 7 + j % 7 = j := by omega
  rw [e7] at h2
  obtain ⟨g', e', _, h3⟩ := own_cellN h h2
  simp only [Option.some.injEq, Addr.mk.injEq] at e'
  obtain ⟨rfl, _⟩ := e'
  refine ⟨?_, ?_⟩
  · rw [Nat.zero_add, h3]
    have e1 : (flatK acs 7 l.toArray)[j]! = (acs l.toArray[j / 7]!)[j % 7]! := get_flatK _ _ _ _ (by simpa [hl] using hj)
    have e2 : l.toArray[j / 7]! = x := by
      obtain ⟨hlt, hxx⟩ := List.getElem?_eq_some_iff.1 hx
      simp [hlt, hxx]
    show _ = some (id (flatK acs 7 l.toArray)[j]!)
    rw [e1, e2, getElem!_pos (acs x) (j % 7) (by rw [hlen]; exact hr)]
    rfl
  · rcases h.2 with ⟨e, h9⟩ | ⟨g9, cap9, cur, e, hb, hgg, _⟩
    · cases e
    · simp only [Value.slice.injEq, Option.some.injEq, Addr.mk.injEq] at e
      obtain ⟨⟨rfl, _⟩, _⟩ := e
      simp [World.frozen?, hgg]
set_option maxRecDepth 100000 in
set_option maxHeartbeats 4000000 in
theorem clone_arcs (w : World) (b off m c : Nat) (l : List Arc) (hl : l.length = m) (hm : m ≤ 1000000) (h0 : 0 < m) (hC : CRow 7 w (some ⟨b, off, none⟩) m (l.map acs)) :
    Calls Tryd.prog 71 #[.slice (some ⟨b, off, none⟩) m c] w fun e w' => (∃ g cap, e = .returned (.slice (some ⟨g, 0, none⟩) m cap) ∧ w.heap.size ≤ g ∧ g < w'.heap.size ∧ m ≤ cap ∧ cap ≤ maxLen ∧ HoldsK acs 7 w' g 0 l.toArray) ∧ Below w.heap.size w w' := by
  obtain ⟨i0, hi, hz0, hz1, hz2⟩ := info_parts info55b
  have h := AnyE.slices_Clone Tryd.cloneArcs i0 _ 7 56 hi hz0 hz1 hz2 (by rfl) (by decide) Tryd.sizeOf55 b off m c (l.flatMap acs) w (by rw [flat_len, hl]) (by unfold maxLen; omega) (by omega)
    (fun j u hj => by
      have hjl := (List.getElem?_eq_some_iff.1 hj).1
      have hjm : j < m * 7 := by rw [flat_len, hl] at hjl; exact hjl
      obtain ⟨x, hx⟩ : ∃ x, l[j / 7]? = some x := ⟨l[j / 7]'(by omega), List.getElem?_eq_getElem _⟩
      have hr : j % 7 < 7 := Nat.mod_lt _ (by decide)
      have h2 := flat_get acs 7 (fun x => rfl) l (j / 7) (j % 7) x hx hr
      rw [show j / 7 * 7 + j % 7 = j by omega, hj] at h2
      rcases hC.2 with h | ⟨b', off', e', _, hc⟩
      · omega
      · simp at e'
        obtain ⟨rfl, rfl⟩ := e'
        have h3 := hc (j / 7) (acs x) (by rw [List.getElem?_map, hx]; rfl) (j % 7) u h2.symm
        rw [show off + j / 7 * 7 + j % 7 = off + j by omega] at h3
        exact h3)
    (fun u hu => by
      obtain ⟨x, _, hx⟩ := List.mem_flatMap.1 hu
      simp [acs] at hx
      rcases hx with rfl | rfl | rfl | rfl | rfl | rfl | rfl <;> rfl)
  refine Calls.mono (show Calls Tryd.prog 71 _ _ _ from h) ?_
  rintro e w' ⟨v', rfl, ho, hne, hb⟩
  refine ⟨?_, hb⟩
  have ho' := ho
  rcases ho.2 with ⟨rfl, h9⟩ | ⟨g9, cap9, cur, rfl, hb9, hgg, hn9, hc9, _⟩
  · exact absurd rfl hne
  · exact ⟨g9, cap9, rfl, hb9, heap_lt hgg, hn9, hc9, holds_own ho' hl h0⟩
theorem sw_block {w : World} {g n : Nat} {d : Array Arc} {os : Array Obj} {k : Nat} (hk : k ≠ g) (hl : k < w.heap.size) : (sortWorldK acs 7 w g 0 n d os).heap[k]? = w.heap[k]? := by
  unfold sortWorldK grow putRowK putRow mapBlock
  show ((w.heap.modify g _) ++ os)[k]? = _
  rw [Array.getElem?_append_left (by simpa using hl)]
  rw [Array.getElem?_modify, if_neg (Ne.symm hk)]
theorem sw_kept (w : World) (g n : Nat) (d : Array Arc) (os : Array Obj) : Kept (fun b => b = g ∨ w.heap.size ≤ b) w (sortWorldK acs 7 w g 0 n d os) := by
  refine ⟨rfl, rfl, rfl, ?_, fun k hk => ?_⟩
  · unfold sortWorldK grow putRowK putRow mapBlock
    show w.heap.size ≤ ((w.heap.modify g _) ++ os).size
    simp
  · exact sw_block (fun e => hk (.inl e)) (by rcases Nat.lt_or_ge k w.heap.size with h | h; exact h; exact absurd (.inr h) hk)
set_option maxRecDepth 100000 in
set_option maxHeartbeats 4000000 in
theorem sort_arcs (w : World) (g m cap : Nat) (l : List Arc) (hl : l.length = m) (hm : m ≤ 1000000) (hg : g < w.heap.size) (hH : HoldsK acs 7 w g 0 l.toArray) :
    Calls Tryd.prog 72 #[.slice (some ⟨g, 0, none⟩) m cap, .func (.func 68) #[] #[]] w fun e w' => e = .returned (.tuple #[]) ∧ (∃ l' : List Arc, l'.length = m ∧ (∀ z, z ∈ l' ↔ z ∈ l) ∧ Srt l' ∧ CRow 7 w' (some ⟨g, 0, none⟩) m (l'.map acs)) ∧ Kept (fun b => b = g ∨ w.heap.size ≤ b) w w' := by
  have eg : ∀ args w, (callFunc 68 args).run Tryd.prog w = .ok (.enter 68 args) w := enters_of Tryd.func68 (by kernel_rfl) rfl
  have h := AnyQ.slices_SortFunc Tryd.sortArcs 7 Tryd.isAgg55 Tryd.sizeOf55 acs (fun _ => rfl) (fun x v hv => by simp [acs] at hv; rcases hv with rfl | rfl | rfl | rfl | rfl | rfl | rfl <;> rfl) cfA swoA 68 #[] g 0 cap l.toArray w eg (cmpLaysA g _ w) hH hg (by simp; omega)
  have hs : l.toArray.size = m := by simpa using hl
  rw [hs] at h
  refine Calls.mono (show Calls Tryd.prog 72 _ _ _ from h) ?_
  rintro e w' ⟨rfl, d', n, os, hp, hso, rfl⟩
  obtain ⟨p1, _, p3⟩ := hp
  have hd : d'.size = m := by rw [p1, hs]
  refine ⟨rfl, ⟨d'.toList, by simpa using hd, fun z => ?_, ?_, by simpa using hd, .inr ⟨g, 0, rfl, Nat.lt_of_lt_of_le hg (sw_kept w g n d' os).size, ?_⟩⟩, sw_kept w g n d' os⟩
  · have e1 : d'.extract 0 m = d' := by rw [← hd]; simp
    have e2 : l.toArray.extract 0 m = l.toArray := by rw [← hs]; simp
    rw [e1, e2] at p3
    exact p3.mem_iff
  · intro i x y hx hy
    obtain ⟨hi, hx⟩ := List.getElem?_eq_some_iff.1 hx
    obtain ⟨hj, hy⟩ := List.getElem?_eq_some_iff.1 hy
    have hj' : i + 1 < d'.size := by simpa using hj
    have h1 := hso i (i + 1) (Nat.zero_le _) (by omega) (by omega)
    rw [ltA, getElem!_pos d' i (by omega), getElem!_pos d' (i + 1) hj'] at h1
    have ex : d'[i]'(by omega) = x := by simpa using hx
    have ey : d'[i + 1]'hj' = y := by simpa using hy
    rw [ex, ey] at h1
    simp at h1
    exact h1
  · intro i cs hi j v hj
    have hh := holdsK_sortWorldK_c acs 7 w g 0 l.toArray d' n os hH hg (by rw [hd, hs])
    rw [List.getElem?_map] at hi
    cases hx : d'.toList[i]? with
    | none => rw [hx] at hi; cases hi
    | some x =>
      rw [hx] at hi
      simp at hi
      subst hi
      obtain ⟨hil, hxx⟩ := List.getElem?_eq_some_iff.1 hx
      have hi2 : i < d'.size := by simpa using hil
      have e1 : d'[i]! = x := by rw [getElem!_pos d' i hi2]; simpa using hxx
      have h3 := Go.Proofs.HoldsK.cells (enc := acs) (k := 7) hh (fun _ => rfl) hi2 j v (by rw [e1]; exact hj)
      rw [add_at] at h3
      exact h3
end Go.Proofs.YtogpnlkjcdedlaaDoor
end
section
set_option linter.unusedSimpArgs false
set_option linter.unusedVariables false
namespace Go.Proofs.YtogpnlkjcdedlaaDoor
open Go.RowKit Bs Rg Nf Go.Frame
attribute [local go_sem] eq_zero eq_set

theorem RW.cong {W : World} {v : Value} {l l' : List Arc} {x : Nat} {ok : Nat → Prop} (h : RW W v l x ok) (hm : ∀ z, z ∈ l ↔ z ∈ l') : RW W v l' x ok := by
  obtain ⟨a, k, c, r, h1, h2, h3, h4, h5⟩ := h
  exact ⟨a, k, c, r, h1, h2, h3, fun z => by rw [h4 z, hm z], h5⟩
theorem srt_short {l : List Arc} (h : ¬ Srt l) : 0 < l.length := by
  rcases l with _ | ⟨x, l⟩
  · exact absurd (fun i x y hx _ => by simp at hx) h
  · simp
set_option maxRecDepth 100000 in
set_option maxHeartbeats 4000000 in
theorem byFrom_mixed (w : World) (N : Nfa) (n : Nat) (hv : Vn N n) (a1 a2 : Option Addr) (m c1 k c2 : Nat) (hmc : m ≤ c1) (hcc : c1 ≤ 9223372036854775807) (hnil : a1 = none → c1 = 0) (h : NA w N a1 m a2 k) (hs : ¬ Srt N.arcs) (hm6 : m ≤ 1000000) :
    Calls Tryd.prog 55 #[.agg #[.int .i64 N.n, .int .i64 N.st, .slice a1 m c1, .slice a2 k c2]] w fun e w' => (∃ AB, e = .returned (.slice (some ⟨AB, 0, none⟩) n n) ∧ w.heap.size ≤ AB ∧ AB < w'.heap.size ∧ (∃ vs : List Value, w'.heap[AB]? = some (.cells vs.toArray 22 (0, 0))) ∧ ∀ x, x < n → ∃ v, w'.cell? ⟨AB, x, none⟩ = some v ∧ RW w' v N.arcs x fun b => b < w'.heap.size) ∧ Below w.heap.size w w' := by
  obtain ⟨nn, st, arcs, acc⟩ := N
  obtain rfl : nn = (n : Int) := hv.hn
  have hlm0 : arcs.length = m := h.lm
  have hs : ¬ Srt arcs := hs
  obtain ⟨b, off, rfl⟩ : ∃ b off, a1 = some ⟨b, off, none⟩ := by
    rcases h.arcs.2 with h0 | ⟨b, off, e, _⟩
    · have := srt_short hs; omega
    · exact ⟨b, off, e⟩
  have hm0 : 0 < m := by have := srt_short hs; omega
  obtain ⟨W, hW⟩ : ∃ W, W = w.alloc (.cells #[.int .i64 (n : Int), .int .i64 st, .slice (some ⟨b, off, none⟩) m c1, .slice a2 k c2] 25) := ⟨_, rfl⟩
  have HB := hid (show Below w.heap.size w W from by rw [hW]; exact bel1 _ _)
  have HW := hid (show W.heap[w.heap.size]? = some (.cells #[.int .i64 (n : Int), .int .i64 st, .slice (some ⟨b, off, none⟩) m c1, .slice a2 k c2] 25 (0, 0)) from by rw [hW]; exact alloc_new _ _)
  have CS := hid (sorted_any W (some ⟨b, off, none⟩) m c1 arcs (h.arcs.below HB.out) h.hm)
  have HA := hid (And.intro h.arcs (And.intro hlm0 (And.intro hv hs)))
  have CC := hid (fun V (hV : Below w.heap.size w V) => clone_arcs V b off m c1 arcs hlm0 hm6 hm0 (h.arcs.below hV))
  have hn := hv.le
  clear h hv hs hmc hcc hnil hlm0
  obtain ⟨d0, d1, d2, d3⟩ := cells4 HW.out
  have mk := fun w => make_arcs n (by omega) w
  go_enter Tryd.func55, Tryd.ntmps55
  go_upto_region 1 with fail
  rw [← hW]
  clear hW
  go_wp2_with fail
  refine CS.out.mono ?_
  rintro e W1 ⟨⟨y, rfl, hy⟩, b1⟩
  obtain rfl : y = false := by rw [← Bool.not_eq_true]; exact fun h => HA.out.2.2.2 (hy.1 h)
  have H1 := hid (HB.out.trans (b1.mono HB.out.size))
  have HW1 := hid ((b1.block _ (heap_lt HW.out)).trans HW.out)
  clear b1 d0 d1 d2 d3 hy CS
  go_wp2_with fail
  refine (CC.out _ H1.out).mono ?_
  rintro e W2 ⟨⟨g, cap, rfl, hg1, hg2, hmc, hcc, hH⟩, b2⟩
  have H2 := hid (H1.out.trans (b2.mono H1.out.size))
  have HW2 := hid ((b2.block _ (heap_lt HW1.out)).trans HW1.out)
  have CT := hid (sort_arcs W2 g m cap arcs HA.out.2.1 hm6 hg2 hH)
  have HG := hid (And.intro hg1 hg2)
  clear b2 hH CC hg1 hg2
  go_wp2_with fail
  refine CT.out.mono ?_
  rintro e W3 ⟨rfl, ⟨l2, hl2, hmem, hsrt, hrow⟩, k3⟩
  have H3 := hid (H2.out.trans (k3.toBelow fun b hb => by
    rcases hb with rfl | hb
    · have := H1.out.size; have := HG.out.1; omega
    · have := H2.out.size; omega))
  have HW3 := hid ((k3.block w.heap.size (fun hb => by
    rcases hb with e | hb
    · have := heap_lt HW1.out; have := HG.out.1; omega
    · have := heap_lt HW2.out; omega)).trans HW2.out)
  have HR := hid hrow
  have HS := hid hsrt
  have HM := hid hmem
  have HV := hid (show Vn ⟨(n : Int), st, l2, acc⟩ n from by
    have h := HA.out.2.2.1
    exact ⟨h.hn, h.pos, h.le, h.st, fun a ha => h.arcs a ((hmem a).1 ha), h.acc, h.ge⟩)
  have hnil : (some (⟨g, 0, none⟩ : Addr)) = none → cap = 0 := fun h => by cases h
  have hcc9 : cap ≤ 9223372036854775807 := hcc
  clear hcc
  have hcc := hcc9
  clear hcc9 hl2 hmem hsrt hrow k3 CT
  obtain ⟨d0, d1, d2, d3⟩ := cells4 HW3.out
  go_wp2_with fail
  have hAB : (W3.alloc (.cells (List.replicate n (.slice none 0 0)).toArray 22)).heap[W3.heap.size]? = some (.cells (List.replicate n (.slice none 0 0)).toArray 22 (0, 0)) := alloc_new _ _
  have hbl := bel1 W3 (.cells (List.replicate n (.slice none 0 0)).toArray 22)
  have HAB := hid (And.intro hAB hbl)
  clear hAB hbl
  have hlm : l2.length = m := by have := HR.out.1; simpa using this
  have HLM := hid hlm
  clear hlm
  go_loopg [4, 24] n (fun kk s4 s24 wr => ∃ (x q : Nat) (a : Option Addr) (k c : Nat) (vs : List Value), s24 = .int .i64 (x : Int) ∧ x + kk = n ∧ s4 = .slice a k c ∧ k ≤ c ∧ c ≤ 9223372036854775807 ∧ (a = none → c = 0) ∧ k + q = m ∧ Sp l2 q (x : Int) ∧ CRow 7 W3 a k ((l2.drop q).map acs) ∧ wr.heap[W3.heap.size]? = some (.cells vs.toArray 22 (0, 0)) ∧ vs.length = n ∧ (∀ x', x' < x → ∃ v, vs[x']? = some v ∧ RW W3 v l2 x' (fun b => b < W3.heap.size)) ∧ Below W3.heap.size W3 wr)
  case atStart =>
    refine ⟨0, 0, (some ⟨g, 0, none⟩), m, cap, _, rfl, by omega, rfl, hmc, hcc, hnil, by omega, ⟨Nat.zero_le _, fun z hz => by simp at hz, fun z hz => ?_⟩, by simpa using HR.out, HAB.out.1, by simp, fun x' hx => by omega, HAB.out.2⟩
    obtain ⟨x, y, _, _, h1, _⟩ := HV.out.arcs z (by simpa using hz)
    omega
  case round =>
    obtain ⟨x, q, a, kq, c, vs, rfl, hxk, rfl, hkc, hc9, hnl, hkq, hsp, hrow, hab, hvl, hrws, hbw⟩ := hrel
    by_cases hlt : x < n
    · have hlt' : (x : Int) < (n : Int) := by omega
      have hx0 : (0 : Int) ≤ (x : Int) := by omega
      have HX := hid (And.intro hsp (And.intro hrow (And.intro hab (And.intro hvl (And.intro hrws hbw)))))
      have hrow' : CRow 7 wr a kq ((l2.drop q).map acs) := hrow.below hbw
      have HRW := hid hrow'
      have HQ := hid (And.intro hkq (And.intro hxk hnl))
      clear hsp hrow hab hvl hrws hbw hrow' hkq hlt hnl
      obtain ⟨go, rfl⟩ : ∃ go, go = gk := ⟨_, rfl⟩
      go_wp2_with fail
      go_loopg [7] kq (fun k3 s7 wr2 => ∃ e : Nat, s7 = .int .i64 (e : Int) ∧ e + k3 = kq ∧ (∀ z ∈ (l2.drop q).take e, z.f = (x : Int)) ∧ wr2 = wr)
      case atStart => exact ⟨0, rfl, by omega, fun z hz => by simp at hz, rfl⟩
      case round =>
        obtain ⟨e, rfl, hek, htk, rfl⟩ := hrel
        have HE := hid htk
        clear htk
        by_cases hlt : e < kq
        · have hlt' : (e : Int) < (kq : Int) := by omega
          have he0 : (0 : Int) ≤ (e : Int) := by omega
          obtain ⟨b0, off, f, t, ee, s, rfl, hbl, ha, q0, -⟩ := arc_at HRW.out hlt
          have HE2 := hid (And.intro ha hbl)
          clear ha hbl
          by_cases hf : f = (x : Int)
          · have hf2 : (f == (x : Int)) = true := by simp [hf]
            go_wp2
            go_roundg (gk - 1)
            case measure => omega
            case rel =>
              refine ⟨e + 1, by go_num, by omega, fun z hz => ?_, rfl⟩
              rw [List.take_add_one, HE2.out.1, List.mem_append] at hz
              rcases hz with hz | hz
              · exact HE.out z hz
              · simp at hz; subst hz; exact hf
          · have hf2 : (f == (x : Int)) = false := by simp [hf]
            have hnext : Sp l2 (q + e) ((x : Int) + 1) := HX.out.1.next HS.out (by have := HLM.out; have := HQ.out.1; omega) HE.out fun z hz => by
              have h1 := HE2.out.1
              rw [List.getElem?_drop, hz] at h1
              simp at h1
              rw [h1]; exact hf
            have HN := hid hnext
            clear hnext
            obtain ⟨v0, hv0⟩ : ∃ v, vs[x]? = some v := ⟨vs[x]'(by have := HX.out.2.2.2.1; omega), List.getElem?_eq_getElem _⟩
            have cab : wr.cell? ⟨W3.heap.size, x, none⟩ = some v0 := by
              have h1 := HX.out.2.2.1
              simp only [World.cell?, h1]
              simpa using hv0
            have fab : wr.frozen? ⟨W3.heap.size, x, none⟩ = false := Go.Frame.free HX.out.2.2.1 x
            clear hv0
            go_wp2_with fail
            go_region
            go_wp2
            go_roundg (go - 1)
            case measure => have := HQ.out.2.1; omega
            case rel =>
              obtain ⟨hsp, hrow, hab, hvl, hrws, hbw⟩ := HX.out
              have hxl : x < vs.length := by rw [hvl]; omega
              refine ⟨x + 1, q + e, some ⟨b0, off + e * 7, none⟩, kq - e, c - e, vs.set x (.slice (some ⟨b0, off, none⟩) e c), by go_num, by have := HQ.out.2.1; omega, rfl, by omega, by omega, (fun h => by cases h), by have := HQ.out.1; omega, HN.out.cast, ?_, set_rows hab, by simp [hvl], ?_, (below_put hbw (Nat.le_refl _)).drew⟩
              · rw [← List.drop_drop, List.map_drop]
                exact CRow_drop hrow (by omega)
              · exact rows_next hxl hrws ⟨_, e, c, (l2.drop q).take e, rfl, by rw [List.map_take]; exact CRow_take hrow (by omega), by have := HQ.out.1; omega, fun z => hsp.row HE.out HN.out z, fun h0 b off' eq => row_lt hrow (by omega) b off' eq⟩
        · have hlt' : ¬ (e : Int) < (kq : Int) := by omega
          obtain rfl : e = kq := by omega
          have hnext : Sp l2 (q + e) ((x : Int) + 1) := HX.out.1.next HS.out (by have := HLM.out; have := HQ.out.1; omega) HE.out fun z hz => by
            have := (List.getElem?_eq_some_iff.1 hz).1; have := HLM.out; have := HQ.out.1; omega
          have HN := hid hnext
          clear hnext
          cases a with
          | none =>
            obtain rfl : c = 0 := HQ.out.2.2 rfl
            obtain rfl : e = 0 := by omega
            obtain ⟨v0, hv0⟩ : ∃ v, vs[x]? = some v := ⟨vs[x]'(by have := HX.out.2.2.2.1; omega), List.getElem?_eq_getElem _⟩
            have cab : wr.cell? ⟨W3.heap.size, x, none⟩ = some v0 := by
              have h1 := HX.out.2.2.1
              simp only [World.cell?, h1]
              simpa using hv0
            have fab : wr.frozen? ⟨W3.heap.size, x, none⟩ = false := Go.Frame.free HX.out.2.2.1 x
            clear hv0
            go_wp2_with fail
            go_region
            go_wp2
            go_roundg (go - 1)
            case measure => have := HQ.out.2.1; omega
            case rel =>
              obtain ⟨hsp, hrow, hab, hvl, hrws, hbw⟩ := HX.out
              have hxl : x < vs.length := by rw [hvl]; omega
              refine ⟨x + 1, q, _, _, _, vs.set x (.slice none 0 0), by go_num, by have := HQ.out.2.1; omega, rfl, by omega, by omega, (fun _ => rfl), by have := HQ.out.1; omega, HN.out.cast, ?_, set_rows hab, by simp [hvl], ?_, (below_put hbw (Nat.le_refl _)).drew⟩
              · exact hrow
              · exact rows_next hxl hrws ⟨_, 0, 0, (l2.drop q).take 0, rfl, by rw [List.map_take]; exact CRow_take hrow (by omega), by have := HQ.out.1; omega, fun z => hsp.row HE.out HN.out z, fun h0 b off' eq => row_lt hrow (by omega) b off' eq⟩
          | some ad =>
            obtain ⟨b0, off, sp⟩ := ad
            by_cases h0 : e = 0
            · subst h0
              obtain ⟨v0, hv0⟩ : ∃ v, vs[x]? = some v := ⟨vs[x]'(by have := HX.out.2.2.2.1; omega), List.getElem?_eq_getElem _⟩
              have cab : wr.cell? ⟨W3.heap.size, x, none⟩ = some v0 := by
                have h1 := HX.out.2.2.1
                simp only [World.cell?, h1]
                simpa using hv0
              have fab : wr.frozen? ⟨W3.heap.size, x, none⟩ = false := Go.Frame.free HX.out.2.2.1 x
              clear hv0
              go_wp2_with fail
              go_region
              go_wp2
              go_roundg (go - 1)
              case measure => have := HQ.out.2.1; omega
              case rel =>
                obtain ⟨hsp, hrow, hab, hvl, hrws, hbw⟩ := HX.out
                have hxl : x < vs.length := by rw [hvl]; omega
                refine ⟨x + 1, q, _, _, _, vs.set x (.slice (some ⟨b0, off, sp⟩) 0 c), by go_num, by have := HQ.out.2.1; omega, rfl, by omega, by omega, (fun h => by cases h), by have := HQ.out.1; omega, HN.out.cast, ?_, set_rows hab, by simp [hvl], ?_, (below_put hbw (Nat.le_refl _)).drew⟩
                · exact hrow
                · exact rows_next hxl hrws ⟨_, 0, c, (l2.drop q).take 0, rfl, by rw [List.map_take]; exact CRow_take hrow (by omega), by have := HQ.out.1; omega, fun z => hsp.row HE.out HN.out z, fun h0 b off' eq => row_lt hrow (by omega) b off' eq⟩
            · obtain rfl : sp = none := by
                rcases HRW.out.2 with h | ⟨b', off', e', _⟩
                · exact absurd h h0
                · simp at e'; exact e'.2.2
              by_cases hce : c = e
              · subst hce
                obtain ⟨v0, hv0⟩ : ∃ v, vs[x]? = some v := ⟨vs[x]'(by have := HX.out.2.2.2.1; omega), List.getElem?_eq_getElem _⟩
                have cab : wr.cell? ⟨W3.heap.size, x, none⟩ = some v0 := by
                  have h1 := HX.out.2.2.1
                  simp only [World.cell?, h1]
                  simpa using hv0
                have fab : wr.frozen? ⟨W3.heap.size, x, none⟩ = false := Go.Frame.free HX.out.2.2.1 x
                clear hv0
                go_wp2_with fail
                go_region
                go_wp2
                go_roundg (go - 1)
                case measure => have := HQ.out.2.1; omega
                case rel =>
                  obtain ⟨hsp, hrow, hab, hvl, hrws, hbw⟩ := HX.out
                  have hxl : x < vs.length := by rw [hvl]; omega
                  refine ⟨x + 1, q + c, _, _, _, vs.set x (.slice (some ⟨b0, off, none⟩) c c), by go_num, by have := HQ.out.2.1; omega, rfl, by omega, by omega, (fun h => by cases h), by have := HQ.out.1; omega, HN.out.cast, ?_, set_rows hab, by simp [hvl], ?_, (below_put hbw (Nat.le_refl _)).drew⟩
                  · exact ⟨by rw [List.drop_of_length_le (by have := HLM.out; have := HQ.out.1; omega)]; rfl, .inl rfl⟩
                  · exact rows_next hxl hrws ⟨_, c, c, (l2.drop q).take c, rfl, by rw [List.map_take]; exact CRow_take hrow (by omega), by have := HQ.out.1; omega, fun z => hsp.row HE.out HN.out z, fun h0 b off' eq => row_lt hrow (by omega) b off' eq⟩
              · skip
                obtain ⟨v0, hv0⟩ : ∃ v, vs[x]? = some v := ⟨vs[x]'(by have := HX.out.2.2.2.1; omega), List.getElem?_eq_getElem _⟩
                have cab : wr.cell? ⟨W3.heap.size, x, none⟩ = some v0 := by
                  have h1 := HX.out.2.2.1
                  simp only [World.cell?, h1]
                  simpa using hv0
                have fab : wr.frozen? ⟨W3.heap.size, x, none⟩ = false := Go.Frame.free HX.out.2.2.1 x
                clear hv0
                go_wp2_with fail
                go_region
                go_wp2
                go_roundg (go - 1)
                case measure => have := HQ.out.2.1; omega
                case rel =>
                  obtain ⟨hsp, hrow, hab, hvl, hrws, hbw⟩ := HX.out
                  have hxl : x < vs.length := by rw [hvl]; omega
                  refine ⟨x + 1, q + e, _, _, _, vs.set x (.slice (some ⟨b0, off, none⟩) e c), by go_num, by have := HQ.out.2.1; omega, rfl, by omega, by omega, (fun h => by cases h), by have := HQ.out.1; omega, HN.out.cast, ?_, set_rows hab, by simp [hvl], ?_, (below_put hbw (Nat.le_refl _)).drew⟩
                  · exact ⟨by rw [List.drop_of_length_le (by have := HLM.out; have := HQ.out.1; omega)]; rfl, .inl rfl⟩
                  · exact rows_next hxl hrws ⟨_, e, c, (l2.drop q).take e, rfl, by rw [List.map_take]; exact CRow_take hrow (by omega), by have := HQ.out.1; omega, fun z => hsp.row HE.out HN.out z, fun h0 b off' eq => row_lt hrow (by omega) b off' eq⟩
    · have hlt' : ¬ (x : Int) < (n : Int) := by omega
      have HX := hid (And.intro hab (And.intro hvl (And.intro hrws hbw)))
      clear hsp hrow hab hvl hrws hbw
      go_wp2
      go_ret
      obtain ⟨hab, hvl, hrws, hbw⟩ := HX.out
      refine ⟨⟨W3.heap.size, rfl, H3.out.size, heap_lt hab, ⟨vs, hab⟩, fun x' hx' => ?_⟩, H3.out.trans (hbw.mono H3.out.size)⟩
      obtain ⟨v, h1, h2⟩ := hrws x' (by omega)
      exact ⟨v, by simp only [World.cell?, hab]; simpa using h1, RW.cong ((h2.below hbw).more fun b hb => Nat.lt_of_lt_of_le hb hbw.size) HM.out⟩
set_option maxRecDepth 100000 in
set_option maxHeartbeats 4000000 in
theorem byFrom_any (w : World) (N : Nfa) (n : Nat) (hv : Vn N n) (a1 a2 : Option Addr) (m c1 k c2 : Nat) (hmc : m ≤ c1) (hcc : c1 ≤ 9223372036854775807) (hnil : a1 = none → c1 = 0) (h : NA w N a1 m a2 k) (hm6 : m ≤ 1000000) :
    Calls Tryd.prog 55 #[.agg #[.int .i64 N.n, .int .i64 N.st, .slice a1 m c1, .slice a2 k c2]] w fun e w' => (∃ AB, e = .returned (.slice (some ⟨AB, 0, none⟩) n n) ∧ w.heap.size ≤ AB ∧ AB < w'.heap.size ∧ (∃ vs : List Value, w'.heap[AB]? = some (.cells vs.toArray 22 (0, 0))) ∧ ∀ x, x < n → ∃ v, w'.cell? ⟨AB, x, none⟩ = some v ∧ RW w' v N.arcs x fun b => b < w'.heap.size) ∧ Below w.heap.size w w' := by
  by_cases hs : Srt N.arcs
  · exact byFrom_sorted w N n hv a1 a2 m c1 k c2 hmc hcc hnil h hs
  · exact byFrom_mixed w N n hv a1 a2 m c1 k c2 hmc hcc hnil h hs hm6
end Go.Proofs.YtogpnlkjcdedlaaDoor
end
