/-
  RopeChunks, for every input: the law returns true and leaves its arguments as they read. No condition.
-/
import Derived.Test.YtaafnodabjbakaaRows
import Derived.Test.YtaafnodabjbakaaJ
import Derived.WalkKit
import Derived.ProofKit
import Derived.OpenShut
import Derived.ShutString
namespace Go.Proofs.Ytaafnodabjbakaa.ropeChunks
open Go.ChangeShapes Go.WideShapes Go.ChangeAt Go.RowKit
open Go.ChangeMaps (open_string shut_string)
set_option linter.unusedVariables false      -- a walk need not use every 'w<i>' (that an integer argument fits its kind)

theorem own : ownKnob Try.prog.godebug = none := by kernel_rfl

theorem takeD {P : Program} {ops : Array Oper} {Q : Exit → Act → World → Prop} {md : Region.Mode} {S : World → Prop} {i k : Nat} {oi : Oper} {v : Value} {fuel : Nat} {listed : Array Bool} {tmps : Array Value} {ds : List Deferred} {w : World} (hi : ops[i]? = some oi) (hd : oi.dst = some k)
    (hs : Region.noSelect ops = true) (hf : Region.free md ops listed i = true) (hr : (Region.ready md ops listed).contains i = true)
    (hQ : ∀ c a w, Q (.panic c) (a.put oi.dst v) w → Q (.panic c) a w) (hy : YieldsIf P ops S oi v { tmps := tmps, defers := ds }) (hS : S w)
    (h : wpAnyH P md ops Q S fuel (listed.setIfInBounds i true) { tmps := tmps.setIfInBounds k v, defers := ds } w) : wpAnyH P md ops Q S (fuel + 1) listed { tmps := tmps, defers := ds } w := by
  refine wpAnyH_take hi hs hf hr hQ hy hS ?_
  rw [hd]
  exact h

theorem jn_pre (pre : List Pc) (s : ByteArray) (h : px pre <+: s.data.toList) : (jn pre).size ≤ s.size ∧ s.extract 0 (jn pre).size = jn pre := by
  have e : (jn pre).size = (px pre).length := by simp [jn, ByteArray.size]
  have hl : (px pre).length ≤ s.size := by have := h.length_le; simpa using this
  refine ⟨by omega, ?_⟩
  apply ByteArray.ext
  apply Array.toList_inj.1
  rw [extract_toList, e, List.drop_zero, Nat.sub_zero]
  have := List.prefix_iff_eq_take.1 h
  rw [← this]
  simp [jn]

attribute [local go_sem] Oper.semAt_some

theorem small (a0 a1 : ByteArray) (a2 : Int) (w : World) (hx : 1000 < a0.size ∨ (a0.size ≤ 1000 ∧ 1000 < a1.size)) :
    Calls Try.prog 9 #[.string a0, .string a1, .int .u8 a2] w fun e w' => e = .returned (.bool true) ∧ Below w.heap.size w w' := by
  have b1 : Below w.heap.size w (w.alloc (.cells #[.int .u8 a2] 5)) := (Below.refl _ _).alloc (Nat.le_refl _) _
  rcases hx with h | ⟨h, g⟩
  · have h' : (1000 : Int) < (a0.size : Int) := by omega
    go_enter Try.func9, Try.ntmps9
    go_wp2_with fail
    refine (awake_any _).mono ?_
    rintro e w1 ⟨rfl, hb1⟩
    go_wp2
    go_ret
    exact ⟨rfl, b1.trans (hb1.mono b1.size)⟩
  · have h' : (a0.size : Int) ≤ 1000 := by omega
    have g' : (1000 : Int) < (a1.size : Int) := by omega
    go_enter Try.func9, Try.ntmps9
    go_wp2_with fail
    refine (awake_any _).mono ?_
    rintro e w1 ⟨rfl, hb1⟩
    go_wp2
    go_ret
    exact ⟨rfl, b1.trans (hb1.mono b1.size)⟩

set_option maxRecDepth 100000 in
set_option maxHeartbeats 4000000 in
theorem main (a0 a1 : ByteArray) (w : World) (h0 : a0.size ≤ 1000) (h1 : a1.size ≤ 1000) (m : Nat) (hm : m < 256) :
    Calls Try.prog 9 #[.string a0, .string a1, .int .u8 m] w fun e w' => e = .returned (.bool true) ∧ Below w.heap.size w w' := by
  have i0 : (a0.size : Int) ≤ 1000 := by omega
  have i1 : (a1.size : Int) ≤ 1000 := by omega
  have n01 : ¬ 9223372036854775807 < a0.size + a1.size := by omega
  have T := hid (show (a0 ++ a1).data.toList = a0.data.toList ++ a1.data.toList by simp only [ByteArray.data_append, Array.toList_append])
  have z01 : (a0 ++ a1).size ≤ 2000 := by rw [ByteArray.size_append]; omega
  obtain ⟨V, hV⟩ : ∃ V, V = w.alloc (.cells #[.int .u8 m] 5) := ⟨_, rfl⟩
  have bV : Below w.heap.size w V := by rw [hV]; exact (Below.refl _ _).alloc (Nat.le_refl _) _
  have xV : Bx V w.heap.size (.int .u8 m) 5 := by rw [hV]; exact alloc_new _ _
  have HV := hid hV
  have hle := bV.size
  have hlV := heap_lt xV
  clear hV
  refine (callsIn_wide (n := 6)).1 ?_
  refine callsIn_of_wp_marks Try.func9 rfl trivial ?_ rfl
  simp only [Try.ntmps9, List.size_toArray, List.length_cons, List.length_nil, Nat.reduceAdd, Nat.reduceSub, Array.replicate_succ, Array.replicate_zero, List.push_toArray, List.append_toArray, List.nil_append, List.cons_append]
  refine wpIn_wide.2 ?_
  go_wp2_with fail
  rw [← HV.out]
  refine (New_any a0 V (by omega)).mono ?_
  rintro e w1 ⟨p, rfl, hp, hb1⟩
  go_wp2_with fail
  refine (New_any a1 w1 (by omega)).mono ?_
  rintro e w2' ⟨q, rfl, hq, hb2⟩
  go_wp2_with fail
  refine (Concat_any p q _ _ w2' (hp.below hb2) hq (by simp; omega)).mono ?_
  rintro e w3 ⟨r, rfl, hr, hb3⟩
  have hb13 := hb1.trans ((hb2.trans (hb3.mono hb2.size)).mono hb1.size)
  rw [← T.out] at hr
  clear hp hq hb1 hb2 hb3
  obtain ⟨U, hU⟩ : ∃ U, U = w3.alloc (.cells #[.pointer r] 26) := ⟨_, rfl⟩
  have bU : Below w3.heap.size w3 U := by rw [hU]; exact (Below.refl _ _).alloc (Nat.le_refl _) _
  have xU : Bx U w3.heap.size (.pointer r) 26 := by rw [hU]; exact alloc_new _ _
  have HU := hid hU
  have hVU := hb13.trans (bU.mono hb13.size)
  have hrU := hr.below bU
  have KU := hid (show ∀ W', Below U.heap.size U W' → Bx W' w3.heap.size (.pointer r) 26 ∧ Bx W' w.heap.size (.int .u8 m) 5 from fun W' hb =>
    ⟨(hb.block _ (heap_lt xU)).trans xU, ((hVU.trans (hb.mono hVU.size)).block _ hlV).trans xV⟩)
  clear hU bU hr hb13 xU
  have k0 := (KU.out _ (Below.refl _ U)).1.cell
  go_wp2_with fail
  rw [← HU.out]
  refine (joined_any r (a0 ++ a1) U hrU (by omega)).mono ?_
  rintro e y1 ⟨rfl, g1⟩
  have k1 := (KU.out _ g1).1.cell
  go_wp2_with fail
  refine (joined_any r (a0 ++ a1) y1 (hrU.below g1) (by omega)).mono ?_
  rintro e y2 ⟨rfl, g2'⟩
  have g2 := g1.trans (g2'.mono g1.size)
  obtain ⟨k2, k3⟩ := KU.out _ g2
  have k2c := k2.cell
  have hr2 := hrU.below g2
  obtain ⟨X, hX⟩ : ∃ X, X = (y2.alloc (.cells #[.string { data := #[] }] 9)).alloc (.cells #[.int .i64 0] 3) := ⟨_, rfl⟩
  have bX : Below y2.heap.size y2 X := by rw [hX]; exact ((Below.refl _ _).alloc (Nat.le_refl _) _).alloc (by simp) _
  have kX : X.cell? ⟨w3.heap.size, 0, none⟩ = some (.pointer r) := cell_of_one ((bX.block _ (heap_lt k2)).trans k2)
  have kX' := kX
  rw [hX] at kX'
  go_wp2_with (go_at_call 24; refine (Chunks_any r _).mono ?_; rintro e w3 ⟨rfl, rfl⟩)
  have HX := hid hX
  rw [← HX.out]
  obtain ⟨Y, hY⟩ : ∃ Y, Y = X.alloc (.cells #[.pointer r] 26) := ⟨_, rfl⟩
  have bY : Below y2.heap.size y2 Y := by rw [hY]; exact bX.alloc bX.size _
  have hXs : X.heap.size = y2.heap.size + 1 + 1 := by rw [hX]; simp
  have x0 : Bx Y y2.heap.size (.string (jn [])) 9 := by
    unfold Bx
    rw [show jn [] = { data := #[] } from rfl, hY, Below.heap_alloc _ _ _ (by rw [hXs]; omega), hX, Below.heap_alloc _ _ _ (by simp)]
    exact alloc_new _ _
  have x1 : Bx Y (y2.heap.size + 1) (.int .i64 0) 3 := by
    unfold Bx
    rw [hY, Below.heap_alloc _ _ _ (by rw [hXs]; omega), hX]
    have := alloc_new (y2.alloc (.cells #[.string { data := #[] }] 9)) (.cells #[.int .i64 0] 3)
    simpa using this
  have x2 : Y.heap[y2.heap.size + 1 + 1]? = some (.cells #[.pointer r] 26 (0, 0)) := by
    rw [hY, ← hXs]; exact alloc_new _ _
  have hYs : Y.heap.size = y2.heap.size + 3 := by rw [hY]; simp [hXs]
  have HY := hid hY
  rw [← HY.out]
  have hl : (a0 ++ a1).data.toList.length = (a0 ++ a1).size := by simp
  have hm5 : ∀ W', Below y2.heap.size y2 W' → W'.cell? ⟨w.heap.size, 0, none⟩ = some (.int .u8 m) := fun W' hb => cell_of_one ((hb.block _ (heap_lt k3)).trans k3)
  have M5 := hid hm5
  clear hX hY hm5 bX
  have BW : Below w.heap.size w y2 := by
    have b1 := hVU.trans (g2.mono hVU.size)
    exact bV.trans (b1.mono hle)
  have ob : OwnFrom Y.heap.size (fun (_ : List Pc) W' => Below y2.heap.size y2 W') := ownFrom_below (Nat.le_refl _) (by omega)
  refine (wpIn_wide (n := 6)).1 ?_
  refine wpIn_rangeFunc_ownF (n := 6) rfl (by omega) (gf := 37) (lb := #[.pointer (some ⟨y2.heap.size + 1 + 1, 0, none⟩)]) rfl trivial (enters_of Try.func37 (by kernel_rfl) rfl)
    (chunks_stops 5 (y2.heap.size + 1 + 1) y2.heap.size Y r (a0 ++ a1).data.toList (by omega) y2 rfl hr2 bY x2) belowK_t (belowK_b (by omega)) (Below.refl _ _) (fun _ => rfl)
    (fun pre W' => (Bx W' y2.heap.size (.string (jn pre)) 9 ∧ Bx W' (y2.heap.size + 1) (.int .i64 pre.length) 3) ∧ (Below y2.heap.size y2 W' ∧ pre.length ≤ m % 8))
    (fun c xs W' => c = .exit 0 ∧ ∃ pre x, xs = pre ++ [x] ∧ ((Bx W' y2.heap.size (.string (jn pre)) 9 ∧ Bx W' (y2.heap.size + 1) (.int .i64 pre.length) 3) ∧ (Below y2.heap.size y2 W' ∧ pre.length = m % 8)))
    (OwnFrom.and (fun s A B row hs hg hr => ⟨hs.1.own hg (fun r e => (hr r e).2), hs.2.own hg (fun r e => (hr r e).2)⟩) (OwnFrom.and (ownFrom_below (Nat.le_refl _) (by omega)) (fun s A B row hs hg hr => hs)))
    (fun c xs A B row hs hg hr => by
      obtain ⟨hc, pre, x, hxs, ⟨h1, h2⟩, h3, h4⟩ := hs
      exact ⟨hc, pre, x, hxs, ⟨h1.own hg (fun r e => (hr r e).2), h2.own hg (fun r e => (hr r e).2)⟩, ob xs A B row h3 hg hr, h4⟩)
    ⟨⟨x0, x1⟩, bY, Nat.zero_le _⟩
    ?a1 ?assign ?body ?done ?stop
  case assign =>
    intro l x W K hK
    gi_wp2
    exact hK
  case body =>
    rintro l pre x W' ⟨⟨h5, h6⟩, hB, hle8⟩ hpl
    have h1 := x.2.1
    have h2 := x.2.2
    have h3 := jn_size pre
    have c5 := h5.cell
    have f5 := h5.free
    have c6 := h6.cell
    have f6 := h6.free
    have m5 := M5.out _ hB
    have n02 : ¬ 9223372036854775807 < (jn pre).size + x.1.size := by omega
    have H := hid (And.intro h5 (And.intro h6 hB))
    by_cases hq : pre.length = m % 8
    · gi_wp2
      obtain ⟨g5, g6, gB⟩ := H.out
      exact ⟨KeepsOthers.refl _, rfl, pre, x, rfl, ⟨g5, g6⟩, gB, hq⟩
    · gi_wp2
      obtain ⟨g5, g6, gB⟩ := H.out
      have q6 := g6.other ⟨y2.heap.size, 0, none⟩ (by simp) (.string (jn pre ++ x.1))
      have bK : ∀ {Z : World}, Below y2.heap.size Z W' → Below y2.heap.size Z ((W'.setCell ⟨y2.heap.size, 0, none⟩ (.string (jn pre ++ x.1))).setCell ⟨y2.heap.size + 1, 0, none⟩ (.int .i64 ((pre.length : Int) + 1))) :=
        fun hZ => (hZ.setCell (p := ⟨y2.heap.size, 0, none⟩) (Nat.le_refl _) _).setCell (p := ⟨y2.heap.size + 1, 0, none⟩) (Nat.le_succ _) _
      refine ⟨(g5.keeps _).trans (q6.keeps _), bK (Below.refl _ _), ⟨by rw [jn_snoc]; exact (g5.set _).other _ (by simp) _, ?_⟩, bK gB, by rw [List.length_append]; simp; omega⟩
      have := q6.set (.int .i64 ((pre.length : Int) + 1))
      simpa using this
  case done =>
    rintro D ys W' hD hys ⟨⟨h5, h6⟩, hB, hle8⟩ hK
    have hj : jn ys = a0 ++ a1 := by unfold jn; rw [hys]
    obtain ⟨e1, e2⟩ := jn_pre ys (a0 ++ a1) (by rw [hys]; exact List.prefix_rfl)
    obtain ⟨sp, hsp⟩ : ∃ sp, sp = jn ys := ⟨_, rfl⟩
    obtain ⟨n, hn⟩ : ∃ n, n = ys.length := ⟨_, rfl⟩
    rw [← hsp] at h5 hj e1 e2
    rw [← hn] at h6 hle8
    have HS := hid (show ∀ A, Below W'.heap.size W' A → A.cell? ⟨y2.heap.size, 0, none⟩ = some (.string sp) ∧ A.cell? ⟨y2.heap.size + 1, 0, none⟩ = some (.int .i64 n) ∧ A.cell? ⟨w.heap.size, 0, none⟩ = some (.int .u8 m) from fun A hA =>
      ⟨cell_of_one ((hA.block _ (heap_lt h5)).trans h5), cell_of_one ((hA.block _ (heap_lt h6)).trans h6), M5.out _ (hB.trans (hA.mono hB.size))⟩)
    obtain ⟨c5, c6, m5⟩ := HS.out _ (Below.refl _ W')
    have HK := hid hK
    have e1' : (sp.size : Int) ≤ ((a0 ++ a1).size : Int) := by omega
    clear hK h5 h6 hsp hn hys
    have s0 : (0 : Int) ≤ (sp.size : Int) := by omega
    go_wp2_with fail
    clear e1'
    generalize a0 ++ a1 = s at *
    have t8 : (m : Int).tmod 8 = (m : Int) % 8 := Int.tmod_eq_emod_of_nonneg (by omega)
    have w8 : IntKind.i64.wrap ((m : Int) % 8) = (m : Int) % 8 := wrapIn (by omega) (by omega)
    subst hj
    have e1' : (sp.size : Int) ≤ (sp.size : Int) := Int.le_refl _
    by_cases hq : n = m % 8
    · have hq1 : (n : Int) = (m : Int) % 8 := by omega
      clear hq
      refine wp_region_noPanic ?_
      refine wp_region_held_drew (S := fun A => A.cell? ⟨y2.heap.size, 0, none⟩ = some (.string sp) ∧ A.cell? ⟨y2.heap.size + 1, 0, none⟩ = some (.int .i64 n) ∧ A.cell? ⟨w.heap.size, 0, none⟩ = some (.int .u8 m)) (by kernel_rfl) ⟨c5, c6, m5⟩ (fun hHeld => ?_)
      refine callW (i := 0) (oi := _) rfl (by kernel_rfl) (fun K hK => ?_)
      go_simp
      refine (awake_any W'.drew).mono ?_
      rintro e z1 ⟨rfl, g1'⟩
      have g1 := undrew g1'
      clear hHeld
      refine hK.out _ _ (HS.out _ g1) (fun hHeld => ?_)
      clear hK K
      (try simp only [Act.put, List.setIfInBounds_toArray, List.set_cons_zero, List.set_cons_succ])
      refine takeD (i := 1) (k := 73) (oi := _) (v := ?v1) rfl rfl (by kernel_rfl) (by kernel_rfl) (by kernel_rfl) (fun _ _ _ h => h) (Or.inl ⟨by rfl, ?y1⟩) hHeld ?r1
      case y1 => (intro w' hSw; (try dsimp only at hSw); go_simp; first | done | with_reducible rfl)
      simp only [List.setIfInBounds_toArray, List.set_cons_zero, List.set_cons_succ]
      refine takeD (i := 2) (k := 74) (oi := _) (v := ?v2) rfl rfl (by kernel_rfl) (by kernel_rfl) (by kernel_rfl) (fun _ _ _ h => h) (Or.inl ⟨by rfl, ?y2⟩) hHeld ?r2
      case y2 => (intro w' hSw; (try dsimp only at hSw); go_simp; first | done | with_reducible rfl)
      simp only [List.setIfInBounds_toArray, List.set_cons_zero, List.set_cons_succ]
      refine takeD (i := 3) (k := 75) (oi := _) (v := ?v3) rfl rfl (by kernel_rfl) (by kernel_rfl) (by kernel_rfl) (fun _ _ _ h => h) (Or.inl ⟨by rfl, ?y3⟩) hHeld ?r3
      case y3 => (intro w' hSw; (try dsimp only at hSw); go_simp; first | done | with_reducible rfl)
      simp only [List.setIfInBounds_toArray, List.set_cons_zero, List.set_cons_succ]
      refine takeD (i := 4) (k := 76) (oi := _) (v := ?v4) rfl rfl (by kernel_rfl) (by kernel_rfl) (by kernel_rfl) (fun _ _ _ h => h) (Or.inl ⟨by rfl, ?y4⟩) hHeld ?r4
      case y4 => (intro w' hSw; (try dsimp only at hSw); go_simp; first | done | with_reducible rfl)
      simp only [List.setIfInBounds_toArray, List.set_cons_zero, List.set_cons_succ]
      refine takeD (i := 5) (k := 77) (oi := _) (v := ?v5) rfl rfl (by kernel_rfl) (by kernel_rfl) (by kernel_rfl) (fun _ _ _ h => h) (Or.inl ⟨by rfl, ?y5⟩) hHeld ?r5
      case y5 => (intro w' hSw; (try dsimp only at hSw); go_simp; first | done | with_reducible rfl)
      simp only [List.setIfInBounds_toArray, List.set_cons_zero, List.set_cons_succ]
      refine takeD (i := 6) (k := 78) (oi := _) (v := ?v6) rfl rfl (by kernel_rfl) (by kernel_rfl) (by kernel_rfl) (fun _ _ _ h => h) (Or.inl ⟨by rfl, ?y6⟩) hHeld ?r6
      case y6 => (intro w' hSw; (try dsimp only at hSw); go_simp; first | done | with_reducible rfl)
      simp only [List.setIfInBounds_toArray, List.set_cons_zero, List.set_cons_succ]
      refine takeD (i := 7) (k := 79) (oi := _) (v := ?v7) rfl rfl (by kernel_rfl) (by kernel_rfl) (by kernel_rfl) (fun _ _ _ h => h) (Or.inl ⟨by rfl, ?y7⟩) hHeld ?r7
      case y7 => (intro w' hSw; (try dsimp only at hSw); go_simp; first | done | with_reducible rfl)
      simp only [List.setIfInBounds_toArray, List.set_cons_zero, List.set_cons_succ]
      refine takeD (i := 8) (k := 80) (oi := _) (v := ?v8) rfl rfl (by kernel_rfl) (by kernel_rfl) (by kernel_rfl) (fun _ _ _ h => h) (Or.inl ⟨by rfl, ?y8⟩) hHeld ?r8
      case y8 => (intro w' hSw; (try dsimp only at hSw); go_simp; first | done | with_reducible rfl)
      simp only [List.setIfInBounds_toArray, List.set_cons_zero, List.set_cons_succ]
      refine takeD (i := 9) (k := 81) (oi := _) (v := ?v9) rfl rfl (by kernel_rfl) (by kernel_rfl) (by kernel_rfl) (fun _ _ _ h => h) (Or.inl ⟨by rfl, ?y9⟩) hHeld ?r9
      case y9 => (intro w' hSw; (try dsimp only at hSw); go_simp; first | done | with_reducible rfl)
      simp only [List.setIfInBounds_toArray, List.set_cons_zero, List.set_cons_succ]
      refine takeD (i := 10) (k := 82) (oi := _) (v := ?v10) rfl rfl (by kernel_rfl) (by kernel_rfl) (by kernel_rfl) (fun _ _ _ h => h) (Or.inl ⟨by rfl, ?y10⟩) hHeld ?r10
      case y10 => (intro w' hSw; (try dsimp only at hSw); go_simp; first | done | with_reducible rfl)
      simp only [List.setIfInBounds_toArray, List.set_cons_zero, List.set_cons_succ]
      refine takeD (i := 11) (k := 83) (oi := _) (v := ?v11) rfl rfl (by kernel_rfl) (by kernel_rfl) (by kernel_rfl) (fun _ _ _ h => h) (Or.inl ⟨by rfl, ?y11⟩) hHeld ?r11
      case y11 => (intro w' hSw; (try dsimp only at hSw); go_simp; first | done | with_reducible rfl)
      simp only [List.setIfInBounds_toArray, List.set_cons_zero, List.set_cons_succ]
      refine takeD (i := 12) (k := 84) (oi := _) (v := ?v12) rfl rfl (by kernel_rfl) (by kernel_rfl) (by kernel_rfl) (fun _ _ _ h => h) (Or.inl ⟨by rfl, ?y12⟩) hHeld ?r12
      case y12 => (intro w' hSw; (try dsimp only at hSw); go_simp; first | done | with_reducible rfl)
      simp only [List.setIfInBounds_toArray, List.set_cons_zero, List.set_cons_succ]
      refine takeD (i := 13) (k := 85) (oi := _) (v := ?v13) rfl rfl (by kernel_rfl) (by kernel_rfl) (by kernel_rfl) (fun _ _ _ h => h) (Or.inl ⟨by rfl, ?y13⟩) hHeld ?r13
      case y13 => (intro w' hSw; (try dsimp only at hSw); go_simp; first | done | with_reducible rfl)
      simp only [List.setIfInBounds_toArray, List.set_cons_zero, List.set_cons_succ]
      refine takeD (i := 14) (k := 86) (oi := _) (v := ?v14) rfl rfl (by kernel_rfl) (by kernel_rfl) (by kernel_rfl) (fun _ _ _ h => h) (Or.inl ⟨by rfl, ?y14⟩) hHeld ?r14
      case y14 => (intro w' hSw; (try dsimp only at hSw); go_simp; first | done | with_reducible rfl)
      simp only [List.setIfInBounds_toArray, List.set_cons_zero, List.set_cons_succ]
      refine takeD (i := 15) (k := 87) (oi := _) (v := ?v15) rfl rfl (by kernel_rfl) (by kernel_rfl) (by kernel_rfl) (fun _ _ _ h => h) (Or.inl ⟨by rfl, ?y15⟩) hHeld ?r15
      case y15 => (intro w' hSw; (try dsimp only at hSw); go_simp; first | done | with_reducible rfl)
      simp only [List.setIfInBounds_toArray, List.set_cons_zero, List.set_cons_succ]
      refine takeD (i := 16) (k := 88) (oi := _) (v := ?v16) rfl rfl (by kernel_rfl) (by kernel_rfl) (by kernel_rfl) (fun _ _ _ h => h) (Or.inl ⟨by rfl, ?y16⟩) hHeld ?r16
      case y16 => (intro w' hSw; (try dsimp only at hSw); go_simp; first | done | with_reducible rfl)
      simp only [List.setIfInBounds_toArray, List.set_cons_zero, List.set_cons_succ]
      refine takeD (i := 17) (k := 89) (oi := _) (v := ?v17) rfl rfl (by kernel_rfl) (by kernel_rfl) (by kernel_rfl) (fun _ _ _ h => h) (Or.inl ⟨by rfl, ?y17⟩) hHeld ?r17
      case y17 => (intro w' hSw; (try dsimp only at hSw); go_simp; first | done | with_reducible rfl)
      simp only [List.setIfInBounds_toArray, List.set_cons_zero, List.set_cons_succ]
      refine takeD (i := 18) (k := 90) (oi := _) (v := ?v18) rfl rfl (by kernel_rfl) (by kernel_rfl) (by kernel_rfl) (fun _ _ _ h => h) (Or.inl ⟨by rfl, ?y18⟩) hHeld ?r18
      case y18 => (intro w' hSw; (try dsimp only at hSw); go_simp; first | done | with_reducible rfl)
      simp only [List.setIfInBounds_toArray, List.set_cons_zero, List.set_cons_succ]
      refine takeD (i := 19) (k := 91) (oi := _) (v := ?v19) rfl rfl (by kernel_rfl) (by kernel_rfl) (by kernel_rfl) (fun _ _ _ h => h) (Or.inl ⟨by rfl, ?y19⟩) hHeld ?r19
      case y19 => (intro w' hSw; (try dsimp only at hSw); go_simp; first | done | with_reducible rfl)
      simp only [List.setIfInBounds_toArray, List.set_cons_zero, List.set_cons_succ]
      refine takeD (i := 20) (k := 92) (oi := _) (v := ?v20) rfl rfl (by kernel_rfl) (by kernel_rfl) (by kernel_rfl) (fun _ _ _ h => h) (Or.inl ⟨by rfl, ?y20⟩) hHeld ?r20
      case y20 => (intro w' hSw; (try dsimp only at hSw); go_simp; first | done | with_reducible rfl)
      simp only [List.setIfInBounds_toArray, List.set_cons_zero, List.set_cons_succ]
      refine takeD (i := 21) (k := 93) (oi := _) (v := ?v21) rfl rfl (by kernel_rfl) (by kernel_rfl) (by kernel_rfl) (fun _ _ _ h => h) (Or.inl ⟨by rfl, ?y21⟩) hHeld ?r21
      case y21 => (intro w' hSw; (try dsimp only at hSw); go_simp; first | done | with_reducible rfl)
      simp only [List.setIfInBounds_toArray, List.set_cons_zero, List.set_cons_succ]
      refine takeD (i := 22) (k := 94) (oi := _) (v := ?v22) rfl rfl (by kernel_rfl) (by kernel_rfl) (by kernel_rfl) (fun _ _ _ h => h) (Or.inl ⟨by rfl, ?y22⟩) hHeld ?r22
      case y22 => (intro w' hSw; (try dsimp only at hSw); go_simp; first | done | with_reducible rfl)
      simp only [List.setIfInBounds_toArray, List.set_cons_zero, List.set_cons_succ]
      refine takeD (i := 23) (k := 95) (oi := _) (v := undef) rfl rfl (by kernel_rfl) (by kernel_rfl) (by kernel_rfl) (fun _ _ _ h => h) (Or.inr ⟨by rfl, rfl⟩) hHeld ?_
      simp only [List.setIfInBounds_toArray, List.set_cons_zero, List.set_cons_succ]
      refine takeD (i := 24) (k := 96) (oi := _) (v := undef) rfl rfl (by kernel_rfl) (by kernel_rfl) (by kernel_rfl) (fun _ _ _ h => h) (Or.inr ⟨by rfl, rfl⟩) hHeld ?_
      simp only [List.setIfInBounds_toArray, List.set_cons_zero, List.set_cons_succ]
      refine takeD (i := 25) (k := 97) (oi := _) (v := undef) rfl rfl (by kernel_rfl) (by kernel_rfl) (by kernel_rfl) (fun _ _ _ h => h) (Or.inr ⟨by rfl, rfl⟩) hHeld ?_
      simp only [List.setIfInBounds_toArray, List.set_cons_zero, List.set_cons_succ]
      refine takeD (i := 26) (k := 98) (oi := _) (v := ?v26) rfl rfl (by kernel_rfl) (by kernel_rfl) (by kernel_rfl) (fun _ _ _ h => h) (Or.inl ⟨by rfl, ?y26⟩) hHeld ?r26
      case y26 => (intro w' hSw; (try dsimp only at hSw); go_simp; first | done | with_reducible rfl)
      simp only [List.setIfInBounds_toArray, List.set_cons_zero, List.set_cons_succ]
      refine takeD (i := 27) (k := 99) (oi := _) (v := ?v27) rfl rfl (by kernel_rfl) (by kernel_rfl) (by kernel_rfl) (fun _ _ _ h => h) (Or.inl ⟨by rfl, ?y27⟩) hHeld ?r27
      case y27 => (intro w' hSw; (try dsimp only at hSw); go_simp; first | done | with_reducible rfl)
      simp only [List.setIfInBounds_toArray, List.set_cons_zero, List.set_cons_succ]
      refine takeD (i := 28) (k := 6) (oi := _) (v := ?v28) rfl rfl (by kernel_rfl) (by kernel_rfl) (by kernel_rfl) (fun _ _ _ h => h) (Or.inl ⟨by rfl, ?y28⟩) hHeld ?r28
      case y28 => (intro w' hSw; (try dsimp only at hSw); go_simp; first | done | with_reducible rfl)
      simp only [List.setIfInBounds_toArray, List.set_cons_zero, List.set_cons_succ]
      refine wpAnyH_done (by kernel_rfl) (NoPanic.normal ?_) _
      go_wp2
      have hK4 := (g1.block D (heap_lt HK.out)).trans HK.out
      refine ⟨by simp, .inl ⟨_, _, rfl, run_takeDeferred hK4, ?_⟩⟩
      exact ⟨_, results_tmp rfl _ _ _, rfl, (BW.trans ((hB.trans (g1.mono hB.size)).mono BW.size)).trans (belowK_b (w := w) (Nat.le_refl _) _ D _ _ (by have := BW.size; have := bY.size; omega) hK4 rfl rfl)⟩
    · have hq1 : ¬ (n : Int) = (m : Int) % 8 := by omega
      have hq2 : ((n : Int) == (m : Int) % 8) = false := by simp; omega
      have hq3 : decide ((n : Int) = (m : Int) % 8) = false := by simp; omega
      clear hq
      go_region_held3 (fun A => A.cell? ⟨y2.heap.size, 0, none⟩ = some (.string sp) ∧ A.cell? ⟨y2.heap.size + 1, 0, none⟩ = some (.int .i64 n) ∧ A.cell? ⟨w.heap.size, 0, none⟩ = some (.int .u8 m))
        (first | exact ⟨c5, c6, m5⟩ | exact HS.out _ g1)
      (first | (go_at_call 11; (with_reducible refine (awake_any W'.drew).mono ?_); rintro e z1 ⟨rfl, g1'⟩; have g1 := undrew g1'))
      go_wp2
      have hK4 := (g1.block D (heap_lt HK.out)).trans HK.out
      refine ⟨by simp, .inl ⟨_, _, rfl, run_takeDeferred hK4, ?_⟩⟩
      exact ⟨_, results_tmp rfl _ _ _, rfl, (BW.trans ((hB.trans (g1.mono hB.size)).mono BW.size)).trans (belowK_b (w := w) (Nat.le_refl _) _ D _ _ (by have := BW.size; have := bY.size; omega) hK4 rfl rfl)⟩
  case stop =>
    rintro D c xs W' hD hpx ⟨rfl, pre, x, rfl, ⟨h5, h6⟩, hB, hK8⟩ hK
    obtain ⟨e1, e2⟩ := jn_pre pre (a0 ++ a1) (List.IsPrefix.trans ⟨px [x], (px_append pre [x]).symm⟩ hpx)
    obtain ⟨sp, hsp⟩ : ∃ sp, sp = jn pre := ⟨_, rfl⟩
    obtain ⟨n, hn⟩ : ∃ n, n = pre.length := ⟨_, rfl⟩
    rw [← hsp] at h5 e1 e2
    rw [← hn] at h6 hK8
    have HS := hid (show ∀ A, Below W'.heap.size W' A → A.cell? ⟨y2.heap.size, 0, none⟩ = some (.string sp) ∧ A.cell? ⟨y2.heap.size + 1, 0, none⟩ = some (.int .i64 n) ∧ A.cell? ⟨w.heap.size, 0, none⟩ = some (.int .u8 m) from fun A hA =>
      ⟨cell_of_one ((hA.block _ (heap_lt h5)).trans h5), cell_of_one ((hA.block _ (heap_lt h6)).trans h6), M5.out _ (hB.trans (hA.mono hB.size))⟩)
    obtain ⟨c5, c6, m5⟩ := HS.out _ (Below.refl _ W')
    have HK := hid hK
    clear hK h5 h6 hsp hn hpx
    have s0 : (0 : Int) ≤ (sp.size : Int) := by omega
    refine wpIn_wide.2 ?_
    go_wp2_with fail
    generalize a0 ++ a1 = s at *
    have t8 : (m : Int).tmod 8 = (m : Int) % 8 := Int.tmod_eq_emod_of_nonneg (by omega)
    have w8 : IntKind.i64.wrap ((m : Int) % 8) = (m : Int) % 8 := wrapIn (by omega) (by omega)
    have e1' : (sp.size : Int) ≤ (s.size : Int) := by omega
    have hq1 : (n : Int) = (m : Int) % 8 := by omega
    clear hK8
    · skip
      refine wp_region_noPanic ?_
      refine wp_region_held_drew (S := fun A => A.cell? ⟨y2.heap.size, 0, none⟩ = some (.string sp) ∧ A.cell? ⟨y2.heap.size + 1, 0, none⟩ = some (.int .i64 n) ∧ A.cell? ⟨w.heap.size, 0, none⟩ = some (.int .u8 m)) (by kernel_rfl) ⟨c5, c6, m5⟩ (fun hHeld => ?_)
      refine callW (i := 0) (oi := _) rfl (by kernel_rfl) (fun K hK => ?_)
      go_simp
      refine (awake_any W'.drew).mono ?_
      rintro e z1 ⟨rfl, g1'⟩
      have g1 := undrew g1'
      clear hHeld
      refine hK.out _ _ (HS.out _ g1) (fun hHeld => ?_)
      clear hK K
      (try simp only [Act.put, List.setIfInBounds_toArray, List.set_cons_zero, List.set_cons_succ])
      refine takeD (i := 1) (k := 73) (oi := _) (v := ?vb1) rfl rfl (by kernel_rfl) (by kernel_rfl) (by kernel_rfl) (fun _ _ _ h => h) (Or.inl ⟨by rfl, ?yb1⟩) hHeld ?rb1
      case yb1 => (intro w' hSw; (try dsimp only at hSw); go_simp; first | done | with_reducible rfl)
      simp only [List.setIfInBounds_toArray, List.set_cons_zero, List.set_cons_succ]
      refine takeD (i := 2) (k := 74) (oi := _) (v := ?vb2) rfl rfl (by kernel_rfl) (by kernel_rfl) (by kernel_rfl) (fun _ _ _ h => h) (Or.inl ⟨by rfl, ?yb2⟩) hHeld ?rb2
      case yb2 => (intro w' hSw; (try dsimp only at hSw); go_simp; first | done | with_reducible rfl)
      simp only [List.setIfInBounds_toArray, List.set_cons_zero, List.set_cons_succ]
      refine takeD (i := 3) (k := 75) (oi := _) (v := ?vb3) rfl rfl (by kernel_rfl) (by kernel_rfl) (by kernel_rfl) (fun _ _ _ h => h) (Or.inl ⟨by rfl, ?yb3⟩) hHeld ?rb3
      case yb3 => (intro w' hSw; (try dsimp only at hSw); go_simp; first | done | with_reducible rfl)
      simp only [List.setIfInBounds_toArray, List.set_cons_zero, List.set_cons_succ]
      refine takeD (i := 4) (k := 76) (oi := _) (v := ?vb4) rfl rfl (by kernel_rfl) (by kernel_rfl) (by kernel_rfl) (fun _ _ _ h => h) (Or.inl ⟨by rfl, ?yb4⟩) hHeld ?rb4
      case yb4 => (intro w' hSw; (try dsimp only at hSw); go_simp; first | done | with_reducible rfl)
      simp only [List.setIfInBounds_toArray, List.set_cons_zero, List.set_cons_succ]
      refine takeD (i := 5) (k := 77) (oi := _) (v := ?vb5) rfl rfl (by kernel_rfl) (by kernel_rfl) (by kernel_rfl) (fun _ _ _ h => h) (Or.inl ⟨by rfl, ?yb5⟩) hHeld ?rb5
      case yb5 => (intro w' hSw; (try dsimp only at hSw); go_simp; first | done | with_reducible rfl)
      simp only [List.setIfInBounds_toArray, List.set_cons_zero, List.set_cons_succ]
      refine takeD (i := 6) (k := 78) (oi := _) (v := ?vb6) rfl rfl (by kernel_rfl) (by kernel_rfl) (by kernel_rfl) (fun _ _ _ h => h) (Or.inl ⟨by rfl, ?yb6⟩) hHeld ?rb6
      case yb6 => (intro w' hSw; (try dsimp only at hSw); go_simp; first | done | with_reducible rfl)
      simp only [List.setIfInBounds_toArray, List.set_cons_zero, List.set_cons_succ]
      refine takeD (i := 7) (k := 79) (oi := _) (v := ?vb7) rfl rfl (by kernel_rfl) (by kernel_rfl) (by kernel_rfl) (fun _ _ _ h => h) (Or.inl ⟨by rfl, ?yb7⟩) hHeld ?rb7
      case yb7 => (intro w' hSw; (try dsimp only at hSw); go_simp; first | done | with_reducible rfl)
      simp only [List.setIfInBounds_toArray, List.set_cons_zero, List.set_cons_succ]
      refine takeD (i := 8) (k := 80) (oi := _) (v := ?vb8) rfl rfl (by kernel_rfl) (by kernel_rfl) (by kernel_rfl) (fun _ _ _ h => h) (Or.inl ⟨by rfl, ?yb8⟩) hHeld ?rb8
      case yb8 => (intro w' hSw; (try dsimp only at hSw); go_simp; first | done | with_reducible rfl)
      simp only [List.setIfInBounds_toArray, List.set_cons_zero, List.set_cons_succ]
      refine takeD (i := 9) (k := 81) (oi := _) (v := ?vb9) rfl rfl (by kernel_rfl) (by kernel_rfl) (by kernel_rfl) (fun _ _ _ h => h) (Or.inl ⟨by rfl, ?yb9⟩) hHeld ?rb9
      case yb9 => (intro w' hSw; (try dsimp only at hSw); go_simp; first | done | with_reducible rfl)
      simp only [List.setIfInBounds_toArray, List.set_cons_zero, List.set_cons_succ]
      refine takeD (i := 10) (k := 82) (oi := _) (v := ?vb10) rfl rfl (by kernel_rfl) (by kernel_rfl) (by kernel_rfl) (fun _ _ _ h => h) (Or.inl ⟨by rfl, ?yb10⟩) hHeld ?rb10
      case yb10 => (intro w' hSw; (try dsimp only at hSw); go_simp; first | done | with_reducible rfl)
      simp only [List.setIfInBounds_toArray, List.set_cons_zero, List.set_cons_succ]
      refine takeD (i := 11) (k := 83) (oi := _) (v := ?vb11) rfl rfl (by kernel_rfl) (by kernel_rfl) (by kernel_rfl) (fun _ _ _ h => h) (Or.inl ⟨by rfl, ?yb11⟩) hHeld ?rb11
      case yb11 => (intro w' hSw; (try dsimp only at hSw); go_simp; first | done | with_reducible rfl)
      simp only [List.setIfInBounds_toArray, List.set_cons_zero, List.set_cons_succ]
      refine takeD (i := 12) (k := 84) (oi := _) (v := ?vb12) rfl rfl (by kernel_rfl) (by kernel_rfl) (by kernel_rfl) (fun _ _ _ h => h) (Or.inl ⟨by rfl, ?yb12⟩) hHeld ?rb12
      case yb12 => (intro w' hSw; (try dsimp only at hSw); go_simp; first | done | with_reducible rfl)
      simp only [List.setIfInBounds_toArray, List.set_cons_zero, List.set_cons_succ]
      refine takeD (i := 13) (k := 85) (oi := _) (v := ?vb13) rfl rfl (by kernel_rfl) (by kernel_rfl) (by kernel_rfl) (fun _ _ _ h => h) (Or.inl ⟨by rfl, ?yb13⟩) hHeld ?rb13
      case yb13 => (intro w' hSw; (try dsimp only at hSw); go_simp; first | done | with_reducible rfl)
      simp only [List.setIfInBounds_toArray, List.set_cons_zero, List.set_cons_succ]
      refine takeD (i := 14) (k := 86) (oi := _) (v := ?vb14) rfl rfl (by kernel_rfl) (by kernel_rfl) (by kernel_rfl) (fun _ _ _ h => h) (Or.inl ⟨by rfl, ?yb14⟩) hHeld ?rb14
      case yb14 => (intro w' hSw; (try dsimp only at hSw); go_simp; first | done | with_reducible rfl)
      simp only [List.setIfInBounds_toArray, List.set_cons_zero, List.set_cons_succ]
      refine takeD (i := 15) (k := 87) (oi := _) (v := ?vb15) rfl rfl (by kernel_rfl) (by kernel_rfl) (by kernel_rfl) (fun _ _ _ h => h) (Or.inl ⟨by rfl, ?yb15⟩) hHeld ?rb15
      case yb15 => (intro w' hSw; (try dsimp only at hSw); go_simp; first | done | with_reducible rfl)
      simp only [List.setIfInBounds_toArray, List.set_cons_zero, List.set_cons_succ]
      refine takeD (i := 16) (k := 88) (oi := _) (v := ?vb16) rfl rfl (by kernel_rfl) (by kernel_rfl) (by kernel_rfl) (fun _ _ _ h => h) (Or.inl ⟨by rfl, ?yb16⟩) hHeld ?rb16
      case yb16 => (intro w' hSw; (try dsimp only at hSw); go_simp; first | done | with_reducible rfl)
      simp only [List.setIfInBounds_toArray, List.set_cons_zero, List.set_cons_succ]
      refine takeD (i := 17) (k := 89) (oi := _) (v := ?vb17) rfl rfl (by kernel_rfl) (by kernel_rfl) (by kernel_rfl) (fun _ _ _ h => h) (Or.inl ⟨by rfl, ?yb17⟩) hHeld ?rb17
      case yb17 => (intro w' hSw; (try dsimp only at hSw); go_simp; first | done | with_reducible rfl)
      simp only [List.setIfInBounds_toArray, List.set_cons_zero, List.set_cons_succ]
      refine takeD (i := 18) (k := 90) (oi := _) (v := ?vb18) rfl rfl (by kernel_rfl) (by kernel_rfl) (by kernel_rfl) (fun _ _ _ h => h) (Or.inl ⟨by rfl, ?yb18⟩) hHeld ?rb18
      case yb18 => (intro w' hSw; (try dsimp only at hSw); go_simp; first | done | with_reducible rfl)
      simp only [List.setIfInBounds_toArray, List.set_cons_zero, List.set_cons_succ]
      refine takeD (i := 19) (k := 91) (oi := _) (v := ?vb19) rfl rfl (by kernel_rfl) (by kernel_rfl) (by kernel_rfl) (fun _ _ _ h => h) (Or.inl ⟨by rfl, ?yb19⟩) hHeld ?rb19
      case yb19 => (intro w' hSw; (try dsimp only at hSw); go_simp; first | done | with_reducible rfl)
      simp only [List.setIfInBounds_toArray, List.set_cons_zero, List.set_cons_succ]
      refine takeD (i := 20) (k := 92) (oi := _) (v := ?vb20) rfl rfl (by kernel_rfl) (by kernel_rfl) (by kernel_rfl) (fun _ _ _ h => h) (Or.inl ⟨by rfl, ?yb20⟩) hHeld ?rb20
      case yb20 => (intro w' hSw; (try dsimp only at hSw); go_simp; first | done | with_reducible rfl)
      simp only [List.setIfInBounds_toArray, List.set_cons_zero, List.set_cons_succ]
      refine takeD (i := 21) (k := 93) (oi := _) (v := ?vb21) rfl rfl (by kernel_rfl) (by kernel_rfl) (by kernel_rfl) (fun _ _ _ h => h) (Or.inl ⟨by rfl, ?yb21⟩) hHeld ?rb21
      case yb21 => (intro w' hSw; (try dsimp only at hSw); go_simp; first | done | with_reducible rfl)
      simp only [List.setIfInBounds_toArray, List.set_cons_zero, List.set_cons_succ]
      refine takeD (i := 22) (k := 94) (oi := _) (v := ?vb22) rfl rfl (by kernel_rfl) (by kernel_rfl) (by kernel_rfl) (fun _ _ _ h => h) (Or.inl ⟨by rfl, ?yb22⟩) hHeld ?rb22
      case yb22 => (intro w' hSw; (try dsimp only at hSw); go_simp; first | done | with_reducible rfl)
      simp only [List.setIfInBounds_toArray, List.set_cons_zero, List.set_cons_succ]
      refine takeD (i := 23) (k := 95) (oi := _) (v := undef) rfl rfl (by kernel_rfl) (by kernel_rfl) (by kernel_rfl) (fun _ _ _ h => h) (Or.inr ⟨by rfl, rfl⟩) hHeld ?_
      simp only [List.setIfInBounds_toArray, List.set_cons_zero, List.set_cons_succ]
      refine takeD (i := 24) (k := 96) (oi := _) (v := undef) rfl rfl (by kernel_rfl) (by kernel_rfl) (by kernel_rfl) (fun _ _ _ h => h) (Or.inr ⟨by rfl, rfl⟩) hHeld ?_
      simp only [List.setIfInBounds_toArray, List.set_cons_zero, List.set_cons_succ]
      refine takeD (i := 25) (k := 97) (oi := _) (v := undef) rfl rfl (by kernel_rfl) (by kernel_rfl) (by kernel_rfl) (fun _ _ _ h => h) (Or.inr ⟨by rfl, rfl⟩) hHeld ?_
      simp only [List.setIfInBounds_toArray, List.set_cons_zero, List.set_cons_succ]
      refine takeD (i := 26) (k := 98) (oi := _) (v := ?vb26) rfl rfl (by kernel_rfl) (by kernel_rfl) (by kernel_rfl) (fun _ _ _ h => h) (Or.inl ⟨by rfl, ?yb26⟩) hHeld ?rb26
      case yb26 => (intro w' hSw; (try dsimp only at hSw); go_simp; first | done | with_reducible rfl)
      simp only [List.setIfInBounds_toArray, List.set_cons_zero, List.set_cons_succ]
      refine takeD (i := 27) (k := 99) (oi := _) (v := ?vb27) rfl rfl (by kernel_rfl) (by kernel_rfl) (by kernel_rfl) (fun _ _ _ h => h) (Or.inl ⟨by rfl, ?yb27⟩) hHeld ?rb27
      case yb27 => (intro w' hSw; (try dsimp only at hSw); go_simp; first | done | with_reducible rfl)
      simp only [List.setIfInBounds_toArray, List.set_cons_zero, List.set_cons_succ]
      refine takeD (i := 28) (k := 6) (oi := _) (v := ?vb28) rfl rfl (by kernel_rfl) (by kernel_rfl) (by kernel_rfl) (fun _ _ _ h => h) (Or.inl ⟨by rfl, ?yb28⟩) hHeld ?rb28
      case yb28 => (intro w' hSw; (try dsimp only at hSw); go_simp; first | done | with_reducible rfl)
      simp only [List.setIfInBounds_toArray, List.set_cons_zero, List.set_cons_succ]
      refine wpAnyH_done (by kernel_rfl) (NoPanic.normal ?_) _
      go_wp2
      have hK4 := (g1.block D (heap_lt HK.out)).trans HK.out
      refine ⟨by simp, .inl ⟨_, _, rfl, run_takeDeferred hK4, ?_⟩⟩
      exact ⟨_, results_tmp rfl _ _ _, rfl, (BW.trans ((hB.trans (g1.mono hB.size)).mono BW.size)).trans (belowK_b (w := w) (Nat.le_refl _) _ D _ _ (by have := BW.size; have := bY.size; omega) hK4 rfl rfl)⟩

theorem walk (a0 : ByteArray) (a1 : ByteArray) (a2 : Int) (w2 : (Lit.int .u8 a2).wf = true) (w : World) :
    Calls Try.prog 9 #[.string a0, .string a1, .int .u8 a2] w fun e w' => e = .returned (.bool true) ∧ Below w.heap.size w w' := by
  by_cases hx : 1000 < a0.size ∨ (a0.size ≤ 1000 ∧ 1000 < a1.size)
  · exact small a0 a1 a2 w hx
  · have hw : 0 ≤ a2 ∧ a2 < 256 := by
      simp [Lit.wf, IntKind.min, IntKind.max, IntKind.signed, IntKind.bits] at w2
      omega
    obtain ⟨m, rfl⟩ : ∃ m : Nat, a2 = m := ⟨a2.toNat, by omega⟩
    exact main a0 a1 w (by omega) (by omega) m (by omega)

/-! ### THE ROW's STEP: WRITTEN OUT: LEAVE IT -/
set_option maxRecDepth 100000 in
theorem lifted (os : Os) (started : os.Started) (H : Type) (enc : TypeId × Value → H) :
    ReturnsInHanded {} Try.checked os 9 .any (Rows.ropeChunksSpec.pre6 enc Try.prog Try.f9 Rows.ropeChunksRow.domain false) (Rows.ropeChunksSpec.post enc Try.prog Try.f9 false true false false) := by
  refine returnsInHanded_of_change (C := Try.checked) own started (by kernel_rfl) Try.func9
    (ChangeSpec.witness6 (enc := enc) (C := Try.checked) false ⟨#[], #[.string ByteArray.empty, .string ByteArray.empty, .int .u8 0], []⟩ 8 (by kernel_rfl) (by kernel_rfl) (by kernel_rfl) (by kernel_rfl)) ?_
  intro W base args ds gs before hval0 hW hcnd _
  have hval : ∀ (j : Nat) t v, Try.f9.params[j]? = some t → args[j]? = some v → Value.okWide Try.prog W .any base t v := hval0
  have hW' := hW
  obtain ⟨p, q, hA0, hV, rfl, hfz, hnd⟩ := hW
  have hA : DataW.TrodAll enc Try.prog W 0 (fun _ => true) true Try.f9.params.toList args.toList ds p := hA0
  rw [Try.params9] at hA hval
  obtain ⟨v0, vs0, d0, ds0, p0, q0, hargs, rfl, rfl, h0, r0⟩ := trodAll_cons hA
  obtain ⟨v1, vs1, d1, ds1, p1, q1, rfl, rfl, rfl, h1, r1⟩ := trodAll_cons r0
  obtain ⟨v2, vs2, d2, ds2, p2, q2, rfl, rfl, rfl, h2, r2⟩ := trodAll_cons r1
  obtain ⟨rfl, rfl, rfl⟩ := trodAll_nil r2
  obtain rfl : args = #[v0, v1, v2] := by cases args; simp_all
  obtain ⟨rfl, rfl⟩ := trodVars_none hV
  obtain ⟨a0, rfl, rfl, rfl, w0⟩ := open_string Try.underlying9 (hval 0 9 v0 rfl rfl) h0
  obtain ⟨a1, rfl, rfl, rfl, w1⟩ := open_string Try.underlying9 (hval 1 9 v1 rfl rfl) h1
  obtain ⟨a2, rfl, rfl, rfl, w2⟩ := open_int Try.underlying5 (hval 2 5 v2 rfl rfl) h2
  clear hA0 hval0
  simp only [List.append_nil] at hW'
  refine (walk a0 a1 a2 w2 W).mono fun e W' ⟨he, bel⟩ => ?_
  subst he
  exact ⟨_, rfl, _, _, _, [], _, [], hW', trodAll_mk1 (shut_bool Try.underlying4 _), (trodAll_cons_mk (shut_string Try.underlying9 w0) (trodAll_cons_mk (shut_string Try.underlying9 w1) (trodAll_cons_mk (shut_int Try.underlying5 w2) trodAll_mk0))), rfl, bel.frame _, fun h => by cases h⟩

theorem over : Rows.ropeChunksRow.holds Try.pinned (OpenSpec.ofChange Rows.ropeChunksSpec) :=
  OpenClaim.holds_of_wide 9 Try.f9 rfl rfl rfl rfl rfl rfl rfl ⟨rfl, rfl, rfl, rfl, rfl⟩ rfl rfl rfl rfl rfl (by kernel_rfl) Try.func9 (by kernel_rfl)
    (of_decide_eq_true (by kernel_rfl)) (by unfold Func.isWrapper; first | (rw [if_pos (by decide +kernel)]; kernel_rfl) | (rw [if_neg (by decide +kernel)]; exact ⟨rfl, rfl⟩))
    (fun os started H enc _ => lifted os started H enc)

/-- ████ THE STATEMENT ████ -/
theorem proved : Rows.RopeChunksSaid :=
  over
#print axioms proved
end Go.Proofs.Ytaafnodabjbakaa.ropeChunks
