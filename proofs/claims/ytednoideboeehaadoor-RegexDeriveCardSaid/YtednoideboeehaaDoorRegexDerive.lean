/-
  RegexDerive, for every input: the law returns true and leaves its arguments as they read. No condition beside the listed variable's own text (the card ties it).
-/
import Derived.Test.YtednoideboeehaaDoorZ05
import Derived.Test.YtednoideboeehaaDoorZ22
import Derived.Test.YtednoideboeehaaDoorZ24
import Derived.Test.YtednoideboeehaaDoorZ06
import Derived.Laws.IdiomStrings
set_option linter.unusedSimpArgs false
set_option linter.unusedVariables false
namespace Go.Proofs.YtednoideboeehaaDoor.regexDerive
open Go.ChangeShapes Go.WideShapes Go.ChangeAt Go.RowKit Go.Frame
open Go.ChangeMaps (open_string shut_string)
open Bs Rg
attribute [local irreducible] ws
attribute [local go_sem] eq_zero eq_set
def SL (bt : UInt8) (W : World) (v : Value) : Prop := ∃ p, v = .slice (some ⟨p, 0, none⟩) 1 1 ∧ W.heap[p]? = some (.cells #[.int .u8 (bt.toNat : Int)] 5 (0, 0))
theorem _root_.Go.Proofs.YtednoideboeehaaDoor.regexDerive.SL.below {bt : UInt8} {W W' : World} {v : Value} (h : SL bt W v) (hb : Below W.heap.size W W') : SL bt W' v := by
  obtain ⟨p, rfl, h⟩ := h
  exact ⟨p, rfl, (hb.block _ (heap_lt h)).trans h⟩
theorem conv_one {W : World} {p : Nat} {b : UInt8} (h : W.heap[p]? = some (.cells #[.int .u8 (b.toNat : Int)] 5 (0, 0))) : (convert 39 9 (.slice (some ⟨p, 0, none⟩) 1 1)).run Tryd.prog W = .ok (.string ⟨#[b]⟩) W :=
  run_convert_bytes_back (P := Tryd.prog) W 39 9 5 ⟨p, 0, none⟩ 1 [b] Tryd.underlying39 Tryd.underlying5 Tryd.underlying9 (fun j hj => by
    obtain rfl : j = 0 := by simpa using hj
    rw [add_at]
    simp [World.cell?, h])
theorem one_cat (b : UInt8) (s : ByteArray) : (({ data := #[b] } : ByteArray) ++ s).data.toList = b :: s.data.toList := by simp
set_option maxRecDepth 100000 in
set_option maxHeartbeats 4000000 in
theorem walk (q0 : Rx) (cs0 : List Value) (n1 : Nat) (t2 : ByteArray) (w : World) (hq0 : RC (fun _ => True) w q0 cs0) (hn1 : n1 < 256) (hT : Tb w) :
    Calls Tryd.prog 8 #[.agg cs0.toArray, .int .u8 (n1 : Int), .string t2] w fun e w' => e = .returned (.bool true) ∧ Below w.heap.size w w' := by
  obtain ⟨bt, rfl⟩ : ∃ bt : UInt8, n1 = bt.toNat := ⟨UInt8.ofNat n1, by simp; omega⟩
  clear hn1
  obtain ⟨k, s, l⟩ := q0
  obtain ⟨a, n, c, rfl, hK⟩ := RC_mk.1 hq0
  have hR := fun V (hV : Below w.heap.size w V) => RC_mk.2 (⟨a, n, c, rfl, hK.below hV⟩ : ∃ a' n' c', rcs k s (.slice a n c) = rcs k s (.slice a' n' c') ∧ Kd (fun _ => True) V a' n' l)
  have HR := hid hR
  have CS := hid (fun V (hV : Below w.heap.size w V) => small_any _ (.mk k s l) 25 V _ (by decide) (hR V hV))
  have CA := hid (fun V (hV : Below w.heap.size w V) => awake_any V (hT.below hV))
  obtain ⟨y, hy⟩ : ∃ y, y = small (.mk k s l) ((25 : Nat) : Int) := ⟨_, rfl⟩
  rw [← hy] at CS
  have x0 := hid (alloc_new w (.cells #[.int .i64 k, .int .u64 (ws s 0 : Int), .int .u64 (ws s 1 : Int), .int .u64 (ws s 2 : Int), .int .u64 (ws s 3 : Int), .slice a n c] 27))
  have B0 := hid (bel1 w (.cells #[.int .i64 k, .int .u64 (ws s 0 : Int), .int .u64 (ws s 1 : Int), .int .u64 (ws s 2 : Int), .int .u64 (ws s 3 : Int), .slice a n c] 27))
  have HY := hid hy
  clear hR hK hq0 hT hy
  show Calls Tryd.prog 8 #[.agg #[.int .i64 k, .int .u64 (ws s 0 : Int), .int .u64 (ws s 1 : Int), .int .u64 (ws s 2 : Int), .int .u64 (ws s 3 : Int), .slice a n c], .int .u8 (bt.toNat : Int), .string t2] w _
  go_enter Tryd.func8, Tryd.ntmps8
  go_wp2_with fail
  refine (CS.out _ B0.out).mono ?_
  rintro e W ⟨rfl, b1⟩
  have X := hid ((b1.block _ (heap_lt x0.out)).trans x0.out)
  have Z1 := hid (B0.out.trans (b1.mono B0.out.size))
  clear b1
  cases y
  · skip
    go_wp2_with fail
    refine (CA.out _ Z1.out).mono ?_
    rintro e W9 ⟨rfl, b9⟩
    go_wp2
    go_ret
    exact ⟨rfl, Z1.out.trans (b9.mono Z1.out.size)⟩
  have HS := hid (small_of (r := .mk k s l) (most := 25) HY.out.symm)
  by_cases h12 : (8 : Int) < (t2.size : Int)
  · skip
    go_wp2_with fail
    refine (CA.out _ Z1.out).mono ?_
    rintro e W9 ⟨rfl, b9⟩
    go_wp2
    go_ret
    exact ⟨rfl, Z1.out.trans (b9.mono Z1.out.size)⟩
  have HL := hid (show t2.size ≤ 8 by omega)
  have hf : fits (.mk k s l) 32 = true := (fits_depth HS.out.2.1).2 (by have := HS.out.2.2; omega)
  have hf30 : fits (.mk k s l) 30 = true := (fits_depth HS.out.2.1).2 (by have := HS.out.2.2; omega)
  have CD := hid (fun V (hV : Below w.heap.size w V) => show Calls Tryd.prog 26 #[.agg #[.int .i64 k, .int .u64 (ws s 0 : Int), .int .u64 (ws s 1 : Int), .int .u64 (ws s 2 : Int), .int .u64 (ws s 3 : Int), .slice a n c], .int .u8 (bt.toNat : Int)] V fun e w' => DR bt (.mk k s l) V e w' ∧ Below V.heap.size V w' from (Derive_any _ (.mk k s l) bt V _ hf (by have := HS.out.1; omega) (HR.out V hV)).mono (fun e w' h => ⟨DR.of h.1, h.2⟩))
  have HF := hid hf30
  clear hf hf30
  obtain ⟨p0, p1, p2, p3, p4, p5⟩ := cells6 X.out
  go_wp2_with fail
  refine (CD.out _ Z1.out).mono ?_
  rintro e V ⟨⟨K2, S2, a2, n2, c2, l2, rfl, hd2, hk2⟩, b2⟩
  clear p0 p1 p2 p3 p4 p5
  have B2 := hid (And.intro b2 (And.intro hd2 hk2))
  clear b2 hd2 hk2
  go_wp2_with fail
  obtain ⟨Y, hY⟩ : ∃ Y, Y = V.alloc (.cells #[.int .i64 K2, .int .u64 (ws S2 0 : Int), .int .u64 (ws S2 1 : Int), .int .u64 (ws S2 2 : Int), .int .u64 (ws S2 3 : Int), .slice a2 n2 c2] 27) := ⟨_, rfl⟩
  have XD := hid (show Y.heap[V.heap.size]? = some (.cells #[.int .i64 K2, .int .u64 (ws S2 0 : Int), .int .u64 (ws S2 1 : Int), .int .u64 (ws S2 2 : Int), .int .u64 (ws S2 3 : Int), .slice a2 n2 c2] 27 (0, 0)) ∧ Y.heap[w.heap.size]? = some (.cells #[.int .i64 k, .int .u64 (ws s 0 : Int), .int .u64 (ws s 1 : Int), .int .u64 (ws s 2 : Int), .int .u64 (ws s 3 : Int), .slice a n c] 27 (0, 0)) ∧ RC (fun _ => True) Y (.mk K2 S2 l2) (rcs K2 S2 (.slice a2 n2 c2)) ∧ Below w.heap.size w Y from by
    obtain ⟨b2, hd2, hk2⟩ := B2.out
    have h1 : Below V.heap.size V Y := by rw [hY]; exact bel1 _ _
    have h2 := b2.trans (h1.mono b2.size)
    exact ⟨by rw [hY]; exact alloc_new _ _, (h2.block _ (heap_lt X.out)).trans X.out, (hk2.more fun _ _ => trivial).below h1, Z1.out.trans (h2.mono Z1.out.size)⟩)
  rw [← hY]
  clear hY
  have HM := hid (show ∀ t, mtc (.mk K2 S2 l2) t = mtc (.mk k s l) (bt :: t) from fun t => der_mtc B2.out.2.1 HS.out.2.1 t)
  obtain ⟨z1, hz1⟩ : ∃ z, z = mtc (.mk k s l) (bt :: t2.data.toList) := ⟨_, rfl⟩
  obtain ⟨z2, hz2⟩ : ∃ z, z = mtc (.mk k s l) [bt] := ⟨_, rfl⟩
  have hfd := der_fits B2.out.2.1 HF.out
  have hpd := der_parts B2.out.2.1 HS.out.2.1 (by have := HS.out.1; omega)
  have DA := hid (fun U (hU : Below Y.heap.size Y U) => CA.out U (XD.out.2.2.2.trans (hU.mono XD.out.2.2.2.size)))
  have DM := hid (fun U (hU : Below Y.heap.size Y U) => show Calls Tryd.prog 23 #[.agg #[.int .i64 K2, .int .u64 (ws S2 0 : Int), .int .u64 (ws S2 1 : Int), .int .u64 (ws S2 2 : Int), .int .u64 (ws S2 3 : Int), .slice a2 n2 c2], .string t2] U fun e w' => e = .returned (.bool z1) ∧ Below U.heap.size U w' from (by have := Match_any _ (.mk K2 S2 l2) t2 U _ hfd hpd (by have := HL.out; omega) (XD.out.2.2.1.below hU); rw [HM.out, ← hz1] at this; exact this))
  have DN := hid (fun U (hU : Below Y.heap.size Y U) => show Calls Tryd.prog 25 #[.agg #[.int .i64 K2, .int .u64 (ws S2 0 : Int), .int .u64 (ws S2 1 : Int), .int .u64 (ws S2 2 : Int), .int .u64 (ws S2 3 : Int), .slice a2 n2 c2]] U fun e w' => e = .returned (.bool z2) ∧ Below U.heap.size U w' from (by have := Nullable_any _ (.mk K2 S2 l2) U _ (XD.out.2.2.1.below hU) hfd; rw [show nul (.mk K2 S2 l2) = z2 from (HM.out []).trans hz2.symm] at this; exact this))
  have DR1 := hid (fun U (hU : Below Y.heap.size Y U) => show Calls Tryd.prog 24 #[.agg #[.int .i64 k, .int .u64 (ws s 0 : Int), .int .u64 (ws s 1 : Int), .int .u64 (ws s 2 : Int), .int .u64 (ws s 3 : Int), .slice a n c], .string ({ data := #[bt] } ++ t2)] U fun e w' => e = .returned (.bool z1) ∧ Below U.heap.size U w' from (by
    have := rMatch_any _ (.mk k s l) ({ data := #[bt] } ++ t2) U _ HS.out.2.1 (by rw [ByteArray.size_append]; have := HL.out; show 1 + _ ≤ _; omega) (HR.out _ (XD.out.2.2.2.trans (hU.mono XD.out.2.2.2.size)))
    rw [one_cat, ← hz1] at this; exact this))
  have DR2 := hid (fun U (hU : Below Y.heap.size Y U) => show Calls Tryd.prog 24 #[.agg #[.int .i64 k, .int .u64 (ws s 0 : Int), .int .u64 (ws s 1 : Int), .int .u64 (ws s 2 : Int), .int .u64 (ws s 3 : Int), .slice a n c], .string { data := #[bt] }] U fun e w' => e = .returned (.bool z2) ∧ Below U.heap.size U w' from (by
    have := rMatch_any _ (.mk k s l) ⟨#[bt]⟩ U _ HS.out.2.1 (by show 1 ≤ _; omega) (HR.out _ (XD.out.2.2.2.trans (hU.mono XD.out.2.2.2.size)))
    rw [show (⟨#[bt]⟩ : ByteArray).data.toList = [bt] from rfl, ← hz2] at this; exact this))
  clear CS CA hz1 hz2 hfd hpd HM B2 HF
  refine region_inv (fun b a' w' => ∃ (v20 v21 v22 v23 v24 v25 v26 v27 v28 v29 v30 v31 v32 v33 v34 v35 v36 v37 v38 v39 v40 v41 v42 v43 v6 : Value), a' = { tmps := #[.agg #[.int .i64 k, .int .u64 (ws s 0 : Int), .int .u64 (ws s 1 : Int), .int .u64 (ws s 2 : Int), .int .u64 (ws s 3 : Int), .slice a n c], .int .u8 (bt.toNat : Int), .string t2, .pointer (some ⟨w.heap.size, 0, none⟩), undef, undef, v6, .pointer (some ⟨V.heap.size, 0, none⟩), .agg #[.int .i64 k, .int .u64 (ws s 0 : Int), .int .u64 (ws s 1 : Int), .int .u64 (ws s 2 : Int), .int .u64 (ws s 3 : Int), .slice a n c], .bool true, .bool false, .bool false, .string t2, .int .i64 (t2.size : Int), .bool (decide (8 < (t2.size : Int))), .bool (decide (8 < (t2.size : Int))), undef, .agg #[.int .i64 k, .int .u64 (ws s 0 : Int), .int .u64 (ws s 1 : Int), .int .u64 (ws s 2 : Int), .int .u64 (ws s 3 : Int), .slice a n c], .int .u8 (bt.toNat : Int), .agg #[.int .i64 K2, .int .u64 (ws S2 0 : Int), .int .u64 (ws S2 1 : Int), .int .u64 (ws S2 2 : Int), .int .u64 (ws S2 3 : Int), .slice a2 n2 c2], v20, v21, v22, v23, v24, v25, v26, v27, v28, v29, v30, v31, v32, v33, v34, v35, v36, v37, v38, v39, v40, v41, v42, v43], defers := [] } ∧ Below Y.heap.size Y w' ∧ (b 0 = true → v20 = .bool true) ∧ (b 1 = true → v21 = .bool true) ∧ (b 2 = true → v22 = .agg #[.int .i64 K2, .int .u64 (ws S2 0 : Int), .int .u64 (ws S2 1 : Int), .int .u64 (ws S2 2 : Int), .int .u64 (ws S2 3 : Int), .slice a2 n2 c2]) ∧ (b 3 = true → v23 = .string t2) ∧ (b 4 = true → v24 = .bool z1) ∧ (b 5 = true → v25 = .agg #[.int .i64 k, .int .u64 (ws s 0 : Int), .int .u64 (ws s 1 : Int), .int .u64 (ws s 2 : Int), .int .u64 (ws s 3 : Int), .slice a n c]) ∧ (b 6 = true → v26 = .int .u8 (bt.toNat : Int)) ∧ (b 7 = true → SL bt w' v27) ∧ (b 8 = true → v28 = .string { data := #[bt] }) ∧ (b 9 = true → v29 = .string t2) ∧ (b 10 = true → v30 = .string ({ data := #[bt] } ++ t2)) ∧ (b 11 = true → v31 = .bool z1) ∧ (b 12 = true → v32 = .bool true) ∧ (b 13 = true → v33 = .bool true) ∧ (b 14 = true → v34 = .bool true) ∧ (b 15 = true → v35 = .agg #[.int .i64 K2, .int .u64 (ws S2 0 : Int), .int .u64 (ws S2 1 : Int), .int .u64 (ws S2 2 : Int), .int .u64 (ws S2 3 : Int), .slice a2 n2 c2]) ∧ (b 16 = true → v36 = .bool z2) ∧ (b 17 = true → v37 = .agg #[.int .i64 k, .int .u64 (ws s 0 : Int), .int .u64 (ws s 1 : Int), .int .u64 (ws s 2 : Int), .int .u64 (ws s 3 : Int), .slice a n c]) ∧ (b 18 = true → v38 = .int .u8 (bt.toNat : Int)) ∧ (b 19 = true → SL bt w' v39) ∧ (b 20 = true → v40 = .string { data := #[bt] }) ∧ (b 21 = true → v41 = .bool z2) ∧ (b 22 = true → v42 = .bool true) ∧ (b 23 = true → v43 = .bool true) ∧ (b 24 = true → v6 = .bool true)) (by kernel_rfl) (back_of (by kernel_rfl)) ?step1 ?done1 ?init1
  case step1 =>
    rintro b a' w' i o ho ⟨v20, v21, v22, v23, v24, v25, v26, v27, v28, v29, v30, v31, v32, v33, v34, v35, v36, v37, v38, v39, v40, v41, v42, v43, v6, rfl, HW, h0, h1, h2, h3, h4, h5, h6, h7, h8, h9, h10, h11, h12, h13, h14, h15, h16, h17, h18, h19, h20, h21, h22, h23, h24⟩ hbi hd K hK
    have hlt : i < 25 := by have := (Array.getElem?_eq_some_iff.1 ho).1; simpa using this
    have dep : ∀ k, (o.after.any fun e => Region.binds .any e && e.on == k) = true → b k = true := fun k hk => by
      obtain ⟨e, he, h⟩ := Array.any_eq_true'.1 hk
      simp only [Bool.and_eq_true, beq_iff_eq] at h
      rw [← h.2]; exact hd e he h.1
    clear hd
    have hi : i = 0 ∨ i = 1 ∨ i = 2 ∨ i = 3 ∨ i = 4 ∨ i = 5 ∨ i = 6 ∨ i = 7 ∨ i = 8 ∨ i = 9 ∨ i = 10 ∨ i = 11 ∨ i = 12 ∨ i = 13 ∨ i = 14 ∨ i = 15 ∨ i = 16 ∨ i = 17 ∨ i = 18 ∨ i = 19 ∨ i = 20 ∨ i = 21 ∨ i = 22 ∨ i = 23 ∨ i = 24 := by omega
    clear hlt
    rcases hi with rfl | rfl | rfl | rfl | rfl | rfl | rfl | rfl | rfl | rfl | rfl | rfl | rfl | rfl | rfl | rfl | rfl | rfl | rfl | rfl | rfl | rfl | rfl | rfl | rfl
    · simp only [List.getElem?_toArray, List.getElem?_cons_zero, List.getElem?_cons_succ, Option.some.injEq] at ho
      subst ho
      go_simp
      refine (DA.out _ HW).mono ?_
      rintro e w5 ⟨rfl, b5⟩
      have HW5 := HW.trans (b5.mono HW.size)
      refine hK.out _ _ ⟨_, _, _, _, _, _, _, _, _, _, _, _, _, _, _, _, _, _, _, _, _, _, _, _, _, rfl, HW5, fun _ => rfl, fun h => h1 (by simpa using h), fun h => h2 (by simpa using h), fun h => h3 (by simpa using h), fun h => h4 (by simpa using h), fun h => h5 (by simpa using h), fun h => h6 (by simpa using h), fun h => (h7 (by simpa using h)).below b5, fun h => h8 (by simpa using h), fun h => h9 (by simpa using h), fun h => h10 (by simpa using h), fun h => h11 (by simpa using h), fun h => h12 (by simpa using h), fun h => h13 (by simpa using h), fun h => h14 (by simpa using h), fun h => h15 (by simpa using h), fun h => h16 (by simpa using h), fun h => h17 (by simpa using h), fun h => h18 (by simpa using h), fun h => (h19 (by simpa using h)).below b5, fun h => h20 (by simpa using h), fun h => h21 (by simpa using h), fun h => h22 (by simpa using h), fun h => h23 (by simpa using h), fun h => h24 (by simpa using h)⟩
    · simp only [List.getElem?_toArray, List.getElem?_cons_zero, List.getElem?_cons_succ, Option.some.injEq] at ho
      subst ho
      obtain rfl := h0 (dep 0 (by kernel_rfl))
      go_simp
      refine hK.out _ _ ⟨_, _, _, _, _, _, _, _, _, _, _, _, _, _, _, _, _, _, _, _, _, _, _, _, _, rfl, HW, fun h => h0 (by simpa using h), fun _ => rfl, fun h => h2 (by simpa using h), fun h => h3 (by simpa using h), fun h => h4 (by simpa using h), fun h => h5 (by simpa using h), fun h => h6 (by simpa using h), fun h => h7 (by simpa using h), fun h => h8 (by simpa using h), fun h => h9 (by simpa using h), fun h => h10 (by simpa using h), fun h => h11 (by simpa using h), fun h => h12 (by simpa using h), fun h => h13 (by simpa using h), fun h => h14 (by simpa using h), fun h => h15 (by simpa using h), fun h => h16 (by simpa using h), fun h => h17 (by simpa using h), fun h => h18 (by simpa using h), fun h => h19 (by simpa using h), fun h => h20 (by simpa using h), fun h => h21 (by simpa using h), fun h => h22 (by simpa using h), fun h => h23 (by simpa using h), fun h => h24 (by simpa using h)⟩
    · simp only [List.getElem?_toArray, List.getElem?_cons_zero, List.getElem?_cons_succ, Option.some.injEq] at ho
      subst ho
      obtain rfl := h1 (dep 1 (by kernel_rfl))
      obtain ⟨c0, c1, c2, c3, c4, c5⟩ := cells6 ((HW.block _ (heap_lt XD.out.1)).trans XD.out.1)
      go_simp
      refine hK.out _ _ ⟨_, _, _, _, _, _, _, _, _, _, _, _, _, _, _, _, _, _, _, _, _, _, _, _, _, rfl, HW, fun h => h0 (by simpa using h), fun h => h1 (by simpa using h), fun _ => rfl, fun h => h3 (by simpa using h), fun h => h4 (by simpa using h), fun h => h5 (by simpa using h), fun h => h6 (by simpa using h), fun h => h7 (by simpa using h), fun h => h8 (by simpa using h), fun h => h9 (by simpa using h), fun h => h10 (by simpa using h), fun h => h11 (by simpa using h), fun h => h12 (by simpa using h), fun h => h13 (by simpa using h), fun h => h14 (by simpa using h), fun h => h15 (by simpa using h), fun h => h16 (by simpa using h), fun h => h17 (by simpa using h), fun h => h18 (by simpa using h), fun h => h19 (by simpa using h), fun h => h20 (by simpa using h), fun h => h21 (by simpa using h), fun h => h22 (by simpa using h), fun h => h23 (by simpa using h), fun h => h24 (by simpa using h)⟩
    · simp only [List.getElem?_toArray, List.getElem?_cons_zero, List.getElem?_cons_succ, Option.some.injEq] at ho
      subst ho
      obtain rfl := h1 (dep 1 (by kernel_rfl))
      go_simp
      refine hK.out _ _ ⟨_, _, _, _, _, _, _, _, _, _, _, _, _, _, _, _, _, _, _, _, _, _, _, _, _, rfl, HW, fun h => h0 (by simpa using h), fun h => h1 (by simpa using h), fun h => h2 (by simpa using h), fun _ => rfl, fun h => h4 (by simpa using h), fun h => h5 (by simpa using h), fun h => h6 (by simpa using h), fun h => h7 (by simpa using h), fun h => h8 (by simpa using h), fun h => h9 (by simpa using h), fun h => h10 (by simpa using h), fun h => h11 (by simpa using h), fun h => h12 (by simpa using h), fun h => h13 (by simpa using h), fun h => h14 (by simpa using h), fun h => h15 (by simpa using h), fun h => h16 (by simpa using h), fun h => h17 (by simpa using h), fun h => h18 (by simpa using h), fun h => h19 (by simpa using h), fun h => h20 (by simpa using h), fun h => h21 (by simpa using h), fun h => h22 (by simpa using h), fun h => h23 (by simpa using h), fun h => h24 (by simpa using h)⟩
    · simp only [List.getElem?_toArray, List.getElem?_cons_zero, List.getElem?_cons_succ, Option.some.injEq] at ho
      subst ho
      obtain rfl := h1 (dep 1 (by kernel_rfl))
      obtain rfl := h2 (dep 2 (by kernel_rfl))
      obtain rfl := h3 (dep 3 (by kernel_rfl))
      go_simp
      refine (DM.out _ HW).mono ?_
      rintro e w5 ⟨rfl, b5⟩
      have HW5 := HW.trans (b5.mono HW.size)
      refine hK.out _ _ ⟨_, _, _, _, _, _, _, _, _, _, _, _, _, _, _, _, _, _, _, _, _, _, _, _, _, rfl, HW5, fun h => h0 (by simpa using h), fun h => h1 (by simpa using h), fun h => h2 (by simpa using h), fun h => h3 (by simpa using h), fun _ => rfl, fun h => h5 (by simpa using h), fun h => h6 (by simpa using h), fun h => (h7 (by simpa using h)).below b5, fun h => h8 (by simpa using h), fun h => h9 (by simpa using h), fun h => h10 (by simpa using h), fun h => h11 (by simpa using h), fun h => h12 (by simpa using h), fun h => h13 (by simpa using h), fun h => h14 (by simpa using h), fun h => h15 (by simpa using h), fun h => h16 (by simpa using h), fun h => h17 (by simpa using h), fun h => h18 (by simpa using h), fun h => (h19 (by simpa using h)).below b5, fun h => h20 (by simpa using h), fun h => h21 (by simpa using h), fun h => h22 (by simpa using h), fun h => h23 (by simpa using h), fun h => h24 (by simpa using h)⟩
    · simp only [List.getElem?_toArray, List.getElem?_cons_zero, List.getElem?_cons_succ, Option.some.injEq] at ho
      subst ho
      obtain rfl := h1 (dep 1 (by kernel_rfl))
      obtain ⟨c0, c1, c2, c3, c4, c5⟩ := cells6 ((HW.block _ (heap_lt XD.out.2.1)).trans XD.out.2.1)
      go_simp
      refine hK.out _ _ ⟨_, _, _, _, _, _, _, _, _, _, _, _, _, _, _, _, _, _, _, _, _, _, _, _, _, rfl, HW, fun h => h0 (by simpa using h), fun h => h1 (by simpa using h), fun h => h2 (by simpa using h), fun h => h3 (by simpa using h), fun h => h4 (by simpa using h), fun _ => rfl, fun h => h6 (by simpa using h), fun h => h7 (by simpa using h), fun h => h8 (by simpa using h), fun h => h9 (by simpa using h), fun h => h10 (by simpa using h), fun h => h11 (by simpa using h), fun h => h12 (by simpa using h), fun h => h13 (by simpa using h), fun h => h14 (by simpa using h), fun h => h15 (by simpa using h), fun h => h16 (by simpa using h), fun h => h17 (by simpa using h), fun h => h18 (by simpa using h), fun h => h19 (by simpa using h), fun h => h20 (by simpa using h), fun h => h21 (by simpa using h), fun h => h22 (by simpa using h), fun h => h23 (by simpa using h), fun h => h24 (by simpa using h)⟩
    · simp only [List.getElem?_toArray, List.getElem?_cons_zero, List.getElem?_cons_succ, Option.some.injEq] at ho
      subst ho
      obtain rfl := h1 (dep 1 (by kernel_rfl))
      go_simp
      refine hK.out _ _ ⟨_, _, _, _, _, _, _, _, _, _, _, _, _, _, _, _, _, _, _, _, _, _, _, _, _, rfl, HW, fun h => h0 (by simpa using h), fun h => h1 (by simpa using h), fun h => h2 (by simpa using h), fun h => h3 (by simpa using h), fun h => h4 (by simpa using h), fun h => h5 (by simpa using h), fun _ => rfl, fun h => h7 (by simpa using h), fun h => h8 (by simpa using h), fun h => h9 (by simpa using h), fun h => h10 (by simpa using h), fun h => h11 (by simpa using h), fun h => h12 (by simpa using h), fun h => h13 (by simpa using h), fun h => h14 (by simpa using h), fun h => h15 (by simpa using h), fun h => h16 (by simpa using h), fun h => h17 (by simpa using h), fun h => h18 (by simpa using h), fun h => h19 (by simpa using h), fun h => h20 (by simpa using h), fun h => h21 (by simpa using h), fun h => h22 (by simpa using h), fun h => h23 (by simpa using h), fun h => h24 (by simpa using h)⟩
    · simp only [List.getElem?_toArray, List.getElem?_cons_zero, List.getElem?_cons_succ, Option.some.injEq] at ho
      subst ho
      obtain rfl := h1 (dep 1 (by kernel_rfl))
      obtain rfl := h6 (dep 6 (by kernel_rfl))
      go_simp
      refine hK.out _ _ ⟨_, _, _, _, _, _, _, _, _, _, _, _, _, _, _, _, _, _, _, _, _, _, _, _, _, rfl, (below_made HW HW.size), fun h => h0 (by simpa using h), fun h => h1 (by simpa using h), fun h => h2 (by simpa using h), fun h => h3 (by simpa using h), fun h => h4 (by simpa using h), fun h => h5 (by simpa using h), fun h => h6 (by simpa using h), fun _ => ⟨_, rfl, alloc_new _ _⟩, fun h => h8 (by simpa using h), fun h => h9 (by simpa using h), fun h => h10 (by simpa using h), fun h => h11 (by simpa using h), fun h => h12 (by simpa using h), fun h => h13 (by simpa using h), fun h => h14 (by simpa using h), fun h => h15 (by simpa using h), fun h => h16 (by simpa using h), fun h => h17 (by simpa using h), fun h => h18 (by simpa using h), fun h => (h19 (by simpa using h)).below (bel1 _ _), fun h => h20 (by simpa using h), fun h => h21 (by simpa using h), fun h => h22 (by simpa using h), fun h => h23 (by simpa using h), fun h => h24 (by simpa using h)⟩
    · simp only [List.getElem?_toArray, List.getElem?_cons_zero, List.getElem?_cons_succ, Option.some.injEq] at ho
      subst ho
      obtain rfl := h1 (dep 1 (by kernel_rfl))
      obtain ⟨p, rfl, hp⟩ := h7 (dep 7 (by kernel_rfl))
      have hcv := conv_one hp
      go_simp
      refine hK.out _ _ ⟨_, _, _, _, _, _, _, _, _, _, _, _, _, _, _, _, _, _, _, _, _, _, _, _, _, rfl, HW, fun h => h0 (by simpa using h), fun h => h1 (by simpa using h), fun h => h2 (by simpa using h), fun h => h3 (by simpa using h), fun h => h4 (by simpa using h), fun h => h5 (by simpa using h), fun h => h6 (by simpa using h), fun h => h7 (by simpa using h), fun _ => rfl, fun h => h9 (by simpa using h), fun h => h10 (by simpa using h), fun h => h11 (by simpa using h), fun h => h12 (by simpa using h), fun h => h13 (by simpa using h), fun h => h14 (by simpa using h), fun h => h15 (by simpa using h), fun h => h16 (by simpa using h), fun h => h17 (by simpa using h), fun h => h18 (by simpa using h), fun h => h19 (by simpa using h), fun h => h20 (by simpa using h), fun h => h21 (by simpa using h), fun h => h22 (by simpa using h), fun h => h23 (by simpa using h), fun h => h24 (by simpa using h)⟩
    · simp only [List.getElem?_toArray, List.getElem?_cons_zero, List.getElem?_cons_succ, Option.some.injEq] at ho
      subst ho
      obtain rfl := h1 (dep 1 (by kernel_rfl))
      go_simp
      refine hK.out _ _ ⟨_, _, _, _, _, _, _, _, _, _, _, _, _, _, _, _, _, _, _, _, _, _, _, _, _, rfl, HW, fun h => h0 (by simpa using h), fun h => h1 (by simpa using h), fun h => h2 (by simpa using h), fun h => h3 (by simpa using h), fun h => h4 (by simpa using h), fun h => h5 (by simpa using h), fun h => h6 (by simpa using h), fun h => h7 (by simpa using h), fun h => h8 (by simpa using h), fun _ => rfl, fun h => h10 (by simpa using h), fun h => h11 (by simpa using h), fun h => h12 (by simpa using h), fun h => h13 (by simpa using h), fun h => h14 (by simpa using h), fun h => h15 (by simpa using h), fun h => h16 (by simpa using h), fun h => h17 (by simpa using h), fun h => h18 (by simpa using h), fun h => h19 (by simpa using h), fun h => h20 (by simpa using h), fun h => h21 (by simpa using h), fun h => h22 (by simpa using h), fun h => h23 (by simpa using h), fun h => h24 (by simpa using h)⟩
    · simp only [List.getElem?_toArray, List.getElem?_cons_zero, List.getElem?_cons_succ, Option.some.injEq] at ho
      subst ho
      obtain rfl := h1 (dep 1 (by kernel_rfl))
      obtain rfl := h8 (dep 8 (by kernel_rfl))
      obtain rfl := h9 (dep 9 (by kernel_rfl))
      go_simp
      rw [if_neg (show ¬ 9223372036854775807 < 1 + t2.size by have := HL.out; omega)]
      go_simp
      refine hK.out _ _ ⟨_, _, _, _, _, _, _, _, _, _, _, _, _, _, _, _, _, _, _, _, _, _, _, _, _, rfl, HW, fun h => h0 (by simpa using h), fun h => h1 (by simpa using h), fun h => h2 (by simpa using h), fun h => h3 (by simpa using h), fun h => h4 (by simpa using h), fun h => h5 (by simpa using h), fun h => h6 (by simpa using h), fun h => h7 (by simpa using h), fun h => h8 (by simpa using h), fun h => h9 (by simpa using h), fun _ => rfl, fun h => h11 (by simpa using h), fun h => h12 (by simpa using h), fun h => h13 (by simpa using h), fun h => h14 (by simpa using h), fun h => h15 (by simpa using h), fun h => h16 (by simpa using h), fun h => h17 (by simpa using h), fun h => h18 (by simpa using h), fun h => h19 (by simpa using h), fun h => h20 (by simpa using h), fun h => h21 (by simpa using h), fun h => h22 (by simpa using h), fun h => h23 (by simpa using h), fun h => h24 (by simpa using h)⟩
    · simp only [List.getElem?_toArray, List.getElem?_cons_zero, List.getElem?_cons_succ, Option.some.injEq] at ho
      subst ho
      obtain rfl := h1 (dep 1 (by kernel_rfl))
      obtain rfl := h5 (dep 5 (by kernel_rfl))
      obtain rfl := h10 (dep 10 (by kernel_rfl))
      go_simp
      refine (DR1.out _ HW).mono ?_
      rintro e w5 ⟨rfl, b5⟩
      have HW5 := HW.trans (b5.mono HW.size)
      refine hK.out _ _ ⟨_, _, _, _, _, _, _, _, _, _, _, _, _, _, _, _, _, _, _, _, _, _, _, _, _, rfl, HW5, fun h => h0 (by simpa using h), fun h => h1 (by simpa using h), fun h => h2 (by simpa using h), fun h => h3 (by simpa using h), fun h => h4 (by simpa using h), fun h => h5 (by simpa using h), fun h => h6 (by simpa using h), fun h => (h7 (by simpa using h)).below b5, fun h => h8 (by simpa using h), fun h => h9 (by simpa using h), fun h => h10 (by simpa using h), fun _ => rfl, fun h => h12 (by simpa using h), fun h => h13 (by simpa using h), fun h => h14 (by simpa using h), fun h => h15 (by simpa using h), fun h => h16 (by simpa using h), fun h => h17 (by simpa using h), fun h => h18 (by simpa using h), fun h => (h19 (by simpa using h)).below b5, fun h => h20 (by simpa using h), fun h => h21 (by simpa using h), fun h => h22 (by simpa using h), fun h => h23 (by simpa using h), fun h => h24 (by simpa using h)⟩
    · simp only [List.getElem?_toArray, List.getElem?_cons_zero, List.getElem?_cons_succ, Option.some.injEq] at ho
      subst ho
      obtain rfl := h1 (dep 1 (by kernel_rfl))
      obtain rfl := h4 (dep 4 (by kernel_rfl))
      obtain rfl := h11 (dep 11 (by kernel_rfl))
      go_simp
      refine hK.out _ _ ⟨_, _, _, _, _, _, _, _, _, _, _, _, _, _, _, _, _, _, _, _, _, _, _, _, _, rfl, HW, fun h => h0 (by simpa using h), fun h => h1 (by simpa using h), fun h => h2 (by simpa using h), fun h => h3 (by simpa using h), fun h => h4 (by simpa using h), fun h => h5 (by simpa using h), fun h => h6 (by simpa using h), fun h => h7 (by simpa using h), fun h => h8 (by simpa using h), fun h => h9 (by simpa using h), fun h => h10 (by simpa using h), fun h => h11 (by simpa using h), fun _ => rfl, fun h => h13 (by simpa using h), fun h => h14 (by simpa using h), fun h => h15 (by simpa using h), fun h => h16 (by simpa using h), fun h => h17 (by simpa using h), fun h => h18 (by simpa using h), fun h => h19 (by simpa using h), fun h => h20 (by simpa using h), fun h => h21 (by simpa using h), fun h => h22 (by simpa using h), fun h => h23 (by simpa using h), fun h => h24 (by simpa using h)⟩
    · simp only [List.getElem?_toArray, List.getElem?_cons_zero, List.getElem?_cons_succ, Option.some.injEq] at ho
      subst ho
      obtain rfl := h1 (dep 1 (by kernel_rfl))
      obtain rfl := h12 (dep 12 (by kernel_rfl))
      go_simp
      refine hK.out _ _ ⟨_, _, _, _, _, _, _, _, _, _, _, _, _, _, _, _, _, _, _, _, _, _, _, _, _, rfl, HW, fun h => h0 (by simpa using h), fun h => h1 (by simpa using h), fun h => h2 (by simpa using h), fun h => h3 (by simpa using h), fun h => h4 (by simpa using h), fun h => h5 (by simpa using h), fun h => h6 (by simpa using h), fun h => h7 (by simpa using h), fun h => h8 (by simpa using h), fun h => h9 (by simpa using h), fun h => h10 (by simpa using h), fun h => h11 (by simpa using h), fun h => h12 (by simpa using h), fun _ => rfl, fun h => h14 (by simpa using h), fun h => h15 (by simpa using h), fun h => h16 (by simpa using h), fun h => h17 (by simpa using h), fun h => h18 (by simpa using h), fun h => h19 (by simpa using h), fun h => h20 (by simpa using h), fun h => h21 (by simpa using h), fun h => h22 (by simpa using h), fun h => h23 (by simpa using h), fun h => h24 (by simpa using h)⟩
    · simp only [List.getElem?_toArray, List.getElem?_cons_zero, List.getElem?_cons_succ, Option.some.injEq] at ho
      subst ho
      obtain rfl := h13 (dep 13 (by kernel_rfl))
      go_simp
      refine hK.out _ _ ⟨_, _, _, _, _, _, _, _, _, _, _, _, _, _, _, _, _, _, _, _, _, _, _, _, _, rfl, HW, fun h => h0 (by simpa using h), fun h => h1 (by simpa using h), fun h => h2 (by simpa using h), fun h => h3 (by simpa using h), fun h => h4 (by simpa using h), fun h => h5 (by simpa using h), fun h => h6 (by simpa using h), fun h => h7 (by simpa using h), fun h => h8 (by simpa using h), fun h => h9 (by simpa using h), fun h => h10 (by simpa using h), fun h => h11 (by simpa using h), fun h => h12 (by simpa using h), fun h => h13 (by simpa using h), fun _ => rfl, fun h => h15 (by simpa using h), fun h => h16 (by simpa using h), fun h => h17 (by simpa using h), fun h => h18 (by simpa using h), fun h => h19 (by simpa using h), fun h => h20 (by simpa using h), fun h => h21 (by simpa using h), fun h => h22 (by simpa using h), fun h => h23 (by simpa using h), fun h => h24 (by simpa using h)⟩
    · simp only [List.getElem?_toArray, List.getElem?_cons_zero, List.getElem?_cons_succ, Option.some.injEq] at ho
      subst ho
      obtain rfl := h14 (dep 14 (by kernel_rfl))
      obtain ⟨c0, c1, c2, c3, c4, c5⟩ := cells6 ((HW.block _ (heap_lt XD.out.1)).trans XD.out.1)
      go_simp
      refine hK.out _ _ ⟨_, _, _, _, _, _, _, _, _, _, _, _, _, _, _, _, _, _, _, _, _, _, _, _, _, rfl, HW, fun h => h0 (by simpa using h), fun h => h1 (by simpa using h), fun h => h2 (by simpa using h), fun h => h3 (by simpa using h), fun h => h4 (by simpa using h), fun h => h5 (by simpa using h), fun h => h6 (by simpa using h), fun h => h7 (by simpa using h), fun h => h8 (by simpa using h), fun h => h9 (by simpa using h), fun h => h10 (by simpa using h), fun h => h11 (by simpa using h), fun h => h12 (by simpa using h), fun h => h13 (by simpa using h), fun h => h14 (by simpa using h), fun _ => rfl, fun h => h16 (by simpa using h), fun h => h17 (by simpa using h), fun h => h18 (by simpa using h), fun h => h19 (by simpa using h), fun h => h20 (by simpa using h), fun h => h21 (by simpa using h), fun h => h22 (by simpa using h), fun h => h23 (by simpa using h), fun h => h24 (by simpa using h)⟩
    · simp only [List.getElem?_toArray, List.getElem?_cons_zero, List.getElem?_cons_succ, Option.some.injEq] at ho
      subst ho
      obtain rfl := h14 (dep 14 (by kernel_rfl))
      obtain rfl := h15 (dep 15 (by kernel_rfl))
      go_simp
      refine (DN.out _ HW).mono ?_
      rintro e w5 ⟨rfl, b5⟩
      have HW5 := HW.trans (b5.mono HW.size)
      refine hK.out _ _ ⟨_, _, _, _, _, _, _, _, _, _, _, _, _, _, _, _, _, _, _, _, _, _, _, _, _, rfl, HW5, fun h => h0 (by simpa using h), fun h => h1 (by simpa using h), fun h => h2 (by simpa using h), fun h => h3 (by simpa using h), fun h => h4 (by simpa using h), fun h => h5 (by simpa using h), fun h => h6 (by simpa using h), fun h => (h7 (by simpa using h)).below b5, fun h => h8 (by simpa using h), fun h => h9 (by simpa using h), fun h => h10 (by simpa using h), fun h => h11 (by simpa using h), fun h => h12 (by simpa using h), fun h => h13 (by simpa using h), fun h => h14 (by simpa using h), fun h => h15 (by simpa using h), fun _ => rfl, fun h => h17 (by simpa using h), fun h => h18 (by simpa using h), fun h => (h19 (by simpa using h)).below b5, fun h => h20 (by simpa using h), fun h => h21 (by simpa using h), fun h => h22 (by simpa using h), fun h => h23 (by simpa using h), fun h => h24 (by simpa using h)⟩
    · simp only [List.getElem?_toArray, List.getElem?_cons_zero, List.getElem?_cons_succ, Option.some.injEq] at ho
      subst ho
      obtain rfl := h14 (dep 14 (by kernel_rfl))
      obtain ⟨c0, c1, c2, c3, c4, c5⟩ := cells6 ((HW.block _ (heap_lt XD.out.2.1)).trans XD.out.2.1)
      go_simp
      refine hK.out _ _ ⟨_, _, _, _, _, _, _, _, _, _, _, _, _, _, _, _, _, _, _, _, _, _, _, _, _, rfl, HW, fun h => h0 (by simpa using h), fun h => h1 (by simpa using h), fun h => h2 (by simpa using h), fun h => h3 (by simpa using h), fun h => h4 (by simpa using h), fun h => h5 (by simpa using h), fun h => h6 (by simpa using h), fun h => h7 (by simpa using h), fun h => h8 (by simpa using h), fun h => h9 (by simpa using h), fun h => h10 (by simpa using h), fun h => h11 (by simpa using h), fun h => h12 (by simpa using h), fun h => h13 (by simpa using h), fun h => h14 (by simpa using h), fun h => h15 (by simpa using h), fun h => h16 (by simpa using h), fun _ => rfl, fun h => h18 (by simpa using h), fun h => h19 (by simpa using h), fun h => h20 (by simpa using h), fun h => h21 (by simpa using h), fun h => h22 (by simpa using h), fun h => h23 (by simpa using h), fun h => h24 (by simpa using h)⟩
    · simp only [List.getElem?_toArray, List.getElem?_cons_zero, List.getElem?_cons_succ, Option.some.injEq] at ho
      subst ho
      obtain rfl := h14 (dep 14 (by kernel_rfl))
      go_simp
      refine hK.out _ _ ⟨_, _, _, _, _, _, _, _, _, _, _, _, _, _, _, _, _, _, _, _, _, _, _, _, _, rfl, HW, fun h => h0 (by simpa using h), fun h => h1 (by simpa using h), fun h => h2 (by simpa using h), fun h => h3 (by simpa using h), fun h => h4 (by simpa using h), fun h => h5 (by simpa using h), fun h => h6 (by simpa using h), fun h => h7 (by simpa using h), fun h => h8 (by simpa using h), fun h => h9 (by simpa using h), fun h => h10 (by simpa using h), fun h => h11 (by simpa using h), fun h => h12 (by simpa using h), fun h => h13 (by simpa using h), fun h => h14 (by simpa using h), fun h => h15 (by simpa using h), fun h => h16 (by simpa using h), fun h => h17 (by simpa using h), fun _ => rfl, fun h => h19 (by simpa using h), fun h => h20 (by simpa using h), fun h => h21 (by simpa using h), fun h => h22 (by simpa using h), fun h => h23 (by simpa using h), fun h => h24 (by simpa using h)⟩
    · simp only [List.getElem?_toArray, List.getElem?_cons_zero, List.getElem?_cons_succ, Option.some.injEq] at ho
      subst ho
      obtain rfl := h14 (dep 14 (by kernel_rfl))
      obtain rfl := h18 (dep 18 (by kernel_rfl))
      go_simp
      refine hK.out _ _ ⟨_, _, _, _, _, _, _, _, _, _, _, _, _, _, _, _, _, _, _, _, _, _, _, _, _, rfl, (below_made HW HW.size), fun h => h0 (by simpa using h), fun h => h1 (by simpa using h), fun h => h2 (by simpa using h), fun h => h3 (by simpa using h), fun h => h4 (by simpa using h), fun h => h5 (by simpa using h), fun h => h6 (by simpa using h), fun h => (h7 (by simpa using h)).below (bel1 _ _), fun h => h8 (by simpa using h), fun h => h9 (by simpa using h), fun h => h10 (by simpa using h), fun h => h11 (by simpa using h), fun h => h12 (by simpa using h), fun h => h13 (by simpa using h), fun h => h14 (by simpa using h), fun h => h15 (by simpa using h), fun h => h16 (by simpa using h), fun h => h17 (by simpa using h), fun h => h18 (by simpa using h), fun _ => ⟨_, rfl, alloc_new _ _⟩, fun h => h20 (by simpa using h), fun h => h21 (by simpa using h), fun h => h22 (by simpa using h), fun h => h23 (by simpa using h), fun h => h24 (by simpa using h)⟩
    · simp only [List.getElem?_toArray, List.getElem?_cons_zero, List.getElem?_cons_succ, Option.some.injEq] at ho
      subst ho
      obtain rfl := h14 (dep 14 (by kernel_rfl))
      obtain ⟨p, rfl, hp⟩ := h19 (dep 19 (by kernel_rfl))
      have hcv := conv_one hp
      go_simp
      refine hK.out _ _ ⟨_, _, _, _, _, _, _, _, _, _, _, _, _, _, _, _, _, _, _, _, _, _, _, _, _, rfl, HW, fun h => h0 (by simpa using h), fun h => h1 (by simpa using h), fun h => h2 (by simpa using h), fun h => h3 (by simpa using h), fun h => h4 (by simpa using h), fun h => h5 (by simpa using h), fun h => h6 (by simpa using h), fun h => h7 (by simpa using h), fun h => h8 (by simpa using h), fun h => h9 (by simpa using h), fun h => h10 (by simpa using h), fun h => h11 (by simpa using h), fun h => h12 (by simpa using h), fun h => h13 (by simpa using h), fun h => h14 (by simpa using h), fun h => h15 (by simpa using h), fun h => h16 (by simpa using h), fun h => h17 (by simpa using h), fun h => h18 (by simpa using h), fun h => h19 (by simpa using h), fun _ => rfl, fun h => h21 (by simpa using h), fun h => h22 (by simpa using h), fun h => h23 (by simpa using h), fun h => h24 (by simpa using h)⟩
    · simp only [List.getElem?_toArray, List.getElem?_cons_zero, List.getElem?_cons_succ, Option.some.injEq] at ho
      subst ho
      obtain rfl := h14 (dep 14 (by kernel_rfl))
      obtain rfl := h17 (dep 17 (by kernel_rfl))
      obtain rfl := h20 (dep 20 (by kernel_rfl))
      go_simp
      refine (DR2.out _ HW).mono ?_
      rintro e w5 ⟨rfl, b5⟩
      have HW5 := HW.trans (b5.mono HW.size)
      refine hK.out _ _ ⟨_, _, _, _, _, _, _, _, _, _, _, _, _, _, _, _, _, _, _, _, _, _, _, _, _, rfl, HW5, fun h => h0 (by simpa using h), fun h => h1 (by simpa using h), fun h => h2 (by simpa using h), fun h => h3 (by simpa using h), fun h => h4 (by simpa using h), fun h => h5 (by simpa using h), fun h => h6 (by simpa using h), fun h => (h7 (by simpa using h)).below b5, fun h => h8 (by simpa using h), fun h => h9 (by simpa using h), fun h => h10 (by simpa using h), fun h => h11 (by simpa using h), fun h => h12 (by simpa using h), fun h => h13 (by simpa using h), fun h => h14 (by simpa using h), fun h => h15 (by simpa using h), fun h => h16 (by simpa using h), fun h => h17 (by simpa using h), fun h => h18 (by simpa using h), fun h => (h19 (by simpa using h)).below b5, fun h => h20 (by simpa using h), fun _ => rfl, fun h => h22 (by simpa using h), fun h => h23 (by simpa using h), fun h => h24 (by simpa using h)⟩
    · simp only [List.getElem?_toArray, List.getElem?_cons_zero, List.getElem?_cons_succ, Option.some.injEq] at ho
      subst ho
      obtain rfl := h14 (dep 14 (by kernel_rfl))
      obtain rfl := h16 (dep 16 (by kernel_rfl))
      obtain rfl := h21 (dep 21 (by kernel_rfl))
      go_simp
      refine hK.out _ _ ⟨_, _, _, _, _, _, _, _, _, _, _, _, _, _, _, _, _, _, _, _, _, _, _, _, _, rfl, HW, fun h => h0 (by simpa using h), fun h => h1 (by simpa using h), fun h => h2 (by simpa using h), fun h => h3 (by simpa using h), fun h => h4 (by simpa using h), fun h => h5 (by simpa using h), fun h => h6 (by simpa using h), fun h => h7 (by simpa using h), fun h => h8 (by simpa using h), fun h => h9 (by simpa using h), fun h => h10 (by simpa using h), fun h => h11 (by simpa using h), fun h => h12 (by simpa using h), fun h => h13 (by simpa using h), fun h => h14 (by simpa using h), fun h => h15 (by simpa using h), fun h => h16 (by simpa using h), fun h => h17 (by simpa using h), fun h => h18 (by simpa using h), fun h => h19 (by simpa using h), fun h => h20 (by simpa using h), fun h => h21 (by simpa using h), fun _ => rfl, fun h => h23 (by simpa using h), fun h => h24 (by simpa using h)⟩
    · simp only [List.getElem?_toArray, List.getElem?_cons_zero, List.getElem?_cons_succ, Option.some.injEq] at ho
      subst ho
      obtain rfl := h14 (dep 14 (by kernel_rfl))
      obtain rfl := h22 (dep 22 (by kernel_rfl))
      go_simp
      refine hK.out _ _ ⟨_, _, _, _, _, _, _, _, _, _, _, _, _, _, _, _, _, _, _, _, _, _, _, _, _, rfl, HW, fun h => h0 (by simpa using h), fun h => h1 (by simpa using h), fun h => h2 (by simpa using h), fun h => h3 (by simpa using h), fun h => h4 (by simpa using h), fun h => h5 (by simpa using h), fun h => h6 (by simpa using h), fun h => h7 (by simpa using h), fun h => h8 (by simpa using h), fun h => h9 (by simpa using h), fun h => h10 (by simpa using h), fun h => h11 (by simpa using h), fun h => h12 (by simpa using h), fun h => h13 (by simpa using h), fun h => h14 (by simpa using h), fun h => h15 (by simpa using h), fun h => h16 (by simpa using h), fun h => h17 (by simpa using h), fun h => h18 (by simpa using h), fun h => h19 (by simpa using h), fun h => h20 (by simpa using h), fun h => h21 (by simpa using h), fun h => h22 (by simpa using h), fun _ => rfl, fun h => h24 (by simpa using h)⟩
    · simp only [List.getElem?_toArray, List.getElem?_cons_zero, List.getElem?_cons_succ, Option.some.injEq] at ho
      subst ho
      obtain rfl := h23 (dep 23 (by kernel_rfl))
      go_simp
      refine hK.out _ _ ⟨_, _, _, _, _, _, _, _, _, _, _, _, _, _, _, _, _, _, _, _, _, _, _, _, _, rfl, HW, fun h => h0 (by simpa using h), fun h => h1 (by simpa using h), fun h => h2 (by simpa using h), fun h => h3 (by simpa using h), fun h => h4 (by simpa using h), fun h => h5 (by simpa using h), fun h => h6 (by simpa using h), fun h => h7 (by simpa using h), fun h => h8 (by simpa using h), fun h => h9 (by simpa using h), fun h => h10 (by simpa using h), fun h => h11 (by simpa using h), fun h => h12 (by simpa using h), fun h => h13 (by simpa using h), fun h => h14 (by simpa using h), fun h => h15 (by simpa using h), fun h => h16 (by simpa using h), fun h => h17 (by simpa using h), fun h => h18 (by simpa using h), fun h => h19 (by simpa using h), fun h => h20 (by simpa using h), fun h => h21 (by simpa using h), fun h => h22 (by simpa using h), fun h => h23 (by simpa using h), fun _ => rfl⟩
  case done1 =>
    rintro b a' w' ⟨v20, v21, v22, v23, v24, v25, v26, v27, v28, v29, v30, v31, v32, v33, v34, v35, v36, v37, v38, v39, v40, v41, v42, v43, v6, rfl, HW, h0, h1, h2, h3, h4, h5, h6, h7, h8, h9, h10, h11, h12, h13, h14, h15, h16, h17, h18, h19, h20, h21, h22, h23, h24⟩ hall
    obtain rfl := h24 (hall 24)
    clear h0 h1 h2 h3 h4 h5 h6 h7 h8 h9 h10 h11 h12 h13 h14 h15 h16 h17 h18 h19 h20 h21 h22 h23 h24 hall
    have HZ := hid HW
    clear HW
    go_wp2
    go_ret
    exact ⟨rfl, XD.out.2.2.2.trans (HZ.out.mono XD.out.2.2.2.size)⟩
  case init1 =>
    exact ⟨_, _, _, _, _, _, _, _, _, _, _, _, _, _, _, _, _, _, _, _, _, _, _, _, _, rfl, (Below.refl _ _).drew, fun h => absurd h (by simp), fun h => absurd h (by simp), fun h => absurd h (by simp), fun h => absurd h (by simp), fun h => absurd h (by simp), fun h => absurd h (by simp), fun h => absurd h (by simp), fun h => absurd h (by simp), fun h => absurd h (by simp), fun h => absurd h (by simp), fun h => absurd h (by simp), fun h => absurd h (by simp), fun h => absurd h (by simp), fun h => absurd h (by simp), fun h => absurd h (by simp), fun h => absurd h (by simp), fun h => absurd h (by simp), fun h => absurd h (by simp), fun h => absurd h (by simp), fun h => absurd h (by simp), fun h => absurd h (by simp), fun h => absurd h (by simp), fun h => absurd h (by simp), fun h => absurd h (by simp), fun h => absurd h (by simp)⟩

set_option maxRecDepth 100000 in
theorem lifted (os : Os) (started : os.Started) (H : Type) (enc : TypeId × Value → H) :
    ReturnsInHanded {} Tryd.checked os 8 .any (fun w args => (Rows.regexDeriveSpec.pre enc Tryd.prog Tryd.f8 [] false w args ∧ laidMetH Tryd.prog laidT w) ∧ sizedMet enc Tryd.prog Tryd.f8 (OpenSpec.ofChange Rows.regexDeriveSpec) false w args) (Rows.regexDeriveSpec.post enc Tryd.prog Tryd.f8 false true false false) := by
  refine Go.Frame.lifted_laid (C := Tryd.checked) (tb := 4) laidT own started (by kernel_rfl) Tryd.func8
    (ChangeSpec.witness_shaped (enc := enc) (C := Tryd.checked) (os := os) (X := fun w _ => laidMetH Tryd.prog laidT w) false (World.doorLaid Tryd.prog 400 os) #[.agg #[.int .i64 0, .int .u64 0, .int .u64 0, .int .u64 0, .int .u64 0, .slice none 0 0], .int .u8 0, .string ByteArray.empty] 8 rfl (World.shaped_of_RefB (by kernel_rfl) (by kernel_rfl)) (by kernel_rfl) (by kernel_rfl) (by kernel_rfl) (door_met os _))
    laidOut (by kernel_rfl) (by kernel_rfl) Tryd.underlying4 rfl ?_ ?_
  · intro ds h
    have h : ds.length = 3 := h
    match ds, h with
    | [_, _, _], _ => rfl
  · intro W base args ds p hlen hval0 hA hsz0 hlaid
    have hval : ∀ (j : Nat) t v, Tryd.f8.params[j]? = some t → args[j]? = some v → Value.okWide Tryd.prog W .any base t v := hval0
    have hA : DataW.TrodAll enc Tryd.prog W 0 (fun _ => true) true Tryd.f8.params.toList args.toList ds p := hA
    have hsz : (DataW.weightsEach Tryd.prog Tryd.f8.params.toList ds).all (· ≤ reachBytes) = true := hsz0
    have hT := tb_of_laid hlaid
    rw [Tryd.params8] at hA hval hsz
    obtain ⟨v0, vs0, d0, ds0, p0, q0, hargs, hds, _, th0, tr0⟩ := trodAll_cons hA
    obtain ⟨v1, vs1, d1, ds1, p1, q1, rfl, rfl, _, th1, tr1⟩ := trodAll_cons tr0
    obtain ⟨v2, vs2, d2, ds2, p2, q2, rfl, rfl, _, th2, tr2⟩ := trodAll_cons tr1
    obtain ⟨rfl, rfl, _⟩ := trodAll_nil tr2
    obtain rfl : args = #[v0, v1, v2] := by cases args; simp_all
    subst hds
    obtain ⟨q0, cs0, rfl, hq0⟩ := open_rx (hval 0 27 v0 rfl rfl) th0 (fun n hn => of_decide_eq_true (List.all_eq_true.1 hsz _ (DataW.weights_mem_each (j := 0) rfl rfl n hn)))
    obtain ⟨n1, rfl, hn1⟩ := open_u8 (hval 1 5 v1 rfl rfl) th1
    obtain ⟨t2, rfl, hd2, _, _⟩ := open_string Tryd.underlying9 (hval 2 9 v2 rfl rfl) th2
    exact walk q0 cs0 n1 t2 W hq0 hn1 hT

theorem over : Rows.RegexDeriveSaid :=
  OpenClaim.holds_of_wide 8 Tryd.f8 rfl rfl rfl rfl rfl rfl rfl ⟨rfl, rfl, rfl, rfl, rfl⟩ rfl rfl rfl rfl rfl (by kernel_rfl) Tryd.func8 (by kernel_rfl)
    (of_decide_eq_true (by kernel_rfl)) (by unfold Func.isWrapper; first | (rw [if_pos (by decide +kernel)]; kernel_rfl) | (rw [if_neg (by decide +kernel)]; exact ⟨rfl, rfl⟩))
    (fun os started H enc _ => lifted os started H enc)

/-- THE STATEMENT: the tied card. -/
theorem proved : Rows.RegexDeriveCardSaid :=
  Claim7.holds_tied_plain_at .later [] [.data] true (true, "dd46b08e84a61b7e61138d74753cff02afb7ed2cf4ddd25005136ca1f7ca6772") false
    over (fun _ h => by cases h) (by kernel_rfl) (fun _ h => by cases h) regexDerive_row_tie rfl ⟨rfl, rfl⟩ (by kernel_rfl) rfl
    (fun f fn hf hfn => by
      obtain rfl : f = 8 := Option.some.inj ((show Tryd.prog.funcNamed "emendate/emendatelaw08.RegexDerive" = some 8 by kernel_rfl).symm.trans hf) |>.symm
      obtain rfl : fn = Tryd.f8 := (Option.some.inj (Tryd.func8.symm.trans hfn)).symm
      exact ⟨by kernel_rfl, fun j t ht => by
        rw [Tryd.params8] at ht
        have hm : t ∈ [27, 5, 9] := by simpa using Array.mem_of_getElem? ht
        have hall : ([27, 5, 9].all fun u => !Tryd.prog.wantsStandIn u) = true := by kernel_rfl
        exact (show Tryd.prog.wantsStandIn t = false by simpa using List.all_eq_true.1 hall t hm)⟩)
    (by kernel_rfl)
#print axioms proved
end Go.Proofs.YtednoideboeehaaDoor.regexDerive
