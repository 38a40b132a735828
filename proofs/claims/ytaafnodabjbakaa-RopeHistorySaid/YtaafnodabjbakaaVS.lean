/-
  Contracts: visit, handed Slice's function, which writes each piece to a builder.
-/
import Derived.Test.YtaafnodabjbakaaP
import Derived.Test.YtaafnodabjbakaaRg
import Derived.Deep.CutRange
import Derived.Deep.CutBlock
namespace Go.Proofs.Ytaafnodabjbakaa
open Go.RowKit Rp

theorem drewB2 (W : World) : W.grownBy W.drew.drew none := ⟨rfl, rfl, rfl, Nat.le_refl _, fun _ _ _ => rfl⟩
theorem drewBq (W : World) (n : Nat) : W.grownBy (W.drewN n) none := ⟨rfl, rfl, rfl, Nat.le_refl _, fun _ _ _ => rfl⟩
theorem belowBq {n : Nat} {a w : World} (h : Below n a w) (m : Nat) : Below n a (w.drewN m) := ⟨h.os, h.tape, h.output, h.size, h.block⟩
theorem drewB1 (W : World) : W.grownBy W.drew none := ⟨rfl, rfl, rfl, Nat.le_refl _, fun _ _ _ => rfl⟩
theorem undrewB2 {n : Nat} {w w' : World} (h : Below n w.drew.drew w') : Below n w w' := ((Below.refl n w).drew.drew).trans h
theorem undrewB1 {n : Nat} {w w' : World} (h : Below n w.drew w') : Below n w w' := ((Below.refl n w).drew).trans h

set_option maxRecDepth 100000 in
set_option maxHeartbeats 8000000 in
theorem visit_fn (Bb n₀ N : Nat) (W0 : World) (h0 : n₀ = W0.heap.size) (J : List Pc → World → Prop)
    (hJg : ∀ pre W W', J pre W → W.grownBy W' none → J pre W')
    (hY : ∀ pre x W, J pre W → pre.length < N → Calls Try.prog 33 #[.string x.1, .pointer (some ⟨Bb, 0, none⟩)] W fun e W' =>
      e = .returned (.bool true) ∧ J (pre ++ [x]) W' ∧ Below n₀ W W') (T : BT) :
    ∀ (p : Option Addr) (f t : Int) (vs pre : List Pc) (W : World), Rep W0 p T → Below n₀ W0 W → Tight T.lv → T.size ≤ 1000000000 → -1000000000 ≤ f → t ≤ 2000000000 → f ≤ 2000000000 → -1000000000 ≤ t → vs.map (·.1) = vis T f t → J pre W → pre.length + vs.length ≤ N →
      Calls Try.prog 32 #[.pointer p, .int .i64 f, .int .i64 t, .func (.func 33) #[] #[.pointer (some ⟨Bb, 0, none⟩)]] W fun e W' =>
        e = .returned (.bool true) ∧ J (pre ++ vs) W' ∧ Below n₀ W W' := by
  induction T with
  | leaf s =>
    intro p f t vs pre W hR hb ht hs hf0 ht1 hf1 ht0 hvs hJ hN
    have hR1 := Rep.later (by omega) hb hR
    obtain ⟨b, rfl, hbb⟩ := hR1
    have c2 := (cells_of (h := 0) hbb).c2; have c3 := (cells_of (h := 0) hbb).c3
    have hss : s.size ≤ 1000000000 := hs
    obtain ⟨a, ha⟩ : ∃ a : Nat, max f 0 = (a : Int) := ⟨(max f 0).toNat, by omega⟩
    have HJ := hid hJg
    have HR := hid hR
    clear hbb hR hs ht
    by_cases hx : min t s.size ≤ max f 0
    · obtain ⟨c, hc⟩ : ∃ c : Int, min t s.size = c := ⟨_, rfl⟩
      have hca : c ≤ (a : Int) := by omega
      have hv : vs = [] := by
        rw [vis, if_pos hx] at hvs
        exact List.map_eq_nil_iff.1 hvs
      have HV := hid hv
      clear hvs hx hv hY
      go_enter Try.func32, Try.ntmps32
      go_wp2
      go_quiet (fail)
      go_wp2
      go_ret
      exact ⟨rfl, by rw [HV.out, List.append_nil]; exact HJ.out _ _ _ hJ (drewBq W _), belowBq (Below.refl _ _) _⟩
    · obtain ⟨c, hc⟩ : ∃ c : Nat, min t s.size = (c : Int) := ⟨(min t s.size).toNat, by omega⟩
      have hca : (a : Int) < (c : Int) := by omega
      have hca' : (a : Int) ≤ (c : Int) := by omega
      have hcs : (c : Int) ≤ (s.size : Int) := by omega
      have hac : a < c := by omega
      have hv : vs.map (·.1) = [s.extract a c] := by
        rw [vis, if_neg hx] at hvs
        have e1 : (max f 0).toNat = a := by omega
        have e2 : (min t s.size).toNat = c := by omega
        rw [e1, e2] at hvs; exact hvs
      obtain ⟨v, rfl⟩ : ∃ v, vs = [v] := List.length_eq_one_iff.1 (by have := congrArg List.length hv; simpa using this)
      have hv1 : v.1 = s.extract a c := by simpa using hv
      have HYY := hid (fun W' hj => by have hy := hY pre v W' hj (by simp at hN; omega); rw [hv1] at hy; exact hy)
      clear hvs hx hv hY hv1
      go_enter Try.func32, Try.ntmps32
      go_wp2
      go_quiet (fail)
      obtain ⟨W2, hW2⟩ : ∃ W2, W2 = W.drewN nq := ⟨_, rfl⟩
      have hb2 : Below n₀ W0 W2 := by rw [hW2]; exact belowBq hb _
      have hR2 : Rep W2 (some ⟨b, 0, none⟩) (.leaf s) := Rep.later (by omega) hb2 HR.out
      have d2 : W2.cell? ⟨b, 2, none⟩ = some (.string s) := by rw [hW2]; exact c2
      have hJ2 : J pre W2 := by rw [hW2]; exact HJ.out _ _ _ hJ (drewBq W _)
      have hbq : Below n₀ W W2 := by rw [hW2]; exact belowBq (Below.refl _ _) _
      rw [← hW2]
      clear hW2 hJ c2 c3
      go_upto_region 7 with (go_at_call 47; refine (isLeaf_leaf _ s W2 hR2).mono ?_; rintro e w' ⟨rfl, rfl⟩)
      go_wp2_with (go_at_call 33; refine (HYY.out _ hJ2).mono ?_; rintro e W3 ⟨rfl, hJ3, hb3⟩)
      go_ret
      exact ⟨rfl, hJ3, hbq.trans hb3⟩
  | node x y ihx ihy =>
    intro p f t vs pre W hR hb ht hs hf0 ht1 hf1 ht0 hvs hJ hN
    obtain ⟨b, pl, pr, rfl, hbb, hl, hr⟩ := hR
    obtain ⟨d, _, _, _, rfl, hd, cl⟩ := Rep.some hl
    have Keep := hid (show ∀ W', Below n₀ W0 W' → W'.cell? ⟨b, 0, none⟩ = some (.pointer (some ⟨d, 0, none⟩)) ∧ W'.cell? ⟨b, 1, none⟩ = some (.pointer pr) ∧ W'.cell? ⟨d, 3, none⟩ = some (.int .i64 x.size) from fun W' h =>
      ⟨(h.cell (p := ⟨b, 0, none⟩) (by rw [h0]; exact heap_lt hbb)).trans (cells_of hbb).c0, (h.cell (p := ⟨b, 1, none⟩) (by rw [h0]; exact heap_lt hbb)).trans (cells_of hbb).c1, (h.cell (p := ⟨d, 3, none⟩) (by rw [h0]; exact hd)).trans cl.c3⟩)
    obtain ⟨Z, hZ⟩ : ∃ Z, Z = x.size + y.size := ⟨_, rfl⟩
    have b3 : W.cell? ⟨b, 3, none⟩ = some (.int .i64 Z) := by rw [hZ]; exact (hb.cell (p := ⟨b, 3, none⟩) (by rw [h0]; exact heap_lt hbb)).trans (cells_of hbb).c3
    have hR2 : Rep W (some ⟨b, 0, none⟩) (.node x y) := Rep.later (by omega) hb ⟨b, _, _, rfl, hbb, hl, hr⟩
    obtain ⟨c0, c1, d3⟩ := Keep.out _ hb
    have hZs : Z ≤ 1000000000 := by rw [hZ]; exact hs
    have hxs : x.size ≤ 1000000000 := by omega
    have hys : y.size ≤ 1000000000 := by omega
    obtain ⟨a, ha⟩ : ∃ a : Nat, max f 0 = (a : Int) := ⟨(max f 0).toNat, by omega⟩
    have HX := hid (And.intro hl hr)
    have HT := hid (show Tight (x.lv ++ y.lv) from ht)
    have HJ := hid hJg
    have IHX := hid ihx
    have IHY := hid ihy
    have HZ := hid hZ
    clear hbb hl hr cl hs ht ihx ihy hY hJg hZ
    by_cases hx : min t (Z : Int) ≤ max f 0
    · obtain ⟨c, hc⟩ : ∃ c : Int, min t (Z : Int) = c := ⟨_, rfl⟩
      have hca : c ≤ (a : Int) := by omega
      have hv : vs = [] := by
        rw [vis, ← HZ.out, if_pos hx] at hvs
        exact List.map_eq_nil_iff.1 hvs
      have HV := hid hv
      clear hvs hx hv
      go_enter Try.func32, Try.ntmps32
      go_wp2
      go_quiet (fail)
      go_wp2
      go_ret
      exact ⟨rfl, by rw [HV.out, List.append_nil]; exact HJ.out _ _ _ hJ (drewBq W _), belowBq (Below.refl _ _) _⟩
    · obtain ⟨c, hc⟩ : ∃ c : Nat, min t (Z : Int) = (c : Int) := ⟨(min t (Z : Int)).toNat, by omega⟩
      have hca : (a : Int) < (c : Int) := by omega
      have hcz : (c : Int) ≤ (Z : Int) := by omega
      have hac : a ≤ 1000000000 := by omega
      have hcc : c ≤ 1000000000 := by omega
      rw [vis, ← HZ.out, if_neg hx, hc, ha, List.map_eq_append_iff] at hvs
      obtain ⟨v1, v2, rfl, hv1, hv2⟩ := hvs
      have HV := hid (And.intro hv1 hv2)
      have hN2 : pre.length + v1.length ≤ N := by simp at hN; omega
      have hN3 : pre.length + (v1.length + v2.length) ≤ N := by simpa using hN
      have e4 : IntKind.i64.wrap (↑a - ↑x.size) = (a : Int) - (x.size : Int) := IntWalk.i64_in _ (by omega)
      have e5 : IntKind.i64.wrap (↑c - ↑x.size) = (c : Int) - (x.size : Int) := IntWalk.i64_in _ (by omega)
      clear hx hv1 hv2 hN
      go_enter Try.func32, Try.ntmps32
      go_wp2
      go_quiet (fail)
      obtain ⟨W2, hW2⟩ : ∃ W2, W2 = W.drewN nq := ⟨_, rfl⟩
      have hb2 : Below n₀ W0 W2 := by rw [hW2]; exact belowBq hb _
      have hR3 : Rep W2 (some ⟨b, 0, none⟩) (.node x y) := by rw [hW2]; exact Rep.below (belowBq (Below.refl _ _) _) hR2
      have hJ2 : J pre W2 := by rw [hW2]; exact HJ.out _ _ _ hJ (drewBq W _)
      have hbq : Below n₀ W W2 := by rw [hW2]; exact belowBq (Below.refl _ _) _
      rw [← hW2]
      clear hW2 hJ c0 c1 d3 hR2 b3
      obtain ⟨c0, c1, d3⟩ := Keep.out _ hb2
      go_wp2_with (go_at_call 47; refine (isLeaf_node _ x y W2 hR3).mono ?_; rintro e w' ⟨rfl, rfl⟩)
      refine wp_region_noPanic ?_
      refine wp_region_held_drew (S := fun w' => w'.cell? ⟨b, 0, none⟩ = some (.pointer (some ⟨d, 0, none⟩)) ∧ w'.cell? ⟨b, 1, none⟩ = some (.pointer pr) ∧ w'.cell? ⟨d, 3, none⟩ = some (.int .i64 x.size)) (by kernel_rfl) ⟨c0, c1, d3⟩ (fun hHeld => ?_)
      refine takeW (i := 0) (k := 33) (oi := _) (v := ?v0) rfl rfl (by kernel_rfl) (by kernel_rfl) (by kernel_rfl) (fun _ _ _ h => h) (Or.inl ⟨by rfl, ?y0⟩) hHeld ?r0
      case y0 => (intro w' hSw; (try dsimp only at hSw); go_simp; first | done | with_reducible rfl)
      simp only [List.setIfInBounds_toArray, List.set_cons_zero, List.set_cons_succ]
      refine takeW (i := 1) (k := 34) (oi := _) (v := ?v1) rfl rfl (by kernel_rfl) (by kernel_rfl) (by kernel_rfl) (fun _ _ _ h => h) (Or.inl ⟨by rfl, ?y1⟩) hHeld ?r1
      case y1 => (intro w' hSw; (try dsimp only at hSw); go_simp; first | done | with_reducible rfl)
      simp only [List.setIfInBounds_toArray, List.set_cons_zero, List.set_cons_succ]
      refine takeW (i := 2) (k := 35) (oi := _) (v := ?v2) rfl rfl (by kernel_rfl) (by kernel_rfl) (by kernel_rfl) (fun _ _ _ h => h) (Or.inl ⟨by rfl, ?y2⟩) hHeld ?r2
      case y2 => (intro w' hSw; (try dsimp only at hSw); go_simp; first | done | with_reducible rfl)
      simp only [List.setIfInBounds_toArray, List.set_cons_zero, List.set_cons_succ]
      refine takeW (i := 3) (k := 36) (oi := _) (v := ?v3) rfl rfl (by kernel_rfl) (by kernel_rfl) (by kernel_rfl) (fun _ _ _ h => h) (Or.inl ⟨by rfl, ?y3⟩) hHeld ?r3
      case y3 => (intro w' hSw; (try dsimp only at hSw); go_simp; first | done | with_reducible rfl)
      simp only [List.setIfInBounds_toArray, List.set_cons_zero, List.set_cons_succ]
      refine takeW (i := 4) (k := 37) (oi := _) (v := ?v4) rfl rfl (by kernel_rfl) (by kernel_rfl) (by kernel_rfl) (fun _ _ _ h => h) (Or.inl ⟨by rfl, ?y4⟩) hHeld ?r4
      case y4 => (intro w' hSw; (try dsimp only at hSw); go_simp; first | done | with_reducible rfl)
      simp only [List.setIfInBounds_toArray, List.set_cons_zero, List.set_cons_succ]
      refine takeW (i := 5) (k := 38) (oi := _) (v := ?v5) rfl rfl (by kernel_rfl) (by kernel_rfl) (by kernel_rfl) (fun _ _ _ h => h) (Or.inl ⟨by rfl, ?y5⟩) hHeld ?r5
      case y5 => (intro w' hSw; (try dsimp only at hSw); go_simp; first | done | with_reducible rfl)
      simp only [List.setIfInBounds_toArray, List.set_cons_zero, List.set_cons_succ]
      refine takeW (i := 6) (k := 39) (oi := _) (v := ?v6) rfl rfl (by kernel_rfl) (by kernel_rfl) (by kernel_rfl) (fun _ _ _ h => h) (Or.inl ⟨by rfl, ?y6⟩) hHeld ?r6
      case y6 => (intro w' hSw; (try dsimp only at hSw); go_simp; first | done | with_reducible rfl)
      simp only [List.setIfInBounds_toArray, List.set_cons_zero, List.set_cons_succ]
      refine callW (i := 7) (oi := _) rfl (by kernel_rfl) (fun K hK => ?_)
      go_simp
      refine (IHX.out _ _ _ v1 pre _ HX.out.1 hb2.drew HT.out.left (by omega) (by omega) (by omega) (by omega) (by omega) HV.out.1 (HJ.out _ _ _ hJ2 (drewB1 W2)) (by omega)).mono ?_
      rintro e W3 ⟨rfl, hJ3, hb3⟩
      have hbA := hb2.drew.trans hb3
      obtain ⟨e0, e1, e3⟩ := Keep.out _ hbA
      clear hHeld
      refine hK.out _ _ ⟨e0, e1, e3⟩ (fun hHeld => ?_)
      clear hK K
      (try simp only [Act.put, List.setIfInBounds_toArray, List.set_cons_zero, List.set_cons_succ])
      refine takeW (i := 8) (k := 41) (oi := _) (v := ?v7) rfl rfl (by kernel_rfl) (by kernel_rfl) (by kernel_rfl) (fun _ _ _ h => h) (Or.inl ⟨by rfl, ?y7⟩) hHeld ?r7
      case y7 => (intro w' hSw; (try dsimp only at hSw); go_simp; first | done | with_reducible rfl)
      simp only [List.setIfInBounds_toArray, List.set_cons_zero, List.set_cons_succ]
      refine takeW (i := 9) (k := 42) (oi := _) (v := ?v8) rfl rfl (by kernel_rfl) (by kernel_rfl) (by kernel_rfl) (fun _ _ _ h => h) (Or.inl ⟨by rfl, ?y8⟩) hHeld ?r8
      case y8 => (intro w' hSw; (try dsimp only at hSw); go_simp; first | done | with_reducible rfl)
      simp only [List.setIfInBounds_toArray, List.set_cons_zero, List.set_cons_succ]
      refine takeW (i := 10) (k := 43) (oi := _) (v := ?v9) rfl rfl (by kernel_rfl) (by kernel_rfl) (by kernel_rfl) (fun _ _ _ h => h) (Or.inl ⟨by rfl, ?y9⟩) hHeld ?r9
      case y9 => (intro w' hSw; (try dsimp only at hSw); go_simp; first | done | with_reducible rfl)
      simp only [List.setIfInBounds_toArray, List.set_cons_zero, List.set_cons_succ]
      refine takeW (i := 11) (k := 44) (oi := _) (v := ?v10) rfl rfl (by kernel_rfl) (by kernel_rfl) (by kernel_rfl) (fun _ _ _ h => h) (Or.inl ⟨by rfl, ?y10⟩) hHeld ?r10
      case y10 => (intro w' hSw; (try dsimp only at hSw); go_simp; first | done | with_reducible rfl)
      simp only [List.setIfInBounds_toArray, List.set_cons_zero, List.set_cons_succ]
      refine takeW (i := 12) (k := 45) (oi := _) (v := ?v11) rfl rfl (by kernel_rfl) (by kernel_rfl) (by kernel_rfl) (fun _ _ _ h => h) (Or.inl ⟨by rfl, ?y11⟩) hHeld ?r11
      case y11 => (intro w' hSw; (try dsimp only at hSw); go_simp; first | done | with_reducible rfl)
      simp only [List.setIfInBounds_toArray, List.set_cons_zero, List.set_cons_succ]
      refine takeW (i := 13) (k := 46) (oi := _) (v := ?v12) rfl rfl (by kernel_rfl) (by kernel_rfl) (by kernel_rfl) (fun _ _ _ h => h) (Or.inl ⟨by rfl, ?y12⟩) hHeld ?r12
      case y12 => (intro w' hSw; (try dsimp only at hSw); go_simp; first | done | with_reducible rfl)
      simp only [List.setIfInBounds_toArray, List.set_cons_zero, List.set_cons_succ]
      refine takeW (i := 14) (k := 47) (oi := _) (v := ?v13) rfl rfl (by kernel_rfl) (by kernel_rfl) (by kernel_rfl) (fun _ _ _ h => h) (Or.inl ⟨by rfl, ?y13⟩) hHeld ?r13
      case y13 => (intro w' hSw; (try dsimp only at hSw); go_simp; first | done | with_reducible rfl)
      simp only [List.setIfInBounds_toArray, List.set_cons_zero, List.set_cons_succ]
      refine takeW (i := 15) (k := 48) (oi := _) (v := ?v14) rfl rfl (by kernel_rfl) (by kernel_rfl) (by kernel_rfl) (fun _ _ _ h => h) (Or.inl ⟨by rfl, ?y14⟩) hHeld ?r14
      case y14 => (intro w' hSw; (try dsimp only at hSw); go_simp; first | done | with_reducible rfl)
      simp only [List.setIfInBounds_toArray, List.set_cons_zero, List.set_cons_succ]
      refine takeW (i := 16) (k := 49) (oi := _) (v := ?v15) rfl rfl (by kernel_rfl) (by kernel_rfl) (by kernel_rfl) (fun _ _ _ h => h) (Or.inl ⟨by rfl, ?y15⟩) hHeld ?r15
      case y15 => (intro w' hSw; (try dsimp only at hSw); go_simp; first | done | with_reducible rfl)
      simp only [List.setIfInBounds_toArray, List.set_cons_zero, List.set_cons_succ]
      refine takeW (i := 17) (k := 50) (oi := _) (v := ?v16) rfl rfl (by kernel_rfl) (by kernel_rfl) (by kernel_rfl) (fun _ _ _ h => h) (Or.inl ⟨by rfl, ?y16⟩) hHeld ?r16
      case y16 => (intro w' hSw; (try dsimp only at hSw); go_simp; first | done | with_reducible rfl)
      simp only [List.setIfInBounds_toArray, List.set_cons_zero, List.set_cons_succ]
      refine takeW (i := 18) (k := 51) (oi := _) (v := ?v17) rfl rfl (by kernel_rfl) (by kernel_rfl) (by kernel_rfl) (fun _ _ _ h => h) (Or.inl ⟨by rfl, ?y17⟩) hHeld ?r17
      case y17 => (intro w' hSw; (try dsimp only at hSw); go_simp; first | done | with_reducible rfl)
      simp only [List.setIfInBounds_toArray, List.set_cons_zero, List.set_cons_succ]
      refine takeW (i := 19) (k := 52) (oi := _) (v := ?v18) rfl rfl (by kernel_rfl) (by kernel_rfl) (by kernel_rfl) (fun _ _ _ h => h) (Or.inl ⟨by rfl, ?y18⟩) hHeld ?r18
      case y18 => (intro w' hSw; (try dsimp only at hSw); go_simp; first | done | with_reducible rfl)
      simp only [List.setIfInBounds_toArray, List.set_cons_zero, List.set_cons_succ]
      refine takeW (i := 20) (k := 53) (oi := _) (v := ?v19) rfl rfl (by kernel_rfl) (by kernel_rfl) (by kernel_rfl) (fun _ _ _ h => h) (Or.inl ⟨by rfl, ?y19⟩) hHeld ?r19
      case y19 => (intro w' hSw; (try dsimp only at hSw); go_simp; first | done | with_reducible rfl)
      simp only [List.setIfInBounds_toArray, List.set_cons_zero, List.set_cons_succ]
      refine takeW (i := 21) (k := 54) (oi := _) (v := ?v20) rfl rfl (by kernel_rfl) (by kernel_rfl) (by kernel_rfl) (fun _ _ _ h => h) (Or.inl ⟨by rfl, ?y20⟩) hHeld ?r20
      case y20 => (intro w' hSw; (try dsimp only at hSw); go_simp; first | done | with_reducible rfl)
      simp only [List.setIfInBounds_toArray, List.set_cons_zero, List.set_cons_succ]
      refine takeW (i := 22) (k := 55) (oi := _) (v := ?v21) rfl rfl (by kernel_rfl) (by kernel_rfl) (by kernel_rfl) (fun _ _ _ h => h) (Or.inl ⟨by rfl, ?y21⟩) hHeld ?r21
      case y21 => (intro w' hSw; (try dsimp only at hSw); go_simp; first | done | with_reducible rfl)
      simp only [List.setIfInBounds_toArray, List.set_cons_zero, List.set_cons_succ]
      refine takeW (i := 23) (k := 56) (oi := _) (v := ?v22) rfl rfl (by kernel_rfl) (by kernel_rfl) (by kernel_rfl) (fun _ _ _ h => h) (Or.inl ⟨by rfl, ?y22⟩) hHeld ?r22
      case y22 => (intro w' hSw; (try dsimp only at hSw); go_simp; first | done | with_reducible rfl)
      simp only [List.setIfInBounds_toArray, List.set_cons_zero, List.set_cons_succ]
      refine takeW (i := 24) (k := 57) (oi := _) (v := ?v23) rfl rfl (by kernel_rfl) (by kernel_rfl) (by kernel_rfl) (fun _ _ _ h => h) (Or.inl ⟨by rfl, ?y23⟩) hHeld ?r23
      case y23 => (intro w' hSw; (try dsimp only at hSw); go_simp; first | done | with_reducible rfl)
      simp only [List.setIfInBounds_toArray, List.set_cons_zero, List.set_cons_succ]
      refine takeW (i := 25) (k := 58) (oi := _) (v := ?v24) rfl rfl (by kernel_rfl) (by kernel_rfl) (by kernel_rfl) (fun _ _ _ h => h) (Or.inl ⟨by rfl, ?y24⟩) hHeld ?r24
      case y24 => (intro w' hSw; (try dsimp only at hSw); go_simp; first | done | with_reducible rfl)
      simp only [List.setIfInBounds_toArray, List.set_cons_zero, List.set_cons_succ]
      refine takeW (i := 26) (k := 59) (oi := _) (v := ?v25) rfl rfl (by kernel_rfl) (by kernel_rfl) (by kernel_rfl) (fun _ _ _ h => h) (Or.inl ⟨by rfl, ?y25⟩) hHeld ?r25
      case y25 => (intro w' hSw; (try dsimp only at hSw); go_simp; first | done | with_reducible rfl)
      simp only [List.setIfInBounds_toArray, List.set_cons_zero, List.set_cons_succ]
      refine takeW (i := 27) (k := 60) (oi := _) (v := ?v26) rfl rfl (by kernel_rfl) (by kernel_rfl) (by kernel_rfl) (fun _ _ _ h => h) (Or.inl ⟨by rfl, ?y26⟩) hHeld ?r26
      case y26 => (intro w' hSw; (try dsimp only at hSw); go_simp; first | done | with_reducible rfl)
      simp only [List.setIfInBounds_toArray, List.set_cons_zero, List.set_cons_succ]
      refine takeW (i := 28) (k := 61) (oi := _) (v := ?v27) rfl rfl (by kernel_rfl) (by kernel_rfl) (by kernel_rfl) (fun _ _ _ h => h) (Or.inl ⟨by rfl, ?y27⟩) hHeld ?r27
      case y27 => (intro w' hSw; (try dsimp only at hSw); go_simp; first | done | with_reducible rfl)
      simp only [List.setIfInBounds_toArray, List.set_cons_zero, List.set_cons_succ]
      refine takeW (i := 29) (k := 62) (oi := _) (v := ?v28) rfl rfl (by kernel_rfl) (by kernel_rfl) (by kernel_rfl) (fun _ _ _ h => h) (Or.inl ⟨by rfl, ?y28⟩) hHeld ?r28
      case y28 => (intro w' hSw; (try dsimp only at hSw); go_simp; first | done | with_reducible rfl)
      simp only [List.setIfInBounds_toArray, List.set_cons_zero, List.set_cons_succ]
      refine takeW (i := 30) (k := 63) (oi := _) (v := ?v29) rfl rfl (by kernel_rfl) (by kernel_rfl) (by kernel_rfl) (fun _ _ _ h => h) (Or.inl ⟨by rfl, ?y29⟩) hHeld ?r29
      case y29 => (intro w' hSw; (try dsimp only at hSw); go_simp; first | done | with_reducible rfl)
      simp only [List.setIfInBounds_toArray, List.set_cons_zero, List.set_cons_succ]
      refine takeW (i := 31) (k := 64) (oi := _) (v := ?v30) rfl rfl (by kernel_rfl) (by kernel_rfl) (by kernel_rfl) (fun _ _ _ h => h) (Or.inl ⟨by rfl, ?y30⟩) hHeld ?r30
      case y30 => (intro w' hSw; (try dsimp only at hSw); go_simp; first | done | with_reducible rfl)
      simp only [List.setIfInBounds_toArray, List.set_cons_zero, List.set_cons_succ]
      refine callW (i := 32) (oi := _) rfl (by kernel_rfl) (fun K hK => ?_)
      go_simp
      refine (IHY.out _ _ _ v2 (pre ++ v1) _ HX.out.2 hbA HT.out.right (by omega) (by omega) (by omega) (by omega) (by omega) HV.out.2 hJ3 (by simp; omega)).mono ?_
      rintro e W4 ⟨rfl, hJ4, hb4⟩
      have hbB := hbA.trans hb4
      obtain ⟨g0, g1, g3⟩ := Keep.out _ hbB
      clear hHeld
      refine hK.out _ _ ⟨g0, g1, g3⟩ (fun hHeld => ?_)
      clear hK K
      (try simp only [Act.put, List.setIfInBounds_toArray, List.set_cons_zero, List.set_cons_succ])
      refine takeW (i := 33) (k := 66) (oi := _) (v := ?v31) rfl rfl (by kernel_rfl) (by kernel_rfl) (by kernel_rfl) (fun _ _ _ h => h) (Or.inl ⟨by rfl, ?y31⟩) hHeld ?r31
      case y31 => (intro w' hSw; (try dsimp only at hSw); go_simp; first | done | with_reducible rfl)
      simp only [List.setIfInBounds_toArray, List.set_cons_zero, List.set_cons_succ]
      refine takeW (i := 34) (k := 8) (oi := _) (v := ?v32) rfl rfl (by kernel_rfl) (by kernel_rfl) (by kernel_rfl) (fun _ _ _ h => h) (Or.inl ⟨by rfl, ?y32⟩) hHeld ?r32
      case y32 => (intro w' hSw; (try dsimp only at hSw); go_simp; first | done | with_reducible rfl)
      simp only [List.setIfInBounds_toArray, List.set_cons_zero, List.set_cons_succ]
      refine wpAnyH_done (by kernel_rfl) (NoPanic.normal ?_) _
      go_wp2
      go_ret
      exact ⟨rfl, by rw [← List.append_assoc]; exact hJ4, hbq.trans ((undrewB1 hb3).trans hb4)⟩

end Go.Proofs.Ytaafnodabjbakaa
