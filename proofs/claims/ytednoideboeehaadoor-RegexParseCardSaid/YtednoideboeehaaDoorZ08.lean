/-
  Contract: atom.
  Contract: repeat.
  Contract: branch.
  Contract: regex; all of the descent.
-/
import Derived.Test.YtednoideboeehaaDoorZ07
import Derived.Deep.LoopGhost
import Derived.LoopIn
import Derived.TacticsInMore
import Derived.Deep.AppendLies
section
set_option linter.unusedSimpArgs false
set_option linter.unusedVariables false
namespace Go.Proofs.YtednoideboeehaaDoor
open Go.RowKit Bs Rg Go.Frame
attribute [local go_sem] eq_zero eq_set

theorem Pk.blk {pb : Nat} {w w' : World} {b : Nat} {o : Obj} (h : Pk pb w w') (hb : pb ≠ b) (hx : w.heap[b]? = some o) : w'.heap[b]? = some o := (h.block (Ne.symm hb) (heap_lt hx)).trans hx
theorem seven_set {W : World} {b : Nat} {x0 x1 x2 x3 x4 x5 x6 y1 y2 y3 y4 : Value} {t : TypeId} (h : W.heap[b]? = some (.cells #[x0, x1, x2, x3, x4, x5, x6] t (0, 0))) : ((((W.setCell ⟨b, 1, none⟩ y1).setCell ⟨b, 2, none⟩ y2).setCell ⟨b, 3, none⟩ y3).setCell ⟨b, 4, none⟩ y4).heap[b]? = some (.cells #[x0, y1, y2, y3, y4, x5, x6] t (0, 0)) := by
  rw [blk_put (blk_put (blk_put (blk_put h)))]; rfl
theorem ge_of {n b : Nat} (h : n ≤ b) : ge n b := h
/-- The value of a part. -/
def ptv (n : Nat) (x : Rx) (w : World) (v : Value) : Prop := PT (ge n) w x v
theorem PT.ptr {g : Nat → Prop} {W : World} {x : Rx} {v : Value} (h : PT g W x v) : ∃ b, v = .pointer (some ⟨b, 0, none⟩) ∧ g b := by
  obtain ⟨k, s, l⟩ := x
  obtain ⟨b, a, n, c, e, hb, _⟩ := PT_mk.1 h
  exact ⟨b, e, hb⟩

set_option maxRecDepth 100000 in
set_option maxHeartbeats 4000000 in
theorem atom_any (n : Nat) (IH : ∀ (pb : Nat) (s : ByteArray) (p : Nat) (l : List UInt8) (w : World), PS pb s w p l → 4 * l.length + 4 ≤ n → Calls Tryd.prog 32 #[.pointer (some ⟨pb, 0, none⟩)] w fun e w' => Out pb s w (pRegex n l) (ptv w.heap.size) e w')
    (pb : Nat) (s : ByteArray) (p : Nat) (l : List UInt8) (w : World) (h : PS pb s w p l) (hn : 4 * l.length + 1 ≤ n + 1) :
    Calls Tryd.prog 94 #[.pointer (some ⟨pb, 0, none⟩)] w fun e w' => Out pb s w (pAtom (n + 1) l) (ptv w.heap.size) e w' := by
  have hpb := heap_lt h.box
  have C1 := hid (skip_any pb s p l 40 w h)
  rw [show (((40 : UInt8).toNat : Nat) : Int) = 40 from rfl] at C1
  clear h
  rw [pAtom]
  cases h1 : skip 40 l with
  | some t =>
    rw [h1] at C1
    simp only [Option.isSome_some, Option.getD_some] at C1
    have hlt : t.length + 1 = l.length := by rw [skip_some h1]; rfl
    have IH' := hid (fun p w (hP : PS pb s w p t) => IH pb s p t w hP (by omega))
    simp only
    cases h2 : pRegex n t with
    | bad u =>
      rw [h2] at IH'
      simp only [out_bad] at IH' ⊢
      go_enter Tryd.func94, Tryd.ntmps94
      go_wp2_with fail
      refine C1.out.mono ?_
      rintro e W1 ⟨rfl, B1, p1, hP1⟩
      have C2 := hid (IH'.out p1 W1 hP1)
      have H1 := hid B1
      clear B1 hP1
      go_wp2_with fail
      refine C2.out.mono ?_
      rintro e W2 ⟨B2, rfl, hP2⟩
      have H2 := hid (And.intro (H1.out.trans B2) hP2)
      clear B2 hP2
      go_wp2
      exact ⟨rfl, H2.out.1, rfl, H2.out.2⟩
    | ok x u =>
      rw [h2] at IH'
      simp only [out_ok] at IH'
      simp only
      cases h3 : skip 41 u with
      | none =>
        simp only [out_bad]
        go_enter Tryd.func94, Tryd.ntmps94
        go_wp2_with fail
        refine C1.out.mono ?_
        rintro e W1 ⟨rfl, B1, p1, hP1⟩
        have C2 := hid (IH'.out p1 W1 hP1)
        have H1 := hid B1
        clear B1 hP1
        go_wp2_with fail
        refine C2.out.mono ?_
        rintro e W2 ⟨B2, ⟨v, rfl, hv⟩, p2, hP2⟩
        have C3 := hid (skip_any pb s p2 u 41 W2 hP2)
        rw [show (((41 : UInt8).toNat : Nat) : Int) = 41 from rfl, h3] at C3
        simp only [Option.isSome_none, Option.getD_none] at C3
        have H2 := hid (H1.out.trans B2)
        clear B2 hP2 hv
        go_wp2_with fail
        refine C3.out.mono ?_
        rintro e W3 ⟨rfl, B3, hP3⟩
        have H3 := hid (And.intro (H2.out.trans B3) hP3)
        clear B3 hP3
        go_wp2_with (go_at_call 33; refine (fail_any pb _).mono ?_; rintro e W4 ⟨rfl, rfl⟩)
        exact ⟨rfl, H3.out.1, rfl, H3.out.2⟩
      | some t3 =>
        simp only [out_ok]
        go_enter Tryd.func94, Tryd.ntmps94
        go_wp2_with fail
        refine C1.out.mono ?_
        rintro e W1 ⟨rfl, B1, p1, hP1⟩
        have C2 := hid (IH'.out p1 W1 hP1)
        have H1 := hid B1
        clear B1 hP1
        go_wp2_with fail
        refine C2.out.mono ?_
        rintro e W2 ⟨B2, ⟨v, rfl, hv⟩, p2, hP2⟩
        have C3 := hid (skip_any pb s p2 u 41 W2 hP2)
        rw [show (((41 : UInt8).toNat : Nat) : Int) = 41 from rfl, h3] at C3
        simp only [Option.isSome_some, Option.getD_some] at C3
        have H2 := hid (And.intro (H1.out.trans B2) (PT.more (fun b hb _ => Nat.le_trans H1.out.size hb) hv))
        clear B2 hP2 hv
        go_wp2_with fail
        refine C3.out.mono ?_
        rintro e W3 ⟨rfl, B3, hP3⟩
        have H3 := hid (And.intro (H2.out.1.trans B3) (And.intro hP3 (PT.pk hpb B3 H2.out.2)))
        clear B3 hP3
        go_wp2
        go_ret
        exact ⟨H3.out.1, ⟨_, rfl, H3.out.2.2⟩, H3.out.2.1⟩
  | none =>
    rw [h1] at C1
    simp only [Option.isSome_none, Option.getD_none] at C1
    simp only
    cases h2 : setM l with
    | bad u =>
      simp only [out_bad]
      go_enter Tryd.func94, Tryd.ntmps94
      go_wp2_with fail
      refine C1.out.mono ?_
      rintro e W1 ⟨rfl, B1, p1, hP1⟩
      have hs1 := B1.size
      have CN := hid (newPart_any (ge w.heap.size) 3 none 0 0 [] W1 (PR.nil _ _ _) hs1 0 (by decide) (by rw [depthL]; omega))
      have H1 := hid (And.intro B1 hP1)
      clear B1 hP1 hs1
      go_wp2_with fail
      refine CN.out.mono ?_
      rintro e W2 ⟨⟨rfl, hPT⟩, B2⟩
      have C2 := hid (set_any pb s p1 l W2 (H1.out.2.below B2))
      rw [h2] at C2
      simp only [out_bad] at C2
      have H2 := hid (H1.out.1.trans (Pk.of B2))
      clear B2 hPT
      go_wp2_with fail
      refine C2.out.mono ?_
      rintro e W3 ⟨B3, rfl, hP3⟩
      have H3 := hid (And.intro (H2.out.trans B3) hP3)
      clear B3 hP3
      go_wp2
      exact ⟨rfl, H3.out.1, rfl, H3.out.2⟩
    | ok x u =>
      simp only [out_ok]
      go_enter Tryd.func94, Tryd.ntmps94
      go_wp2_with fail
      refine C1.out.mono ?_
      rintro e W1 ⟨rfl, B1, p1, hP1⟩
      have hs1 := B1.size
      have CN := hid (newPart_any (ge w.heap.size) 3 none 0 0 [] W1 (PR.nil _ _ _) hs1 0 (by decide) (by rw [depthL]; omega))
      have H1 := hid (And.intro B1 (And.intro hP1 (show w.heap.size ≤ W1.heap.size ∧ pb ≠ W1.heap.size by omega)))
      clear B1 hP1 hs1
      go_wp2_with fail
      refine CN.out.mono ?_
      rintro e W2 ⟨⟨rfl, hPT⟩, B2⟩
      have C2 := hid (set_any pb s p1 l W2 (H1.out.2.1.below B2))
      rw [h2] at C2
      simp only [out_ok] at C2
      have H2 := hid (And.intro (H1.out.1.trans (Pk.of B2)) hPT)
      clear B2 hPT
      go_wp2_with fail
      refine C2.out.mono ?_
      rintro e W3 ⟨B3, ⟨v, rfl, rfl⟩, p3, hP3⟩
      obtain ⟨b, a, n', c, e0, hb, hc, hr⟩ := PT_mk.1 (PT.pk hpb B3 H2.out.2)
      simp only [Value.pointer.injEq, Option.some.injEq, Addr.mk.injEq, and_true] at e0
      subst e0
      have hn0 : n' = 0 := by have := hr.1; simpa using this.symm
      subst hn0
      obtain ⟨c0, c1, c2, c3, c4, c5, c6⟩ := cells7 hc
      have f1 := free hc 1
      have f2 := free hc 2
      have f3 := free hc 3
      have f4 := free hc 4
      have H3 := hid (And.intro (H2.out.1.trans B3) (And.intro hP3 (And.intro hc hb)))
      clear B3 hP3 hc hr
      go_wp2
      go_ret
      have hle := H1.out.2.2
      refine ⟨Pk.putNew (Pk.putNew (Pk.putNew (Pk.putNew H3.out.1 hle.1) hle.1) hle.1) hle.1, ⟨_, rfl, PT_mk.2 ⟨W1.heap.size, a, 0, c, rfl, H3.out.2.2.2, ?_, PR.nil _ _ _⟩⟩, p3, PS.put (PS.put (PS.put (PS.put H3.out.2.1 hle.2) hle.2) hle.2) hle.2⟩
      have := seven_set (y1 := .int .u64 (ws x 0 : Int)) (y2 := .int .u64 (ws x 1 : Int)) (y3 := .int .u64 (ws x 2 : Int)) (y4 := .int .u64 (ws x 3 : Int)) H3.out.2.2.1
      have hd : depth (.mk 3 x []) = depth (.mk 3 none8 []) := by rw [depth, depth]
      rw [hd]
      exact this
end Go.Proofs.YtednoideboeehaaDoor
end
section
set_option linter.unusedSimpArgs false
set_option linter.unusedVariables false
namespace Go.Proofs.YtednoideboeehaaDoor
open Go.RowKit Bs Rg Go.Frame
attribute [local go_sem] eq_zero eq_set

theorem PR.one {g : Nat → Prop} {b : Nat} {W : World} {x : Rx} {v : Value} {ty : TypeId} (hx : PT g W x v) (hb : g b) (h : W.heap[b]? = some (.cells #[v] ty (0, 0))) : PR g W (some ⟨b, 0, none⟩) 1 [x] :=
  ⟨rfl, by omega, .inr ⟨b, 0, rfl, hb, heap_lt h, by rw [PL, PL]; exact ⟨⟨v, cells1 h, hx⟩, trivial⟩⟩⟩
theorem PR.two {g : Nat → Prop} {b : Nat} {W : World} {x y : Rx} {v u : Value} {ty : TypeId} (hx : PT g W x v) (hy : PT g W y u) (hb : g b) (h : W.heap[b]? = some (.cells #[v, u] ty (0, 0))) : PR g W (some ⟨b, 0, none⟩) 2 [x, y] :=
  ⟨rfl, by omega, .inr ⟨b, 0, rfl, hb, heap_lt h, by rw [PL, PL, PL]; exact ⟨⟨v, (cells2 h).1, hx⟩, ⟨u, (cells2 h).2, hy⟩, trivial⟩⟩⟩
theorem size_alloc (W : World) (o : Obj) : (W.alloc o).heap.size = W.heap.size + 1 := by simp
theorem depth_one (x : Rx) : depthL [x] = depth x := by rw [depthL, depthL]; omega

set_option maxRecDepth 100000 in
set_option maxHeartbeats 4000000 in
theorem repeat_any (n : Nat) (IH : ∀ (pb : Nat) (s : ByteArray) (p : Nat) (l : List UInt8) (w : World), PS pb s w p l → 4 * l.length + 1 ≤ n → Calls Tryd.prog 94 #[.pointer (some ⟨pb, 0, none⟩)] w fun e w' => Out pb s w (pAtom n l) (ptv w.heap.size) e w')
    (pb : Nat) (s : ByteArray) (p : Nat) (l : List UInt8) (w : World) (h : PS pb s w p l) (hn : 4 * l.length + 2 ≤ n + 1) :
    Calls Tryd.prog 75 #[.pointer (some ⟨pb, 0, none⟩)] w fun e w' => Out pb s w (pRepeat (n + 1) l) (ptv w.heap.size) e w' := by
  have hpb := heap_lt h.box
  have hsz := h.sz
  have hll := h.len
  have C1 := hid (IH pb s p l w h (by omega))
  clear h
  rw [pRepeat]
  cases h2 : pAtom n l with
  | bad u =>
    rw [h2] at C1
    simp only [out_bad] at C1 ⊢
    go_enter Tryd.func75, Tryd.ntmps75
    go_wp2_with fail
    refine C1.out.mono ?_
    rintro e W1 ⟨B1, rfl, hP1⟩
    have H1 := hid (And.intro B1 hP1)
    clear B1 hP1
    go_wp2
    exact ⟨rfl, H1.out.1, rfl, H1.out.2⟩
  | ok x0 t0 =>
    rw [h2] at C1
    have hd0 := (p_depth n).1 h2
    obtain ⟨R, hR⟩ : ∃ R, R = post x0 t0 := ⟨_, rfl⟩
    simp only [out_ok] at C1 ⊢
    rw [← hR]
    obtain ⟨D, hD⟩ : ∃ D, D = 3 * l.length := ⟨_, rfl⟩
    rw [← hD] at hd0
    have hD9 : (D : Int) < 4000000000000000 := by omega
    have HR := hid (And.intro hR hpb)
    clear hR hpb hD hll hsz hn
    go_enter Tryd.func75, Tryd.ntmps75
    go_wp2_with fail
    refine C1.out.mono ?_
    rintro e W1 ⟨B1, ⟨v, rfl, hv⟩, p1, hP1⟩
    have H1 := hid (And.intro B1 (And.intro hv (And.intro hP1 hd0)))
    clear B1 hv hP1 hd0
    go_wp2_with fail
    go_loopg [3] t0.length (fun k s3 wr => ∃ (p' : Nat) (t' : List UInt8) (x' : Rx), PT (ge w.heap.size) wr x' s3 ∧ PS pb s wr p' t' ∧ R = post x' t' ∧ t'.length = k ∧ depth x' + 3 * t'.length ≤ D ∧ Pk pb w wr)
    case atStart => exact ⟨p1, t0, x0, H1.out.2.1, H1.out.2.2.1, HR.out.1, rfl, H1.out.2.2.2, H1.out.1⟩
    case round =>
      obtain ⟨p', t', x', hT, hP, hRR, hk, hd, hPk⟩ := hrel
      obtain ⟨xb, rfl, hxb⟩ := hT.ptr
      have CS := fun (b : UInt8) (V : World) (q : Nat) (hq : PS pb s V q t') => skip_any pb s q t' b V hq
      have e42 : (((42 : UInt8).toNat : Nat) : Int) = 42 := rfl
      have e43 : (((43 : UInt8).toNat : Nat) : Int) = 43 := rfl
      have e63 : (((63 : UInt8).toNat : Nat) : Int) = 63 := rfl
      have C42 := hid (CS 42)
      have C43 := hid (CS 43)
      have C63 := hid (CS 63)
      rw [e42] at C42; rw [e43] at C43; rw [e63] at C63
      clear CS e42 e43 e63
      have hs0 := hPk.size
      have hpb := HR.out.2
      have HX := hid (And.intro hT (And.intro hP (And.intro hPk (And.intro hs0 hpb))))
      clear hT hP hPk hs0 hpb
      cases h42 : skip 42 t' with
      | some t2 =>
        have e := skip_some h42
        have HH := hid (show R = post (star x') t2 ∧ t2.length + 1 = gk ∧ depth (star x') + 3 * t2.length ≤ D by
          rw [e] at hd hRR hk
          rw [post] at hRR
          simp at hd hk hRR
          refine ⟨hRR, by omega, by rw [depth_star]; omega⟩)
        rw [h42] at C42
        simp only [Option.isSome_some, Option.getD_some] at C42
        clear hRR hd hk e
        go_wp2_with fail
        refine (C42.out _ _ HX.out.2.1).mono ?_
        rintro e W2 ⟨rfl, B2, p2, hP2⟩
        have hs2 := B2.size
        have hsz := HX.out.2.2.2.1
        have hpb := HX.out.2.2.2.2
        have hx2 := PT.pk HR.out.2 B2 HX.out.1
        have B3 := bel1 W2 (.cells #[.pointer (some ⟨xb, 0, none⟩)] 48)
        have CN := hid (newPart_any (ge w.heap.size) 6 (some ⟨W2.heap.size, 0, none⟩) 1 1 [x'] (W2.alloc (.cells #[.pointer (some ⟨xb, 0, none⟩)] 48)) (PR.one (PT.bel B3 hx2) (ge_of (by omega)) (alloc_new _ _)) (ge_of (by simp; omega)) D hD9 (by rw [depth_one]; have := HH.out.2.2; rw [depth_star] at this; omega))
        have H2 := hid (And.intro ((HX.out.2.2.1.trans B2).trans (Pk.of B3)) (hP2.below B3))
        clear hs2 hsz hpb hx2 B2 hP2 B3
        go_wp2_with fail
        refine CN.out.mono ?_
        rintro e W4 ⟨⟨rfl, hPT⟩, B4⟩
        rw [size_alloc] at hPT
        have H4 := hid (And.intro (H2.out.1.trans (Pk.of B4)) (And.intro (H2.out.2.below B4) hPT))
        clear B4 hPT
        go_wp2
        go_roundg (gk - 1)
        case measure => have := HH.out.2.1; omega
        case rel => exact ⟨p2, t2, star x', H4.out.2.2, H4.out.2.1, HH.out.1, by have := HH.out.2.1; omega, HH.out.2.2, H4.out.1⟩
      | none =>
        rw [h42] at C42
        simp only [Option.isSome_none, Option.getD_none] at C42
        cases h43 : skip 43 t' with
        | some t2 =>
          have e := skip_some h43
          have HH := hid (show R = post (cat [x', star x']) t2 ∧ t2.length + 1 = gk ∧ depth (cat [x', star x']) + 3 * t2.length ≤ D by
            rw [e] at hd hRR hk
            rw [post] at hRR
            simp at hd hk hRR
            refine ⟨hRR, by omega, by rw [depth_cat, depthL_two, depth_star]; omega⟩)
          rw [h43] at C43
          simp only [Option.isSome_some, Option.getD_some] at C43
          clear hRR hd hk e
          go_wp2_with fail
          refine (C42.out _ _ HX.out.2.1).mono ?_
          rintro e W2 ⟨rfl, B2, p2, hP2⟩
          have H2 := hid (And.intro (HX.out.2.2.1.trans B2) (And.intro hP2 (PT.pk HR.out.2 B2 HX.out.1)))
          clear B2 hP2
          go_wp2_with fail
          refine (C43.out _ _ H2.out.2.1).mono ?_
          rintro e W3 ⟨rfl, B3, p3, hP3⟩
          have hs2 := H2.out.1.size
          have hs3 := B3.size
          have hpb := HX.out.2.2.2.2
          have hx3 := PT.pk HR.out.2 B3 H2.out.2.2
          have B4 := bel1 W3 (.cells #[.pointer (some ⟨xb, 0, none⟩)] 48)
          have CN := hid (newPart_any (ge w.heap.size) 6 (some ⟨W3.heap.size, 0, none⟩) 1 1 [x'] (W3.alloc (.cells #[.pointer (some ⟨xb, 0, none⟩)] 48)) (PR.one (PT.bel B4 hx3) (ge_of (by omega)) (alloc_new _ _)) (ge_of (by simp; omega)) D hD9 (by rw [depth_one]; have := HH.out.2.2; rw [depth_cat, depthL_two, depth_star] at this; omega))
          have H4 := hid (And.intro ((H2.out.1.trans B3).trans (Pk.of B4)) (And.intro (hP3.below B4) (PT.bel B4 hx3)))
          clear hs2 hs3 hpb hx3 B3 hP3 B4
          go_wp2_with fail
          refine CN.out.mono ?_
          rintro e W5 ⟨⟨rfl, hPT⟩, B5⟩
          rw [size_alloc] at hPT
          have B6 := bel1 W5 (.cells #[.pointer (some ⟨xb, 0, none⟩), .pointer (some ⟨W3.heap.size + 1, 0, none⟩)] 48)
          have hs5 := (H4.out.1.trans (Pk.of B5)).size
          have hpb := HX.out.2.2.2.2
          have CN2 := hid (newPart_any (ge w.heap.size) 4 (some ⟨W5.heap.size, 0, none⟩) 2 2 [x', star x'] (W5.alloc (.cells #[.pointer (some ⟨xb, 0, none⟩), .pointer (some ⟨W3.heap.size + 1, 0, none⟩)] 48)) (PR.two (PT.bel B6 (PT.bel B5 H4.out.2.2)) (PT.bel B6 hPT) (ge_of (by omega)) (alloc_new _ _)) (ge_of (by simp; omega)) D hD9 (by have := HH.out.2.2; rw [depth_cat] at this; omega))
          have H6 := hid (And.intro ((H4.out.1.trans (Pk.of B5)).trans (Pk.of B6)) ((H4.out.2.1.below B5).below B6))
          clear B5 B6 hPT hs5 hpb
          go_wp2_with fail
          refine CN2.out.mono ?_
          rintro e W7 ⟨⟨rfl, hPT⟩, B7⟩
          rw [size_alloc] at hPT
          have H7 := hid (And.intro (H6.out.1.trans (Pk.of B7)) (And.intro (H6.out.2.below B7) hPT))
          clear B7 hPT
          go_wp2
          go_roundg (gk - 1)
          case measure => have := HH.out.2.1; omega
          case rel => exact ⟨p3, t2, cat [x', star x'], H7.out.2.2, H7.out.2.1, HH.out.1, by have := HH.out.2.1; omega, HH.out.2.2, H7.out.1⟩
        | none =>
          rw [h43] at C43
          simp only [Option.isSome_none, Option.getD_none] at C43
          cases h63 : skip 63 t' with
          | some t2 =>
            have e := skip_some h63
            have HH := hid (show R = post (alt [x', eps]) t2 ∧ t2.length + 1 = gk ∧ depth (alt [x', eps]) + 3 * t2.length ≤ D by
              have hx1 := depth_pos x'
              rw [e] at hd hRR hk
              rw [post] at hRR
              simp at hd hk hRR
              refine ⟨hRR, by omega, by rw [depth_alt, depthL_two, depth_eps]; omega⟩)
            rw [h63] at C63
            simp only [Option.isSome_some, Option.getD_some] at C63
            clear hRR hd hk e
            go_wp2_with fail
            refine (C42.out _ _ HX.out.2.1).mono ?_
            rintro e W2 ⟨rfl, B2, p2, hP2⟩
            have H2 := hid (And.intro (HX.out.2.2.1.trans B2) (And.intro hP2 (PT.pk HR.out.2 B2 HX.out.1)))
            clear B2 hP2
            go_wp2_with fail
            refine (C43.out _ _ H2.out.2.1).mono ?_
            rintro e W3 ⟨rfl, B3, p3, hP3⟩
            have H3 := hid (And.intro (H2.out.1.trans B3) (And.intro hP3 (PT.pk HR.out.2 B3 H2.out.2.2)))
            clear B3 hP3
            go_wp2_with fail
            refine (C63.out _ _ H3.out.2.1).mono ?_
            rintro e W4 ⟨rfl, B4, p4, hP4⟩
            have hs3 := H3.out.1.size
            have hs4 := B4.size
            have hpb := HX.out.2.2.2.2
            have CN := hid (newPart_any (ge w.heap.size) 2 none 0 0 [] W4 (PR.nil _ _ _) (ge_of (by omega)) 0 (by decide) (by rw [depthL]; omega))
            have H4 := hid (And.intro (H3.out.1.trans B4) (And.intro hP4 (PT.pk HR.out.2 B4 H3.out.2.2)))
            clear hs3 hs4 hpb B4 hP4
            go_wp2_with fail
            refine CN.out.mono ?_
            rintro e W5 ⟨⟨rfl, hPT⟩, B5⟩
            have B6 := bel1 W5 (.cells #[.pointer (some ⟨xb, 0, none⟩), .pointer (some ⟨W4.heap.size, 0, none⟩)] 48)
            have hs5 := (H4.out.1.trans (Pk.of B5)).size
            have hpb := HX.out.2.2.2.2
            have CN2 := hid (newPart_any (ge w.heap.size) 5 (some ⟨W5.heap.size, 0, none⟩) 2 2 [x', eps] (W5.alloc (.cells #[.pointer (some ⟨xb, 0, none⟩), .pointer (some ⟨W4.heap.size, 0, none⟩)] 48)) (PR.two (PT.bel B6 (PT.bel B5 H4.out.2.2)) (PT.bel B6 hPT) (ge_of (by omega)) (alloc_new _ _)) (ge_of (by simp; omega)) D hD9 (by have := HH.out.2.2; rw [depth_alt] at this; omega))
            have H6 := hid (And.intro ((H4.out.1.trans (Pk.of B5)).trans (Pk.of B6)) ((H4.out.2.1.below B5).below B6))
            clear B5 B6 hPT hs5 hpb
            go_wp2_with fail
            refine CN2.out.mono ?_
            rintro e W7 ⟨⟨rfl, hPT⟩, B7⟩
            rw [size_alloc] at hPT
            have H7 := hid (And.intro (H6.out.1.trans (Pk.of B7)) (And.intro (H6.out.2.below B7) hPT))
            clear B7 hPT
            go_wp2
            go_roundg (gk - 1)
            case measure => have := HH.out.2.1; omega
            case rel => exact ⟨p4, t2, alt [x', eps], H7.out.2.2, H7.out.2.1, HH.out.1, by have := HH.out.2.1; omega, HH.out.2.2, H7.out.1⟩
          | none =>
            rw [h63] at C63
            simp only [Option.isSome_none, Option.getD_none] at C63
            have HH := hid (show R = (x', t') by
              rw [hRR]
              cases t' with
              | nil => rfl
              | cons b t2 =>
                have n1 : b ≠ 42 := fun e => skip_none h42 t2 (by rw [e])
                have n2 : b ≠ 43 := fun e => skip_none h43 t2 (by rw [e])
                have n3 : b ≠ 63 := fun e => skip_none h63 t2 (by rw [e])
                rw [post, if_neg n1, if_neg n2, if_neg n3])
            clear hRR hd hk
            go_wp2_with fail
            refine (C42.out _ _ HX.out.2.1).mono ?_
            rintro e W2 ⟨rfl, B2, p2, hP2⟩
            have H2 := hid (And.intro (HX.out.2.2.1.trans B2) (And.intro hP2 (PT.pk HR.out.2 B2 HX.out.1)))
            clear B2 hP2
            go_wp2_with fail
            refine (C43.out _ _ H2.out.2.1).mono ?_
            rintro e W3 ⟨rfl, B3, p3, hP3⟩
            have H3 := hid (And.intro (H2.out.1.trans B3) (And.intro hP3 (PT.pk HR.out.2 B3 H2.out.2.2)))
            clear B3 hP3
            go_wp2_with fail
            refine (C63.out _ _ H3.out.2.1).mono ?_
            rintro e W4 ⟨rfl, B4, p4, hP4⟩
            have H4 := hid (And.intro (H3.out.1.trans B4) (And.intro hP4 (PT.pk HR.out.2 B4 H3.out.2.2)))
            clear B4 hP4
            go_wp2
            go_ret
            rw [HH.out]
            exact ⟨H4.out.1, ⟨_, rfl, H4.out.2.2⟩, p4, H4.out.2.1⟩
end Go.Proofs.YtednoideboeehaaDoor
end
section
set_option linter.unusedSimpArgs false
set_option linter.unusedVariables false
namespace Go.Proofs.YtednoideboeehaaDoor
open Go.RowKit Bs Rg Go.Frame
attribute [local go_sem] eq_zero eq_set

theorem Tryd.info48 : (Tryd.prog.info? 48).map (fun i => (i.zero, i.size, i.bytes)) = some (some (.pointer none), 1, 8) := by kernel_rfl
/-- A row of the call's own that holds pointers to parts, which lie elsewhere. -/
def OR (base : Nat) (W : World) (v : Value) (l : List Rx) : Prop :=
  ∃ vs, W.ownsRow base 48 1 v l.length vs ∧ ∀ (i : Nat) (x : Rx), l[i]? = some x → ∃ u : Value, vs[i]? = some u ∧ PT (fun b => base ≤ b ∧ v.ownBlock ≠ some b) W x u
theorem OR.pr {base : Nat} {W : World} {v : Value} {l : List Rx} (h : OR base W v l) (hl : l.length < 140737488355328) : ∃ a c, v = .slice a l.length c ∧ PR (ge base) W a l.length l := by
  obtain ⟨vs, ho, hall⟩ := h
  obtain ⟨a, c, rfl, hr⟩ := own_row ho
  refine ⟨a, c, rfl, rfl, hl, ?_⟩
  have hbase := own_base ho
  obtain ⟨_, hr2⟩ := hr
  rcases hr2 with h0 | ⟨b, off, rfl, hlt, hx⟩
  · exact .inl h0
  · refine .inr ⟨b, off, rfl, hbase _ rfl, hlt, PL_of fun i x hi => ?_⟩
    obtain ⟨u, h1, h2⟩ := hall i x hi
    exact ⟨u, hx i u h1, PT.more (fun b hb _ => hb.1) h2⟩
theorem OR.keep {pb base : Nat} {W W' : World} {v : Value} {l : List Rx} (h : OR base W v l) (hb : pb < base) (hp : Pk pb W W') : OR base W' v l := by
  obtain ⟨vs, ho, hall⟩ := h
  refine ⟨vs, ownsRow_keep ho fun k hk => hp.block (by have := (ho.lt k hk).1; omega) (ho.lt k hk).2, fun i x hi => ?_⟩
  obtain ⟨u, h1, h2⟩ := hall i x hi
  exact ⟨u, h1, PT.keep hp.size (fun b hb' hl => hp.block (by have := hb'.1; omega) hl) (fun _ h _ => h) x h2⟩
theorem OR.nil (base : Nat) (W : World) : OR base W (.slice none 0 0) [] := ⟨[], World.ownsRow_nil _ _ _ _, fun i x h => by simp at h⟩
/-- One more: the new row lies where the old one lay, or in a new block. -/
theorem OR.snoc {base n g cap : Nat} {W W' : World} {v : Value} {l : List Rx} {x : Rx} {u : Value} {vs : List Value} (h : W.ownsRow base 48 1 v l.length vs) (hall : ∀ (i : Nat) (x : Rx), l[i]? = some x → ∃ u : Value, vs[i]? = some u ∧ PT (fun b => base ≤ b ∧ v.ownBlock ≠ some b) W x u)
    (h' : W'.ownsRow base 48 1 (.slice (some ⟨g, 0, none⟩) (l.length + 1) cap) (l.length + 1) (vs ++ [u])) (hg : W.grownBy W' v.ownBlock) (hn : ∀ b, v.ownBlock = some b → b < n) (hb : base ≤ n) (hat : v.ownBlock = some g ∨ W.heap.size ≤ g)
    (hx : PT (ge n) W x u) : OR base W' (.slice (some ⟨g, 0, none⟩) (l.length + 1) cap) (l ++ [x]) := by
  have hvl : vs.length = l.length := by have := h.1; omega
  have key : ∀ {y : Rx} {z : Value}, PT (fun b => base ≤ b ∧ v.ownBlock ≠ some b) W y z → PT (fun b => base ≤ b ∧ (Value.slice (some ⟨g, 0, none⟩) (l.length + 1) cap).ownBlock ≠ some b) W' y z := fun {y z} hyz =>
    PT.keep hg.size (fun b hb hl => hg.block b hl (Ne.symm hb.2)) (fun b hb hl => ⟨hb.1, by
      intro e
      simp [Value.ownBlock] at e
      subst e
      rcases hat with h1 | h1
      · exact hb.2 h1
      · omega⟩) y hyz
  refine ⟨vs ++ [u], by simpa using h', fun i y hi => ?_⟩
  by_cases e : i < l.length
  · rw [List.getElem?_append_left e] at hi
    obtain ⟨z, h1, h2⟩ := hall i y hi
    exact ⟨z, by rw [List.getElem?_append_left (by omega)]; exact h1, by simpa using key h2⟩
  · rw [List.getElem?_append_right (by omega)] at hi
    have hi0 : i - l.length = 0 := by have := (List.getElem?_eq_some_iff.1 hi).1; simp at this; omega
    rw [hi0] at hi
    simp at hi
    subst hi
    exact ⟨u, by rw [List.getElem?_append_right (by omega), show i - vs.length = 0 by omega]; rfl, by
      have := key (PT.more (g' := fun b => base ≤ b ∧ v.ownBlock ≠ some b) (fun b hb' _ => ⟨Nat.le_trans hb hb', fun e => by have := hn b e; have hb2 : n ≤ b := hb'; omega⟩) hx)
      simpa using this⟩
theorem dec_lt {p n : Nat} (h : p < n) : decide ((p : Int) < (n : Int)) = true ∧ decide (p < n) = true := by simp; omega

set_option maxRecDepth 100000 in
set_option maxHeartbeats 4000000 in
theorem branch_any (N : Nat) (IH : ∀ n, n < N → ∀ (pb : Nat) (s : ByteArray) (p : Nat) (l : List UInt8) (w : World), PS pb s w p l → 4 * l.length + 2 ≤ n → Calls Tryd.prog 75 #[.pointer (some ⟨pb, 0, none⟩)] w fun e w' => Out pb s w (pRepeat n l) (ptv w.heap.size) e w')
    (pb : Nat) (s : ByteArray) (p : Nat) (l : List UInt8) (w : World) (h : PS pb s w p l) (hn : 4 * l.length + 3 ≤ N) :
    Calls Tryd.prog 52 #[.pointer (some ⟨pb, 0, none⟩)] w fun e w' => Out pb s w (brP (pReps N [] l)) (ptv w.heap.size) e w' := by
  have hpb := heap_lt h.box
  have hsz := h.sz
  have hll := h.len
  obtain ⟨i0, hi, hz0, hz1, hz2⟩ := info_parts Tryd.info48
  obtain ⟨R, hR⟩ : ∃ R, R = pReps N [] l := ⟨_, rfl⟩
  rw [← hR]
  obtain ⟨D, hD⟩ : ∃ D, D = 3 * l.length := ⟨_, rfl⟩
  obtain ⟨L, hL⟩ : ∃ L, L = l.length := ⟨_, rfl⟩
  have hD9 : (D : Int) < 4000000000000000 := by omega
  have hL9 : L ≤ 1000000 := by omega
  have H0 := hid (And.intro h (And.intro hR (And.intro hpb (And.intro hn (And.intro hD hL)))))
  have IH' := hid IH
  clear IH h hR hpb hn hD hL hll hsz
  go_enter Tryd.func52, Tryd.ntmps52
  go_wp2_with fail
  go_loopg [3] N (fun k s3 wr => ∃ (m p' : Nat) (t' : List UInt8) (acc : List Rx), OR w.heap.size wr s3 acc ∧ PS pb s wr p' t' ∧ R = pReps m acc t' ∧ 4 * t'.length + 3 ≤ m ∧ m ≤ k ∧ m ≤ N ∧ acc.length + t'.length ≤ L ∧ (∀ y ∈ acc, depth y + 3 * t'.length ≤ D) ∧ Pk pb w wr)
  case atStart => exact ⟨N, p, l, [], OR.nil _ _, H0.out.1, H0.out.2.1, H0.out.2.2.2.1, Nat.le_refl _, Nat.le_refl _, by simp [H0.out.2.2.2.2.2], by simp, Pk.refl _ _⟩
  case round =>
    obtain ⟨m, p', t', acc, hO, hP, hRR, hm, hmk, hmN, hal, hd, hPk⟩ := hrel
    obtain ⟨c0, c1⟩ := hP.cells
    have hbl := heap_lt hP.box
    obtain ⟨m, rfl⟩ : ∃ q, m = q + 1 := ⟨m - 1, by omega⟩
    have C124 := hid (fun V (hV : Below wr.heap.size wr V) => ahead_any pb s p' t' 124 V (hP.below hV))
    have C41 := hid (fun V (hV : Below wr.heap.size wr V) => ahead_any pb s p' t' 41 V (hP.below hV))
    rw [show (((124 : UInt8).toNat : Nat) : Int) = 124 from rfl] at C124
    rw [show (((41 : UInt8).toNat : Nat) : Int) = 41 from rfl] at C41
    cases hst : stop t' with
    | true =>
      have HH := hid (show R = .ok acc t' by rw [hRR, pReps, if_pos hst])
      have HX := hid (And.intro hO (And.intro hP (And.intro hPk (And.intro hal hd))))
      clear hO hRR hPk hm hmk hmN hal hd
      cases t' with
      | nil =>
        have hpe := hP.done
        have n1 : decide ((p' : Int) < (s.size : Int)) = false := by simp; omega
        have n2 : decide (p' < s.size) = false := by simp; omega
        have n3 : ¬ p' < s.size := by omega
        clear hP hpe
        go_wp2_with fail
        refine wp_region_below (by kernel_rfl) (by kernel_rfl) ?_
        intro X f _ hf hs
        have k0 := fun x => ((hf.out x).cell (p := ⟨pb, 0, none⟩) hbl).trans c0
        have k1 := fun x => ((hf.out x).cell (p := ⟨pb, 1, none⟩) hbl).trans c1
        clear c0 c1
        repeat (go_big_quiet_step (first | (go_at_call 74; first | with_reducible exact calls_below hf hs (C124.out _ (hf.out _)) | with_reducible exact calls_below hf hs (C41.out _ (hf.out _)))))
        refine wpQuiet_nil ?_
        intro W2 b2'
        have H2 := hid (And.intro (HX.out.2.2.1.trans (Pk.of b2')) (And.intro (HX.out.2.1.below b2') (HX.out.1.keep H0.out.2.2.1 (Pk.of b2'))))
        clear b2' k0 k1 hf hs
        obtain ⟨a, c, rfl, hPR⟩ := H2.out.2.2.pr (by have := HX.out.2.2.2.1; omega)
        have HPR := hid hPR
        clear hPR
        match acc, HX, HH, H2, HPR with
        | [], HX, HH, H2, HPR =>
          have CN := hid (newPart_any (ge w.heap.size) 2 none 0 0 [] W2 (PR.nil _ _ _) H2.out.1.size 0 (by decide) (by rw [depthL]; omega))
          go_wp2_with fail
          refine CN.out.mono ?_
          rintro e W3 ⟨⟨rfl, hPT⟩, B3⟩
          have H3 := hid (And.intro (H2.out.1.trans (Pk.of B3)) (And.intro (H2.out.2.1.below B3) hPT))
          clear B3 hPT
          go_wp2
          go_ret
          rw [HH.out]
          exact ⟨H3.out.1, ⟨_, rfl, H3.out.2.2⟩, p', H3.out.2.1⟩
        | [x], HX, HH, H2, HPR =>
          obtain ⟨b, off, kb, x', rfl, hb, hx, q0, hPT⟩ := HPR.out.get (i := 0) (by simp)
          rw [Nat.add_zero] at q0
          have hxx : x = x' := by simpa using hx
          have H3 := hid (show PT (ge w.heap.size) W2 x (.pointer (some ⟨kb, 0, none⟩)) by rw [hxx]; exact hPT)
          clear hx hPT
          go_wp2
          go_ret
          rw [HH.out]
          exact ⟨H2.out.1, ⟨_, rfl, H3.out⟩, p', H2.out.2.1⟩
        | x :: y :: acc', HX, HH, H2, HPR =>
          obtain ⟨nn, hnn⟩ : ∃ nn, nn = (x :: y :: acc').length := ⟨_, rfl⟩
          have hn2 : ((nn : Int) == 0) = false ∧ ((nn : Int) == 1) = false ∧ ¬ nn = 0 ∧ ¬ nn = 1 := by rw [hnn]; simp; omega
          obtain ⟨e1, e2, e3, e4⟩ := hn2
          have CN := hid (newPart_any (ge w.heap.size) 4 a (x :: y :: acc').length c (x :: y :: acc') W2 HPR.out H2.out.1.size D hD9 (depthL_le.2 fun z hz => by have := HX.out.2.2.2.2 z hz; omega))
          rw [← hnn] at CN ⊢
          clear hnn
          go_wp2_with fail
          refine CN.out.mono ?_
          rintro e W3 ⟨⟨rfl, hPT⟩, B3⟩
          have H3 := hid (And.intro (H2.out.1.trans (Pk.of B3)) (And.intro (H2.out.2.1.below B3) hPT))
          clear B3 hPT
          go_wp2
          go_ret
          rw [HH.out]
          exact ⟨H3.out.1, ⟨_, rfl, H3.out.2.2⟩, p', H3.out.2.1⟩
      | cons b t2 =>
        obtain ⟨hpl, _⟩ := hP.head
        obtain ⟨n1, n2⟩ := dec_lt hpl
        clear hP
        by_cases hb : b = 124
        · subst hb
          rw [show ahd 124 (124 :: t2) = true from by simp [ahd]] at C124
          go_wp2_with fail
          refine wp_region_below (by kernel_rfl) (by kernel_rfl) ?_
          intro X f _ hf hs
          have k0 := fun x => ((hf.out x).cell (p := ⟨pb, 0, none⟩) hbl).trans c0
          have k1 := fun x => ((hf.out x).cell (p := ⟨pb, 1, none⟩) hbl).trans c1
          clear c0 c1
          repeat (go_big_quiet_step (first | (go_at_call 74; first | with_reducible exact calls_below hf hs (C124.out _ (hf.out _)) | with_reducible exact calls_below hf hs (C41.out _ (hf.out _)))))
          refine wpQuiet_nil ?_
          intro W2 b2'
          have H2 := hid (And.intro (HX.out.2.2.1.trans (Pk.of b2')) (And.intro (HX.out.2.1.below b2') (HX.out.1.keep H0.out.2.2.1 (Pk.of b2'))))
          clear b2' k0 k1 hf hs
          obtain ⟨a, c, rfl, hPR⟩ := H2.out.2.2.pr (by have := HX.out.2.2.2.1; omega)
          have HPR := hid hPR
          clear hPR
          match acc, HX, HH, H2, HPR with
          | [], HX, HH, H2, HPR =>
            have CN := hid (newPart_any (ge w.heap.size) 2 none 0 0 [] W2 (PR.nil _ _ _) H2.out.1.size 0 (by decide) (by rw [depthL]; omega))
            go_wp2_with fail
            refine CN.out.mono ?_
            rintro e W3 ⟨⟨rfl, hPT⟩, B3⟩
            have H3 := hid (And.intro (H2.out.1.trans (Pk.of B3)) (And.intro (H2.out.2.1.below B3) hPT))
            clear B3 hPT
            go_wp2
            go_ret
            rw [HH.out]
            exact ⟨H3.out.1, ⟨_, rfl, H3.out.2.2⟩, p', H3.out.2.1⟩
          | [x], HX, HH, H2, HPR =>
            obtain ⟨b, off, kb, x', rfl, hb, hx, q0, hPT⟩ := HPR.out.get (i := 0) (by simp)
            rw [Nat.add_zero] at q0
            have hxx : x = x' := by simpa using hx
            have H3 := hid (show PT (ge w.heap.size) W2 x (.pointer (some ⟨kb, 0, none⟩)) by rw [hxx]; exact hPT)
            clear hx hPT
            go_wp2
            go_ret
            rw [HH.out]
            exact ⟨H2.out.1, ⟨_, rfl, H3.out⟩, p', H2.out.2.1⟩
          | x :: y :: acc', HX, HH, H2, HPR =>
            obtain ⟨nn, hnn⟩ : ∃ nn, nn = (x :: y :: acc').length := ⟨_, rfl⟩
            have hn2 : ((nn : Int) == 0) = false ∧ ((nn : Int) == 1) = false ∧ ¬ nn = 0 ∧ ¬ nn = 1 := by rw [hnn]; simp; omega
            obtain ⟨e1, e2, e3, e4⟩ := hn2
            have CN := hid (newPart_any (ge w.heap.size) 4 a (x :: y :: acc').length c (x :: y :: acc') W2 HPR.out H2.out.1.size D hD9 (depthL_le.2 fun z hz => by have := HX.out.2.2.2.2 z hz; omega))
            rw [← hnn] at CN ⊢
            clear hnn
            go_wp2_with fail
            refine CN.out.mono ?_
            rintro e W3 ⟨⟨rfl, hPT⟩, B3⟩
            have H3 := hid (And.intro (H2.out.1.trans (Pk.of B3)) (And.intro (H2.out.2.1.below B3) hPT))
            clear B3 hPT
            go_wp2
            go_ret
            rw [HH.out]
            exact ⟨H3.out.1, ⟨_, rfl, H3.out.2.2⟩, p', H3.out.2.1⟩
        · have hb41 : b = 41 := by simp [stop, hb] at hst; exact hst
          subst hb41
          rw [show ahd 124 (41 :: t2) = false from by simp [ahd]] at C124
          rw [show ahd 41 (41 :: t2) = true from by simp [ahd]] at C41
          go_wp2_with fail
          refine wp_region_below (by kernel_rfl) (by kernel_rfl) ?_
          intro X f _ hf hs
          have k0 := fun x => ((hf.out x).cell (p := ⟨pb, 0, none⟩) hbl).trans c0
          have k1 := fun x => ((hf.out x).cell (p := ⟨pb, 1, none⟩) hbl).trans c1
          clear c0 c1
          repeat (go_big_quiet_step (first | (go_at_call 74; first | with_reducible exact calls_below hf hs (C124.out _ (hf.out _)) | with_reducible exact calls_below hf hs (C41.out _ (hf.out _)))))
          refine wpQuiet_nil ?_
          intro W2 b2'
          have H2 := hid (And.intro (HX.out.2.2.1.trans (Pk.of b2')) (And.intro (HX.out.2.1.below b2') (HX.out.1.keep H0.out.2.2.1 (Pk.of b2'))))
          clear b2' k0 k1 hf hs
          obtain ⟨a, c, rfl, hPR⟩ := H2.out.2.2.pr (by have := HX.out.2.2.2.1; omega)
          have HPR := hid hPR
          clear hPR
          match acc, HX, HH, H2, HPR with
          | [], HX, HH, H2, HPR =>
            have CN := hid (newPart_any (ge w.heap.size) 2 none 0 0 [] W2 (PR.nil _ _ _) H2.out.1.size 0 (by decide) (by rw [depthL]; omega))
            go_wp2_with fail
            refine CN.out.mono ?_
            rintro e W3 ⟨⟨rfl, hPT⟩, B3⟩
            have H3 := hid (And.intro (H2.out.1.trans (Pk.of B3)) (And.intro (H2.out.2.1.below B3) hPT))
            clear B3 hPT
            go_wp2
            go_ret
            rw [HH.out]
            exact ⟨H3.out.1, ⟨_, rfl, H3.out.2.2⟩, p', H3.out.2.1⟩
          | [x], HX, HH, H2, HPR =>
            obtain ⟨b, off, kb, x', rfl, hb, hx, q0, hPT⟩ := HPR.out.get (i := 0) (by simp)
            rw [Nat.add_zero] at q0
            have hxx : x = x' := by simpa using hx
            have H3 := hid (show PT (ge w.heap.size) W2 x (.pointer (some ⟨kb, 0, none⟩)) by rw [hxx]; exact hPT)
            clear hx hPT
            go_wp2
            go_ret
            rw [HH.out]
            exact ⟨H2.out.1, ⟨_, rfl, H3.out⟩, p', H2.out.2.1⟩
          | x :: y :: acc', HX, HH, H2, HPR =>
            obtain ⟨nn, hnn⟩ : ∃ nn, nn = (x :: y :: acc').length := ⟨_, rfl⟩
            have hn2 : ((nn : Int) == 0) = false ∧ ((nn : Int) == 1) = false ∧ ¬ nn = 0 ∧ ¬ nn = 1 := by rw [hnn]; simp; omega
            obtain ⟨e1, e2, e3, e4⟩ := hn2
            have CN := hid (newPart_any (ge w.heap.size) 4 a (x :: y :: acc').length c (x :: y :: acc') W2 HPR.out H2.out.1.size D hD9 (depthL_le.2 fun z hz => by have := HX.out.2.2.2.2 z hz; omega))
            rw [← hnn] at CN ⊢
            clear hnn
            go_wp2_with fail
            refine CN.out.mono ?_
            rintro e W3 ⟨⟨rfl, hPT⟩, B3⟩
            have H3 := hid (And.intro (H2.out.1.trans (Pk.of B3)) (And.intro (H2.out.2.1.below B3) hPT))
            clear B3 hPT
            go_wp2
            go_ret
            rw [HH.out]
            exact ⟨H3.out.1, ⟨_, rfl, H3.out.2.2⟩, p', H3.out.2.1⟩
    | false =>
      cases t' with
      | nil => simp [stop] at hst
      | cons b t2 =>
        obtain ⟨hpl, _⟩ := hP.head
        obtain ⟨n1, n2⟩ := dec_lt hpl
        rw [show ahd 124 (b :: t2) = false from by simp [stop] at hst; simp [ahd, hst.1]] at C124
        rw [show ahd 41 (b :: t2) = false from by simp [stop] at hst; simp [ahd, hst.2]] at C41
        rw [pReps, hst] at hRR
        simp only [Bool.false_eq_true, if_false] at hRR
        cases hr : pRepeat m (b :: t2) with
        | bad u =>
          rw [hr] at hRR
          have HX := hid (And.intro hO (And.intro hP (And.intro hPk (And.intro hal hd))))
          have HH := hid (And.intro hRR (And.intro hm (show m < N by omega)))
          clear hO hRR hPk hm hmk hmN hal hd hP
          go_wp2_with fail
          refine wp_region_below (by kernel_rfl) (by kernel_rfl) ?_
          intro X f _ hf hs
          have k0 := fun x => ((hf.out x).cell (p := ⟨pb, 0, none⟩) hbl).trans c0
          have k1 := fun x => ((hf.out x).cell (p := ⟨pb, 1, none⟩) hbl).trans c1
          clear c0 c1
          repeat (go_big_quiet_step (first | (go_at_call 74; first | with_reducible exact calls_below hf hs (C124.out _ (hf.out _)) | with_reducible exact calls_below hf hs (C41.out _ (hf.out _)))))
          refine wpQuiet_nil ?_
          intro W2 b2'
          have H2 := hid (And.intro (HX.out.2.2.1.trans (Pk.of b2')) (And.intro (HX.out.2.1.below b2') (HX.out.1.keep H0.out.2.2.1 (Pk.of b2'))))
          clear b2' k0 k1 hf hs
          have CR := hid (IH'.out m HH.out.2.2 pb s p' (b :: t2) W2 H2.out.2.1 (by have := HH.out.2.1; omega))
          rw [hr] at CR
          simp only [out_bad] at CR
          go_wp2_with fail
          refine CR.out.mono ?_
          rintro e W3 ⟨B3, rfl, hP3⟩
          have H3 := hid (And.intro (H2.out.1.trans B3) hP3)
          clear B3 hP3
          go_wp2
          refine ⟨rfl, ?_⟩
          rw [HH.out.1]
          exact ⟨H3.out.1, rfl, H3.out.2⟩
        | ok x u =>
          rw [hr] at hRR
          have hlu := (p_len m).2.1 hr
          have hdx := (p_depth m).2.1 hr
          have HX := hid (And.intro hO (And.intro hP (And.intro hPk (And.intro hal hd))))
          have HH := hid (And.intro hRR (And.intro hm (show m < N by omega)))
          have HL := hid (And.intro hlu (And.intro hdx (And.intro hmk hmN)))
          clear hO hRR hPk hm hmk hmN hal hd hP hlu hdx
          go_wp2_with fail
          refine wp_region_below (by kernel_rfl) (by kernel_rfl) ?_
          intro X f _ hf hs
          have k0 := fun x => ((hf.out x).cell (p := ⟨pb, 0, none⟩) hbl).trans c0
          have k1 := fun x => ((hf.out x).cell (p := ⟨pb, 1, none⟩) hbl).trans c1
          clear c0 c1
          repeat (go_big_quiet_step (first | (go_at_call 74; first | with_reducible exact calls_below hf hs (C124.out _ (hf.out _)) | with_reducible exact calls_below hf hs (C41.out _ (hf.out _)))))
          refine wpQuiet_nil ?_
          intro W2 b2'
          have H2 := hid (And.intro (HX.out.2.2.1.trans (Pk.of b2')) (And.intro (HX.out.2.1.below b2') (HX.out.1.keep H0.out.2.2.1 (Pk.of b2'))))
          clear b2' k0 k1 hf hs
          have CR := hid (IH'.out m HH.out.2.2 pb s p' (b :: t2) W2 H2.out.2.1 (by have := HH.out.2.1; omega))
          rw [hr] at CR
          simp only [out_ok] at CR
          go_wp2_with fail
          refine CR.out.mono ?_
          rintro e W3 ⟨B3, ⟨v, rfl, hv⟩, p3, hP3⟩
          obtain ⟨xb, rfl, hxb⟩ := PT.ptr hv
          obtain ⟨vs, ho, hall⟩ := H2.out.2.2.keep H0.out.2.2.1 B3
          have hol : ∀ b, u3.ownBlock = some b → b < W2.heap.size := fun b hb => by
            obtain ⟨vs2, ho2, _⟩ := H2.out.2.2
            exact (ho2.lt b hb).2
          obtain ⟨aa, cc, rfl⟩ := own_form ho
          have hL2 : acc.length + 1 ≤ 1000000 := by have h1 := HX.out.2.2.2.1; simp at h1; omega
          have hsz3 : w.heap.size ≤ W3.heap.size := Nat.le_trans H2.out.1.size B3.size
          have H3 := hid (And.intro (H2.out.1.trans B3) (And.intro hP3 (And.intro hv (And.intro hall hL2))))
          have HO := hid (And.intro ho (And.intro hsz3 hol))
          clear B3 hP3 hv hall hL2 ho hsz3 hol
          go_wp2_with (at_builtin; refine wpList_append_lies _ rfl (.tmp 24) (.tmp 27) 50 rfl w.heap.size 48 i0 (.pointer none) 1 8 Tryd.underlying50 hi hz0 hz1 hz2 rfl (by decide) _ _ _ rfl (own_alloc HO.out.1 _) ⟨W3.heap.size, 0, none⟩ 1 1 [.pointer (some ⟨xb, 0, none⟩)] rfl rfl ?c1 ?c2 (by decide) ?c3 ?c4 ?c5 _ rfl ?_)
          case c1 => exact fun j u hj => one_cell _ _ _ _ _ hj
          case c2 => intro u hu; simp at hu; subst hu; rfl
          case c3 => have := H3.out.2.2.2.2; unfold maxLen; omega
          case c4 => have := H3.out.2.2.2.2; omega
          case c5 => have := HO.out.2.1; first | exact this | (simp; omega) | omega
          intro g cap w2 hown' hgrow hat _
          have hP4 := H3.out.2.1.below (bel1 W3 (.cells #[.pointer (some ⟨xb, 0, none⟩)] 48))
          have hP5 : PS pb s w2 p3 u := ⟨(hgrow.block pb (heap_lt hP4.box) (fun e => by have h1 := (HO.out.1.lt pb e.symm).1; have h2 := H0.out.2.2.1; omega)).trans hP4.box, hP4.rest, hP4.le, hP4.sz⟩
          have hK : Pk pb w w2 := Kept.grown (Kept.alloc H3.out.1 (fun b hb => .inr (Nat.le_trans HO.out.2.1 hb)) _) hgrow (fun b hb => .inr (by simp at hb; have h1 := HO.out.2.1; omega)) (fun k hk => .inr (HO.out.1.lt k hk).1)
          have hR := OR.snoc (n := W2.heap.size) (x := x) (own_alloc HO.out.1 (.cells #[.pointer (some ⟨xb, 0, none⟩)] 48)) (fun i y hi => by
            obtain ⟨z, h1, h2⟩ := H3.out.2.2.2.1 i y hi
            exact ⟨z, h1, PT.bel (bel1 W3 _) h2⟩) hown' hgrow HO.out.2.2 H2.out.1.size (hat.imp id (fun e => by rw [e, size_alloc]; exact Nat.le_refl _)) (PT.bel (bel1 W3 _) H3.out.2.2.1)
          have H5 := hid (And.intro hP5 (And.intro hK hR))
          clear hP4 hP5 hK hR hown' hgrow hat
          go_wp2
          go_roundg (gk - 1)
          case measure => have := HL.out.2.2.1; omega
          case rel =>
            have h1 := HL.out.1
            have h2 := HL.out.2.1
            have h3 := HH.out.2.1
            have h4 := HX.out.2.2.2.1
            have h6 := HL.out.2.2.1
            have h7 := HL.out.2.2.2
            simp at h1 h2 h3 h4
            refine ⟨m, p3, u, acc ++ [x], H5.out.2.2, H5.out.1, HH.out.1, by omega, by omega, by omega, by simp; omega, fun y hy => ?_, H5.out.2.1⟩
            have hDL := H0.out.2.2.2.2.1
            rcases List.mem_append.1 hy with hy | hy
            · have h8 := HX.out.2.2.2.2 y hy
              simp at h8; omega
            · simp at hy
              subst hy
              have h9 := H0.out.2.2.2.2.2
              omega
end Go.Proofs.YtednoideboeehaaDoor
end
section
set_option linter.unusedSimpArgs false
set_option linter.unusedVariables false
namespace Go.Proofs.YtednoideboeehaaDoor
open Go.RowKit Bs Rg Go.Frame
attribute [local go_sem] eq_zero eq_set

theorem OR.built {base n b : Nat} {W : World} {x : Rx} {v : Value} (hx : PT (ge n) W x v) (hn : base ≤ n) (hb : base ≤ W.heap.size) (hW : W.heap.size = b) : OR base (W.alloc (.cells #[v] 48)) (.slice (some ⟨b, 0, none⟩) 1 1) [x] := by
  subst hW
  refine ⟨[v], ⟨rfl, .inr ⟨W.heap.size, 1, #[v], rfl, hb, alloc_new _ _, Nat.le_refl _, by unfold maxLen; omega, rfl, rfl⟩⟩, fun i y hi => ?_⟩
  have hi0 : i = 0 := by have := (List.getElem?_eq_some_iff.1 hi).1; simp at this; exact this
  subst hi0
  simp at hi
  subst hi
  exact ⟨v, rfl, PT.keep (bel1 W _).size (fun b _ hl => (bel1 W _).block b hl) (fun b hb' hl => ⟨Nat.le_trans hn hb', by simp [Value.ownBlock]; omega⟩) x hx⟩
theorem PT.up {n m : Nat} {W : World} (h : n ≤ m) {x : Rx} {v : Value} (hx : PT (ge m) W x v) : PT (ge n) W x v := PT.more (fun _ hb _ => Nat.le_trans h hb) hx

set_option maxRecDepth 100000 in
set_option maxHeartbeats 4000000 in
theorem regex_any (N : Nat) (IH : ∀ n, n < N → ∀ (pb : Nat) (s : ByteArray) (p : Nat) (l : List UInt8) (w : World), PS pb s w p l → 4 * l.length + 3 ≤ n → Calls Tryd.prog 52 #[.pointer (some ⟨pb, 0, none⟩)] w fun e w' => Out pb s w (brP (pReps n [] l)) (ptv w.heap.size) e w')
    (pb : Nat) (s : ByteArray) (p : Nat) (l : List UInt8) (w : World) (h : PS pb s w p l) (hn : 4 * l.length + 4 ≤ N) :
    Calls Tryd.prog 32 #[.pointer (some ⟨pb, 0, none⟩)] w fun e w' => Out pb s w (pRegex N l) (ptv w.heap.size) e w' := by
  have hpb := heap_lt h.box
  have hsz := h.sz
  have hll := h.len
  obtain ⟨N, rfl⟩ : ∃ M, N = M + 1 := ⟨N - 1, by omega⟩
  obtain ⟨i0, hi, hz0, hz1, hz2⟩ := info_parts Tryd.info48
  have C1 := hid (IH N (by omega) pb s p l w h (by omega))
  rw [pRegex]
  cases hr : pReps N [] l with
  | bad u =>
    rw [hr] at C1
    simp only [brP, out_bad] at C1 ⊢
    clear h
    go_enter Tryd.func32, Tryd.ntmps32
    go_wp2_with fail
    refine C1.out.mono ?_
    rintro e W1 ⟨B1, rfl, hP1⟩
    have H1 := hid (And.intro B1 hP1)
    clear B1 hP1
    go_wp2
    exact ⟨rfl, H1.out.1, rfl, H1.out.2⟩
  | ok xs t0 =>
    rw [hr] at C1
    simp only [brP, out_ok] at C1 ⊢
    have ht0 := (p_len N).2.2.1 hr
    have hd0 : depth (br xs) ≤ (3 * l.length - 3 * t0.length) + 1 := depth_br fun y hy => by have := (p_depth N).2.2.1 hr (Nat.le_refl _) (by simp) y hy; omega
    obtain ⟨D, hD⟩ : ∃ D, D = 3 * l.length + 1 := ⟨_, rfl⟩
    obtain ⟨L, hL⟩ : ∃ L, L = l.length := ⟨_, rfl⟩
    have hD9 : (D : Int) < 4000000000000000 := by omega
    have hL9 : L ≤ 1000000 := by omega
    obtain ⟨R, hR⟩ : ∃ R, R = pAlts N [br xs] t0 := ⟨_, rfl⟩
    rw [← hR]
    have H0 := hid (And.intro hR (And.intro hpb (And.intro hn (And.intro hD (And.intro hL (And.intro ht0 hd0))))))
    have IH' := hid IH
    clear IH h hR hpb hn hD hL hll hsz ht0 hd0
    go_enter Tryd.func32, Tryd.ntmps32
    go_wp2_with fail
    refine C1.out.mono ?_
    rintro e W1 ⟨B1, ⟨v, rfl, hv⟩, p1, hP1⟩
    obtain ⟨xb, rfl, hxb⟩ := PT.ptr hv
    have hO1 := OR.built (b := W1.heap.size) hv (Nat.le_refl _) B1.size rfl
    have H1 := hid (And.intro (B1.trans (Pk.of (bel1 W1 (.cells #[.pointer (some ⟨xb, 0, none⟩)] 48)))) (And.intro (hP1.below (bel1 W1 (.cells #[.pointer (some ⟨xb, 0, none⟩)] 48))) hO1))
    clear B1 hv hP1 hO1
    go_wp2_with fail
    go_loopg [3] N (fun k s3 wr => ∃ (m p' : Nat) (t' : List UInt8) (acc : List Rx), OR w.heap.size wr s3 acc ∧ PS pb s wr p' t' ∧ R = pAlts m acc t' ∧ 4 * t'.length + 1 ≤ m ∧ m ≤ k ∧ m ≤ N ∧ acc.length + t'.length ≤ L + 1 ∧ (∀ y ∈ acc, depth y + 3 * t'.length ≤ D) ∧ Pk pb w wr ∧ acc ≠ [])
    case atStart =>
      obtain ⟨hR, hpb, hn, hD, hL, ht0, hd0⟩ := H0.out
      exact ⟨N, p1, t0, [br xs], H1.out.2.2, H1.out.2.1, hR, by omega, Nat.le_refl _, Nat.le_refl _, by simp; omega, by simp; omega, H1.out.1, by simp⟩
    case round =>
      obtain ⟨m, p', t', acc, hO, hP, hRR, hm, hmk, hmN, hal, hd, hPk, hne⟩ := hrel
      obtain ⟨m, rfl⟩ : ∃ q, m = q + 1 := ⟨m - 1, by omega⟩
      have CS := hid (skip_any pb s p' t' 124 wr hP)
      rw [show (((124 : UInt8).toNat : Nat) : Int) = 124 from rfl] at CS
      rw [pAlts] at hRR
      cases hs : skip 124 t' with
      | none =>
        rw [hs] at CS hRR
        simp only [Option.isSome_none, Option.getD_none] at CS
        simp only at hRR
        have HX := hid (And.intro hO (And.intro hPk (And.intro hal (And.intro hd hRR))))
        clear hO hPk hal hd hRR hP hm hmk hmN
        go_wp2_with fail
        refine CS.out.mono ?_
        rintro e W2 ⟨rfl, B2, p2, hP2⟩
        have H2 := hid (And.intro (HX.out.2.1.trans B2) (And.intro hP2 (HX.out.1.keep H0.out.2.1 B2)))
        clear B2 hP2
        obtain ⟨a, c, rfl, hPR⟩ := H2.out.2.2.pr (by have := HX.out.2.2.1; omega)
        have HPR := hid hPR
        clear hPR
        match acc, hne, HX, H2, HPR with
        | [x], _, HX, H2, HPR =>
          obtain ⟨b, off, kb, x', rfl, hb, hx, q0, hPT⟩ := HPR.out.get (i := 0) (by simp)
          rw [Nat.add_zero] at q0
          have hxx : x = x' := by simpa using hx
          have H3 := hid (show PT (ge w.heap.size) W2 x (.pointer (some ⟨kb, 0, none⟩)) by rw [hxx]; exact hPT)
          clear hx hPT
          go_wp2
          go_ret
          rw [HX.out.2.2.2.2]
          exact ⟨H2.out.1, ⟨_, rfl, H3.out⟩, p2, H2.out.2.1⟩
        | x :: y :: acc', _, HX, H2, HPR =>
          obtain ⟨nn, hnn⟩ : ∃ nn, nn = (x :: y :: acc').length := ⟨_, rfl⟩
          have hn2 : ((nn : Int) == 0) = false ∧ ((nn : Int) == 1) = false ∧ ¬ nn = 0 ∧ ¬ nn = 1 := by rw [hnn]; simp; omega
          obtain ⟨e1, e2, e3, e4⟩ := hn2
          have CN := hid (newPart_any (ge w.heap.size) 5 a (x :: y :: acc').length c (x :: y :: acc') W2 HPR.out H2.out.1.size D hD9 (depthL_le.2 fun z hz => by have := HX.out.2.2.2.1 z hz; omega))
          rw [← hnn] at CN ⊢
          clear hnn
          go_wp2_with fail
          refine CN.out.mono ?_
          rintro e W3 ⟨⟨rfl, hPT⟩, B3⟩
          have H3 := hid (And.intro (H2.out.1.trans (Pk.of B3)) (And.intro (H2.out.2.1.below B3) hPT))
          clear B3 hPT
          go_wp2
          go_ret
          rw [HX.out.2.2.2.2]
          exact ⟨H3.out.1, ⟨_, rfl, H3.out.2.2⟩, p2, H3.out.2.1⟩
      | some t2 =>
        rw [hs] at CS hRR
        have hlt : t2.length + 1 = t'.length := by rw [skip_some hs]; rfl
        simp only [Option.isSome_some, Option.getD_some] at CS
        simp only at hRR
        cases hr2 : pReps m [] t2 with
        | bad u =>
          rw [hr2] at hRR
          have HX := hid (And.intro hO (And.intro hPk (And.intro hal (And.intro hd hRR))))
          have HM := hid (show m < N + 1 ∧ 4 * t2.length + 3 ≤ m by omega)
          clear hO hPk hal hd hRR hP hm hmk hmN
          go_wp2_with fail
          refine CS.out.mono ?_
          rintro e W2 ⟨rfl, B2, p2, hP2⟩
          have CB := hid (IH'.out m HM.out.1 pb s p2 t2 W2 hP2 HM.out.2)
          rw [hr2] at CB
          simp only [brP, out_bad] at CB
          have H2 := hid (HX.out.2.1.trans B2)
          clear B2 hP2
          go_wp2_with fail
          refine CB.out.mono ?_
          rintro e W3 ⟨B3, rfl, hP3⟩
          have H3 := hid (And.intro (H2.out.trans B3) hP3)
          clear B3 hP3
          go_wp2
          refine ⟨rfl, ?_⟩
          rw [HX.out.2.2.2.2]
          exact ⟨H3.out.1, rfl, H3.out.2⟩
        | ok ys u =>
          rw [hr2] at hRR
          have hlu := (p_len m).2.2.1 hr2
          have hdx : depth (br ys) ≤ (3 * t2.length - 3 * u.length) + 1 := depth_br fun y hy => by have := (p_depth m).2.2.1 hr2 (Nat.le_refl _) (by simp) y hy; omega
          have HX := hid (And.intro hO (And.intro hPk (And.intro hal (And.intro hd hRR))))
          have HM := hid (And.intro (show m < N + 1 ∧ 4 * t2.length + 3 ≤ m by omega) (And.intro hlu (And.intro hdx (And.intro hm (And.intro hmk (And.intro hmN hlt))))))
          clear hO hPk hal hd hRR hP hm hmk hmN hlu hdx hlt
          go_wp2_with fail
          refine CS.out.mono ?_
          rintro e W2 ⟨rfl, B2, p2, hP2⟩
          have CB := hid (IH'.out m HM.out.1.1 pb s p2 t2 W2 hP2 HM.out.1.2)
          rw [hr2] at CB
          simp only [brP, out_ok] at CB
          have H2 := hid (And.intro (HX.out.2.1.trans B2) (HX.out.1.keep H0.out.2.1 B2))
          clear B2 hP2
          go_wp2_with fail
          refine CB.out.mono ?_
          rintro e W3 ⟨B3, ⟨v, rfl, hv⟩, p3, hP3⟩
          obtain ⟨xb, rfl, hxb⟩ := PT.ptr hv
          obtain ⟨vs, ho, hall⟩ := H2.out.2.keep H0.out.2.1 B3
          have hol : ∀ b, u3.ownBlock = some b → b < W2.heap.size := fun b hb => by
            obtain ⟨vs2, ho2, _⟩ := H2.out.2
            exact (ho2.lt b hb).2
          obtain ⟨aa, cc, rfl⟩ := own_form ho
          have hL2 : acc.length + 1 ≤ 2000000 := by have h1 := HX.out.2.2.1; omega
          have hsz3 : w.heap.size ≤ W3.heap.size := Nat.le_trans H2.out.1.size B3.size
          have H3 := hid (And.intro (H2.out.1.trans B3) (And.intro hP3 (And.intro hv (And.intro hall hL2))))
          have HO := hid (And.intro ho (And.intro hsz3 hol))
          clear B3 hP3 hv hall hL2 ho hsz3 hol
          go_wp2_with (at_builtin; refine wpList_append_lies _ rfl (.tmp 9) (.tmp 12) 50 rfl w.heap.size 48 i0 (.pointer none) 1 8 Tryd.underlying50 hi hz0 hz1 hz2 rfl (by decide) _ _ _ rfl (own_alloc HO.out.1 _) ⟨W3.heap.size, 0, none⟩ 1 1 [.pointer (some ⟨xb, 0, none⟩)] rfl rfl ?c1 ?c2 (by decide) ?c3 ?c4 ?c5 _ rfl ?_)
          case c1 => exact fun j u hj => one_cell _ _ _ _ _ hj
          case c2 => intro u hu; simp at hu; subst hu; rfl
          case c3 => have := H3.out.2.2.2.2; unfold maxLen; omega
          case c4 => have := H3.out.2.2.2.2; omega
          case c5 => have := HO.out.2.1; first | exact this | (simp; omega) | omega
          intro g cap w2 hown' hgrow hat _
          have hP4 := H3.out.2.1.below (bel1 W3 (.cells #[.pointer (some ⟨xb, 0, none⟩)] 48))
          have hP5 : PS pb s w2 p3 u := ⟨(hgrow.block pb (heap_lt hP4.box) (fun e => by have h1 := (HO.out.1.lt pb e.symm).1; have h2 := H0.out.2.1; omega)).trans hP4.box, hP4.rest, hP4.le, hP4.sz⟩
          have hK : Pk pb w w2 := Kept.grown (Kept.alloc H3.out.1 (fun b hb => .inr (Nat.le_trans HO.out.2.1 hb)) _) hgrow (fun b hb => .inr (by simp at hb; have h1 := HO.out.2.1; omega)) (fun k hk => .inr (HO.out.1.lt k hk).1)
          have hR := OR.snoc (n := W2.heap.size) (x := br ys) (own_alloc HO.out.1 (.cells #[.pointer (some ⟨xb, 0, none⟩)] 48)) (fun i y hi => by
            obtain ⟨z, h1, h2⟩ := H3.out.2.2.2.1 i y hi
            exact ⟨z, h1, PT.bel (bel1 W3 _) h2⟩) hown' hgrow HO.out.2.2 H2.out.1.size (hat.imp id (fun e => by rw [e, size_alloc]; exact Nat.le_refl _)) (PT.bel (bel1 W3 _) H3.out.2.2.1)
          have H5 := hid (And.intro hP5 (And.intro hK hR))
          clear hP4 hP5 hK hR hown' hgrow hat
          go_wp2
          go_roundg (gk - 1)
          case measure => have := HM.out.2.2.2.2.1; omega
          case rel =>
            obtain ⟨⟨h0, h1⟩, h2, h3, h4, h6, h7, h8⟩ := HM.out
            have h9 := HX.out.2.2.1
            have hDL := H0.out.2.2.2.1
            have hLL := H0.out.2.2.2.2.1
            have hHL := H0.out.2.2.2.2.2
            refine ⟨m, p3, u, acc ++ [br ys], H5.out.2.2, H5.out.1, HX.out.2.2.2.2, by omega, by omega, by omega, by simp; omega, fun y hy => ?_, H5.out.2.1, by simp⟩
            rcases List.mem_append.1 hy with hy | hy
            · have h10 := HX.out.2.2.2.1 y hy
              omega
            · simp at hy
              subst hy
              omega

/-- The descent, all of it. -/
theorem descent (N : Nat) : (∀ (pb : Nat) (s : ByteArray) (p : Nat) (l : List UInt8) (w : World), PS pb s w p l → 4 * l.length + 1 ≤ N → Calls Tryd.prog 94 #[.pointer (some ⟨pb, 0, none⟩)] w fun e w' => Out pb s w (pAtom N l) (ptv w.heap.size) e w') ∧
    (∀ (pb : Nat) (s : ByteArray) (p : Nat) (l : List UInt8) (w : World), PS pb s w p l → 4 * l.length + 2 ≤ N → Calls Tryd.prog 75 #[.pointer (some ⟨pb, 0, none⟩)] w fun e w' => Out pb s w (pRepeat N l) (ptv w.heap.size) e w') ∧
    (∀ (pb : Nat) (s : ByteArray) (p : Nat) (l : List UInt8) (w : World), PS pb s w p l → 4 * l.length + 3 ≤ N → Calls Tryd.prog 52 #[.pointer (some ⟨pb, 0, none⟩)] w fun e w' => Out pb s w (brP (pReps N [] l)) (ptv w.heap.size) e w') ∧
    (∀ (pb : Nat) (s : ByteArray) (p : Nat) (l : List UInt8) (w : World), PS pb s w p l → 4 * l.length + 4 ≤ N → Calls Tryd.prog 32 #[.pointer (some ⟨pb, 0, none⟩)] w fun e w' => Out pb s w (pRegex N l) (ptv w.heap.size) e w') := by
  induction N using Nat.strongRecOn with
  | _ N ih =>
    refine ⟨fun pb s p l w h hn => ?_, fun pb s p l w h hn => ?_, fun pb s p l w h hn => ?_, fun pb s p l w h hn => ?_⟩
    · obtain ⟨n, rfl⟩ : ∃ n, N = n + 1 := ⟨N - 1, by omega⟩
      exact atom_any n (ih n (by omega)).2.2.2 pb s p l w h hn
    · obtain ⟨n, rfl⟩ : ∃ n, N = n + 1 := ⟨N - 1, by omega⟩
      exact repeat_any n (ih n (by omega)).1 pb s p l w h hn
    · exact branch_any N (fun n hn => (ih n hn).2.1) pb s p l w h hn
    · exact regex_any N (fun n hn => (ih n hn).2.2.1) pb s p l w h hn
end Go.Proofs.YtednoideboeehaaDoor
end
