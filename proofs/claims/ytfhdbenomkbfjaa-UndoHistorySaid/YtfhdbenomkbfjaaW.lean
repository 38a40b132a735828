/-
  Contracts: the reference's Do and Run.
-/
import Derived.Test.YtfhdbenomkbfjaaV
import Derived.Test.YtfhdbenomkbfjaaRt
set_option linter.unusedSimpArgs false
set_option linter.unusedVariables false
namespace Go.Proofs.Ytfhdbenomkbfjaa
open Go.RowKit Te Go.Frame
/-- What a call of the reference's Do comes to. -/
def DoRes (K : Nat) (S0 : ByteArray) (p : Option Addr) (n : Nat) (x' : St) (er : Int) (w : World) (e : Ending) (w' : World) : Prop :=
  ∃ (p' : Option Addr) (n' c' k' : Nat) (E' : List Ed), e = .returned (.tuple #[.agg #[.string S0, .slice p' n' c', .int .i64 (k' : Int), .int .i64 (x'.v : Int)], .int .i64 er]) ∧
    ERow w' p' n' E' ∧ n' ≤ c' ∧ Ta K S0 E' k' x' ∧ ((p' = p ∧ n' = n) ∨ ∀ a, p' = some a → w.heap.size ≤ a.block) ∧ Below w.heap.size w w'
theorem three' (w : World) (o1 o2 o3 : Obj) : (((w.alloc o1).alloc o2).alloc o3).heap[w.heap.size]? = some o1 ∧ (((w.alloc o1).alloc o2).alloc o3).heap[w.heap.size + 1]? = some o2 ∧ (((w.alloc o1).alloc o2).alloc o3).heap[w.heap.size + 1 + 1]? = some o3 ∧
    Below w.heap.size w (((w.alloc o1).alloc o2).alloc o3) ∧ (((w.alloc o1).alloc o2).alloc o3).heap.size = w.heap.size + 3 := three w o1 o2 o3
theorem own_erow {W : World} {base : Nat} {g n c : Nat} {E : List Ed} (h : W.ownsRow base 31 3 (.slice (some ⟨g, 0, none⟩) n c) n (ev E)) : ERow W (some ⟨g, 0, none⟩) n E := by
  have hl : E.length = n := by have := h.1; rw [ev_length] at this; omega
  rcases h.2 with ⟨h1, _⟩ | ⟨g', cap, cur, he, hb, hg, hn, _, hc, ht⟩
  · simp at h1
  · simp only [Value.slice.injEq, Option.some.injEq, Addr.mk.injEq, and_true] at he
    obtain ⟨rfl, _, rfl⟩ := he
    refine ⟨hl, .inr ⟨g, 0, rfl, heap_lt hg, fun i x hx => ?_⟩⟩
    have hi := (List.getElem?_eq_some_iff.1 hx).1
    obtain ⟨e0, e1, e2⟩ := ev_at hx
    have at' : ∀ j (u : Value), j < n * 3 → (ev E)[j]? = some u → W.cell? ⟨g, 0 + j, none⟩ = some u := by
      intro j u hj hu
      rw [← ht, List.getElem?_take, if_pos hj] at hu
      simp only [World.cell?, hg, Nat.zero_add]
      simpa using hu
    have a0 := at' (i * 3) _ (by omega) e0
    have a1 := at' (i * 3 + 1) _ (by omega) e1
    have a2 := at' (i * 3 + 2) _ (by omega) e2
    exact ⟨a0, by rw [Nat.add_assoc]; exact a1, by rw [Nat.add_assoc]; exact a2⟩
set_option maxRecDepth 100000 in
set_option maxHeartbeats 8000000 in
theorem rdo_range (S0 : ByteArray) (p : Option Addr) (n c : Nat) (E : List Ed) (k : Nat) (x : St) (a d : Int) (t : ByteArray) (K : Nat) (w : World) (h : Ta K S0 E k x) (hf : ¬ Fit x.s.size (a, d, t)) (hK : K ≤ 1000000) (hk9 : k ≤ 900000) (hv9 : x.v ≤ 900000) (ht : t.size ≤ 1000000) (hc : n ≤ c) (hr : ERow w p n E) :
    Calls Try.prog 25 #[.agg #[.string S0, .slice p n c, .int .i64 (k : Int), .int .i64 (x.v : Int)], .agg #[.int .i64 a, .int .i64 d, .string t]] w fun e w' => DoRes K S0 p n x 2 w e w' := by
  obtain ⟨hx0, hx1, hx2, bW, hsz⟩ := three w (stc S0 p n c k x.v) (edc a d t) (stc { data := #[] } none 0 0 0 0)
  obtain ⟨W, hW⟩ : ∃ W, W = ((w.alloc (stc S0 p n c k x.v)).alloc (edc a d t)).alloc (stc { data := #[] } none 0 0 0 0) := ⟨_, rfl⟩
  rw [← hW] at hx0 hx1 hx2 bW hsz
  simp only [stc, edc] at hx0 hx1 hx2 hW
  have Kp := hid (show ∀ W', Below W.heap.size W W' → (W'.cell? ⟨w.heap.size, 0, none⟩ = some (.string S0) ∧ W'.cell? ⟨w.heap.size, 1, none⟩ = some (.slice p n c) ∧ W'.cell? ⟨w.heap.size, 2, none⟩ = some (.int .i64 (k : Int)) ∧ W'.cell? ⟨w.heap.size, 3, none⟩ = some (.int .i64 (x.v : Int))) ∧
      W'.cell? ⟨w.heap.size + 1, 0, none⟩ = some (.int .i64 a) ∧ W'.cell? ⟨w.heap.size + 1, 1, none⟩ = some (.int .i64 d) ∧ W'.cell? ⟨w.heap.size + 1, 2, none⟩ = some (.string t) from fun W' hb' => 
    ⟨cells4 ((hb'.block _ (heap_lt hx0)).trans hx0), cells3 ((hb'.block _ (heap_lt hx1)).trans hx1)⟩)
  have X0 := hid hx0
  have X1 := hid hx1
  have X2 := hid hx2
  have TX := hid (show ∀ W', Below W.heap.size W W' → Calls Try.prog 16 #[.agg #[.string S0, .slice p n c, .int .i64 (k : Int), .int .i64 (x.v : Int)]] W' fun e w' => e = .returned (.string x.s) ∧ Below W'.heap.size W' w' from fun W' hb' =>
    rtext_any S0 _ n c E k _ K x.s x.U x.R W' h hK (by omega) ((hr.below bW).below hb'))
  have AP := hid (show ∀ W', Calls Try.prog 18 #[.string x.s, .agg #[.int .i64 a, .int .i64 d, .string t]] W' fun e w' => e = .returned (.tuple #[.string .empty, .int .i64 2]) ∧ Below W'.heap.size W' w' from fun W' => by
    refine (rapply_any x.s t a d W' (Nat.le_trans h.chU.size hK) ht).mono ?_
    rintro e w' ⟨rfl, hb'⟩
    exact ⟨by rw [apv_no hf], hb'⟩)
  have RW := hid hr
  have HB := hid bW
  have HSZ := hid hsz
  have HW := hid hW
  have HT := hid h
  have HR := hid (hr.below bW)
  have HX := hid (And.intro hK ht)
  have hk9' : (k : Int) ≤ 900000 := by omega
  have hv9' : (x.v : Int) ≤ 900000 := by omega
  clear h hr hx0 hx1 hx2 bW hW hsz hf
  go_enter Try.func25, Try.ntmps25
  go_wp2_with fail
  rw [← HW.out]
  refine wp_region_below (by kernel_rfl) (by kernel_rfl) ?_
  intro X f _ hfx hsf
  have k0 := fun x => (Kp.out _ (hfx.out x)).1.1
  have k1 := fun x => (Kp.out _ (hfx.out x)).1.2.1
  have k2 := fun x => (Kp.out _ (hfx.out x)).1.2.2.1
  have k3 := fun x => (Kp.out _ (hfx.out x)).1.2.2.2
  have e0 := fun x => (Kp.out _ (hfx.out x)).2.1
  have e1 := fun x => (Kp.out _ (hfx.out x)).2.2.1
  have e2 := fun x => (Kp.out _ (hfx.out x)).2.2.2
  repeat (go_big_quiet_step (first | (go_at_call 16; exact calls_below hfx hsf (TX.out _ (hfx.out _))) | (go_at_call 18; exact calls_below hfx hsf (AP.out _))))
  refine wpQuiet_nil ?_
  intro w5 hb5
  clear k0 k1 k2 k3 e0 e1 e2 hfx hsf
  obtain ⟨⟨k0, k1, k2, k3⟩, _⟩ := Kp.out _ hb5
  have Y2 := (hb5.block _ (heap_lt X2.out)).trans X2.out
  obtain ⟨z0, z1, z2, z3⟩ := cells4 Y2
  obtain ⟨f0, f1, f2, f3⟩ := frozen4 Y2
  have hl2 := heap_lt Y2
  have H5 := hid hb5
  clear hb5 Y2
  go_wp2
  have BG : Below w.heap.size w ((((w5.setCell ⟨w.heap.size + 1 + 1, 0, none⟩ (.string S0)).setCell ⟨w.heap.size + 1 + 1, 1, none⟩ (.slice p n c)).setCell ⟨w.heap.size + 1 + 1, 2, none⟩ (.int .i64 (k : Int))).setCell ⟨w.heap.size + 1 + 1, 3, none⟩ (.int .i64 (x.v : Int))) := by
    repeat (refine Below.setCell ?_ (by first | (simp; done) | (simp; omega)) _)
    exact HB.out.trans (H5.out.mono HB.out.size)
  have hE : ERow ((((w5.setCell ⟨w.heap.size + 1 + 1, 0, none⟩ (.string S0)).setCell ⟨w.heap.size + 1 + 1, 1, none⟩ (.slice p n c)).setCell ⟨w.heap.size + 1 + 1, 2, none⟩ (.int .i64 (k : Int))).setCell ⟨w.heap.size + 1 + 1, 3, none⟩ (.int .i64 (x.v : Int))) p n E := RW.out.below BG
  refine bodyPost_ret (v := .tuple #[.agg #[.string S0, .slice p n c, .int .i64 (k : Int), .int .i64 (x.v : Int)], .int .i64 2]) ?_ rfl ⟨p, n, c, k, E, rfl, hE, hc, HT.out, .inl ⟨rfl, rfl⟩, BG⟩
  simp [results, Try.results25, go_sem, z0, z1, z2, z3]
set_option maxRecDepth 100000 in
set_option maxHeartbeats 8000000 in
theorem rdo_limit (S0 : ByteArray) (p : Option Addr) (n c : Nat) (E : List Ed) (k : Nat) (x : St) (a d : Int) (t : ByteArray) (K : Nat) (w : World) (h : Ta K S0 E k x) (hf : Fit x.s.size (a, d, t)) (hz : 4000 < (ap x.s (a, d, t)).size) (hK : K ≤ 1000000) (hk9 : k ≤ 900000) (hv9 : x.v ≤ 900000) (ht : t.size ≤ 1000000) (hc : n ≤ c) (hr : ERow w p n E) :
    Calls Try.prog 25 #[.agg #[.string S0, .slice p n c, .int .i64 (k : Int), .int .i64 (x.v : Int)], .agg #[.int .i64 a, .int .i64 d, .string t]] w fun e w' => DoRes K S0 p n x 11 w e w' := by
  obtain ⟨hx0, hx1, hx2, bW, hsz⟩ := three w (stc S0 p n c k x.v) (edc a d t) (stc { data := #[] } none 0 0 0 0)
  obtain ⟨W, hW⟩ : ∃ W, W = ((w.alloc (stc S0 p n c k x.v)).alloc (edc a d t)).alloc (stc { data := #[] } none 0 0 0 0) := ⟨_, rfl⟩
  rw [← hW] at hx0 hx1 hx2 bW hsz
  simp only [stc, edc] at hx0 hx1 hx2 hW
  have Kp := hid (show ∀ W', Below W.heap.size W W' → (W'.cell? ⟨w.heap.size, 0, none⟩ = some (.string S0) ∧ W'.cell? ⟨w.heap.size, 1, none⟩ = some (.slice p n c) ∧ W'.cell? ⟨w.heap.size, 2, none⟩ = some (.int .i64 (k : Int)) ∧ W'.cell? ⟨w.heap.size, 3, none⟩ = some (.int .i64 (x.v : Int))) ∧
      W'.cell? ⟨w.heap.size + 1, 0, none⟩ = some (.int .i64 a) ∧ W'.cell? ⟨w.heap.size + 1, 1, none⟩ = some (.int .i64 d) ∧ W'.cell? ⟨w.heap.size + 1, 2, none⟩ = some (.string t) from fun W' hb' => 
    ⟨cells4 ((hb'.block _ (heap_lt hx0)).trans hx0), cells3 ((hb'.block _ (heap_lt hx1)).trans hx1)⟩)
  have X0 := hid hx0
  have X1 := hid hx1
  have X2 := hid hx2
  have TX := hid (show ∀ W', Below W.heap.size W W' → Calls Try.prog 16 #[.agg #[.string S0, .slice p n c, .int .i64 (k : Int), .int .i64 (x.v : Int)]] W' fun e w' => e = .returned (.string x.s) ∧ Below W'.heap.size W' w' from fun W' hb' =>
    rtext_any S0 _ n c E k _ K x.s x.U x.R W' h hK (by omega) ((hr.below bW).below hb'))
  have AP := hid (show ∀ W', Calls Try.prog 18 #[.string x.s, .agg #[.int .i64 a, .int .i64 d, .string t]] W' fun e w' => e = .returned (.tuple #[.string (ap x.s (a, d, t)), .int .i64 0]) ∧ Below W'.heap.size W' w' from fun W' => by
    refine (rapply_any x.s t a d W' (Nat.le_trans h.chU.size hK) ht).mono ?_
    rintro e w' ⟨rfl, hb'⟩
    exact ⟨by rw [apv_yes hf], hb'⟩)
  have RW := hid hr
  have hz' : (4000 : Int) < ((ap x.s (a, d, t)).size : Int) := by omega
  have HB := hid bW
  have HSZ := hid hsz
  have HW := hid hW
  have HT := hid h
  have HR := hid (hr.below bW)
  have HX := hid (And.intro hK ht)
  have hk9' : (k : Int) ≤ 900000 := by omega
  have hv9' : (x.v : Int) ≤ 900000 := by omega
  clear h hr hx0 hx1 hx2 bW hW hsz hf hz
  go_enter Try.func25, Try.ntmps25
  go_wp2_with fail
  rw [← HW.out]
  refine wp_region_below (by kernel_rfl) (by kernel_rfl) ?_
  intro X f _ hfx hsf
  have k0 := fun x => (Kp.out _ (hfx.out x)).1.1
  have k1 := fun x => (Kp.out _ (hfx.out x)).1.2.1
  have k2 := fun x => (Kp.out _ (hfx.out x)).1.2.2.1
  have k3 := fun x => (Kp.out _ (hfx.out x)).1.2.2.2
  have e0 := fun x => (Kp.out _ (hfx.out x)).2.1
  have e1 := fun x => (Kp.out _ (hfx.out x)).2.2.1
  have e2 := fun x => (Kp.out _ (hfx.out x)).2.2.2
  repeat (go_big_quiet_step (first | (go_at_call 16; exact calls_below hfx hsf (TX.out _ (hfx.out _))) | (go_at_call 18; exact calls_below hfx hsf (AP.out _))))
  refine wpQuiet_nil ?_
  intro w5 hb5
  clear k0 k1 k2 k3 e0 e1 e2 hfx hsf
  obtain ⟨⟨k0, k1, k2, k3⟩, _⟩ := Kp.out _ hb5
  have Y2 := (hb5.block _ (heap_lt X2.out)).trans X2.out
  obtain ⟨z0, z1, z2, z3⟩ := cells4 Y2
  obtain ⟨f0, f1, f2, f3⟩ := frozen4 Y2
  have hl2 := heap_lt Y2
  have H5 := hid hb5
  clear hb5 Y2
  go_wp2
  have BG : Below w.heap.size w ((((w5.setCell ⟨w.heap.size + 1 + 1, 0, none⟩ (.string S0)).setCell ⟨w.heap.size + 1 + 1, 1, none⟩ (.slice p n c)).setCell ⟨w.heap.size + 1 + 1, 2, none⟩ (.int .i64 (k : Int))).setCell ⟨w.heap.size + 1 + 1, 3, none⟩ (.int .i64 (x.v : Int))) := by
    repeat (refine Below.setCell ?_ (by first | (simp; done) | (simp; omega)) _)
    exact HB.out.trans (H5.out.mono HB.out.size)
  have hE : ERow ((((w5.setCell ⟨w.heap.size + 1 + 1, 0, none⟩ (.string S0)).setCell ⟨w.heap.size + 1 + 1, 1, none⟩ (.slice p n c)).setCell ⟨w.heap.size + 1 + 1, 2, none⟩ (.int .i64 (k : Int))).setCell ⟨w.heap.size + 1 + 1, 3, none⟩ (.int .i64 (x.v : Int))) p n E := RW.out.below BG
  refine bodyPost_ret (v := .tuple #[.agg #[.string S0, .slice p n c, .int .i64 (k : Int), .int .i64 (x.v : Int)], .int .i64 11]) ?_ rfl ⟨p, n, c, k, E, rfl, hE, hc, HT.out, .inl ⟨rfl, rfl⟩, BG⟩
  simp [results, Try.results25, go_sem, z0, z1, z2, z3]

theorem below_grown {n : Nat} {a w w' : World} {row : Option Nat} (h : Below n a w) (hg : w.grownBy w' row) (hn : n ≤ w.heap.size) (hr : ∀ k, row = some k → n ≤ k) : Below n a w' :=
  h.trans ⟨hg.os, hg.tape, hg.output, hg.size, fun k hk => hg.block k (by omega) (fun e => by have := hr k e.symm; omega)⟩
theorem own_nil_row {W : World} {g : Nat} (h : W.heap[g]? = some (.cells #[] 31 (0, 0))) : W.ownsRow 0 31 3 (.slice (some ⟨g, 0, none⟩) 0 0) 0 [] :=
  ⟨rfl, .inr ⟨g, 0, #[], rfl, Nat.zero_le _, h, Nat.le_refl _, by unfold maxLen; omega, rfl, by simp⟩⟩
theorem erow_news {W : World} {b off n k : Nat} {E : List Ed} (h : ERow W (some ⟨b, off, none⟩) n E) (hk : k ≤ n) : ∀ j u, (ev (E.take k))[j]? = some u → W.cell? ((⟨b, off, none⟩ : Addr).add j) = some u := by
  intro j u hj
  rw [add_at]
  have hl := (List.getElem?_eq_some_iff.1 hj).1
  rw [ev_length, List.length_take, h.1] at hl
  obtain ⟨q, r, hr, rfl⟩ : ∃ q r, r < 3 ∧ j = q * 3 + r := ⟨j / 3, j % 3, Nat.mod_lt _ (by omega), by omega⟩
  have hj3 : q < k := by omega
  have hx : (E.take k)[q]? = some (E[q]'(by rw [h.1]; omega)) := by
    rw [List.getElem?_take, if_pos hj3]
    exact List.getElem?_eq_getElem _
  have hx' : E[q]? = some (E[q]'(by rw [h.1]; omega)) := List.getElem?_eq_getElem _
  obtain ⟨e0, e1, e2⟩ := ev_at hx
  obtain ⟨b', off', he, _, _, c0, c1, c2⟩ := ERow.at h hx'
  simp only [Option.some.injEq, Addr.mk.injEq, and_true] at he
  obtain ⟨rfl, rfl⟩ := he
  have h3 : r = 0 ∨ r = 1 ∨ r = 2 := by omega
  rcases h3 with rfl | rfl | rfl
  · rw [Nat.add_zero] at hj ⊢
    rw [e0] at hj
    simp only [Option.some.injEq] at hj
    rw [← hj]
    exact c0
  · rw [e1] at hj
    simp only [Option.some.injEq] at hj
    rw [← hj, ← Nat.add_assoc]
    exact c1
  · rw [e2] at hj
    simp only [Option.some.injEq] at hj
    rw [← hj, ← Nat.add_assoc]
    exact c2

theorem step_append_none {P : Program} {w : World} {ops : Array Oper} {o : Oper} {a : Act} {K : Act → World → Prop} {Q : Exit → Act → World → Prop} {E : Prop} (hgd : o.guard = none) (s x : Operand) (t : TypeId)
    (ho : o.op = .call { callee := .builtin .append, args := #[s, x], argTypes := #[t, t] }) (v u : Value) (hs : a.eval s = v) (hx : a.eval x = u)
    (hr : (Builtin.append_ #[t, t] o.type #[v, u]).run P w = .ok v w) (h : K (a.put o.dst v) w) : if Region.wanted o (yielded ops a.tmps) = true then Oper.wp P o a w K Q else E := by
  rw [if_pos (by unfold Region.wanted; rw [hgd])]
  unfold Oper.wp execOp
  simp only [ho, resolve, invoke, builtin, Sem.run_bind, Sem.run_pure, Result.andThen_ok, List.map_toArray, List.map_cons, List.map_nil, hs, hx, hr]
  exact h
theorem own_alloc {W : World} {base e s : Nat} {v : Value} {n : Nat} {xs : List Value} (h : W.ownsRow base e s v n xs) (o : Obj) : (W.alloc o).ownsRow base e s v n xs := ownsRow_keep h fun k hk => ((Below.refl _ W).alloc (Nat.le_refl _) o).block k (h.lt k hk).2
theorem own_take {W : World} {g k cap : Nat} {xs : List Value} (h : W.ownsRow 0 31 3 (.slice (some ⟨g, 0, none⟩) (0 + k) cap) (0 + k) ([] ++ xs)) : W.ownsRow 0 31 3 (.slice (some ⟨g, 0, none⟩) k cap) k xs := by simpa using h
theorem ERow.set {W : World} {p : Option Addr} {n : Nat} {E : List Ed} (h : ERow W p n E) {x : Addr} {v : Value} (hp : ∀ a, p = some a → a.block ≠ x.block) : ERow (W.setCell x v) p n E := by
  refine ⟨h.1, h.2.imp id ?_⟩
  rintro ⟨b, off, rfl, hb, hx⟩
  refine ⟨b, off, rfl, by simpa using hb, fun i y hy => ?_⟩
  obtain ⟨c0, c1, c2⟩ := hx i y hy
  refine ⟨?_, ?_, ?_⟩
  · rw [World.cell?_setCell_other _ _ _ _ (fun e => hp _ rfl (by rw [e]))]; exact c0
  · rw [World.cell?_setCell_other _ _ _ _ (fun e => hp _ rfl (by rw [e]))]; exact c1
  · rw [World.cell?_setCell_other _ _ _ _ (fun e => hp _ rfl (by rw [e]))]; exact c2
theorem own_snoc {W : World} {g k cap : Nat} {E : List Ed} {a d : Int} {t : ByteArray} (h : W.ownsRow 0 31 3 (.slice (some ⟨g, 0, none⟩) (k + 1) cap) (k + 1) (ev (E.take k) ++ [.int .i64 a, .int .i64 d, .string t])) : ERow W (some ⟨g, 0, none⟩) (k + 1) (E.take k ++ [(a, d, t)]) ∧ k + 1 ≤ cap := by
  rw [← ev_one (a, d, t), ← ev_app] at h
  refine ⟨own_erow h, ?_⟩
  rcases h.2 with ⟨h1, _⟩ | ⟨g', cap', cur, he, _, _, hn, _⟩
  · simp at h1
  · simp only [Value.slice.injEq] at he
    omega
theorem own_snoc0 {W : World} {g cap : Nat} {a d : Int} {t : ByteArray} (h : W.ownsRow 0 31 3 (.slice (some ⟨g, 0, none⟩) (0 + 1) cap) (0 + 1) ([] ++ [.int .i64 a, .int .i64 d, .string t])) : ERow W (some ⟨g, 0, none⟩) 1 [(a, d, t)] ∧ 1 ≤ cap := own_snoc (E := []) (k := 0) h
set_option maxRecDepth 100000 in
set_option maxHeartbeats 8000000 in
theorem rdo_yes1 (S0 : ByteArray) (p : Option Addr) (n c : Nat) (E : List Ed) (k : Nat) (x x' : St) (a d : Int) (t : ByteArray) (K : Nat) (w : World) (h : Ta K S0 E k x) (hf : Fit x.s.size (a, d, t)) (hz : (ap x.s (a, d, t)).size ≤ 4000) (hxx : x' = ⟨ap x.s (a, d, t), inv x.s (a, d, t) :: x.U, [], x.v + 1⟩) (hK4 : 4000 ≤ K) (hk0 : 0 < k) (hK : K ≤ 1000000) (hk9 : k ≤ 900000) (hv9 : x.v ≤ 900000) (ht : t.size ≤ 1000000) (hc : n ≤ c) (hr : ERow w p n E) :
    Calls Try.prog 25 #[.agg #[.string S0, .slice p n c, .int .i64 (k : Int), .int .i64 (x.v : Int)], .agg #[.int .i64 a, .int .i64 d, .string t]] w fun e w' => DoRes K S0 p n x' 0 w e w' := by
  obtain ⟨hx0, hx1, hx2, bW, hsz⟩ := three w (stc S0 p n c k x.v) (edc a d t) (stc { data := #[] } none 0 0 0 0)
  obtain ⟨W, hW⟩ : ∃ W, W = ((w.alloc (stc S0 p n c k x.v)).alloc (edc a d t)).alloc (stc { data := #[] } none 0 0 0 0) := ⟨_, rfl⟩
  rw [← hW] at hx0 hx1 hx2 bW hsz
  simp only [stc, edc] at hx0 hx1 hx2 hW
  have Kp := hid (show ∀ W', Below W.heap.size W W' → (W'.cell? ⟨w.heap.size, 0, none⟩ = some (.string S0) ∧ W'.cell? ⟨w.heap.size, 1, none⟩ = some (.slice p n c) ∧ W'.cell? ⟨w.heap.size, 2, none⟩ = some (.int .i64 (k : Int)) ∧ W'.cell? ⟨w.heap.size, 3, none⟩ = some (.int .i64 (x.v : Int))) ∧
      W'.cell? ⟨w.heap.size + 1, 0, none⟩ = some (.int .i64 a) ∧ W'.cell? ⟨w.heap.size + 1, 1, none⟩ = some (.int .i64 d) ∧ W'.cell? ⟨w.heap.size + 1, 2, none⟩ = some (.string t) from fun W' hb' => 
    ⟨cells4 ((hb'.block _ (heap_lt hx0)).trans hx0), cells3 ((hb'.block _ (heap_lt hx1)).trans hx1)⟩)
  have X0 := hid hx0
  have X1 := hid hx1
  have X2 := hid hx2
  have TX := hid (show ∀ W', Below W.heap.size W W' → Calls Try.prog 16 #[.agg #[.string S0, .slice p n c, .int .i64 (k : Int), .int .i64 (x.v : Int)]] W' fun e w' => e = .returned (.string x.s) ∧ Below W'.heap.size W' w' from fun W' hb' =>
    rtext_any S0 _ n c E k _ K x.s x.U x.R W' h hK (by omega) ((hr.below bW).below hb'))
  have AP := hid (show ∀ W', Calls Try.prog 18 #[.string x.s, .agg #[.int .i64 a, .int .i64 d, .string t]] W' fun e w' => e = .returned (.tuple #[.string (ap x.s (a, d, t)), .int .i64 0]) ∧ Below W'.heap.size W' w' from fun W' => by
    refine (rapply_any x.s t a d W' (Nat.le_trans h.chU.size hK) ht).mono ?_
    rintro e w' ⟨rfl, hb'⟩
    exact ⟨by rw [apv_yes hf], hb'⟩)
  have RW := hid hr
  have hz' : ((ap x.s (a, d, t)).size : Int) ≤ 4000 := by omega
  obtain ⟨i0, hi, hz0, hz1, hz2⟩ := info_parts Try.info31
  have HTX := hid (show Ta K S0 (E.take k ++ [(a, d, t)]) (k + 1) x' by rw [hxx]; exact Tale.do h hf (by omega))
  have HV := hid (show (x'.v : Int) = (x.v : Int) + 1 by rw [hxx]; rfl)
  have hkn : k ≤ n := by have := h.le; have := hr.1; omega
  have hkn' : (k : Int) ≤ (n : Int) := by omega
  have hkc' : (k : Int) ≤ (c : Int) := by omega
  have hk0' : (0 : Int) ≤ (k : Int) := by omega
  obtain ⟨b, off, rfl, hbw, _⟩ := hr.2.resolve_left (by omega)
  have HB := hid bW
  have HSZ := hid hsz
  have HW := hid hW
  have HT := hid h
  have HR := hid (hr.below bW)
  have HX := hid (And.intro hK ht)
  have hk9' : (k : Int) ≤ 900000 := by omega
  have hv9' : (x.v : Int) ≤ 900000 := by omega
  clear h hr hx0 hx1 hx2 bW hW hsz hf hz hxx
  go_enter Try.func25, Try.ntmps25
  go_wp2_with fail
  rw [← HW.out]
  refine wp_region_below (by kernel_rfl) (by kernel_rfl) ?_
  intro X f _ hfx hsf
  have k0 := fun x => (Kp.out _ (hfx.out x)).1.1
  have k1 := fun x => (Kp.out _ (hfx.out x)).1.2.1
  have k2 := fun x => (Kp.out _ (hfx.out x)).1.2.2.1
  have k3 := fun x => (Kp.out _ (hfx.out x)).1.2.2.2
  have e0 := fun x => (Kp.out _ (hfx.out x)).2.1
  have e1 := fun x => (Kp.out _ (hfx.out x)).2.2.1
  have e2 := fun x => (Kp.out _ (hfx.out x)).2.2.2
  repeat (go_big_quiet_step (first | (go_at_call 16; exact calls_below hfx hsf (TX.out _ (hfx.out _))) | (go_at_call 18; exact calls_below hfx hsf (AP.out _))))
  refine wpQuiet_nil ?_
  intro w5 hb5
  clear k0 k1 k2 k3 e0 e1 e2 hfx hsf
  go_wp2_with fail
  go_cut [7] from 23 to 34 (fun s7 wx => ∃ (g cap : Nat), s7 = .int .i64 0 ∧ wx.heap[w.heap.size]? = some (.cells #[.string S0, .slice (some ⟨g, 0, none⟩) (k + 1) cap, .int .i64 (k : Int), .int .i64 (x.v : Int)] 29 (0, 0)) ∧ ERow wx (some ⟨g, 0, none⟩) (k + 1) (E.take k ++ [(a, d, t)]) ∧ (k + 1) ≤ cap ∧ wx.heap[w.heap.size + 1 + 1]? = some (.cells #[.string { data := #[] }, .slice none 0 0, .int .i64 0, .int .i64 0] 29 (0, 0)) ∧ W.heap.size ≤ g ∧ Below w.heap.size w wx)
  case first =>
    have hb0 : Below W.heap.size W w5.drew := hb5.drew
    obtain ⟨u0, hu0⟩ : ∃ u, u = w5.drew := ⟨_, rfl⟩
    have KS := hid (show ∀ W', Below W.heap.size W W' → W'.cell? ⟨w.heap.size, 2, none⟩ = some (.int .i64 (k : Int)) ∧ W'.cell? ⟨w.heap.size + 1, 0, none⟩ = some (.int .i64 a) ∧ W'.cell? ⟨w.heap.size + 1, 1, none⟩ = some (.int .i64 d) ∧ W'.cell? ⟨w.heap.size + 1, 2, none⟩ = some (.string t) from fun W' h => ⟨(Kp.out _ h).1.2.2.1, (Kp.out _ h).2⟩)
    have KT := hid (show ∀ W', Below W.heap.size W W' → W'.cell? ⟨w.heap.size, 1, none⟩ = some (.slice (some ⟨b, off, none⟩) n c) from fun W' h => (Kp.out _ h).1.2.1)
    refine region_till 11 (fun w' => w'.cell? ⟨w.heap.size, 2, none⟩ = some (.int .i64 (k : Int)) ∧ w'.cell? ⟨w.heap.size + 1, 0, none⟩ = some (.int .i64 a) ∧ w'.cell? ⟨w.heap.size + 1, 1, none⟩ = some (.int .i64 d) ∧ w'.cell? ⟨w.heap.size + 1, 2, none⟩ = some (.string t)) (fun w' => w'.cell? ⟨w.heap.size, 1, none⟩ = some (.slice (some ⟨b, off, none⟩) n c)) (by kernel_rfl) ?_
    rw [← hu0] at hb0 ⊢
    clear hu0 hb5
    have hS := KS.out _ hb0
    have hT := KT.out _ hb0
    refine takeS (i := 1) (d := 24) (oi := _) (v := ?v1) rfl rfl (by kernel_rfl) (by kernel_rfl) (by kernel_rfl) (by kernel_rfl) (fun _ _ _ h => h) (Or.inl ⟨by rfl, ?y1⟩) hS (fun _ => hT) ?r1
    case y1 => (intro w' hSw; (try dsimp only at hSw); go_simp; first | done | with_reducible rfl)
    (try simp only [List.setIfInBounds_toArray, List.set_cons_zero, List.set_cons_succ])
    refine takeT (i := 2) (d := 25) (oi := _) (v := ?v2) rfl rfl (by kernel_rfl) (by kernel_rfl) (by kernel_rfl) (by kernel_rfl) (by kernel_rfl) (by kernel_rfl) (fun _ _ _ h => h) (Or.inl ⟨by rfl, ?y2⟩) hS hT ?r2
    case y2 => (intro w' hSw; (try dsimp only at hSw); go_simp; first | done | with_reducible rfl)
    (try simp only [List.setIfInBounds_toArray, List.set_cons_zero, List.set_cons_succ])
    refine takeS (i := 3) (d := 26) (oi := _) (v := ?v3) rfl rfl (by kernel_rfl) (by kernel_rfl) (by kernel_rfl) (by kernel_rfl) (fun _ _ _ h => h) (Or.inl ⟨by rfl, ?y3⟩) hS (fun _ => hT) ?r3
    case y3 => (intro w' hSw; (try dsimp only at hSw); go_simp; first | done | with_reducible rfl)
    (try simp only [List.setIfInBounds_toArray, List.set_cons_zero, List.set_cons_succ])
    refine takeS (i := 4) (d := 27) (oi := _) (v := ?v4) rfl rfl (by kernel_rfl) (by kernel_rfl) (by kernel_rfl) (by kernel_rfl) (fun _ _ _ h => h) (Or.inl ⟨by rfl, ?y4⟩) hS (fun _ => hT) ?r4
    case y4 => (intro w' hSw; (try dsimp only at hSw); go_simp; first | done | with_reducible rfl)
    (try simp only [List.setIfInBounds_toArray, List.set_cons_zero, List.set_cons_succ])
    refine takeS (i := 5) (d := 28) (oi := _) (v := ?v5) rfl rfl (by kernel_rfl) (by kernel_rfl) (by kernel_rfl) (by kernel_rfl) (fun _ _ _ h => h) (Or.inl ⟨by rfl, ?y5⟩) hS (fun _ => hT) ?r5
    case y5 => (intro w' hSw; (try dsimp only at hSw); go_simp; first | done | with_reducible rfl)
    (try simp only [List.setIfInBounds_toArray, List.set_cons_zero, List.set_cons_succ])
    refine takeS (i := 7) (d := 30) (oi := _) (v := ?v7) rfl rfl (by kernel_rfl) (by kernel_rfl) (by kernel_rfl) (by kernel_rfl) (fun _ _ _ h => h) (Or.inl ⟨by rfl, ?y7⟩) hS (fun _ => hT) ?r7
    case y7 => (intro w' hSw; (try dsimp only at hSw); go_simp; first | done | with_reducible rfl)
    (try simp only [List.setIfInBounds_toArray, List.set_cons_zero, List.set_cons_succ])
    refine pickT (i := 0) (j := 8) (oi := _) (oj := _) rfl rfl (by kernel_rfl) (fun K hK => ?_) (fun K hK => ?_)
    · -- 0
      go_simp
      have hb1 : Below W.heap.size W (u0.alloc (.cells #[] 31)) := hb0.alloc hb0.size _
      have z0 : (u0.alloc (.cells #[] 31)).heap[u0.heap.size]? = some (.cells #[] 31) := alloc_new _ _
      obtain ⟨b0, hbe0⟩ : ∃ b, b = u0.heap.size := ⟨_, rfl⟩
      have hl0 : W.heap.size ≤ b0 := by rw [hbe0]; exact hb0.size
      obtain ⟨u1, hu1⟩ : ∃ u, u = u0.alloc (.cells #[] 31) := ⟨_, rfl⟩
      rw [← hu1] at hb1 z0 ⊢
      rw [← hbe0] at z0 ⊢
      clear hu1 hbe0
      clear hS hT
      have hS := KS.out _ hb1
      have hT := KT.out _ hb1
      refine hK.out _ _ ⟨hS, fun _ => hT⟩ ?_
      clear hK K
      (try simp only [Act.put, List.setIfInBounds_toArray, List.set_cons_zero, List.set_cons_succ])
      refine pickT (i := 6) (j := 8) (oi := _) (oj := _) rfl rfl (by kernel_rfl) (fun K hK => ?_) (fun K hK => ?_)
      · -- 6
        refine step_append_lies _ (by rfl) (.tmp 23) (.tmp 28) 27 (by rfl) 0 31 i0 _ 3 32 Try.underlying27 hi hz0 hz1 hz2 (by rfl) (by decide) (.slice (some ⟨b0, 0, none⟩) 0 0) 0 [] (by rfl) (own_nil_row z0) ⟨b, off, none⟩ k c (ev (E.take k)) (by rfl) (by rw [ev_length, List.length_take, HR.out.1]; omega) (erow_news (HR.out.below hb1) (by omega)) ev_one_cell (by omega) (by unfold maxLen; omega) (by omega) (Nat.zero_le _) _ rfl ?_
        intro g6 cap6 u2 own6 grow6 at6 lt6
        have hb2 : Below W.heap.size W u2 := below_grown hb1 grow6 hb1.size (by intro k' hk'; simp only [Value.ownBlock, Option.some.injEq] at hk'; omega)
        have hl6 : W.heap.size ≤ g6 := by
          rcases at6 with h6 | h6
          · simp only [Value.ownBlock, Option.some.injEq] at h6; omega
          · rw [h6]; exact hb1.size
        clear grow6 at6 lt6
        have own6 := own_take own6
        try simp only [Nat.zero_add]
        clear hS hT
        have hS := KS.out _ hb2
        have hT := KT.out _ hb2
        refine hK.out _ _ ⟨hS, fun _ => hT⟩ ?_
        clear hK K
        (try simp only [Act.put, List.setIfInBounds_toArray, List.set_cons_zero, List.set_cons_succ])
        -- 8
        refine carryT (i := 8) (oi := _) rfl (by kernel_rfl) (fun K hK => ?_)
        go_simp
        have hb3 : Below W.heap.size W (u2.alloc (.cells #[.int .i64 a, .int .i64 d, .string t] 31)) := hb2.alloc hb2.size _
        have z8 : (u2.alloc (.cells #[.int .i64 a, .int .i64 d, .string t] 31)).heap[u2.heap.size]? = some (.cells #[.int .i64 a, .int .i64 d, .string t] 31) := alloc_new _ _
        obtain ⟨b8, hbe8⟩ : ∃ b, b = u2.heap.size := ⟨_, rfl⟩
        have hl8 : W.heap.size ≤ b8 := by rw [hbe8]; exact hb2.size
        have own6 := own_alloc own6 (.cells #[.int .i64 a, .int .i64 d, .string t] 31)
        obtain ⟨u3, hu3⟩ : ∃ u, u = u2.alloc (.cells #[.int .i64 a, .int .i64 d, .string t] 31) := ⟨_, rfl⟩
        rw [← hu3] at hb3 z8 own6 ⊢
        rw [← hbe8] at z8 ⊢
        clear hu3 hbe8
        clear hS hT
        have hS := KS.out _ hb3
        have hT := KT.out _ hb3
        refine hK.out _ _ ⟨hS, fun _ => hT⟩ ?_
        clear hK K
        (try simp only [Act.put, List.setIfInBounds_toArray, List.set_cons_zero, List.set_cons_succ])
        -- 9
        refine carryT (i := 9) (oi := _) rfl (by kernel_rfl) (fun K hK => ?_)
        refine step_append_lies _ (by rfl) (.tmp 29) (.tmp 31) 27 (by rfl) 0 31 i0 _ 3 32 Try.underlying27 hi hz0 hz1 hz2 (by rfl) (by decide) (.slice (some ⟨g6, 0, none⟩) k cap6) k (ev (E.take k)) (by rfl) own6 ⟨b8, 0, none⟩ 1 1 [.int .i64 a, .int .i64 d, .string t] (by rfl) (by rfl) (World.news_of_block z8) (by intro u hu; simp at hu; rcases hu with rfl | rfl | rfl <;> rfl) (by decide) (by unfold maxLen; omega) (by omega) (Nat.zero_le _) _ rfl ?_
        intro g9 cap9 u9 own9 grow9 at9 lt9
        have hb9 : Below W.heap.size W u9 := below_grown hb3 grow9 hb3.size (by intro k' hk'; simp only [Value.ownBlock, Option.some.injEq] at hk'; omega)
        have hl9 : W.heap.size ≤ g9 := by
          rcases at9 with h6 | h6
          · simp only [Value.ownBlock, Option.some.injEq] at h6; omega
          · rw [h6]; exact hb3.size
        clear grow9 at9 lt9
        clear hS hT
        have hS := KS.out _ hb9
        have hT := KT.out _ hb9
        refine hK.out _ _ ⟨hS, fun _ => hT⟩ ?_
        clear hK K
        (try simp only [Act.put, List.setIfInBounds_toArray, List.set_cons_zero, List.set_cons_succ])
        refine takeS (i := 10) (d := 33) (oi := _) (v := ?v10p068) rfl rfl (by kernel_rfl) (by kernel_rfl) (by kernel_rfl) (by kernel_rfl) (fun _ _ _ h => h) (Or.inl ⟨by rfl, ?y10p068⟩) hS (fun _ => hT) ?r10p068
        case y10p068 => (intro w' hSw; (try dsimp only at hSw); go_simp; first | done | with_reducible rfl)
        (try simp only [List.setIfInBounds_toArray, List.set_cons_zero, List.set_cons_succ])
        -- 11
        have Y0 := (hb9.block _ (heap_lt X0.out)).trans X0.out
        obtain ⟨c0, c1, c2, c3⟩ := cells4 Y0
        obtain ⟨f0, f1, f2, f3⟩ := frozen4 Y0
        refine carryT (i := 11) (oi := _) rfl (by kernel_rfl) (fun K hK => ?_)
        go_simp
        refine hK.out _ _ ⟨⟨(World.cell?_setCell_other _ _ _ _ (by simp)).trans hS.1, (World.cell?_setCell_other _ _ _ _ (by simp)).trans hS.2.1, (World.cell?_setCell_other _ _ _ _ (by simp)).trans hS.2.2.1, (World.cell?_setCell_other _ _ _ _ (by simp)).trans hS.2.2.2⟩, fun h => by simp at h⟩ ?_
        clear hK K hS hT c0 c1 c2 c3 f0 f1 f2 f3
        (try simp only [Act.put, List.setIfInBounds_toArray, List.set_cons_zero, List.set_cons_succ])
        refine wpAnyT_done (by kernel_rfl) ?_ _
        go_wp2_with fail
        go_meet
        obtain ⟨hro, hcp⟩ := own_snoc own9
        exact ⟨g9, cap9, rfl, blk_put Y0, ERow.set hro (fun q hq => by simp only [Option.some.injEq] at hq; rw [← hq]; show g9 ≠ w.heap.size; have := HSZ.out; omega), hcp, (blk_set (a := ⟨w.heap.size, 1, none⟩) ((hb9.block _ (heap_lt X2.out)).trans X2.out) (by show w.heap.size + 1 + 1 ≠ w.heap.size; omega)), hl9, (HB.out.trans (hb9.mono HB.out.size)).setCell (by exact Nat.le_refl _) _⟩
      · -- 8
        go_simp
        have hb2 : Below W.heap.size W (u1.alloc (.cells #[.int .i64 a, .int .i64 d, .string t] 31)) := hb1.alloc hb1.size _
        have z8 : (u1.alloc (.cells #[.int .i64 a, .int .i64 d, .string t] 31)).heap[u1.heap.size]? = some (.cells #[.int .i64 a, .int .i64 d, .string t] 31) := alloc_new _ _
        obtain ⟨b8, hbe8⟩ : ∃ b, b = u1.heap.size := ⟨_, rfl⟩
        have hl8 : W.heap.size ≤ b8 := by rw [hbe8]; exact hb1.size
        have z0 := blk_alloc (o' := (.cells #[.int .i64 a, .int .i64 d, .string t] 31)) z0
        obtain ⟨u2, hu2⟩ : ∃ u, u = u1.alloc (.cells #[.int .i64 a, .int .i64 d, .string t] 31) := ⟨_, rfl⟩
        rw [← hu2] at hb2 z0 z8 ⊢
        rw [← hbe8] at z8 ⊢
        clear hu2 hbe8
        clear hS hT
        have hS := KS.out _ hb2
        have hT := KT.out _ hb2
        refine hK.out _ _ ⟨hS, fun _ => hT⟩ ?_
        clear hK K
        (try simp only [Act.put, List.setIfInBounds_toArray, List.set_cons_zero, List.set_cons_succ])
        have hne80 : ¬ b8 = b0 := by
          intro h
          rw [h] at z8
          rw [z0] at z8
          simp at z8
        -- 6
        refine carryT (i := 6) (oi := _) rfl (by kernel_rfl) (fun K hK => ?_)
        refine step_append_lies _ (by rfl) (.tmp 23) (.tmp 28) 27 (by rfl) 0 31 i0 _ 3 32 Try.underlying27 hi hz0 hz1 hz2 (by rfl) (by decide) (.slice (some ⟨b0, 0, none⟩) 0 0) 0 [] (by rfl) (own_nil_row z0) ⟨b, off, none⟩ k c (ev (E.take k)) (by rfl) (by rw [ev_length, List.length_take, HR.out.1]; omega) (erow_news (HR.out.below hb2) (by omega)) ev_one_cell (by omega) (by unfold maxLen; omega) (by omega) (Nat.zero_le _) _ rfl ?_
        intro g6 cap6 u3 own6 grow6 at6 lt6
        have hb3 : Below W.heap.size W u3 := below_grown hb2 grow6 hb2.size (by intro k' hk'; simp only [Value.ownBlock, Option.some.injEq] at hk'; omega)
        have hl6 : W.heap.size ≤ g6 := by
          rcases at6 with h6 | h6
          · simp only [Value.ownBlock, Option.some.injEq] at h6; omega
          · rw [h6]; exact hb2.size
        have z8 := (grow6.block b8 (heap_lt z8) (by simp only [Value.ownBlock]; intro h; simp only [Option.some.injEq] at h; exact absurd h hne80)).trans z8
        clear grow6 at6 lt6
        have own6 := own_take own6
        try simp only [Nat.zero_add]
        clear hS hT
        have hS := KS.out _ hb3
        have hT := KT.out _ hb3
        refine hK.out _ _ ⟨hS, fun _ => hT⟩ ?_
        clear hK K
        (try simp only [Act.put, List.setIfInBounds_toArray, List.set_cons_zero, List.set_cons_succ])
        -- 9
        refine carryT (i := 9) (oi := _) rfl (by kernel_rfl) (fun K hK => ?_)
        refine step_append_lies _ (by rfl) (.tmp 29) (.tmp 31) 27 (by rfl) 0 31 i0 _ 3 32 Try.underlying27 hi hz0 hz1 hz2 (by rfl) (by decide) (.slice (some ⟨g6, 0, none⟩) k cap6) k (ev (E.take k)) (by rfl) own6 ⟨b8, 0, none⟩ 1 1 [.int .i64 a, .int .i64 d, .string t] (by rfl) (by rfl) (World.news_of_block z8) (by intro u hu; simp at hu; rcases hu with rfl | rfl | rfl <;> rfl) (by decide) (by unfold maxLen; omega) (by omega) (Nat.zero_le _) _ rfl ?_
        intro g9 cap9 u9 own9 grow9 at9 lt9
        have hb9 : Below W.heap.size W u9 := below_grown hb3 grow9 hb3.size (by intro k' hk'; simp only [Value.ownBlock, Option.some.injEq] at hk'; omega)
        have hl9 : W.heap.size ≤ g9 := by
          rcases at9 with h6 | h6
          · simp only [Value.ownBlock, Option.some.injEq] at h6; omega
          · rw [h6]; exact hb3.size
        clear grow9 at9 lt9
        clear hS hT
        have hS := KS.out _ hb9
        have hT := KT.out _ hb9
        refine hK.out _ _ ⟨hS, fun _ => hT⟩ ?_
        clear hK K
        (try simp only [Act.put, List.setIfInBounds_toArray, List.set_cons_zero, List.set_cons_succ])
        refine takeS (i := 10) (d := 33) (oi := _) (v := ?v10p086) rfl rfl (by kernel_rfl) (by kernel_rfl) (by kernel_rfl) (by kernel_rfl) (fun _ _ _ h => h) (Or.inl ⟨by rfl, ?y10p086⟩) hS (fun _ => hT) ?r10p086
        case y10p086 => (intro w' hSw; (try dsimp only at hSw); go_simp; first | done | with_reducible rfl)
        (try simp only [List.setIfInBounds_toArray, List.set_cons_zero, List.set_cons_succ])
        -- 11
        have Y0 := (hb9.block _ (heap_lt X0.out)).trans X0.out
        obtain ⟨c0, c1, c2, c3⟩ := cells4 Y0
        obtain ⟨f0, f1, f2, f3⟩ := frozen4 Y0
        refine carryT (i := 11) (oi := _) rfl (by kernel_rfl) (fun K hK => ?_)
        go_simp
        refine hK.out _ _ ⟨⟨(World.cell?_setCell_other _ _ _ _ (by simp)).trans hS.1, (World.cell?_setCell_other _ _ _ _ (by simp)).trans hS.2.1, (World.cell?_setCell_other _ _ _ _ (by simp)).trans hS.2.2.1, (World.cell?_setCell_other _ _ _ _ (by simp)).trans hS.2.2.2⟩, fun h => by simp at h⟩ ?_
        clear hK K hS hT c0 c1 c2 c3 f0 f1 f2 f3
        (try simp only [Act.put, List.setIfInBounds_toArray, List.set_cons_zero, List.set_cons_succ])
        refine wpAnyT_done (by kernel_rfl) ?_ _
        go_wp2_with fail
        go_meet
        obtain ⟨hro, hcp⟩ := own_snoc own9
        exact ⟨g9, cap9, rfl, blk_put Y0, ERow.set hro (fun q hq => by simp only [Option.some.injEq] at hq; rw [← hq]; show g9 ≠ w.heap.size; have := HSZ.out; omega), hcp, (blk_set (a := ⟨w.heap.size, 1, none⟩) ((hb9.block _ (heap_lt X2.out)).trans X2.out) (by show w.heap.size + 1 + 1 ≠ w.heap.size; omega)), hl9, (HB.out.trans (hb9.mono HB.out.size)).setCell (by exact Nat.le_refl _) _⟩
    · -- 8
      go_simp
      have hb1 : Below W.heap.size W (u0.alloc (.cells #[.int .i64 a, .int .i64 d, .string t] 31)) := hb0.alloc hb0.size _
      have z8 : (u0.alloc (.cells #[.int .i64 a, .int .i64 d, .string t] 31)).heap[u0.heap.size]? = some (.cells #[.int .i64 a, .int .i64 d, .string t] 31) := alloc_new _ _
      obtain ⟨b8, hbe8⟩ : ∃ b, b = u0.heap.size := ⟨_, rfl⟩
      have hl8 : W.heap.size ≤ b8 := by rw [hbe8]; exact hb0.size
      obtain ⟨u1, hu1⟩ : ∃ u, u = u0.alloc (.cells #[.int .i64 a, .int .i64 d, .string t] 31) := ⟨_, rfl⟩
      rw [← hu1] at hb1 z8 ⊢
      rw [← hbe8] at z8 ⊢
      clear hu1 hbe8
      clear hS hT
      have hS := KS.out _ hb1
      have hT := KT.out _ hb1
      refine hK.out _ _ ⟨hS, fun _ => hT⟩ ?_
      clear hK K
      (try simp only [Act.put, List.setIfInBounds_toArray, List.set_cons_zero, List.set_cons_succ])
      -- 0
      refine carryT (i := 0) (oi := _) rfl (by kernel_rfl) (fun K hK => ?_)
      go_simp
      have hb2 : Below W.heap.size W (u1.alloc (.cells #[] 31)) := hb1.alloc hb1.size _
      have z0 : (u1.alloc (.cells #[] 31)).heap[u1.heap.size]? = some (.cells #[] 31) := alloc_new _ _
      obtain ⟨b0, hbe0⟩ : ∃ b, b = u1.heap.size := ⟨_, rfl⟩
      have hl0 : W.heap.size ≤ b0 := by rw [hbe0]; exact hb1.size
      have z8 := blk_alloc (o' := (.cells #[] 31)) z8
      obtain ⟨u2, hu2⟩ : ∃ u, u = u1.alloc (.cells #[] 31) := ⟨_, rfl⟩
      rw [← hu2] at hb2 z8 z0 ⊢
      rw [← hbe0] at z0 ⊢
      clear hu2 hbe0
      clear hS hT
      have hS := KS.out _ hb2
      have hT := KT.out _ hb2
      refine hK.out _ _ ⟨hS, fun _ => hT⟩ ?_
      clear hK K
      (try simp only [Act.put, List.setIfInBounds_toArray, List.set_cons_zero, List.set_cons_succ])
      have hne80 : ¬ b8 = b0 := by
        intro h
        rw [h] at z8
        rw [z0] at z8
        simp at z8
      -- 6
      refine carryT (i := 6) (oi := _) rfl (by kernel_rfl) (fun K hK => ?_)
      refine step_append_lies _ (by rfl) (.tmp 23) (.tmp 28) 27 (by rfl) 0 31 i0 _ 3 32 Try.underlying27 hi hz0 hz1 hz2 (by rfl) (by decide) (.slice (some ⟨b0, 0, none⟩) 0 0) 0 [] (by rfl) (own_nil_row z0) ⟨b, off, none⟩ k c (ev (E.take k)) (by rfl) (by rw [ev_length, List.length_take, HR.out.1]; omega) (erow_news (HR.out.below hb2) (by omega)) ev_one_cell (by omega) (by unfold maxLen; omega) (by omega) (Nat.zero_le _) _ rfl ?_
      intro g6 cap6 u3 own6 grow6 at6 lt6
      have hb3 : Below W.heap.size W u3 := below_grown hb2 grow6 hb2.size (by intro k' hk'; simp only [Value.ownBlock, Option.some.injEq] at hk'; omega)
      have hl6 : W.heap.size ≤ g6 := by
        rcases at6 with h6 | h6
        · simp only [Value.ownBlock, Option.some.injEq] at h6; omega
        · rw [h6]; exact hb2.size
      have z8 := (grow6.block b8 (heap_lt z8) (by simp only [Value.ownBlock]; intro h; simp only [Option.some.injEq] at h; exact absurd h hne80)).trans z8
      clear grow6 at6 lt6
      have own6 := own_take own6
      try simp only [Nat.zero_add]
      clear hS hT
      have hS := KS.out _ hb3
      have hT := KT.out _ hb3
      refine hK.out _ _ ⟨hS, fun _ => hT⟩ ?_
      clear hK K
      (try simp only [Act.put, List.setIfInBounds_toArray, List.set_cons_zero, List.set_cons_succ])
      -- 9
      refine carryT (i := 9) (oi := _) rfl (by kernel_rfl) (fun K hK => ?_)
      refine step_append_lies _ (by rfl) (.tmp 29) (.tmp 31) 27 (by rfl) 0 31 i0 _ 3 32 Try.underlying27 hi hz0 hz1 hz2 (by rfl) (by decide) (.slice (some ⟨g6, 0, none⟩) k cap6) k (ev (E.take k)) (by rfl) own6 ⟨b8, 0, none⟩ 1 1 [.int .i64 a, .int .i64 d, .string t] (by rfl) (by rfl) (World.news_of_block z8) (by intro u hu; simp at hu; rcases hu with rfl | rfl | rfl <;> rfl) (by decide) (by unfold maxLen; omega) (by omega) (Nat.zero_le _) _ rfl ?_
      intro g9 cap9 u9 own9 grow9 at9 lt9
      have hb9 : Below W.heap.size W u9 := below_grown hb3 grow9 hb3.size (by intro k' hk'; simp only [Value.ownBlock, Option.some.injEq] at hk'; omega)
      have hl9 : W.heap.size ≤ g9 := by
        rcases at9 with h6 | h6
        · simp only [Value.ownBlock, Option.some.injEq] at h6; omega
        · rw [h6]; exact hb3.size
      clear grow9 at9 lt9
      clear hS hT
      have hS := KS.out _ hb9
      have hT := KT.out _ hb9
      refine hK.out _ _ ⟨hS, fun _ => hT⟩ ?_
      clear hK K
      (try simp only [Act.put, List.setIfInBounds_toArray, List.set_cons_zero, List.set_cons_succ])
      refine takeS (i := 10) (d := 33) (oi := _) (v := ?v10p806) rfl rfl (by kernel_rfl) (by kernel_rfl) (by kernel_rfl) (by kernel_rfl) (fun _ _ _ h => h) (Or.inl ⟨by rfl, ?y10p806⟩) hS (fun _ => hT) ?r10p806
      case y10p806 => (intro w' hSw; (try dsimp only at hSw); go_simp; first | done | with_reducible rfl)
      (try simp only [List.setIfInBounds_toArray, List.set_cons_zero, List.set_cons_succ])
      -- 11
      have Y0 := (hb9.block _ (heap_lt X0.out)).trans X0.out
      obtain ⟨c0, c1, c2, c3⟩ := cells4 Y0
      obtain ⟨f0, f1, f2, f3⟩ := frozen4 Y0
      refine carryT (i := 11) (oi := _) rfl (by kernel_rfl) (fun K hK => ?_)
      go_simp
      refine hK.out _ _ ⟨⟨(World.cell?_setCell_other _ _ _ _ (by simp)).trans hS.1, (World.cell?_setCell_other _ _ _ _ (by simp)).trans hS.2.1, (World.cell?_setCell_other _ _ _ _ (by simp)).trans hS.2.2.1, (World.cell?_setCell_other _ _ _ _ (by simp)).trans hS.2.2.2⟩, fun h => by simp at h⟩ ?_
      clear hK K hS hT c0 c1 c2 c3 f0 f1 f2 f3
      (try simp only [Act.put, List.setIfInBounds_toArray, List.set_cons_zero, List.set_cons_succ])
      refine wpAnyT_done (by kernel_rfl) ?_ _
      go_wp2_with fail
      go_meet
      obtain ⟨hro, hcp⟩ := own_snoc own9
      exact ⟨g9, cap9, rfl, blk_put Y0, ERow.set hro (fun q hq => by simp only [Option.some.injEq] at hq; rw [← hq]; show g9 ≠ w.heap.size; have := HSZ.out; omega), hcp, (blk_set (a := ⟨w.heap.size, 1, none⟩) ((hb9.block _ (heap_lt X2.out)).trans X2.out) (by show w.heap.size + 1 + 1 ≠ w.heap.size; omega)), hl9, (HB.out.trans (hb9.mono HB.out.size)).setCell (by exact Nat.le_refl _) _⟩
  case rest =>
    obtain ⟨g, cap, rfl, hX, hE, hcap, hZ, hgl, hbx⟩ := hcut
    obtain ⟨k0, k1, k2, k3⟩ := cells4 hX
    obtain ⟨q0, q1, q2, q3⟩ := frozen4 hX
    obtain ⟨z0, z1, z2, z3⟩ := cells4 hZ
    obtain ⟨f0, f1, f2, f3⟩ := frozen4 hZ
    have hl0 := heap_lt hX
    have hl2 := heap_lt hZ
    have HE := hid hE
    have HBX := hid hbx
    have HG := hid hgl
    clear hX hE hZ hbx hgl
    go_wp2
    have hw : Below w.heap.size w ((((((wc.setCell ⟨w.heap.size, 2, none⟩ (.int .i64 ((k : Int) + 1))).setCell ⟨w.heap.size, 3, none⟩ (.int .i64 ((x.v : Int) + 1))).setCell ⟨w.heap.size + 1 + 1, 0, none⟩ (.string S0)).setCell ⟨w.heap.size + 1 + 1, 1, none⟩ (.slice (some ⟨g, 0, none⟩) (k + 1) cap)).setCell ⟨w.heap.size + 1 + 1, 2, none⟩ (.int .i64 ((k : Int) + 1))).setCell ⟨w.heap.size + 1 + 1, 3, none⟩ (.int .i64 ((x.v : Int) + 1))) := by
      repeat (refine Below.setCell ?_ (by first | exact Nat.le_refl _ | (simp; done) | (simp; omega)) _)
      exact HBX.out
    have hgw : W.heap.size ≤ g := HG.out
    have hE : ERow ((((((wc.setCell ⟨w.heap.size, 2, none⟩ (.int .i64 ((k : Int) + 1))).setCell ⟨w.heap.size, 3, none⟩ (.int .i64 ((x.v : Int) + 1))).setCell ⟨w.heap.size + 1 + 1, 0, none⟩ (.string S0)).setCell ⟨w.heap.size + 1 + 1, 1, none⟩ (.slice (some ⟨g, 0, none⟩) (k + 1) cap)).setCell ⟨w.heap.size + 1 + 1, 2, none⟩ (.int .i64 ((k : Int) + 1))).setCell ⟨w.heap.size + 1 + 1, 3, none⟩ (.int .i64 ((x.v : Int) + 1))) (some ⟨g, 0, none⟩) (k + 1) (E.take k ++ [(a, d, t)]) := by
      repeat (refine ERow.set ?_ (fun q hq => by simp only [Option.some.injEq] at hq; rw [← hq]; have := HSZ.out; first | (show g ≠ w.heap.size; omega) | (show g ≠ w.heap.size + 1 + 1; omega)))
      exact HE.out
    refine bodyPost_ret (v := .tuple #[.agg #[.string S0, .slice (some ⟨g, 0, none⟩) (k + 1) cap, .int .i64 ((k : Int) + 1), .int .i64 ((x.v : Int) + 1)], .int .i64 0]) ?_ rfl ⟨some ⟨g, 0, none⟩, (k + 1), cap, (k + 1), _, ?_, hE, hcap, HTX.out, .inr (fun q hq => by simp only [Option.some.injEq] at hq; rw [← hq]; have := HB.out.size; show w.heap.size ≤ g; omega), hw⟩
    · simp [results, Try.results25, go_sem, z0, z1, z2, z3]
    · rw [HV.out]; rfl
set_option maxRecDepth 100000 in
set_option maxHeartbeats 8000000 in
theorem rdo_yes0 (S0 : ByteArray) (p : Option Addr) (n c : Nat) (E : List Ed) (x x' : St) (a d : Int) (t : ByteArray) (K : Nat) (w : World) (h : Ta K S0 E 0 x) (hf : Fit x.s.size (a, d, t)) (hz : (ap x.s (a, d, t)).size ≤ 4000) (hxx : x' = ⟨ap x.s (a, d, t), inv x.s (a, d, t) :: x.U, [], x.v + 1⟩) (hK4 : 4000 ≤ K) (hK : K ≤ 1000000) (hv9 : x.v ≤ 900000) (ht : t.size ≤ 1000000) (hc : n ≤ c) (hr : ERow w p n E) :
    Calls Try.prog 25 #[.agg #[.string S0, .slice p n c, .int .i64 0, .int .i64 (x.v : Int)], .agg #[.int .i64 a, .int .i64 d, .string t]] w fun e w' => DoRes K S0 p n x' 0 w e w' := by
  obtain ⟨hx0, hx1, hx2, bW, hsz⟩ := three w (stc S0 p n c 0 x.v) (edc a d t) (stc { data := #[] } none 0 0 0 0)
  obtain ⟨W, hW⟩ : ∃ W, W = ((w.alloc (stc S0 p n c 0 x.v)).alloc (edc a d t)).alloc (stc { data := #[] } none 0 0 0 0) := ⟨_, rfl⟩
  rw [← hW] at hx0 hx1 hx2 bW hsz
  simp only [stc, edc] at hx0 hx1 hx2 hW
  have Kp := hid (show ∀ W', Below W.heap.size W W' → (W'.cell? ⟨w.heap.size, 0, none⟩ = some (.string S0) ∧ W'.cell? ⟨w.heap.size, 1, none⟩ = some (.slice p n c) ∧ W'.cell? ⟨w.heap.size, 2, none⟩ = some (.int .i64 0) ∧ W'.cell? ⟨w.heap.size, 3, none⟩ = some (.int .i64 (x.v : Int))) ∧
      W'.cell? ⟨w.heap.size + 1, 0, none⟩ = some (.int .i64 a) ∧ W'.cell? ⟨w.heap.size + 1, 1, none⟩ = some (.int .i64 d) ∧ W'.cell? ⟨w.heap.size + 1, 2, none⟩ = some (.string t) from fun W' hb' => 
    ⟨cells4 ((hb'.block _ (heap_lt hx0)).trans hx0), cells3 ((hb'.block _ (heap_lt hx1)).trans hx1)⟩)
  have X0 := hid hx0
  have X1 := hid hx1
  have X2 := hid hx2
  have TX := hid (show ∀ W', Below W.heap.size W W' → Calls Try.prog 16 #[.agg #[.string S0, .slice p n c, .int .i64 0, .int .i64 (x.v : Int)]] W' fun e w' => e = .returned (.string x.s) ∧ Below W'.heap.size W' w' from fun W' hb' =>
    rtext_any S0 _ n c E 0 _ K x.s x.U x.R W' h hK (by omega) ((hr.below bW).below hb'))
  have AP := hid (show ∀ W', Calls Try.prog 18 #[.string x.s, .agg #[.int .i64 a, .int .i64 d, .string t]] W' fun e w' => e = .returned (.tuple #[.string (ap x.s (a, d, t)), .int .i64 0]) ∧ Below W'.heap.size W' w' from fun W' => by
    refine (rapply_any x.s t a d W' (Nat.le_trans h.chU.size hK) ht).mono ?_
    rintro e w' ⟨rfl, hb'⟩
    exact ⟨by rw [apv_yes hf], hb'⟩)
  have RW := hid hr
  have hz' : ((ap x.s (a, d, t)).size : Int) ≤ 4000 := by omega
  obtain ⟨i0, hi, hz0, hz1, hz2⟩ := info_parts Try.info31
  have HTX := hid (show Ta K S0 (E.take 0 ++ [(a, d, t)]) 1 x' by rw [hxx]; exact Tale.do h hf (by omega))
  have HV := hid (show (x'.v : Int) = (x.v : Int) + 1 by rw [hxx]; rfl)
  have hap : ∀ (W : World) (g : Nat) (q : Option Addr) (c' : Nat) (ty : TypeId), (Builtin.append_ #[27, 27] ty #[.slice (some ⟨g, 0, none⟩) 0 0, .slice q 0 c']).run Try.prog W = .ok (.slice (some ⟨g, 0, none⟩) 0 0) W := fun W g q c' ty => by
    refine run_append_nothing W 27 27 ty 31 i0 Try.underlying27 hi (some ⟨g, 0, none⟩) 0 0 (by omega) _ ?_
    cases q with
    | none => exact Src.ofNil W Try.underlying27 c'
    | some q => exact Src.ofSlice W Try.underlying27 q 0 c' [] (by simp) (by simp) (by simp)
  have HB := hid bW
  have HSZ := hid hsz
  have HW := hid hW
  have HT := hid h
  have HR := hid (hr.below bW)
  have HX := hid (And.intro hK ht)
  have hv9' : (x.v : Int) ≤ 900000 := by omega
  clear h hr hx0 hx1 hx2 bW hW hsz hf hz hxx
  go_enter Try.func25, Try.ntmps25
  go_wp2_with fail
  rw [← HW.out]
  refine wp_region_below (by kernel_rfl) (by kernel_rfl) ?_
  intro X f _ hfx hsf
  have k0 := fun x => (Kp.out _ (hfx.out x)).1.1
  have k1 := fun x => (Kp.out _ (hfx.out x)).1.2.1
  have k2 := fun x => (Kp.out _ (hfx.out x)).1.2.2.1
  have k3 := fun x => (Kp.out _ (hfx.out x)).1.2.2.2
  have e0 := fun x => (Kp.out _ (hfx.out x)).2.1
  have e1 := fun x => (Kp.out _ (hfx.out x)).2.2.1
  have e2 := fun x => (Kp.out _ (hfx.out x)).2.2.2
  repeat (go_big_quiet_step (first | (go_at_call 16; exact calls_below hfx hsf (TX.out _ (hfx.out _))) | (go_at_call 18; exact calls_below hfx hsf (AP.out _))))
  refine wpQuiet_nil ?_
  intro w5 hb5
  clear k0 k1 k2 k3 e0 e1 e2 hfx hsf
  go_wp2_with fail
  go_cut [7] from 23 to 34 (fun s7 wx => ∃ (g cap : Nat), s7 = .int .i64 0 ∧ wx.heap[w.heap.size]? = some (.cells #[.string S0, .slice (some ⟨g, 0, none⟩) 1 cap, .int .i64 0, .int .i64 (x.v : Int)] 29 (0, 0)) ∧ ERow wx (some ⟨g, 0, none⟩) 1 [(a, d, t)] ∧ 1 ≤ cap ∧ wx.heap[w.heap.size + 1 + 1]? = some (.cells #[.string { data := #[] }, .slice none 0 0, .int .i64 0, .int .i64 0] 29 (0, 0)) ∧ W.heap.size ≤ g ∧ Below w.heap.size w wx)
  case first =>
    have hb0 : Below W.heap.size W w5.drew := hb5.drew
    obtain ⟨u0, hu0⟩ : ∃ u, u = w5.drew := ⟨_, rfl⟩
    have KS := hid (show ∀ W', Below W.heap.size W W' → W'.cell? ⟨w.heap.size, 2, none⟩ = some (.int .i64 0) ∧ W'.cell? ⟨w.heap.size + 1, 0, none⟩ = some (.int .i64 a) ∧ W'.cell? ⟨w.heap.size + 1, 1, none⟩ = some (.int .i64 d) ∧ W'.cell? ⟨w.heap.size + 1, 2, none⟩ = some (.string t) from fun W' h => ⟨(Kp.out _ h).1.2.2.1, (Kp.out _ h).2⟩)
    have KT := hid (show ∀ W', Below W.heap.size W W' → W'.cell? ⟨w.heap.size, 1, none⟩ = some (.slice p n c) from fun W' h => (Kp.out _ h).1.2.1)
    refine region_till 11 (fun w' => w'.cell? ⟨w.heap.size, 2, none⟩ = some (.int .i64 0) ∧ w'.cell? ⟨w.heap.size + 1, 0, none⟩ = some (.int .i64 a) ∧ w'.cell? ⟨w.heap.size + 1, 1, none⟩ = some (.int .i64 d) ∧ w'.cell? ⟨w.heap.size + 1, 2, none⟩ = some (.string t)) (fun w' => w'.cell? ⟨w.heap.size, 1, none⟩ = some (.slice p n c)) (by kernel_rfl) ?_
    rw [← hu0] at hb0 ⊢
    clear hu0 hb5
    have hS := KS.out _ hb0
    have hT := KT.out _ hb0
    refine takeS (i := 1) (d := 24) (oi := _) (v := ?v1) rfl rfl (by kernel_rfl) (by kernel_rfl) (by kernel_rfl) (by kernel_rfl) (fun _ _ _ h => h) (Or.inl ⟨by rfl, ?y1⟩) hS (fun _ => hT) ?r1
    case y1 => (intro w' hSw; (try dsimp only at hSw); go_simp; first | done | with_reducible rfl)
    (try simp only [List.setIfInBounds_toArray, List.set_cons_zero, List.set_cons_succ])
    refine takeT (i := 2) (d := 25) (oi := _) (v := ?v2) rfl rfl (by kernel_rfl) (by kernel_rfl) (by kernel_rfl) (by kernel_rfl) (by kernel_rfl) (by kernel_rfl) (fun _ _ _ h => h) (Or.inl ⟨by rfl, ?y2⟩) hS hT ?r2
    case y2 => (intro w' hSw; (try dsimp only at hSw); go_simp; first | done | with_reducible rfl)
    (try simp only [List.setIfInBounds_toArray, List.set_cons_zero, List.set_cons_succ])
    refine takeS (i := 3) (d := 26) (oi := _) (v := ?v3) rfl rfl (by kernel_rfl) (by kernel_rfl) (by kernel_rfl) (by kernel_rfl) (fun _ _ _ h => h) (Or.inl ⟨by rfl, ?y3⟩) hS (fun _ => hT) ?r3
    case y3 => (intro w' hSw; (try dsimp only at hSw); go_simp; first | done | with_reducible rfl)
    (try simp only [List.setIfInBounds_toArray, List.set_cons_zero, List.set_cons_succ])
    refine takeS (i := 4) (d := 27) (oi := _) (v := ?v4) rfl rfl (by kernel_rfl) (by kernel_rfl) (by kernel_rfl) (by kernel_rfl) (fun _ _ _ h => h) (Or.inl ⟨by rfl, ?y4⟩) hS (fun _ => hT) ?r4
    case y4 => (intro w' hSw; (try dsimp only at hSw); go_simp; first | done | with_reducible rfl)
    (try simp only [List.setIfInBounds_toArray, List.set_cons_zero, List.set_cons_succ])
    refine takeS (i := 5) (d := 28) (oi := _) (v := ?v5) rfl rfl (by kernel_rfl) (by kernel_rfl) (by kernel_rfl) (by kernel_rfl) (fun _ _ _ h => h) (Or.inl ⟨by rfl, ?y5⟩) hS (fun _ => hT) ?r5
    case y5 => (intro w' hSw; (try dsimp only at hSw); go_simp; first | done | with_reducible rfl)
    (try simp only [List.setIfInBounds_toArray, List.set_cons_zero, List.set_cons_succ])
    refine takeS (i := 7) (d := 30) (oi := _) (v := ?v7) rfl rfl (by kernel_rfl) (by kernel_rfl) (by kernel_rfl) (by kernel_rfl) (fun _ _ _ h => h) (Or.inl ⟨by rfl, ?y7⟩) hS (fun _ => hT) ?r7
    case y7 => (intro w' hSw; (try dsimp only at hSw); go_simp; first | done | with_reducible rfl)
    (try simp only [List.setIfInBounds_toArray, List.set_cons_zero, List.set_cons_succ])
    refine pickT (i := 0) (j := 8) (oi := _) (oj := _) rfl rfl (by kernel_rfl) (fun K hK => ?_) (fun K hK => ?_)
    · -- 0
      go_simp
      have hb1 : Below W.heap.size W (u0.alloc (.cells #[] 31)) := hb0.alloc hb0.size _
      have z0 : (u0.alloc (.cells #[] 31)).heap[u0.heap.size]? = some (.cells #[] 31) := alloc_new _ _
      obtain ⟨b0, hbe0⟩ : ∃ b, b = u0.heap.size := ⟨_, rfl⟩
      have hl0 : W.heap.size ≤ b0 := by rw [hbe0]; exact hb0.size
      obtain ⟨u1, hu1⟩ : ∃ u, u = u0.alloc (.cells #[] 31) := ⟨_, rfl⟩
      rw [← hu1] at hb1 z0 ⊢
      rw [← hbe0] at z0 ⊢
      clear hu1 hbe0
      clear hS hT
      have hS := KS.out _ hb1
      have hT := KT.out _ hb1
      refine hK.out _ _ ⟨hS, fun _ => hT⟩ ?_
      clear hK K
      (try simp only [Act.put, List.setIfInBounds_toArray, List.set_cons_zero, List.set_cons_succ])
      refine pickT (i := 6) (j := 8) (oi := _) (oj := _) rfl rfl (by kernel_rfl) (fun K hK => ?_) (fun K hK => ?_)
      · -- 6
        refine step_append_none (by rfl) (.tmp 23) (.tmp 28) 27 (by rfl) (.slice (some ⟨b0, 0, none⟩) 0 0) (.slice p 0 c) (by rfl) (by rfl) (hap _ _ _ _ _) ?_
        have own6 := own_nil_row z0
        clear hS hT
        have hS := KS.out _ hb1
        have hT := KT.out _ hb1
        refine hK.out _ _ ⟨hS, fun _ => hT⟩ ?_
        clear hK K
        (try simp only [Act.put, List.setIfInBounds_toArray, List.set_cons_zero, List.set_cons_succ])
        obtain ⟨g6, hg6⟩ : ∃ g, g = b0 := ⟨_, rfl⟩
        have hl6 : W.heap.size ≤ g6 := by rw [hg6]; exact hl0
        rw [← hg6] at own6 ⊢
        clear hg6
        -- 8
        refine carryT (i := 8) (oi := _) rfl (by kernel_rfl) (fun K hK => ?_)
        go_simp
        have hb3 : Below W.heap.size W (u1.alloc (.cells #[.int .i64 a, .int .i64 d, .string t] 31)) := hb1.alloc hb1.size _
        have z8 : (u1.alloc (.cells #[.int .i64 a, .int .i64 d, .string t] 31)).heap[u1.heap.size]? = some (.cells #[.int .i64 a, .int .i64 d, .string t] 31) := alloc_new _ _
        obtain ⟨b8, hbe8⟩ : ∃ b, b = u1.heap.size := ⟨_, rfl⟩
        have hl8 : W.heap.size ≤ b8 := by rw [hbe8]; exact hb1.size
        have own6 := own_alloc own6 (.cells #[.int .i64 a, .int .i64 d, .string t] 31)
        obtain ⟨u3, hu3⟩ : ∃ u, u = u1.alloc (.cells #[.int .i64 a, .int .i64 d, .string t] 31) := ⟨_, rfl⟩
        rw [← hu3] at hb3 z8 own6 ⊢
        rw [← hbe8] at z8 ⊢
        clear hu3 hbe8
        clear hS hT
        have hS := KS.out _ hb3
        have hT := KT.out _ hb3
        refine hK.out _ _ ⟨hS, fun _ => hT⟩ ?_
        clear hK K
        (try simp only [Act.put, List.setIfInBounds_toArray, List.set_cons_zero, List.set_cons_succ])
        -- 9
        refine carryT (i := 9) (oi := _) rfl (by kernel_rfl) (fun K hK => ?_)
        refine step_append_lies _ (by rfl) (.tmp 29) (.tmp 31) 27 (by rfl) 0 31 i0 _ 3 32 Try.underlying27 hi hz0 hz1 hz2 (by rfl) (by decide) (.slice (some ⟨g6, 0, none⟩) 0 0) 0 [] (by rfl) own6 ⟨b8, 0, none⟩ 1 1 [.int .i64 a, .int .i64 d, .string t] (by rfl) (by rfl) (World.news_of_block z8) (by intro u hu; simp at hu; rcases hu with rfl | rfl | rfl <;> rfl) (by decide) (by unfold maxLen; omega) (by omega) (Nat.zero_le _) _ rfl ?_
        intro g9 cap9 u9 own9 grow9 at9 lt9
        have hb9 : Below W.heap.size W u9 := below_grown hb3 grow9 hb3.size (by intro k' hk'; simp only [Value.ownBlock, Option.some.injEq] at hk'; omega)
        have hl9 : W.heap.size ≤ g9 := by
          rcases at9 with h6 | h6
          · simp only [Value.ownBlock, Option.some.injEq] at h6; omega
          · rw [h6]; exact hb3.size
        clear grow9 at9 lt9
        clear hS hT
        have hS := KS.out _ hb9
        have hT := KT.out _ hb9
        refine hK.out _ _ ⟨hS, fun _ => hT⟩ ?_
        clear hK K
        (try simp only [Act.put, List.setIfInBounds_toArray, List.set_cons_zero, List.set_cons_succ])
        refine takeS (i := 10) (d := 33) (oi := _) (v := ?v10p068) rfl rfl (by kernel_rfl) (by kernel_rfl) (by kernel_rfl) (by kernel_rfl) (fun _ _ _ h => h) (Or.inl ⟨by rfl, ?y10p068⟩) hS (fun _ => hT) ?r10p068
        case y10p068 => (intro w' hSw; (try dsimp only at hSw); go_simp; first | done | with_reducible rfl)
        (try simp only [List.setIfInBounds_toArray, List.set_cons_zero, List.set_cons_succ])
        -- 11
        have Y0 := (hb9.block _ (heap_lt X0.out)).trans X0.out
        obtain ⟨c0, c1, c2, c3⟩ := cells4 Y0
        obtain ⟨f0, f1, f2, f3⟩ := frozen4 Y0
        refine carryT (i := 11) (oi := _) rfl (by kernel_rfl) (fun K hK => ?_)
        go_simp
        refine hK.out _ _ ⟨⟨(World.cell?_setCell_other _ _ _ _ (by simp)).trans hS.1, (World.cell?_setCell_other _ _ _ _ (by simp)).trans hS.2.1, (World.cell?_setCell_other _ _ _ _ (by simp)).trans hS.2.2.1, (World.cell?_setCell_other _ _ _ _ (by simp)).trans hS.2.2.2⟩, fun h => by simp at h⟩ ?_
        clear hK K hS hT c0 c1 c2 c3 f0 f1 f2 f3
        (try simp only [Act.put, List.setIfInBounds_toArray, List.set_cons_zero, List.set_cons_succ])
        refine wpAnyT_done (by kernel_rfl) ?_ _
        go_wp2_with fail
        go_meet
        obtain ⟨hro, hcp⟩ := own_snoc0 own9
        exact ⟨g9, cap9, rfl, blk_put Y0, ERow.set hro (fun q hq => by simp only [Option.some.injEq] at hq; rw [← hq]; show g9 ≠ w.heap.size; have := HSZ.out; omega), hcp, (blk_set (a := ⟨w.heap.size, 1, none⟩) ((hb9.block _ (heap_lt X2.out)).trans X2.out) (by show w.heap.size + 1 + 1 ≠ w.heap.size; omega)), hl9, (HB.out.trans (hb9.mono HB.out.size)).setCell (by exact Nat.le_refl _) _⟩
      · -- 8
        go_simp
        have hb2 : Below W.heap.size W (u1.alloc (.cells #[.int .i64 a, .int .i64 d, .string t] 31)) := hb1.alloc hb1.size _
        have z8 : (u1.alloc (.cells #[.int .i64 a, .int .i64 d, .string t] 31)).heap[u1.heap.size]? = some (.cells #[.int .i64 a, .int .i64 d, .string t] 31) := alloc_new _ _
        obtain ⟨b8, hbe8⟩ : ∃ b, b = u1.heap.size := ⟨_, rfl⟩
        have hl8 : W.heap.size ≤ b8 := by rw [hbe8]; exact hb1.size
        have z0 := blk_alloc (o' := (.cells #[.int .i64 a, .int .i64 d, .string t] 31)) z0
        obtain ⟨u2, hu2⟩ : ∃ u, u = u1.alloc (.cells #[.int .i64 a, .int .i64 d, .string t] 31) := ⟨_, rfl⟩
        rw [← hu2] at hb2 z0 z8 ⊢
        rw [← hbe8] at z8 ⊢
        clear hu2 hbe8
        clear hS hT
        have hS := KS.out _ hb2
        have hT := KT.out _ hb2
        refine hK.out _ _ ⟨hS, fun _ => hT⟩ ?_
        clear hK K
        (try simp only [Act.put, List.setIfInBounds_toArray, List.set_cons_zero, List.set_cons_succ])
        have hne80 : ¬ b8 = b0 := by
          intro h
          rw [h] at z8
          rw [z0] at z8
          simp at z8
        -- 6
        refine carryT (i := 6) (oi := _) rfl (by kernel_rfl) (fun K hK => ?_)
        refine step_append_none (by rfl) (.tmp 23) (.tmp 28) 27 (by rfl) (.slice (some ⟨b0, 0, none⟩) 0 0) (.slice p 0 c) (by rfl) (by rfl) (hap _ _ _ _ _) ?_
        have own6 := own_nil_row z0
        clear hS hT
        have hS := KS.out _ hb2
        have hT := KT.out _ hb2
        refine hK.out _ _ ⟨hS, fun _ => hT⟩ ?_
        clear hK K
        (try simp only [Act.put, List.setIfInBounds_toArray, List.set_cons_zero, List.set_cons_succ])
        obtain ⟨g6, hg6⟩ : ∃ g, g = b0 := ⟨_, rfl⟩
        have hl6 : W.heap.size ≤ g6 := by rw [hg6]; exact hl0
        rw [← hg6] at own6 ⊢
        clear hg6
        -- 9
        refine carryT (i := 9) (oi := _) rfl (by kernel_rfl) (fun K hK => ?_)
        refine step_append_lies _ (by rfl) (.tmp 29) (.tmp 31) 27 (by rfl) 0 31 i0 _ 3 32 Try.underlying27 hi hz0 hz1 hz2 (by rfl) (by decide) (.slice (some ⟨g6, 0, none⟩) 0 0) 0 [] (by rfl) own6 ⟨b8, 0, none⟩ 1 1 [.int .i64 a, .int .i64 d, .string t] (by rfl) (by rfl) (World.news_of_block z8) (by intro u hu; simp at hu; rcases hu with rfl | rfl | rfl <;> rfl) (by decide) (by unfold maxLen; omega) (by omega) (Nat.zero_le _) _ rfl ?_
        intro g9 cap9 u9 own9 grow9 at9 lt9
        have hb9 : Below W.heap.size W u9 := below_grown hb2 grow9 hb2.size (by intro k' hk'; simp only [Value.ownBlock, Option.some.injEq] at hk'; omega)
        have hl9 : W.heap.size ≤ g9 := by
          rcases at9 with h6 | h6
          · simp only [Value.ownBlock, Option.some.injEq] at h6; omega
          · rw [h6]; exact hb2.size
        clear grow9 at9 lt9
        clear hS hT
        have hS := KS.out _ hb9
        have hT := KT.out _ hb9
        refine hK.out _ _ ⟨hS, fun _ => hT⟩ ?_
        clear hK K
        (try simp only [Act.put, List.setIfInBounds_toArray, List.set_cons_zero, List.set_cons_succ])
        refine takeS (i := 10) (d := 33) (oi := _) (v := ?v10p086) rfl rfl (by kernel_rfl) (by kernel_rfl) (by kernel_rfl) (by kernel_rfl) (fun _ _ _ h => h) (Or.inl ⟨by rfl, ?y10p086⟩) hS (fun _ => hT) ?r10p086
        case y10p086 => (intro w' hSw; (try dsimp only at hSw); go_simp; first | done | with_reducible rfl)
        (try simp only [List.setIfInBounds_toArray, List.set_cons_zero, List.set_cons_succ])
        -- 11
        have Y0 := (hb9.block _ (heap_lt X0.out)).trans X0.out
        obtain ⟨c0, c1, c2, c3⟩ := cells4 Y0
        obtain ⟨f0, f1, f2, f3⟩ := frozen4 Y0
        refine carryT (i := 11) (oi := _) rfl (by kernel_rfl) (fun K hK => ?_)
        go_simp
        refine hK.out _ _ ⟨⟨(World.cell?_setCell_other _ _ _ _ (by simp)).trans hS.1, (World.cell?_setCell_other _ _ _ _ (by simp)).trans hS.2.1, (World.cell?_setCell_other _ _ _ _ (by simp)).trans hS.2.2.1, (World.cell?_setCell_other _ _ _ _ (by simp)).trans hS.2.2.2⟩, fun h => by simp at h⟩ ?_
        clear hK K hS hT c0 c1 c2 c3 f0 f1 f2 f3
        (try simp only [Act.put, List.setIfInBounds_toArray, List.set_cons_zero, List.set_cons_succ])
        refine wpAnyT_done (by kernel_rfl) ?_ _
        go_wp2_with fail
        go_meet
        obtain ⟨hro, hcp⟩ := own_snoc0 own9
        exact ⟨g9, cap9, rfl, blk_put Y0, ERow.set hro (fun q hq => by simp only [Option.some.injEq] at hq; rw [← hq]; show g9 ≠ w.heap.size; have := HSZ.out; omega), hcp, (blk_set (a := ⟨w.heap.size, 1, none⟩) ((hb9.block _ (heap_lt X2.out)).trans X2.out) (by show w.heap.size + 1 + 1 ≠ w.heap.size; omega)), hl9, (HB.out.trans (hb9.mono HB.out.size)).setCell (by exact Nat.le_refl _) _⟩
    · -- 8
      go_simp
      have hb1 : Below W.heap.size W (u0.alloc (.cells #[.int .i64 a, .int .i64 d, .string t] 31)) := hb0.alloc hb0.size _
      have z8 : (u0.alloc (.cells #[.int .i64 a, .int .i64 d, .string t] 31)).heap[u0.heap.size]? = some (.cells #[.int .i64 a, .int .i64 d, .string t] 31) := alloc_new _ _
      obtain ⟨b8, hbe8⟩ : ∃ b, b = u0.heap.size := ⟨_, rfl⟩
      have hl8 : W.heap.size ≤ b8 := by rw [hbe8]; exact hb0.size
      obtain ⟨u1, hu1⟩ : ∃ u, u = u0.alloc (.cells #[.int .i64 a, .int .i64 d, .string t] 31) := ⟨_, rfl⟩
      rw [← hu1] at hb1 z8 ⊢
      rw [← hbe8] at z8 ⊢
      clear hu1 hbe8
      clear hS hT
      have hS := KS.out _ hb1
      have hT := KT.out _ hb1
      refine hK.out _ _ ⟨hS, fun _ => hT⟩ ?_
      clear hK K
      (try simp only [Act.put, List.setIfInBounds_toArray, List.set_cons_zero, List.set_cons_succ])
      -- 0
      refine carryT (i := 0) (oi := _) rfl (by kernel_rfl) (fun K hK => ?_)
      go_simp
      have hb2 : Below W.heap.size W (u1.alloc (.cells #[] 31)) := hb1.alloc hb1.size _
      have z0 : (u1.alloc (.cells #[] 31)).heap[u1.heap.size]? = some (.cells #[] 31) := alloc_new _ _
      obtain ⟨b0, hbe0⟩ : ∃ b, b = u1.heap.size := ⟨_, rfl⟩
      have hl0 : W.heap.size ≤ b0 := by rw [hbe0]; exact hb1.size
      have z8 := blk_alloc (o' := (.cells #[] 31)) z8
      obtain ⟨u2, hu2⟩ : ∃ u, u = u1.alloc (.cells #[] 31) := ⟨_, rfl⟩
      rw [← hu2] at hb2 z8 z0 ⊢
      rw [← hbe0] at z0 ⊢
      clear hu2 hbe0
      clear hS hT
      have hS := KS.out _ hb2
      have hT := KT.out _ hb2
      refine hK.out _ _ ⟨hS, fun _ => hT⟩ ?_
      clear hK K
      (try simp only [Act.put, List.setIfInBounds_toArray, List.set_cons_zero, List.set_cons_succ])
      have hne80 : ¬ b8 = b0 := by
        intro h
        rw [h] at z8
        rw [z0] at z8
        simp at z8
      -- 6
      refine carryT (i := 6) (oi := _) rfl (by kernel_rfl) (fun K hK => ?_)
      refine step_append_none (by rfl) (.tmp 23) (.tmp 28) 27 (by rfl) (.slice (some ⟨b0, 0, none⟩) 0 0) (.slice p 0 c) (by rfl) (by rfl) (hap _ _ _ _ _) ?_
      have own6 := own_nil_row z0
      clear hS hT
      have hS := KS.out _ hb2
      have hT := KT.out _ hb2
      refine hK.out _ _ ⟨hS, fun _ => hT⟩ ?_
      clear hK K
      (try simp only [Act.put, List.setIfInBounds_toArray, List.set_cons_zero, List.set_cons_succ])
      obtain ⟨g6, hg6⟩ : ∃ g, g = b0 := ⟨_, rfl⟩
      have hl6 : W.heap.size ≤ g6 := by rw [hg6]; exact hl0
      rw [← hg6] at own6 ⊢
      clear hg6
      -- 9
      refine carryT (i := 9) (oi := _) rfl (by kernel_rfl) (fun K hK => ?_)
      refine step_append_lies _ (by rfl) (.tmp 29) (.tmp 31) 27 (by rfl) 0 31 i0 _ 3 32 Try.underlying27 hi hz0 hz1 hz2 (by rfl) (by decide) (.slice (some ⟨g6, 0, none⟩) 0 0) 0 [] (by rfl) own6 ⟨b8, 0, none⟩ 1 1 [.int .i64 a, .int .i64 d, .string t] (by rfl) (by rfl) (World.news_of_block z8) (by intro u hu; simp at hu; rcases hu with rfl | rfl | rfl <;> rfl) (by decide) (by unfold maxLen; omega) (by omega) (Nat.zero_le _) _ rfl ?_
      intro g9 cap9 u9 own9 grow9 at9 lt9
      have hb9 : Below W.heap.size W u9 := below_grown hb2 grow9 hb2.size (by intro k' hk'; simp only [Value.ownBlock, Option.some.injEq] at hk'; omega)
      have hl9 : W.heap.size ≤ g9 := by
        rcases at9 with h6 | h6
        · simp only [Value.ownBlock, Option.some.injEq] at h6; omega
        · rw [h6]; exact hb2.size
      clear grow9 at9 lt9
      clear hS hT
      have hS := KS.out _ hb9
      have hT := KT.out _ hb9
      refine hK.out _ _ ⟨hS, fun _ => hT⟩ ?_
      clear hK K
      (try simp only [Act.put, List.setIfInBounds_toArray, List.set_cons_zero, List.set_cons_succ])
      refine takeS (i := 10) (d := 33) (oi := _) (v := ?v10p806) rfl rfl (by kernel_rfl) (by kernel_rfl) (by kernel_rfl) (by kernel_rfl) (fun _ _ _ h => h) (Or.inl ⟨by rfl, ?y10p806⟩) hS (fun _ => hT) ?r10p806
      case y10p806 => (intro w' hSw; (try dsimp only at hSw); go_simp; first | done | with_reducible rfl)
      (try simp only [List.setIfInBounds_toArray, List.set_cons_zero, List.set_cons_succ])
      -- 11
      have Y0 := (hb9.block _ (heap_lt X0.out)).trans X0.out
      obtain ⟨c0, c1, c2, c3⟩ := cells4 Y0
      obtain ⟨f0, f1, f2, f3⟩ := frozen4 Y0
      refine carryT (i := 11) (oi := _) rfl (by kernel_rfl) (fun K hK => ?_)
      go_simp
      refine hK.out _ _ ⟨⟨(World.cell?_setCell_other _ _ _ _ (by simp)).trans hS.1, (World.cell?_setCell_other _ _ _ _ (by simp)).trans hS.2.1, (World.cell?_setCell_other _ _ _ _ (by simp)).trans hS.2.2.1, (World.cell?_setCell_other _ _ _ _ (by simp)).trans hS.2.2.2⟩, fun h => by simp at h⟩ ?_
      clear hK K hS hT c0 c1 c2 c3 f0 f1 f2 f3
      (try simp only [Act.put, List.setIfInBounds_toArray, List.set_cons_zero, List.set_cons_succ])
      refine wpAnyT_done (by kernel_rfl) ?_ _
      go_wp2_with fail
      go_meet
      obtain ⟨hro, hcp⟩ := own_snoc0 own9
      exact ⟨g9, cap9, rfl, blk_put Y0, ERow.set hro (fun q hq => by simp only [Option.some.injEq] at hq; rw [← hq]; show g9 ≠ w.heap.size; have := HSZ.out; omega), hcp, (blk_set (a := ⟨w.heap.size, 1, none⟩) ((hb9.block _ (heap_lt X2.out)).trans X2.out) (by show w.heap.size + 1 + 1 ≠ w.heap.size; omega)), hl9, (HB.out.trans (hb9.mono HB.out.size)).setCell (by exact Nat.le_refl _) _⟩
  case rest =>
    obtain ⟨g, cap, rfl, hX, hE, hcap, hZ, hgl, hbx⟩ := hcut
    obtain ⟨k0, k1, k2, k3⟩ := cells4 hX
    obtain ⟨q0, q1, q2, q3⟩ := frozen4 hX
    obtain ⟨z0, z1, z2, z3⟩ := cells4 hZ
    obtain ⟨f0, f1, f2, f3⟩ := frozen4 hZ
    have hl0 := heap_lt hX
    have hl2 := heap_lt hZ
    have HE := hid hE
    have HBX := hid hbx
    have HG := hid hgl
    clear hX hE hZ hbx hgl
    go_wp2
    have hw : Below w.heap.size w ((((((wc.setCell ⟨w.heap.size, 2, none⟩ (.int .i64 1)).setCell ⟨w.heap.size, 3, none⟩ (.int .i64 ((x.v : Int) + 1))).setCell ⟨w.heap.size + 1 + 1, 0, none⟩ (.string S0)).setCell ⟨w.heap.size + 1 + 1, 1, none⟩ (.slice (some ⟨g, 0, none⟩) 1 cap)).setCell ⟨w.heap.size + 1 + 1, 2, none⟩ (.int .i64 1)).setCell ⟨w.heap.size + 1 + 1, 3, none⟩ (.int .i64 ((x.v : Int) + 1))) := by
      repeat (refine Below.setCell ?_ (by first | exact Nat.le_refl _ | (simp; done) | (simp; omega)) _)
      exact HBX.out
    have hgw : W.heap.size ≤ g := HG.out
    have hE : ERow ((((((wc.setCell ⟨w.heap.size, 2, none⟩ (.int .i64 1)).setCell ⟨w.heap.size, 3, none⟩ (.int .i64 ((x.v : Int) + 1))).setCell ⟨w.heap.size + 1 + 1, 0, none⟩ (.string S0)).setCell ⟨w.heap.size + 1 + 1, 1, none⟩ (.slice (some ⟨g, 0, none⟩) 1 cap)).setCell ⟨w.heap.size + 1 + 1, 2, none⟩ (.int .i64 1)).setCell ⟨w.heap.size + 1 + 1, 3, none⟩ (.int .i64 ((x.v : Int) + 1))) (some ⟨g, 0, none⟩) 1 [(a, d, t)] := by
      repeat (refine ERow.set ?_ (fun q hq => by simp only [Option.some.injEq] at hq; rw [← hq]; have := HSZ.out; first | (show g ≠ w.heap.size; omega) | (show g ≠ w.heap.size + 1 + 1; omega)))
      exact HE.out
    refine bodyPost_ret (v := .tuple #[.agg #[.string S0, .slice (some ⟨g, 0, none⟩) 1 cap, .int .i64 1, .int .i64 ((x.v : Int) + 1)], .int .i64 0]) ?_ rfl ⟨some ⟨g, 0, none⟩, 1, cap, 1, _, ?_, hE, hcap, HTX.out, .inr (fun q hq => by simp only [Option.some.injEq] at hq; rw [← hq]; have := HB.out.size; show w.heap.size ≤ g; omega), hw⟩
    · simp [results, Try.results25, go_sem, z0, z1, z2, z3]
    · rw [HV.out]; rfl
end Go.Proofs.Ytfhdbenomkbfjaa
