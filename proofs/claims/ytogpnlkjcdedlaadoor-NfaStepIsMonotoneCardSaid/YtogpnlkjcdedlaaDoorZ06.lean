/-
  The machine: contracts: close, closure, step.
  Contracts: cmp.Compare, the order of arcs, IsSortedFunc.
  Contract: arcsByFrom.
-/
import Derived.Test.YtogpnlkjcdedlaaDoorZ05
import Derived.BigRegion
section
set_option linter.unusedSimpArgs false
set_option linter.unusedVariables false
namespace Go.Proofs.YtogpnlkjcdedlaaDoor
open Go.RowKit Bs Rg Nf Go.Frame
attribute [local go_sem] eq_zero eq_set

theorem nodup_len {α : Type} [DecidableEq α] : ∀ {l m : List α}, l.Nodup → (∀ x ∈ l, x ∈ m) → l.length ≤ m.length
  | [], m, _, _ => Nat.zero_le _
  | x :: l, m, h, hm => by
    rw [List.nodup_cons] at h
    have hx := hm x (by simp)
    have := nodup_len (m := m.erase x) h.2 fun y hy => by
      refine (List.mem_erase_of_ne ?_).2 (hm y (by simp [hy]))
      rintro rfl
      exact h.1 hy
    rw [List.length_erase_of_mem hx] at this
    have := List.length_pos_of_mem hx
    simp; omega
theorem nodup_le {l : List Nat} {n : Nat} (h : l.Nodup) (hl : ∀ x ∈ l, x < n) : l.length ≤ n := by
  have := nodup_len h (m := List.range n) fun x hx => List.mem_range.2 (hl x hx)
  simpa using this
/-- Whether a state is in a list. -/
def inl (F : List Nat) (x : Nat) : Bool := decide (x ∈ F)
/-- close's loops: the list, the set, what is known of them. -/
structure CL (W wr : World) (b0 n : Nat) (N : Nfa) (p : Nat → Bool) (F : List Nat) (v : Value) : Prop where
  own : wr.ownsRow W.heap.size 3 1 v F.length (ints F)
  mb : MB wr b0 (inl F) (mw n)
  kp : Kept (fun b => b = b0 ∨ W.heap.size ≤ b) W wr
  nd : F.Nodup
  lt : ∀ x ∈ F, x < n
  sub : ∀ x, p x = true → x ∈ F
  rt : ∀ x ∈ F, Rt (Ep N) p x
theorem CL.len {W wr : World} {b0 n : Nat} {N : Nfa} {p : Nat → Bool} {F : List Nat} {v : Value} (h : CL W wr b0 n N p F v) : F.length ≤ n := nodup_le h.nd h.lt
theorem CL.below {W wr w2 : World} {b0 n : Nat} {N : Nfa} {p : Nat → Bool} {F : List Nat} {v : Value} (h : CL W wr b0 n N p F v) (hb : Below wr.heap.size wr w2) : CL W w2 b0 n N p F v :=
  ⟨ownsRow_keep h.own fun k hk => hb.block k (h.own.lt k hk).2, h.mb.below hb, h.kp.trans (Kept.below hb fun b hb' => .inr (Nat.le_trans h.kp.size hb')), h.nd, h.lt, h.sub, h.rt⟩
theorem elx_nodup (m : Nat) (p : Nat → Bool) : (elx m p).Nodup := by
  unfold elx; exact List.Pairwise.filter _ List.nodup_range
theorem inl_elx {m : Nat} {p : Nat → Bool} (hp : ∀ x, p x = true → x < m) : inl (elx m p) = p := by
  funext x
  unfold inl
  rw [Bool.eq_iff_iff, decide_eq_true_eq, mem_elx]
  exact ⟨fun h => h.2, fun h => ⟨hp x h, h⟩⟩
/-- The machine's own set of silent moves is the automaton's: F is closed. -/
theorem CL.closed {W wr : World} {b0 n : Nat} {N : Nfa} {p : Nat → Bool} {F : List Nat} {v : Value} (h : CL W wr b0 n N p F v) (hc : ∀ x ∈ F, ∀ y, Ep N x y → y ∈ F) : inl F = clo (Ep N) p := by
  refine clo_eq (fun x hx => decide_eq_true (h.sub x hx)) (fun x y hx hr => ?_) (fun x hx => h.rt x (of_decide_eq_true hx))
  exact decide_eq_true (hc x (of_decide_eq_true hx) y hr)
set_option maxRecDepth 100000 in
set_option maxHeartbeats 4000000 in
theorem close_any (G : Nat → Prop) (W : World) (mb ab sb K ca cs n : Nat) (N : Nfa) (h : MC G W mb ab sb K ca cs N n) (b0 : Nat) (p : Nat → Bool) (hs : MB W b0 p (mw n)) (hp : ∀ x, p x = true → x < n) (hG : ∀ b, G b → b ≠ b0) (hK : b0 ≠ K) (hT : Tb W) :
    Calls Tryd.prog 58 #[.pointer (some ⟨mb, 0, none⟩), .slice (some ⟨b0, 0, none⟩) (mw n) (mw n)] W fun e w' => e = .returned (.tuple #[]) ∧ MB w' b0 (clo (Ep N) p) (mw n) ∧ Kept (fun b => b = b0 ∨ W.heap.size ≤ b) W w' := by
  obtain ⟨i0, hi, hz0, hz1, hz2⟩ := info_parts Tryd.info3
  have hn : n ≤ 2000 := h.vn.le
  have HM := hid h
  have CL0 := hid (list_any W b0 (mw n) p hs (mw_le hn) hT)
  have H0 := hid (And.intro hs (And.intro hp (And.intro hG hK)))
  clear h hs hp hG hK hT
  go_enter Tryd.func58, Tryd.ntmps58
  go_wp2_with fail
  refine CL0.out.mono ?_
  rintro e w1 ⟨⟨v, rfl, hown⟩, b1⟩
  have hel : elx (64 * mw n) p = elx n p := elx_more (by unfold mw; omega) H0.out.2.1
  rw [hel] at hown
  have HC := hid (show CL W w1 b0 n N p (elx n p) v from ⟨hown, by rw [inl_elx H0.out.2.1]; exact H0.out.1.below b1, Kept.below b1 fun b hb => .inr hb, elx_nodup _ _, fun x hx => (mem_elx.1 hx).1, fun x hx => mem_elx.2 ⟨H0.out.2.1 x hx, hx⟩, fun x hx => .base (mem_elx.1 hx).2⟩)
  clear hown b1 hel CL0
  go_wp2_with fail
  go_loopg [4, 5] n (fun kk s4 s5 wr => ∃ (i : Nat) (F : List Nat), s5 = .int .i64 (i : Int) ∧ CL W wr b0 n N p F s4 ∧ i ≤ F.length ∧ i + kk = n ∧ ∀ j x, j < i → F[j]? = some x → ∀ y, Ep N x y → y ∈ F)
  case atStart => exact ⟨0, _, rfl, HC.out, Nat.zero_le _, by omega, fun j x hj => by omega⟩
  case round =>
    obtain ⟨i, F, rfl, hcl, hiF, hik, hdone⟩ := hrel
    have hFn := hcl.len
    obtain ⟨a, c, rfl⟩ := own_form hcl.own
    by_cases hlt : i < F.length
    · have hlt' : (i : Int) < (F.length : Int) := by omega
      obtain ⟨go, rfl⟩ : ∃ go, go = gk := ⟨_, rfl⟩
      obtain ⟨x, hx⟩ : ∃ x, F[i]? = some x := ⟨F[i], List.getElem?_eq_getElem hlt⟩
      have hxn := hcl.lt x (List.mem_of_getElem? hx)
      have M1 := hid (HM.out.kept hcl.kp (fun b hl hg hF => by rcases hF with e | e; exact H0.out.2.2.1 b hg e; omega) (by rintro (e | e); exact H0.out.2.2.2 e.symm; have := HM.out.gk; omega))
      obtain ⟨a2, k2, c2, l, q1, hrow, hk9, hl, hfar⟩ := HM.out.sil x hxn
      have HCL := hid hcl
      have HD := hid (And.intro hiF (And.intro hik (And.intro hdone (And.intro hx hxn))))
      have hrw : ∀ V, Kept (fun b => b = b0 ∨ W.heap.size ≤ b) W V → Row V a2 k2 (ints l) := fun V hV => Row_kept hrow hV.size fun h0 b off e hb => hV.block b (by
        rintro (e1 | e1)
        · exact H0.out.2.2.1 b (hfar h0 b off e).1 e1
        · omega)
      have q1 : wr.cell? ⟨sb, x, none⟩ = some (.slice a2 k2 c2) := (World.cell?_of_block (hcl.kp.block sb (by
        rintro (e1 | e1)
        · exact H0.out.2.2.1 sb HM.out.gs.1 e1
        · have := HM.out.gs.2.2; omega))).trans q1
      have HL := hid (And.intro hrow (And.intro hl hrw))
      obtain ⟨fl, hfl⟩ : ∃ fl, fl = F.length := ⟨_, rfl⟩
      have HFL := hid hfl
      rw [← hfl] at hlt' ⊢
      have hi0 : (0 : Int) ≤ (i : Int) := by omega
      have hx0 : (0 : Int) ≤ (x : Int) := by omega
      have hxn' : (x : Int) < (n : Int) := by omega
      obtain ⟨g, hg, hgl, hgc⟩ : ∃ g, a = some ⟨g, 0, none⟩ ∧ g < wr.heap.size ∧ wr.cell? ⟨g, i, none⟩ = some (.int .i64 (x : Int)) := by
        have hr := HCL.out.own
        rcases hr.2 with ⟨e, h0⟩ | ⟨g, cap, cur, e, hb, hgg, hn2, _, hc2, ht⟩
        · omega
        · simp only [Value.slice.injEq] at e
          refine ⟨g, e.1, heap_lt hgg, ?_⟩
          have h2 : (ints F)[i]? = some (.int .i64 (x : Int)) := Go.Frame.ints_at hx
          rw [← ht, List.getElem?_take] at h2
          split at h2
          · simp only [World.cell?, hgg]; simpa using h2
          · cases h2
      subst hg
      have HGC := hid (And.intro hgl hgc)
      clear hcl hiF hik hdone hx hxn hrow hl hfar hfl hgl hgc hlt hrw
      go_wp2_with fail
      refine wp_region_below (by kernel_rfl) (by kernel_rfl) ?_
      intro X' f' _ hf hs
      have z1 := fun y => (cells3 (((hf.out y).block _ (heap_lt M1.out.box)).trans M1.out.box)).2.1
      have k0 := fun y => ((hf.out y).cell (p := ⟨g, i, none⟩) HGC.out.1).trans HGC.out.2
      have k1 := fun y => ((hf.out y).cell (p := ⟨sb, x, none⟩) M1.out.gs.2.2).trans q1
      repeat (go_big_quiet_step (first | fail))
      refine wpQuiet_nil ?_
      intro w4 hw4
      have M4 := hid (M1.out.below hw4)
      have C4 := hid (HCL.out.below hw4)
      clear z1 k0 k1 hf hs hw4 q1 M1 HCL HGC
      go_wp2_with fail
      go_loopg [4, 27] k2 (fun k3 s4 s27 wr2 => ∃ (t : Nat) (F' : List Nat), s27 = .int .i64 (t : Int) ∧ t + k3 = k2 ∧ CL W wr2 b0 n N p F' s4 ∧ F <+: F' ∧ ∀ y ∈ l.take t, y ∈ F')
      case atStart => exact ⟨0, F, rfl, by omega, by rw [HFL.out]; exact C4.out, List.prefix_rfl, fun y hy => by simp at hy⟩
      case round =>
        obtain ⟨t, F', rfl, htk, hcl, hpre, htak⟩ := hrel
        obtain ⟨a', c', rfl⟩ := own_form hcl.own
        have HC5 := hid (And.intro hcl (And.intro hpre htak))
        by_cases hlt : t < k2
        · have hlt' : (t : Int) < (k2 : Int) := by omega
          have ht0 : (0 : Int) ≤ (t : Int) := by omega
          have hrow2 := HL.out.2.2 wr hcl.kp
          have hlk : l.length = k2 := by have := HL.out.1.1; simpa [ints] using this
          obtain ⟨y, hy⟩ : ∃ y, l[t]? = some y := ⟨l[t], List.getElem?_eq_getElem (by omega)⟩
          obtain ⟨rb, ro, hra, hrb, hrc⟩ : ∃ rb ro, a2 = some ⟨rb, ro, none⟩ ∧ rb < wr.heap.size ∧ wr.cell? ⟨rb, ro + t, none⟩ = some (.int .i64 (y : Int)) := by
            rcases hrow2.2 with h0 | ⟨rb, ro, e, hb, hc⟩
            · omega
            · exact ⟨rb, ro, e, hb, hc t _ (Go.Frame.ints_at hy)⟩
          subst hra
          have hEp : Ep N x y := (HL.out.2.1 y).1 (List.mem_of_getElem? hy)
          have hyn : y < n := Ep_lt HM.out.vn hEp
          have CH := hid (has_any wr b0 (mw n) y (inl F') hcl.mb (mw_lt hyn) (mw_le hn))
          obtain ⟨z, hz⟩ : ∃ z, z = inl F' y := ⟨_, rfl⟩
          rw [← hz] at CH
          have HZ := hid (And.intro hz (And.intro hy (And.intro hEp hyn)))
          clear hcl hpre htak hlk hy hrb hEp hyn hz hrow2 hlt
          go_wp2_with fail
          refine CH.out.mono ?_
          rintro e w5 ⟨rfl, b5⟩
          have HC6 := hid (HC5.out.1.below b5)
          clear b5 CH hrc
          cases z with
          | true =>
            go_wp2
            go_roundg (gk - 1)
            case measure => omega
            case rel =>
              refine ⟨t + 1, F', by go_num, by omega, HC6.out, HC5.out.2.1, fun q hq => ?_⟩
              rw [List.take_add_one, HZ.out.2.1] at hq
              rcases List.mem_append.1 hq with hq | hq
              · exact HC5.out.2.2 q hq
              · simp at hq
                subst hq
                exact of_decide_eq_true HZ.out.1.symm
          | false =>
            have CA := hid (add_any w5 b0 (mw n) y (inl F') HC6.out.mb (mw_lt HZ.out.2.2.2) (mw_le hn))
            go_wp2_with fail
            refine CA.out.mono ?_
            rintro e w6 ⟨rfl, hmb6, hkp6, hs6⟩
            have hown6 : w6.ownsRow W.heap.size 3 1 (.slice a' F'.length c') F'.length (ints F') := ownsRow_keep HC6.out.own fun k hk => hkp6.block k (fun e => by have h1 := (HC6.out.own.lt k hk).1; have h2 := H0.out.1.lt; omega)
            have hlen := HC6.out.len
            have H6 := hid (And.intro hmb6 (And.intro hkp6 (And.intro hs6 hown6)))
            have hs9 : W.heap.size ≤ w6.heap.size := by rw [hs6]; exact HC6.out.kp.size
            clear hmb6 hkp6 hs6 CA
            go_wp2_with (at_builtin; refine wpList_append_own _ rfl (.tmp 38) (.tmp 40) 23 rfl W.heap.size 3 i0 (.int .i64 0) 1 8 Tryd.underlying23 hi hz0 hz1 hz2 rfl (by decide) _ _ _ rfl (hown6.alloc _) ⟨w6.heap.size, 0, none⟩ 1 1 [.int .i64 (y : Int)] rfl rfl ?c1 ?c2 ?c3 ?c4 ?c5 ?_)
            case c1 => exact fun j u hj => one_cell _ _ _ _ _ hj
            case c2 => intro u hu; simp at hu; subst hu; rfl
            case c3 => unfold maxLen; omega
            case c4 => omega
            case c5 => simp; omega
            intro v' w7 hown' hgrow _
            have hnew : ¬ y ∈ F' := fun hm => by have h1 := HZ.out.1; unfold inl at h1; rw [decide_eq_true hm] at h1; cases h1
            have hmb7 : MB w7 b0 (inl (F' ++ [y])) (mw n) := by
              have h1 : MB (w6.alloc (.cells #[.int .i64 (y : Int)] 3)) b0 (add1 (inl F') y) (mw n) := blk_alloc H6.out.1
              have h2 : w7.heap[b0]? = (w6.alloc (.cells #[.int .i64 (y : Int)] 3)).heap[b0]? := hgrow.block b0 h1.lt (fun e => by have h3 := (hown6.lt b0 e.symm).1; have h4 := H0.out.1.lt; omega)
              have h3 : inl (F' ++ [y]) = add1 (inl F') y := by funext q; unfold inl add1; rw [Bool.eq_iff_iff]; simp
              rw [h3]
              exact h2.trans h1
            have hkp7 : Kept (fun b => b = b0 ∨ W.heap.size ≤ b) W w7 := Kept.grown (Kept.alloc (HC6.out.kp.trans (H6.out.2.1.mono fun b hb => .inl hb)) (fun b hb => .inr (by omega)) _) hgrow (fun b hb => .inr (by simp at hb; omega)) (fun k hk => .inr (hown6.lt k hk).1)
            have hC7 : CL W w7 b0 n N p (F' ++ [y]) v' := by
              refine ⟨by simpa [ints] using hown', hmb7, hkp7, ?_, fun q hq => ?_, fun q hq => List.mem_append_left _ (HC6.out.sub q hq), fun q hq => ?_⟩
              · rw [List.nodup_append]
                exact ⟨HC6.out.nd, by simp, fun u hu v hv e => by simp at hv; subst hv; exact hnew (e ▸ hu)⟩
              · rcases List.mem_append.1 hq with hq | hq
                · exact HC6.out.lt q hq
                · simp at hq; subst hq; exact HZ.out.2.2.2
              · rcases List.mem_append.1 hq with hq | hq
                · exact HC6.out.rt q hq
                · simp at hq; subst hq
                  exact .step (HC6.out.rt x (HC5.out.2.1.subset (List.mem_of_getElem? HD.out.2.2.2.1))) HZ.out.2.2.1
            have HC7 := hid hC7
            clear hC7 hkp7 hmb7 hown' hgrow hown6
            go_wp2
            go_roundg (gk - 1)
            case measure => omega
            case rel =>
              refine ⟨t + 1, F' ++ [y], by go_num, by omega, HC7.out, HC5.out.2.1.trans (List.prefix_append _ _), fun q hq => ?_⟩
              rw [List.take_add_one, HZ.out.2.1] at hq
              rcases List.mem_append.1 hq with hq | hq
              · exact List.mem_append_left _ (HC5.out.2.2 q hq)
              · exact List.mem_append_right _ (by simpa using hq)
        · have hlt' : ¬ (t : Int) < (k2 : Int) := by omega
          have hlk : l.length = k2 := by have := HL.out.1.1; simpa [ints] using this
          clear hcl hpre htak
          have hi9 : (i : Int) ≤ 2000 := by have := HD.out.2.1; omega
          go_wp2
          go_roundg (go - 1)
          case measure => have := HD.out.2.1; have := HD.out.1; have := HFL.out; have := C4.out.len; omega
          case rel =>
            obtain ⟨h1, h2, h3, h4, h5⟩ := HD.out
            obtain ⟨hcl, hpre, htak⟩ := HC5.out
            have hlen := hpre.length_le
            have hi := (List.getElem?_eq_some_iff.1 h4).1
            refine ⟨i + 1, F', by go_num, hcl, by omega, by have := hcl.len; omega, fun j z hj hz y hr => ?_⟩
            have hz' : F[j]? = some z := by
              obtain ⟨r, rfl⟩ := hpre
              rw [List.getElem?_append_left (by omega)] at hz; exact hz
            by_cases e : j = i
            · subst e
              rw [h4] at hz'
              simp at hz'
              subst hz'
              exact htak y (by rw [List.take_of_length_le (by omega)]; exact (HL.out.2.1 y).2 hr)
            · exact hpre.subset (h3 j z (by omega) hz' y hr)
    · have hlt' : ¬ (i : Int) < (F.length : Int) := by omega
      have hall : inl F = clo (Ep N) p := hcl.closed fun x hx y hr => by
        obtain ⟨j, hj, e⟩ := List.mem_iff_getElem.1 hx
        exact hdone j x (by omega) (by rw [List.getElem?_eq_getElem hj, e]) y hr
      have HZ := hid (show MB wr b0 (clo (Ep N) p) (mw n) ∧ Kept (fun b => b = b0 ∨ W.heap.size ≤ b) W wr from ⟨hall ▸ hcl.mb, hcl.kp⟩)
      obtain ⟨fl, hfl⟩ : ∃ fl, fl = F.length := ⟨_, rfl⟩
      rw [← hfl] at hlt' ⊢
      clear hcl hdone hfl hall hlt
      go_wp2
      go_end0
      exact ⟨rfl, HZ.out.1, HZ.out.2⟩
theorem Tb.kept {W W' : World} (h : Tb W) {F : Nat → Prop} (hb : Kept F W W') (h0 : ¬ F 0) : Tb W' := h.same (hb.block 0 h0)
theorem add1_ini {n : Nat} {l : List Int} {i : Nat} {x : Int} (hx : l[i]? = some x) : ini n (l.take (i + 1)) = if 0 ≤ x ∧ x < n then add1 (ini n (l.take i)) x.toNat else ini n (l.take i) := by
  funext y
  have e : ∀ (a : Bool) (b : Bool), (a = true ↔ b = true) → a = b := fun a b h => Bool.eq_iff_iff.2 h
  rw [List.take_add_one, hx]
  split
  · rename_i h
    apply e
    unfold add1
    rw [Bool.or_eq_true, ini_iff, ini_iff]
    simp
    constructor
    · rintro ⟨h1, h2 | h2⟩
      · exact .inl ⟨h1, h2⟩
      · exact .inr (by omega)
    · rintro (⟨h1, h2⟩ | h1)
      · exact ⟨h1, .inl h2⟩
      · exact ⟨by omega, .inr (by omega)⟩
  · rename_i h
    apply e
    rw [ini_iff, ini_iff]
    simp
    exact fun h1 h2 => absurd ⟨by omega, by omega⟩ h
set_option maxRecDepth 100000 in
set_option maxHeartbeats 4000000 in
theorem closure_any (G : Nat → Prop) (w : World) (mb ab sb K ca cs n : Nat) (N : Nfa) (h : MC G w mb ab sb K ca cs N n) (a : Option Addr) (k c : Nat) (l : List Int) (hl : Row w a k (l.map iv)) (hk : k ≤ 140737488355328) (hT : Tb w) (hK0 : K ≠ 0) :
    Calls Tryd.prog 37 #[.pointer (some ⟨mb, 0, none⟩), .slice a k c] w fun e w' => e = .returned (.slice (some ⟨w.heap.size, 0, none⟩) (mw n) (mw n)) ∧ MB w' w.heap.size (clo (Ep N) (ini n l)) (mw n) ∧ Below w.heap.size w w' := by
  have HM := hid h
  have HL := hid (And.intro hl hT)
  have hn : n ≤ 2000 := h.vn.le
  have CN := hid (noStates_any G w mb ab sb K ca cs n N h)
  have hlk : l.length = k := by have := hl.1; simpa using this
  clear h hl hT
  go_enter Tryd.func37, Tryd.ntmps37
  go_wp2_with fail
  refine CN.out.mono ?_
  rintro e w1 ⟨rfl, hmb, b1, hs1⟩
  obtain ⟨B, hB⟩ : ∃ B, B = w.heap.size := ⟨_, rfl⟩
  rw [← hB] at hmb ⊢
  have H1 := hid (And.intro hmb (And.intro b1 (And.intro hs1 hB)))
  clear hmb b1 hs1 CN hB
  go_wp2_with fail
  go_loopg [12] k (fun kk s12 wr => ∃ i : Nat, s12 = .int .i64 (i : Int) ∧ i + kk = k ∧ MB wr B (ini n (l.take i)) (mw n) ∧ Below w.heap.size w wr)
  case atStart => exact ⟨0, rfl, by omega, by rw [show ini n (l.take 0) = fun _ => false by funext x; simp [ini]]; exact H1.out.1, H1.out.2.1⟩
  case round =>
    obtain ⟨i, rfl, hik, hmb, hbw⟩ := hrel
    by_cases hlt : i < k
    · have hlt' : (i : Int) < (k : Int) := by omega
      obtain ⟨b0, off, x, rfl, hbl, ha, q0⟩ := int_at (HL.out.1.below hbw) hlt
      have hnx := add1_ini (n := n) ha
      obtain ⟨z0, z1, z2⟩ := (HM.out.below hbw).cells
      have HX := hid (And.intro hmb (And.intro hbw hnx))
      clear hmb hbw hbl ha hnx
      by_cases h0 : 0 ≤ x
      · by_cases h1 : x < n
        · obtain ⟨y, rfl⟩ : ∃ y : Nat, x = (y : Int) := ⟨x.toNat, by omega⟩
          have CA := hid (add_any wr B (mw n) y _ HX.out.1 (mw_lt (by omega)) (mw_le hn))
          go_wp2_with fail
          refine CA.out.mono ?_
          rintro e w3 ⟨rfl, hmb3, hkp3, hs3⟩
          have H3 := hid (And.intro hmb3 (HX.out.2.1.trans (Kept.toBelow hkp3 fun b hb => by rw [hb, H1.out.2.2.2]; exact Nat.le_refl _)))
          clear hmb3 hkp3 hs3 CA
          go_wp2
          go_roundg (gk - 1)
          case measure => omega
          case rel => exact ⟨i + 1, by go_num, by omega, by rw [HX.out.2.2, if_pos ⟨h0, h1⟩]; exact H3.out.1, H3.out.2⟩
        · go_wp2
          go_roundg (gk - 1)
          case measure => omega
          case rel => exact ⟨i + 1, by go_num, by omega, by rw [HX.out.2.2, if_neg (fun h => by omega)]; exact HX.out.1, HX.out.2.1⟩
      · go_wp2
        go_roundg (gk - 1)
        case measure => omega
        case rel => exact ⟨i + 1, by go_num, by omega, by rw [HX.out.2.2, if_neg (fun h => by omega)]; exact HX.out.1, HX.out.2.1⟩
    · have hlt' : ¬ (i : Int) < (k : Int) := by omega
      rw [List.take_of_length_le (by omega)] at hmb
      have hM := (HM.out.more (G' := fun b => b < B) fun b hb _ => by rw [H1.out.2.2.2]; exact hb).below hbw
      have CC := hid (close_any _ wr mb ab sb K ca cs n N hM B _ hmb (fun x hx => (ini_iff.1 hx).1) (fun b hb => Nat.ne_of_lt hb) (by have := HM.out.gk; rw [H1.out.2.2.2]; omega) (HL.out.2.below hbw))
      have HX := hid hbw
      clear hmb hM hbw
      go_wp2_with fail
      refine CC.out.mono ?_
      rintro e w3 ⟨rfl, hmb3, hkp3⟩
      go_wp2
      go_ret
      exact ⟨by rw [← H1.out.2.2.2]; rfl, H1.out.2.2.2 ▸ hmb3, HX.out.trans (Kept.toBelow hkp3 fun b hb => by have := HX.out.size; have := H1.out.2.2.2; rcases hb with rfl | hb <;> omega)⟩
theorem tg_tgt {N : Nfa} {p : Nat → Bool} {b : Nat} {y : Nat} : tgt N p (UInt8.ofNat b) y = true ↔ ∃ x, p x = true ∧ tg N (x, b) y = true := by
  unfold tg
  rw [tgt_iff]
  constructor
  · rintro ⟨a, ha, h1, ⟨x, h2, h3⟩, h4⟩
    exact ⟨x, h3, tgt_iff.2 ⟨a, ha, h1, ⟨x, h2, by simp⟩, h4⟩⟩
  · rintro ⟨x, hx, h⟩
    obtain ⟨a, ha, h1, ⟨z, h2, h3⟩, h4⟩ := tgt_iff.1 h
    have : z = x := by simpa using h3
    exact ⟨a, ha, h1, ⟨x, by rw [h2, this], hx⟩, h4⟩
/-- Where the first states of a list lead. -/
def tl (N : Nfa) (l : List Nat) (b : Nat) (y : Nat) : Bool := l.any fun x => tg N (x, b) y
theorem tl_snoc (N : Nfa) (l : List Nat) (x b : Nat) : tl N (l ++ [x]) b = fun y => tl N l b y || tg N (x, b) y := by
  funext y; unfold tl; rw [List.any_append]; simp
theorem tl_all {N : Nfa} {n : Nat} {p : Nat → Bool} {b : Nat} (hp : ∀ x, p x = true → x < n) : tl N (elx n p) b = tgt N p (UInt8.ofNat b) := by
  funext y
  rw [Bool.eq_iff_iff, tg_tgt]
  unfold tl
  rw [List.any_eq_true]
  exact ⟨fun ⟨x, hx, h⟩ => ⟨x, (mem_elx.1 hx).2, h⟩, fun ⟨x, hx, h⟩ => ⟨x, mem_elx.2 ⟨hp x hx, hx⟩, h⟩⟩
/-- What step answers. -/
def SO (G : Nat → Prop) (mb ab sb K ca cs n : Nat) (N : Nfa) (q : Nat → Bool) (w : World) (e : Ending) (w' : World) : Prop :=
  ∃ blk, e = .returned (.slice (some ⟨blk, 0, none⟩) (mw n) (mw n)) ∧ w.heap.size ≤ blk ∧ MB w' blk q (mw n) ∧ blk ≠ K ∧ MC (fun b => G b ∨ w.heap.size ≤ b) w' mb ab sb K ca cs N n ∧ Kept (fun b => b = K ∨ w.heap.size ≤ b) w w'
set_option maxRecDepth 100000 in
set_option maxHeartbeats 4000000 in
theorem step_any (G : Nat → Prop) (w : World) (mb ab sb K ca cs n : Nat) (N : Nfa) (h : MC G w mb ab sb K ca cs N n) (b1 : Nat) (p : Nat → Bool) (b : Nat) (hb : b < 256) (hs : MB w b1 p (mw n)) (hp : ∀ x, p x = true → x < n) (hT : Tb w) (hK0 : K ≠ 0) :
    Calls Tryd.prog 40 #[.pointer (some ⟨mb, 0, none⟩), .slice (some ⟨b1, 0, none⟩) (mw n) (mw n), .int .u8 (b : Int)] w (SO G mb ab sb K ca cs n N (stp N p (UInt8.ofNat b)) w) := by
  have HM := hid h
  have H0 := hid (And.intro hs (And.intro hp hT))
  have hn : n ≤ 2000 := h.vn.le
  have CN := hid (noStates_any G w mb ab sb K ca cs n N h)
  clear h hs hp hT
  go_enter Tryd.func40, Tryd.ntmps40
  go_wp2_with fail
  refine CN.out.mono ?_
  rintro e w1 ⟨rfl, hmb, bel1', hs1⟩
  obtain ⟨B, hB⟩ : ∃ B, B = w.heap.size := ⟨_, rfl⟩
  rw [← hB] at hmb ⊢
  have CLI := hid (list_any w1 b1 (mw n) p (H0.out.1.below bel1') (mw_le hn) (H0.out.2.2.below bel1'))
  have H1 := hid (And.intro hmb (And.intro bel1' (And.intro hs1 hB)))
  clear hmb bel1' hs1 CN hB
  go_wp2_with fail
  refine CLI.out.mono ?_
  rintro e w2 ⟨⟨v, rfl, hown⟩, b2⟩
  rw [elx_more (show n ≤ 64 * mw n by unfold mw; omega) H0.out.2.1] at hown
  obtain ⟨va, vc, rfl⟩ := own_form hown
  have hlen := elx_length n p
  obtain ⟨l, hl⟩ : ∃ l, l = elx n p := ⟨_, rfl⟩
  rw [← hl] at hown hlen ⊢
  have hB2 : Below w.heap.size w w2 := H1.out.2.1.trans (b2.mono H1.out.2.1.size)
  have H2 := hid (show Row w2 va l.length (ints l) ∧ MB w2 B (tl N [] b) (mw n) ∧ Below w.heap.size w w2 ∧ MC (fun q => (G q ∨ w.heap.size ≤ q) ∧ q ≠ B) w2 mb ab sb K ca cs N n ∧ B ≠ K ∧ (∀ q off, va = some ⟨q, off, none⟩ → q ≠ B ∧ q ≠ K) from
    ⟨own_row' hown, by show MB w2 B (fun _ => false) _; exact H1.out.1.below b2, hB2, (HM.out.more (G' := fun q => (G q ∨ w.heap.size ≤ q) ∧ q ≠ B) fun q hq hg => ⟨.inl hg, by rw [H1.out.2.2.2]; exact Nat.ne_of_lt hq⟩).below hB2, by have := HM.out.gk; rw [H1.out.2.2.2]; omega,
      fun q off e => by have h1 := own_base hown _ e; have h2 : w1.heap.size ≤ q := h1; have h3 := H1.out.2.2.1; have h4 := H1.out.2.2.2; have := HM.out.gk; omega⟩)
  have HLL := hid (show ∀ x ∈ l, x < n from fun x hx => by rw [hl] at hx; exact (mem_elx.1 hx).1)
  have HL2 := hid hl
  clear hown b2 CLI hB2 hl
  obtain ⟨k, hk⟩ : ∃ k, k = l.length := ⟨_, rfl⟩
  rw [← hk] at hlen ⊢
  have HK := hid hk
  clear hk
  go_wp2_with fail
  go_loopg [15] k (fun kk s15 wr => ∃ i : Nat, s15 = .int .i64 (i : Int) ∧ i + kk = k ∧ MB wr B (tl N (l.take i) b) (mw n) ∧ MC (fun q => (G q ∨ w.heap.size ≤ q) ∧ q ≠ B) wr mb ab sb K ca cs N n ∧ Kept (fun q => q = B ∨ q = K ∨ w2.heap.size ≤ q) w2 wr)
  case atStart => exact ⟨0, rfl, by omega, H2.out.2.1, H2.out.2.2.2.1, Kept.refl _ _⟩
  case round =>
    obtain ⟨i, rfl, hik, hmb, hmc, hkp⟩ := hrel
    by_cases hlt : i < k
    · have hlt' : (i : Int) < (k : Int) := by omega
      have hi0 : (0 : Int) ≤ (i : Int) := by omega
      obtain ⟨x, hx⟩ : ∃ x, l[i]? = some x := ⟨l[i]'(by have := HK.out; omega), List.getElem?_eq_getElem _⟩
      have hxn := HLL.out x (List.mem_of_getElem? hx)
      obtain ⟨rb, ro, hra, hrc⟩ : ∃ rb ro, va = some ⟨rb, ro, none⟩ ∧ wr.cell? ⟨rb, ro + i, none⟩ = some (.int .i64 (x : Int)) := by
        rcases H2.out.1.2 with h0 | ⟨rb, ro, e, hb', hc⟩
        · have := HK.out; omega
        · have h9 := H2.out.2.2.2.2.2 rb ro e
          exact ⟨rb, ro, e, (World.cell?_of_block (hkp.block rb (by rintro (h | h | h); exact h9.1 h; exact h9.2 h; omega))).trans (hc i _ (Go.Frame.ints_at hx))⟩
      subst hra
      have CT := hid (targets_any _ wr mb ab sb K ca cs n N hmc x b hxn hb)
      have HX := hid (And.intro hmb (And.intro hmc (And.intro hkp hx)))
      have hlo : w.heap.size ≤ w2.heap.size := H2.out.2.2.1.size
      clear hmb hmc hkp hx hxn
      go_wp2_with fail
      refine CT.out.mono ?_
      rintro e w3 ⟨blk, rfl, hmb3, hg3, hk3, hmc3, hkp3⟩
      have hBlt := HX.out.1.lt
      have hnB : blk ≠ B := by rcases hg3 with h | h; exact h.2; omega
      have hmbB : MB w3 B (tl N (l.take i) b) (mw n) := (hkp3.block B (by rintro (h | h); exact H2.out.2.2.2.2.1 h; omega)).trans HX.out.1
      have CA := hid (addAll_any w3 B blk (mw n) _ _ hmbB hmb3 (Ne.symm hnB) (mw_le hn))
      have H3 := hid (And.intro hmc3 (And.intro hkp3 hBlt))
      clear hmb3 hg3 hk3 hmc3 hkp3 hnB hmbB CT hBlt hrc
      go_wp2_with fail
      refine CA.out.mono ?_
      rintro e w4 ⟨rfl, hmb4, hkp4, hs4⟩
      have H4 := hid (And.intro hmb4 (And.intro hkp4 hs4))
      clear hmb4 hkp4 hs4 CA
      have hk9 : (k : Int) ≤ 2000 := by omega
      go_wp2
      go_roundg (gk - 1)
      case measure => omega
      case rel =>
        obtain ⟨hmb, hmc, hkp, hx⟩ := HX.out
        obtain ⟨hmc3, hkp3, hBlt⟩ := H3.out
        obtain ⟨hmb4, hkp4, hs4⟩ := H4.out
        refine ⟨i + 1, by go_num, by omega, ?_, ?_, ?_⟩
        · rw [List.take_add_one, hx]
          show MB w4 B (tl N (l.take i ++ [x]) b) _
          rw [tl_snoc]; exact hmb4
        · refine (hmc3.kept hkp4 (fun q hq hg hF => ?_) (Ne.symm H2.out.2.2.2.2.1)).more fun q hq hg => ?_
          · rcases hg with hg | hg
            · exact hg.2 hF
            · rw [hF] at hg; omega
          · rcases hg with hg | hg
            · exact hg
            · exact ⟨.inr (by have := hkp.size; omega), by omega⟩
        · exact (hkp.trans (hkp3.mono fun q hq => by rcases hq with h | h; exact .inr (.inl h); exact .inr (.inr (by have := hkp.size; omega)))).trans (hkp4.mono fun q hq => .inl hq)
    · have hlt' : ¬ (i : Int) < (k : Int) := by omega
      rw [List.take_of_length_le (by have := HK.out; omega), HL2.out, tl_all H0.out.2.1] at hmb
      have hT := (H0.out.2.2.below H2.out.2.2.1).kept hkp (by have h1 := H0.out.2.2.1; have := H1.out.2.2.2; have := H2.out.2.2.1.size; omega)
      have CC := hid (close_any _ wr mb ab sb K ca cs n N hmc B _ hmb (fun x hx => tgt_lt HM.out.vn hx) (fun b hb => hb.2) H2.out.2.2.2.2.1 hT)
      have HX := hid (And.intro hmb (And.intro hmc hkp))
      clear hmb hmc hkp hT
      go_wp2_with fail
      refine CC.out.mono ?_
      rintro e w3 ⟨rfl, hmb3, hkp3⟩
      go_wp2
      go_ret
      obtain ⟨hmb, hmc, hkp⟩ := HX.out
      have hBw := H1.out.2.2.2
      have hBlt := hmb.lt
      refine ⟨B, rfl, by omega, hmb3, H2.out.2.2.2.2.1, ?_, ?_⟩
      · exact (hmc.kept hkp3 (fun q hq hg hF => by rcases hF with h | h; exact hg.2 h; omega) (by have := hmc.gk; have := H2.out.2.2.2.2.1; rintro (h | h); exact this h.symm; omega)).more fun q hq hg => hg.1
      · have k1 : Kept (fun q => q = K ∨ w.heap.size ≤ q) w w2 := Kept.below H2.out.2.2.1 fun q hq => .inr hq
        have hs2 := H2.out.2.2.1.size
        have k2 : Kept (fun q => q = K ∨ w.heap.size ≤ q) w2 wr := hkp.mono fun q hq => by
          rcases hq with h | h | h
          · exact .inr (by omega)
          · exact .inl h
          · exact .inr (by omega)
        have k3 : Kept (fun q => q = K ∨ w.heap.size ≤ q) wr w3 := hkp3.mono fun q hq => by
          have := hkp.size
          rcases hq with h | h
          · exact .inr (by omega)
          · exact .inr (by omega)
        exact (k1.trans k2).trans k3
end Go.Proofs.YtogpnlkjcdedlaaDoor
end
section
set_option linter.unusedSimpArgs false
set_option linter.unusedVariables false
namespace Go.Proofs.YtogpnlkjcdedlaaDoor
open Go.RowKit Bs Rg Nf Go.Frame
attribute [local go_sem] eq_zero eq_set

set_option maxRecDepth 100000 in
set_option maxHeartbeats 4000000 in
theorem isNaN_any (w : World) (x : Int) : Calls Tryd.prog 78 #[.int .i64 x] w fun e w' => e = .returned (.bool false) ∧ w' = w := by
  have h : (x != x) = false := by simp
  go_enter Tryd.func78, Tryd.ntmps78
  go_wp2
  go_ret
  exact ⟨rfl, rfl⟩
def cmpI (x y : Int) : Int := if x < y then -1 else if y < x then 1 else 0
theorem cmpI_neg {x y : Int} : cmpI x y < 0 ↔ x < y := by
  unfold cmpI
  split
  · simp; assumption
  · split
    · simp; omega
    · simp; omega
set_option maxRecDepth 100000 in
set_option maxHeartbeats 4000000 in
theorem compare_any (w : World) (x y : Int) : Calls Tryd.prog 69 #[.int .i64 x, .int .i64 y] w fun e w' => e = .returned (.int .i64 (cmpI x y)) ∧ w' = w := by
  have CN := hid (fun V x => isNaN_any V x)
  by_cases h1 : x < y
  · rw [show cmpI x y = -1 from if_pos h1]
    go_enter Tryd.func69, Tryd.ntmps69
    go_wp2_with (refine (CN.out _ _).mono ?_; rintro e V ⟨rfl, rfl⟩)
    go_ret
    exact ⟨rfl, rfl⟩
  · by_cases h2 : y < x
    · rw [show cmpI x y = 1 from by unfold cmpI; rw [if_neg h1, if_pos h2]]
      go_enter Tryd.func69, Tryd.ntmps69
      go_wp2_with (refine (CN.out _ _).mono ?_; rintro e V ⟨rfl, rfl⟩)
      go_ret
      exact ⟨rfl, rfl⟩
    · rw [show cmpI x y = 0 from by unfold cmpI; rw [if_neg h1, if_neg h2]]
      go_enter Tryd.func69, Tryd.ntmps69
      go_wp2_with (refine (CN.out _ _).mono ?_; rintro e V ⟨rfl, rfl⟩)
      go_ret
      exact ⟨rfl, rfl⟩
set_option maxRecDepth 100000 in
set_option maxHeartbeats 4000000 in
theorem clo68_any (w : World) (f1 t1 f2 t2 : Int) (e1 e2 : Bool) (s1 s2 : BS) : Calls Tryd.prog 68 #[.agg #[.int .i64 f1, .int .i64 t1, .bool e1, .int .u64 (ws s1 0 : Int), .int .u64 (ws s1 1 : Int), .int .u64 (ws s1 2 : Int), .int .u64 (ws s1 3 : Int)], .agg #[.int .i64 f2, .int .i64 t2, .bool e2, .int .u64 (ws s2 0 : Int), .int .u64 (ws s2 1 : Int), .int .u64 (ws s2 2 : Int), .int .u64 (ws s2 3 : Int)]] w fun e w' => e = .returned (.int .i64 (cmpI f1 f2)) ∧ w' = (w.alloc (.cells #[.int .i64 f1, .int .i64 t1, .bool e1, .int .u64 (ws s1 0 : Int), .int .u64 (ws s1 1 : Int), .int .u64 (ws s1 2 : Int), .int .u64 (ws s1 3 : Int)] 55)).alloc (.cells #[.int .i64 f2, .int .i64 t2, .bool e2, .int .u64 (ws s2 0 : Int), .int .u64 (ws s2 1 : Int), .int .u64 (ws s2 2 : Int), .int .u64 (ws s2 3 : Int)] 55) := by
  have CC := hid (fun V => compare_any V f1 f2)
  obtain ⟨W, hW⟩ : ∃ W, W = (w.alloc (.cells #[.int .i64 f1, .int .i64 t1, .bool e1, .int .u64 (ws s1 0 : Int), .int .u64 (ws s1 1 : Int), .int .u64 (ws s1 2 : Int), .int .u64 (ws s1 3 : Int)] 55)).alloc (.cells #[.int .i64 f2, .int .i64 t2, .bool e2, .int .u64 (ws s2 0 : Int), .int .u64 (ws s2 1 : Int), .int .u64 (ws s2 2 : Int), .int .u64 (ws s2 3 : Int)] 55) := ⟨_, rfl⟩
  obtain ⟨x0, x1, bW, hsz⟩ := Go.Frame.two w (.cells #[.int .i64 f1, .int .i64 t1, .bool e1, .int .u64 (ws s1 0 : Int), .int .u64 (ws s1 1 : Int), .int .u64 (ws s1 2 : Int), .int .u64 (ws s1 3 : Int)] 55) (.cells #[.int .i64 f2, .int .i64 t2, .bool e2, .int .u64 (ws s2 0 : Int), .int .u64 (ws s2 1 : Int), .int .u64 (ws s2 2 : Int), .int .u64 (ws s2 3 : Int)] 55)
  rw [← hW] at x0 x1 bW hsz
  rw [← hW]
  obtain ⟨c0, _⟩ := cells7a x0
  obtain ⟨d0, _⟩ := cells7a x1
  clear x0 x1
  go_enter Tryd.func68, Tryd.ntmps68
  go_upto_region 1 with fail
  rw [← hW]
  clear hW
  go_wp2_with fail
  refine (CC.out _).mono ?_
  rintro e V ⟨rfl, rfl⟩
  go_wp2
  go_ret
  exact ⟨rfl, rfl⟩
/-- In the order of the states that they leave. -/
def Srt (l : List Arc) : Prop := ∀ (i : Nat) (x y : Arc), l[i]? = some x → l[i + 1]? = some y → x.f ≤ y.f
def SoR (l : List Arc) (r : Ending) : Prop := ∃ y : Bool, r = .returned (.bool y) ∧ (y = true ↔ Srt l)
set_option maxRecDepth 100000 in
set_option maxHeartbeats 4000000 in
theorem sorted_any (w : World) (a1 : Option Addr) (m c1 : Nat) (l : List Arc) (hA : CRow 7 w a1 m (l.map acs)) (hm : m ≤ 140737488355328) :
    Calls Tryd.prog 70 #[.slice a1 m c1, .func (.func 68) #[] #[]] w fun r w' => SoR l r ∧ Below w.heap.size w w' := by
  have H0 := hid hA
  have hl : l.length = m := by have := hA.1; simpa using this
  have HL := hid hl
  clear hA hl
  go_enter Tryd.func70, Tryd.ntmps70
  go_wp2_with fail
  go_loopg [5] m (fun kk s5 wr => ∃ z : Int, s5 = .int .i64 z ∧ z < m ∧ z ≤ kk ∧ (∀ (i : Nat) (x y : Arc), z ≤ i → l[i]? = some x → l[i + 1]? = some y → x.f ≤ y.f) ∧ Below w.heap.size w wr)
  case atStart => exact ⟨(m : Int) - 1, rfl, by omega, by omega, fun i x y hi hx hy => by have := (List.getElem?_eq_some_iff.1 hy).1; have := HL.out; omega, Below.refl _ _⟩
  case round =>
    obtain ⟨z, rfl, hzm, hzk, hok, hbw⟩ := hrel
    by_cases hlt : 0 < z
    · obtain ⟨j, rfl⟩ : ∃ j : Nat, z = (j : Int) + 1 := ⟨(z - 1).toNat, by omega⟩
      obtain ⟨b, off, f1, t1, e1, s1, rfl, hbl, ha1, p0, p1, p2, p3, p4, p5, p6⟩ := arc_at (i := j + 1) (H0.out.below hbw) (by omega)
      obtain ⟨b', off', f2, t2, e2, s2, hbb, hbl', ha2, q0, q1, q2, q3, q4, q5, q6⟩ := arc_at (i := j) (H0.out.below hbw) (by omega)
      obtain ⟨rfl, rfl⟩ : b' = b ∧ off' = off := by simp at hbb; omega
      have HX := hid (And.intro hok (And.intro hbw (And.intro ha1 (And.intro ha2 (And.intro hzm hzk)))))
      have r1 : (0 : Int) ≤ (j : Int) + 1 := by omega
      have r2 : (j : Int) + 1 < (m : Int) := hzm
      have r3 : (0 : Int) ≤ (j : Int) := by omega
      have r4 : (j : Int) < (m : Int) := by omega
      have r5 : IntKind.i64.wrap ((j : Int) + 1 - 1) = (j : Int) := by rw [show (j : Int) + 1 - 1 = (j : Int) by omega]; exact wrapIn (by omega) (by omega)
      have HP := hid (And.intro (And.intro p0 (And.intro p1 (And.intro p2 (And.intro p3 (And.intro p4 (And.intro p5 p6)))))) (And.intro (And.intro q0 (And.intro q1 (And.intro q2 (And.intro q3 (And.intro q4 (And.intro q5 q6)))))) hbl))
      clear hok hbw ha1 ha2 hzm hzk hbb hbl' p0 p1 p2 p3 p4 p5 p6 q0 q1 q2 q3 q4 q5 q6 hbl
      have CC := hid (fun V => clo68_any V f1 t1 f2 t2 e1 e2 s1 s2)
      go_wp2_with fail
      refine wp_region_below (by kernel_rfl) (by kernel_rfl) ?_
      intro X' f _ hf hs
      have p0 := fun y => ((hf.out y).cell (p := ⟨b', off' + (j + 1) * 7, none⟩) HP.out.2.2).trans HP.out.1.1
      have p1 := fun y => ((hf.out y).cell (p := ⟨b', off' + (j + 1) * 7 + 1, none⟩) HP.out.2.2).trans HP.out.1.2.1
      have p2 := fun y => ((hf.out y).cell (p := ⟨b', off' + (j + 1) * 7 + 2, none⟩) HP.out.2.2).trans HP.out.1.2.2.1
      have p3 := fun y => ((hf.out y).cell (p := ⟨b', off' + (j + 1) * 7 + 3, none⟩) HP.out.2.2).trans HP.out.1.2.2.2.1
      have p4 := fun y => ((hf.out y).cell (p := ⟨b', off' + (j + 1) * 7 + 4, none⟩) HP.out.2.2).trans HP.out.1.2.2.2.2.1
      have p5 := fun y => ((hf.out y).cell (p := ⟨b', off' + (j + 1) * 7 + 5, none⟩) HP.out.2.2).trans HP.out.1.2.2.2.2.2.1
      have p6 := fun y => ((hf.out y).cell (p := ⟨b', off' + (j + 1) * 7 + 6, none⟩) HP.out.2.2).trans HP.out.1.2.2.2.2.2.2
      have q0 := fun y => ((hf.out y).cell (p := ⟨b', off' + j * 7, none⟩) HP.out.2.2).trans HP.out.2.1.1
      have q1 := fun y => ((hf.out y).cell (p := ⟨b', off' + j * 7 + 1, none⟩) HP.out.2.2).trans HP.out.2.1.2.1
      have q2 := fun y => ((hf.out y).cell (p := ⟨b', off' + j * 7 + 2, none⟩) HP.out.2.2).trans HP.out.2.1.2.2.1
      have q3 := fun y => ((hf.out y).cell (p := ⟨b', off' + j * 7 + 3, none⟩) HP.out.2.2).trans HP.out.2.1.2.2.2.1
      have q4 := fun y => ((hf.out y).cell (p := ⟨b', off' + j * 7 + 4, none⟩) HP.out.2.2).trans HP.out.2.1.2.2.2.2.1
      have q5 := fun y => ((hf.out y).cell (p := ⟨b', off' + j * 7 + 5, none⟩) HP.out.2.2).trans HP.out.2.1.2.2.2.2.2.1
      have q6 := fun y => ((hf.out y).cell (p := ⟨b', off' + j * 7 + 6, none⟩) HP.out.2.2).trans HP.out.2.1.2.2.2.2.2.2
      repeat (go_big_quiet_step (first | (go_at_call 68; exact calls_below hf hs ((CC.out _).mono fun e w' h => ⟨h.1, by rw [h.2]; exact ((Below.refl _ _).alloc (Nat.le_refl _) _).alloc (by simp) _⟩))))
      refine wpQuiet_nil ?_
      intro w4 hw4
      have H4 := hid (HX.out.2.1.trans (hw4.mono HX.out.2.1.size))
      clear p0 p1 p2 p3 p4 p5 p6 q0 q1 q2 q3 q4 q5 q6 hf hs hw4 CC
      by_cases hn : f1 < f2
      · have hd : cmpI f1 f2 < 0 := cmpI_neg.2 hn
        go_wp2
        go_ret
        exact ⟨⟨false, rfl, by simp; intro hs; have := hs j _ _ HX.out.2.2.2.1 HX.out.2.2.1; simp at this; omega⟩, H4.out⟩
      · have hd : ¬ cmpI f1 f2 < 0 := fun h => hn (cmpI_neg.1 h)
        go_wp2
        go_roundg (gk - 1)
        case measure => have := HX.out.2.2.2.2.2; omega
        case rel =>
          obtain ⟨hok, hbw, ha1, ha2, hzm, hzk⟩ := HX.out
          refine ⟨(j : Int), by simp, by omega, by omega, fun i x y hi hx hy => ?_, H4.out⟩
          by_cases e : i = j
          · subst e
            rw [ha2] at hx
            rw [ha1] at hy
            simp at hx hy
            subst hx hy
            simp; omega
          · exact hok i x y (by omega) hx hy
    · have HX := hid (And.intro hok hbw)
      clear hok hbw
      go_wp2
      go_ret
      exact ⟨⟨true, rfl, by simp; exact fun i x y hx hy => HX.out.1 i x y (by omega) hx hy⟩, HX.out.2⟩
end Go.Proofs.YtogpnlkjcdedlaaDoor
end
section
set_option linter.unusedSimpArgs false
set_option linter.unusedVariables false
namespace Go.Proofs.YtogpnlkjcdedlaaDoor
open Go.RowKit Bs Rg Nf Go.Frame
attribute [local go_sem] eq_zero eq_set

theorem info22 : (Tryd.prog.info? 22).map (fun i => (i.zero, i.size, i.bytes)) = some (some (.slice none 0 0), 1, 24) := by kernel_rfl
theorem made_one (z : Value) (n : Nat) : madeCells #[z] n = (List.replicate n z).toArray := by
  apply Array.ext'; rw [toList_madeCells_one]
set_option maxRecDepth 100000 in
theorem make_arcs (n : Nat) (hn : n ≤ 1000000) (w : World) :
    (Instr.makeSlice 93 (.int .i64 (n : Int)) (.int .i64 (n : Int))).run Tryd.prog w = .ok (.slice (some ⟨w.heap.size, 0, none⟩) n n) (w.alloc (.cells (List.replicate n (.slice none 0 0)).toArray 22)) := by
  obtain ⟨i, hi, h0, h1, h2⟩ := info_parts info22
  have := run_make (P := Tryd.prog) w 93 22 i _ Tryd.underlying93 hi h0 .i64 .i64 n n (by omega) (Int.le_refl _) (by rw [h2]; omega) (by omega)
  rw [h1, show (Value.slice none 0 0).cells = #[.slice none 0 0] by kernel_rfl] at this
  rw [← made_one]
  simpa using this
theorem srt_le {l : List Arc} (h : Srt l) : ∀ (d i : Nat) (x y : Arc), l[i]? = some x → l[i + d]? = some y → x.f ≤ y.f
  | 0, i, x, y, hx, hy => by rw [Nat.add_zero, hx] at hy; simp at hy; rw [hy]; exact Int.le_refl _
  | d + 1, i, x, y, hx, hy => by
    have hlt := (List.getElem?_eq_some_iff.1 hy).1
    obtain ⟨z, hz⟩ : ∃ z, l[i + d]? = some z := ⟨l[i + d]'(by omega), List.getElem?_eq_getElem _⟩
    exact Int.le_trans (srt_le h d i x z hx hz) (h (i + d) z y hz hy)
/-- The arcs ahead of place q leave states below x, the others do not. -/
def Sp (l : List Arc) (q : Nat) (x : Int) : Prop := q ≤ l.length ∧ (∀ z ∈ l.take q, z.f < x) ∧ ∀ z ∈ l.drop q, x ≤ z.f
theorem Sp.next {l : List Arc} {q e : Nat} {x : Int} (hs : Srt l) (h : Sp l q x) (he : q + e ≤ l.length) (h1 : ∀ z ∈ (l.drop q).take e, z.f = x) (h2 : ∀ z, l[q + e]? = some z → z.f ≠ x) : Sp l (q + e) (x + 1) := by
  refine ⟨he, fun z hz => ?_, fun z hz => ?_⟩
  · rw [List.take_add, List.mem_append] at hz
    rcases hz with hz | hz
    · have := h.2.1 z hz; omega
    · have := h1 z hz; omega
  · obtain ⟨i, hi⟩ := List.mem_iff_getElem?.1 hz
    rw [List.getElem?_drop] at hi
    have hlt := (List.getElem?_eq_some_iff.1 hi).1
    obtain ⟨y, hy⟩ : ∃ y, l[q + e]? = some y := ⟨l[q + e]'(by omega), List.getElem?_eq_getElem _⟩
    have g1 := srt_le hs i (q + e) y z hy hi
    have g2 := h2 y hy
    have g3 := h.2.2 y (List.mem_of_getElem? (i := e) (by rw [List.getElem?_drop]; exact hy))
    omega
theorem Sp.cast {l : List Arc} {q x : Nat} (h : Sp l q ((x : Int) + 1)) : Sp l q ((x + 1 : Nat) : Int) := by
  have e9 : ((x + 1 : Nat) : Int) = (x : Int) + 1 := by omega
  rw [e9]; exact h
theorem Sp.row {l : List Arc} {q e : Nat} {x : Int} (h : Sp l q x) (h1 : ∀ z ∈ (l.drop q).take e, z.f = x) (h2 : Sp l (q + e) (x + 1)) (z : Arc) : z ∈ (l.drop q).take e ↔ z ∈ l ∧ z.f = x := by
  constructor
  · intro hz
    exact ⟨List.mem_of_mem_drop (List.mem_of_mem_take hz), h1 z hz⟩
  · rintro ⟨hz, hf⟩
    rw [← List.take_append_drop q l, List.mem_append] at hz
    rcases hz with hz | hz
    · have := h.2.1 z hz; omega
    · rw [← List.take_append_drop e (l.drop q), List.mem_append, List.drop_drop] at hz
      rcases hz with hz | hz
      · exact hz
      · have := h2.2.2 z hz; omega
/-- What is left of a row behind its first elements. -/
theorem CRow_drop {W : World} {b off n e : Nat} {C : List (List Value)} (h : CRow 7 W (some ⟨b, off, none⟩) n C) (he : e ≤ n) : CRow 7 W (some ⟨b, off + e * 7, none⟩) (n - e) (C.drop e) := by
  refine ⟨by rw [List.length_drop, h.1], ?_⟩
  rcases h.2 with h0 | ⟨b', off', e', hb, hx⟩
  · exact .inl (by omega)
  · simp at e'
    obtain ⟨rfl, rfl⟩ := e'
    exact .inr ⟨b, off + e * 7, rfl, hb, fun i cs hi j v hj => by rw [show off + e * 7 + i * 7 + j = off + (e + i) * 7 + j by omega]; exact hx (e + i) cs (by rw [List.getElem?_drop] at hi; exact hi) j v hj⟩
theorem CRow_take {W : World} {a : Option Addr} {n e : Nat} {C : List (List Value)} (h : CRow 7 W a n C) (he : e ≤ n) : CRow 7 W a e (C.take e) := by
  refine ⟨by rw [List.length_take, h.1]; omega, ?_⟩
  rcases h.2 with h0 | ⟨b', off', e', hb, hx⟩
  · exact .inl (by omega)
  · exact .inr ⟨b', off', e', hb, fun i cs hi j v hj => hx i cs (by rw [List.getElem?_take] at hi; split at hi; exact hi; cases hi) j v hj⟩
theorem set_rows {wr : World} {AB x : Nat} {vs : List Value} {v : Value} {t : TypeId} (h : wr.heap[AB]? = some (.cells vs.toArray t (0, 0))) : (wr.setCell ⟨AB, x, none⟩ v).heap[AB]? = some (.cells (vs.set x v).toArray t (0, 0)) := by
  rw [blk_put h]
  congr 2
  apply Array.ext'
  simp
/-- One state's row. -/
def RW (W : World) (v : Value) (l : List Arc) (x : Nat) (ok : Nat → Prop) : Prop := ∃ (a : Option Addr) (k c : Nat) (r : List Arc), v = .slice a k c ∧ CRow 7 W a k (r.map acs) ∧ k ≤ 140737488355328 ∧ (∀ z, z ∈ r ↔ z ∈ l ∧ z.f = (x : Int)) ∧ (k ≠ 0 → ∀ b off, a = some ⟨b, off, none⟩ → ok b)
theorem RW.more {W : World} {v : Value} {l : List Arc} {x : Nat} {ok ok' : Nat → Prop} (h : RW W v l x ok) (ho : ∀ b, ok b → ok' b) : RW W v l x ok' := by
  obtain ⟨a, k, c, r, h1, h2, h3, h4, h5⟩ := h
  exact ⟨a, k, c, r, h1, h2, h3, h4, fun h0 b off e => ho b (h5 h0 b off e)⟩
theorem RW.below {W W' : World} {v : Value} {l : List Arc} {x : Nat} {ok : Nat → Prop} (h : RW W v l x ok) (hb : Below W.heap.size W W') : RW W' v l x ok := by
  obtain ⟨a, k, c, r, h1, h2, h3, h4, h5⟩ := h
  exact ⟨a, k, c, r, h1, h2.below hb, h3, h4, h5⟩
theorem rows_next {W : World} {vs : List Value} {v : Value} {l : List Arc} {x : Nat} {ok : Nat → Prop} (hx : x < vs.length) (h : ∀ x', x' < x → ∃ v, vs[x']? = some v ∧ RW W v l x' ok) (hv : RW W v l x ok) : ∀ x', x' < x + 1 → ∃ u, (vs.set x v)[x']? = some u ∧ RW W u l x' ok := by
  intro x' hx'
  by_cases e : x' = x
  · subst e; exact ⟨v, by simp [hx], hv⟩
  · obtain ⟨u, h1, h2⟩ := h x' (by omega)
    exact ⟨u, by rw [List.getElem?_set_ne (fun h => e h.symm)]; exact h1, h2⟩
theorem row_lt {W : World} {a : Option Addr} {k : Nat} {C : List (List Value)} (h : CRow 7 W a k C) (h0 : k ≠ 0) (b off : Nat) (e : a = some ⟨b, off, none⟩) : b < W.heap.size := by
  rcases h.2 with h' | ⟨b', off', e', hb, _⟩
  · exact absurd h' h0
  · rw [e] at e'; simp at e'; omega
set_option maxRecDepth 100000 in
set_option maxHeartbeats 4000000 in
theorem byFrom_sorted (w : World) (N : Nfa) (n : Nat) (hv : Vn N n) (a1 a2 : Option Addr) (m c1 k c2 : Nat) (hmc : m ≤ c1) (hcc : c1 ≤ 9223372036854775807) (hnil : a1 = none → c1 = 0) (h : NA w N a1 m a2 k) (hs : Srt N.arcs) :
    Calls Tryd.prog 55 #[.agg #[.int .i64 N.n, .int .i64 N.st, .slice a1 m c1, .slice a2 k c2]] w fun e w' => (∃ AB, e = .returned (.slice (some ⟨AB, 0, none⟩) n n) ∧ w.heap.size ≤ AB ∧ AB < w'.heap.size ∧ (∃ vs : List Value, w'.heap[AB]? = some (.cells vs.toArray 22 (0, 0))) ∧ ∀ x, x < n → ∃ v, w'.cell? ⟨AB, x, none⟩ = some v ∧ RW w' v N.arcs x fun b => b < w'.heap.size) ∧ Below w.heap.size w w' := by
  obtain ⟨nn, st, arcs, acc⟩ := N
  obtain rfl : nn = (n : Int) := hv.hn
  obtain ⟨W, hW⟩ : ∃ W, W = w.alloc (.cells #[.int .i64 (n : Int), .int .i64 st, .slice a1 m c1, .slice a2 k c2] 25) := ⟨_, rfl⟩
  have HB := hid (show Below w.heap.size w W from by rw [hW]; exact bel1 _ _)
  have HW := hid (show W.heap[w.heap.size]? = some (.cells #[.int .i64 (n : Int), .int .i64 st, .slice a1 m c1, .slice a2 k c2] 25 (0, 0)) from by rw [hW]; exact alloc_new _ _)
  have CS := hid (sorted_any W a1 m c1 arcs (h.arcs.below HB.out) h.hm)
  have HA := hid (And.intro h.arcs (And.intro h.hm (And.intro hv hs)))
  have hm := h.hm
  have hn := hv.le
  clear h hv hs
  obtain ⟨d0, d1, d2, d3⟩ := cells4 HW.out
  have mk := fun w => make_arcs n (by omega) w
  go_enter Tryd.func55, Tryd.ntmps55
  go_upto_region 1 with fail
  rw [← hW]
  clear hW
  go_wp2_with fail
  refine CS.out.mono ?_
  rintro e W1 ⟨⟨y, rfl, hy⟩, b1⟩
  obtain rfl : y = true := hy.2 HA.out.2.2.2
  have H1 := hid (HB.out.trans (b1.mono HB.out.size))
  have HW1 := hid ((b1.block _ (heap_lt HW.out)).trans HW.out)
  clear b1 d0 d1 d2 d3 hy
  obtain ⟨d0, d1, d2, d3⟩ := cells4 HW1.out
  have HR := hid (HA.out.1.below H1.out)
  have HV := hid HA.out.2.2.1
  have HS := hid HA.out.2.2.2
  go_wp2_with fail
  have hAB : (W1.alloc (.cells (List.replicate n (.slice none 0 0)).toArray 22)).heap[W1.heap.size]? = some (.cells (List.replicate n (.slice none 0 0)).toArray 22 (0, 0)) := alloc_new _ _
  have hbl := bel1 W1 (.cells (List.replicate n (.slice none 0 0)).toArray 22)
  have HAB := hid (And.intro hAB hbl)
  clear hAB hbl
  have hlm : arcs.length = m := by have := HR.out.1; simpa using this
  have HLM := hid hlm
  clear hlm
  go_loopg [4, 24] n (fun kk s4 s24 wr => ∃ (x q : Nat) (a : Option Addr) (k c : Nat) (vs : List Value), s24 = .int .i64 (x : Int) ∧ x + kk = n ∧ s4 = .slice a k c ∧ k ≤ c ∧ c ≤ 9223372036854775807 ∧ (a = none → c = 0) ∧ k + q = m ∧ Sp arcs q (x : Int) ∧ CRow 7 W1 a k ((arcs.drop q).map acs) ∧ wr.heap[W1.heap.size]? = some (.cells vs.toArray 22 (0, 0)) ∧ vs.length = n ∧ (∀ x', x' < x → ∃ v, vs[x']? = some v ∧ RW W1 v arcs x' (fun b => b < W1.heap.size)) ∧ Below W1.heap.size W1 wr)
  case atStart =>
    refine ⟨0, 0, a1, m, c1, _, rfl, by omega, rfl, hmc, hcc, hnil, by omega, ⟨Nat.zero_le _, fun z hz => by simp at hz, fun z hz => ?_⟩, by simpa using HR.out, HAB.out.1, by simp, fun x' hx => by omega, HAB.out.2⟩
    obtain ⟨x, y, _, _, h1, _⟩ := HV.out.arcs z (by simpa using hz)
    omega
  case round =>
    obtain ⟨x, q, a, kq, c, vs, rfl, hxk, rfl, hkc, hc9, hnl, hkq, hsp, hrow, hab, hvl, hrws, hbw⟩ := hrel
    by_cases hlt : x < n
    · have hlt' : (x : Int) < (n : Int) := by omega
      have hx0 : (0 : Int) ≤ (x : Int) := by omega
      have HX := hid (And.intro hsp (And.intro hrow (And.intro hab (And.intro hvl (And.intro hrws hbw)))))
      have hrow' : CRow 7 wr a kq ((arcs.drop q).map acs) := hrow.below hbw
      have HRW := hid hrow'
      have HQ := hid (And.intro hkq (And.intro hxk hnl))
      clear hsp hrow hab hvl hrws hbw hrow' hkq hlt hnl
      obtain ⟨go, rfl⟩ : ∃ go, go = gk := ⟨_, rfl⟩
      go_wp2_with fail
      go_loopg [7] kq (fun k3 s7 wr2 => ∃ e : Nat, s7 = .int .i64 (e : Int) ∧ e + k3 = kq ∧ (∀ z ∈ (arcs.drop q).take e, z.f = (x : Int)) ∧ wr2 = wr)
      case atStart => exact ⟨0, rfl, by omega, fun z hz => by simp at hz, rfl⟩
      case round =>
        obtain ⟨e, rfl, hek, htk, rfl⟩ := hrel
        have HE := hid htk
        clear htk
        by_cases hlt : e < kq
        · have hlt' : (e : Int) < (kq : Int) := by omega
          have he0 : (0 : Int) ≤ (e : Int) := by omega
          obtain ⟨b0, off, f, t, ee, s, rfl, hbl, ha, q0, -⟩ := arc_at HRW.out hlt
          have HE2 := hid (And.intro ha hbl)
          clear ha hbl
          by_cases hf : f = (x : Int)
          · have hf2 : (f == (x : Int)) = true := by simp [hf]
            go_wp2
            go_roundg (gk - 1)
            case measure => omega
            case rel =>
              refine ⟨e + 1, by go_num, by omega, fun z hz => ?_, rfl⟩
              rw [List.take_add_one, HE2.out.1, List.mem_append] at hz
              rcases hz with hz | hz
              · exact HE.out z hz
              · simp at hz; subst hz; exact hf
          · have hf2 : (f == (x : Int)) = false := by simp [hf]
            have hnext : Sp arcs (q + e) ((x : Int) + 1) := HX.out.1.next HS.out (by have := HLM.out; have := HQ.out.1; omega) HE.out fun z hz => by
              have h1 := HE2.out.1
              rw [List.getElem?_drop, hz] at h1
              simp at h1
              rw [h1]; exact hf
            have HN := hid hnext
            clear hnext
            obtain ⟨v0, hv0⟩ : ∃ v, vs[x]? = some v := ⟨vs[x]'(by have := HX.out.2.2.2.1; omega), List.getElem?_eq_getElem _⟩
            have cab : wr.cell? ⟨W1.heap.size, x, none⟩ = some v0 := by
              have h1 := HX.out.2.2.1
              simp only [World.cell?, h1]
              simpa using hv0
            have fab : wr.frozen? ⟨W1.heap.size, x, none⟩ = false := Go.Frame.free HX.out.2.2.1 x
            clear hv0
            go_wp2_with fail
            go_region
            go_wp2
            go_roundg (go - 1)
            case measure => have := HQ.out.2.1; omega
            case rel =>
              obtain ⟨hsp, hrow, hab, hvl, hrws, hbw⟩ := HX.out
              have hxl : x < vs.length := by rw [hvl]; omega
              refine ⟨x + 1, q + e, some ⟨b0, off + e * 7, none⟩, kq - e, c - e, vs.set x (.slice (some ⟨b0, off, none⟩) e c), by go_num, by have := HQ.out.2.1; omega, rfl, by omega, by omega, (fun h => by cases h), by have := HQ.out.1; omega, HN.out.cast, ?_, set_rows hab, by simp [hvl], ?_, (below_put hbw (Nat.le_refl _)).drew⟩
              · rw [← List.drop_drop, List.map_drop]
                exact CRow_drop hrow (by omega)
              · exact rows_next hxl hrws ⟨_, e, c, (arcs.drop q).take e, rfl, by rw [List.map_take]; exact CRow_take hrow (by omega), by have := HQ.out.1; omega, fun z => hsp.row HE.out HN.out z, fun h0 b off' eq => row_lt hrow (by omega) b off' eq⟩
        · have hlt' : ¬ (e : Int) < (kq : Int) := by omega
          obtain rfl : e = kq := by omega
          have hnext : Sp arcs (q + e) ((x : Int) + 1) := HX.out.1.next HS.out (by have := HLM.out; have := HQ.out.1; omega) HE.out fun z hz => by
            have := (List.getElem?_eq_some_iff.1 hz).1; have := HLM.out; have := HQ.out.1; omega
          have HN := hid hnext
          clear hnext
          cases a with
          | none =>
            obtain rfl : c = 0 := HQ.out.2.2 rfl
            obtain rfl : e = 0 := by omega
            obtain ⟨v0, hv0⟩ : ∃ v, vs[x]? = some v := ⟨vs[x]'(by have := HX.out.2.2.2.1; omega), List.getElem?_eq_getElem _⟩
            have cab : wr.cell? ⟨W1.heap.size, x, none⟩ = some v0 := by
              have h1 := HX.out.2.2.1
              simp only [World.cell?, h1]
              simpa using hv0
            have fab : wr.frozen? ⟨W1.heap.size, x, none⟩ = false := Go.Frame.free HX.out.2.2.1 x
            clear hv0
            go_wp2_with fail
            go_region
            go_wp2
            go_roundg (go - 1)
            case measure => have := HQ.out.2.1; omega
            case rel =>
              obtain ⟨hsp, hrow, hab, hvl, hrws, hbw⟩ := HX.out
              have hxl : x < vs.length := by rw [hvl]; omega
              refine ⟨x + 1, q, _, _, _, vs.set x (.slice none 0 0), by go_num, by have := HQ.out.2.1; omega, rfl, by omega, by omega, (fun _ => rfl), by have := HQ.out.1; omega, HN.out.cast, ?_, set_rows hab, by simp [hvl], ?_, (below_put hbw (Nat.le_refl _)).drew⟩
              · exact hrow
              · exact rows_next hxl hrws ⟨_, 0, 0, (arcs.drop q).take 0, rfl, by rw [List.map_take]; exact CRow_take hrow (by omega), by have := HQ.out.1; omega, fun z => hsp.row HE.out HN.out z, fun h0 b off' eq => row_lt hrow (by omega) b off' eq⟩
          | some ad =>
            obtain ⟨b0, off, sp⟩ := ad
            by_cases h0 : e = 0
            · subst h0
              obtain ⟨v0, hv0⟩ : ∃ v, vs[x]? = some v := ⟨vs[x]'(by have := HX.out.2.2.2.1; omega), List.getElem?_eq_getElem _⟩
              have cab : wr.cell? ⟨W1.heap.size, x, none⟩ = some v0 := by
                have h1 := HX.out.2.2.1
                simp only [World.cell?, h1]
                simpa using hv0
              have fab : wr.frozen? ⟨W1.heap.size, x, none⟩ = false := Go.Frame.free HX.out.2.2.1 x
              clear hv0
              go_wp2_with fail
              go_region
              go_wp2
              go_roundg (go - 1)
              case measure => have := HQ.out.2.1; omega
              case rel =>
                obtain ⟨hsp, hrow, hab, hvl, hrws, hbw⟩ := HX.out
                have hxl : x < vs.length := by rw [hvl]; omega
                refine ⟨x + 1, q, _, _, _, vs.set x (.slice (some ⟨b0, off, sp⟩) 0 c), by go_num, by have := HQ.out.2.1; omega, rfl, by omega, by omega, (fun h => by cases h), by have := HQ.out.1; omega, HN.out.cast, ?_, set_rows hab, by simp [hvl], ?_, (below_put hbw (Nat.le_refl _)).drew⟩
                · exact hrow
                · exact rows_next hxl hrws ⟨_, 0, c, (arcs.drop q).take 0, rfl, by rw [List.map_take]; exact CRow_take hrow (by omega), by have := HQ.out.1; omega, fun z => hsp.row HE.out HN.out z, fun h0 b off' eq => row_lt hrow (by omega) b off' eq⟩
            · obtain rfl : sp = none := by
                rcases HRW.out.2 with h | ⟨b', off', e', _⟩
                · exact absurd h h0
                · simp at e'; exact e'.2.2
              by_cases hce : c = e
              · subst hce
                obtain ⟨v0, hv0⟩ : ∃ v, vs[x]? = some v := ⟨vs[x]'(by have := HX.out.2.2.2.1; omega), List.getElem?_eq_getElem _⟩
                have cab : wr.cell? ⟨W1.heap.size, x, none⟩ = some v0 := by
                  have h1 := HX.out.2.2.1
                  simp only [World.cell?, h1]
                  simpa using hv0
                have fab : wr.frozen? ⟨W1.heap.size, x, none⟩ = false := Go.Frame.free HX.out.2.2.1 x
                clear hv0
                go_wp2_with fail
                go_region
                go_wp2
                go_roundg (go - 1)
                case measure => have := HQ.out.2.1; omega
                case rel =>
                  obtain ⟨hsp, hrow, hab, hvl, hrws, hbw⟩ := HX.out
                  have hxl : x < vs.length := by rw [hvl]; omega
                  refine ⟨x + 1, q + c, _, _, _, vs.set x (.slice (some ⟨b0, off, none⟩) c c), by go_num, by have := HQ.out.2.1; omega, rfl, by omega, by omega, (fun h => by cases h), by have := HQ.out.1; omega, HN.out.cast, ?_, set_rows hab, by simp [hvl], ?_, (below_put hbw (Nat.le_refl _)).drew⟩
                  · exact ⟨by rw [List.drop_of_length_le (by have := HLM.out; have := HQ.out.1; omega)]; rfl, .inl rfl⟩
                  · exact rows_next hxl hrws ⟨_, c, c, (arcs.drop q).take c, rfl, by rw [List.map_take]; exact CRow_take hrow (by omega), by have := HQ.out.1; omega, fun z => hsp.row HE.out HN.out z, fun h0 b off' eq => row_lt hrow (by omega) b off' eq⟩
              · skip
                obtain ⟨v0, hv0⟩ : ∃ v, vs[x]? = some v := ⟨vs[x]'(by have := HX.out.2.2.2.1; omega), List.getElem?_eq_getElem _⟩
                have cab : wr.cell? ⟨W1.heap.size, x, none⟩ = some v0 := by
                  have h1 := HX.out.2.2.1
                  simp only [World.cell?, h1]
                  simpa using hv0
                have fab : wr.frozen? ⟨W1.heap.size, x, none⟩ = false := Go.Frame.free HX.out.2.2.1 x
                clear hv0
                go_wp2_with fail
                go_region
                go_wp2
                go_roundg (go - 1)
                case measure => have := HQ.out.2.1; omega
                case rel =>
                  obtain ⟨hsp, hrow, hab, hvl, hrws, hbw⟩ := HX.out
                  have hxl : x < vs.length := by rw [hvl]; omega
                  refine ⟨x + 1, q + e, _, _, _, vs.set x (.slice (some ⟨b0, off, none⟩) e c), by go_num, by have := HQ.out.2.1; omega, rfl, by omega, by omega, (fun h => by cases h), by have := HQ.out.1; omega, HN.out.cast, ?_, set_rows hab, by simp [hvl], ?_, (below_put hbw (Nat.le_refl _)).drew⟩
                  · exact ⟨by rw [List.drop_of_length_le (by have := HLM.out; have := HQ.out.1; omega)]; rfl, .inl rfl⟩
                  · exact rows_next hxl hrws ⟨_, e, c, (arcs.drop q).take e, rfl, by rw [List.map_take]; exact CRow_take hrow (by omega), by have := HQ.out.1; omega, fun z => hsp.row HE.out HN.out z, fun h0 b off' eq => row_lt hrow (by omega) b off' eq⟩
    · have hlt' : ¬ (x : Int) < (n : Int) := by omega
      have HX := hid (And.intro hab (And.intro hvl (And.intro hrws hbw)))
      clear hsp hrow hab hvl hrws hbw
      go_wp2
      go_ret
      obtain ⟨hab, hvl, hrws, hbw⟩ := HX.out
      refine ⟨⟨W1.heap.size, rfl, H1.out.size, heap_lt hab, ⟨vs, hab⟩, fun x' hx' => ?_⟩, H1.out.trans (hbw.mono H1.out.size)⟩
      obtain ⟨v, h1, h2⟩ := hrws x' (by omega)
      exact ⟨v, by simp only [World.cell?, hab]; simpa using h1, (h2.below hbw).more fun b hb => Nat.lt_of_lt_of_le hb hbw.size⟩
end Go.Proofs.YtogpnlkjcdedlaaDoor
end
