/-
  append of a row of numbers to a row of the own.
-/
import Derived.Test.YtogpnlkjcdedlaaDoorBh
import Derived.Deep.AppendSrc
set_option linter.unusedSimpArgs false
set_option linter.unusedVariables false
namespace Go.Proofs.YtogpnlkjcdedlaaDoor
open Go.RowKit Bs Rg Nf Go.Frame
attribute [local go_sem] eq_zero eq_set

theorem own_le {W : World} {base e s n c : Nat} {a : Option Addr} {xs : List Value} (h : W.ownsRow base e s (.slice a n c) n xs) : n ≤ c := by
  rcases h.2 with ⟨e1, h0⟩ | ⟨g, cap, cur, e1, hb, hgg, hn2, _⟩
  · omega
  · simp only [Value.slice.injEq] at e1
    omega
theorem append_none {W : World} {base : Nat} {a1 a2 : Option Addr} {n c1 c2 : Nat} {xs : List Value} (h : W.ownsRow base 3 1 (.slice a1 n c1) n xs) : (Builtin.append_ #[23, 23] 23 #[.slice a1 n c1, .slice a2 0 c2]).run Tryd.prog W = .ok (.slice a1 n c1) W := by
  obtain ⟨i0, hi, hz0, hz1, hz2⟩ := info_parts Tryd.info3
  refine run_append_nothing W 23 23 23 3 i0 Tryd.underlying23 hi a1 n c1 (own_le h) _ ?_
  cases a2 with
  | none => exact Src.ofNil W Tryd.underlying23 c2
  | some q => exact Src.ofSlice W Tryd.underlying23 q 0 c2 [] (by simp) (by simp) (by simp)
theorem ints_append (F L : List Nat) : ints (F ++ L) = ints F ++ ints L := by simp [ints]
theorem ints_length (F : List Nat) : (ints F).length = F.length := by simp [ints]
theorem wpList_row {ops : Array Oper} {rest : List Oper} {o : Oper} {a : Act} {w : World} {Q : Exit → Act → World → Prop} (hgd : o.guard = none) (s x : Operand)
    (ho : o.op = .call { callee := .builtin .append, args := #[s, x], argTypes := #[23, 23] }) (hty : o.type = 23) (base b2 : Nat) (a1 a2 : Option Addr) (c1 c2 : Nat) (F L : List Nat)
    (hs : a.eval s = .slice a1 F.length c1) (hown : w.ownsRow base 3 1 (.slice a1 F.length c1) F.length (ints F)) (hx : a.eval x = .slice a2 L.length c2) (hown2 : w.ownsRow b2 3 1 (.slice a2 L.length c2) L.length (ints L))
    (hbase : base ≤ w.heap.size) (hF : F.length ≤ 1000) (hL : L.length ≤ 1000)
    (h : ∀ FF a3 c3 w', Hid (FF = F ++ L) → w'.ownsRow base 3 1 (.slice a3 FF.length c3) FF.length (ints FF) → w.grownBy w' (Value.slice a1 F.length c1).ownBlock → (∀ k, (Value.slice a3 FF.length c3).ownBlock = some k → (Value.slice a1 F.length c1).ownBlock = some k ∨ w.heap.size ≤ k) → wpList Tryd.prog ops Q rest (a.put o.dst (.slice a3 FF.length c3)) w') : wpList Tryd.prog ops Q (o :: rest) a w := by
  obtain ⟨i0, hi, hz0, hz1, hz2⟩ := info_parts Tryd.info3
  by_cases h0 : L.length = 0
  · obtain rfl : L = [] := List.length_eq_zero_iff.1 h0
    refine wpList_plain hgd fun K hK => ?_
    unfold Oper.wp execOp
    simp only [ho, hty, resolve, invoke, builtin, Sem.run_bind, Sem.run_pure, Result.andThen_ok, List.map_toArray, List.map_cons, List.map_nil, hs, hx]
    have hn := append_none (a2 := a2) (c2 := c2) hown
    simp only [List.length_nil] at *
    rw [hn]
    have := h F a1 c1 w (hid (by simp)) (by simpa using hown) ⟨rfl, rfl, rfl, Nat.le_refl _, fun _ _ _ => rfl⟩ (fun k hk => .inl (by simpa using hk))
    exact hK _ _ (by simpa using this)
  · rcases hown2.2 with ⟨e, h9⟩ | ⟨g, cap, cur, e, hb, hgg, hn2, hcm, hc2, ht⟩
    · omega
    · simp only [Value.slice.injEq] at e
      obtain ⟨rfl, _, rfl⟩ := e
      refine wpList_append_lies w hgd s x 23 ho base 3 i0 (.int .i64 0) 1 8 Tryd.underlying23 hi hz0 hz1 hz2 rfl (by decide) _ _ _ hs hown ⟨g, 0, none⟩ L.length c2 (ints L) hx (by rw [ints_length]; omega) (fun j u hj => ?_) (fun u hu => ?_) (by omega) (by unfold maxLen; omega) (by omega) hbase _ rfl ?_
      · obtain ⟨g', e', _, h8, _⟩ := own_cell hown2 hj
        simp only [Option.some.injEq, Addr.mk.injEq] at e'
        rw [← e'.1] at h8
        unfold Addr.add
        split
        · rename_i h7; rw [h7] at h8; exact h8
        · simpa using h8
      · simp only [ints, List.mem_map] at hu
        obtain ⟨y, _, rfl⟩ := hu
        rfl
      · intro g5 cap5 w' h1 h2 h3 h4
        have := h (F ++ L) (some ⟨g5, 0, none⟩) cap5 w' (hid rfl) (by rw [ints_append, List.length_append]; exact h1) h2 (fun k hk => by
          simp [Value.ownBlock] at hk
          subst hk
          rcases h3 with h3 | h3
          · exact .inl h3
          · exact .inr (by omega))
        rw [List.length_append] at this
        exact this
/-- The part under way in its box, beside the builder. -/
structure PT (G0 : Nat → Prop) (Y wr : World) (base bb most : Nat) (S : List BS) (M : Nat → Nat → Bool) (A : List Int) (G1 : Nat → Prop) (p5 : Nat) (nl : Bool) (a1 : Option Addr) (c1 : Nat) (F : List Nat) (a2 : Option Addr) (c2 : Nat) (L : List Nat) : Prop where
  bx : BX G1 wr base bb most S M A
  sub : ∀ b, G1 b → G0 b ∨ Y.heap.size ≤ b
  g0 : ∀ b, G0 b → b < p5
  pz : p5 + 1 = Y.heap.size
  box : wr.heap[p5]? = some (.cells #[.bool nl, .slice a1 F.length c1, .slice a2 L.length c2] 108 (0, 0))
  pf : PR G1 wr Y.heap.size (.slice a1 F.length c1) F
  pl : PR G1 wr Y.heap.size (.slice a2 L.length c2) L
  ne : ∀ k, (Value.slice a1 F.length c1).ownBlock = some k → (Value.slice a2 L.length c2).ownBlock ≠ some k
  kp : Kept (fun b => G0 b ∨ b = p5 ∨ Y.heap.size ≤ b) Y wr
theorem PT.np5 {G0 G1 : Nat → Prop} {Y wr : World} {base bb most p5 : Nat} {S : List BS} {M : Nat → Nat → Bool} {A : List Int} {nl : Bool} {a1 a2 : Option Addr} {c1 c2 : Nat} {F L : List Nat} (h : PT G0 Y wr base bb most S M A G1 p5 nl a1 c1 F a2 c2 L) : ¬ G1 p5 := fun hg => by
  have := h.pz
  rcases h.sub p5 hg with h1 | h1
  · have := h.g0 _ h1; omega
  · omega
theorem PT.put {G0 G1 : Nat → Prop} {Y wr : World} {base bb most p5 : Nat} {S : List BS} {M : Nat → Nat → Bool} {A : List Int} {nl : Bool} {a1 a2 : Option Addr} {c1 c2 : Nat} {F L : List Nat} (h : PT G0 Y wr base bb most S M A G1 p5 nl a1 c1 F a2 c2 L) (j : Nat) (v : Value) : BX G1 (wr.setCell ⟨p5, j, none⟩ v) base bb most S M A ∧ PR G1 (wr.setCell ⟨p5, j, none⟩ v) Y.heap.size (.slice a1 F.length c1) F ∧ PR G1 (wr.setCell ⟨p5, j, none⟩ v) Y.heap.size (.slice a2 L.length c2) L ∧ Kept (fun b => G0 b ∨ b = p5 ∨ Y.heap.size ≤ b) Y (wr.setCell ⟨p5, j, none⟩ v) := by
  have hk : Kept (fun b => b = p5) wr (wr.setCell ⟨p5, j, none⟩ v) := (Kept.refl (fun b => b = p5) wr).setCell (p := ⟨p5, j, none⟩) rfl v
  have hp := h.pz
  exact ⟨h.bx.kept hk fun b hb e => h.np5 ((show b = p5 from e) ▸ hb), h.pf.kept hk fun k hk' e => by have := (h.pf.1.lt k hk').1; omega, h.pl.kept hk fun k hk' e => by have := (h.pl.1.lt k hk').1; omega, h.kp.trans (hk.mono fun b hb => .inr (.inl hb))⟩
theorem PT.nul {G0 G1 : Nat → Prop} {Y wr : World} {base bb most p5 : Nat} {S : List BS} {M : Nat → Nat → Bool} {A : List Int} {nl : Bool} {a1 a2 : Option Addr} {c1 c2 : Nat} {F L : List Nat} (h : PT G0 Y wr base bb most S M A G1 p5 nl a1 c1 F a2 c2 L) (nl' : Bool) : PT G0 Y (wr.setCell ⟨p5, 0, none⟩ (.bool nl')) base bb most S M A G1 p5 nl' a1 c1 F a2 c2 L := by
  obtain ⟨h1, h2, h3, h4⟩ := h.put 0 (.bool nl')
  exact ⟨h1, h.sub, h.g0, h.pz, (blk_put h.box).trans rfl, h2, h3, h.ne, h4⟩
theorem PT.clr {G0 G1 : Nat → Prop} {Y wr : World} {base bb most p5 : Nat} {S : List BS} {M : Nat → Nat → Bool} {A : List Int} {nl : Bool} {a1 a2 : Option Addr} {c1 c2 : Nat} {F L : List Nat} (h : PT G0 Y wr base bb most S M A G1 p5 nl a1 c1 F a2 c2 L) : PT G0 Y (wr.setCell ⟨p5, 2, none⟩ (.slice none 0 0)) base bb most S M A G1 p5 nl a1 c1 F none 0 [] := by
  obtain ⟨h1, h2, h3, h4⟩ := h.put 2 (.slice none 0 0)
  exact ⟨h1, h.sub, h.g0, h.pz, (blk_put h.box).trans rfl, h2, PR.nil _ _ _, fun k _ h => by simp [Value.ownBlock] at h, h4⟩
theorem PT.first {G0 G1 : Nat → Prop} {Y wr : World} {base bb most p5 : Nat} {S : List BS} {M : Nat → Nat → Bool} {A : List Int} {nl : Bool} {a1 a2 : Option Addr} {c1 c2 : Nat} {F L : List Nat} (h : PT G0 Y wr base bb most S M A G1 p5 nl a1 c1 F a2 c2 L) {w' : World} {a3 : Option Addr} {c3 : Nat} {FF : List Nat} (ho : w'.ownsRow Y.heap.size 3 1 (.slice a3 FF.length c3) FF.length (ints FF)) (hg : wr.grownBy w' (Value.slice a1 F.length c1).ownBlock) (hw : ∀ k, (Value.slice a3 FF.length c3).ownBlock = some k → (Value.slice a1 F.length c1).ownBlock = some k ∨ wr.heap.size ≤ k) :
    PT G0 Y (w'.setCell ⟨p5, 1, none⟩ (.slice a3 FF.length c3)) base bb most S M A G1 p5 nl a3 c3 FF a2 c2 L := by
  have hp := h.pz
  have k1 : Kept (fun b => (Value.slice a1 F.length c1).ownBlock = some b ∨ wr.heap.size ≤ b) wr w' := Kept.grown (Kept.refl _ _) hg (fun b hb => .inr hb) (fun k hk => .inl hk)
  have hp5 : p5 < wr.heap.size := heap_lt h.box
  have n1 : ∀ b, G1 b → ¬ ((Value.slice a1 F.length c1).ownBlock = some b ∨ wr.heap.size ≤ b) := fun b hb => by
    rintro (e | e)
    · exact h.pf.2 b e hb
    · have := (h.bx.lt b hb).2; omega
  have n2 : ∀ k, (Value.slice a2 L.length c2).ownBlock = some k → ¬ ((Value.slice a1 F.length c1).ownBlock = some k ∨ wr.heap.size ≤ k) := fun k hk => by
    rintro (e | e)
    · exact h.ne k e hk
    · have := (h.pl.1.lt k hk).2; omega
  have hb : w'.heap[p5]? = some (.cells #[.bool nl, .slice a1 F.length c1, .slice a2 L.length c2] 108 (0, 0)) := (k1.block p5 (by
    rintro (e | e)
    · have := (h.pf.1.lt _ e).1; omega
    · omega)).trans h.box
  have k2 : Kept (fun b => b = p5) w' (w'.setCell ⟨p5, 1, none⟩ (.slice a3 FF.length c3)) := (Kept.refl (fun b => b = p5) w').setCell (p := ⟨p5, 1, none⟩) rfl _
  have hs0 := h.kp.size
  refine ⟨(h.bx.kept k1 n1).kept k2 fun b hb e => h.np5 ((show b = p5 from e) ▸ hb), h.sub, h.g0, h.pz, (blk_put hb).trans rfl, ⟨own_kept ho k2 fun k hk e => by have := (ho.lt k hk).1; omega, fun k hk hg1 => ?_⟩, (h.pl.kept k1 n2).kept k2 fun k hk e => by have := (h.pl.1.lt k hk).1; omega, fun k hk hk2 => ?_, (h.kp.trans (k1.mono fun b hb => ?_)).trans (k2.mono fun b hb => .inr (.inl hb))⟩
  · rcases hw k hk with e | e
    · exact h.pf.2 k e hg1
    · have := (h.bx.lt k hg1).2; omega
  · rcases hw k hk with e | e
    · exact h.ne k e hk2
    · have := (h.pl.1.lt k hk2).2; omega
  · rcases hb with e | e
    · exact .inr (.inr (h.pf.1.lt _ e).1)
    · exact .inr (.inr (by omega))
theorem PT.last {G0 G1 : Nat → Prop} {Y wr : World} {base bb most p5 : Nat} {S : List BS} {M : Nat → Nat → Bool} {A : List Int} {nl : Bool} {a1 a2 : Option Addr} {c1 c2 : Nat} {F L : List Nat} (h : PT G0 Y wr base bb most S M A G1 p5 nl a1 c1 F a2 c2 L) {w' : World} {a3 : Option Addr} {c3 : Nat} {FF : List Nat} (ho : w'.ownsRow Y.heap.size 3 1 (.slice a3 FF.length c3) FF.length (ints FF)) (hg : wr.grownBy w' (Value.slice a2 L.length c2).ownBlock) (hw : ∀ k, (Value.slice a3 FF.length c3).ownBlock = some k → (Value.slice a2 L.length c2).ownBlock = some k ∨ wr.heap.size ≤ k) :
    PT G0 Y (w'.setCell ⟨p5, 2, none⟩ (.slice a3 FF.length c3)) base bb most S M A G1 p5 nl a1 c1 F a3 c3 FF := by
  have hp := h.pz
  have k1 : Kept (fun b => (Value.slice a2 L.length c2).ownBlock = some b ∨ wr.heap.size ≤ b) wr w' := Kept.grown (Kept.refl _ _) hg (fun b hb => .inr hb) (fun k hk => .inl hk)
  have hp5 : p5 < wr.heap.size := heap_lt h.box
  have n1 : ∀ b, G1 b → ¬ ((Value.slice a2 L.length c2).ownBlock = some b ∨ wr.heap.size ≤ b) := fun b hb => by
    rintro (e | e)
    · exact h.pl.2 b e hb
    · have := (h.bx.lt b hb).2; omega
  have n2 : ∀ k, (Value.slice a1 F.length c1).ownBlock = some k → ¬ ((Value.slice a2 L.length c2).ownBlock = some k ∨ wr.heap.size ≤ k) := fun k hk => by
    rintro (e | e)
    · exact h.ne k hk e
    · have := (h.pf.1.lt k hk).2; omega
  have hb : w'.heap[p5]? = some (.cells #[.bool nl, .slice a1 F.length c1, .slice a2 L.length c2] 108 (0, 0)) := (k1.block p5 (by
    rintro (e | e)
    · have := (h.pl.1.lt _ e).1; omega
    · omega)).trans h.box
  have k2 : Kept (fun b => b = p5) w' (w'.setCell ⟨p5, 2, none⟩ (.slice a3 FF.length c3)) := (Kept.refl (fun b => b = p5) w').setCell (p := ⟨p5, 2, none⟩) rfl _
  have hs0 := h.kp.size
  refine ⟨(h.bx.kept k1 n1).kept k2 fun b hb e => h.np5 ((show b = p5 from e) ▸ hb), h.sub, h.g0, h.pz, (blk_put hb).trans rfl, (h.pf.kept k1 n2).kept k2 fun k hk e => by have := (h.pf.1.lt k hk).1; omega, ⟨own_kept ho k2 fun k hk e => by have := (ho.lt k hk).1; omega, fun k hk hg1 => ?_⟩, fun k hk hk2 => ?_, (h.kp.trans (k1.mono fun b hb => ?_)).trans (k2.mono fun b hb => .inr (.inl hb))⟩
  · rcases hw k hk with e | e
    · exact h.pl.2 k e hg1
    · have := (h.bx.lt k hg1).2; omega
  · rcases hw k hk2 with e | e
    · exact h.ne k hk e
    · have := (h.pf.1.lt k hk).2; omega
  · rcases hb with e | e
    · exact .inr (.inr (h.pl.1.lt _ e).1)
    · exact .inr (.inr (by omega))
/-- What a call did that may write to G1 and to new blocks. -/
theorem PT.call {G0 G1 : Nat → Prop} {Y wr : World} {base bb most p5 : Nat} {S : List BS} {M : Nat → Nat → Bool} {A : List Int} {nl : Bool} {a1 a2 : Option Addr} {c1 c2 : Nat} {F L : List Nat} (h : PT G0 Y wr base bb most S M A G1 p5 nl a1 c1 F a2 c2 L) {w' : World} {S' : List BS} {M' : Nat → Nat → Bool} {A' : List Int} {G2 : Nat → Prop} (hk : Kept (fun b => G1 b ∨ wr.heap.size ≤ b) wr w') (hb : BX G2 w' base bb most S' M' A') (hG : ∀ b, G2 b → G1 b ∨ wr.heap.size ≤ b) : PT G0 Y w' base bb most S' M' A' G2 p5 nl a1 c1 F a2 c2 L := by
  have hp5 : p5 < wr.heap.size := heap_lt h.box
  have hs0 := h.kp.size
  have m1 : ∀ {v l}, PR G1 wr Y.heap.size v l → PR G2 w' Y.heap.size v l := fun {v l} hp => ⟨own_kept hp.1 hk fun k hk' => by
      rintro (e | e)
      · exact hp.2 k hk' e
      · have := (hp.1.lt k hk').2; omega, fun k hk' hg => by
      rcases hG k hg with e | e
      · exact hp.2 k hk' e
      · have := (hp.1.lt k hk').2; omega⟩
  refine ⟨hb, fun b hb => ?_, h.g0, h.pz, (hk.block p5 (by rintro (e | e); exact h.np5 e; omega)).trans h.box, m1 h.pf, m1 h.pl, h.ne, h.kp.trans (hk.mono fun b hb => ?_)⟩
  · rcases hG b hb with e | e
    · exact h.sub b e
    · exact .inr (by omega)
  · rcases hb with e | e
    · exact (h.sub b e).imp_right .inr
    · exact .inr (.inr (by omega))
theorem PT.below {G0 G1 : Nat → Prop} {Y wr : World} {base bb most p5 : Nat} {S : List BS} {M : Nat → Nat → Bool} {A : List Int} {nl : Bool} {a1 a2 : Option Addr} {c1 c2 : Nat} {F L : List Nat} (h : PT G0 Y wr base bb most S M A G1 p5 nl a1 c1 F a2 c2 L) {w' : World} (hb : Below wr.heap.size wr w') : PT G0 Y w' base bb most S M A G1 p5 nl a1 c1 F a2 c2 L := h.call (Kept.below hb fun b hb => .inr hb) (h.bx.below hb) fun b hb => .inl hb
end Go.Proofs.YtogpnlkjcdedlaaDoor
