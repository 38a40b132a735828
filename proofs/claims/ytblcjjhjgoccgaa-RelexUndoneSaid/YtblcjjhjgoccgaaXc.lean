/-
  Rows of tokens of the call's own: appended, written, cloned; contracts: slices.Clone, shifted.
-/
import Derived.Test.YtblcjjhjgoccgaaXb
import Derived.Shelf.SlicesE.Clone
import Derived.Lib.AppendZeros
import Derived.Lib.SliceRun
set_option linter.unusedSimpArgs false
set_option linter.unusedVariables false
namespace Go.Proofs
open Go.Shelf
def Try.cloneToks_ren : Go.Shelf.Ren := ⟨fun | 41 => 44 | n => n, fun | 22 => 32 | 23 => 47 | 4 => 4 | n => n, fun | n => n⟩
theorem Try.cloneToks : Go.Proofs.SlLaysE0.n41 Try.prog Try.cloneToks_ren := {
  mixed := by kernel_rfl
  f41 := ⟨Try.f44.name, by decide, Try.func44.trans (congrArg some (by kernel_rfl))⟩
  t4 := Try.underlying4
  a4 := Try.isAgg4
  z4 := Try.sizeOf4
  v4 := Try.zeroValue4
  t22 := Try.underlying32
  a22 := Try.isAgg32
  z22 := Try.sizeOf32
  v22 := Try.zeroValue32 }
end Go.Proofs
namespace Go.Proofs.Ytblcjjhjgoccgaa
open Go.RowKit Lx Go.Frame Go.Shelf

theorem tl_get : ∀ {l : List TQ} {j : Nat} {u : Value}, (tl l)[j]? = some u → ∃ (i r : Nat) (t : TQ), j = i * 4 + r ∧ r < 4 ∧ l[i]? = some t ∧ (tqv t)[r]? = some u
  | [], j, u, h => by simp [tl] at h
  | x :: l, j, u, h => by
    have e1 : tl (x :: l) = tqv x ++ tl l := by simp [tl]
    rw [e1] at h
    by_cases hj : j < 4
    · rw [List.getElem?_append_left (by simpa [tqv] using hj)] at h
      exact ⟨0, j, x, by omega, hj, rfl, h⟩
    · rw [List.getElem?_append_right (by simp [tqv]; omega)] at h
      obtain ⟨i, r, t, h1, h2, h3, h4⟩ := tl_get (l := l) h
      refine ⟨i + 1, r, t, ?_, h2, by simpa using h3, h4⟩
      simp [tqv] at h1
      omega
theorem tl_cells {l : List TQ} : ∀ u ∈ tl l, u.oneCell' = true := by
  intro u hu
  unfold tl at hu
  obtain ⟨t, _, h⟩ := List.mem_flatMap.1 hu
  exact tqv_one u h
/-- A slice of tokens in memory, as the cells of a row. -/
theorem trow_news {W : World} {b off n : Nat} {l : List TQ} (h : TRow W (some ⟨b, off, none⟩) n l) (hn : 0 < n) : ∀ j u, (tl l)[j]? = some u → W.cell? ⟨b, off + j, none⟩ = some u := by
  intro j u hj
  obtain ⟨i, r, t, rfl, hr, h1, h2⟩ := tl_get hj
  rcases h.2 with h0 | ⟨b', off', e, hb, hx⟩
  · omega
  · simp only [Option.some.injEq, Addr.mk.injEq] at e
    obtain ⟨rfl, rfl, _⟩ := e
    rw [← Nat.add_assoc]
    exact hx i _ (by rw [List.getElem?_map, h1]; rfl) r u h2
theorem trow_ptr {W : World} {p : Option Addr} {n : Nat} {l : List TQ} (h : TRow W p n l) (hn : 0 < n) : ∃ b off, p = some ⟨b, off, none⟩ ∧ b < W.heap.size := by
  rcases h.2 with h0 | ⟨b, off, e, hb, _⟩
  · omega
  · exact ⟨b, off, e, hb⟩
theorem own_trow' {W : World} {base : Nat} {p : Option Addr} {n c : Nat} {l : List TQ} (h : W.ownsRow base 47 4 (.slice p n c) n (tl l)) : TRow W p n l := by
  have hl : l.length = n := by have := h.1; rw [tl_length] at this; omega
  obtain ⟨p', c', he, hr⟩ := own_trow (show W.ownsRow base 47 4 (.slice p n c) l.length (tl l) by rw [hl]; exact h)
  simp only [Value.slice.injEq] at he
  rw [he.1, ← hl]
  exact hr
/-- The rest of a slice of tokens. -/
theorem trow_drop {W : World} {p : Option Addr} {n : Nat} {l : List TQ} (h : TRow W p n l) (k : Nat) (hk : k ≤ n) : TRow W (p.map fun a => a.add (k * 4)) (n - k) (l.drop k) := by
  refine ⟨by rw [List.length_map, List.length_drop, h.len], ?_⟩
  by_cases hkn : k = n
  · left; omega
  · obtain ⟨b, off, rfl, hb⟩ := trow_ptr h (by omega)
    right
    refine ⟨b, off + k * 4, by simp only [Option.map_some]; rw [show (⟨b, off, none⟩ : Addr).add (k * 4) = ⟨b, off + k * 4, none⟩ by unfold Addr.add; split <;> simp_all], hb, fun i cs hi j v hj => ?_⟩
    rcases h.2 with h0 | ⟨b', off', e, _, hx⟩
    · omega
    · simp only [Option.some.injEq, Addr.mk.injEq] at e
      obtain ⟨rfl, rfl, _⟩ := e
      have := hx (k + i) cs (by rw [List.getElem?_map] at hi ⊢; rw [List.getElem?_drop] at hi; exact hi) j v hj
      rw [show off + k * 4 + i * 4 + j = off + (k + i) * 4 + j by omega]
      exact this
theorem trow_take {W : World} {p : Option Addr} {n : Nat} {l : List TQ} (h : TRow W p n l) (k : Nat) (hk : k ≤ n) : TRow W p k (l.take k) := by
  refine ⟨by rw [List.length_map, List.length_take, h.len]; omega, ?_⟩
  by_cases hkn : k = 0
  · left; omega
  · obtain ⟨b, off, rfl, hb⟩ := trow_ptr h (by omega)
    right
    refine ⟨b, off, rfl, hb, fun i cs hi j v hj => ?_⟩
    rcases h.2 with h0 | ⟨b', off', e, _, hx⟩
    · omega
    · simp only [Option.some.injEq, Addr.mk.injEq] at e
      obtain ⟨rfl, rfl, _⟩ := e
      refine hx i cs ?_ j v hj
      rw [List.getElem?_map] at hi ⊢
      rw [List.getElem?_take] at hi
      split at hi
      · exact hi
      · cases hi
/-- append of a slice of tokens to a row of the own. -/
theorem wpList_toks {ops : Array Oper} {rest : List Oper} {o : Oper} {a : Act} {w : World} {Q : Exit → Act → World → Prop} (hgd : o.guard = none) (s x : Operand)
    (ho : o.op = .call { callee := .builtin .append, args := #[s, x], argTypes := #[32, 32] }) (hty : o.type = 32) (base : Nat) (a1 a2 : Option Addr) (n1 n2 c1 c2 : Nat) (F L : List TQ)
    (hs : a.eval s = .slice a1 n1 c1) (hown : w.ownsRow base 47 4 (.slice a1 n1 c1) n1 (tl F)) (hx : a.eval x = .slice a2 n2 c2) (h2 : TRow w a2 n2 L)
    (hbase : base ≤ w.heap.size) (hF : n1 ≤ 10000000) (hL : n2 ≤ 10000000)
    (h : ∀ a3 c3 w', w'.ownsRow base 47 4 (.slice a3 (n1 + n2) c3) (n1 + n2) (tl (F ++ L)) → w.grownBy w' (Value.slice a1 n1 c1).ownBlock → wpList Try.prog ops Q rest (a.put o.dst (.slice a3 (n1 + n2) c3)) w') : wpList Try.prog ops Q (o :: rest) a w := by
  obtain ⟨i0, hi, hz0, hz1, hz2⟩ := info_parts info47
  by_cases h0 : n2 = 0
  · subst h0
    obtain rfl : L = [] := List.length_eq_zero_iff.1 h2.len
    refine wpList_plain hgd fun K hK => ?_
    unfold Oper.wp execOp
    simp only [ho, hty, resolve, invoke, builtin, Sem.run_bind, Sem.run_pure, Result.andThen_ok, List.map_toArray, List.map_cons, List.map_nil, hs, hx]
    have hn : (Builtin.append_ #[32, 32] 32 #[.slice a1 n1 c1, .slice a2 0 c2]).run Try.prog w = .ok (.slice a1 n1 c1) w := by
      refine run_append_nothing w 32 32 32 47 i0 Try.underlying32 hi a1 n1 c1 (own_le hown) _ ?_
      cases a2 with
      | none => exact Src.ofNil w Try.underlying32 c2
      | some q => exact Src.ofSlice w Try.underlying32 q 0 c2 [] (by simp) (by simp) (by simp)
    rw [hn]
    have := h a1 c1 w (by simpa using hown) ⟨rfl, rfl, rfl, Nat.le_refl _, fun _ _ _ => rfl⟩
    exact hK _ _ (by simpa using this)
  · obtain ⟨b, off, rfl, hb⟩ := trow_ptr h2 (by omega)
    have hnews := trow_news h2 (by omega)
    refine wpList_append_lies w hgd s x 32 ho base 47 i0 _ 4 40 Try.underlying32 hi hz0 hz1 hz2 rfl (by decide) _ _ _ hs hown ⟨b, off, none⟩ n2 c2 (tl L) hx (by rw [tl_length, h2.len]) (fun j u hj => ?_) tl_cells (by omega) (by unfold maxLen; omega) (by omega) hbase _ rfl ?_
    · rw [show (⟨b, off, none⟩ : Addr).add j = ⟨b, off + j, none⟩ by unfold Addr.add; split <;> simp_all]
      exact hnews j u hj
    · intro g cap w' h1 h2 h3 h4
      rw [tl_app] at h
      exact h _ _ _ h1 h2
/-- A token of a row of the own is moved. -/
theorem own_put {W : World} {base : Nat} {g n c : Nat} {l : List TQ} (h : W.ownsRow base 47 4 (.slice (some ⟨g, 0, none⟩) n c) n (tl l)) {i : Nat} {t : TQ} (hi : l[i]? = some t) (z : Int) :
    (W.setCell ⟨g, i * 4 + 1, none⟩ (.int .i64 z)).ownsRow base 47 4 (.slice (some ⟨g, 0, none⟩) n c) n (tl (l.set i (t.1, z, t.2.2.1, t.2.2.2))) := by
  have hl : l.length = n := by have := h.1; rw [tl_length] at this; omega
  have hil := (List.getElem?_eq_some_iff.1 hi).1
  refine ⟨by rw [tl_length, List.length_set, hl], ?_⟩
  rcases h.2 with ⟨e, _⟩ | ⟨g', cap, cur, e, hb, hg, h1, h2, h3, h4⟩
  · cases e
  · simp only [Value.slice.injEq, Option.some.injEq, Addr.mk.injEq, true_and] at e
    obtain ⟨⟨rfl, _⟩, rfl⟩ := e
    refine .inr ⟨g, c, cur.setIfInBounds (i * 4 + 1) (.int .i64 z), rfl, hb, blk_put hg, h1, h2, by simpa using h3, ?_⟩
    have e1 : tl (l.set i (t.1, z, t.2.2.1, t.2.2.2)) = (tl l).set (i * 4 + 1) (.int .i64 z) := by
      apply List.ext_getElem?
      intro j
      rw [List.getElem?_set]
      by_cases hj : j < n * 4
      · obtain ⟨u, hu⟩ : ∃ u, l[j / 4]? = some u := ⟨l[j / 4]'(by omega), List.getElem?_eq_getElem _⟩
        have hr : j % 4 < 4 := Nat.mod_lt _ (by decide)
        have hlen : ∀ u : TQ, (tqv u).length = 4 := fun u => rfl
        by_cases ei : j / 4 = i
        · subst ei
          rw [hi] at hu; cases hu
          have hset : (l.set (j / 4) (t.1, z, t.2.2.1, t.2.2.2))[j / 4]? = some (t.1, z, t.2.2.1, t.2.2.2) := by rw [List.getElem?_set]; simp [hil]
          have k1 := tl_at (v := (tqv (t.1, z, t.2.2.1, t.2.2.2))[j % 4]'(by rw [hlen]; exact hr)) hset (List.getElem?_eq_getElem _)
          rw [show j / 4 * 4 + j % 4 = j by omega] at k1
          rw [k1]
          have k2 := tl_at (v := (tqv t)[j % 4]'(by rw [hlen]; exact hr)) hi (List.getElem?_eq_getElem _)
          rw [show j / 4 * 4 + j % 4 = j by omega] at k2
          split
          · rename_i e5
            rw [if_pos (by rw [tl_length, hl]; omega)]
            have e6 : j % 4 = 1 := by omega
            simp [tqv, e6]
          · rename_i e5
            rw [k2]
            have e6 : j % 4 = 0 ∨ j % 4 = 2 ∨ j % 4 = 3 := by omega
            rcases e6 with e6 | e6 | e6 <;> simp [tqv, e6]
        · have hset : (l.set i (t.1, z, t.2.2.1, t.2.2.2))[j / 4]? = some u := by rw [List.getElem?_set, if_neg (fun h => ei h.symm)]; exact hu
          have k1 := tl_at (v := (tqv u)[j % 4]'(by rw [hlen]; exact hr)) hset (List.getElem?_eq_getElem _)
          have k2 := tl_at (v := (tqv u)[j % 4]'(by rw [hlen]; exact hr)) hu (List.getElem?_eq_getElem _)
          rw [show j / 4 * 4 + j % 4 = j by omega] at k1 k2
          rw [k1, if_neg (by omega), k2]
      · rw [List.getElem?_eq_none (by rw [tl_length, List.length_set, hl]; omega)]
        split
        · omega
        · rw [List.getElem?_eq_none (by rw [tl_length, hl]; omega)]
    rw [e1, ← h4]
    apply List.ext_getElem?
    intro j
    simp only [List.getElem?_take, List.getElem?_set, Array.toList_setIfInBounds, List.length_take, Array.length_toList, h3]
    by_cases e7 : i * 4 + 1 = j
    · subst e7
      rw [if_pos rfl, if_pos rfl, if_pos (by omega), if_pos (by omega), if_pos (by omega)]
    · rw [if_neg e7, if_neg e7]
/-- What a function returns that makes a row of tokens. -/
def ORes (w : World) (l : List TQ) (e : Ending) (w' : World) : Prop := (∃ a c, e = .returned (.slice a l.length c) ∧ w'.ownsRow w.heap.size 47 4 (.slice a l.length c) l.length (tl l)) ∧ Below w.heap.size w w'
set_option maxRecDepth 100000 in
set_option maxHeartbeats 4000000 in
theorem Clone_any (w : World) (a : Option Addr) (n c : Nat) (l : List TQ) (h : TRow w a n l) (hn : n ≤ 1000000) : Calls Try.prog 44 #[.slice a n c] w (ORes w l) := by
  obtain ⟨i0, hi, hz0, hz1, hz2⟩ := info_parts info47
  have hl := h.len
  by_cases h0 : n = 0
  · subst h0
    obtain rfl : l = [] := List.length_eq_zero_iff.1 hl
    cases a with
    | none =>
      refine (AnyE.slices_Clone_nil Try.cloneToks 0 c w).mono ?_
      rintro e w' ⟨rfl, rfl⟩
      exact ⟨⟨none, 0, rfl, World.ownsRow_nil _ _ _ _⟩, Below.refl _ _⟩
    | some q =>
      have hr : ∀ W : World, (Builtin.append_ #[32, 32] 32 #[.slice (some ⟨w.heap.size, 0, none⟩) 0 0, .slice (some q) 0 c]).run Try.prog W = .ok (.slice (some ⟨w.heap.size, 0, none⟩) 0 0) W := fun W =>
        run_append_nothing W 32 32 32 47 i0 Try.underlying32 hi _ 0 0 (Nat.le_refl _) _ (Src.ofSlice W Try.underlying32 q 0 c [] (by simp) (by simp) (by simp))
      have q32 : ∀ (w : World) (a : Option Addr) (n c n' c' : Nat), (binOp .eql 32 (.slice a n c) (.slice none n' c')).run Try.prog w = .ok (.bool a.isNone) w := fun w a n c n' c' => Lib.run_eql_slice_nil w _ _ a n c n' c' Try.underlying32
      have bb := (Below.refl w.heap.size w).alloc (Nat.le_refl _) (.cells #[] 47)
      have ho := hid (World.ownsRow_made (e := 47) (size := 4) w #[] 0 (Nat.le_refl _) (Nat.zero_le _) (by simp))
      go_enter Try.func44, Try.ntmps44
      go_wp2_with (at_builtin; refine Lib.wpList_append_run _ rfl _ _ _ _ rfl _ _ rfl rfl _ _ (hr _) ?_)
      go_ret
      exact ⟨⟨_, _, rfl, by simpa [tl] using ho.out⟩, bb⟩
  · obtain ⟨b, off, rfl, hb⟩ := trow_ptr h (by omega)
    have hx := AnyE.slices_Clone Try.cloneToks i0 _ 4 40 hi hz0 hz1 hz2 (by rfl) (by decide) Try.sizeOf47 b off n c (tl l) w (by rw [tl_length, hl]) (by unfold maxLen; omega) (by omega) (trow_news h (by omega)) tl_cells
    refine Calls.mono hx ?_
    rintro e w' ⟨v', rfl, hown, _, hb⟩
    obtain ⟨p, c', rfl⟩ := own_form hown
    exact ⟨⟨p, c', by rw [hl], by rw [hl]; exact hown⟩, hb⟩
def shd (d : Int) (l : List TQ) (i : Nat) : List TQ := (l.take i).map (mvI d) ++ l.drop i
theorem shd_at {d : Int} {l : List TQ} {i : Nat} {t : TQ} (h : l[i]? = some t) : (shd d l i)[i]? = some t ∧ (shd d l i).set i (t.1, t.2.1 + d, t.2.2.1, t.2.2.2) = shd d l (i + 1) := by
  obtain ⟨hl, rfl⟩ := List.getElem?_eq_some_iff.1 h
  have hlen : ((l.take i).map (mvI d)).length = i := by rw [List.length_map, List.length_take]; omega
  unfold shd
  constructor
  · rw [List.getElem?_append_right (by omega), hlen, Nat.sub_self, List.getElem?_drop]; simp
  · rw [List.set_append, if_neg (by omega), hlen, Nat.sub_self, List.drop_eq_getElem_cons hl, List.set_cons_zero, List.take_add_one, h, List.map_append, List.append_assoc]
    rfl
theorem shd_len (d : Int) (l : List TQ) (i : Nat) : (shd d l i).length = l.length := by
  unfold shd; rw [List.length_append, List.length_map, ← List.length_append, List.take_append_drop]
set_option maxRecDepth 100000 in
set_option maxHeartbeats 4000000 in
theorem shifted_any (w : World) (a : Option Addr) (n c : Nat) (l : List TQ) (h : TRow w a n l) (hn : n ≤ 1000000) (hB : TBd l) (d : Int) (hd1 : -1000000 ≤ d) (hd2 : d ≤ 1000000) :
    Calls Try.prog 28 #[.slice a n c, .int .i64 d] w (ORes w (l.map (mvI d))) := by
  have HC := hid (Clone_any w a n c l h hn)
  have HL := hid h.len
  have HT := hid hB
  clear h hB
  go_enter Try.func28, Try.ntmps28
  go_wp2_with fail
  refine HC.out.mono ?_
  rintro e V ⟨⟨p, c', rfl, hown⟩, hb⟩
  rw [HL.out] at hown ⊢
  have HO := hid hown
  have HB := hid hb
  have hpn : n = 0 ∨ ∃ g, p = some ⟨g, 0, none⟩ := by
    rcases hown.2 with ⟨e1, h1⟩ | ⟨g, cap, cur, e1, _⟩
    · exact .inl h1
    · simp only [Value.slice.injEq] at e1; exact .inr ⟨g, e1.1⟩
  clear hown hb HC
  go_wp2_with fail
  go_loopg [10] n (fun kk s10 wr => ∃ (i : Nat), s10 = .int .i64 (i : Int) ∧ i + kk = n ∧ wr.ownsRow w.heap.size 47 4 (.slice p n c') n (tl (shd d l i)) ∧ Below w.heap.size w wr)
  case atStart => exact ⟨0, rfl, by omega, HO.out, HB.out⟩
  case round =>
    obtain ⟨i, rfl, hk, hown, hb⟩ := hrel
    by_cases hlt : i < n
    · have hlt' : (i : Int) < (n : Int) := by omega
      have hi0 : (0 : Int) ≤ (i : Int) := by omega
      obtain ⟨g, rfl⟩ := hpn.resolve_left (by omega)
      obtain ⟨⟨xk, xa, xs, xl⟩, hx⟩ : ∃ t, l[i]? = some t := ⟨l[i]'(by have := HL.out; omega), List.getElem?_eq_getElem _⟩
      obtain ⟨k1, k2⟩ := shd_at (d := d) hx
      have hrow := own_trow' hown
      obtain ⟨b, o, t', e1, _, hx', x0, x1, x2, x3⟩ := trow_at hrow hlt
      simp only [Option.some.injEq, Addr.mk.injEq] at e1
      obtain ⟨rfl, rfl, _⟩ := e1
      rw [k1] at hx'
      cases hx'
      simp only [Nat.zero_add] at x0 x1 x2 x3
      have hbd := HT.out _ (List.mem_of_getElem? hx)
      simp only at hbd
      have hsum : IntKind.i64.wrap (xa + d) = xa + d := wrapIn (by omega) (by omega)
      have hfr : wr.frozen? ⟨g, i * 4 + 1, none⟩ = false := by
        rcases hown.2 with ⟨e, _⟩ | ⟨g', cap, cur, e, _, hg, _⟩
        · cases e
        · simp only [Value.slice.injEq, Option.some.injEq, Addr.mk.injEq, true_and] at e
          obtain ⟨⟨rfl, _⟩, _⟩ := e
          exact Go.Frame.free hg _
      have hge : w.heap.size ≤ g := (hown.lt g rfl).1
      have HN := hid (And.intro (own_put hown k1 (xa + d)) (And.intro hb hge))
      have K2 := hid k2
      clear hown hb hrow hx k1 k2 x0 x2 x3 hbd hge
      go_wp2
      go_roundg (gk - 1)
      case measure => omega
      case rel =>
        refine ⟨i + 1, by go_num, by omega, ?_, HN.out.2.1.setCell HN.out.2.2 _⟩
        rw [← K2.out]
        exact HN.out.1
    · have hlt' : ¬ (i : Int) < (n : Int) := by omega
      have hall : shd d l i = l.map (mvI d) := by
        unfold shd
        rw [List.take_of_length_le (by have := HL.out; omega), List.drop_of_length_le (by have := HL.out; omega), List.append_nil]
      rw [hall] at hown
      have HF := hid (And.intro hown hb)
      clear hown hb hall
      go_wp2
      go_ret
      refine ⟨⟨p, c', ?_, ?_⟩, HF.out.2⟩
      · rw [List.length_map, HL.out]; rfl
      · rw [List.length_map, HL.out]; exact HF.out.1
end Go.Proofs.Ytblcjjhjgoccgaa
