/-
  Contracts: the reference's Lex; equal tokens; Same; light.
-/
import Derived.Test.YtblcjjhjgoccgaaF
import Derived.Test.YtblcjjhjgoccgaaRv
import Derived.Laws.StructEq
set_option linter.unusedSimpArgs false
set_option linter.unusedVariables false
namespace Go.Proofs.Ytblcjjhjgoccgaa
open Go.RowKit Lx Go.Frame

set_option maxRecDepth 100000 in
set_option maxHeartbeats 4000000 in
theorem RLex_any (w : World) (D : Df) (n k : Nat) (hv : Vd D n k) (a1 : Option Addr) (n1 c1 : Nat) (a2 : Option Addr) (n2 c2 : Nat) (a3 : Option Addr) (n3 c3 : Nat) (h : DA w D a1 n1 a2 n2 a3 n3) (s : ByteArray) (hs : s.size ≤ 1000000) :
    Calls Try.prog 11 #[.agg #[.slice a1 n1 c1, .slice a2 n2 c2, .slice a3 n3 c3], .string s] w (TRes w (lexT D s)) := by
  have CR := hid (fun W (hb : Below w.heap.size w W) p (hp : p < s.size) => RAt_any W D n k hv a1 n1 c1 a2 n2 c2 a3 n3 c3 (h.below hb) s hs p hp)
  have hval := valid_iff.2 ⟨n, k, hv⟩
  have HV := hid (And.intro hv hval)
  obtain ⟨W, hW⟩ : ∃ W, W = w.alloc (.cells #[.slice a1 n1 c1, .slice a2 n2 c2, .slice a3 n3 c3] 25) := ⟨_, rfl⟩
  have x1 := alloc_new w (.cells #[.slice a1 n1 c1, .slice a2 n2 c2, .slice a3 n3 c3] 25)
  have bW := bel1 w (.cells #[.slice a1 n1 c1, .slice a2 n2 c2, .slice a3 n3 c3] 25)
  rw [← hW] at x1 bW
  have HW := hid (And.intro x1 bW)
  obtain ⟨d0, d1, d2⟩ := cells3 x1
  clear h hv hval x1 bW
  obtain ⟨i0, hi, hz0, hz1, hz2⟩ := info_parts info47
  go_enter Try.func11, Try.ntmps11
  go_upto_region 1 with fail
  rw [← hW]
  clear hW
  obtain ⟨V, hVW⟩ : ∃ V, V = W := ⟨_, rfl⟩
  subst hVW
  have HB := hid HW.out.2
  have HX := hid HW.out.1
  clear d0 d1 d2
  go_wp2_with fail
  go_loopg [5, 6] (s.size) (fun kk s5 s6 wr => ∃ (i : Nat) (out : List TQ), s6 = .int .i64 (i : Int) ∧ i ≤ s.size ∧ kk = s.size - i ∧ Hid (out ++ (lexAt D s i).map tq = lexT D s) ∧
    wr.ownsRow V.heap.size 47 4 s5 out.length (tl out) ∧ wr.heap[w.heap.size]? = some (.cells #[.slice a1 n1 c1, .slice a2 n2 c2, .slice a3 n3 c3] 25 (0, 0)) ∧ Below V.heap.size V wr)
  case atStart => exact ⟨0, [], rfl, by omega, by omega, hid rfl, World.ownsRow_nil _ _ _ _, HX.out, Below.refl _ _⟩
  case round =>
    obtain ⟨i, out, rfl, his, hk, HR, hown, hx, hb⟩ := hrel
    by_cases hlt : i < s.size
    · have hlt' : (i : Int) < (s.size : Int) := by omega
      obtain ⟨d0, d1, d2⟩ := cells3 hx
      have HO := hid hown
      have HBr := hid hb
      have HXr := hid hx
      have CC := hid (CR.out wr (HB.out.trans (hb.mono HB.out.size)) i hlt)
      have HE := hid (show (lexAt D s i).map tq = tq (tokAt D s i) :: (lexAt D s (i + (sc D s i).2.1)).map tq from by rw [lexAt_cons hlt]; rfl)
      obtain ⟨q1, q2, q3, q4, q5⟩ := sc_bounds (D := D) hlt
      have ql := tok_len (D := D) hlt
      obtain ⟨z, hz⟩ : ∃ z, z = (sc D s i).2.1 := ⟨_, rfl⟩
      rw [← hz] at q1 q2 ql HE
      have HTok := hid (show (.agg #[.int .i64 (sc D s i).1, .int .i64 (i : Int), .string (s.extract i (i + (sc D s i).2.1)), .int .i64 ((sc D s i).2.2 : Int)] : Value) = .agg #[.int .i64 (tokAt D s i).kind, .int .i64 (i : Int), .string (tokAt D s i).txt, .int .i64 ((tokAt D s i).look : Int)] from rfl)
      have hol := hid (show out.length < 1000000 from by
        have h1 := lexT_len D s
        have h2 := congrArg List.length HR.out
        rw [HE.out] at h2
        simp at h2; omega)
      obtain ⟨t, ht⟩ : ∃ t, t = tokAt D s i := ⟨_, rfl⟩
      have HT := hid ht
      have hpos : tq t = (t.kind, (i : Int), t.txt, (t.look : Int)) := by rw [ht]; rfl
      have HP := hid hpos
      rw [← ht] at ql HE HTok
      have hsum : IntKind.i64.wrap ((i : Int) + (t.txt.size : Int)) = ((i + z : Nat) : Int) := by rw [ql, wrapIn (by omega) (by omega)]; omega
      clear hown hb hx q3 q4 q5 hz ht hpos
      go_upto_region 4 with fail
      go_wp2_with fail
      refine CC.out.mono ?_
      rintro e U ⟨rfl, kU⟩
      rw [HTok.out]
      have bU := HBr.out.trans (kU.mono HBr.out.size)
      have HBU := hid bU
      have HXU := hid ((kU.block _ (heap_lt HXr.out)).trans HXr.out)
      have HOU := hid (ownsRow_keep HO.out fun k hk => kU.block k (HO.out.lt k hk).2)
      clear kU bU CC d0 d1 d2
      go_upto_region 5 with fail
      obtain ⟨X, hX⟩ : ∃ X, X = U.alloc (.cells #[.int .i64 t.kind, .int .i64 (i : Int), .string t.txt, .int .i64 (t.look : Int)] 47) := ⟨_, rfl⟩
      have y1 := alloc_new U (.cells #[.int .i64 t.kind, .int .i64 (i : Int), .string t.txt, .int .i64 (t.look : Int)] 47)
      have bX := bel1 U (.cells #[.int .i64 t.kind, .int .i64 (i : Int), .string t.txt, .int .i64 (t.look : Int)] 47)
      have HOX := own_alloc HOU.out (.cells #[.int .i64 t.kind, .int .i64 (i : Int), .string t.txt, .int .i64 (t.look : Int)] 47)
      rw [← hX] at y1 bX HOX ⊢
      have BX := hid bX
      have bVX := hid (HBU.out.trans (bX.mono HBU.out.size))
      have hXs := hid (show U.heap.size < X.heap.size from heap_lt y1)
      have HXX := hid ((bX.block _ (heap_lt HXU.out)).trans HXU.out)
      have HOXX := hid HOX
      obtain ⟨e0, e1, e2, e3⟩ := cells4 y1
      have Y1 := hid y1
      clear hX bX HOX y1
      have hown := HOXX.out
      go_wp2_with (at_builtin; refine wpList_append_own _ rfl (.tmp 16) (.tmp 18) 32 rfl V.heap.size 47 i0 _ 4 40 Try.underlying32 hi hz0 hz1 hz2 rfl (by decide) _ _ _ rfl (own_alloc hown _) ⟨X.heap.size, 0, none⟩ 1 1 (tqv (tq t)) rfl rfl ?c1 ?c2 ?c3 ?c4 ?c5 ?_)
      case c1 => rw [HP.out]; exact World.news_of_block (alloc_new _ _)
      case c2 => exact tqv_one
      case c3 => have := hol.out; unfold maxLen; omega
      case c4 => have := hol.out; omega
      case c5 => have := bVX.out.size; simp; omega
      intro v' Y hown' hgrow _
      have bY : Below V.heap.size V Y := (bVX.out.alloc bVX.out.size _).grown hgrow (by have := bVX.out.size; simp; omega) (fun k hk => (hown.lt k hk).1)
      have hown2 : Y.ownsRow V.heap.size 47 4 v' (out ++ [tq t]).length (tl (out ++ [tq t])) := by
        rw [tl_app, tl_one, List.length_append]
        exact hown'
      have KY := (Kept.refl (fun b => b ≠ U.heap.size) (X.alloc (.cells #[.int .i64 t.kind, .int .i64 (i : Int), .string t.txt, .int .i64 (t.look : Int)] 47))).grown hgrow (fun b hb => by have := hXs.out; simp at hb; omega) (fun k hk => by have := (HOU.out.lt k hk).2; omega)
      have y1 := (KY.block U.heap.size (fun h => h rfl)).trans (blk_alloc Y1.out)
      obtain ⟨e0, e1, e2, e3⟩ := cells4 y1
      have HOY := hid hown2
      have BY := hid bY
      have HXY := hid ((bY.block _ (by have := heap_lt HX.out; omega)).trans HX.out)
      have HRY := hid (show (out ++ [tq t]) ++ (lexAt D s (i + z)).map tq = lexT D s from by rw [← HR.out, HE.out, List.append_assoc]; rfl)
      clear hown hown2 hgrow hown' bY KY y1
      go_wp2
      go_roundg (s.size - (i + z))
      case measure => omega
      case rel => exact ⟨i + z, out ++ [tq t], rfl, q2, rfl, HRY, HOY.out, HXY.out, BY.out⟩
    · have hlt' : ¬ (i : Int) < (s.size : Int) := by omega
      have hout : out = lexT D s := by have := HR.out; rw [lexAt_end (by omega), List.map_nil, List.append_nil] at this; exact this
      rw [hout] at hown
      obtain ⟨p, c, rfl, hrow⟩ := own_trow hown
      have bb := HB.out.trans (hb.mono HB.out.size)
      have HF := hid (And.intro hrow (And.intro bb (own_le hown)))
      clear hrow bb hown hb
      go_wp2
      go_ret
      exact ⟨⟨p, c, rfl, HF.out.1, HF.out.2.2⟩, HF.out.2.1⟩
theorem u32 : Try.prog.underlying 47 = some (.struct (Try.prog.fieldsOf 47)) := by kernel_rfl
theorem f32 : ((Try.prog.fieldsOf 47).toList.map fun f => (f.name, f.type, f.offset)) = [("Kind", 3, 0), ("At", 3, 1), ("Text", 9, 2), ("Look", 3, 3)] := by kernel_rfl
theorem h32 : Try.prog.stoodInHeld 47 = false := by kernel_rfl
section
variable (k a l : Int) (s : ByteArray) (w : World)
theorem tk0 : (Go.part 3 #[Value.int .i64 k, .int .i64 a, .string s, .int .i64 l] 0).run Try.prog w = .ok (.int .i64 k) w := by kernel_rfl
theorem tk1 : (Go.part 3 #[Value.int .i64 k, .int .i64 a, .string s, .int .i64 l] 1).run Try.prog w = .ok (.int .i64 a) w := by kernel_rfl
theorem tk2 : (Go.part 9 #[Value.int .i64 k, .int .i64 a, .string s, .int .i64 l] 2).run Try.prog w = .ok (.string s) w := by kernel_rfl
theorem tk3 : (Go.part 3 #[Value.int .i64 k, .int .i64 a, .string s, .int .i64 l] 3).run Try.prog w = .ok (.int .i64 l) w := by kernel_rfl
end
theorem toL_inj {a b : ByteArray} : (a.toList = b.toList) ↔ a = b := by
  constructor
  · intro h
    rw [ByteArray.toList_eq, ByteArray.toList_eq] at h
    exact ByteArray.ext (Array.toList_inj.1 h)
  · intro h; rw [h]
theorem eq_tok (k k' a a' l l' : Int) (s s' : ByteArray) (w : World) : (Op.equalIn 10000 47 (.agg #[.int .i64 k, .int .i64 a, .string s, .int .i64 l]) (.agg #[.int .i64 k', .int .i64 a', .string s', .int .i64 l'])).run Try.prog w = .ok (decide (((k, a, s, l) : TQ) = (k', a', s', l'))) w := by
  rw [show (10000 : Nat) = 9999 + 1 from rfl, run_equalIn_struct w 9999 47 _ _ u32 h32]
  generalize hf : (Try.prog.fieldsOf 47).toList = fs
  have := f32
  rw [hf] at this
  match fs, this with
  | [f0, f1, f2, f3], this =>
    simp only [List.map_cons, List.map_nil, List.cons.injEq, Prod.mk.injEq, and_true] at this
    obtain ⟨⟨n0, t0, o0⟩, ⟨n1, t1, o1⟩, ⟨n2, t2, o2⟩, n3, t3, o3⟩ := this
    have he : ∀ (x y : Int) (w : World), (Op.equalIn 9999 3 (.int .i64 x) (.int .i64 y)).run Try.prog w = .ok (decide (x = y)) w := fun x y w => by
      rw [show (9999 : Nat) = 9998 + 1 from rfl, run_equalIn_int w 9998 3 .i64 .i64 x y Try.underlying3]
      by_cases h : x = y <;> simp [h]
    have hs : ∀ (x y : ByteArray) (w : World), (Op.equalIn 9999 9 (.string x) (.string y)).run Try.prog w = .ok (decide (x = y)) w := fun x y w => by
      rw [show (9999 : Nat) = 9998 + 1 from rfl, run_equalIn_string w 9998 9 x y Try.underlying9]
      by_cases h : x = y
      · simp [h]
      · have : ¬ x.toList = y.toList := fun e => h (toL_inj.1 e)
        simp [h, this]
    by_cases h0 : k = k'
    · by_cases h1 : a = a'
      · by_cases h2 : s = s'
        · by_cases h3 : l = l' <;> simp [Op.eqFields, n0, n1, n2, n3, t0, t1, t2, t3, o0, o1, o2, o3, Sem.run_bind, tk0, tk1, tk2, tk3, he, hs, h0, h1, h2, h3]
        · simp [Op.eqFields, n0, n1, n2, n3, t0, t1, t2, t3, o0, o1, o2, o3, Sem.run_bind, tk0, tk1, tk2, tk3, he, hs, h0, h1, h2]
      · simp [Op.eqFields, n0, n1, n2, n3, t0, t1, t2, t3, o0, o1, o2, o3, Sem.run_bind, tk0, tk1, tk2, tk3, he, hs, h0, h1]
    · simp [Op.eqFields, n0, n1, n2, n3, t0, t1, t2, t3, o0, o1, o2, o3, Sem.run_bind, tk0, tk1, tk2, tk3, he, hs, h0]
attribute [local go_sem] eq_tok
theorem drop_at' {α : Type} {l : List α} {i : Nat} {x : α} (h : l[i]? = some x) : l.drop i = x :: l.drop (i + 1) := by
  obtain ⟨hl, rfl⟩ := List.getElem?_eq_some_iff.1 h
  exact List.drop_eq_getElem_cons hl
set_option maxRecDepth 100000 in
set_option maxHeartbeats 4000000 in
theorem Same_any (w : World) (a1 : Option Addr) (n1 c1 : Nat) (l1 : List TQ) (a2 : Option Addr) (n2 c2 : Nat) (l2 : List TQ) (h1 : TRow w a1 n1 l1) (h2 : TRow w a2 n2 l2) (hn1 : n1 ≤ 140737488355328) (hn2 : n2 ≤ 140737488355328) :
    Calls Try.prog 14 #[.slice a1 n1 c1, .slice a2 n2 c2] w fun e w' => e = .returned (.bool (decide (l1 = l2))) ∧ Below w.heap.size w w' := by
  obtain ⟨q, hq⟩ : ∃ q, q = decide (l1 = l2) := ⟨_, rfl⟩
  rw [← hq]
  have HQ := hid hq
  have H := hid (And.intro h1 h2)
  have HL := hid (And.intro h1.len h2.len)
  clear hq h1 h2
  by_cases hne : n1 = n2
  · subst hne
    go_enter Try.func14, Try.ntmps14
    go_wp2_with fail
    go_loopg [5] n1 (fun kk s5 wr => ∃ i : Nat, s5 = .int .i64 (i : Int) ∧ i + kk = n1 ∧ Hid (decide (l1 = l2) = decide (l1.drop i = l2.drop i)) ∧ Below w.heap.size w wr)
    case atStart => exact ⟨0, rfl, by omega, hid rfl, Below.refl _ _⟩
    case round =>
      obtain ⟨i, rfl, hk, hd, hb⟩ := hrel
      by_cases hlt : i < n1
      · have hlt' : (i : Int) < (n1 : Int) := by omega
        have hi0 : (0 : Int) ≤ (i : Int) := by omega
        have hi1 : IntKind.i64.wrap ((i : Int) + 1) = (i : Int) + 1 := wrapIn (by omega) (by omega)
        obtain ⟨b, o, ⟨xk, xa, xs, xl⟩, rfl, _, hx, x0, x1, x2, x3⟩ := trow_at (H.out.1.below hb) hlt
        obtain ⟨b', o', ⟨yk, ya, ys, yl⟩, rfl, _, hy, y0, y1, y2, y3⟩ := trow_at (H.out.2.below hb) hlt
        simp only at x0 x1 x2 x3 y0 y1 y2 y3
        have HD := hid (show decide (l1 = l2) = decide ((xk, xa, xs, xl) :: l1.drop (i + 1) = (yk, ya, ys, yl) :: l2.drop (i + 1)) from by rw [hd.out, drop_at' hx, drop_at' hy])
        have HB := hid hb
        clear hd hx hy hb
        have five : (xk = yk ∧ xa = ya ∧ xs = ys ∧ xl = yl) ∨ (¬ xk = yk) ∨ (xk = yk ∧ ¬ xa = ya) ∨ (xk = yk ∧ xa = ya ∧ ¬ xs.toList = ys.toList) ∨ (xk = yk ∧ xa = ya ∧ xs = ys ∧ ¬ xl = yl) := by
          rw [toL_inj]
          by_cases e1 : xk = yk <;> by_cases e2 : xa = ya <;> by_cases e3 : xs = ys <;> by_cases e4 : xl = yl <;> simp [e1, e2, e3, e4]
        rcases five with ⟨rfl, rfl, rfl, rfl⟩ | h | ⟨rfl, h⟩ | ⟨rfl, rfl, h⟩ | ⟨rfl, rfl, rfl, h⟩
        · have HR := hid (show decide (l1 = l2) = decide (l1.drop (i + 1) = l2.drop (i + 1)) from by rw [HD.out]; simp)
          go_upto_region 6 with fail
          go_quiet (fail)
          go_wp2
          go_roundg (gk - 1)
          case measure => omega
          case rel => exact ⟨i + 1, by go_num, by omega, HR, below_drewN HB.out _⟩
        all_goals (
          have HR := hid (show decide (l1 = l2) = false from by rw [HD.out]; apply decide_eq_false; intro e; simp at e; first | exact h e.1.1 | exact h e.1 | exact h (toL_inj.2 e.1.1) | exact h (toL_inj.2 e.1) | exact h e.1.2 | exact h (toL_inj.2 (by simpa using e.1)))
          go_upto_region 6 with fail
          go_quiet (fail)
          go_wp2
          go_ret
          exact ⟨by rw [HQ.out, HR.out]; rfl, below_drewN HB.out _⟩)
      · have hlt' : ¬ (i : Int) < (n1 : Int) := by omega
        have HR := hid (show decide (l1 = l2) = true from by rw [hd.out, List.drop_of_length_le (by have := HL.out.1; omega), List.drop_of_length_le (by have := HL.out.2; omega)]; rfl)
        clear hd
        go_wp2
        go_ret
        exact ⟨by rw [HQ.out, HR.out]; rfl, hb⟩
  · have hne' : ¬ (n1 : Int) = (n2 : Int) := by omega
    have HR := hid (show decide (l1 = l2) = false from by apply decide_eq_false; intro e; have := HL.out; rw [e] at this; omega)
    go_enter Try.func14, Try.ntmps14
    go_wp2
    go_ret
    exact ⟨by rw [HQ.out, HR.out]; rfl, Below.refl _ _⟩
end Go.Proofs.Ytblcjjhjgoccgaa
