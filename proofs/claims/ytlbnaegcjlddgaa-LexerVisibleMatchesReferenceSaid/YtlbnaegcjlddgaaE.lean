/-
  Rows of tokens; contract: Lex.
-/
import Derived.Test.YtlbnaegcjlddgaaD
import Derived.Deep.AppendLies
set_option linter.unusedSimpArgs false
set_option linter.unusedVariables false
namespace Go.Proofs.Ytlbnaegcjlddgaa
open Go.RowKit Lx Go.Frame

/-- A token as it stands in memory: kind, offset, text, look. -/
abbrev TQ := Int × Int × ByteArray × Int
def tqv (t : TQ) : List Value := [.int .i64 t.1, .int .i64 t.2.1, .string t.2.2.1, .int .i64 t.2.2.2]
def tq (t : Tk) : TQ := (t.kind, (t.pos : Int), t.txt, (t.look : Int))
def tl (l : List TQ) : List Value := l.flatMap tqv
theorem tl_app (a b : List TQ) : tl (a ++ b) = tl a ++ tl b := by simp [tl]
theorem tl_one (t : TQ) : tl [t] = tqv t := by simp [tl]
theorem tl_length : ∀ l : List TQ, (tl l).length = l.length * 4
  | [] => rfl
  | e :: l => by
    have := tl_length l
    unfold tl at this ⊢
    rw [List.flatMap_cons, List.length_append, this]
    simp only [tqv, List.length_cons, List.length_nil]; omega
theorem tl_at : ∀ {l : List TQ} {i j : Nat} {t : TQ} {v : Value}, l[i]? = some t → (tqv t)[j]? = some v → (tl l)[i * 4 + j]? = some v
  | x :: l, 0, j, t, v, h, hv => by
    simp at h; subst h
    have hj := (List.getElem?_eq_some_iff.1 hv).1
    have e1 : tl (x :: l) = tqv x ++ tl l := by simp [tl]
    rw [e1, List.getElem?_append_left (by omega), Nat.zero_mul, Nat.zero_add]; exact hv
  | x :: l, i + 1, j, t, v, h, hv => by
    have ih := tl_at (l := l) (i := i) (t := t) (by simpa using h) hv
    have e1 : tl (x :: l) = tqv x ++ tl l := by simp [tl]
    have e2 : (tqv x).length = 4 := rfl
    rw [e1, List.getElem?_append_right (by rw [e2]; omega), e2, show (i + 1) * 4 + j - 4 = i * 4 + j by omega]; exact ih
/-- A slice of tokens in memory. -/
def TRow (W : World) (p : Option Addr) (n : Nat) (l : List TQ) : Prop := CRow 4 W p n (l.map tqv)
theorem TRow.below {W W' : World} {p : Option Addr} {n : Nat} {l : List TQ} (h : TRow W p n l) (hb : Below W.heap.size W W') : TRow W' p n l := CRow.below h hb
theorem TRow.len {W : World} {p : Option Addr} {n : Nat} {l : List TQ} (h : TRow W p n l) : l.length = n := by have := h.1; simpa using this
theorem trow_at {W : World} {p : Option Addr} {n i : Nat} {l : List TQ} (h : TRow W p n l) (hi : i < n) : ∃ b off t, p = some ⟨b, off, none⟩ ∧ b < W.heap.size ∧ l[i]? = some t ∧ W.cell? ⟨b, off + i * 4, none⟩ = some (.int .i64 t.1) ∧ W.cell? ⟨b, off + i * 4 + 1, none⟩ = some (.int .i64 t.2.1) ∧ W.cell? ⟨b, off + i * 4 + 2, none⟩ = some (.string t.2.2.1) ∧ W.cell? ⟨b, off + i * 4 + 3, none⟩ = some (.int .i64 t.2.2.2) := by
  have hl := h.len
  rcases h.2 with h0 | ⟨b, off, rfl, hb, hx⟩
  · omega
  · have hil : i < l.length := by omega
    have hc : (l.map tqv)[i]? = some (tqv l[i]) := by rw [List.getElem?_map, List.getElem?_eq_getElem hil]; rfl
    exact ⟨b, off, l[i], rfl, hb, List.getElem?_eq_getElem hil, hx i _ hc 0 _ rfl, hx i _ hc 1 _ rfl, hx i _ hc 2 _ rfl, hx i _ hc 3 _ rfl⟩
/-- A row of the call's own lies in memory. -/
theorem own_trow {W : World} {base : Nat} {e : TypeId} {v : Value} {l : List TQ} (h : W.ownsRow base e 4 v l.length (tl l)) : ∃ p c, v = .slice p l.length c ∧ TRow W p l.length l := by
  rcases h.2 with ⟨rfl, h0⟩ | ⟨g, cap, cur, rfl, hb, hg, hn, _, hc, ht⟩
  · exact ⟨none, 0, by rw [h0], by simp, .inl h0⟩
  · refine ⟨_, cap, rfl, by simp, .inr ⟨g, 0, rfl, heap_lt hg, fun i cs hi j u hj => ?_⟩⟩
    rw [List.getElem?_map] at hi
    obtain ⟨t, ht2, rfl⟩ := Option.map_eq_some_iff.1 hi
    have hu := tl_at ht2 hj
    rw [← ht, List.getElem?_take] at hu
    split at hu
    · simp only [World.cell?, hg]
      simpa using hu
    · cases hu
/-- A slice of tokens is the result. -/
def TRes (w : World) (l : List TQ) (e : Ending) (w' : World) : Prop := (∃ p c, e = .returned (.slice p l.length c) ∧ TRow w' p l.length l) ∧ Below w.heap.size w w'
theorem tqv_one {t : TQ} : ∀ u ∈ tqv t, u.oneCell' = true := by
  intro u hu
  simp [tqv] at hu
  rcases hu with rfl | rfl | rfl | rfl <;> rfl
/-- The tokens of a text. -/
def lexT (D : Df) (s : ByteArray) : List TQ := (lexAt D s 0).map tq
theorem lexT_len (D : Df) (s : ByteArray) : (lexT D s).length ≤ s.size := by
  unfold lexT; rw [List.length_map]; exact lexAt_len D s s.size 0 (by omega)
theorem info32 : (Try.prog.info? 32).map (fun i => (i.zero, i.size, i.bytes)) = some (some (.agg #[.int .i64 0, .int .i64 0, .string { data := #[] }, .int .i64 0]), 4, 40) := by kernel_rfl
set_option maxRecDepth 100000 in
set_option maxHeartbeats 4000000 in
theorem Lex_any (w : World) (D : Df) (n k : Nat) (hv : Vd D n k) (a1 : Option Addr) (n1 c1 : Nat) (a2 : Option Addr) (n2 c2 : Nat) (a3 : Option Addr) (n3 c3 : Nat) (h : DA w D a1 n1 a2 n2 a3 n3) (s : ByteArray) (hs : s.size ≤ 1000000) :
    Calls Try.prog 13 #[.agg #[.slice a1 n1 c1, .slice a2 n2 c2, .slice a3 n3 c3], .string s] w (TRes w (lexT D s)) := by
  have CV := hid (fun W (hb : Below w.heap.size w W) => Valid_any W D a1 n1 c1 a2 n2 c2 a3 n3 c3 (h.below hb))
  have CR := hid (fun W (hb : Below w.heap.size w W) p (hp : p < s.size) => recognize_any W D n k hv a1 n1 c1 a2 n2 c2 a3 n3 c3 (h.below hb) s hs p hp)
  have hval := valid_iff.2 ⟨n, k, hv⟩
  have HV := hid (And.intro hv hval)
  obtain ⟨W, hW⟩ : ∃ W, W = w.alloc (.cells #[.slice a1 n1 c1, .slice a2 n2 c2, .slice a3 n3 c3] 25) := ⟨_, rfl⟩
  have x1 := alloc_new w (.cells #[.slice a1 n1 c1, .slice a2 n2 c2, .slice a3 n3 c3] 25)
  have bW := bel1 w (.cells #[.slice a1 n1 c1, .slice a2 n2 c2, .slice a3 n3 c3] 25)
  rw [← hW] at x1 bW
  have HW := hid (And.intro x1 bW)
  obtain ⟨d0, d1, d2⟩ := cells3 x1
  clear h hv hval x1 bW
  obtain ⟨i0, hi, hz0, hz1, hz2⟩ := info_parts info32
  go_enter Try.func13, Try.ntmps13
  go_upto_region 1 with fail
  rw [← hW]
  clear hW
  go_wp2_with fail
  refine (CV.out W HW.out.2).mono ?_
  rintro e V ⟨rfl, kV⟩
  rw [HV.out.2]
  have HB := hid (HW.out.2.trans (kV.mono HW.out.2.size))
  have HX := hid ((kV.block _ (heap_lt HW.out.1)).trans HW.out.1)
  clear kV d0 d1 d2
  go_wp2_with fail
  go_loopg [5, 6] (s.size) (fun kk s5 s6 wr => ∃ (i : Nat) (out : List TQ), s6 = .int .i64 (i : Int) ∧ i ≤ s.size ∧ kk = s.size - i ∧ Hid (out ++ (lexAt D s i).map tq = lexT D s) ∧
    wr.ownsRow V.heap.size 32 4 s5 out.length (tl out) ∧ wr.heap[w.heap.size]? = some (.cells #[.slice a1 n1 c1, .slice a2 n2 c2, .slice a3 n3 c3] 25 (0, 0)) ∧ Below V.heap.size V wr)
  case atStart => exact ⟨0, [], rfl, by omega, by omega, hid rfl, World.ownsRow_nil _ _ _ _, HX.out, Below.refl _ _⟩
  case round =>
    obtain ⟨i, out, rfl, his, hk, HR, hown, hx, hb⟩ := hrel
    by_cases hlt : i < s.size
    · have hlt' : (i : Int) < (s.size : Int) := by omega
      obtain ⟨d0, d1, d2⟩ := cells3 hx
      have HO := hid hown
      have HBr := hid hb
      have HXr := hid hx
      have CC := hid (CR.out wr (HB.out.trans (hb.mono HB.out.size)) i hlt)
      have HE := hid (show (lexAt D s i).map tq = tq (tokAt D s i) :: (lexAt D s (i + (sc D s i).2.1)).map tq from by rw [lexAt_cons hlt]; rfl)
      obtain ⟨q1, q2, q3, q4, q5⟩ := sc_bounds (D := D) hlt
      have ql := tok_len (D := D) hlt
      obtain ⟨z, hz⟩ : ∃ z, z = (sc D s i).2.1 := ⟨_, rfl⟩
      rw [← hz] at q1 q2 ql HE
      have HTok := hid (show (.agg #[.int .i64 (sc D s i).1, .int .i64 (i : Int), .string (s.extract i (i + (sc D s i).2.1)), .int .i64 ((sc D s i).2.2 : Int)] : Value) = .agg #[.int .i64 (tokAt D s i).kind, .int .i64 (i : Int), .string (tokAt D s i).txt, .int .i64 ((tokAt D s i).look : Int)] from rfl)
      have hol := hid (show out.length < 1000000 from by
        have h1 := lexT_len D s
        have h2 := congrArg List.length HR.out
        rw [HE.out] at h2
        simp at h2; omega)
      obtain ⟨t, ht⟩ : ∃ t, t = tokAt D s i := ⟨_, rfl⟩
      have HT := hid ht
      have hpos : tq t = (t.kind, (i : Int), t.txt, (t.look : Int)) := by rw [ht]; rfl
      have HP := hid hpos
      rw [← ht] at ql HE HTok
      have hsum : IntKind.i64.wrap ((i : Int) + (t.txt.size : Int)) = ((i + z : Nat) : Int) := by rw [ql, wrapIn (by omega) (by omega)]; omega
      clear hown hb hx q3 q4 q5 hz ht hpos
      go_upto_region 6 with fail
      go_wp2_with fail
      refine CC.out.mono ?_
      rintro e U ⟨rfl, kU⟩
      rw [HTok.out]
      have bU := HBr.out.trans (kU.mono HBr.out.size)
      have HBU := hid bU
      have HXU := hid ((kU.block _ (heap_lt HXr.out)).trans HXr.out)
      have HOU := hid (ownsRow_keep HO.out fun k hk => kU.block k (HO.out.lt k hk).2)
      clear kU bU CC d0 d1 d2
      go_upto_region 7 with fail
      obtain ⟨X, hX⟩ : ∃ X, X = U.alloc (.cells #[.int .i64 t.kind, .int .i64 (i : Int), .string t.txt, .int .i64 (t.look : Int)] 32) := ⟨_, rfl⟩
      have y1 := alloc_new U (.cells #[.int .i64 t.kind, .int .i64 (i : Int), .string t.txt, .int .i64 (t.look : Int)] 32)
      have bX := bel1 U (.cells #[.int .i64 t.kind, .int .i64 (i : Int), .string t.txt, .int .i64 (t.look : Int)] 32)
      have HOX := own_alloc HOU.out (.cells #[.int .i64 t.kind, .int .i64 (i : Int), .string t.txt, .int .i64 (t.look : Int)] 32)
      rw [← hX] at y1 bX HOX ⊢
      have BX := hid bX
      have bVX := hid (HBU.out.trans (bX.mono HBU.out.size))
      have hXs := hid (show U.heap.size < X.heap.size from heap_lt y1)
      have HXX := hid ((bX.block _ (heap_lt HXU.out)).trans HXU.out)
      have HOXX := hid HOX
      obtain ⟨e0, e1, e2, e3⟩ := cells4 y1
      have Y1 := hid y1
      clear hX bX HOX y1
      have hown := HOXX.out
      go_wp2_with (at_builtin; refine wpList_append_own _ rfl (.tmp 19) (.tmp 21) 29 rfl V.heap.size 32 i0 _ 4 40 Try.underlying29 hi hz0 hz1 hz2 rfl (by decide) _ _ _ rfl (own_alloc hown _) ⟨X.heap.size, 0, none⟩ 1 1 (tqv (tq t)) rfl rfl ?c1 ?c2 ?c3 ?c4 ?c5 ?_)
      case c1 => rw [HP.out]; exact World.news_of_block (alloc_new _ _)
      case c2 => exact tqv_one
      case c3 => have := hol.out; unfold maxLen; omega
      case c4 => have := hol.out; omega
      case c5 => have := bVX.out.size; simp; omega
      intro v' Y hown' hgrow _
      have bY : Below V.heap.size V Y := (bVX.out.alloc bVX.out.size _).grown hgrow (by have := bVX.out.size; simp; omega) (fun k hk => (hown.lt k hk).1)
      have hown2 : Y.ownsRow V.heap.size 32 4 v' (out ++ [tq t]).length (tl (out ++ [tq t])) := by
        rw [tl_app, tl_one, List.length_append]
        exact hown'
      have KY := (Kept.refl (fun b => b ≠ U.heap.size) (X.alloc (.cells #[.int .i64 t.kind, .int .i64 (i : Int), .string t.txt, .int .i64 (t.look : Int)] 32))).grown hgrow (fun b hb => by have := hXs.out; simp at hb; omega) (fun k hk => by have := (HOU.out.lt k hk).2; omega)
      have y1 := (KY.block U.heap.size (fun h => h rfl)).trans (blk_alloc Y1.out)
      obtain ⟨e0, e1, e2, e3⟩ := cells4 y1
      have HOY := hid hown2
      have BY := hid bY
      have HXY := hid ((bY.block _ (by have := heap_lt HX.out; omega)).trans HX.out)
      have HRY := hid (show (out ++ [tq t]) ++ (lexAt D s (i + z)).map tq = lexT D s from by rw [← HR.out, HE.out, List.append_assoc]; rfl)
      clear hown hown2 hgrow hown' bY KY y1
      go_wp2
      go_roundg (s.size - (i + z))
      case measure => omega
      case rel => exact ⟨i + z, out ++ [tq t], rfl, q2, rfl, HRY, HOY.out, HXY.out, BY.out⟩
    · have hlt' : ¬ (i : Int) < (s.size : Int) := by omega
      have hout : out = lexT D s := by have := HR.out; rw [lexAt_end (by omega), List.map_nil, List.append_nil] at this; exact this
      rw [hout] at hown
      obtain ⟨p, c, rfl, hrow⟩ := own_trow hown
      have bb := HB.out.trans (hb.mono HB.out.size)
      have HF := hid (And.intro hrow bb)
      clear hrow bb hown hb
      go_wp2
      go_ret
      exact ⟨⟨p, c, rfl, HF.out.1⟩, HF.out.2⟩
end Go.Proofs.Ytlbnaegcjlddgaa
