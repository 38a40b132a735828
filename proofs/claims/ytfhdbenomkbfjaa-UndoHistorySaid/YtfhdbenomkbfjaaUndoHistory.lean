/-
  UndoHistory, for every input: the law returns true and leaves its arguments as they read. No condition.
-/
import Derived.Test.YtfhdbenomkbfjaaX
import Derived.Deep.CutRange
import Derived.Deep.CutBlock
set_option linter.unusedSimpArgs false
set_option linter.unusedVariables false
namespace Go.Proofs.Ytfhdbenomkbfjaa.undoHistory
open Go.ChangeShapes Go.WideShapes Go.ChangeAt Go.RowKit Go.Frame
open Go.ChangeMaps (open_string shut_string)
open Te
/-- The history and the reference's state side by side. -/
def Side (n0 : Nat) (w : World) (B C : Nat) (S0 : ByteArray) (x : St) (p : Option Addr) (n c k : Nat) (E : List Ed) : Prop :=
  ∃ F : Nat → Prop, Hi F w B x ∧ (∀ b, F b → n0 ≤ b ∧ b < w.heap.size) ∧ ¬ F C ∧ w.heap[C]? = some (.cells #[.string S0, .slice p n c, .int .i64 (k : Int), .int .i64 (x.v : Int)] 29 (0, 0)) ∧
    ERow w p n E ∧ n ≤ c ∧ Ta 20000 S0 E k x ∧ (n = 0 ∨ ∀ a, p = some a → ¬ F a.block ∧ a.block ≠ C)
theorem erow_keep {W W' : World} {p : Option Addr} {n : Nat} {E : List Ed} (h : ERow W p n E) (hk : n = 0 ∨ ∀ a, p = some a → W'.heap[a.block]? = W.heap[a.block]?) (hs : W.heap.size ≤ W'.heap.size) : ERow W' p n E := by
  refine ⟨h.1, ?_⟩
  rcases h.2 with h0 | ⟨b, off, rfl, hb, hx⟩
  · exact .inl h0
  · rcases hk with h0 | hk
    · exact .inl h0
    · have hb' := hk _ rfl
      refine .inr ⟨b, off, rfl, Nat.lt_of_lt_of_le hb hs, fun j y hy => ?_⟩
      obtain ⟨c0, c1, c2⟩ := hx j y hy
      simp only at hb'
      refine ⟨?_, ?_, ?_⟩ <;> simp only [World.cell?, hb'] at * <;> assumption
/-- The history's turn. -/
theorem Side.turn {n0 : Nat} {w : World} {B C : Nat} {S0 : ByteArray} {x : St} {p : Option Addr} {n c k : Nat} {E : List Ed} (h : Side n0 w B C S0 x p n c k E) (hn : n0 ≤ w.heap.size) :
    ∃ F, Hi F w B x ∧ Up F w ∧ ∀ w' x', Hi F w' B x' → Kept F w w' → Below n0 w w' ∧ w'.heap[C]? = some (.cells #[.string S0, .slice p n c, .int .i64 (k : Int), .int .i64 (x.v : Int)] 29 (0, 0)) ∧ ERow w' p n E ∧ n ≤ c ∧ Ta 20000 S0 E k x ∧
      ∃ G : Nat → Prop, Hi G w' B x' ∧ (∀ b, G b → n0 ≤ b ∧ b < w'.heap.size) ∧ ¬ G C ∧ (n = 0 ∨ ∀ a, p = some a → ¬ G a.block ∧ a.block ≠ C) := by
  obtain ⟨F, h1, h2, h3, h4, h5, h6, h7, h8⟩ := h
  have hC := heap_lt h4
  have hrow : n = 0 ∨ ∀ a, p = some a → a.block < w.heap.size := by
    rcases h5.2 with h0 | ⟨b, off, rfl, hb, _⟩
    · exact .inl h0
    · exact .inr fun a ha => by simp only [Option.some.injEq] at ha; rw [← ha]; exact hb
  refine ⟨fun b => F b ∨ w.heap.size ≤ b, h1.mono fun b hb _ => .inl hb, fun b hb => .inr hb, fun w' x' h' hk => ⟨?_, ?_, ?_, h6, h7, fun b => (F b ∨ w.heap.size ≤ b) ∧ b < w'.heap.size, ?_, ?_, ?_, ?_⟩⟩
  · exact hk.toBelow fun b hb => hb.elim (fun h => (h2 b h).1) (fun h => by omega)
  · exact (hk.block C (fun h => h.elim h3 (fun h => by omega))).trans h4
  · refine erow_keep h5 ?_ hk.size
    rcases h8 with h0 | h8
    · exact .inl h0
    · rcases hrow with h0 | hrow
      · exact .inl h0
      · exact .inr fun a ha => hk.block _ (fun h => h.elim (h8 a ha).1 (fun h => by have := hrow a ha; omega))
  · exact h'.mono fun b hb hl => ⟨hb, hl⟩
  · rintro b ⟨hb | hb, hl⟩
    · exact ⟨(h2 b hb).1, hl⟩
    · exact ⟨by omega, hl⟩
  · rintro ⟨hb | hb, _⟩
    · exact h3 hb
    · omega
  · rcases h8 with h0 | h8
    · exact .inl h0
    · rcases hrow with h0 | hrow
      · exact .inl h0
      · refine .inr fun a ha => ⟨?_, (h8 a ha).2⟩
        rintro ⟨hb | hb, _⟩
        · exact (h8 a ha).1 hb
        · have := hrow a ha; omega
theorem below_put {n : Nat} {a w : World} {b j : Nat} {u : Value} (h : Below n a w) (hb : n ≤ b) : Below n a (w.setCell ⟨b, j, none⟩ u) := h.setCell hb u
theorem below_made {n : Nat} {a w : World} {o : Obj} (h : Below n a w) (hb : n ≤ w.heap.size) : Below n a (w.alloc o) := h.alloc hb o
theorem erow_alloc {W : World} {p : Option Addr} {n : Nat} {E : List Ed} {o : Obj} (h : ERow W p n E) : ERow (W.alloc o) p n E := h.below ((Below.refl _ W).alloc (Nat.le_refl _) o)
theorem erow_drew {W : World} {p : Option Addr} {n : Nat} {E : List Ed} (h : ERow W p n E) : ERow W.drew p n E := h.below (Below.refl _ W).drew
theorem four_set {W : World} {b : Nat} {x y z u x' y' z' u' : Value} {t : TypeId} (h : W.heap[b]? = some (.cells #[x, y, z, u] t (0, 0))) : ((((W.setCell ⟨b, 0, none⟩ x').setCell ⟨b, 1, none⟩ y').setCell ⟨b, 2, none⟩ z').setCell ⟨b, 3, none⟩ u').heap[b]? = some (.cells #[x', y', z', u'] t (0, 0)) := by
  rw [blk_put (blk_put (blk_put (blk_put h)))]; rfl
theorem far3 {W : World} {b B : Nat} {o : Obj} {x' y' z' : Value} (h : W.heap[b]? = some o) (hn : b ≠ B) : (((W.setCell ⟨B, 0, none⟩ x').setCell ⟨B, 1, none⟩ y').setCell ⟨B, 2, none⟩ z').heap[b]? = some o := blk_set (blk_set (blk_set h hn) hn) hn
theorem far4 {W : World} {b B : Nat} {o : Obj} {x' y' z' u' : Value} (h : W.heap[b]? = some o) (hn : b ≠ B) : ((((W.setCell ⟨B, 0, none⟩ x').setCell ⟨B, 1, none⟩ y').setCell ⟨B, 2, none⟩ z').setCell ⟨B, 3, none⟩ u').heap[b]? = some o := blk_set (far3 h hn) hn
set_option maxRecDepth 100000 in
set_option maxHeartbeats 40000000 in
theorem walk (s : ByteArray) (b : Option Addr) (len cap : Nat) (w : World) (hs0 : s.size ≤ 140737488351232) (hE : ∃ E : List Sp, SRow w b len E ∧ len ≤ 140737488351232 ∧ ∀ e ∈ E, InS e) :
    Calls Try.prog 3 #[.string s, .slice b len cap] w fun e w' => e = .returned (.bool true) ∧ Below w.heap.size w w' := by
  obtain ⟨E, hrow, hlen, hin⟩ := hE
  have HR := hid hrow
  have HI := hid hin
  have hl : E.length = len := by have := hrow.1; simpa using this
  have HL := hid hl
  clear hrow hin hl
  go_enter Try.func3, Try.ntmps3
  go_wp2_with fail
  refine (awake_any w).mono ?_
  rintro e w1 ⟨rfl, b1⟩
  go_wp2_with fail
  refine (few_any s b len cap E w1 hlen HI.out hs0 (HR.out.below b1)).mono ?_
  rintro e w1' ⟨rfl, rfl⟩
  by_cases hF : Few s E
  · rw [decide_eq_true hF]
    obtain ⟨h30, h20⟩ := hF
    have hs : s.size ≤ 20000 := by omega
    have HZ := hid (show szs E ≤ 20000 by omega)
    have hlen30 : len ≤ 30 := by have := HL.out; omega
    clear h30 h20 hlen
    go_wp2_with fail
    refine (new_any s w1).mono ?_
    rintro e w2 ⟨rfl, hh, b2, z2⟩
    have B2 : Below w.heap.size w w2 := b1.trans (b2.mono b1.size)
    have X3 := alloc_new w2 (.cells #[.string s, .slice none 0 0, .int .i64 0, .int .i64 0] 29)
    have H3 : Side w.heap.size (w2.alloc (.cells #[.string s, .slice none 0 0, .int .i64 0, .int .i64 0] 29)) w1.heap.size w2.heap.size s ⟨s, [], [], 0⟩ none 0 0 0 [] :=
      ⟨_, hh.below ((Below.refl _ w2).alloc (Nat.le_refl _) _), fun b (hb : b = w1.heap.size) => by have := b1.size; simp; omega, fun (h : w2.heap.size = w1.heap.size) => by omega, X3, ⟨rfl, .inl rfl⟩, Nat.le_refl _, Tale.start hs, .inl rfl⟩
    have B3 := B2.alloc B2.size (.cells #[.string s, .slice none 0 0, .int .i64 0, .int .i64 0] 29)
    obtain ⟨B, hB⟩ : ∃ B, B = w1.heap.size := ⟨_, rfl⟩
    obtain ⟨C, hC⟩ : ∃ C, C = w2.heap.size := ⟨_, rfl⟩
    have hCn : w.heap.size ≤ C := by rw [hC]; exact B2.size
    have HBe := hid hB
    have HCe := hid hC
    rw [← hB, ← hC] at H3
    clear hh b2 z2 B2 X3 hB hC b1
    go_wp2_with fail
    rw [← HBe.out, ← HCe.out]
    go_loopg [7] len (fun k' s7 wr => ∃ (i : Nat) (x : St) (p : Option Addr) (n c k : Nat) (E' : List Ed), s7 = .int .i64 i ∧ i + k' = len ∧ Side w.heap.size wr B C s x p n c k E' ∧ Ok 20000 i x ∧ Below w.heap.size w wr)
    case atStart => exact ⟨0, _, none, 0, 0, 0, [], rfl, by omega, H3, Ok.new hs, B3⟩
    case round =>
      obtain ⟨i, x, p, n, c, k, E', rfl, hk, hS, hO, hbw⟩ := hrel
      clear H3 B3
      by_cases hlt : i < len
      · have hlt' : (i : Int) < (len : Int) := by omega
        have hi0 : (0 : Int) ≤ (i : Int) := by omega
        obtain ⟨bb, off, ⟨kd, a, d, t⟩, rfl, hbb, hxi, hmem, e0, e1, e2, e3⟩ := SRow.at (HR.out.below hbw) hlt
        obtain ⟨hk256, _, hamax, _, _, _⟩ := HI.out _ hmem
        have htsz : t.size ≤ 20000 := Nat.le_trans (szs_mem hmem) HZ.out
        obtain ⟨x', ⟨a', d', t'⟩, er, hr⟩ : ∃ x' e er, runR x kd (a, d, t) = (x', e, er) := ⟨_, _, _, rfl⟩
        obtain ⟨F, f1, f2, f3⟩ := hS.turn hbw.size
        have RN := hid (run_any F wr B x x' kd a d t a' d' t' er 20000 i hr f1 f2 hO (by omega) (by omega) hk256 (by omega) hamax)
        have F3 := hid f3
        have HX' := hid (show Ok 20000 (i + 1) x' by have := hO.run (k := kd) (e := (a, d, t)) (by omega); rwa [hr] at this)
        have HB := hid hbw
        have HO := hid hO
        have HRR := hid hr
        have HXI := hid hxi
        clear hS hO hr hxi hmem hamax hbw f1 f2 f3
        go_wp2_with fail
        refine RN.out.mono ?_
        rintro e w3 ⟨rfl, H3, A3⟩
        clear e0 e1 e2 e3
        obtain ⟨b3, hCC, hER, hnc, hTa, G, g1, g2, g3, g4⟩ := F3.out w3 x' H3 A3
        have B4 := (HB.out.trans b3).alloc (HB.out.trans b3).size (.cells #[.int .i64 a', .int .i64 d', .string t'] 31)
        have X8 := alloc_new w3 (.cells #[.int .i64 a', .int .i64 d', .string t'] 31)
        have bb4 : Below w3.heap.size w3 (w3.alloc (.cells #[.int .i64 a', .int .i64 d', .string t'] 31)) := (Below.refl _ _).alloc (Nat.le_refl _) _
        have Y8 := blk_alloc (o' := .cells #[.int .i64 a', .int .i64 d', .string t'] 31) hCC
        obtain ⟨w4, hw4⟩ : ∃ w4, w4 = w3.alloc (.cells #[.int .i64 a', .int .i64 d', .string t'] 31) := ⟨_, rfl⟩
        rw [← hw4] at B4 X8 bb4 Y8
        have hER4 := hER.below bb4
        have hG4 := g1.below bb4
        have HRow := hid (HR.out.below (HB.out.trans (b3.mono (Nat.le_refl _))))
        have HC4 := hid Y8
        have HX8 := hid X8
        have HER := hid hER4
        have HG := hid (And.intro hG4 (And.intro g2 (And.intro g3 (And.intro g4 (And.intro hTa hnc)))))
        have HB4 := hid B4
        have HBB4 := hid bb4
        have HW4 := hid hw4
        have hxv := HO.out.v
        have hn30 : k ≤ E'.length := hTa.le
        have hw34 := bb4.size
        obtain ⟨m0, m1, m2, m3⟩ := cells4 Y8
        obtain ⟨bb', off', y, hbe, hbb4, hy, hmem, e0, e1, e2, e3⟩ := SRow.at (HR.out.below B4) hlt
        simp only [Option.some.injEq, Addr.mk.injEq, and_true] at hbe
        obtain ⟨rfl, rfl⟩ := hbe
        have hye : y = (kd, a, d, t) := by rw [HXI.out] at hy; simpa using hy.symm
        subst hye
        have hnE : n ≤ 900000 := by have h1 := hTa.lenR; have h2 := HO.out.len; have h3 := hER4.1; have h4 := hTa.lenU; omega
        have RR := hid (show ∀ W', Below w4.heap.size w4 W' → Calls Try.prog 13 #[.agg #[.string s, .slice p n c, .int .i64 (k : Int), .int .i64 (x.v : Int)], .agg #[.int .u8 (kd : Int), .int .i64 a, .int .i64 d, .string t]] W' fun e y => ∃ (p' : Option Addr) (n' c' k' : Nat) (E'' : List Ed), e = .returned (.tuple #[.agg #[.string s, .slice p' n' c', .int .i64 (k' : Int), .int .i64 (x'.v : Int)], .agg #[.int .i64 a', .int .i64 d', .string t'], .int .i64 er]) ∧
            ERow y p' n' E'' ∧ n' ≤ c' ∧ Ta 20000 s E'' k' x' ∧ ((p' = p ∧ n' = n) ∨ ∀ a, p' = some a → W'.heap.size ≤ a.block) ∧ Below w4.heap.size w4 y ∧ ∀ b, b < W'.heap.size → y.heap[b]? = W'.heap[b]? from fun W' hW' => by
          refine (rrun_any s p n c E' k x x' kd a d t a' d' t' er 20000 W' hTa HRR.out (by omega) (by omega) hnE (by omega) hnc (hER4.below hW') hk256 (by omega)).mono ?_
          rintro e y ⟨p', n', c', k', E'', rfl, q1, q2, q3, q4, q5⟩
          exact ⟨p', n', c', k', E'', rfl, q1, q2, q3, q4, hW'.trans (q5.mono hW'.size), q5.block⟩)
        have Kp := hid (show ∀ W', Below w4.heap.size w4 W' → W'.cell? ⟨C, 0, none⟩ = some (.string s) ∧ W'.cell? ⟨C, 1, none⟩ = some (.slice p n c) ∧ W'.cell? ⟨C, 2, none⟩ = some (.int .i64 (k : Int)) ∧ W'.cell? ⟨C, 3, none⟩ = some (.int .i64 (x.v : Int)) ∧
            W'.cell? ⟨bb, off + i * 4, none⟩ = some (.int .u8 (kd : Int)) ∧ W'.cell? ⟨bb, off + i * 4 + 1, none⟩ = some (.int .i64 a) ∧ W'.cell? ⟨bb, off + i * 4 + 2, none⟩ = some (.int .i64 d) ∧ W'.cell? ⟨bb, off + i * 4 + 3, none⟩ = some (.string t) from fun W' hb' => by
          obtain ⟨r0, r1, r2, r3⟩ := cells4 ((hb'.block _ (heap_lt Y8)).trans Y8)
          exact ⟨r0, r1, r2, r3, (hb'.cell (p := ⟨bb, _, none⟩) hbb4).trans e0, (hb'.cell (p := ⟨bb, _, none⟩) hbb4).trans e1, (hb'.cell (p := ⟨bb, _, none⟩) hbb4).trans e2, (hb'.cell (p := ⟨bb, _, none⟩) hbb4).trans e3⟩)
        clear m0 m1 m2 m3 e0 e1 e2 e3 hy hTa hER4 hCC hER g1 g2 g3 g4 hG4 hw4 bb4 X8 Y8 B4 b3 H3 A3
        go_wp2_with fail
        rw [← HW4.out]
        go_cut [10, 11, 12] from 40 to 50 (fun s10 s11 s12 wx => ∃ (g1 g2 : Nat) (p' : Option Addr) (n' c' k' : Nat) (E'' : List Ed), s10 = .pointer (some ⟨g1, 0, none⟩) ∧ s11 = .pointer (some ⟨g2, 0, none⟩) ∧ s12 = .int .i64 er ∧
          wx.heap[g1]? = some (.cells #[.string s, .slice p' n' c', .int .i64 (k' : Int), .int .i64 (x'.v : Int)] 29 (0, 0)) ∧ wx.heap[g2]? = some (.cells #[.int .i64 a', .int .i64 d', .string t'] 31 (0, 0)) ∧ ERow wx p' n' E'' ∧ n' ≤ c' ∧ Ta 20000 s E'' k' x' ∧ ((p' = p ∧ n' = n) ∨ ∀ a, p' = some a → w4.heap.size ≤ a.block) ∧ Below w4.heap.size w4 wx ∧ w4.heap.size ≤ g1 ∧ w4.heap.size ≤ g2)
        case first =>
         have hb0 : Below w4.heap.size w4 w4.drew := (Below.refl _ w4).drew
         have hbA : Below w4.heap.size w4 (w4.alloc (.cells #[.string { data := #[] }, .slice none 0 0, .int .i64 0, .int .i64 0] 29)).drew := ((Below.refl _ w4).alloc (Nat.le_refl _) _).drew
         have hbB : Below w4.heap.size w4 (w4.alloc (.cells #[.int .i64 0, .int .i64 0, .string { data := #[] }] 31)).drew := ((Below.refl _ w4).alloc (Nat.le_refl _) _).drew
         have hbAB : Below w4.heap.size w4 ((w4.alloc (.cells #[.string { data := #[] }, .slice none 0 0, .int .i64 0, .int .i64 0] 29)).alloc (.cells #[.int .i64 0, .int .i64 0, .string { data := #[] }] 31)).drew := (((Below.refl _ w4).alloc (Nat.le_refl _) _).alloc (by simp) _).drew
         have hbBA : Below w4.heap.size w4 ((w4.alloc (.cells #[.int .i64 0, .int .i64 0, .string { data := #[] }] 31)).alloc (.cells #[.string { data := #[] }, .slice none 0 0, .int .i64 0, .int .i64 0] 29)).drew := (((Below.refl _ w4).alloc (Nat.le_refl _) _).alloc (by simp) _).drew
         have xA : (w4.alloc (.cells #[.string { data := #[] }, .slice none 0 0, .int .i64 0, .int .i64 0] 29)).drew.heap[w4.heap.size]? = some (.cells #[.string { data := #[] }, .slice none 0 0, .int .i64 0, .int .i64 0] 29) := alloc_new w4 _
         have xB : (w4.alloc (.cells #[.int .i64 0, .int .i64 0, .string { data := #[] }] 31)).drew.heap[w4.heap.size]? = some (.cells #[.int .i64 0, .int .i64 0, .string { data := #[] }] 31) := alloc_new w4 _
         have xAB0 : ((w4.alloc (.cells #[.string { data := #[] }, .slice none 0 0, .int .i64 0, .int .i64 0] 29)).alloc (.cells #[.int .i64 0, .int .i64 0, .string { data := #[] }] 31)).drew.heap[w4.heap.size]? = some (.cells #[.string { data := #[] }, .slice none 0 0, .int .i64 0, .int .i64 0] 29) := blk_alloc (alloc_new w4 _)
         have xAB1 : ((w4.alloc (.cells #[.string { data := #[] }, .slice none 0 0, .int .i64 0, .int .i64 0] 29)).alloc (.cells #[.int .i64 0, .int .i64 0, .string { data := #[] }] 31)).drew.heap[w4.heap.size + 1]? = some (.cells #[.int .i64 0, .int .i64 0, .string { data := #[] }] 31) := alloc_at (w4.alloc (.cells #[.string { data := #[] }, .slice none 0 0, .int .i64 0, .int .i64 0] 29)) _ (by simp)
         have xBA0 : ((w4.alloc (.cells #[.int .i64 0, .int .i64 0, .string { data := #[] }] 31)).alloc (.cells #[.string { data := #[] }, .slice none 0 0, .int .i64 0, .int .i64 0] 29)).drew.heap[w4.heap.size]? = some (.cells #[.int .i64 0, .int .i64 0, .string { data := #[] }] 31) := blk_alloc (alloc_new w4 _)
         have xBA1 : ((w4.alloc (.cells #[.int .i64 0, .int .i64 0, .string { data := #[] }] 31)).alloc (.cells #[.string { data := #[] }, .slice none 0 0, .int .i64 0, .int .i64 0] 29)).drew.heap[w4.heap.size + 1]? = some (.cells #[.string { data := #[] }, .slice none 0 0, .int .i64 0, .int .i64 0] 29) := alloc_at (w4.alloc (.cells #[.int .i64 0, .int .i64 0, .string { data := #[] }] 31)) _ (by simp)
         have lA := heap_lt xA
         have lB := heap_lt xB
         have lAB0 := heap_lt xAB0
         have lAB1 := heap_lt xAB1
         have lBA0 := heap_lt xBA0
         have lBA1 := heap_lt xBA1
         have hHid := hid (And.intro hb0 (And.intro hbA hbB))
         go_region_held3 (fun w' => w'.cell? ⟨C, 0, none⟩ = some (.string s) ∧ w'.cell? ⟨C, 1, none⟩ = some (.slice p n c) ∧ w'.cell? ⟨C, 2, none⟩ = some (.int .i64 (k : Int)) ∧ w'.cell? ⟨C, 3, none⟩ = some (.int .i64 (x.v : Int)) ∧
            w'.cell? ⟨bb, off + i * 4, none⟩ = some (.int .u8 (kd : Int)) ∧ w'.cell? ⟨bb, off + i * 4 + 1, none⟩ = some (.int .i64 a) ∧ w'.cell? ⟨bb, off + i * 4 + 2, none⟩ = some (.int .i64 d) ∧ w'.cell? ⟨bb, off + i * 4 + 3, none⟩ = some (.string t))
          ((refine Kp.out _ ?_; (repeat (first | with_reducible exact hb0 | with_reducible exact hb1 | with_reducible refine Below.drew ?_ | with_reducible refine below_put ?_ ?_ | with_reducible refine below_made ?_ ?_ | with_reducible exact Below.refl _ _ | with_reducible exact Nat.le_refl _ | with_reducible exact hs1 | omega | (simp; done) | (simp; omega)))))
          (first
          | (go_at_call 13; refine (RR.out _ hb0).mono ?_; rintro e y ⟨p', n', c', k', E'', rfl, q1, q2, q3, q4, q5, q6⟩; have q7 : (p' = p ∧ n' = n) ∨ ∀ a, p' = some a → w4.heap.size ≤ a.block := (by simpa using q4); have hb1 := q5; have hs1 := q5.size)
          | (go_at_call 13; refine (RR.out _ hbA).mono ?_; rintro e y ⟨p', n', c', k', E'', rfl, q1, q2, q3, q4, q5, q6⟩; have q7 : (p' = p ∧ n' = n) ∨ ∀ a, p' = some a → w4.heap.size + 1 ≤ a.block := (by simpa using q4); have hb1 := q5; have hs1 := q5.size; have xa := (q6 w4.heap.size lA).trans xA; have xa' := blk_alloc (o' := (.cells #[.int .i64 0, .int .i64 0, .string { data := #[] }] 31)) xa; obtain ⟨a0, a1, a2, a3⟩ := cells4 xa; obtain ⟨af0, af1, af2, af3⟩ := frozen4 xa; have al := heap_lt xa; obtain ⟨aa0, aa1, aa2, aa3⟩ := cells4 xa'; obtain ⟨aaf0, aaf1, aaf2, aaf3⟩ := frozen4 xa'; have aal := heap_lt xa')
          | (go_at_call 13; refine (RR.out _ hbB).mono ?_; rintro e y ⟨p', n', c', k', E'', rfl, q1, q2, q3, q4, q5, q6⟩; have q7 : (p' = p ∧ n' = n) ∨ ∀ a, p' = some a → w4.heap.size + 1 ≤ a.block := (by simpa using q4); have hb1 := q5; have hs1 := q5.size; have xb := (q6 w4.heap.size lB).trans xB; have xb' := blk_alloc (o' := (.cells #[.string { data := #[] }, .slice none 0 0, .int .i64 0, .int .i64 0] 29)) xb; obtain ⟨b0, b1, b2⟩ := cells3 xb; obtain ⟨bf0, bf1, bf2⟩ := frozen3 xb; have bl := heap_lt xb; obtain ⟨bb0, bb1, bb2⟩ := cells3 xb'; obtain ⟨bbf0, bbf1, bbf2⟩ := frozen3 xb'; have bbl := heap_lt xb')
          | (go_at_call 13; refine (RR.out _ hbAB).mono ?_; rintro e y ⟨p', n', c', k', E'', rfl, q1, q2, q3, q4, q5, q6⟩; have q7 : (p' = p ∧ n' = n) ∨ ∀ a, p' = some a → w4.heap.size + 2 ≤ a.block := (by simpa using q4); have hb1 := q5; have hs1 := q5.size; have xa := (q6 w4.heap.size lAB0).trans xAB0; have xb := (q6 (w4.heap.size + 1) lAB1).trans xAB1; obtain ⟨a0, a1, a2, a3⟩ := cells4 xa; obtain ⟨af0, af1, af2, af3⟩ := frozen4 xa; have al := heap_lt xa; obtain ⟨b0, b1, b2⟩ := cells3 xb; obtain ⟨bf0, bf1, bf2⟩ := frozen3 xb; have bl := heap_lt xb)
          | (go_at_call 13; refine (RR.out _ hbBA).mono ?_; rintro e y ⟨p', n', c', k', E'', rfl, q1, q2, q3, q4, q5, q6⟩; have q7 : (p' = p ∧ n' = n) ∨ ∀ a, p' = some a → w4.heap.size + 2 ≤ a.block := (by simpa using q4); have hb1 := q5; have hs1 := q5.size; have xb := (q6 w4.heap.size lBA0).trans xBA0; have xa := (q6 (w4.heap.size + 1) lBA1).trans xBA1; obtain ⟨a0, a1, a2, a3⟩ := cells4 xa; obtain ⟨af0, af1, af2, af3⟩ := frozen4 xa; have al := heap_lt xa; obtain ⟨b0, b1, b2⟩ := cells3 xb; obtain ⟨bf0, bf1, bf2⟩ := frozen3 xb; have bl := heap_lt xb))
         all_goals (go_wp2_with fail; go_meet)
         · exact ⟨y.heap.size, y.heap.size + 1, p', n', c', k', E'', rfl, rfl, rfl, blk_alloc (alloc_new _ _), alloc_at _ _ (by simp), (by (repeat (first | with_reducible refine erow_drew ?_ | with_reducible refine erow_alloc ?_ | with_reducible refine erow_far ?_ q7 HER.out (by omega) (by omega))); exact q1), q2, q3, (q7.imp id (fun h a ha => by have := h a ha; omega)), (by repeat (first | with_reducible exact hb1 | with_reducible refine Below.drew ?_ | with_reducible refine below_put ?_ ?_ | with_reducible refine below_made ?_ ?_ | with_reducible exact Nat.le_refl _ | with_reducible exact hs1 | omega | (simp; done) | (simp; omega))), hs1, (by omega)⟩
         · exact ⟨y.heap.size + 1, y.heap.size, p', n', c', k', E'', rfl, rfl, rfl, alloc_at _ _ (by simp), blk_alloc (alloc_new _ _), (by (repeat (first | with_reducible refine erow_drew ?_ | with_reducible refine erow_alloc ?_ | with_reducible refine erow_far ?_ q7 HER.out (by omega) (by omega))); exact q1), q2, q3, (q7.imp id (fun h a ha => by have := h a ha; omega)), (by repeat (first | with_reducible exact hb1 | with_reducible refine Below.drew ?_ | with_reducible refine below_put ?_ ?_ | with_reducible refine below_made ?_ ?_ | with_reducible exact Nat.le_refl _ | with_reducible exact hs1 | omega | (simp; done) | (simp; omega))), (by omega), hs1⟩
         · exact ⟨w4.heap.size, y.heap.size, p', n', c', k', E'', rfl, rfl, rfl, blk_alloc (four_set xa), alloc_at _ _ (by simp), (by (repeat (first | with_reducible refine erow_drew ?_ | with_reducible refine erow_alloc ?_ | with_reducible refine erow_far ?_ q7 HER.out (by omega) (by omega))); exact q1), q2, q3, (q7.imp id (fun h a ha => by have := h a ha; omega)), (by repeat (first | with_reducible exact hb1 | with_reducible refine Below.drew ?_ | with_reducible refine below_put ?_ ?_ | with_reducible refine below_made ?_ ?_ | with_reducible exact Nat.le_refl _ | with_reducible exact hs1 | omega | (simp; done) | (simp; omega))), (Nat.le_refl _), hs1⟩
         · exact ⟨w4.heap.size, w4.heap.size + 1, p', n', c', k', E'', rfl, rfl, rfl, far3 (four_set xa) (by omega), three_set (far4 xb (by omega)), (by (repeat (first | with_reducible refine erow_drew ?_ | with_reducible refine erow_alloc ?_ | with_reducible refine erow_far ?_ q7 HER.out (by omega) (by omega))); exact q1), q2, q3, (q7.imp id (fun h a ha => by have := h a ha; omega)), (by repeat (first | with_reducible exact hb1 | with_reducible refine Below.drew ?_ | with_reducible refine below_put ?_ ?_ | with_reducible refine below_made ?_ ?_ | with_reducible exact Nat.le_refl _ | with_reducible exact hs1 | omega | (simp; done) | (simp; omega))), (Nat.le_refl _), (by omega)⟩
         · exact ⟨y.heap.size, w4.heap.size, p', n', c', k', E'', rfl, rfl, rfl, alloc_at _ _ (by simp), blk_alloc (three_set xb), (by (repeat (first | with_reducible refine erow_drew ?_ | with_reducible refine erow_alloc ?_ | with_reducible refine erow_far ?_ q7 HER.out (by omega) (by omega))); exact q1), q2, q3, (q7.imp id (fun h a ha => by have := h a ha; omega)), (by repeat (first | with_reducible exact hb1 | with_reducible refine Below.drew ?_ | with_reducible refine below_put ?_ ?_ | with_reducible refine below_made ?_ ?_ | with_reducible exact Nat.le_refl _ | with_reducible exact hs1 | omega | (simp; done) | (simp; omega))), hs1, (Nat.le_refl _)⟩
         · exact ⟨w4.heap.size + 1, w4.heap.size, p', n', c', k', E'', rfl, rfl, rfl, far3 (four_set xa) (by omega), three_set (far4 xb (by omega)), (by (repeat (first | with_reducible refine erow_drew ?_ | with_reducible refine erow_alloc ?_ | with_reducible refine erow_far ?_ q7 HER.out (by omega) (by omega))); exact q1), q2, q3, (q7.imp id (fun h a ha => by have := h a ha; omega)), (by repeat (first | with_reducible exact hb1 | with_reducible refine Below.drew ?_ | with_reducible refine below_put ?_ ?_ | with_reducible refine below_made ?_ ?_ | with_reducible exact Nat.le_refl _ | with_reducible exact hs1 | omega | (simp; done) | (simp; omega))), (by omega), (Nat.le_refl _)⟩
        case rest =>
          obtain ⟨g1, g2, p', n', c', k', E'', rfl, rfl, rfl, hg1, hg2, hrow, hnc', hTa', hp, hbx, hl1, hl2⟩ := hcut
          have YC := (hbx.block _ (heap_lt HC4.out)).trans HC4.out
          have Y8 := (hbx.block _ (heap_lt HX8.out)).trans HX8.out
          have HGx := HG.out.1.below hbx
          obtain ⟨hGb, hGC, hGp, _, _⟩ := HG.out.2
          have hC3 : C < w3.heap.size := by have h1 := heap_lt HC4.out; have h2 := HW4.out; have h3 : w4.heap.size = w3.heap.size + 1 := by rw [h2]; simp
                                            have h4 : C ≠ w3.heap.size := by
                                              intro e
                                              have h5 := HX8.out
                                              rw [← e, HC4.out] at h5
                                              simp at h5
                                            omega
          have h43 : w4.heap.size = w3.heap.size + 1 := by rw [HW4.out]; simp
          have hg1C : g1 ≠ C := by omega
          have hg2C : g2 ≠ C := by omega
          have h8C : w3.heap.size ≠ C := by omega
          -- the store into x
          obtain ⟨m0, m1, m2, m3⟩ := cells4 YC
          obtain ⟨f0, f1, f2, f3⟩ := frozen4 YC
          obtain ⟨j0, j1, j2, j3⟩ := cells4 hg1
          have hlC := heap_lt YC
          obtain ⟨wd, hwd⟩ : ∃ wd, wd = (((wc.setCell ⟨C, 0, none⟩ (.string s)).setCell ⟨C, 1, none⟩ (.slice p' n' c')).setCell ⟨C, 2, none⟩ (.int .i64 (k' : Int))).setCell ⟨C, 3, none⟩ (.int .i64 (x'.v : Int)) := ⟨_, rfl⟩
          have ZC : wd.heap[C]? = some (.cells #[.string s, .slice p' n' c', .int .i64 (k' : Int), .int .i64 (x'.v : Int)] 29 (0, 0)) := by rw [hwd]; exact four_set YC
          have Zg2 : wd.heap[g2]? = some (.cells #[.int .i64 a', .int .i64 d', .string t'] 31 (0, 0)) := by rw [hwd]; exact far4 hg2 hg2C
          have Z8 : wd.heap[w3.heap.size]? = some (.cells #[.int .i64 a', .int .i64 d', .string t'] 31 (0, 0)) := by rw [hwd]; exact far4 Y8 h8C
          have kd4 : Kept (· = C) wc wd := by rw [hwd]; exact ((((Kept.refl _ _).setCell (by rfl) _).setCell (by rfl) _).setCell (by rfl) _).setCell (by rfl) _
          have HGd : Hi G wd B x' := HGx.keep kd4 (fun b hb hC' => hGC (hC' ▸ hb))
          have hrowd : ERow wd p' n' E'' := by
            refine erow_keep hrow ?_ kd4.size
            rcases hp with ⟨rfl, rfl⟩ | hp
            · exact hGp.imp id (fun h a ha => kd4.block _ (h a ha).2)
            · exact .inr fun a ha => kd4.block _ (by have := hp a ha; show ¬ a.block = C; omega)
          have Bd : Below w.heap.size w wd := by
            have h1 : Below w.heap.size w wc := HB4.out.trans (hbx.mono HB4.out.size)
            rw [hwd]
            exact (((h1.setCell hCn _).setCell hCn _).setCell hCn _).setCell hCn _
          have SD : ∀ wf, Below wd.heap.size wd wf → Side w.heap.size wf B C s x' p' n' c' k' E'' := fun wf hf => by
            refine ⟨G, HGd.below hf, fun b hb => ⟨(hGb b hb).1, ?_⟩, hGC, (hf.block _ (heap_lt ZC)).trans ZC, hrowd.below hf, hnc', hTa', ?_⟩
            · have h1 := (hGb b hb).2
              have h2 := hbx.size
              have h3 := kd4.size
              have h4 := hf.size
              omega
            · rcases hp with ⟨rfl, rfl⟩ | hp
              · exact hGp
              · exact .inr fun a ha => ⟨fun h => by have h1 := hp a ha; have h2 := (hGb _ h).2; omega, by have h1 := hp a ha; omega⟩
          have hUl : x'.U.length = k' := hTa'.lenU
          have hRl : (x'.R.length : Int) = (n' : Int) - (k' : Int) := by have h1 := hTa'.lenR; have h2 := hrow.1; have h3 := hTa'.le; omega
          have hkn' : k' ≤ n' := by have h2 := hrow.1; have h3 := hTa'.le; omega
          have hn'30 : n' ≤ 60 := by have h1 := hTa'.lenR; have h2 := hrow.1; have h3 := HX'.out.len; omega
          have hv'30 : x'.v ≤ 60 := by have := HX'.out.v; omega
          have DP := hid (show Calls Try.prog 14 #[.pointer (some ⟨B, 0, none⟩)] wd fun e w' => e = .returned (.tuple #[.int .i64 (k' : Int), .int .i64 ((n' : Int) - (k' : Int))]) ∧ Below wd.heap.size wd w' from by rw [← hRl, ← hUl]; exact depth_hi G wd B x' HGd)
          have T1 := hid (show ∀ wf, Below wd.heap.size wd wf → Calls Try.prog 15 #[.pointer (some ⟨B, 0, none⟩)] wf fun e w' => e = .returned (.string x'.s) ∧ wf = w' from fun wf hf => text_hi G wf B x' (HGd.below hf))
          have T2 := hid (show ∀ wf, Below wd.heap.size wd wf → Calls Try.prog 16 #[.agg #[.string s, .slice p' n' c', .int .i64 (k' : Int), .int .i64 (x'.v : Int)]] wf fun e w' => e = .returned (.string x'.s) ∧ Below wf.heap.size wf w' from fun wf hf => rtext_any s p' n' c' E'' k' _ 20000 x'.s x'.U x'.R wf hTa' (by omega) (by omega) (hrowd.below hf))
          have T3 := hid (show ∀ wf, Below wd.heap.size wd wf → Calls Try.prog 17 #[.pointer (some ⟨B, 0, none⟩)] wf fun e w' => e = .returned (.int .i64 (x'.v : Int)) ∧ wf = w' from fun wf hf => version_hi G wf B x' (HGd.below hf))
          have HSD := hid SD
          have HBd := hid Bd
          have HZC := hid ZC
          have HZ2 := hid Zg2
          have HZ8 := hid Z8
          have HWD := hid hwd
          clear hg1 hg2 hrow hTa' hp hbx hl1 hl2 YC Y8 HGx hGb hGC hGp hC3 h43 ZC Zg2 Z8 kd4 HGd hrowd Bd SD hUl hRl hwd hg1C hg2C h8C hnc'
          go_wp2_with fail
          rw [← HWD.out]
          clear m0 m1 m2 m3 f0 f1 f2 f3 j0 j1 j2 j3 hlC
          refine DP.out.mono ?_
          rintro e we ⟨rfl, hbe⟩
          go_wp2_with fail
          have e9 : IntKind.i64.wrap ((n' : Int) - (k' : Int)) = (n' : Int) - (k' : Int) := wrapIn (by omega) (by omega)
          refine wp_region_below (by kernel_rfl) (by kernel_rfl) ?_
          intro X f _ hfx hsf
          have hfd := hid (show ∀ x, Below wd.heap.size wd (f x) from fun x => hbe.trans ((hfx.out x).mono hbe.size))
          have c0 := fun x => (cells4 (((hfd.out x).block _ (heap_lt HZC.out)).trans HZC.out)).1
          have c1 := fun x => (cells4 (((hfd.out x).block _ (heap_lt HZC.out)).trans HZC.out)).2.1
          have c2 := fun x => (cells4 (((hfd.out x).block _ (heap_lt HZC.out)).trans HZC.out)).2.2.1
          have c3 := fun x => (cells4 (((hfd.out x).block _ (heap_lt HZC.out)).trans HZC.out)).2.2.2
          have d0 := fun x => (cells3 (((hfd.out x).block _ (heap_lt HZ2.out)).trans HZ2.out)).1
          have d1 := fun x => (cells3 (((hfd.out x).block _ (heap_lt HZ2.out)).trans HZ2.out)).2.1
          have d2 := fun x => (cells3 (((hfd.out x).block _ (heap_lt HZ2.out)).trans HZ2.out)).2.2
          have u0 := fun x => (cells3 (((hfd.out x).block _ (heap_lt HZ8.out)).trans HZ8.out)).1
          have u1 := fun x => (cells3 (((hfd.out x).block _ (heap_lt HZ8.out)).trans HZ8.out)).2.1
          have u2 := fun x => (cells3 (((hfd.out x).block _ (heap_lt HZ8.out)).trans HZ8.out)).2.2
          repeat (go_big_quiet_step (first | (go_at_call 15; exact calls_same (T1.out _ (hfd.out _))) | (go_at_call 16; exact calls_below hfx hsf (T2.out _ (hfd.out _))) | (go_at_call 17; exact calls_same (T3.out _ (hfd.out _)))))
          refine wpQuiet_nil ?_
          intro wf hbf
          clear c0 c1 c2 c3 d0 d1 d2 u0 u1 u2 hfx hsf hfd
          have hwf := hid (hbe.trans (hbf.mono hbe.size))
          clear hbe hbf
          go_wp2
          go_roundg (gk - 1)
          case measure => omega
          case rel => exact ⟨i + 1, x', p', n', c', k', E'', by go_num, by omega, HSD.out _ hwf.out, HX'.out, HBd.out.trans (hwf.out.mono HBd.out.size)⟩
      · have hin : ¬ (i : Int) < (len : Int) := by omega
        obtain ⟨G, f1, f2, f3, f4, f5, f6, f7, f8⟩ := hS
        have T1 := hid (show ∀ wf, Below wr.heap.size wr wf → Calls Try.prog 15 #[.pointer (some ⟨B, 0, none⟩)] wf fun e w' => e = .returned (.string x.s) ∧ wf = w' from fun wf hf => text_hi G wf B x (f1.below hf))
        have hk30 : k ≤ 1000000 := by have h1 := f7.lenU; have h2 := hO.len; omega
        have T2 := hid (show ∀ wf, Below wr.heap.size wr wf → Calls Try.prog 16 #[.agg #[.string s, .slice p n c, .int .i64 (k : Int), .int .i64 (x.v : Int)]] wf fun e w' => e = .returned (.string x.s) ∧ Below wf.heap.size wf w' from fun wf hf => rtext_any s p n c E' k _ 20000 x.s x.U x.R wf f7 (by omega) hk30 (f5.below hf))
        have HC := hid f4
        have HB := hid hbw
        clear f1 f2 f3 f4 f5 f6 f7 f8 hbw hO
        go_wp2_with fail
        refine wp_region_below (by kernel_rfl) (by kernel_rfl) ?_
        intro X f _ hfx hsf
        have c0 := fun x => (cells4 (((hfx.out x).block _ (heap_lt HC.out)).trans HC.out)).1
        have c1 := fun x => (cells4 (((hfx.out x).block _ (heap_lt HC.out)).trans HC.out)).2.1
        have c2 := fun x => (cells4 (((hfx.out x).block _ (heap_lt HC.out)).trans HC.out)).2.2.1
        have c3 := fun x => (cells4 (((hfx.out x).block _ (heap_lt HC.out)).trans HC.out)).2.2.2
        repeat (go_big_quiet_step (first | (go_at_call 15; exact calls_same (T1.out _ (hfx.out _))) | (go_at_call 16; exact calls_below hfx hsf (T2.out _ (hfx.out _)))))
        refine wpQuiet_nil ?_
        intro wf hbf
        clear c0 c1 c2 c3 hfx hsf
        go_wp2
        go_ret
        exact ⟨rfl, HB.out.trans (hbf.mono HB.out.size)⟩
  · rw [decide_eq_false hF]
    go_wp2
    go_ret
    exact ⟨rfl, b1⟩

theorem lifted (os : Os) (started : os.Started) (H : Type) (enc : TypeId × Value → H) :
    ReturnsInHanded {} Try.checked os 3 .any (Rows.undoHistorySpec.pre6 enc Try.prog Try.f3 Rows.undoHistoryRow.domain false) (Rows.undoHistorySpec.post enc Try.prog Try.f3 false true false false) := by
  refine Go.Frame.lifted (C := Try.checked) (tb := 4) own started (by kernel_rfl) Try.func3
    (ChangeSpec.witness6 (enc := enc) (C := Try.checked) false ⟨#[], #[.string ByteArray.empty, .slice none 0 0], []⟩ 8 (by kernel_rfl) (by kernel_rfl) (by kernel_rfl) (by kernel_rfl))
    laidOut (by kernel_rfl) (by kernel_rfl) Try.underlying4 rfl ?_ ?_
  · intro ds h
    have h : ds.length = 2 := h
    match ds, h with
    | [_, _], _ => rfl
  · intro W base args ds p hlen hval0 hA hsz0
    have hval : ∀ (j : Nat) t v, Try.f3.params[j]? = some t → args[j]? = some v → Value.okWide Try.prog W .any base t v := hval0
    have hA : DataW.TrodAll enc Try.prog W 0 (fun _ => true) true Try.f3.params.toList args.toList ds p := hA
    have hsz : (DataW.weightsEach Try.prog Try.f3.params.toList ds).all (· ≤ reachBytes) = true := hsz0
    rw [Try.params3] at hA hval hsz
    obtain ⟨v0, vs0, d0, ds0, p0, q0, hargs, hds, _, th0, tr0⟩ := trodAll_cons hA
    obtain ⟨v1, vs1, d1, ds1, p1, q1, rfl, rfl, _, th1, tr1⟩ := trodAll_cons tr0
    obtain ⟨rfl, rfl, _⟩ := trodAll_nil tr1
    obtain rfl : args = #[v0, v1] := by cases args; simp_all
    subst hds
    obtain ⟨t0, rfl, hd0, _, _⟩ := open_string Try.underlying9 (hval 0 9 v0 rfl rfl) th0
    have hs0 : t0.size ≤ 140737488351232 := of_decide_eq_true (List.all_eq_true.1 hsz _ (DataW.weights_mem_each (j := 0) rfl rfl _ (by rw [hd0]; simp [DataW.weights])))
    obtain ⟨b1, len1, cap1, rfl⟩ := okWide_slice Try.underlying22 (hval 1 22 v1 rfl rfl)
    have hE : ∃ E : List Sp, SRow W b1 len1 E ∧ len1 ≤ 140737488351232 ∧ ∀ e ∈ E, InS e := by
      obtain ⟨fuel, hf⟩ := th1
      refine open_steps hf ?_
      intro n hn
      exact of_decide_eq_true (List.all_eq_true.1 hsz _ (DataW.weights_mem_each (j := 1) rfl rfl n hn))
    exact walk t0 b1 len1 cap1 W hs0 hE

theorem over : Rows.undoHistoryRow.holds Try.pinned (OpenSpec.ofChange Rows.undoHistorySpec) :=
  OpenClaim.holds_of_wide 3 Try.f3 rfl rfl rfl rfl rfl rfl rfl ⟨rfl, rfl, rfl, rfl, rfl⟩ rfl rfl rfl rfl rfl (by kernel_rfl) Try.func3 (by kernel_rfl)
    (of_decide_eq_true (by kernel_rfl)) (by unfold Func.isWrapper; first | (rw [if_pos (by decide +kernel)]; kernel_rfl) | (rw [if_neg (by decide +kernel)]; exact ⟨rfl, rfl⟩))
    (fun os started H enc _ => lifted os started H enc)

/-- THE STATEMENT -/
theorem proved : Rows.UndoHistorySaid :=
  over
#print axioms proved
end Go.Proofs.Ytfhdbenomkbfjaa.undoHistory
