/-
  Contracts: the reference's Text, Undo, Redo.
-/
import Derived.Test.YtfhdbenomkbfjaaJ
import Derived.Deep.CutRange
import Derived.Deep.CutBlock
set_option linter.unusedSimpArgs false
set_option linter.unusedVariables false
namespace Te
theorem tale_down {K : Nat} {S0 : ByteArray} {E : List Ed} : ∀ (m i : Nat) {s : ByteArray} {U R : List Ed}, Tale K S0 E (i + m) s U R → ∃ s' U' R', Tale K S0 E i s' U' R'
  | 0, i, s, U, R, h => ⟨s, U, R, h⟩
  | m + 1, i, s, U, R, h => by
    obtain ⟨t, e, _, _, _, _, _, _, _, h8⟩ := Tale.undo (k := i + m) h
    exact tale_down m i h8
theorem tale_at {K : Nat} {S0 : ByteArray} {E : List Ed} {k : Nat} {s : ByteArray} {U R : List Ed} (h : Tale K S0 E k s U R) {i : Nat} (hi : i < k) :
    ∃ t e, E[i]? = some e ∧ apAll S0 (E.take i) = some t ∧ Fit t.size e ∧ apAll S0 (E.take (i + 1)) = some (ap t e) ∧ t.size ≤ K ∧ e.2.2.size ≤ K := by
  obtain ⟨s', U', R', h'⟩ := tale_down (k - (i + 1)) (i + 1) (by rw [show i + 1 + (k - (i + 1)) = k by omega]; exact h)
  obtain ⟨t, e, h1, h2, h3, h4, _, _, _, h8⟩ := Tale.undo h'
  refine ⟨t, e, h1, h2, h3, by rw [h'.now, h4], h8.chU.size, ?_⟩
  have := h'.chU.size
  rw [h4] at this
  exact Nat.le_trans (ins_le h3) this
end Te
namespace Go.Proofs.Ytfhdbenomkbfjaa
open Go.RowKit Te Go.Frame
theorem ERow.at {W : World} {p : Option Addr} {n : Nat} {E : List Ed} (h : ERow W p n E) {i : Nat} {x : Ed} (hx : E[i]? = some x) : ∃ b off, p = some ⟨b, off, none⟩ ∧ b < W.heap.size ∧ i < n ∧
    W.cell? ⟨b, off + i * 3, none⟩ = some (.int .i64 x.1) ∧ W.cell? ⟨b, off + i * 3 + 1, none⟩ = some (.int .i64 x.2.1) ∧ W.cell? ⟨b, off + i * 3 + 2, none⟩ = some (.string x.2.2) := by
  have hl := (List.getElem?_eq_some_iff.1 hx).1
  rw [h.1] at hl
  obtain ⟨b, off, rfl, hb, hc⟩ := h.2.resolve_left (by omega)
  obtain ⟨c0, c1, c2⟩ := hc i x hx
  exact ⟨b, off, rfl, hb, hl, c0, c1, c2⟩
set_option maxRecDepth 100000 in
set_option maxHeartbeats 4000000 in
theorem rtext_any (S0 : ByteArray) (p : Option Addr) (n c : Nat) (E : List Ed) (k : Nat) (v : Int) (K : Nat) (s : ByteArray) (U R : List Ed) (w : World) (h : Tale K S0 E k s U R) (hK : K ≤ 1000000) (hk : k ≤ 1000000) (hr : ERow w p n E) :
    Calls Try.prog 16 #[.agg #[.string S0, .slice p n c, .int .i64 (k : Int), .int .i64 v]] w fun e w' => e = .returned (.string s) ∧ Below w.heap.size w w' := by
  obtain ⟨W, hW⟩ : ∃ W, W = w.alloc (.cells #[.string S0, .slice p n c, .int .i64 (k : Int), .int .i64 v] 29) := ⟨_, rfl⟩
  have bW : Below w.heap.size w W := by rw [hW]; exact (Below.refl _ _).alloc (Nat.le_refl _) _
  have hx0 : W.heap[w.heap.size]? = some (.cells #[.string S0, .slice p n c, .int .i64 (k : Int), .int .i64 v] 29 (0, 0)) := by rw [hW]; exact alloc_new _ _
  have K0 := hid (show ∀ W', Below W.heap.size W W' → W'.cell? ⟨w.heap.size, 0, none⟩ = some (.string S0) ∧ W'.cell? ⟨w.heap.size, 1, none⟩ = some (.slice p n c) ∧ W'.cell? ⟨w.heap.size, 2, none⟩ = some (.int .i64 (k : Int)) ∧ W'.cell? ⟨w.heap.size, 3, none⟩ = some (.int .i64 v) from fun W' hb => cells4 ((hb.block _ (heap_lt hx0)).trans hx0))
  have HR := hid (hr.below bW)
  have HW := hid hW
  have HT := hid h
  have hle := hid bW.size
  have BW := hid bW
  obtain ⟨k0, k1, k2, k3⟩ := K0.out _ (Below.refl _ W)
  rw [hW] at k0 k1 k2 k3
  clear hx0 hW h hr bW
  go_enter Try.func16, Try.ntmps16
  go_wp2_with fail
  rw [← HW.out]
  go_loopg [3, 4] k (fun j s3 s4 wr => ∃ (i : Nat) (cur : ByteArray), s3 = .string cur ∧ s4 = .int .i64 i ∧ i + j = k ∧ apAll S0 (E.take i) = some cur ∧ Below W.heap.size W wr)
  case atStart => exact ⟨0, S0, rfl, rfl, by omega, rfl, Below.refl _ _⟩
  case round =>
    obtain ⟨i, cur, rfl, rfl, hj, hcur, hbw⟩ := hrel
    clear k0 k1 k2 k3
    obtain ⟨k0, k1, k2, k3⟩ := K0.out _ hbw
    have hkk : (k : Int) ≤ 1000000 := by omega
    by_cases hlt : i < k
    · have hlt' : (i : Int) < (k : Int) := by omega
      have hi0 : (0 : Int) ≤ (i : Int) := by omega
      obtain ⟨t, ⟨a, d, u⟩, h1, h2, h3, h4, h5, h6⟩ := tale_at HT.out hlt
      rw [hcur] at h2
      simp only [Option.some.injEq] at h2
      subst h2
      obtain ⟨b, off, rfl, hb, hin, c0, c1, c2⟩ := ERow.at (HR.out.below hbw) h1
      have hin' : (i : Int) < (n : Int) := by omega
      have h6 : u.size ≤ K := h6
      have RA := hid (show Calls Try.prog 18 #[.string cur, .agg #[.int .i64 a, .int .i64 d, .string u]] wr fun e w' => e = .returned (.tuple #[.string (ap cur (a, d, u)), .int .i64 0]) ∧ Below wr.heap.size wr w' from by
        refine (rapply_any cur u a d wr (by omega) (by omega)).mono ?_
        rintro e w' ⟨rfl, h⟩
        exact ⟨by rw [apv_yes h3], h⟩)
      have H4 := hid h4
      have HB := hid hbw
      clear h1 h3 h4 h5 h6 hcur hbw
      go_wp2_with fail
      refine RA.out.mono ?_
      rintro e w1 ⟨rfl, b1⟩
      have B1 := hid (HB.out.trans (b1.mono HB.out.size))
      clear b1 c0 c1 c2 k0 k1 k2 k3
      go_wp2
      go_roundg (gk - 1)
      case measure => omega
      case rel => exact ⟨i + 1, _, rfl, by go_num, by omega, H4.out, B1.out⟩
    · have hin : ¬ (i : Int) < (k : Int) := by omega
      have hi : i = k := by omega
      rw [hi, HT.out.now] at hcur
      simp only [Option.some.injEq] at hcur
      subst hcur
      have HB := hid hbw
      clear hbw hlt hi
      go_wp2
      go_ret
      exact ⟨rfl, BW.out.trans (HB.out.mono hle.out)⟩
/-- What a call of the reference's Run comes to. -/
def RunRes (K : Nat) (S0 : ByteArray) (p : Option Addr) (n : Nat) (x' : St) (a d : Int) (t : ByteArray) (er : Int) (w : World) (e : Ending) (w' : World) : Prop :=
  ∃ (p' : Option Addr) (n' c' k' : Nat) (E' : List Ed), e = .returned (.tuple #[.agg #[.string S0, .slice p' n' c', .int .i64 (k' : Int), .int .i64 (x'.v : Int)], .agg #[.int .i64 a, .int .i64 d, .string t], .int .i64 er]) ∧
    ERow w' p' n' E' ∧ n' ≤ c' ∧ Ta K S0 E' k' x' ∧ ((p' = p ∧ n' = n) ∨ ∀ a, p' = some a → w.heap.size ≤ a.block) ∧ Below w.heap.size w w'
theorem frozen4 {W : World} {b : Nat} {x y z v : Value} {t : TypeId} (h : W.heap[b]? = some (.cells #[x, y, z, v] t (0, 0))) : W.frozen? ⟨b, 0, none⟩ = false ∧ W.frozen? ⟨b, 1, none⟩ = false ∧ W.frozen? ⟨b, 2, none⟩ = false ∧ W.frozen? ⟨b, 3, none⟩ = false := cells4' h

def stc (S0 : ByteArray) (p : Option Addr) (n c : Nat) (k v : Int) : Obj := .cells #[.string S0, .slice p n c, .int .i64 k, .int .i64 v] 29
def edc (a d : Int) (t : ByteArray) : Obj := .cells #[.int .i64 a, .int .i64 d, .string t] 31
theorem three_set {W : World} {b : Nat} {x y z x' y' z' : Value} {t : TypeId} (h : W.heap[b]? = some (.cells #[x, y, z] t (0, 0))) : (((W.setCell ⟨b, 0, none⟩ x').setCell ⟨b, 1, none⟩ y').setCell ⟨b, 2, none⟩ z').heap[b]? = some (.cells #[x', y', z'] t (0, 0)) := by
  rw [blk_put (blk_put (blk_put h))]; rfl
/-- Three boxes made one behind the other. -/
theorem three (w : World) (o1 o2 o3 : Obj) : (((w.alloc o1).alloc o2).alloc o3).heap[w.heap.size]? = some o1 ∧ (((w.alloc o1).alloc o2).alloc o3).heap[w.heap.size + 1]? = some o2 ∧ (((w.alloc o1).alloc o2).alloc o3).heap[w.heap.size + 1 + 1]? = some o3 ∧
    Below w.heap.size w (((w.alloc o1).alloc o2).alloc o3) ∧ (((w.alloc o1).alloc o2).alloc o3).heap.size = w.heap.size + 3 :=
  ⟨blk_alloc (blk_alloc (alloc_new _ _)), blk_alloc (alloc_at _ _ (by simp)), alloc_at _ _ (by simp), (((Below.refl _ _).alloc (Nat.le_refl _) _).alloc (by simp) _).alloc (by simp; omega) _, by simp⟩
set_option maxRecDepth 100000 in
set_option maxHeartbeats 4000000 in
theorem rundo_no (S0 : ByteArray) (p : Option Addr) (n c : Nat) (E : List Ed) (x : St) (K : Nat) (w : World) (h : Ta K S0 E 0 x) (hc : n ≤ c) (hr : ERow w p n E) :
    Calls Try.prog 23 #[.agg #[.string S0, .slice p n c, .int .i64 0, .int .i64 (x.v : Int)]] w fun e w' => RunRes K S0 p n x 0 0 { data := #[] } 15 w e w' := by
  have HT := hid h
  have HR := hid hr
  clear h hr
  go_enter Try.func23, Try.ntmps23
  go_wp2_with fail
  obtain ⟨_, hx1, hx2, bW, _⟩ := three w (stc S0 p n c 0 x.v) (stc S0 p n c 0 x.v) (edc 0 0 { data := #[] })
  obtain ⟨z0, z1, z2, z3⟩ := cells4 hx1
  obtain ⟨y0, y1, y2⟩ := cells3 hx2
  unfold stc edc at z0 z1 z2 z3 y0 y1 y2 bW
  refine bodyPost_ret (v := .tuple #[.agg #[.string S0, .slice p n c, .int .i64 0, .int .i64 (x.v : Int)], .agg #[.int .i64 0, .int .i64 0, .string { data := #[] }], .int .i64 15]) ?_ rfl ⟨p, n, c, 0, E, rfl, HR.out.below bW, hc, HT.out, .inl ⟨rfl, rfl⟩, bW⟩
  simp [results, Try.results23, go_sem, z0, z1, z2, z3, y0, y1, y2]
set_option maxRecDepth 100000 in
set_option maxHeartbeats 4000000 in
theorem rredo_no (S0 : ByteArray) (p : Option Addr) (n c : Nat) (E : List Ed) (x : St) (K : Nat) (w : World) (h : Ta K S0 E n x) (hc : n ≤ c) (hr : ERow w p n E) :
    Calls Try.prog 24 #[.agg #[.string S0, .slice p n c, .int .i64 (n : Int), .int .i64 (x.v : Int)]] w fun e w' => RunRes K S0 p n x 0 0 { data := #[] } 15 w e w' := by
  have HT := hid h
  have HR := hid hr
  clear h hr
  go_enter Try.func24, Try.ntmps24
  go_wp2_with fail
  obtain ⟨_, hx1, hx2, bW, _⟩ := three w (stc S0 p n c n x.v) (stc S0 p n c n x.v) (edc 0 0 { data := #[] })
  obtain ⟨z0, z1, z2, z3⟩ := cells4 hx1
  obtain ⟨y0, y1, y2⟩ := cells3 hx2
  unfold stc edc at z0 z1 z2 z3 y0 y1 y2 bW
  refine bodyPost_ret (v := .tuple #[.agg #[.string S0, .slice p n c, .int .i64 (n : Int), .int .i64 (x.v : Int)], .agg #[.int .i64 0, .int .i64 0, .string { data := #[] }], .int .i64 15]) ?_ rfl ⟨p, n, c, n, E, rfl, HR.out.below bW, hc, HT.out, .inl ⟨rfl, rfl⟩, bW⟩
  simp [results, Try.results24, go_sem, z0, z1, z2, z3, y0, y1, y2]
set_option maxRecDepth 100000 in
set_option maxHeartbeats 4000000 in
theorem rredo_yes (S0 : ByteArray) (p : Option Addr) (n c : Nat) (E : List Ed) (k : Nat) (x x' : St) (a d : Int) (t : ByteArray) (K : Nat) (w : World) (hx : E[k]? = some (a, d, t)) (h : Ta K S0 E (k + 1) x') (hv : x'.v = x.v + 1) (hv9 : x.v ≤ 1000000) (hn9 : n ≤ 1000000) (hc : n ≤ c) (hr : ERow w p n E) :
    Calls Try.prog 24 #[.agg #[.string S0, .slice p n c, .int .i64 (k : Int), .int .i64 (x.v : Int)]] w fun e w' => RunRes K S0 p n x' a d t 0 w e w' := by
  obtain ⟨b, off, rfl, hb, hkn, c0, c1, c2⟩ := ERow.at hr hx
  have HT := hid h
  have HR := hid hr
  have HV := hid hv
  have hkn' : (k : Int) < (n : Int) := by omega
  have hk0 : (0 : Int) ≤ (k : Int) := by omega
  have hne : ¬ (k : Int) = (n : Int) := by omega
  have hne' : ((k : Int) == (n : Int)) = false := beq_eq_false_iff_ne.2 hne
  have hv9' : (x.v : Int) ≤ 1000000 := by omega
  have hn9' : (n : Int) ≤ 1000000 := by omega
  clear h hr hv hx
  obtain ⟨_, _, _, bW, _⟩ := three w (stc S0 (some ⟨b, off, none⟩) n c k x.v) (stc { data := #[] } none 0 0 0 0) (edc 0 0 { data := #[] })
  have d0 := (bW.cell (p := ⟨b, off + k * 3, none⟩) hb).trans c0
  have d1 := (bW.cell (p := ⟨b, off + k * 3 + 1, none⟩) hb).trans c1
  have d2 := (bW.cell (p := ⟨b, off + k * 3 + 2, none⟩) hb).trans c2
  unfold stc edc at d0 d1 d2
  clear c0 c1 c2 bW
  go_enter Try.func24, Try.ntmps24
  go_wp2_with fail
  go_region
  all_goals go_wp2
  obtain ⟨_, hx1, hx2, bW, hsz⟩ := three w (stc S0 (some ⟨b, off, none⟩) n c ((k : Int) + 1) ((x.v : Int) + 1)) (stc S0 (some ⟨b, off, none⟩) n c ((k : Int) + 1) ((x.v : Int) + 1)) (edc a d t)
  have b5 := (bW.alloc bW.size (edc a d t)).drew
  obtain ⟨z0, z1, z2, z3⟩ := cells4 (W := (World.alloc _ (edc a d t)).drew) (blk_alloc hx1)
  obtain ⟨y0, y1, y2⟩ := cells3 (W := (World.alloc _ (edc a d t)).drew) (blk_alloc hx2)
  unfold stc edc at z0 z1 z2 z3 y0 y1 y2 b5
  refine bodyPost_ret (v := .tuple #[.agg #[.string S0, .slice (some ⟨b, off, none⟩) n c, .int .i64 ((k : Int) + 1), .int .i64 ((x.v : Int) + 1)], .agg #[.int .i64 a, .int .i64 d, .string t], .int .i64 0]) ?_ rfl ⟨some ⟨b, off, none⟩, n, c, k + 1, E, ?_, HR.out.below b5, hc, HT.out, .inl ⟨rfl, rfl⟩, b5⟩
  · simp [results, Try.results24, go_sem, z0, z1, z2, z3, y0, y1, y2]
  · rw [HV.out]; rfl
set_option maxRecDepth 100000 in
set_option maxHeartbeats 4000000 in
theorem rundo_yes (S0 : ByteArray) (p : Option Addr) (n c : Nat) (E : List Ed) (k : Nat) (x x' : St) (a d : Int) (t : ByteArray) (ia id : Int) (it : ByteArray) (K : Nat) (w : World) (hx : E[k]? = some (a, d, t)) (h : Ta K S0 E k x') (hf : Fit x'.s.size (a, d, t)) (hi : inv x'.s (a, d, t) = (ia, id, it)) (hv : x'.v = x.v + 1) (hv9 : x.v ≤ 1000000) (hn9 : n ≤ 1000000) (hK : K ≤ 1000000) (ht : t.size ≤ 1000000) (hc : n ≤ c) (hr : ERow w p n E) :
    Calls Try.prog 23 #[.agg #[.string S0, .slice p n c, .int .i64 ((k : Int) + 1), .int .i64 (x.v : Int)]] w fun e w' => RunRes K S0 p n x' ia id it 0 w e w' := by
  obtain ⟨b, off, rfl, hb, hkn, c0, c1, c2⟩ := ERow.at hr hx
  have HT := hid h
  have HR := hid hr
  have HV := hid hv
  have hkn' : (k : Int) < (n : Int) := by omega
  have hk0 : (0 : Int) ≤ (k : Int) := by omega
  have hne : ¬ (k : Int) + 1 = 0 := by omega
  have hv9' : (x.v : Int) ≤ 1000000 := by omega
  have hn9' : (n : Int) ≤ 1000000 := by omega
  have e1 : IntKind.i64.wrap ((k : Int) + 1 - 1) = (k : Int) := by rw [wrapIn (by omega) (by omega)]; omega
  -- the boxes behind the two stores
  obtain ⟨hx0, hx1, hx2, bW, hsz⟩ := three w (stc S0 (some ⟨b, off, none⟩) n c k ((x.v : Int) + 1)) (stc { data := #[] } none 0 0 0 0) (edc 0 0 { data := #[] })
  obtain ⟨W, hW⟩ : ∃ W, W = ((w.alloc (stc S0 (some ⟨b, off, none⟩) n c k ((x.v : Int) + 1))).alloc (stc { data := #[] } none 0 0 0 0)).alloc (edc 0 0 { data := #[] }) := ⟨_, rfl⟩
  rw [← hW] at hx0 hx1 hx2 bW hsz
  simp only [stc, edc] at hx0 hx1 hx2 hW
  have Kp := hid (show ∀ W', Below W.heap.size W W' → W'.cell? ⟨w.heap.size, 0, none⟩ = some (.string S0) ∧ W'.cell? ⟨w.heap.size, 1, none⟩ = some (.slice (some ⟨b, off, none⟩) n c) ∧ W'.cell? ⟨w.heap.size, 2, none⟩ = some (.int .i64 (k : Int)) ∧ W'.cell? ⟨w.heap.size, 3, none⟩ = some (.int .i64 ((x.v : Int) + 1)) ∧
      W'.cell? ⟨b, off + k * 3, none⟩ = some (.int .i64 a) ∧ W'.cell? ⟨b, off + k * 3 + 1, none⟩ = some (.int .i64 d) ∧ W'.cell? ⟨b, off + k * 3 + 2, none⟩ = some (.string t) from fun W' hb' => by
    obtain ⟨q0, q1, q2, q3⟩ := cells4 ((hb'.block _ (heap_lt hx0)).trans hx0)
    have hbW : b < W.heap.size := Nat.lt_of_lt_of_le hb bW.size
    exact ⟨q0, q1, q2, q3, (hb'.cell (p := ⟨b, _, none⟩) hbW).trans ((bW.cell (p := ⟨b, _, none⟩) hb).trans c0), (hb'.cell (p := ⟨b, _, none⟩) hbW).trans ((bW.cell (p := ⟨b, _, none⟩) hb).trans c1), (hb'.cell (p := ⟨b, _, none⟩) hbW).trans ((bW.cell (p := ⟨b, _, none⟩) hb).trans c2)⟩)
  have X1 := hid hx1
  have X2 := hid hx2
  have TX := hid (show ∀ W', Below W.heap.size W W' → Calls Try.prog 16 #[.agg #[.string S0, .slice (some ⟨b, off, none⟩) n c, .int .i64 (k : Int), .int .i64 ((x.v : Int) + 1)]] W' fun e w' => e = .returned (.string x'.s) ∧ Below W'.heap.size W' w' from fun W' hb' =>
    rtext_any S0 _ n c E k _ K x'.s x'.U x'.R W' h hK (by omega) ((hr.below bW).below hb'))
  have IV := hid (show ∀ W', Calls Try.prog 31 #[.string x'.s, .agg #[.int .i64 a, .int .i64 d, .string t]] W' fun e w' => e = .returned (.tuple #[.agg #[.int .i64 ia, .int .i64 id, .string it], .int .i64 0]) ∧ Below W'.heap.size W' w' from fun W' => by
    refine (rinvert_any x'.s t a d W' (Nat.le_trans h.chU.size hK) ht (by have := hf.1; have := hf.2.1; have := hf.2.2; simp only at *; have := h.chU.size; omega)).mono ?_
    rintro e w' ⟨rfl, hb'⟩
    refine ⟨?_, hb'⟩
    rw [inv', if_pos hf, hi]
    rfl)
  have HB := hid bW
  have HSZ := hid hsz
  have HW := hid hW
  clear h hr hv hx hf hi c0 c1 c2 hx0 hx1 hx2 bW hW hsz
  go_enter Try.func23, Try.ntmps23
  go_wp2_with fail
  rw [← HW.out]
  go_cut [5, 6] from 20 to 32 (fun s5 s6 wx => ∃ (g : Nat), s5 = .pointer (some ⟨g, 0, none⟩) ∧ s6 = .int .i64 0 ∧ wx.heap[g]? = some (.cells #[.int .i64 ia, .int .i64 id, .string it] 31 (0, 0)) ∧ Below W.heap.size W wx ∧ W.heap.size ≤ g)
  case first =>
   have hb0 : Below W.heap.size W W.drew := (Below.refl _ W).drew
   have hbz : Below W.heap.size W (W.drew.alloc (.cells #[.int .i64 0, .int .i64 0, .string { data := #[] }] 31)) := hb0.alloc (Nat.le_refl _) _
   have k7 := Kp.out _ hb0
   go_region_held3 (fun w' => w'.cell? ⟨w.heap.size, 0, none⟩ = some (.string S0) ∧ w'.cell? ⟨w.heap.size, 1, none⟩ = some (.slice (some ⟨b, off, none⟩) n c) ∧ w'.cell? ⟨w.heap.size, 2, none⟩ = some (.int .i64 (k : Int)) ∧ w'.cell? ⟨w.heap.size, 3, none⟩ = some (.int .i64 ((x.v : Int) + 1)) ∧
       w'.cell? ⟨b, off + k * 3, none⟩ = some (.int .i64 a) ∧ w'.cell? ⟨b, off + k * 3 + 1, none⟩ = some (.int .i64 d) ∧ w'.cell? ⟨b, off + k * 3 + 2, none⟩ = some (.string t))
     (first | exact k7 | (refine Kp.out _ ?_; (repeat (refine Below.setCell ?_ (by first | exact Nat.le_refl _ | assumption) _)); first | assumption | (refine Below.alloc ?_ ?_ _ <;> first | assumption | exact Nat.le_refl _)))
     (first
       | (go_at_call 16; refine (TX.out _ hb0).mono ?_; rintro e y1 ⟨rfl, by1⟩; have hb1 := hb0.trans (by1.mono (Nat.le_refl _)); have hs1 := hb1.size; clear by1)
       | (go_at_call 16; refine (TX.out _ hbz).mono ?_; rintro e y1 ⟨rfl, by1⟩; have xb := (by1.block W.heap.size (by simp)).trans (alloc_new W.drew (edc 0 0 { data := #[] })); have hb1 := hbz.trans (by1.mono hbz.size); have hs1 := hb1.size; clear by1)
       | (go_at_call 31; refine (IV.out y1).mono ?_; rintro e y2 ⟨rfl, by2⟩; have hb2 := hb1.trans (by2.mono hs1); have hs2 := hb2.size; have xb2 := (by2.block _ (heap_lt xb)).trans xb; simp only [edc] at xb2; obtain ⟨m0, m1, m2⟩ := cells3 xb2; obtain ⟨f0, f1, f2⟩ := frozen3 xb2; have hlx := heap_lt xb2; clear by2)
       | (go_at_call 31; refine (IV.out y1).mono ?_; rintro e y2 ⟨rfl, by2⟩; have hb2 := hb1.trans (by2.mono hs1); have hs2 := hb2.size; clear by2)
       | (go_at_call 31; refine (IV.out (y1.alloc (.cells #[.int .i64 0, .int .i64 0, .string { data := #[] }] 31))).mono ?_; rintro e y2 ⟨rfl, by2⟩; have hbx := hb1.alloc hs1 (.cells #[.int .i64 0, .int .i64 0, .string { data := #[] }] 31); have hb2 := hbx.trans (by2.mono hbx.size); have hs2 := hb2.size; have xb2 := (by2.block y1.heap.size (by simp)).trans (alloc_new y1 (.cells #[.int .i64 0, .int .i64 0, .string { data := #[] }] 31)); obtain ⟨m0, m1, m2⟩ := cells3 xb2; obtain ⟨f0, f1, f2⟩ := frozen3 xb2; have hlx := heap_lt xb2; clear by2 hbx))
   all_goals (go_wp2_with fail; go_meet)
   all_goals first
     | exact ⟨y2.heap.size, rfl, rfl, alloc_new _ _, hb2.alloc hs2 _, hs2⟩
     | exact ⟨_, rfl, rfl, three_set xb2, ((hb2.setCell hs1 _).setCell hs1 _).setCell hs1 _, hs1⟩
     | exact ⟨_, rfl, rfl, three_set xb2, ((hb2.setCell (Nat.le_refl _) _).setCell (Nat.le_refl _) _).setCell (Nat.le_refl _) _, Nat.le_refl _⟩
  case rest =>
    obtain ⟨g, rfl, rfl, hg, hbx, hgl⟩ := hcut
    obtain ⟨k0, k1, k2, k3, _, _, _⟩ := Kp.out _ hbx
    have Y1 := (hbx.block _ (heap_lt X1.out)).trans X1.out
    have Y2 := (hbx.block _ (heap_lt X2.out)).trans X2.out
    obtain ⟨z0, z1, z2, z3⟩ := cells4 Y1
    obtain ⟨f0, f1, f2, f3⟩ := frozen4 Y1
    obtain ⟨y0, y1, y2⟩ := cells3 Y2
    obtain ⟨q0, q1, q2⟩ := frozen3 Y2
    obtain ⟨g0, g1, g2⟩ := cells3 hg
    have hl1 := heap_lt Y1
    have hl2 := heap_lt Y2
    have hlg := heap_lt hg
    have HBX := hid hbx
    have hd1 : ¬ g = w.heap.size + 1 := by have := HSZ.out; omega
    have hd2 : ¬ g = w.heap.size + 1 + 1 := by have := HSZ.out; omega
    clear hbx Y1 Y2 hg hgl
    go_wp2_with fail
    go_region
    all_goals go_wp2
    have BF : Below w.heap.size w wc := HB.out.trans (HBX.out.mono HB.out.size)
    have BG : Below w.heap.size w (((((((wc.setCell ⟨w.heap.size + 1, 0, none⟩ (.string S0)).setCell ⟨w.heap.size + 1, 1, none⟩ (.slice (some ⟨b, off, none⟩) n c)).setCell ⟨w.heap.size + 1, 2, none⟩ (.int .i64 (k : Int))).setCell ⟨w.heap.size + 1, 3, none⟩ (.int .i64 ((x.v : Int) + 1))).setCell ⟨w.heap.size + 1 + 1, 0, none⟩ (.int .i64 ia)).setCell ⟨w.heap.size + 1 + 1, 1, none⟩ (.int .i64 id)).setCell ⟨w.heap.size + 1 + 1, 2, none⟩ (.string it)).drew := by
      refine Below.drew ?_
      repeat (refine Below.setCell ?_ (by first | (simp; done) | (simp; omega)) _)
      exact BF
    refine bodyPost_ret (v := .tuple #[.agg #[.string S0, .slice (some ⟨b, off, none⟩) n c, .int .i64 (k : Int), .int .i64 ((x.v : Int) + 1)], .agg #[.int .i64 ia, .int .i64 id, .string it], .int .i64 0]) ?_ rfl ⟨some ⟨b, off, none⟩, n, c, k, E, ?_, HR.out.below BG, hc, HT.out, .inl ⟨rfl, rfl⟩, BG⟩
    · simp [results, Try.results23, go_sem, z0, z1, z2, z3, y0, y1, y2]
    · rw [HV.out]; rfl
end Go.Proofs.Ytfhdbenomkbfjaa
