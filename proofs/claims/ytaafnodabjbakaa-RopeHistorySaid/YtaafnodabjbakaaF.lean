/-
  Contracts: fromText, byteAt.
-/
import Derived.Test.YtaafnodabjbakaaE
namespace Go.Proofs.Ytaafnodabjbakaa
open Go.RowKit Rp

theorem reps_grown {w w' : World} {B : Nat} {v : Value} {n : Nat} {xs : List Value} (ho : w.ownsRow B 24 1 v n xs) (hg : w.grownBy w' v.ownBlock) : ∀ {ps : List (Option Addr)} {ss : List ByteArray}, Reps w ps ss → Reps w' ps ss
  | [], [], _ => trivial
  | _ :: _, _ :: _, ⟨⟨b, hp, hb⟩, h2⟩ => ⟨⟨b, hp, by
      rw [hg.block b (heap_lt hb) ?_]
      · exact hb
      · intro e
        rcases ho.2 with ⟨hv, _⟩ | ⟨g, cap, cur, hv, _, hgg, _⟩
        · rw [hv] at e; simp [Value.ownBlock] at e
        · rw [hv] at e
          simp only [Value.ownBlock, Option.some.injEq] at e
          subst e
          rw [hb] at hgg
          simp at hgg⟩, reps_grown ho hg h2⟩
  | [], _ :: _, h => h.elim
  | _ :: _, [], h => h.elim

set_option maxHeartbeats 400000 in
theorem build_zero (a : Option Addr) (cap : Nat) (w : World) :
    Calls Try.prog 41 #[.slice a 0 cap] w fun e w' => e = .returned (.pointer none) ∧ w = w' := by
  go_enter Try.func41, Try.ntmps41
  go_wp2
  go_ret
  exact ⟨rfl, rfl⟩

theorem own_shape0 {w : World} {B : Nat} {v : Value} {xs : List Value} (h : w.ownsRow B 24 1 v 0 xs) : ∃ a cap, v = .slice a 0 cap := by
  rcases h.2 with ⟨h0, _⟩ | ⟨g, cap, cur, rfl, _⟩
  · exact ⟨_, _, h0⟩
  · exact ⟨_, _, rfl⟩

theorem extract_all (t : ByteArray) (k : Nat) : tx [t.extract 0 k] ++ (t.extract k t.size).data.toList = t.data.toList := by
  simp only [tx, extract_toList, List.append_nil, List.drop_zero, Nat.sub_zero]
  have h : (t.data.toList.drop k).take (t.size - k) = t.data.toList.drop k := List.take_of_length_le (by simp)
  rw [h, List.take_append_drop]

theorem one_cell' (w : World) (n : Nat) (hn : w.heap.size = n) (t : TypeId) (v u : Value) (j : Nat) (hj : ([v] : List Value)[j]? = some u) : (w.alloc (.cells #[v] t)).cell? ((⟨n, 0, none⟩ : Addr).add j) = some u := by
  subst hn; exact one_cell w t v u j hj

/-- Full blocks. -/
def Full (ss : List ByteArray) : Prop := ∀ s ∈ ss, s.size = 64
theorem full_tight : ∀ {ss : List ByteArray}, Full ss → Tight ss
  | [], _ => trivial
  | a :: r, h => ⟨by rw [h a (by simp)]; omega, by rw [h a (by simp)]; omega, fun b hb => by rw [h a (by simp), h b (by simp [List.mem_of_mem_head? hb])]; omega, full_tight (fun s hs => h s (by simp [hs]))⟩
theorem full_snoc {ss : List ByteArray} (h : Full ss) {s : ByteArray} (h1 : 1 ≤ s.size) (h2 : s.size ≤ 64) : Tight (ss ++ [s]) := by
  refine (tight_append _ _).2 ⟨full_tight h, ⟨h1, h2, fun b hb => (by cases hb), trivial⟩, fun a b ha hb => ?_⟩
  simp at hb; subst hb
  have := h a (List.mem_of_getLast? ha)
  omega
theorem full_len {ss : List ByteArray} (h : Full ss) : 64 * ss.length = sz ss := by
  induction ss with
  | nil => rfl
  | cons a r ih =>
    have h1 := h a (by simp)
    have h2 := ih (fun s hs => h s (by simp [hs]))
    simp only [List.length_cons, sz]; omega

theorem Rep.grown0 {w w' : World} (h : w.grownBy w' none) : Below w.heap.size w w' := (Below.refl _ _).grown h (Nat.le_refl _) (fun k hk => by cases hk)
theorem Reps.one {W : World} {p : Option Addr} {s : ByteArray} (h : Rep W p (.leaf s)) : Reps W [p] [s] := ⟨h, trivial⟩
theorem leaf_grow (s : ByteArray) (hs : s.size ≠ 0) (w : World) :
    Calls Try.prog 40 #[.string s] w fun e w' => ∃ p : Option Addr, e = .returned (.pointer p) ∧ Rep w' p (.leaf s) ∧ w.grownBy w' none := by
  refine (leaf_some s hs w).mono ?_
  rintro e w' ⟨rfl, rfl⟩
  exact ⟨_, rfl, ⟨_, rfl, alloc_new _ _⟩, World.grownBy_alloc w _ none⟩

set_option maxRecDepth 100000 in
set_option maxHeartbeats 4000000 in
theorem fromText_any (s : ByteArray) (w : World) (hs : s.size ≤ 100000000) :
    Calls Try.prog 28 #[.string s] w fun e w' => ∃ (p : Option Addr) (O : Option BT), e = .returned (.pointer p) ∧ OG w' p O ∧ tx (olv O) = s.data.toList ∧ Below w.heap.size w w' := by
  obtain ⟨i0, hi, hz0, hz1, hz2⟩ := info_parts Try.info24
  go_enter Try.func28, Try.ntmps28
  go_wp2
  go_loopg [0, 3] s.size (fun k sv v wr => ∃ (t : ByteArray) (ys : List (Option Addr)) (ss : List ByteArray), sv = .string t ∧ t.size ≤ k ∧ tx ss ++ t.data.toList = s.data.toList ∧ Full ss ∧ Reps wr ys ss ∧
      wr.ownsRow w.heap.size 24 1 v ys.length (ys.map Value.pointer) ∧ Below w.heap.size w wr)
  case atStart => exact ⟨s, [], [], rfl, Nat.le_refl _, rfl, fun _ h => (by cases h), trivial, World.ownsRow_nil _ _ _ _, Below.refl _ _⟩
  case round =>
    obtain ⟨t, ys, ss, rfl, hk, htx, hf, hr, hown, hb⟩ := hrel
    have HX := hid (And.intro htx (And.intro hf hr))
    have hlen : sz ss + t.size = s.size := by
      have h := congrArg List.length htx
      rw [List.length_append, tx_length] at h
      simpa using h
    have HY := hid hr.length
    have hys : ys.length ≤ 100000000 := by have := hr.length; have := full_len hf; omega
    have hts : t.size ≤ 100000000 := by omega
    have hss : sz ss + t.size ≤ 100000000 := by omega
    have HB := hb.size
    clear htx hf hr hlen
    by_cases hlt : 64 < t.size
    · have hlt' : (64 : Int) < (t.size : Int) := by omega
      go_wp2_with (first
        | (go_at_call 40; refine (leaf_grow (t.extract 0 64) (by rw [ByteArray.size_extract]; omega) _).mono ?_; rintro e wl ⟨pl, rfl, hrl, hgl⟩; have hownl := hown.kept hgl (Decidable.em _); have hszl := hgl.size)
        | (at_builtin; refine wpList_append_own _ rfl (.tmp 7) (.tmp 11) 75 rfl w.heap.size 24 i0 (.pointer none) 1 8 Try.underlying75 hi hz0 hz1 hz2 rfl (by decide) _ _ _ rfl (hownl.alloc _) ⟨wl.heap.size, 0, none⟩ 1 1 [.pointer pl] rfl rfl ?c1 ?c2 ?c3 ?c4 ?c5 ?_))
      case c1 => exact fun j u hj => one_cell' _ _ rfl _ _ _ _ hj
      case c2 => intro u hu; simp at hu; subst hu; rfl
      case c3 => unfold maxLen; omega
      case c4 => omega
      case c5 => simp; omega
      intro v' w1 hown' hgrow _
      have hbA : Below w.heap.size w (wl.alloc (.cells #[.pointer pl] 24)) := (hb.trans ((Rep.grown0 hgl).mono HB)).alloc (by omega) _
      have hb1 := hbA.grown hgrow (by simp; omega) (fun k hk => (hown.lt k hk).1)
      have R := hid (show Reps w1 (ys ++ [pl]) (ss ++ [t.extract 0 64]) by
        refine reps_grown (hownl.alloc _) hgrow ?_
        exact (Reps.append (HX.out.2.2.below (Rep.grown0 hgl)) (Reps.one hrl)).below ((Below.refl _ _).alloc (Nat.le_refl _) _))
      have hown2 : w1.ownsRow w.heap.size 24 1 v' (ys ++ [pl]).length ((ys ++ [pl]).map Value.pointer) := by simpa using hown'
      have H2 := hid hown2
      have HB1 := hid hb1
      clear hown' hown2 hgrow hown hownl hbA hb1 hgl hrl
      go_wp2
      go_roundg (gk - 64)
      case measure => omega
      case rel =>
        refine ⟨_, _, _, rfl, ?_, ?_, ?_, R.out, H2.out, HB1.out⟩
        · rw [ByteArray.size_extract]; omega
        · rw [tx_append, List.append_assoc, extract_all]; exact HX.out.1
        · intro s' hs'
          rcases List.mem_append.1 hs' with h | h
          · exact HX.out.2.1 s' h
          · simp at h; subst h; rw [ByteArray.size_extract]; omega
    · have hlt' : (t.size : Int) ≤ 64 := by omega
      by_cases h0 : t.size = 0
      · have he := isEmpty_toList' h0
        have htx : tx ss = s.data.toList := by
          have h := HX.out.1
          have e : t.data.toList = [] := by
            have h1 : t.data.size = 0 := h0
            rw [← Array.length_toList] at h1
            exact List.length_eq_zero_iff.1 h1
          rw [e, List.append_nil] at h; exact h
        have HT := hid htx
        clear htx
        by_cases hy : ys = []
        · subst hy
          obtain ⟨a, cap, rfl⟩ := own_shape0 hown
          go_wp2_with (go_at_call 41; refine (build_zero a cap _).mono ?_; rintro e w' ⟨rfl, rfl⟩)
          go_ret
          refine ⟨none, none, rfl, OG.nil _, ?_, hb⟩
          have : ss = [] := List.length_eq_zero_iff.1 HY.out.symm
          rw [← HT.out, this]; rfl
        · obtain ⟨g, cap, rfl, hc1, hc2, hat, hg⟩ := own_shape hown hy
          have hyp := List.length_pos_iff.2 hy
          go_wp2_with (go_at_call 41; refine (build_any ys.length ys ss wr g 0 cap rfl hyp hc1 hc2 hat hg HX.out.2.2 (full_tight HX.out.2.1) (by omega) (by omega)).mono ?_; rintro e w3 ⟨p3, T3, rfl, hr3, hl3, hk3, _, hb3⟩)
          go_ret
          exact ⟨p3, some T3, rfl, OG.mk' hr3 hk3 (by rw [hl3]; exact full_tight HX.out.2.1), by show tx T3.lv = _; rw [hl3, HT.out], hb.trans (hb3.mono HB)⟩
      · have he := isEmpty_toList h0
        go_wp2_with (first
          | (go_at_call 40; refine (leaf_grow t h0 _).mono ?_; rintro e wl ⟨pl, rfl, hrl, hgl⟩; have hownl := hown.kept hgl (Decidable.em _); have hszl := hgl.size)
          | (at_builtin; refine wpList_append_own _ rfl (.tmp 17) (.tmp 20) 75 rfl w.heap.size 24 i0 (.pointer none) 1 8 Try.underlying75 hi hz0 hz1 hz2 rfl (by decide) _ _ _ rfl (hownl.alloc _) ⟨wl.heap.size, 0, none⟩ 1 1 [.pointer pl] rfl rfl ?d1 ?d2 ?d3 ?d4 ?d5 ?_))
        case d1 => exact fun j u hj => one_cell' _ _ rfl _ _ _ _ hj
        case d2 => intro u hu; simp at hu; subst hu; rfl
        case d3 => unfold maxLen; omega
        case d4 => omega
        case d5 => simp; omega
        intro v' w1 hown' hgrow _
        have hbA : Below w.heap.size w (wl.alloc (.cells #[.pointer pl] 24)) := (hb.trans ((Rep.grown0 hgl).mono HB)).alloc (by omega) _
        have hb1 := hbA.grown hgrow (by simp; omega) (fun k hk => (hown.lt k hk).1)
        have R : Reps w1 (ys ++ [pl]) (ss ++ [t]) := by
          refine reps_grown (hownl.alloc _) hgrow ?_
          exact (Reps.append (HX.out.2.2.below (Rep.grown0 hgl)) (Reps.one hrl)).below ((Below.refl _ _).alloc (Nat.le_refl _) _)
        have hown2 : w1.ownsRow w.heap.size 24 1 v' (ys ++ [pl]).length ((ys ++ [pl]).map Value.pointer) := by simpa using hown'
        obtain ⟨g, cap, rfl, hc1, hc2, hat, hg⟩ := own_shape hown2 (by simp)
        have ht1 : Tight (ss ++ [t]) := full_snoc HX.out.2.1 (by omega) (by omega)
        have hsz : sz (ss ++ [t]) ≤ 1000000000 := by rw [sz_append]; simp only [sz]; omega
        obtain ⟨n, hn⟩ : ∃ n, n = (ys ++ [pl]).length := ⟨_, rfl⟩
        have hnb : n ≤ 100000001 := by rw [hn]; simp; omega
        have hn1 : 1 ≤ n := by rw [hn]; simp
        rw [← hn] at hc1 ⊢
        have HBd := hid (build_any n _ _ w1 g 0 cap hn.symm hn1 hc1 hc2 hat hg R ht1 hsz (by omega))
        have HT := hid ht1
        have HX2 := hid (show tx (ss ++ [t]) = s.data.toList by rw [tx_append]; simp only [tx, List.append_nil]; exact HX.out.1)
        have HSZ := hid hb1.size
        clear hown' hown2 hgrow hown hownl hbA R hat ht1 hn hgl hrl
        go_wp2_with (go_at_call 41; refine HBd.out.mono ?_; rintro e w3 ⟨p3, T3, rfl, hr3, hl3, hk3, _, hb3⟩)
        go_ret
        exact ⟨p3, some T3, rfl, OG.mk' hr3 hk3 (by rw [hl3]; exact HT.out), by show tx T3.lv = _; rw [hl3, HX2.out], hb1.trans (hb3.mono HSZ.out)⟩

end Go.Proofs.Ytaafnodabjbakaa
