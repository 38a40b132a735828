/-
  Contract: key.
-/
import Derived.Test.YtelbagaiijffdaaTf
import Derived.Laws.BytesArg
import Derived.Laws.MakeOwn
set_option linter.unusedSimpArgs false
set_option linter.unusedVariables false
namespace Go.Proofs.Ytelbagaiijffdaa
open Go.RowKit Lx Go.Frame

theorem info5 : (Try.prog.info? 5).map (fun i => (i.zero, i.size, i.bytes)) = some (some (.int .u8 0), 1, 1) := by kernel_rfl
theorem und69 : Try.prog.underlying 69 = some (.slice 5) := by kernel_rfl
theorem und5 : Try.prog.underlying 5 = some (.int .u8) := by kernel_rfl
theorem und9 : Try.prog.underlying 9 = some .string := by kernel_rfl
/-- The two bytes of a number. -/
def b2 (x : Int) : List Int := [x / 256 % 256, x % 256]
def kbs (l : List Int) : List Int := l.flatMap b2
theorem kbs_succ {l : List Int} {i : Nat} {x : Int} (h : l[i]? = some x) : kbs (l.take (i + 1)) = kbs (l.take i) ++ b2 x := by
  unfold kbs; rw [List.take_add_one, h]; simp
theorem kbs_len : ∀ l : List Int, (kbs l).length = 2 * l.length
  | [] => rfl
  | x :: r => by have := kbs_len r; unfold kbs at this ⊢; rw [List.flatMap_cons, List.length_append, this]; simp [b2]; omega
/-- A byte as a value. -/
def ub (x : Int) : Value := .int .u8 x
theorem two_cell (w : World) (t : TypeId) (v v2 u : Value) (j : Nat) (hj : ([v, v2] : List Value)[j]? = some u) : (w.alloc (.cells #[v, v2] t)).cell? ((⟨w.heap.size, 0, none⟩ : Addr).add j) = some u := by
  match j, hj with
  | 0, hj =>
    simp only [List.getElem?_cons_zero, Option.some.injEq] at hj
    subst hj
    show World.cell? _ ⟨w.heap.size, 0 + 0, none⟩ = _
    unfold World.cell?
    rw [alloc_new]
    rfl
  | 1, hj =>
    simp only [List.getElem?_cons_succ, List.getElem?_cons_zero, Option.some.injEq] at hj
    subst hj
    show World.cell? _ ⟨w.heap.size, 0 + 1, none⟩ = _
    unfold World.cell?
    rw [alloc_new]
    rfl
theorem conv_row {W : World} {a : Option Addr} {n c : Nat} {xs : List Int} (h : Row W a n (xs.map ub)) : (convert 69 9 (.slice a n c)).run Try.prog W = .ok (.string (strOfNums xs)) W := by
  obtain ⟨h1, h2⟩ := h
  have hl : xs.length = n := by simpa using h1
  rcases h2 with rfl | ⟨b, off, rfl, hb, h2⟩
  · obtain rfl : xs = [] := List.eq_nil_of_length_eq_zero hl
    rcases a with _ | ⟨b, off, f⟩
    · rw [run_convert_bytes_nil W 69 5 und69 und5 0 c 9 und9]; rfl
    · rw [run_convert_bytes_string W 69 9 5 _ 0 c und69 und5 und9, run_bytesToString W _ 0 c [] (run_loadCells_list W _ [] (fun j v hj => by simp at hj))]; rfl
  · exact run_convert_bytes_arg W 69 5 und69 und5 b off n c xs hl (fun i hi => h2 i _ (by rw [List.getElem?_map, List.getElem?_eq_getElem (by omega)]; simp [ub, List.getD_eq_getElem?_getD, List.getElem?_eq_getElem (show i < xs.length by omega)])) 9 und9
set_option maxRecDepth 100000 in
set_option maxHeartbeats 4000000 in
theorem key_any (w : World) (a1 : Option Addr) (n1 c1 : Nat) (l : List Int) (h1 : Row w a1 n1 (l.map iv)) (hn1 : n1 ≤ 1000000) (out : ByteArray) (hout : out = strOfNums (kbs l)) :
    Calls Try.prog 43 #[.slice a1 n1 c1] w (fun e w' => e = .returned (.string out) ∧ Below w.heap.size w w') := by
  obtain ⟨i0, hi, hz0, hz1, hz2⟩ := info_parts info5
  have hl1 : l.length = n1 := by have := h1.1; simpa using this
  have H1 := hid (And.intro h1 (And.intro hl1 hout))
  have hm2 : IntKind.i64.wrap (2 * (n1 : Int)) = ((2 * n1 : Nat) : Int) := by rw [wrapIn (by omega) (by omega)]; omega
  obtain ⟨W, hmk, hown0, hg0⟩ := run_make_own (P := Try.prog) w w.heap.size 69 5 i0 _ 1 und69 hi hz0 hz1 .i64 .i64 (2 * n1) (by rw [hz2]; omega) (by unfold maxLen; omega) (Nat.le_refl _)
  rw [show ((2 * n1 : Nat) : Int) = 2 * (n1 : Int) by omega] at hmk
  clear h1 hl1 hout
  go_enter Try.func43, Try.ntmps43
  go_wp2_with fail
  have hbw0 : Below w.heap.size w W := (Below.refl _ _).grown hg0 (Nat.le_refl _) (fun k hk => by cases hk)
  clear hmk hg0
  go_loopg [3, 12] n1 (fun kk s3 s12 wr => ∃ i : Nat, s12 = .int .i64 (i : Int) ∧ i + kk = n1 ∧ wr.ownsRow w.heap.size 5 1 s3 (2 * i) ((kbs (l.take i)).map ub) ∧ Below w.heap.size w wr)
  case atStart => exact ⟨0, rfl, by omega, by simpa [kbs] using hown0, hbw0⟩
  case round =>
    obtain ⟨i, rfl, hik, hown, hbw⟩ := hrel
    obtain ⟨a9, c9, rfl⟩ := own_form hown
    by_cases hlt : i < n1
    · have hlt' : (i : Int) < (n1 : Int) := by omega
      have hi0 : (0 : Int) ≤ (i : Int) := by omega
      have hi1 : IntKind.i64.wrap ((i : Int) + 1) = (i : Int) + 1 := wrapIn (by omega) (by omega)
      obtain ⟨b2', o2, x, rfl, _, hx, p2⟩ := int_at (H1.out.1.below hbw) hlt
      have hel := kbs_succ hx
      have HH := hid (And.intro hel hbw)
      clear hel hbw hx
      go_wp2_with (at_builtin; refine wpList_append_own _ rfl (.tmp 16) (.tmp 22) 69 rfl w.heap.size 5 i0 (.int .u8 0) 1 1 und69 hi hz0 hz1 hz2 rfl (by decide) _ _ _ rfl (own_alloc hown _) ⟨wr.heap.size, 0, none⟩ 2 2 [ub (x / 256 % 256), ub (x % 256)] rfl rfl ?c1 ?c2 ?c3 ?c4 ?c5 ?_)
      first | (case c1 => exact fun j u hj => two_cell _ _ _ _ _ _ hj) | skip
      first | (case c2 => first | rfl | (intro u hu; simp [ub] at hu; rcases hu with rfl | rfl <;> rfl)) | skip
      first | (case c3 => unfold maxLen; omega) | skip
      first | (case c4 => omega) | skip
      first | (case c5 => (have := HH.out.2.size; simp; omega)) | skip
      intro v' w1 hown' hgrow _
      have hbw := HH.out.2
      have hb1 : Below w.heap.size w w1 := (hbw.alloc hbw.size _).grown hgrow (by have := hbw.size; simp; omega) (fun k hk => (hown.lt k hk).1)
      have hown2 : w1.ownsRow w.heap.size 5 1 v' (2 * (i + 1)) ((kbs (l.take (i + 1))).map ub) := by
        rw [HH.out.1, List.map_append]
        simpa [b2, Nat.mul_add] using hown'
      have HN := hid (And.intro hown2 hb1)
      clear hown' hgrow hown hbw hb1 hown2
      go_wp2
      go_roundg (gk - 1)
      case measure => omega
      case rel => exact ⟨i + 1, by go_num, by omega, HN.out.1, HN.out.2⟩
    · have hlt' : ¬ (i : Int) < (n1 : Int) := by omega
      obtain rfl : i = n1 := by omega
      have hcv := conv_row (c := c9) (own_row' hown)
      have HX := hid hbw
      rw [List.take_of_length_le (by have := H1.out.2.1; omega), ← H1.out.2.2] at hcv
      clear hown hbw
      go_wp2
      go_ret
      exact ⟨rfl, HX.out⟩
/-- Equal texts, equal lists (of numbers that have two bytes). -/
theorem b2_inj {x y : Int} (hx : -1 ≤ x ∧ x ≤ 65534) (hy : -1 ≤ y ∧ y ≤ 65534) (h : b2 x = b2 y) : x = y := by
  unfold b2 at h
  simp only [List.cons.injEq, and_true] at h
  omega
theorem kbs_inj : ∀ (l m : List Int), (∀ x ∈ l, -1 ≤ x ∧ x ≤ 65534) → (∀ x ∈ m, -1 ≤ x ∧ x ≤ 65534) → kbs l = kbs m → l = m
  | [], [], _, _, _ => rfl
  | [], y :: m, _, _, h => by simp [kbs, b2] at h
  | x :: l, [], _, _, h => by simp [kbs, b2] at h
  | x :: l, y :: m, h1, h2, h => by
    have e : b2 x ++ kbs l = b2 y ++ kbs m := h
    obtain ⟨e1, e2⟩ := List.append_inj e rfl
    rw [b2_inj (h1 x (by simp)) (h2 y (by simp)) e1, kbs_inj l m (fun z hz => h1 z (by simp [hz])) (fun z hz => h2 z (by simp [hz])) e2]
theorem kbs_byte : ∀ (l : List Int), ∀ x ∈ kbs l, 0 ≤ x ∧ x < 256
  | [], x, h => by simp [kbs] at h
  | y :: l, x, h => by
    have h' : x ∈ b2 y ++ kbs l := h
    rcases List.mem_append.1 h' with h | h
    · unfold b2 at h
      simp only [List.mem_cons, List.not_mem_nil, or_false] at h
      rcases h with rfl | rfl <;> omega
    · exact kbs_byte l x h
theorem ofnat_inj : ∀ (l m : List Int), (∀ x ∈ l, 0 ≤ x ∧ x < 256) → (∀ x ∈ m, 0 ≤ x ∧ x < 256) → (l.map fun n => UInt8.ofNat n.toNat) = (m.map fun n => UInt8.ofNat n.toNat) → l = m
  | [], [], _, _, _ => rfl
  | [], y :: m, _, _, h => by simp at h
  | x :: l, [], _, _, h => by simp at h
  | x :: l, y :: m, h1, h2, h => by
    simp only [List.map_cons, List.cons.injEq] at h
    have a := h1 x (by simp)
    have b := h2 y (by simp)
    have e := congrArg UInt8.toNat h.1
    simp only [UInt8.toNat_ofNat'] at e
    have : x = y := by omega
    rw [this, ofnat_inj l m (fun z hz => h1 z (by simp [hz])) (fun z hz => h2 z (by simp [hz])) h.2]
/-- What key writes tells the numbers. -/
theorem key_inj {l m : List Int} (h1 : ∀ x ∈ l, -1 ≤ x ∧ x ≤ 65534) (h2 : ∀ x ∈ m, -1 ≤ x ∧ x ≤ 65534) (h : strOfNums (kbs l) = strOfNums (kbs m)) : l = m := by
  refine kbs_inj l m h1 h2 (ofnat_inj _ _ (kbs_byte l) (kbs_byte m) ?_)
  unfold strOfNums at h
  have := congrArg (fun b : ByteArray => b.data.toList) h
  simpa using this
end Go.Proofs.Ytelbagaiijffdaa
