/-
  Contract: countNodes.
-/
import Derived.Test.YtogpnlkjcdedlaaDoorBl
set_option linter.unusedSimpArgs false
set_option linter.unusedVariables false
namespace Go.Proofs.YtogpnlkjcdedlaaDoor
open Go.RowKit Bs Rg Nf Go.Frame
attribute [local go_sem] eq_zero eq_set

/-- The nodes below the members of a list. -/
def sk : List Rx → Nat
  | [] => 0
  | x :: l => partsL x.l + sk l
theorem parts_eq (x : Rx) : parts x = 1 + partsL x.l := by cases x; rw [parts, Nat.add_comm]; rfl
theorem partsL_eq : ∀ l : List Rx, partsL l = l.length + sk l
  | [] => by rw [partsL]; rfl
  | x :: l => by rw [partsL, sk, parts_eq, partsL_eq l]; simp; omega
theorem sk_append : ∀ l m : List Rx, sk (l ++ m) = sk l + sk m
  | [], m => by simp [sk]
  | x :: l, m => by simp [sk, sk_append l m]; omega
theorem sk_snoc {l : List Rx} {i : Nat} {x : Rx} (h : l[i]? = some x) : sk (l.take (i + 1)) = sk (l.take i) + partsL x.l := by rw [take_snoc h, sk_append]; simp [sk]
theorem sk_le (l : List Rx) (i : Nat) : sk (l.take i) ≤ sk l := by
  have h : sk l = sk (l.take i) + sk (l.drop i) := by rw [← sk_append, List.take_append_drop]
  omega
/-- What countNodes answers. -/
def CN (l : List Rx) (d v : Nat) : Prop := (partsL l ≤ 500 → v = partsL l) ∧ (500 < partsL l → 500 < v) ∧ v ≤ 140737488355328 + 1000 * d
set_option maxRecDepth 100000 in
set_option maxHeartbeats 4000000 in
theorem count_any (g : Nat → Prop) : ∀ (d : Nat) (l : List Rx) (a : Option Addr) (n c : Nat) (W : World), d ≤ 1000 → (∀ x ∈ l, fits x d = true) → Kd g W a n l → Calls Tryd.prog 46 #[.slice a n c] W fun e w' => (∃ v : Nat, e = .returned (.int .i64 (v : Int)) ∧ CN l d v) ∧ Below W.heap.size W w' := by
  intro d
  induction d with
  | zero =>
    intro l a n c W _ hf hK
    have hl : l = [] := by
      cases l with
      | nil => rfl
      | cons x l => have := hf x (by simp); rw [fits_zero] at this; cases this
    subst hl
    obtain rfl : n = 0 := by have := hK.len; simpa using this.symm
    go_enter Tryd.func46, Tryd.ntmps46
    go_wp2_with fail
    go_loopg [3, 10] 0 (fun kk s3 s10 wr => s3 = .int .i64 0 ∧ s10 = .int .i64 0 ∧ wr = W)
    case atStart => exact ⟨rfl, rfl, rfl⟩
    case round =>
      obtain ⟨rfl, rfl, rfl⟩ := hrel
      go_wp2
      go_ret
      exact ⟨⟨0, rfl, by intro _; rw [partsL_eq]; rfl, by rw [partsL_eq]; simp [sk], by omega⟩, Below.refl _ _⟩
  | succ d ih =>
    intro l a n c W hd hf hK
    have IH := hid ih
    have HK := hid (And.intro hK hf)
    have hll := hid hK.len
    have hnn := hK.lt
    have hp := hid (partsL_eq l)
    clear ih hf hK
    go_enter Tryd.func46, Tryd.ntmps46
    go_wp2_with fail
    go_loopg [3, 10] n (fun kk s3 s10 wr => ∃ i v : Nat, s3 = .int .i64 (v : Int) ∧ s10 = .int .i64 (i : Int) ∧ i + kk = n ∧ (v = n + sk (l.take i) ∨ (500 < v ∧ 500 < partsL l)) ∧ v ≤ 140737488355328 + 1000 * (d + 1) ∧ Below W.heap.size W wr)
    case atStart => exact ⟨0, n, rfl, rfl, by omega, .inl (by simp [sk]), by omega, Below.refl _ _⟩
    case round =>
      obtain ⟨i, v, rfl, rfl, hik, hv, hvb, hbw⟩ := hrel
      by_cases hlt : i < n
      · have hlt' : (i : Int) < (n : Int) := by omega
        have hi0 : (0 : Int) ≤ (i : Int) := by omega
        obtain ⟨b, off, k, s, l2, a2, n2, c2, rfl, _, hb, hx, hK2, q0, q1, q2, q3, q4, q5⟩ := (HK.out.1.below hbw).get hlt
        have hfx := HK.out.2 _ (List.mem_of_getElem? hx)
        rw [fits_mk, Bool.and_eq_true, fitsL_iff] at hfx
        obtain ⟨U, hU⟩ : ∃ U, U = wr.alloc (.cells #[.int .i64 k, .int .u64 (ws s 0 : Int), .int .u64 (ws s 1 : Int), .int .u64 (ws s 2 : Int), .int .u64 (ws s 3 : Int), .slice a2 n2 c2] 50) := ⟨_, rfl⟩
        have hU6 : U.heap[wr.heap.size]? = some (.cells #[.int .i64 k, .int .u64 (ws s 0 : Int), .int .u64 (ws s 1 : Int), .int .u64 (ws s 2 : Int), .int .u64 (ws s 3 : Int), .slice a2 n2 c2] 50 (0, 0)) := by rw [hU]; exact alloc_new _ _
        have BU := hid (show Below wr.heap.size wr U from by rw [hU]; exact bel1 _ _)
        have HX := hid (And.intro hx (And.intro hfx.2 (And.intro (hK2.below BU.out) (And.intro hv hbw))))
        have CC := hid (IH.out l2 a2 n2 c2 U (by omega) HX.out.2.1 HX.out.2.2.1)
        obtain ⟨e0, e1, e2, e3, e4, e5⟩ := cells6 hU6
        clear hx hfx hK2 hv hbw hU6 hb
        go_upto_region 5 with fail
        rw [← hU]
        clear hU q0 q1 q2 q3 q4 q5
        by_cases h5 : 500 < v
        · have h5' : (500 : Int) < (v : Int) := by omega
          go_wp2
          go_ret
          obtain ⟨hx, _, _, hv, hbw⟩ := HX.out
          have h6 := sk_le l i
          have h7 := hp.out
          have h8 := hll.out
          refine ⟨⟨v, rfl, fun h9 => ?_, fun _ => h5, hvb⟩, hbw.trans (BU.out.mono hbw.size)⟩
          rcases hv with hv | hv <;> omega
        · have h5' : ¬ (500 : Int) < (v : Int) := by omega
          go_wp2_with fail
          refine CC.out.mono ?_
          rintro e w3 ⟨⟨v2, rfl, hcn⟩, b3⟩
          have HC := hid (And.intro hcn b3)
          have hv2 := hcn.2.2
          have hsum : IntKind.i64.wrap ((v : Int) + (v2 : Int)) = ((v + v2 : Nat) : Int) := by rw [wrapIn (by omega) (by omega)]; omega
          clear hcn b3 CC
          go_wp2
          go_roundg (gk - 1)
          case measure => omega
          case rel =>
            obtain ⟨hx, _, _, hv, hbw⟩ := HX.out
            obtain ⟨⟨c1, c2, c3⟩, b3⟩ := HC.out
            have h4 := sk_snoc hx
            have h6 := sk_le l (i + 1)
            have h7 := hp.out
            have h8 := hll.out
            have h9 : partsL (Rx.mk k s l2).l = partsL l2 := rfl
            rw [h9] at h4
            refine ⟨i + 1, v + v2, by push_cast; rfl, by go_num, by omega, ?_, by omega, hbw.trans ((BU.out.trans (b3.mono BU.out.size)).mono hbw.size)⟩
            rcases hv with hv | hv
            · by_cases hk : partsL l2 ≤ 500
              · left; rw [h4, c1 hk]; omega
              · right; have := c2 (by omega); omega
            · omega
      · have hlt' : ¬ (i : Int) < (n : Int) := by omega
        have HX := hid (And.intro hv hbw)
        clear hv hbw
        go_wp2
        go_ret
        obtain ⟨hv, hbw⟩ := HX.out
        have h7 := hp.out
        have h8 := hll.out
        rw [show l.take i = l from List.take_of_length_le (by omega)] at hv
        refine ⟨⟨v, rfl, fun h9 => ?_, fun h9 => ?_, hvb⟩, hbw⟩
        · rcases hv with hv | hv <;> omega
        · rcases hv with hv | hv <;> omega
end Go.Proofs.YtogpnlkjcdedlaaDoor
