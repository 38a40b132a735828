/-
  Contracts: length, unaffected; the reference's prefix, start.
-/
import Derived.Test.YtblcjjhjgoccgaaXm
set_option linter.unusedSimpArgs false
set_option linter.unusedVariables false
namespace Go.Proofs.Ytblcjjhjgoccgaa
open Go.RowKit Lx Go.Frame

theorem tot_le {l : List TQ} {i : Nat} {t : TQ} (h : l[i]? = some t) : tot (l.take i) + t.2.2.1.size ≤ tot l := txb_le h
/-- The numbers of the tokens are small. -/
def TBd (l : List TQ) : Prop := ∀ t ∈ l, 0 ≤ t.2.1 ∧ t.2.1 ≤ 1000000 ∧ 0 ≤ t.2.2.2 ∧ t.2.2.2 ≤ 1000001
set_option maxRecDepth 100000 in
set_option maxHeartbeats 4000000 in
theorem length_any (w : World) (a : Option Addr) (n c : Nat) (l : List TQ) (h : TRow w a n l) (hn : n ≤ 140737488355328) (ht : tot l ≤ 1000000) :
    Calls Try.prog 26 #[.slice a n c] w fun e w' => e = .returned (.int .i64 (tot l : Int)) ∧ Below w.heap.size w w' := by
  have H := hid h
  have HL := hid h.len
  have HT := hid ht
  obtain ⟨q, hq⟩ : ∃ q, q = tot l := ⟨_, rfl⟩
  rw [← hq]
  have HQ := hid hq
  clear h ht hq
  go_enter Try.func26, Try.ntmps26
  go_wp2_with fail
  go_loopg [3, 8] n (fun kk s3 s8 wr => ∃ (i m : Nat), s3 = .int .i64 (m : Int) ∧ s8 = .int .i64 (i : Int) ∧ i + kk = n ∧ m = tot (l.take i) ∧ Below w.heap.size w wr)
  case atStart => exact ⟨0, 0, rfl, rfl, by omega, rfl, Below.refl _ _⟩
  case round =>
    obtain ⟨i, m, rfl, rfl, hk, hm, hb⟩ := hrel
    by_cases hlt : i < n
    · have hlt' : (i : Int) < (n : Int) := by omega
      have hi0 : (0 : Int) ≤ (i : Int) := by omega
      have hi1 : IntKind.i64.wrap ((i : Int) + 1) = (i : Int) + 1 := wrapIn (by omega) (by omega)
      obtain ⟨b, o, ⟨xk, xa, xs, xl⟩, rfl, _, hx, x0, x1, x2, x3⟩ := trow_at (H.out.below hb) hlt
      simp only at x0 x1 x2 x3
      have HX := hid (show m + xs.size = tot (l.take (i + 1)) from by rw [tot_snoc hx, hm])
      have hle : m + xs.size ≤ 1000000 := by have := tot_le hx; have := HT.out; simp only at *; omega
      have hsum : IntKind.i64.wrap ((m : Int) + (xs.size : Int)) = ((m + xs.size : Nat) : Int) := by rw [wrapIn (by omega) (by omega)]; omega
      have HB := hid hb
      clear hb hx hm
      go_wp2
      go_roundg (gk - 1)
      case measure => omega
      case rel => exact ⟨i + 1, m + xs.size, rfl, by go_num, by omega, HX.out, HB.out.alloc HB.out.size _⟩
    · have hlt' : ¬ (i : Int) < (n : Int) := by omega
      have hall : l.take i = l := List.take_of_length_le (by have := HL.out; omega)
      rw [hall, ← HQ.out] at hm
      subst hm
      go_wp2
      go_ret
      exact ⟨rfl, hb⟩
set_option maxRecDepth 100000 in
set_option maxHeartbeats 4000000 in
theorem unaffected_any (w : World) (a : Option Addr) (n c : Nat) (l : List TQ) (h : TRow w a n l) (hn : n ≤ 140737488355328) (hB : TBd l) (x : Int) :
    Calls Try.prog 24 #[.slice a n c, .int .i64 x] w fun e w' => e = .returned (.int .i64 (pre l x : Int)) ∧ Below w.heap.size w w' := by
  have H := hid h
  have HL := hid h.len
  have HT := hid hB
  obtain ⟨q, hq⟩ : ∃ q, q = pre l x := ⟨_, rfl⟩
  rw [← hq]
  have HQ := hid hq
  clear h hB hq
  go_enter Try.func24, Try.ntmps24
  go_wp2_with fail
  go_loopg [9] n (fun kk s9 wr => ∃ (i : Nat), s9 = .int .i64 (i : Int) ∧ i + kk = n ∧ pre (l.drop i) x + i = pre l x ∧ Below w.heap.size w wr)
  case atStart => exact ⟨0, rfl, by omega, rfl, Below.refl _ _⟩
  case round =>
    obtain ⟨i, rfl, hk, hm, hb⟩ := hrel
    by_cases hlt : i < n
    · have hlt' : (i : Int) < (n : Int) := by omega
      have hi0 : (0 : Int) ≤ (i : Int) := by omega
      have hi1 : IntKind.i64.wrap ((i : Int) + 1) = (i : Int) + 1 := wrapIn (by omega) (by omega)
      obtain ⟨b, o, ⟨xk, xa, xs, xl⟩, rfl, _, hx, x0, x1, x2, x3⟩ := trow_at (H.out.below hb) hlt
      simp only at x0 x1 x2 x3
      have hbd := HT.out _ (List.mem_of_getElem? hx)
      simp only at hbd
      have hsum : IntKind.i64.wrap (xa + xl) = xa + xl := wrapIn (by omega) (by omega)
      rw [pre_step hx] at hm
      simp only at hm
      have HB := hid hb
      clear hb hx
      by_cases hg : xa + xl ≤ x
      · rw [if_pos hg] at hm
        have hg' : ¬ x < xa + xl := by omega
        have HM := hid (show pre (l.drop (i + 1)) x + (i + 1) = pre l x by omega)
        clear hm hbd
        go_wp2
        go_roundg (gk - 1)
        case measure => omega
        case rel => exact ⟨i + 1, by go_num, by omega, HM.out, HB.out.alloc HB.out.size _⟩
      · rw [if_neg hg] at hm
        have hg' : x < xa + xl := by omega
        have HM := hid (show i = q by have := HQ.out; omega)
        clear hm hbd
        go_wp2
        go_ret
        exact ⟨by first | (rw [HM.out]; done) | (rw [HM.out]; rfl), HB.out.alloc HB.out.size _⟩
    · have hlt' : ¬ (i : Int) < (n : Int) := by omega
      have hall : l.drop i = [] := List.drop_of_length_le (by have := HL.out; omega)
      have hin : n = q := by rw [hall] at hm; have := HQ.out; have : pre [] x = 0 := rfl; omega
      have HI := hid hin
      clear hm hin
      go_wp2
      go_ret
      exact ⟨by first | (rw [HI.out]; done) | (rw [HI.out]; rfl), hb⟩
set_option maxRecDepth 100000 in
set_option maxHeartbeats 4000000 in
theorem prefix_any (w : World) (a : Option Addr) (n c : Nat) (l : List TQ) (h : TRow w a n l) (hn : n ≤ 140737488355328) (hB : TBd l) (x : Int) :
    Calls Try.prog 29 #[.slice a n c, .int .i64 x] w fun e w' => e = .returned (.int .i64 (pre l x : Int)) ∧ Below w.heap.size w w' := by
  have H := hid h
  have HL := hid h.len
  have HT := hid hB
  obtain ⟨q, hq⟩ : ∃ q, q = pre l x := ⟨_, rfl⟩
  rw [← hq]
  have HQ := hid hq
  clear h hB hq
  go_enter Try.func29, Try.ntmps29
  go_wp2_with fail
  go_loopg [5] n (fun kk s9 wr => ∃ (i : Nat), s9 = .int .i64 (i : Int) ∧ i + kk = n ∧ pre (l.drop i) x + i = pre l x ∧ Below w.heap.size w wr)
  case atStart => exact ⟨0, rfl, by omega, rfl, Below.refl _ _⟩
  case round =>
    obtain ⟨i, rfl, hk, hm, hb⟩ := hrel
    by_cases hlt : i < n
    · have hlt' : decide ((i : Int) < (n : Int)) = true := by simpa using hlt
      have hltN : (i : Int) < (n : Int) := by omega
      have hi0 : (0 : Int) ≤ (i : Int) := by omega
      have hi1 : IntKind.i64.wrap ((i : Int) + 1) = (i : Int) + 1 := wrapIn (by omega) (by omega)
      obtain ⟨b, o, ⟨xk, xa, xs, xl⟩, rfl, _, hx, x0, x1, x2, x3⟩ := trow_at (H.out.below hb) hlt
      simp only at x0 x1 x2 x3
      have hbd := HT.out _ (List.mem_of_getElem? hx)
      simp only at hbd
      have hsum : IntKind.i64.wrap (xa + xl) = xa + xl := wrapIn (by omega) (by omega)
      rw [pre_step hx] at hm
      simp only at hm
      have HB := hid hb
      by_cases hg : xa + xl ≤ x
      · rw [if_pos hg] at hm
        have hg' : decide (xa + xl ≤ x) = true := decide_eq_true hg
        have HM := hid (show pre (l.drop (i + 1)) x + (i + 1) = pre l x by omega)
        have HW := hid (show ∀ X, wr = X → Below w.heap.size w X by rintro _ rfl; exact hb)
        clear hm hbd hb hx
        go_wp2_with fail
        go_quiet (fail)
        go_wp2
        go_roundg (gk - 1)
        case measure => omega
        case rel => exact ⟨i + 1, by go_num, by omega, HM.out, below_drewN HB.out _⟩
      · rw [if_neg hg] at hm
        have hg' : decide (xa + xl ≤ x) = false := decide_eq_false hg
        have HM := hid (show i = q by have := HQ.out; omega)
        clear hm hbd hb hx
        go_wp2_with fail
        go_quiet (fail)
        go_wp2
        go_ret
        exact ⟨by first | (rw [HM.out]; done) | (rw [HM.out]; rfl), below_drewN HB.out _⟩
    · have hlt' : decide ((i : Int) < (n : Int)) = false := by simpa using hlt
      have hltN : ¬ (i : Int) < (n : Int) := by omega
      have hall : l.drop i = [] := List.drop_of_length_le (by have := HL.out; omega)
      have hin : i = q := by rw [hall] at hm; have := HQ.out; have : pre [] x = 0 := rfl; omega
      have HI := hid hin
      have HB := hid hb
      clear hm hin hb
      go_wp2_with fail
      go_quiet (fail)
      go_wp2
      go_ret
      exact ⟨by first | (rw [HI.out]; done) | (rw [HI.out]; rfl), below_drewN HB.out _⟩
/-- What start returns. -/
def stv (l : List TQ) (z x : Int) : Int := if fd l x < l.length then (fd l x : Int) else if x = z then (l.length : Int) else -1
set_option maxRecDepth 100000 in
set_option maxHeartbeats 4000000 in
theorem start_any (w : World) (a : Option Addr) (n c : Nat) (l : List TQ) (h : TRow w a n l) (hn : n ≤ 140737488355328) (z x : Int) :
    Calls Try.prog 30 #[.slice a n c, .int .i64 z, .int .i64 x] w fun e w' => e = .returned (.int .i64 (stv l z x)) ∧ Below w.heap.size w w' := by
  have H := hid h
  have HL := hid h.len
  obtain ⟨q, hq⟩ : ∃ q, q = stv l z x := ⟨_, rfl⟩
  rw [← hq]
  have HQ := hid hq
  clear h hq
  go_enter Try.func30, Try.ntmps30
  go_wp2_with fail
  go_loopg [7] n (fun kk s9 wr => ∃ (i : Nat), s9 = .int .i64 (i : Int) ∧ i + kk = n ∧ fd (l.drop i) x + i = fd l x ∧ Below w.heap.size w wr)
  case atStart => exact ⟨0, rfl, by omega, rfl, Below.refl _ _⟩
  case round =>
    obtain ⟨i, rfl, hk, hm, hb⟩ := hrel
    by_cases hlt : i < n
    · have hlt' : (i : Int) < (n : Int) := by omega
      have hi0 : (0 : Int) ≤ (i : Int) := by omega
      have hi1 : IntKind.i64.wrap ((i : Int) + 1) = (i : Int) + 1 := wrapIn (by omega) (by omega)
      obtain ⟨b, o, ⟨xk, xa, xs, xl⟩, rfl, _, hx, x0, x1, x2, x3⟩ := trow_at (H.out.below hb) hlt
      simp only at x0 x1 x2 x3
      rw [fd_step hx] at hm
      simp only at hm
      by_cases hg : xa = x
      · rw [if_pos hg] at hm
        have HM := hid (show (i : Int) = q by rw [HQ.out]; unfold stv; rw [← hm, if_pos (by have := HL.out; omega)]; omega)
        clear hm hx
        go_wp2
        go_ret
        exact ⟨by first | (rw [HM.out]; done) | (rw [HM.out]; rfl), hb⟩
      · rw [if_neg hg] at hm
        have HM := hid (show fd (l.drop (i + 1)) x + (i + 1) = fd l x by omega)
        clear hm hx
        go_wp2
        go_roundg (gk - 1)
        case measure => omega
        case rel => exact ⟨i + 1, by go_num, by omega, HM.out, hb⟩
    · have hlt' : ¬ (i : Int) < (n : Int) := by omega
      have hall : l.drop i = [] := List.drop_of_length_le (by have := HL.out; omega)
      have hin : i = fd l x := by rw [hall] at hm; have : fd [] x = 0 := rfl; omega
      by_cases hz : x = z
      · have HI := hid (show (n : Int) = q by rw [HQ.out]; unfold stv; rw [if_neg (by have := HL.out; omega), if_pos hz, HL.out])
        clear hm hin
        go_wp2
        go_ret
        exact ⟨by first | (rw [HI.out]; done) | (rw [HI.out]; rfl), hb⟩
      · have HI := hid (show (-1 : Int) = q by rw [HQ.out]; unfold stv; rw [if_neg (by have := HL.out; omega), if_neg hz])
        clear hm hin
        go_wp2
        go_ret
        exact ⟨by first | (rw [HI.out]; done) | (rw [HI.out]; rfl), hb⟩
end Go.Proofs.Ytblcjjhjgoccgaa
