/-
  LexerMaximalMunch, for every input: the law returns true and leaves its arguments as they read. No condition.
-/
import Derived.Test.YtlbnaegcjlddgaaO
import Derived.Test.YtlbnaegcjlddgaaJ
import Derived.Test.YtlbnaegcjlddgaaK
set_option linter.unusedSimpArgs false
set_option linter.unusedVariables false
namespace Go.Proofs.Ytlbnaegcjlddgaa.lexerMaximalMunch
open Go.ChangeShapes Go.WideShapes Go.ChangeAt Go.RowKit Go.Frame
open Go.ChangeMaps (open_string shut_string)
open Lx
set_option maxRecDepth 100000 in
set_option maxHeartbeats 4000000 in
theorem walk (D : Df) (a1 : Option Addr) (n1 c1 : Nat) (a2 : Option Addr) (n2 c2 : Nat) (a3 : Option Addr) (n3 c3 : Nat) (s : ByteArray) (w : World) (hD : DA w D a1 n1 a2 n2 a3 n3) (hs0 : s.size ≤ 140737488351232) :
    Calls Try.prog 5 #[.agg #[.slice a1 n1 c1, .slice a2 n2 c2, .slice a3 n3 c3], .string s] w fun e w' => e = .returned (.bool true) ∧ Below w.heap.size w w' := by
  have CA := hid (fun V (hV : Below w.heap.size w V) => awake_any V)
  have CL := hid (fun V (hV : Below w.heap.size w V) => light_any V D a1 n1 c1 a2 n2 c2 a3 n3 c3 (hD.below hV) s (by omega))
  have HI := hid hD
  have x0 := hid (alloc_new w (.cells #[.slice a1 n1 c1, .slice a2 n2 c2, .slice a3 n3 c3] 25))
  have B0 := hid (bel1 w (.cells #[.slice a1 n1 c1, .slice a2 n2 c2, .slice a3 n3 c3] 25))
  obtain ⟨y, hy⟩ : ∃ y, y = (decide (n2 ≤ 60) && (decide (s.size ≤ 60) && valid D)) := ⟨_, rfl⟩
  rw [← hy] at CL
  have HY := hid hy
  clear hD hy
  go_enter Try.func5, Try.ntmps5
  go_wp2_with fail
  refine (CA.out _ B0.out).mono ?_
  rintro e W ⟨rfl, b1⟩
  have X := hid (And.intro ((b1.block _ (heap_lt x0.out)).trans x0.out) (B0.out.trans (b1.mono B0.out.size)))
  clear b1 CA
  obtain ⟨d0, d1, d2⟩ := cells3 X.out.1
  go_wp2_with fail
  refine (CL.out _ X.out.2).mono ?_
  rintro e W2 ⟨rfl, b2⟩
  have X2 := hid (And.intro ((b2.block _ (heap_lt X.out.1)).trans X.out.1) (X.out.2.trans (b2.mono X.out.2.size)))
  clear b2 CL d0 d1 d2
  cases y
  · go_wp2
    go_ret
    exact ⟨rfl, X2.out.2⟩
  · have hy2 := HY.out
    simp only [eq_comm (a := true), Bool.and_eq_true, decide_eq_true_eq] at hy2
    obtain ⟨hm, hs60, hval⟩ := hy2
    obtain ⟨n, k, hv⟩ := valid_iff.1 hval
    have hs6 : s.size ≤ 1000000 := by omega
    have HV := hid hv
    have DL := hid (fun V (hV : Below w.heap.size w V) (s' : ByteArray) (h' : s'.size ≤ 1000000) => Lex_any V D n k HV.out a1 n1 c1 a2 n2 c2 a3 n3 c3 (HI.out.below hV) s' h')
    clear hm hval hv
    obtain ⟨d0, d1, d2⟩ := cells3 X2.out.1
    obtain ⟨L, hL⟩ : ∃ L, L = lexT D s := ⟨_, rfl⟩
    have hLn : L.length ≤ 60 := by rw [hL]; exact Nat.le_trans (lexT_len _ _) hs60
    have D1 := hid (fun V (hV : Below w.heap.size w V) => show Calls Try.prog 13 #[.agg #[.slice a1 n1 c1, .slice a2 n2 c2, .slice a3 n3 c3], .string s] V (TRes V L) from hL ▸ DL.out V hV s hs6)
    have H0 := hid (show (lexAt D s 0).map tq = L.drop 0 from by rw [hL]; rfl)
    have HLX := hid hL
    obtain ⟨lL, hlL⟩ : ∃ lL, lL = L.length := ⟨_, rfl⟩
    have HLL := hid hlL
    unfold TRes at D1
    rw [← hlL] at D1 hLn
    clear hlL hL
    go_wp2_with fail
    refine (D1.out _ X2.out.2).mono ?_
    rintro e V1 ⟨⟨pL, qL, rfl, rL⟩, b3⟩
    have Y := hid (And.intro (X2.out.2.trans (b3.mono X2.out.2.size)) (And.intro ((b3.block _ (heap_lt X2.out.1)).trans X2.out.1) rL))
    clear b3 rL d0 d1 d2
    have CRn := hid (fun V (hV : Below w.heap.size w V) (s' : ByteArray) (h' : s'.size ≤ 1000000) => Run_any V D n k HV.out a1 n1 c1 a2 n2 c2 a3 n3 c3 (HI.out.below hV) s' h')
    go_wp2_with fail
    go_loopg [6] lL (fun kk s6 wr => ∃ i : Nat, s6 = .int .i64 (i : Int) ∧ i + kk = lL ∧ Below V1.heap.size V1 wr)
    case atStart => exact ⟨0, rfl, by omega, Below.refl _ _⟩
    case round =>
      obtain ⟨i, rfl, hik, hb⟩ := hrel
      by_cases hlt : i < lL
      · have hlt' : (i : Int) < (lL : Int) := by omega
        have hi0 : (0 : Int) ≤ (i : Int) := by omega
        have hii : IntKind.i64.wrap ((i : Int) + 1) = (i : Int) + 1 := wrapIn (by omega) (by omega)
        obtain ⟨p, hps, hx⟩ := tok_of H0.out (i := i) (by have := HLL.out; omega)
        obtain ⟨z1, z2, _⟩ := sc_bounds (D := D) hps
        have ztl := tok_len (D := D) hps
        have HM := hid (fun e h1 h2 => tok_munch HV.out hps e h1 h2)
        obtain ⟨lb, lo, u, rfl, _, hx', x0, x1, x2, x3⟩ := trow_at (Y.out.2.2.below hb) hlt
        obtain rfl : u = tq (tokAt D s p) := by rw [hx] at hx'; simpa using hx'.symm
        obtain ⟨tx, htx⟩ : ∃ tx, tx = (tokAt D s p).txt := ⟨_, rfl⟩
        obtain ⟨tk, htk⟩ : ∃ tk, tk = (sc D s p).1 := ⟨_, rfl⟩
        obtain ⟨lk, hlk⟩ : ∃ lk, lk = (tokAt D s p).look := ⟨_, rfl⟩
        have hpe : (tokAt D s p).pos = p := rfl
        have hke : (tokAt D s p).kind = tk := htk.symm
        simp only [tq, hpe, hke, ← htx, ← hlk] at x0 x1 x2 x3
        rw [← htx] at ztl
        rw [← ztl, ← htk] at HM
        rw [← ztl] at z1 z2
        have HMun := hid HM.out
        obtain ⟨go, rfl⟩ : ∃ go, go = gk := ⟨_, rfl⟩
        obtain ⟨tz, htz⟩ : ∃ tz, tz = tx.size := ⟨_, rfl⟩
        have HTZ := hid htz
        have g1 : ¬ (p : Int) < 0 := by omega
        have g2 : ¬ (s.size : Int) ≤ (p : Int) := by omega
        have g3 : IntKind.i64.wrap ((s.size : Int) - (p : Int)) = (s.size : Int) - (p : Int) := wrapIn (by omega) (by omega)
        have g4 : ¬ (s.size : Int) - (p : Int) < (tx.size : Int) := by omega
        have g5 : IntKind.i64.wrap ((p : Int) + 1) = (p : Int) + 1 := wrapIn (by omega) (by omega)
        have g6 : IntKind.i64.wrap ((p : Int) + (tx.size : Int)) = (p : Int) + (tx.size : Int) := wrapIn (by omega) (by omega)
        obtain ⟨Z, hZ⟩ : ∃ Z, Z = wr.alloc (.cells #[.int .i64 tk, .int .i64 (p : Int), .string tx, .int .i64 (lk : Int)] 32) := ⟨_, rfl⟩
        have bZ : Below V1.heap.size V1 Z := by rw [hZ]; exact hb.alloc hb.size _
        have zb : Z.heap[wr.heap.size]? = some (.cells #[.int .i64 tk, .int .i64 (p : Int), .string tx, .int .i64 (lk : Int)] 32 (0, 0)) := by rw [hZ]; exact alloc_new _ _
        obtain ⟨e0, e1, e2, e3⟩ := cells4 zb
        obtain ⟨tb, htb⟩ : ∃ tb, tb = wr.heap.size := ⟨_, rfl⟩
        have HZ := hid (And.intro bZ (And.intro (Y.out.1.trans (bZ.mono Y.out.1.size)) (And.intro ((bZ.block _ (heap_lt Y.out.2.1)).trans Y.out.2.1) (htb ▸ zb))))
        rcases (show (tk = -1 ∧ tx.size = 1) ∨ ¬ tk = -1 from by
          by_cases h : tk = -1
          · exact .inl ⟨h, (HMun.out (p + 1) (by omega) (by omega)).2.2 h⟩
          · exact .inr h) with ⟨h1, h2⟩ | h1
        · have k1 : (tk == -1) = true := by simpa using h1
          have k2 : ((tx.size : Int) != 1) = false := by rw [h2]; rfl
          have K := hid (show ∀ e, p < e → e ≤ s.size → (e = p + tx.size → runD D (s.extract p e).data.toList = tk) ∧ (e ≠ p + tx.size → runD D (s.extract p e).data.toList < 0) from fun e q1 q2 => ⟨(HMun.out e q1 q2).1, fun q3 => (HMun.out e q1 q2).2.1 q3 (.inr h1)⟩)
          subst h1
          clear hx hx' htx htk hlk hpe hke bZ zb hb htz h2 ztl
          go_upto_region 12 with fail
          rw [← hZ, ← htb]
          rw [← htb] at e0 e1 e2 e3
          clear hZ htb x0 x1 x2 x3
          go_wp2_with fail
          go_loopg [8] (s.size - p) (fun k3 s8 wr => ∃ e : Nat, s8 = .int .i64 (e : Int) ∧ e + k3 = s.size + 1 ∧ p < e ∧ Below Z.heap.size Z wr)
          case atStart => exact ⟨p + 1, by go_num, by omega, by omega, Below.refl _ _⟩
          case round =>
            obtain ⟨e, rfl, hek, hpe, hb⟩ := hrel
            have HB := hid (And.intro hb (And.intro (HZ.out.2.1.trans (hb.mono HZ.out.2.1.size)) (And.intro ((hb.block _ (heap_lt HZ.out.2.2.1)).trans HZ.out.2.2.1) ((hb.block _ (heap_lt HZ.out.2.2.2)).trans HZ.out.2.2.2))))
            clear hb
            clear e0 e1 e2 e3
            by_cases hle : e ≤ s.size
            · have hle' : (e : Int) ≤ (s.size : Int) := by omega
              have hee : IntKind.i64.wrap ((e : Int) + 1) = (e : Int) + 1 := wrapIn (by omega) (by omega)
              have s1 : (0 : Int) ≤ (p : Int) := by omega
              have s2 : (p : Int) ≤ (e : Int) := by omega
              obtain ⟨rv, hrv⟩ : ∃ rv, rv = runD D (s.extract p e).data.toList := ⟨_, rfl⟩
              have C1 := hid (fun V (hV : Below w.heap.size w V) => show Calls Try.prog 16 #[.agg #[.slice a1 n1 c1, .slice a2 n2 c2, .slice a3 n3 c3], .string (s.extract p e)] V fun e w' => e = .returned (.int .i64 rv) ∧ Below V.heap.size V w' from hrv ▸ CRn.out V hV _ (by rw [ByteArray.size_extract]; omega))
              have M1 := HMun.out e hpe hle
              rw [← hrv] at M1
              have HM1 := hid M1
              clear M1 hrv
              go_wp2_with fail
              refine wp_region_below (by kernel_rfl) (by kernel_rfl) ?_
              intro X' f _ hf hs'
              have lA := heap_lt HB.out.2.2.1
              have lT := heap_lt HB.out.2.2.2
              have k0 := fun x => (cells3 (((hf.out x).block _ lA).trans HB.out.2.2.1)).1
              have k1' := fun x => (cells3 (((hf.out x).block _ lA).trans HB.out.2.2.1)).2.1
              have k2' := fun x => (cells3 (((hf.out x).block _ lA).trans HB.out.2.2.1)).2.2
              have k3 := fun x => (cells4 (((hf.out x).block _ lT).trans HB.out.2.2.2)).2.1
              have E1 := hid (fun V (hV : Below wr.heap.size wr V) => C1.out V (HB.out.2.1.trans (hV.mono HB.out.2.1.size)))
              clear C1
              repeat (go_big_quiet_step (first
                | (go_at_call 16; exact calls_below hf hs' (E1.out _ (hf.out _)))))
              refine wpQuiet_nil ?_
              intro w' hw'
              have HW' := hid (And.intro (HB.out.1.trans (hw'.mono HB.out.1.size)) (HB.out.2.1.trans (hw'.mono HB.out.2.1.size)))
              obtain ⟨e0, e1, e2, e3⟩ := cells4 ((hw'.block _ lT).trans HB.out.2.2.2)
              clear k0 k1' k2' k3 hf hs' hw' lA lT
              by_cases q : e = p + tx.size
              · have q1 : ((e : Int) == (p : Int) + (tx.size : Int)) = true := by rw [beq_iff_eq]; omega
                have q2 : (e : Int) = (p : Int) + (tx.size : Int) := by omega
                obtain rfl := HM1.out.1 q
                have HQ := hid q2
                clear q q2
                go_wp2
                go_roundg (gk - 1)
                case measure => omega
                case rel => exact ⟨e + 1, by go_num, by omega, by omega, HW'.out.1⟩
              · have q1 : ((e : Int) == (p : Int) + (tx.size : Int)) = false := by rw [beq_eq_false_iff_ne]; omega
                have q2 : ¬ (e : Int) = (p : Int) + (tx.size : Int) := by omega
                by_cases q3 : p + tx.size < e
                · have q4 : (p : Int) + (tx.size : Int) < (e : Int) := by omega
                  have q5 : rv < 0 := HM1.out.2.1 q (.inl q3)
                  have q6 : ¬ 0 ≤ rv := by omega
                  go_wp2
                  go_roundg (gk - 1)
                  case measure => omega
                  case rel => exact ⟨e + 1, by go_num, by omega, by omega, HW'.out.1⟩
                · have q4 : ¬ (p : Int) + (tx.size : Int) < (e : Int) := by omega
                  have q5 : rv < 0 := HM1.out.2.1 q (.inr trivial)
                  have q6 : ¬ 0 ≤ rv := by omega
                  go_wp2
                  go_roundg (gk - 1)
                  case measure => omega
                  case rel => exact ⟨e + 1, by go_num, by omega, by omega, HW'.out.1⟩
            · have hle' : ¬ (e : Int) ≤ (s.size : Int) := by omega
              go_wp2
              go_roundg (go - 1)
              case measure => omega
              case rel => exact ⟨i + 1, by go_num, by omega, HZ.out.1.trans (HB.out.1.mono HZ.out.1.size)⟩
        · have k1 : (tk == -1) = false := by simpa using h1
          clear hx hx' htx htk hlk hpe hke bZ zb hb htz ztl
          go_upto_region 12 with fail
          rw [← hZ, ← htb]
          rw [← htb] at e0 e1 e2 e3
          clear hZ htb x0 x1 x2 x3
          go_wp2_with fail
          go_loopg [8] (s.size - p) (fun k3 s8 wr => ∃ e : Nat, s8 = .int .i64 (e : Int) ∧ e + k3 = s.size + 1 ∧ p < e ∧ Below Z.heap.size Z wr)
          case atStart => exact ⟨p + 1, by go_num, by omega, by omega, Below.refl _ _⟩
          case round =>
            obtain ⟨e, rfl, hek, hpe, hb⟩ := hrel
            have HB := hid (And.intro hb (And.intro (HZ.out.2.1.trans (hb.mono HZ.out.2.1.size)) (And.intro ((hb.block _ (heap_lt HZ.out.2.2.1)).trans HZ.out.2.2.1) ((hb.block _ (heap_lt HZ.out.2.2.2)).trans HZ.out.2.2.2))))
            clear hb
            clear e0 e1 e2 e3
            by_cases hle : e ≤ s.size
            · have hle' : (e : Int) ≤ (s.size : Int) := by omega
              have hee : IntKind.i64.wrap ((e : Int) + 1) = (e : Int) + 1 := wrapIn (by omega) (by omega)
              have s1 : (0 : Int) ≤ (p : Int) := by omega
              have s2 : (p : Int) ≤ (e : Int) := by omega
              obtain ⟨rv, hrv⟩ : ∃ rv, rv = runD D (s.extract p e).data.toList := ⟨_, rfl⟩
              have C1 := hid (fun V (hV : Below w.heap.size w V) => show Calls Try.prog 16 #[.agg #[.slice a1 n1 c1, .slice a2 n2 c2, .slice a3 n3 c3], .string (s.extract p e)] V fun e w' => e = .returned (.int .i64 rv) ∧ Below V.heap.size V w' from hrv ▸ CRn.out V hV _ (by rw [ByteArray.size_extract]; omega))
              have M1 := HMun.out e hpe hle
              rw [← hrv] at M1
              have HM1 := hid M1
              clear M1 hrv
              go_wp2_with fail
              refine wp_region_below (by kernel_rfl) (by kernel_rfl) ?_
              intro X' f _ hf hs'
              have lA := heap_lt HB.out.2.2.1
              have lT := heap_lt HB.out.2.2.2
              have k0 := fun x => (cells3 (((hf.out x).block _ lA).trans HB.out.2.2.1)).1
              have k1' := fun x => (cells3 (((hf.out x).block _ lA).trans HB.out.2.2.1)).2.1
              have k2' := fun x => (cells3 (((hf.out x).block _ lA).trans HB.out.2.2.1)).2.2
              have k3 := fun x => (cells4 (((hf.out x).block _ lT).trans HB.out.2.2.2)).2.1
              have E1 := hid (fun V (hV : Below wr.heap.size wr V) => C1.out V (HB.out.2.1.trans (hV.mono HB.out.2.1.size)))
              clear C1
              repeat (go_big_quiet_step (first
                | (go_at_call 16; exact calls_below hf hs' (E1.out _ (hf.out _)))))
              refine wpQuiet_nil ?_
              intro w' hw'
              have HW' := hid (And.intro (HB.out.1.trans (hw'.mono HB.out.1.size)) (HB.out.2.1.trans (hw'.mono HB.out.2.1.size)))
              obtain ⟨e0, e1, e2, e3⟩ := cells4 ((hw'.block _ lT).trans HB.out.2.2.2)
              clear k0 k1' k2' k3 hf hs' hw' lA lT
              by_cases q : e = p + tx.size
              · have q1 : ((e : Int) == (p : Int) + (tx.size : Int)) = true := by rw [beq_iff_eq]; omega
                have q2 : (e : Int) = (p : Int) + (tx.size : Int) := by omega
                obtain rfl := HM1.out.1 q
                have HQ := hid q2
                clear q q2
                go_wp2
                go_roundg (gk - 1)
                case measure => omega
                case rel => exact ⟨e + 1, by go_num, by omega, by omega, HW'.out.1⟩
              · have q1 : ((e : Int) == (p : Int) + (tx.size : Int)) = false := by rw [beq_eq_false_iff_ne]; omega
                have q2 : ¬ (e : Int) = (p : Int) + (tx.size : Int) := by omega
                by_cases q3 : p + tx.size < e
                · have q4 : (p : Int) + (tx.size : Int) < (e : Int) := by omega
                  have q5 : rv < 0 := HM1.out.2.1 q (.inl q3)
                  have q6 : ¬ 0 ≤ rv := by omega
                  go_wp2
                  go_roundg (gk - 1)
                  case measure => omega
                  case rel => exact ⟨e + 1, by go_num, by omega, by omega, HW'.out.1⟩
                · have q4 : ¬ (p : Int) + (tx.size : Int) < (e : Int) := by omega
                  go_wp2
                  go_roundg (gk - 1)
                  case measure => omega
                  case rel => exact ⟨e + 1, by go_num, by omega, by omega, HW'.out.1⟩
            · have hle' : ¬ (e : Int) ≤ (s.size : Int) := by omega
              go_wp2
              go_roundg (go - 1)
              case measure => omega
              case rel => exact ⟨i + 1, by go_num, by omega, HZ.out.1.trans (HB.out.1.mono HZ.out.1.size)⟩
      · have hlt' : ¬ (i : Int) < (lL : Int) := by omega
        go_wp2
        go_ret
        exact ⟨rfl, Y.out.1.trans (hb.mono Y.out.1.size)⟩

theorem lifted (os : Os) (started : os.Started) (H : Type) (enc : TypeId × Value → H) :
    ReturnsInHanded {} Try.checked os 5 .any (Rows.lexerMaximalMunchSpec.pre6 enc Try.prog Try.f5 Rows.lexerMaximalMunchRow.domain false) (Rows.lexerMaximalMunchSpec.post enc Try.prog Try.f5 false true false false) := by
  refine Go.Frame.lifted (C := Try.checked) (tb := 4) own started (by kernel_rfl) Try.func5
    (ChangeSpec.witness6 (enc := enc) (C := Try.checked) false ⟨#[], #[.agg #[.slice none 0 0, .slice none 0 0, .slice none 0 0], .string ByteArray.empty], []⟩ 8 (by kernel_rfl) (by kernel_rfl) (by kernel_rfl) (by kernel_rfl))
    laidOut (by kernel_rfl) (by kernel_rfl) Try.underlying4 rfl ?_ ?_
  · intro ds h
    have h : ds.length = 2 := h
    match ds, h with
    | [_, _], _ => rfl
  · intro W base args ds p hlen hval0 hA hsz0
    have hval : ∀ (j : Nat) t v, Try.f5.params[j]? = some t → args[j]? = some v → Value.okWide Try.prog W .any base t v := hval0
    have hA : DataW.TrodAll enc Try.prog W 0 (fun _ => true) true Try.f5.params.toList args.toList ds p := hA
    have hsz : (DataW.weightsEach Try.prog Try.f5.params.toList ds).all (· ≤ reachBytes) = true := hsz0
    rw [Try.params5] at hA hval hsz
    obtain ⟨v0, vs0, d0, ds0, p0, q0, hargs, hds, _, th0, tr0⟩ := trodAll_cons hA
    obtain ⟨v1, vs1, d1, ds1, p1, q1, rfl, rfl, _, th1, tr1⟩ := trodAll_cons tr0
    obtain ⟨rfl, rfl, _⟩ := trodAll_nil tr1
    obtain rfl : args = #[v0, v1] := by cases args; simp_all
    subst hds
    obtain ⟨Du, a1x, n1x, c1x, a2x, n2x, c2x, a3x, n3x, c3x, rfl, hDu⟩ := open_dfa (hval 0 25 v0 rfl rfl) th0 (fun n hn => of_decide_eq_true (List.all_eq_true.1 hsz _ (DataW.weights_mem_each (j := 0) rfl rfl n hn)))
    obtain ⟨t1, rfl, hd1, _, _⟩ := open_string Try.underlying9 (hval 1 9 v1 rfl rfl) th1
    have hs1 : t1.size ≤ 140737488351232 := of_decide_eq_true (List.all_eq_true.1 hsz _ (DataW.weights_mem_each (j := 1) rfl rfl _ (by rw [hd1]; simp [DataW.weights])))
    exact walk Du a1x n1x c1x a2x n2x c2x a3x n3x c3x t1 W hDu hs1

theorem over : Rows.lexerMaximalMunchRow.holds Try.pinned (OpenSpec.ofChange Rows.lexerMaximalMunchSpec) :=
  OpenClaim.holds_of_wide 5 Try.f5 rfl rfl rfl rfl rfl rfl rfl ⟨rfl, rfl, rfl, rfl, rfl⟩ rfl rfl rfl rfl rfl (by kernel_rfl) Try.func5 (by kernel_rfl)
    (of_decide_eq_true (by kernel_rfl)) (by unfold Func.isWrapper; first | (rw [if_pos (by decide +kernel)]; kernel_rfl) | (rw [if_neg (by decide +kernel)]; exact ⟨rfl, rfl⟩))
    (fun os started H enc _ => lifted os started H enc)

/-- THE STATEMENT -/
theorem proved : Rows.LexerMaximalMunchSaid :=
  over
#print axioms proved
end Go.Proofs.Ytlbnaegcjlddgaa.lexerMaximalMunch
