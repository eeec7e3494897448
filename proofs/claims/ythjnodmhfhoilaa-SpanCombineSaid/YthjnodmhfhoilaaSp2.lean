/- Contracts of package span: compare, validEnd, validInterval. -/
import Derived.Test.YthjnodmhfhoilaaSp1
namespace Go.Proofs.Ythjnodmhfhoilaa
open Go.RowKit Go.Shelf

theorem ok_nums {a b : Int} (h : Qm.Ok a b) : I64 a ∧ I64 b := ⟨⟨by have := h.2.2.1; omega, by have := h.2.2.2.1; omega⟩, ⟨by have := h.1; omega, by have := h.2.1; omega⟩⟩

theorem cmpR_good {a b c d : Int} (o : Qm.Ok a b) (o' : Qm.Ok c d) : cmpR a b c d = (Qm.cmpI a b c d, 0) := by
  unfold cmpR
  rw [if_pos (Qm.bothI_ok.2 ⟨o, o'⟩)]

set_option maxHeartbeats 2000000 in
set_option maxRecDepth 100000 in
theorem scmp_any (x y : Cut) (w : World) (hx : x.Ok) (hy : y.Ok) :
    Calls Try.prog 50 #[x.v, y.v] w fun e w' => e = .returned (.int .i64 (cmpC x y)) ∧ Below w.heap.size w w' := by
  rw [cmpC_eq hx hy]
  have k1 := fun w => rcmp_any x.n x.d y.n y.d w (ok_nums hx).1 (ok_nums hx).2 (ok_nums hy).1 (ok_nums hy).2
  rw [cmpR_good hx hy] at k1
  obtain ⟨n, d, a⟩ := x
  obtain ⟨n', d', a'⟩ := y
  unfold Cut.v rv at *
  simp only at *
  clear hx hy
  generalize Qm.cmpI n d n' d' = V at *
  have XA := Lib.hid ((BoxL.made w #[.int .i64 n, .int .i64 d, .bool a] 75).under (.cells #[.int .i64 n', .int .i64 d', .bool a'] 75))
  have xb := BoxL.made (w.alloc (.cells #[.int .i64 n, .int .i64 d, .bool a] 75)) #[.int .i64 n', .int .i64 d', .bool a'] 75
  rw [size_alloc] at xb
  have XB := Lib.hid xb
  have HB0 := Lib.hid (((Below.refl w.heap.size w).alloc (Nat.le_refl _) (.cells #[.int .i64 n, .int .i64 d, .bool a] 75)).alloc (by simp) (.cells #[.int .i64 n', .int .i64 d', .bool a'] 75))
  have K1 := Lib.hid k1
  clear xb k1
  by_cases hV : V = 0
  · subst hV
    cases a <;> cases a'
    all_goals
      go_enter Try.func50, Try.ntmps50
      go_wp2_with fail
      refine (K1.out _).mono ?_
      rintro e w1 ⟨rfl, hB⟩
      have H1 := Lib.hid (HB0.out.trans (hB.mono HB0.out.size))
      obtain ⟨a0, a1, a2, -, -, -, a3⟩ := BoxL.open3 (XA.out.keep hB)
      obtain ⟨b0, b1, b2, -, -, -, b3⟩ := BoxL.open3 (XB.out.keep hB)
      clear hB
      go_wp2
      go_ret
      exact ⟨rfl, H1.out⟩
  · have hVb : (V == 0) = false := by simpa using hV
    rw [if_pos hV]
    go_enter Try.func50, Try.ntmps50
    go_wp2_with fail
    refine (K1.out _).mono ?_
    rintro e w1 ⟨rfl, hB⟩
    have H1 := Lib.hid (HB0.out.trans (hB.mono HB0.out.size))
    clear hB
    go_wp2
    go_ret
    exact ⟨rfl, H1.out⟩

/-- A small ratio. -/
def SmallR (n d : Int) : Prop := Qm.Ok n d ∧ -1073741824 ≤ n ∧ n ≤ 1073741824 ∧ d ≤ 32768

instance (n d : Int) : Decidable (SmallR n d) := inferInstanceAs (Decidable (_ ∧ _ ∧ _ ∧ _))

/-- Whether an end's fields fit. -/
def endB (n d : Int) (o i : Bool) : Bool := if i then decide (n = 0 ∧ d = 0) && !o else decide (SmallR n d)

set_option maxHeartbeats 4000000 in
set_option maxRecDepth 100000 in
theorem vend_any (n d : Int) (o i : Bool) (w : World) (hn : I64 n) (hd : I64 d) :
    Calls Try.prog 85 #[rv n d, .bool o, .bool i] w fun e w' => e = .returned (.bool (endB n d o i)) ∧ Below w.heap.size w w' := by
  have HB0 := Lib.hid ((Below.refl w.heap.size w).alloc (Nat.le_refl _) (.cells #[.int .i64 n, .int .i64 d] 25))
  have XA := Lib.hid (BoxL.made w #[.int .i64 n, .int .i64 d] 25)
  cases i
  case true =>
    have hE : endB n d o true = (decide (n = 0 ∧ d = 0) && !o) := rfl
    rw [hE]
    unfold rv
    by_cases hn0 : n = 0
    · by_cases hd0 : d = 0
      · subst hn0
        subst hd0
        cases o
        all_goals
          go_enter Try.func85, Try.ntmps85
          go_wp2
          go_ret
          exact ⟨rfl, HB0.out⟩
      · have hb : (d == 0) = false := by simpa using hd0
        rw [decide_eq_false (show ¬ (n = 0 ∧ d = 0) from fun h => hd0 h.2)]
        subst hn0
        go_enter Try.func85, Try.ntmps85
        go_wp2
        all_goals (go_ret; exact ⟨rfl, HB0.out⟩)
    · have hb : (n == 0) = false := by simpa using hn0
      rw [decide_eq_false (show ¬ (n = 0 ∧ d = 0) from fun h => hn0 h.1)]
      go_enter Try.func85, Try.ntmps85
      go_wp2
      all_goals (go_ret; exact ⟨rfl, HB0.out⟩)
  case false =>
    have hE : endB n d o false = decide (SmallR n d) := rfl
    rw [hE]
    have k1 := fun w => rvalid_any n d w hn hd
    unfold rv at *
    by_cases hv : Qm.Ok n d
    · have hz : Qm.validI n d = 0 := Qm.validI_ok.2 hv
      rw [hz] at k1
      have K1 := Lib.hid k1
      clear k1 hz
      by_cases h1 : -1073741824 ≤ n
      · by_cases h2 : n ≤ 1073741824
        · by_cases h3 : d ≤ 32768
          · rw [decide_eq_true (show SmallR n d from ⟨hv, h1, h2, h3⟩)]
            clear hv
            go_enter Try.func85, Try.ntmps85
            go_wp2_with fail
            refine (K1.out _).mono ?_
            rintro e w1 ⟨rfl, hB⟩
            have H1 := Lib.hid (HB0.out.trans (hB.mono HB0.out.size))
            obtain ⟨a0, a1, -, -, a3⟩ := BoxL.open2 (XA.out.keep hB)
            clear hB
            go_wp2
            go_ret
            exact ⟨rfl, H1.out⟩
          · rw [decide_eq_false (show ¬ SmallR n d from fun h => h3 h.2.2.2)]
            clear hv
            go_enter Try.func85, Try.ntmps85
            go_wp2_with fail
            refine (K1.out _).mono ?_
            rintro e w1 ⟨rfl, hB⟩
            have H1 := Lib.hid (HB0.out.trans (hB.mono HB0.out.size))
            obtain ⟨a0, a1, -, -, a3⟩ := BoxL.open2 (XA.out.keep hB)
            clear hB
            go_wp2
            go_ret
            exact ⟨ret_bool (decide_eq_false (by omega)), H1.out⟩
        · rw [decide_eq_false (show ¬ SmallR n d from fun h => h2 h.2.2.1)]
          clear hv
          go_enter Try.func85, Try.ntmps85
          go_wp2_with fail
          refine (K1.out _).mono ?_
          rintro e w1 ⟨rfl, hB⟩
          have H1 := Lib.hid (HB0.out.trans (hB.mono HB0.out.size))
          obtain ⟨a0, a1, -, -, a3⟩ := BoxL.open2 (XA.out.keep hB)
          clear hB
          go_wp2
          go_ret
          exact ⟨rfl, H1.out⟩
      · rw [decide_eq_false (show ¬ SmallR n d from fun h => h1 h.2.1)]
        clear hv
        go_enter Try.func85, Try.ntmps85
        go_wp2_with fail
        refine (K1.out _).mono ?_
        rintro e w1 ⟨rfl, hB⟩
        have H1 := Lib.hid (HB0.out.trans (hB.mono HB0.out.size))
        obtain ⟨a0, a1, -, -, a3⟩ := BoxL.open2 (XA.out.keep hB)
        clear hB
        go_wp2
        go_ret
        exact ⟨rfl, H1.out⟩
    · have hz : Qm.validI n d = 1 := (Qm.validI_two n d).resolve_left fun h => hv (Qm.validI_ok.1 h)
      rw [hz] at k1
      have K1 := Lib.hid k1
      clear k1 hz
      rw [decide_eq_false (show ¬ SmallR n d from fun h => hv h.1)]
      clear hv
      go_enter Try.func85, Try.ntmps85
      go_wp2_with fail
      refine (K1.out _).mono ?_
      rintro e w1 ⟨rfl, hB⟩
      have H1 := Lib.hid (HB0.out.trans (hB.mono HB0.out.size))
      obtain ⟨a0, a1, -, -, a3⟩ := BoxL.open2 (XA.out.keep hB)
      clear hB
      go_wp2
      go_ret
      exact ⟨rfl, H1.out⟩

theorem key_low : lowC.Ok := by show Qm.Ok _ _; decide
theorem key_high : highC.Ok := by show Qm.Ok _ _; decide

/-- An end that fits gives a cut. -/
theorem end_ok {n d : Int} {o i : Bool} (h : endB n d o i = true) : (i = true ∧ n = 0 ∧ d = 0 ∧ o = false) ∨ (i = false ∧ SmallR n d) := by
  unfold endB at h
  cases i
  · exact .inr ⟨rfl, by simpa using h⟩
  · simp at h
    exact .inl ⟨rfl, h.1.1, h.1.2, h.2⟩

/-- Whether an interval is valid. -/
noncomputable def Iv.good (x : Iv) : Bool := endB x.a x.b x.p x.r && endB x.c x.d x.q x.s && decide (x.from.key < x.to.key)

theorem from_ok {x : Iv} (h : endB x.a x.b x.p x.r = true) : x.from.Ok := by
  unfold Iv.from
  rcases end_ok h with ⟨e, _⟩ | ⟨e, h⟩
  · rw [e]; exact key_low
  · rw [e]; exact h.1

theorem to_ok {x : Iv} (h : endB x.c x.d x.q x.s = true) : x.to.Ok := by
  unfold Iv.to
  rcases end_ok h with ⟨e, _⟩ | ⟨e, h⟩
  · rw [e]; exact key_high
  · rw [e]; exact h.1

set_option maxHeartbeats 4000000 in
set_option maxRecDepth 100000 in
theorem viv_any (x : Iv) (w : World) (hx : x.wf) :
    Calls Try.prog 43 #[x.v] w fun e w' => e = .returned (.bool x.good) ∧ Below w.heap.size w w' := by
  have k1 := Lib.hid fun w => vend_any x.a x.b x.p x.r w hx.1 hx.2.1
  have k2 := Lib.hid fun w => vend_any x.c x.d x.q x.s w hx.2.2.1 hx.2.2.2
  have k3 := Lib.hid fun w => bounds_any x w
  have k4 := Lib.hid fun (h1 : endB x.a x.b x.p x.r = true) (h2 : endB x.c x.d x.q x.s = true) W => scmp_any x.from x.to W (from_ok h1) (to_ok h2)
  have HB0 := Lib.hid ((Below.refl w.heap.size w).alloc (Nat.le_refl _) (.cells #[.int .i64 x.a, .int .i64 x.b, .int .i64 x.c, .int .i64 x.d, .bool x.p, .bool x.q, .bool x.r, .bool x.s] 27))
  have XA := Lib.hid (cell_new8 w (.int .i64 x.a) (.int .i64 x.b) (.int .i64 x.c) (.int .i64 x.d) (.bool x.p) (.bool x.q) (.bool x.r) (.bool x.s) 27)
  have hG : x.good = (endB x.a x.b x.p x.r && endB x.c x.d x.q x.s && decide (x.from.key < x.to.key)) := rfl
  have hC : decide (x.from.key < x.to.key) = decide (cmpC x.from x.to < 0) := by
    unfold cmpC
    by_cases h : x.from.key < x.to.key
    · rw [if_pos h, decide_eq_true h]; rfl
    · rw [if_neg h, decide_eq_false h]
      split <;> rfl
  rw [hC] at hG
  rw [hG]
  clear hG hC hx
  unfold Iv.v
  generalize x.from = F at *
  generalize x.to = T at *
  generalize cmpC F T = V at *
  by_cases h1 : endB x.a x.b x.p x.r = true
  · by_cases h2 : endB x.c x.d x.q x.s = true
    · have K4 := Lib.hid (k4.out h1 h2)
      rw [h1] at k1
      rw [h2] at k2
      rw [h1, h2]
      clear h1 h2 k4
      obtain ⟨a, b, c, d, p, q, r, s⟩ := x
      obtain ⟨fn, fd, fa⟩ := F
      obtain ⟨tn, td, ta⟩ := T
      unfold rv Iv.v Cut.v at *
      simp only at *
      go_enter Try.func43, Try.ntmps43
      go_wp2_with fail
      refine (k1.out _).mono ?_
      rintro e w1 ⟨rfl, hB⟩
      have H1 := Lib.hid (HB0.out.trans (hB.mono HB0.out.size))
      have X1 := Lib.hid (XA.out.keep hB)
      obtain ⟨a0, a1, a2, a3, a4, a5, a6, a7, a8⟩ := X1.out.open8
      clear hB
      go_wp2_with fail
      refine (k2.out _).mono ?_
      rintro e w2 ⟨rfl, hB⟩
      have H2 := Lib.hid (H1.out.trans (hB.mono H1.out.size))
      have X2 := Lib.hid (X1.out.keep hB)
      clear hB a0 a1 a2 a3 a4 a5 a6 a7 a8 X1
      obtain ⟨a0, a1, a2, a3, a4, a5, a6, a7, a8⟩ := X2.out.open8
      go_wp2_with fail
      refine (k3.out _).mono ?_
      rintro e w3 ⟨rfl, hB⟩
      have H3 := Lib.hid (H2.out.trans (hB.mono H2.out.size))
      clear hB a0 a1 a2 a3 a4 a5 a6 a7 a8 X2
      go_wp2_with fail
      refine (K4.out _).mono ?_
      rintro e w4 ⟨rfl, hB⟩
      have H4 := Lib.hid (((H3.out.alloc H3.out.size _).alloc (Nat.le_trans H3.out.size (by simp)) _).trans (hB.mono (Nat.le_trans H3.out.size (by simp; omega))))
      clear hB
      go_wp2
      go_ret
      exact ⟨rfl, H4.out⟩
    · have hf : endB x.c x.d x.q x.s = false := by simpa using h2
      rw [h1] at k1
      rw [hf] at k2
      rw [h1, hf]
      clear h1 h2 hf k4 k3
      obtain ⟨a, b, c, d, p, q, r, s⟩ := x
      unfold rv at *
      simp only at *
      go_enter Try.func43, Try.ntmps43
      go_wp2_with fail
      refine (k1.out _).mono ?_
      rintro e w1 ⟨rfl, hB⟩
      have H1 := Lib.hid (HB0.out.trans (hB.mono HB0.out.size))
      have X1 := Lib.hid (XA.out.keep hB)
      obtain ⟨a0, a1, a2, a3, a4, a5, a6, a7, a8⟩ := X1.out.open8
      clear hB
      go_wp2_with fail
      refine (k2.out _).mono ?_
      rintro e w2 ⟨rfl, hB⟩
      have H2 := Lib.hid (H1.out.trans (hB.mono H1.out.size))
      clear hB a0 a1 a2 a3 a4 a5 a6 a7 a8 X1
      go_wp2
      go_ret
      exact ⟨rfl, H2.out⟩
  · have hf : endB x.a x.b x.p x.r = false := by simpa using h1
    rw [hf] at k1
    rw [hf]
    clear h1 hf k4 k3 k2
    obtain ⟨a, b, c, d, p, q, r, s⟩ := x
    unfold rv at *
    simp only at *
    go_enter Try.func43, Try.ntmps43
    go_wp2_with fail
    refine (k1.out _).mono ?_
    rintro e w1 ⟨rfl, hB⟩
    have H1 := Lib.hid (HB0.out.trans (hB.mono HB0.out.size))
    clear hB
    go_wp2
    go_ret
    exact ⟨rfl, H1.out⟩

end Go.Proofs.Ythjnodmhfhoilaa
