/- Contracts of the reference of span: small, Good. -/
import Derived.Test.YtimbgjpjgbjnkaaSp3Sp4
import Derived.Test.YtimbgjpjgbjnkaaRef03bRef03h
namespace Go.Proofs.Ytimbgjpjgbjnkaa
open Go.RowKit Go.Shelf

set_option maxHeartbeats 4000000 in
set_option maxRecDepth 100000 in
theorem gsmall_any (n d : Int) (w : World) :
    Calls Try.prog 83 #[rv n d] w fun e w' => e = .returned (.bool (decide (SmallR n d))) ∧ Below w.heap.size w w' := by
  have HB0 := Lib.hid ((Below.refl w.heap.size w).alloc (Nat.le_refl _) (.cells #[.int .i64 n, .int .i64 d] 25))
  have XA := Lib.hid (BoxL.made w #[.int .i64 n, .int .i64 d] 25)
  have k1 := fun w => valid_any n d w
  have hc : (¬ Qm.Ok n d ∧ decide (SmallR n d) = false) ∨ (Qm.Ok n d ∧ 1073741824 < n ∧ decide (SmallR n d) = false) ∨ (Qm.Ok n d ∧ n ≤ 1073741824 ∧ n < -1073741824 ∧ decide (SmallR n d) = false)
      ∨ (Qm.Ok n d ∧ n ≤ 1073741824 ∧ -1073741824 ≤ n ∧ 32768 < d ∧ decide (SmallR n d) = false) ∨ (Qm.Ok n d ∧ n ≤ 1073741824 ∧ -1073741824 ≤ n ∧ d ≤ 32768 ∧ decide (SmallR n d) = true) := by
    by_cases hv : Qm.Ok n d
    · by_cases h1 : n ≤ 1073741824
      · by_cases h2 : -1073741824 ≤ n
        · by_cases h3 : d ≤ 32768
          · exact .inr (.inr (.inr (.inr ⟨hv, h1, h2, h3, decide_eq_true ⟨hv, h2, h1, h3⟩⟩)))
          · exact .inr (.inr (.inr (.inl ⟨hv, h1, h2, by omega, decide_eq_false fun h => h3 h.2.2.2⟩)))
        · exact .inr (.inr (.inl ⟨hv, h1, by omega, decide_eq_false fun h => h2 h.2.1⟩))
      · exact .inr (.inl ⟨hv, by omega, decide_eq_false fun h => h1 h.2.2.1⟩)
    · exact .inl ⟨hv, decide_eq_false fun h => hv h.1⟩
  unfold rv at *
  rcases hc with ⟨hv, hD⟩ | ⟨hv, h1, hD⟩ | ⟨hv, h1, h2, hD⟩ | ⟨hv, h1, h2, h3, hD⟩ | ⟨hv, h1, h2, h3, hD⟩
  all_goals
    rw [hD]
    first | rw [Qm.validI_ok.2 hv] at k1 | rw [(Qm.validI_two n d).resolve_left fun h => hv (Qm.validI_ok.1 h)] at k1
    have K1 := Lib.hid k1
    clear k1 hv hD
    go_enter Try.func83, Try.ntmps83
    go_wp2_with fail
    refine (K1.out _).mono ?_
    rintro e w1 ⟨rfl, hB⟩
    have H1 := Lib.hid (HB0.out.trans (hB.mono HB0.out.size))
    obtain ⟨a0, a1, -, -, a3⟩ := BoxL.open2 (XA.out.keep hB)
    clear hB
    go_wp2
    go_ret
    first | exact ⟨rfl, H1.out⟩ | exact ⟨ret_bool (decide_eq_false (by omega)), H1.out⟩ | exact ⟨ret_bool (decide_eq_true (by omega)), H1.out⟩

/-- What Good says, as it says it. -/
def goodB (a b c d : Int) (p q r s : Bool) : Bool :=
  if r = true ∧ (¬ (a = 0 ∧ b = 0) ∨ p = true) then false else if s = true ∧ (¬ (c = 0 ∧ d = 0) ∨ q = true) then false else
  if r = false ∧ decide (SmallR a b) = false then false else if s = false ∧ decide (SmallR c d) = false then false else if r = true ∨ s = true then true else if a = c ∧ b = d then !p && !q else decide (a * d < c * b)

theorem small_keys {n d : Int} (a : Bool) (h : SmallR n d) : lowC.key < Cut.key ⟨n, d, a⟩ ∧ Cut.key ⟨n, d, a⟩ < highC.key := by
  have l1 := (kR_lt (n := -1099511627776) (n' := n) (d := 1) (d' := d) (by decide) (by decide) h.1.1 h.1.2.1).2 (by
    have := h.2.1
    have := h.2.2.2
    have := h.1.1
    omega)
  have l2 := (kR_lt (n := n) (n' := 1099511627776) (d := d) (d' := 1) h.1.1 h.1.2.1 (by decide) (by decide)).2 (by
    have := h.2.2.1
    have := h.1.1
    omega)
  unfold Cut.key lowC highC
  simp only
  have hk : (if a = true then (1 : Int) else 0) = 0 ∨ (if a = true then (1 : Int) else 0) = 1 := by cases a; (· exact .inl rfl); (· exact .inr rfl)
  simp
  omega

theorem low_lt_high : lowC.key < highC.key := by
  unfold Cut.key lowC highC
  have := (kR_lt (n := -1099511627776) (n' := 1099511627776) (d := 1) (d' := 1) (by decide) (by decide) (by decide) (by decide)).2 (by decide)
  simp
  omega

theorem good_is (x : Iv) : x.good = goodB x.a x.b x.c x.d x.p x.q x.r x.s := by
  obtain ⟨a, b, c, d, p, q, r, s⟩ := x
  unfold Iv.good goodB
  simp only
  by_cases e1 : endB a b p r = true
  · by_cases e2 : endB c d q s = true
    · rw [e1, e2, Bool.true_and, Bool.true_and]
      rcases end_ok e1 with ⟨rfl, rfl, rfl, rfl⟩ | ⟨rfl, h1⟩
      · rcases end_ok e2 with ⟨rfl, rfl, rfl, rfl⟩ | ⟨rfl, h2⟩
        · simp [Iv.from, Iv.to, low_lt_high]
        · have := (small_keys (!q) h2).1
          simp [Iv.from, Iv.to, this, h2]
      · rcases end_ok e2 with ⟨rfl, rfl, rfl, rfl⟩ | ⟨rfl, h2⟩
        · have := (small_keys p h1).2
          simp [Iv.from, Iv.to, this, h1]
        · simp only [Bool.false_eq_true, false_and, if_false, decide_eq_true h1, decide_eq_true h2, or_self, Iv.from, Iv.to, and_false, Bool.true_eq_false]
          have l1 := kR_lt (n := a) (n' := c) h1.1.1 h1.1.2.1 h2.1.1 h2.1.2.1
          have l2 := kR_eq h1.1 h2.1
          unfold Cut.key
          simp only
          by_cases he : a = c ∧ b = d
          · rw [if_pos he, l2.2 he]
            cases p <;> cases q <;> simp
            all_goals omega
          · rw [if_neg he]
            have hne := mt l2.1 he
            by_cases hl : a * d < c * b
            · rw [decide_eq_true hl]
              have := l1.2 hl
              apply decide_eq_true
              cases p <;> cases q <;> simp <;> omega
            · rw [decide_eq_false hl]
              have := mt l1.1 hl
              apply decide_eq_false
              cases p <;> cases q <;> simp <;> omega
    · have hf : endB c d q s = false := by simpa using e2
      rw [hf, Bool.and_false, Bool.false_and]
      unfold endB at hf
      cases s
      · simp at hf
        simp [hf]
      · simp at hf
        by_cases hcd : c = 0 ∧ d = 0
        · simp [hcd, hf hcd.1 hcd.2]
        · have : ¬ c = 0 ∨ ¬ d = 0 := by omega
          simp [hcd]
  · have hf : endB a b p r = false := by simpa using e1
    rw [hf, Bool.false_and, Bool.false_and]
    unfold endB at hf
    cases r
    · simp at hf
      simp [hf]
    · simp at hf
      by_cases hab : a = 0 ∧ b = 0
      · simp [hab, hf hab.1 hab.2]
      · simp [hab]

theorem end_six (n d : Int) (o i S : Bool) : (i = true ∧ (n == 0) = false ∧ n ≠ 0) ∨ (i = true ∧ n = 0 ∧ (d == 0) = false ∧ d ≠ 0) ∨ (i = true ∧ n = 0 ∧ d = 0 ∧ o = true ∧ True) ∨ (i = true ∧ n = 0 ∧ d = 0 ∧ o = false ∧ True) ∨ (i = false ∧ S = false ∧ True) ∨ (i = false ∧ S = true ∧ True) := by
  cases i
  · cases S
    · exact .inr (.inr (.inr (.inr (.inl ⟨rfl, rfl, trivial⟩))))
    · exact .inr (.inr (.inr (.inr (.inr ⟨rfl, rfl, trivial⟩))))
  · by_cases hn : n = 0
    · by_cases hd : d = 0
      · cases o
        · exact .inr (.inr (.inr (.inl ⟨rfl, hn, hd, rfl, trivial⟩)))
        · exact .inr (.inr (.inl ⟨rfl, hn, hd, rfl, trivial⟩))
      · exact .inr (.inl ⟨rfl, hn, by simpa using hd, hd⟩)
    · exact .inl ⟨rfl, by simpa using hn, hn⟩

theorem pair_three (a b c d : Int) : (a = c ∧ b = d) ∨ ((a == c) = false ∧ ¬ (a = c ∧ b = d)) ∨ (a = c ∧ (b == d) = false ∧ ¬ (a = c ∧ b = d)) := by
  by_cases h1 : a = c
  · by_cases h2 : b = d
    · exact .inl ⟨h1, h2⟩
    · exact .inr (.inr ⟨h1, by simpa using h2, fun h => h2 h.2⟩)
  · exact .inr (.inl ⟨by simpa using h1, fun h => h1 h.1⟩)

set_option maxHeartbeats 8000000 in
set_option maxRecDepth 100000 in
theorem good_any (x : Iv) (w : World) :
    Calls Try.prog 42 #[x.v] w fun e w' => e = .returned (.bool x.good) ∧ Below w.heap.size w w' := by
  rw [good_is]
  obtain ⟨a, b, c, d, p, q, r, s⟩ := x
  unfold Iv.v
  simp only
  have k1 := fun w => gsmall_any a b w
  have k2 := fun w => gsmall_any c d w
  have k3 := fun (h1 : decide (SmallR a b) = true) (h2 : decide (SmallR c d) = true) w => less_any a b c d w (of_decide_eq_true h1).1 (of_decide_eq_true h2).1
  have HB0 := Lib.hid ((Below.refl w.heap.size w).alloc (Nat.le_refl _) (.cells #[.int .i64 a, .int .i64 b, .int .i64 c, .int .i64 d, .bool p, .bool q, .bool r, .bool s] 27))
  have XA := Lib.hid (cell_new8 w (.int .i64 a) (.int .i64 b) (.int .i64 c) (.int .i64 d) (.bool p) (.bool q) (.bool r) (.bool s) 27)
  generalize hG : goodB a b c d p q r s = G
  unfold goodB at hG
  generalize decide (SmallR a b) = S1 at *
  generalize decide (SmallR c d) = S2 at *
  generalize decide (a * d < c * b) = L at *
  unfold rv at *
  rcases end_six a b p r S1 with ⟨rfl, h1, g1⟩ | ⟨rfl, rfl, h1, g1⟩ | ⟨rfl, rfl, rfl, rfl, g1⟩ | ⟨rfl, rfl, rfl, rfl, g1⟩ | ⟨rfl, rfl, g1⟩ | ⟨rfl, rfl, g1⟩ <;> rcases end_six c d q s S2 with ⟨rfl, h2, g2⟩ | ⟨rfl, rfl, h2, g2⟩ | ⟨rfl, rfl, rfl, rfl, g2⟩ | ⟨rfl, rfl, rfl, rfl, g2⟩ | ⟨rfl, rfl, g2⟩ | ⟨rfl, rfl, g2⟩
  rotate_right 1
  · have K1 := Lib.hid k1
    have K2 := Lib.hid k2
    have K3 := Lib.hid (k3 rfl rfl)
    clear k1 k2 k3 g1 g2
    simp at hG
    rcases pair_three a b c d with ⟨rfl, rfl⟩ | ⟨h1, g1⟩ | ⟨rfl, h1, g1⟩
    · simp at hG
      cases p <;> cases q
      all_goals
        simp at hG
        subst hG
        go_enter Try.func42, Try.ntmps42
        go_wp2_with fail
        refine (K1.out _).mono ?_
        rintro e w1 ⟨rfl, hB⟩
        have H1 := Lib.hid (HB0.out.trans (hB.mono HB0.out.size))
        have X1 := Lib.hid (XA.out.keep hB)
        obtain ⟨a0, a1, a2, a3, a4, a5, a6, a7, a8⟩ := X1.out.open8
        clear hB
        go_wp2_with fail
        refine (K2.out _).mono ?_
        rintro e w2 ⟨rfl, hB⟩
        have H2 := Lib.hid (H1.out.trans (hB.mono H1.out.size))
        have X2 := Lib.hid (X1.out.keep hB)
        clear hB a0 a1 a2 a3 a4 a5 a6 a7 a8 X1
        obtain ⟨a0, a1, a2, a3, a4, a5, a6, a7, a8⟩ := X2.out.open8
        go_wp2
        go_ret
        exact ⟨rfl, H2.out⟩
    all_goals
      rw [if_neg g1] at hG
      subst hG
      clear g1
      go_enter Try.func42, Try.ntmps42
      go_wp2_with fail
      refine (K1.out _).mono ?_
      rintro e w1 ⟨rfl, hB⟩
      have H1 := Lib.hid (HB0.out.trans (hB.mono HB0.out.size))
      have X1 := Lib.hid (XA.out.keep hB)
      obtain ⟨a0, a1, a2, a3, a4, a5, a6, a7, a8⟩ := X1.out.open8
      clear hB
      go_wp2_with fail
      refine (K2.out _).mono ?_
      rintro e w2 ⟨rfl, hB⟩
      have H2 := Lib.hid (H1.out.trans (hB.mono H1.out.size))
      have X2 := Lib.hid (X1.out.keep hB)
      clear hB a0 a1 a2 a3 a4 a5 a6 a7 a8 X1
      obtain ⟨a0, a1, a2, a3, a4, a5, a6, a7, a8⟩ := X2.out.open8
      go_wp2_with fail
      refine (K3.out _).mono ?_
      rintro e w3 ⟨rfl, hB⟩
      have H3 := Lib.hid (H2.out.trans (hB.mono H2.out.size))
      clear hB
      go_wp2
      go_ret
      exact ⟨rfl, H3.out⟩
  all_goals
    clear k3
    simp [g1, g2] at hG
    subst hG
    have K1 := Lib.hid k1
    have K2 := Lib.hid k2
    clear k1 k2 g1 g2
    go_enter Try.func42, Try.ntmps42
    go_wp2_with fail
    first
      | (go_ret; exact ⟨rfl, HB0.out⟩)
      | (refine (K1.out _).mono ?_
         rintro e w1 ⟨rfl, hB⟩
         have H1 := Lib.hid (HB0.out.trans (hB.mono HB0.out.size))
         have X1 := Lib.hid (XA.out.keep hB)
         obtain ⟨a0, a1, a2, a3, a4, a5, a6, a7, a8⟩ := X1.out.open8
         clear hB
         go_wp2_with fail
         refine (K2.out _).mono ?_
         rintro e w2 ⟨rfl, hB⟩
         have H2 := Lib.hid (H1.out.trans (hB.mono H1.out.size))
         have X2 := Lib.hid (X1.out.keep hB)
         clear hB a0 a1 a2 a3 a4 a5 a6 a7 a8 X1
         obtain ⟨a0, a1, a2, a3, a4, a5, a6, a7, a8⟩ := X2.out.open8
         go_wp2
         go_ret
         exact ⟨rfl, H2.out⟩)

end Go.Proofs.Ytimbgjpjgbjnkaa
