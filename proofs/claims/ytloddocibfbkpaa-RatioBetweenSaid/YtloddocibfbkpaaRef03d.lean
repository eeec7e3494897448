/- Contracts of priorartref03: Mul. -/
import Derived.Test.YtloddocibfbkpaaRef03c
namespace Go.Proofs.Ytloddocibfbkpaa
open Go.RowKit Go.Shelf

set_option maxHeartbeats 2000000 in
set_option maxRecDepth 100000 in
theorem mul_pp (a b c d G H x y p q : Int) (R : Int × Int × Int) (w : World) (hsa : 0 < a) (hsc : 0 < c) (K1 : Hid (∀ w, Calls Try.prog 29 #[rv a b, rv c d] w fun e w' => e = .returned (.int .i64 0) ∧ Below w.heap.size w w'))
    (K2 : Hid (∀ w, Calls Try.prog 38 #[.int .i64 a, .int .i64 d] w fun e w' => e = .returned (.int .i64 G) ∧ Below w.heap.size w w'))
    (K3 : Hid (∀ w, Calls Try.prog 38 #[.int .i64 c, .int .i64 b] w fun e w' => e = .returned (.int .i64 H) ∧ Below w.heap.size w w'))
    (hG : 1 ≤ G) (hH : 1 ≤ H) (hx : 1 ≤ x) (hx2 : x ≤ 1099511627776) (hy : 1 ≤ y) (hy2 : y ≤ 1099511627776) (hp : 1 ≤ p) (hp2 : p ≤ 1048576) (hq : 1 ≤ q) (hq2 : q ≤ 1048576) (hpq : 1 ≤ p * q) (hpq2 : p * q ≤ 1099511627776)
    (e1 : a.tdiv G = x) (e2 : c.tdiv H = y) (e3 : b.tdiv H = p) (e4 : d.tdiv G = q) (e5 : b / H = p) (e6 : d / G = q) (e7 : a / G = x) (e8 : c / H = y)
    (hbig : 1048576 < p * q ∨ 1099511627776 < x * y → Hid (R = (0, 0, 5)))
    (K4 : Hid (p * q ≤ 1048576 → x * y ≤ 1099511627776 → ∀ w, Calls Try.prog 37 #[.int .i64 (x * y), .int .i64 (p * q)] w fun e w' => e = .returned (rve R) ∧ Below w.heap.size w w')) :
    Calls Try.prog 25 #[rv a b, rv c d] w fun e w' => e = .returned (rve R) ∧ Below w.heap.size w w' := by
  have HB0 := Lib.hid ((((Below.refl w.heap.size w).alloc (Nat.le_refl _) (Obj.cells #[.int .i64 a, .int .i64 b] 26)).alloc (by simp) (Obj.cells #[.int .i64 c, .int .i64 d] 26)).alloc (by simp; omega) (Obj.cells #[.int .i64 0, .int .i64 0] 26))
  have HC0 := Lib.hid (Below.refl (three w (.int .i64 a) (.int .i64 b) (.int .i64 c) (.int .i64 d) (.int .i64 0) (.int .i64 0) 26).heap.size (three w (.int .i64 a) (.int .i64 b) (.int .i64 c) (.int .i64 d) (.int .i64 0) (.int .i64 0) 26))
  have hxy0 : 1 ≤ x * y := by have : 1 * y ≤ x * y := Int.mul_le_mul_of_nonneg_right hx (by omega); omega
  have hdiv : 1099511627776 / y < x ↔ 1099511627776 < x * y := Int.ediv_lt_iff_lt_mul (by omega)
  have hb0 : 0 ≤ 1099511627776 / y := Int.ediv_nonneg (by omega) (by omega)
  have hb1 : 1099511627776 / y ≤ 1099511627776 := Int.ediv_le_self _ (by omega)
  have ha0 : (a == 0) = false := by simpa using (by omega : ¬ a = 0)
  have hc0 : (c == 0) = false := by simpa using (by omega : ¬ c = 0)
  unfold rv at *
  by_cases hD : 1048576 < p * q
  · have HE := hbig (.inl hD)
    clear hbig K4 hdiv
    go_enter Try.func25, Try.ntmps25
    go_wp2_with fail
    refine (K1.out _).mono ?_
    rintro e w1 ⟨rfl, hB⟩
    have B1 := Lib.hid hB
    have HB1 := Lib.hid (HB0.out.trans (hB.mono HB0.out.size))
    have HC1 := Lib.hid (HC0.out.trans (hB.mono HC0.out.size))
    clear hB
    obtain ⟨q1_0, q1_1, q1_2, q1_3, q1_4, q1_5, q1_6, q1_7, q1_8⟩ := box_3 HC1.out
    go_wp2_with fail
    refine (K2.out _).mono ?_
    rintro e w2 ⟨rfl, hB⟩
    have B2 := Lib.hid hB
    have HB2 := Lib.hid (HB1.out.trans (hB.mono HB1.out.size))
    have HC2 := Lib.hid (HC1.out.trans (hB.mono HC1.out.size))
    clear hB
    obtain ⟨q2_0, q2_1, q2_2, q2_3, q2_4, q2_5, q2_6, q2_7, q2_8⟩ := box_3 HC2.out
    go_wp2_with fail
    refine (K3.out _).mono ?_
    rintro e w3 ⟨rfl, hB⟩
    have B3 := Lib.hid hB
    have HB3 := Lib.hid (HB2.out.trans (hB.mono HB2.out.size))
    have HC3 := Lib.hid (HC2.out.trans (hB.mono HC2.out.size))
    clear hB
    obtain ⟨q3_0, q3_1, q3_2, q3_3, q3_4, q3_5, q3_6, q3_7, q3_8⟩ := box_3 HC3.out
    go_wp2
    go_quiet (fail)
    replace HB3 := Lib.hid (below_drewN HB3.out nq)
    replace HC3 := Lib.hid (below_drewN HC3.out nq)
    go_wp2
    all_goals
      exact bodyPost_ret (v := rve (0, 0, 5)) (by simp [results, Try.results25, go_sem, q3_4, q3_5, rve]) rfl ⟨by rw [HE.out], (HB3.out.setCell (p := ⟨w.heap.size + 2, 0, none⟩) (by simp) _).setCell (p := ⟨w.heap.size + 2, 1, none⟩) (by simp) _⟩
  · by_cases hX : 1099511627776 < x * y
    · have HE := hbig (.inr hX)
      have ht := hdiv.2 hX
      clear hbig K4 hdiv
      go_enter Try.func25, Try.ntmps25
      go_wp2_with fail
      refine (K1.out _).mono ?_
      rintro e w1 ⟨rfl, hB⟩
      have B1 := Lib.hid hB
      have HB1 := Lib.hid (HB0.out.trans (hB.mono HB0.out.size))
      have HC1 := Lib.hid (HC0.out.trans (hB.mono HC0.out.size))
      clear hB
      obtain ⟨q1_0, q1_1, q1_2, q1_3, q1_4, q1_5, q1_6, q1_7, q1_8⟩ := box_3 HC1.out
      go_wp2_with fail
      refine (K2.out _).mono ?_
      rintro e w2 ⟨rfl, hB⟩
      have B2 := Lib.hid hB
      have HB2 := Lib.hid (HB1.out.trans (hB.mono HB1.out.size))
      have HC2 := Lib.hid (HC1.out.trans (hB.mono HC1.out.size))
      clear hB
      obtain ⟨q2_0, q2_1, q2_2, q2_3, q2_4, q2_5, q2_6, q2_7, q2_8⟩ := box_3 HC2.out
      go_wp2_with fail
      refine (K3.out _).mono ?_
      rintro e w3 ⟨rfl, hB⟩
      have B3 := Lib.hid hB
      have HB3 := Lib.hid (HB2.out.trans (hB.mono HB2.out.size))
      have HC3 := Lib.hid (HC2.out.trans (hB.mono HC2.out.size))
      clear hB
      obtain ⟨q3_0, q3_1, q3_2, q3_3, q3_4, q3_5, q3_6, q3_7, q3_8⟩ := box_3 HC3.out
      go_wp2
      go_quiet (fail)
      replace HB3 := Lib.hid (below_drewN HB3.out nq)
      replace HC3 := Lib.hid (below_drewN HC3.out nq)
      go_wp2
      all_goals
        exact bodyPost_ret (v := rve (0, 0, 5)) (by simp [results, Try.results25, go_sem, q3_4, q3_5, rve]) rfl ⟨by rw [HE.out], (HB3.out.setCell (p := ⟨w.heap.size + 2, 0, none⟩) (by simp) _).setCell (p := ⟨w.heap.size + 2, 1, none⟩) (by simp) _⟩
    · have k4 := K4.out (by omega) (by omega)
      have K5 := Lib.hid k4
      have ht : x ≤ 1099511627776 / y := by omega
      have hX2 : x * y ≤ 1099511627776 := by omega
      have hD2 : p * q ≤ 1048576 := by omega
      clear hbig K4 hdiv k4 hX hD
      go_enter Try.func25, Try.ntmps25
      go_wp2_with fail
      refine (K1.out _).mono ?_
      rintro e w1 ⟨rfl, hB⟩
      have B1 := Lib.hid hB
      have HB1 := Lib.hid (HB0.out.trans (hB.mono HB0.out.size))
      have HC1 := Lib.hid (HC0.out.trans (hB.mono HC0.out.size))
      clear hB
      obtain ⟨q1_0, q1_1, q1_2, q1_3, q1_4, q1_5, q1_6, q1_7, q1_8⟩ := box_3 HC1.out
      go_wp2_with fail
      refine (K2.out _).mono ?_
      rintro e w2 ⟨rfl, hB⟩
      have B2 := Lib.hid hB
      have HB2 := Lib.hid (HB1.out.trans (hB.mono HB1.out.size))
      have HC2 := Lib.hid (HC1.out.trans (hB.mono HC1.out.size))
      clear hB
      obtain ⟨q2_0, q2_1, q2_2, q2_3, q2_4, q2_5, q2_6, q2_7, q2_8⟩ := box_3 HC2.out
      go_wp2_with fail
      refine (K3.out _).mono ?_
      rintro e w3 ⟨rfl, hB⟩
      have B3 := Lib.hid hB
      have HB3 := Lib.hid (HB2.out.trans (hB.mono HB2.out.size))
      have HC3 := Lib.hid (HC2.out.trans (hB.mono HC2.out.size))
      clear hB
      obtain ⟨q3_0, q3_1, q3_2, q3_3, q3_4, q3_5, q3_6, q3_7, q3_8⟩ := box_3 HC3.out
      go_wp2
      go_quiet (fail)
      replace HB3 := Lib.hid (below_drewN HB3.out nq)
      replace HC3 := Lib.hid (below_drewN HC3.out nq)
      go_wp2_with fail
      all_goals
        go_wp2_with fail
        refine (K5.out _).mono ?_
        rintro e w4 ⟨rfl, hB⟩
        have B4 := Lib.hid hB
        have HB4 := Lib.hid (HB3.out.trans (hB.mono HB3.out.size))
        have HC4 := Lib.hid (HC3.out.trans (hB.mono HC3.out.size))
        clear hB
        obtain ⟨q4_0, q4_1, q4_2, q4_3, q4_4, q4_5, q4_6, q4_7, q4_8⟩ := box_3 HC4.out
        unfold rve
        go_wp2
        exact bodyPost_ret (v := rve R) (by simp [results, Try.results25, go_sem, q4_4, q4_5, rve]) rfl ⟨rfl, (HB4.out.setCell (p := ⟨w.heap.size + 2, 0, none⟩) (by simp) _).setCell (p := ⟨w.heap.size + 2, 1, none⟩) (by simp) _⟩

set_option maxHeartbeats 2000000 in
set_option maxRecDepth 100000 in
theorem mul_pn (a b c d G H x y p q : Int) (R : Int × Int × Int) (w : World) (hsa : 0 < a) (hsc : c < 0) (K1 : Hid (∀ w, Calls Try.prog 29 #[rv a b, rv c d] w fun e w' => e = .returned (.int .i64 0) ∧ Below w.heap.size w w'))
    (K2 : Hid (∀ w, Calls Try.prog 38 #[.int .i64 a, .int .i64 d] w fun e w' => e = .returned (.int .i64 G) ∧ Below w.heap.size w w'))
    (K3 : Hid (∀ w, Calls Try.prog 38 #[.int .i64 c, .int .i64 b] w fun e w' => e = .returned (.int .i64 H) ∧ Below w.heap.size w w'))
    (hG : 1 ≤ G) (hH : 1 ≤ H) (hx : 1 ≤ x) (hx2 : x ≤ 1099511627776) (hy : 1 ≤ y) (hy2 : y ≤ 1099511627776) (hp : 1 ≤ p) (hp2 : p ≤ 1048576) (hq : 1 ≤ q) (hq2 : q ≤ 1048576) (hpq : 1 ≤ p * q) (hpq2 : p * q ≤ 1099511627776)
    (e1 : a.tdiv G = x) (e2 : c.tdiv H = -y) (e3 : b.tdiv H = p) (e4 : d.tdiv G = q) (e5 : b / H = p) (e6 : d / G = q) (e7 : a / G = x)
    (hbig : 1048576 < p * q ∨ 1099511627776 < x * y → Hid (R = (0, 0, 5)))
    (K4 : Hid (p * q ≤ 1048576 → x * y ≤ 1099511627776 → ∀ w, Calls Try.prog 37 #[.int .i64 (-(x * y)), .int .i64 (p * q)] w fun e w' => e = .returned (rve R) ∧ Below w.heap.size w w')) :
    Calls Try.prog 25 #[rv a b, rv c d] w fun e w' => e = .returned (rve R) ∧ Below w.heap.size w w' := by
  have HB0 := Lib.hid ((((Below.refl w.heap.size w).alloc (Nat.le_refl _) (Obj.cells #[.int .i64 a, .int .i64 b] 26)).alloc (by simp) (Obj.cells #[.int .i64 c, .int .i64 d] 26)).alloc (by simp; omega) (Obj.cells #[.int .i64 0, .int .i64 0] 26))
  have HC0 := Lib.hid (Below.refl (three w (.int .i64 a) (.int .i64 b) (.int .i64 c) (.int .i64 d) (.int .i64 0) (.int .i64 0) 26).heap.size (three w (.int .i64 a) (.int .i64 b) (.int .i64 c) (.int .i64 d) (.int .i64 0) (.int .i64 0) 26))
  have eM : x * -y = -(x * y) := Int.mul_neg x y
  have hxy0 : 1 ≤ x * y := by have : 1 * y ≤ x * y := Int.mul_le_mul_of_nonneg_right hx (by omega); omega
  have hdiv : 1099511627776 / y < x ↔ 1099511627776 < x * y := Int.ediv_lt_iff_lt_mul (by omega)
  have hb0 : 0 ≤ 1099511627776 / y := Int.ediv_nonneg (by omega) (by omega)
  have hb1 : 1099511627776 / y ≤ 1099511627776 := Int.ediv_le_self _ (by omega)
  have ha0 : (a == 0) = false := by simpa using (by omega : ¬ a = 0)
  have hc0 : (c == 0) = false := by simpa using (by omega : ¬ c = 0)
  unfold rv at *
  by_cases hD : 1048576 < p * q
  · have HE := hbig (.inl hD)
    clear hbig K4 hdiv
    go_enter Try.func25, Try.ntmps25
    go_wp2_with fail
    refine (K1.out _).mono ?_
    rintro e w1 ⟨rfl, hB⟩
    have B1 := Lib.hid hB
    have HB1 := Lib.hid (HB0.out.trans (hB.mono HB0.out.size))
    have HC1 := Lib.hid (HC0.out.trans (hB.mono HC0.out.size))
    clear hB
    obtain ⟨q1_0, q1_1, q1_2, q1_3, q1_4, q1_5, q1_6, q1_7, q1_8⟩ := box_3 HC1.out
    go_wp2_with fail
    refine (K2.out _).mono ?_
    rintro e w2 ⟨rfl, hB⟩
    have B2 := Lib.hid hB
    have HB2 := Lib.hid (HB1.out.trans (hB.mono HB1.out.size))
    have HC2 := Lib.hid (HC1.out.trans (hB.mono HC1.out.size))
    clear hB
    obtain ⟨q2_0, q2_1, q2_2, q2_3, q2_4, q2_5, q2_6, q2_7, q2_8⟩ := box_3 HC2.out
    go_wp2_with fail
    refine (K3.out _).mono ?_
    rintro e w3 ⟨rfl, hB⟩
    have B3 := Lib.hid hB
    have HB3 := Lib.hid (HB2.out.trans (hB.mono HB2.out.size))
    have HC3 := Lib.hid (HC2.out.trans (hB.mono HC2.out.size))
    clear hB
    obtain ⟨q3_0, q3_1, q3_2, q3_3, q3_4, q3_5, q3_6, q3_7, q3_8⟩ := box_3 HC3.out
    go_wp2
    go_quiet (fail)
    replace HB3 := Lib.hid (below_drewN HB3.out nq)
    replace HC3 := Lib.hid (below_drewN HC3.out nq)
    go_wp2
    all_goals
      exact bodyPost_ret (v := rve (0, 0, 5)) (by simp [results, Try.results25, go_sem, q3_4, q3_5, rve]) rfl ⟨by rw [HE.out], (HB3.out.setCell (p := ⟨w.heap.size + 2, 0, none⟩) (by simp) _).setCell (p := ⟨w.heap.size + 2, 1, none⟩) (by simp) _⟩
  · by_cases hX : 1099511627776 < x * y
    · have HE := hbig (.inr hX)
      have ht := hdiv.2 hX
      clear hbig K4 hdiv
      go_enter Try.func25, Try.ntmps25
      go_wp2_with fail
      refine (K1.out _).mono ?_
      rintro e w1 ⟨rfl, hB⟩
      have B1 := Lib.hid hB
      have HB1 := Lib.hid (HB0.out.trans (hB.mono HB0.out.size))
      have HC1 := Lib.hid (HC0.out.trans (hB.mono HC0.out.size))
      clear hB
      obtain ⟨q1_0, q1_1, q1_2, q1_3, q1_4, q1_5, q1_6, q1_7, q1_8⟩ := box_3 HC1.out
      go_wp2_with fail
      refine (K2.out _).mono ?_
      rintro e w2 ⟨rfl, hB⟩
      have B2 := Lib.hid hB
      have HB2 := Lib.hid (HB1.out.trans (hB.mono HB1.out.size))
      have HC2 := Lib.hid (HC1.out.trans (hB.mono HC1.out.size))
      clear hB
      obtain ⟨q2_0, q2_1, q2_2, q2_3, q2_4, q2_5, q2_6, q2_7, q2_8⟩ := box_3 HC2.out
      go_wp2_with fail
      refine (K3.out _).mono ?_
      rintro e w3 ⟨rfl, hB⟩
      have B3 := Lib.hid hB
      have HB3 := Lib.hid (HB2.out.trans (hB.mono HB2.out.size))
      have HC3 := Lib.hid (HC2.out.trans (hB.mono HC2.out.size))
      clear hB
      obtain ⟨q3_0, q3_1, q3_2, q3_3, q3_4, q3_5, q3_6, q3_7, q3_8⟩ := box_3 HC3.out
      go_wp2
      go_quiet (fail)
      replace HB3 := Lib.hid (below_drewN HB3.out nq)
      replace HC3 := Lib.hid (below_drewN HC3.out nq)
      go_wp2
      all_goals
        exact bodyPost_ret (v := rve (0, 0, 5)) (by simp [results, Try.results25, go_sem, q3_4, q3_5, rve]) rfl ⟨by rw [HE.out], (HB3.out.setCell (p := ⟨w.heap.size + 2, 0, none⟩) (by simp) _).setCell (p := ⟨w.heap.size + 2, 1, none⟩) (by simp) _⟩
    · have k4 := K4.out (by omega) (by omega)
      have K5 := Lib.hid k4
      have ht : x ≤ 1099511627776 / y := by omega
      have hX2 : x * y ≤ 1099511627776 := by omega
      have hD2 : p * q ≤ 1048576 := by omega
      clear hbig K4 hdiv k4 hX hD
      go_enter Try.func25, Try.ntmps25
      go_wp2_with fail
      refine (K1.out _).mono ?_
      rintro e w1 ⟨rfl, hB⟩
      have B1 := Lib.hid hB
      have HB1 := Lib.hid (HB0.out.trans (hB.mono HB0.out.size))
      have HC1 := Lib.hid (HC0.out.trans (hB.mono HC0.out.size))
      clear hB
      obtain ⟨q1_0, q1_1, q1_2, q1_3, q1_4, q1_5, q1_6, q1_7, q1_8⟩ := box_3 HC1.out
      go_wp2_with fail
      refine (K2.out _).mono ?_
      rintro e w2 ⟨rfl, hB⟩
      have B2 := Lib.hid hB
      have HB2 := Lib.hid (HB1.out.trans (hB.mono HB1.out.size))
      have HC2 := Lib.hid (HC1.out.trans (hB.mono HC1.out.size))
      clear hB
      obtain ⟨q2_0, q2_1, q2_2, q2_3, q2_4, q2_5, q2_6, q2_7, q2_8⟩ := box_3 HC2.out
      go_wp2_with fail
      refine (K3.out _).mono ?_
      rintro e w3 ⟨rfl, hB⟩
      have B3 := Lib.hid hB
      have HB3 := Lib.hid (HB2.out.trans (hB.mono HB2.out.size))
      have HC3 := Lib.hid (HC2.out.trans (hB.mono HC2.out.size))
      clear hB
      obtain ⟨q3_0, q3_1, q3_2, q3_3, q3_4, q3_5, q3_6, q3_7, q3_8⟩ := box_3 HC3.out
      go_wp2
      go_quiet (fail)
      replace HB3 := Lib.hid (below_drewN HB3.out nq)
      replace HC3 := Lib.hid (below_drewN HC3.out nq)
      go_wp2_with fail
      all_goals
        go_wp2_with fail
        refine (K5.out _).mono ?_
        rintro e w4 ⟨rfl, hB⟩
        have B4 := Lib.hid hB
        have HB4 := Lib.hid (HB3.out.trans (hB.mono HB3.out.size))
        have HC4 := Lib.hid (HC3.out.trans (hB.mono HC3.out.size))
        clear hB
        obtain ⟨q4_0, q4_1, q4_2, q4_3, q4_4, q4_5, q4_6, q4_7, q4_8⟩ := box_3 HC4.out
        unfold rve
        go_wp2
        exact bodyPost_ret (v := rve R) (by simp [results, Try.results25, go_sem, q4_4, q4_5, rve]) rfl ⟨rfl, (HB4.out.setCell (p := ⟨w.heap.size + 2, 0, none⟩) (by simp) _).setCell (p := ⟨w.heap.size + 2, 1, none⟩) (by simp) _⟩

set_option maxHeartbeats 2000000 in
set_option maxRecDepth 100000 in
theorem mul_np (a b c d G H x y p q : Int) (R : Int × Int × Int) (w : World) (hsa : a < 0) (hsc : 0 < c) (K1 : Hid (∀ w, Calls Try.prog 29 #[rv a b, rv c d] w fun e w' => e = .returned (.int .i64 0) ∧ Below w.heap.size w w'))
    (K2 : Hid (∀ w, Calls Try.prog 38 #[.int .i64 a, .int .i64 d] w fun e w' => e = .returned (.int .i64 G) ∧ Below w.heap.size w w'))
    (K3 : Hid (∀ w, Calls Try.prog 38 #[.int .i64 c, .int .i64 b] w fun e w' => e = .returned (.int .i64 H) ∧ Below w.heap.size w w'))
    (hG : 1 ≤ G) (hH : 1 ≤ H) (hx : 1 ≤ x) (hx2 : x ≤ 1099511627776) (hy : 1 ≤ y) (hy2 : y ≤ 1099511627776) (hp : 1 ≤ p) (hp2 : p ≤ 1048576) (hq : 1 ≤ q) (hq2 : q ≤ 1048576) (hpq : 1 ≤ p * q) (hpq2 : p * q ≤ 1099511627776)
    (e1 : a.tdiv G = -x) (e2 : c.tdiv H = y) (e3 : b.tdiv H = p) (e4 : d.tdiv G = q) (e5 : b / H = p) (e6 : d / G = q) (e8 : c / H = y)
    (hbig : 1048576 < p * q ∨ 1099511627776 < x * y → Hid (R = (0, 0, 5)))
    (K4 : Hid (p * q ≤ 1048576 → x * y ≤ 1099511627776 → ∀ w, Calls Try.prog 37 #[.int .i64 (-(x * y)), .int .i64 (p * q)] w fun e w' => e = .returned (rve R) ∧ Below w.heap.size w w')) :
    Calls Try.prog 25 #[rv a b, rv c d] w fun e w' => e = .returned (rve R) ∧ Below w.heap.size w w' := by
  have HB0 := Lib.hid ((((Below.refl w.heap.size w).alloc (Nat.le_refl _) (Obj.cells #[.int .i64 a, .int .i64 b] 26)).alloc (by simp) (Obj.cells #[.int .i64 c, .int .i64 d] 26)).alloc (by simp; omega) (Obj.cells #[.int .i64 0, .int .i64 0] 26))
  have HC0 := Lib.hid (Below.refl (three w (.int .i64 a) (.int .i64 b) (.int .i64 c) (.int .i64 d) (.int .i64 0) (.int .i64 0) 26).heap.size (three w (.int .i64 a) (.int .i64 b) (.int .i64 c) (.int .i64 d) (.int .i64 0) (.int .i64 0) 26))
  have eM : -x * y = -(x * y) := Int.neg_mul x y
  have hxy0 : 1 ≤ x * y := by have : 1 * y ≤ x * y := Int.mul_le_mul_of_nonneg_right hx (by omega); omega
  have hdiv : 1099511627776 / y < x ↔ 1099511627776 < x * y := Int.ediv_lt_iff_lt_mul (by omega)
  have hb0 : 0 ≤ 1099511627776 / y := Int.ediv_nonneg (by omega) (by omega)
  have hb1 : 1099511627776 / y ≤ 1099511627776 := Int.ediv_le_self _ (by omega)
  have ha0 : (a == 0) = false := by simpa using (by omega : ¬ a = 0)
  have hc0 : (c == 0) = false := by simpa using (by omega : ¬ c = 0)
  unfold rv at *
  by_cases hD : 1048576 < p * q
  · have HE := hbig (.inl hD)
    clear hbig K4 hdiv
    go_enter Try.func25, Try.ntmps25
    go_wp2_with fail
    refine (K1.out _).mono ?_
    rintro e w1 ⟨rfl, hB⟩
    have B1 := Lib.hid hB
    have HB1 := Lib.hid (HB0.out.trans (hB.mono HB0.out.size))
    have HC1 := Lib.hid (HC0.out.trans (hB.mono HC0.out.size))
    clear hB
    obtain ⟨q1_0, q1_1, q1_2, q1_3, q1_4, q1_5, q1_6, q1_7, q1_8⟩ := box_3 HC1.out
    go_wp2_with fail
    refine (K2.out _).mono ?_
    rintro e w2 ⟨rfl, hB⟩
    have B2 := Lib.hid hB
    have HB2 := Lib.hid (HB1.out.trans (hB.mono HB1.out.size))
    have HC2 := Lib.hid (HC1.out.trans (hB.mono HC1.out.size))
    clear hB
    obtain ⟨q2_0, q2_1, q2_2, q2_3, q2_4, q2_5, q2_6, q2_7, q2_8⟩ := box_3 HC2.out
    go_wp2_with fail
    refine (K3.out _).mono ?_
    rintro e w3 ⟨rfl, hB⟩
    have B3 := Lib.hid hB
    have HB3 := Lib.hid (HB2.out.trans (hB.mono HB2.out.size))
    have HC3 := Lib.hid (HC2.out.trans (hB.mono HC2.out.size))
    clear hB
    obtain ⟨q3_0, q3_1, q3_2, q3_3, q3_4, q3_5, q3_6, q3_7, q3_8⟩ := box_3 HC3.out
    go_wp2
    go_quiet (fail)
    replace HB3 := Lib.hid (below_drewN HB3.out nq)
    replace HC3 := Lib.hid (below_drewN HC3.out nq)
    go_wp2
    all_goals
      exact bodyPost_ret (v := rve (0, 0, 5)) (by simp [results, Try.results25, go_sem, q3_4, q3_5, rve]) rfl ⟨by rw [HE.out], (HB3.out.setCell (p := ⟨w.heap.size + 2, 0, none⟩) (by simp) _).setCell (p := ⟨w.heap.size + 2, 1, none⟩) (by simp) _⟩
  · by_cases hX : 1099511627776 < x * y
    · have HE := hbig (.inr hX)
      have ht := hdiv.2 hX
      clear hbig K4 hdiv
      go_enter Try.func25, Try.ntmps25
      go_wp2_with fail
      refine (K1.out _).mono ?_
      rintro e w1 ⟨rfl, hB⟩
      have B1 := Lib.hid hB
      have HB1 := Lib.hid (HB0.out.trans (hB.mono HB0.out.size))
      have HC1 := Lib.hid (HC0.out.trans (hB.mono HC0.out.size))
      clear hB
      obtain ⟨q1_0, q1_1, q1_2, q1_3, q1_4, q1_5, q1_6, q1_7, q1_8⟩ := box_3 HC1.out
      go_wp2_with fail
      refine (K2.out _).mono ?_
      rintro e w2 ⟨rfl, hB⟩
      have B2 := Lib.hid hB
      have HB2 := Lib.hid (HB1.out.trans (hB.mono HB1.out.size))
      have HC2 := Lib.hid (HC1.out.trans (hB.mono HC1.out.size))
      clear hB
      obtain ⟨q2_0, q2_1, q2_2, q2_3, q2_4, q2_5, q2_6, q2_7, q2_8⟩ := box_3 HC2.out
      go_wp2_with fail
      refine (K3.out _).mono ?_
      rintro e w3 ⟨rfl, hB⟩
      have B3 := Lib.hid hB
      have HB3 := Lib.hid (HB2.out.trans (hB.mono HB2.out.size))
      have HC3 := Lib.hid (HC2.out.trans (hB.mono HC2.out.size))
      clear hB
      obtain ⟨q3_0, q3_1, q3_2, q3_3, q3_4, q3_5, q3_6, q3_7, q3_8⟩ := box_3 HC3.out
      go_wp2
      go_quiet (fail)
      replace HB3 := Lib.hid (below_drewN HB3.out nq)
      replace HC3 := Lib.hid (below_drewN HC3.out nq)
      go_wp2
      all_goals
        exact bodyPost_ret (v := rve (0, 0, 5)) (by simp [results, Try.results25, go_sem, q3_4, q3_5, rve]) rfl ⟨by rw [HE.out], (HB3.out.setCell (p := ⟨w.heap.size + 2, 0, none⟩) (by simp) _).setCell (p := ⟨w.heap.size + 2, 1, none⟩) (by simp) _⟩
    · have k4 := K4.out (by omega) (by omega)
      have K5 := Lib.hid k4
      have ht : x ≤ 1099511627776 / y := by omega
      have hX2 : x * y ≤ 1099511627776 := by omega
      have hD2 : p * q ≤ 1048576 := by omega
      clear hbig K4 hdiv k4 hX hD
      go_enter Try.func25, Try.ntmps25
      go_wp2_with fail
      refine (K1.out _).mono ?_
      rintro e w1 ⟨rfl, hB⟩
      have B1 := Lib.hid hB
      have HB1 := Lib.hid (HB0.out.trans (hB.mono HB0.out.size))
      have HC1 := Lib.hid (HC0.out.trans (hB.mono HC0.out.size))
      clear hB
      obtain ⟨q1_0, q1_1, q1_2, q1_3, q1_4, q1_5, q1_6, q1_7, q1_8⟩ := box_3 HC1.out
      go_wp2_with fail
      refine (K2.out _).mono ?_
      rintro e w2 ⟨rfl, hB⟩
      have B2 := Lib.hid hB
      have HB2 := Lib.hid (HB1.out.trans (hB.mono HB1.out.size))
      have HC2 := Lib.hid (HC1.out.trans (hB.mono HC1.out.size))
      clear hB
      obtain ⟨q2_0, q2_1, q2_2, q2_3, q2_4, q2_5, q2_6, q2_7, q2_8⟩ := box_3 HC2.out
      go_wp2_with fail
      refine (K3.out _).mono ?_
      rintro e w3 ⟨rfl, hB⟩
      have B3 := Lib.hid hB
      have HB3 := Lib.hid (HB2.out.trans (hB.mono HB2.out.size))
      have HC3 := Lib.hid (HC2.out.trans (hB.mono HC2.out.size))
      clear hB
      obtain ⟨q3_0, q3_1, q3_2, q3_3, q3_4, q3_5, q3_6, q3_7, q3_8⟩ := box_3 HC3.out
      go_wp2
      go_quiet (fail)
      replace HB3 := Lib.hid (below_drewN HB3.out nq)
      replace HC3 := Lib.hid (below_drewN HC3.out nq)
      go_wp2_with fail
      all_goals
        go_wp2_with fail
        refine (K5.out _).mono ?_
        rintro e w4 ⟨rfl, hB⟩
        have B4 := Lib.hid hB
        have HB4 := Lib.hid (HB3.out.trans (hB.mono HB3.out.size))
        have HC4 := Lib.hid (HC3.out.trans (hB.mono HC3.out.size))
        clear hB
        obtain ⟨q4_0, q4_1, q4_2, q4_3, q4_4, q4_5, q4_6, q4_7, q4_8⟩ := box_3 HC4.out
        unfold rve
        go_wp2
        exact bodyPost_ret (v := rve R) (by simp [results, Try.results25, go_sem, q4_4, q4_5, rve]) rfl ⟨rfl, (HB4.out.setCell (p := ⟨w.heap.size + 2, 0, none⟩) (by simp) _).setCell (p := ⟨w.heap.size + 2, 1, none⟩) (by simp) _⟩

set_option maxHeartbeats 2000000 in
set_option maxRecDepth 100000 in
theorem mul_nn (a b c d G H x y p q : Int) (R : Int × Int × Int) (w : World) (hsa : a < 0) (hsc : c < 0) (K1 : Hid (∀ w, Calls Try.prog 29 #[rv a b, rv c d] w fun e w' => e = .returned (.int .i64 0) ∧ Below w.heap.size w w'))
    (K2 : Hid (∀ w, Calls Try.prog 38 #[.int .i64 a, .int .i64 d] w fun e w' => e = .returned (.int .i64 G) ∧ Below w.heap.size w w'))
    (K3 : Hid (∀ w, Calls Try.prog 38 #[.int .i64 c, .int .i64 b] w fun e w' => e = .returned (.int .i64 H) ∧ Below w.heap.size w w'))
    (hG : 1 ≤ G) (hH : 1 ≤ H) (hx : 1 ≤ x) (hx2 : x ≤ 1099511627776) (hy : 1 ≤ y) (hy2 : y ≤ 1099511627776) (hp : 1 ≤ p) (hp2 : p ≤ 1048576) (hq : 1 ≤ q) (hq2 : q ≤ 1048576) (hpq : 1 ≤ p * q) (hpq2 : p * q ≤ 1099511627776)
    (e1 : a.tdiv G = -x) (e2 : c.tdiv H = -y) (e3 : b.tdiv H = p) (e4 : d.tdiv G = q) (e5 : b / H = p) (e6 : d / G = q)
    (hbig : 1048576 < p * q ∨ 1099511627776 < x * y → Hid (R = (0, 0, 5)))
    (K4 : Hid (p * q ≤ 1048576 → x * y ≤ 1099511627776 → ∀ w, Calls Try.prog 37 #[.int .i64 (x * y), .int .i64 (p * q)] w fun e w' => e = .returned (rve R) ∧ Below w.heap.size w w')) :
    Calls Try.prog 25 #[rv a b, rv c d] w fun e w' => e = .returned (rve R) ∧ Below w.heap.size w w' := by
  have HB0 := Lib.hid ((((Below.refl w.heap.size w).alloc (Nat.le_refl _) (Obj.cells #[.int .i64 a, .int .i64 b] 26)).alloc (by simp) (Obj.cells #[.int .i64 c, .int .i64 d] 26)).alloc (by simp; omega) (Obj.cells #[.int .i64 0, .int .i64 0] 26))
  have HC0 := Lib.hid (Below.refl (three w (.int .i64 a) (.int .i64 b) (.int .i64 c) (.int .i64 d) (.int .i64 0) (.int .i64 0) 26).heap.size (three w (.int .i64 a) (.int .i64 b) (.int .i64 c) (.int .i64 d) (.int .i64 0) (.int .i64 0) 26))
  have eM : -x * -y = x * y := Int.neg_mul_neg x y
  have hxy0 : 1 ≤ x * y := by have : 1 * y ≤ x * y := Int.mul_le_mul_of_nonneg_right hx (by omega); omega
  have hdiv : 1099511627776 / y < x ↔ 1099511627776 < x * y := Int.ediv_lt_iff_lt_mul (by omega)
  have hb0 : 0 ≤ 1099511627776 / y := Int.ediv_nonneg (by omega) (by omega)
  have hb1 : 1099511627776 / y ≤ 1099511627776 := Int.ediv_le_self _ (by omega)
  have ha0 : (a == 0) = false := by simpa using (by omega : ¬ a = 0)
  have hc0 : (c == 0) = false := by simpa using (by omega : ¬ c = 0)
  unfold rv at *
  by_cases hD : 1048576 < p * q
  · have HE := hbig (.inl hD)
    clear hbig K4 hdiv
    go_enter Try.func25, Try.ntmps25
    go_wp2_with fail
    refine (K1.out _).mono ?_
    rintro e w1 ⟨rfl, hB⟩
    have B1 := Lib.hid hB
    have HB1 := Lib.hid (HB0.out.trans (hB.mono HB0.out.size))
    have HC1 := Lib.hid (HC0.out.trans (hB.mono HC0.out.size))
    clear hB
    obtain ⟨q1_0, q1_1, q1_2, q1_3, q1_4, q1_5, q1_6, q1_7, q1_8⟩ := box_3 HC1.out
    go_wp2_with fail
    refine (K2.out _).mono ?_
    rintro e w2 ⟨rfl, hB⟩
    have B2 := Lib.hid hB
    have HB2 := Lib.hid (HB1.out.trans (hB.mono HB1.out.size))
    have HC2 := Lib.hid (HC1.out.trans (hB.mono HC1.out.size))
    clear hB
    obtain ⟨q2_0, q2_1, q2_2, q2_3, q2_4, q2_5, q2_6, q2_7, q2_8⟩ := box_3 HC2.out
    go_wp2_with fail
    refine (K3.out _).mono ?_
    rintro e w3 ⟨rfl, hB⟩
    have B3 := Lib.hid hB
    have HB3 := Lib.hid (HB2.out.trans (hB.mono HB2.out.size))
    have HC3 := Lib.hid (HC2.out.trans (hB.mono HC2.out.size))
    clear hB
    obtain ⟨q3_0, q3_1, q3_2, q3_3, q3_4, q3_5, q3_6, q3_7, q3_8⟩ := box_3 HC3.out
    go_wp2
    go_quiet (fail)
    replace HB3 := Lib.hid (below_drewN HB3.out nq)
    replace HC3 := Lib.hid (below_drewN HC3.out nq)
    go_wp2
    all_goals
      exact bodyPost_ret (v := rve (0, 0, 5)) (by simp [results, Try.results25, go_sem, q3_4, q3_5, rve]) rfl ⟨by rw [HE.out], (HB3.out.setCell (p := ⟨w.heap.size + 2, 0, none⟩) (by simp) _).setCell (p := ⟨w.heap.size + 2, 1, none⟩) (by simp) _⟩
  · by_cases hX : 1099511627776 < x * y
    · have HE := hbig (.inr hX)
      have ht := hdiv.2 hX
      clear hbig K4 hdiv
      go_enter Try.func25, Try.ntmps25
      go_wp2_with fail
      refine (K1.out _).mono ?_
      rintro e w1 ⟨rfl, hB⟩
      have B1 := Lib.hid hB
      have HB1 := Lib.hid (HB0.out.trans (hB.mono HB0.out.size))
      have HC1 := Lib.hid (HC0.out.trans (hB.mono HC0.out.size))
      clear hB
      obtain ⟨q1_0, q1_1, q1_2, q1_3, q1_4, q1_5, q1_6, q1_7, q1_8⟩ := box_3 HC1.out
      go_wp2_with fail
      refine (K2.out _).mono ?_
      rintro e w2 ⟨rfl, hB⟩
      have B2 := Lib.hid hB
      have HB2 := Lib.hid (HB1.out.trans (hB.mono HB1.out.size))
      have HC2 := Lib.hid (HC1.out.trans (hB.mono HC1.out.size))
      clear hB
      obtain ⟨q2_0, q2_1, q2_2, q2_3, q2_4, q2_5, q2_6, q2_7, q2_8⟩ := box_3 HC2.out
      go_wp2_with fail
      refine (K3.out _).mono ?_
      rintro e w3 ⟨rfl, hB⟩
      have B3 := Lib.hid hB
      have HB3 := Lib.hid (HB2.out.trans (hB.mono HB2.out.size))
      have HC3 := Lib.hid (HC2.out.trans (hB.mono HC2.out.size))
      clear hB
      obtain ⟨q3_0, q3_1, q3_2, q3_3, q3_4, q3_5, q3_6, q3_7, q3_8⟩ := box_3 HC3.out
      go_wp2
      go_quiet (fail)
      replace HB3 := Lib.hid (below_drewN HB3.out nq)
      replace HC3 := Lib.hid (below_drewN HC3.out nq)
      go_wp2
      all_goals
        exact bodyPost_ret (v := rve (0, 0, 5)) (by simp [results, Try.results25, go_sem, q3_4, q3_5, rve]) rfl ⟨by rw [HE.out], (HB3.out.setCell (p := ⟨w.heap.size + 2, 0, none⟩) (by simp) _).setCell (p := ⟨w.heap.size + 2, 1, none⟩) (by simp) _⟩
    · have k4 := K4.out (by omega) (by omega)
      have K5 := Lib.hid k4
      have ht : x ≤ 1099511627776 / y := by omega
      have hX2 : x * y ≤ 1099511627776 := by omega
      have hD2 : p * q ≤ 1048576 := by omega
      clear hbig K4 hdiv k4 hX hD
      go_enter Try.func25, Try.ntmps25
      go_wp2_with fail
      refine (K1.out _).mono ?_
      rintro e w1 ⟨rfl, hB⟩
      have B1 := Lib.hid hB
      have HB1 := Lib.hid (HB0.out.trans (hB.mono HB0.out.size))
      have HC1 := Lib.hid (HC0.out.trans (hB.mono HC0.out.size))
      clear hB
      obtain ⟨q1_0, q1_1, q1_2, q1_3, q1_4, q1_5, q1_6, q1_7, q1_8⟩ := box_3 HC1.out
      go_wp2_with fail
      refine (K2.out _).mono ?_
      rintro e w2 ⟨rfl, hB⟩
      have B2 := Lib.hid hB
      have HB2 := Lib.hid (HB1.out.trans (hB.mono HB1.out.size))
      have HC2 := Lib.hid (HC1.out.trans (hB.mono HC1.out.size))
      clear hB
      obtain ⟨q2_0, q2_1, q2_2, q2_3, q2_4, q2_5, q2_6, q2_7, q2_8⟩ := box_3 HC2.out
      go_wp2_with fail
      refine (K3.out _).mono ?_
      rintro e w3 ⟨rfl, hB⟩
      have B3 := Lib.hid hB
      have HB3 := Lib.hid (HB2.out.trans (hB.mono HB2.out.size))
      have HC3 := Lib.hid (HC2.out.trans (hB.mono HC2.out.size))
      clear hB
      obtain ⟨q3_0, q3_1, q3_2, q3_3, q3_4, q3_5, q3_6, q3_7, q3_8⟩ := box_3 HC3.out
      go_wp2
      go_quiet (fail)
      replace HB3 := Lib.hid (below_drewN HB3.out nq)
      replace HC3 := Lib.hid (below_drewN HC3.out nq)
      go_wp2_with fail
      all_goals
        go_wp2_with fail
        refine (K5.out _).mono ?_
        rintro e w4 ⟨rfl, hB⟩
        have B4 := Lib.hid hB
        have HB4 := Lib.hid (HB3.out.trans (hB.mono HB3.out.size))
        have HC4 := Lib.hid (HC3.out.trans (hB.mono HC3.out.size))
        clear hB
        obtain ⟨q4_0, q4_1, q4_2, q4_3, q4_4, q4_5, q4_6, q4_7, q4_8⟩ := box_3 HC4.out
        unfold rve
        go_wp2
        exact bodyPost_ret (v := rve R) (by simp [results, Try.results25, go_sem, q4_4, q4_5, rve]) rfl ⟨rfl, (HB4.out.setCell (p := ⟨w.heap.size + 2, 0, none⟩) (by simp) _).setCell (p := ⟨w.heap.size + 2, 1, none⟩) (by simp) _⟩

end Go.Proofs.Ytloddocibfbkpaa
