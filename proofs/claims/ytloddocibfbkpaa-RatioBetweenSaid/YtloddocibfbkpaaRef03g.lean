/- Contracts of priorartref03: Inverse, Div. -/
import Derived.Test.YtloddocibfbkpaaRef03f
namespace Go.Proofs.Ytloddocibfbkpaa
open Go.RowKit Go.Shelf

set_option maxHeartbeats 1000000 in
set_option maxRecDepth 100000 in
theorem inverse_neg (n d : Int) (w : World) (h1 : -9223372036854775807 ≤ n) (h2 : n < 0) (h3 : -9223372036854775807 ≤ d) (h4 : d ≤ 9223372036854775807) :
    Calls Try.prog 43 #[rv n d] w fun e w' => e = .returned (rv (-d) (-n)) ∧ Below w.heap.size w w' := by
  unfold rv
  go_enter Try.func43, Try.ntmps43
  go_wp2
  exact bodyPost_ret (v := rv (-d) (-n)) (by simp [results, Try.results43, go_sem, rv]) rfl ⟨rfl, ((Below.refl w.heap.size w).alloc (Nat.le_refl _) _).alloc (by simp) _⟩

set_option maxHeartbeats 1000000 in
set_option maxRecDepth 100000 in
theorem inverse_pos (n d : Int) (w : World) (h2 : 0 < n) :
    Calls Try.prog 43 #[rv n d] w fun e w' => e = .returned (rv d n) ∧ Below w.heap.size w w' := by
  unfold rv
  go_enter Try.func43, Try.ntmps43
  go_wp2
  exact bodyPost_ret (v := rv d n) (by simp [results, Try.results43, go_sem, rv]) rfl ⟨rfl, ((Below.refl w.heap.size w).alloc (Nat.le_refl _) _).alloc (by simp) _⟩

set_option maxHeartbeats 2000000 in
set_option maxRecDepth 100000 in
theorem div_pp (a b c d u v G H x y s t : Int) (R : Int × Int × Int) (w : World) (ha : (a == 0) = false) (hc : (c == 0) = false)
    (K1 : Hid (∀ w, Calls Try.prog 29 #[rv a b, rv c d] w fun e w' => e = .returned (.int .i64 0) ∧ Below w.heap.size w w'))
    (K2 : Hid (∀ w, Calls Try.prog 43 #[rv c d] w fun e w' => e = .returned (rv u v) ∧ Below w.heap.size w w'))
    (K3 : Hid (∀ w, Calls Try.prog 38 #[.int .i64 a, .int .i64 v] w fun e w' => e = .returned (.int .i64 G) ∧ Below w.heap.size w w'))
    (K4 : Hid (∀ w, Calls Try.prog 38 #[.int .i64 u, .int .i64 b] w fun e w' => e = .returned (.int .i64 H) ∧ Below w.heap.size w w'))
    (hG : 1 ≤ G) (hH : 1 ≤ H) (hx : 1 ≤ x) (hx2 : x ≤ 1099511627776) (hy : 1 ≤ y) (hy2 : y ≤ 1099511627776) (hs : 1 ≤ s) (hs2 : s ≤ 1048576) (ht : 1 ≤ t) (ht2 : t ≤ 1099511627776)
    (e1 : a.tdiv G = x) (e2 : u.tdiv H = y) (e3 : b.tdiv H = s) (e4 : v.tdiv G = t)
    (hbig : 1048576 < s * t ∨ 1099511627776 < x * y → Hid (R = (0, 0, 5)))
    (K5 : Hid (s * t ≤ 1048576 → x * y ≤ 1099511627776 → ∀ w, Calls Try.prog 37 #[.int .i64 (x * y), .int .i64 (s * t)] w fun e w' => e = .returned (rve R) ∧ Below w.heap.size w w')) :
    Calls Try.prog 27 #[rv a b, rv c d] w fun e w' => e = .returned (rve R) ∧ Below w.heap.size w w' := by
  have HB0 := Lib.hid ((((Below.refl w.heap.size w).alloc (Nat.le_refl _) (Obj.cells #[.int .i64 a, .int .i64 b] 26)).alloc (by simp) (Obj.cells #[.int .i64 c, .int .i64 d] 26)).alloc (by simp; omega) (Obj.cells #[.int .i64 0, .int .i64 0] 26))
  have HC0 := Lib.hid (Below.refl (three w (.int .i64 a) (.int .i64 b) (.int .i64 c) (.int .i64 d) (.int .i64 0) (.int .i64 0) 26).heap.size (three w (.int .i64 a) (.int .i64 b) (.int .i64 c) (.int .i64 d) (.int .i64 0) (.int .i64 0) 26))
  have hxy0 : 1 ≤ x * y := by have : 1 * y ≤ x * y := Int.mul_le_mul_of_nonneg_right hx (by omega); omega
  have hst0 : 1 ≤ s * t := by have : 1 * t ≤ s * t := Int.mul_le_mul_of_nonneg_right hs (by omega); omega
  have hdiv : 1099511627776 / y < x ↔ 1099511627776 < x * y := Int.ediv_lt_iff_lt_mul (by omega)
  have hdiv2 : 1048576 / t < s ↔ 1048576 < s * t := Int.ediv_lt_iff_lt_mul (by omega)
  have hb0 : 0 ≤ 1099511627776 / y := Int.ediv_nonneg (by omega) (by omega)
  have hb1 : 1099511627776 / y ≤ 1099511627776 := Int.ediv_le_self _ (by omega)
  have hb2 : 0 ≤ 1048576 / t := Int.ediv_nonneg (by omega) (by omega)
  have hb3 : 1048576 / t ≤ 1048576 := Int.ediv_le_self _ (by omega)
  unfold rv at *
  by_cases hX : 1099511627776 < x * y
  · have HE := hbig (.inr hX)
    have ht := hdiv.2 hX
    clear hbig K5 hdiv hdiv2
    go_enter Try.func27, Try.ntmps27
    go_wp2_with fail
    refine (K1.out _).mono ?_
    rintro e w1 ⟨rfl, hB⟩
    have B1 := Lib.hid hB
    have HB1 := Lib.hid (HB0.out.trans (hB.mono HB0.out.size))
    have HC1 := Lib.hid (HC0.out.trans (hB.mono HC0.out.size))
    clear hB
    obtain ⟨q1_0, q1_1, q1_2, q1_3, q1_4, q1_5, q1_6, q1_7, q1_8⟩ := box_3 HC1.out
    go_wp2_with fail
    refine (K2.out _).mono ?_
    rintro e w2 ⟨rfl, hB⟩
    have B2 := Lib.hid hB
    have HB2 := Lib.hid (HB1.out.trans (hB.mono HB1.out.size))
    have HC2 := Lib.hid (HC1.out.trans (hB.mono HC1.out.size))
    clear hB
    obtain ⟨q2_0, q2_1, q2_2, q2_3, q2_4, q2_5, q2_6, q2_7, q2_8⟩ := box_3 HC2.out
    have z1 : w.heap.size < w2.heap.size := by omega
    have z2 : w.heap.size + 1 < w2.heap.size := by omega
    go_wp2_with fail
    refine (K3.out _).mono ?_
    rintro e w3 ⟨rfl, hB⟩
    have HB3 := Lib.hid ((HB2.out.alloc (by omega) _).trans (hB.mono (by simp; omega)))
    have HC3 := Lib.hid ((HC2.out.alloc (by simp; omega) _).trans (hB.mono (by simp; omega)))
    obtain ⟨x0, x1, x2, x3, x4⟩ := box_r hB
    clear hB x2 x3
    obtain ⟨q3_0, q3_1, q3_2, q3_3, q3_4, q3_5, q3_6, q3_7, q3_8⟩ := box_3 HC3.out
    go_wp2_with fail
    refine (K4.out _).mono ?_
    rintro e w4 ⟨rfl, hB⟩
    have HB4 := Lib.hid (HB3.out.trans (hB.mono HB3.out.size))
    have HC4 := Lib.hid (HC3.out.trans (hB.mono HC3.out.size))
    replace x0 := (hB.cell (p := ⟨w2.heap.size, 0, none⟩) x4).trans x0
    replace x1 := (hB.cell (p := ⟨w2.heap.size, 1, none⟩) x4).trans x1
    clear hB
    obtain ⟨q4_0, q4_1, q4_2, q4_3, q4_4, q4_5, q4_6, q4_7, q4_8⟩ := box_3 HC4.out
    go_wp2
    all_goals
      exact bodyPost_ret (v := rve (0, 0, 5)) (by simp [results, Try.results27, go_sem, q4_4, q4_5, rve]) rfl ⟨by rw [HE.out], (HB4.out.setCell (p := ⟨w.heap.size + 2, 0, none⟩) (by simp) _).setCell (p := ⟨w.heap.size + 2, 1, none⟩) (by simp) _⟩
  · by_cases hD : 1048576 < s * t
    · have HE := hbig (.inl hD)
      have ht := hdiv2.2 hD
      have ht3 : x ≤ 1099511627776 / y := by omega
      clear hbig K5 hdiv hdiv2
      go_enter Try.func27, Try.ntmps27
      go_wp2_with fail
      refine (K1.out _).mono ?_
      rintro e w1 ⟨rfl, hB⟩
      have B1 := Lib.hid hB
      have HB1 := Lib.hid (HB0.out.trans (hB.mono HB0.out.size))
      have HC1 := Lib.hid (HC0.out.trans (hB.mono HC0.out.size))
      clear hB
      obtain ⟨q1_0, q1_1, q1_2, q1_3, q1_4, q1_5, q1_6, q1_7, q1_8⟩ := box_3 HC1.out
      go_wp2_with fail
      refine (K2.out _).mono ?_
      rintro e w2 ⟨rfl, hB⟩
      have B2 := Lib.hid hB
      have HB2 := Lib.hid (HB1.out.trans (hB.mono HB1.out.size))
      have HC2 := Lib.hid (HC1.out.trans (hB.mono HC1.out.size))
      clear hB
      obtain ⟨q2_0, q2_1, q2_2, q2_3, q2_4, q2_5, q2_6, q2_7, q2_8⟩ := box_3 HC2.out
      have z1 : w.heap.size < w2.heap.size := by omega
      have z2 : w.heap.size + 1 < w2.heap.size := by omega
      go_wp2_with fail
      refine (K3.out _).mono ?_
      rintro e w3 ⟨rfl, hB⟩
      have HB3 := Lib.hid ((HB2.out.alloc (by omega) _).trans (hB.mono (by simp; omega)))
      have HC3 := Lib.hid ((HC2.out.alloc (by simp; omega) _).trans (hB.mono (by simp; omega)))
      obtain ⟨x0, x1, x2, x3, x4⟩ := box_r hB
      clear hB x2 x3
      obtain ⟨q3_0, q3_1, q3_2, q3_3, q3_4, q3_5, q3_6, q3_7, q3_8⟩ := box_3 HC3.out
      go_wp2_with fail
      refine (K4.out _).mono ?_
      rintro e w4 ⟨rfl, hB⟩
      have HB4 := Lib.hid (HB3.out.trans (hB.mono HB3.out.size))
      have HC4 := Lib.hid (HC3.out.trans (hB.mono HC3.out.size))
      replace x0 := (hB.cell (p := ⟨w2.heap.size, 0, none⟩) x4).trans x0
      replace x1 := (hB.cell (p := ⟨w2.heap.size, 1, none⟩) x4).trans x1
      clear hB
      obtain ⟨q4_0, q4_1, q4_2, q4_3, q4_4, q4_5, q4_6, q4_7, q4_8⟩ := box_3 HC4.out
      go_wp2
      all_goals
        exact bodyPost_ret (v := rve (0, 0, 5)) (by simp [results, Try.results27, go_sem, q4_4, q4_5, rve]) rfl ⟨by rw [HE.out], (HB4.out.setCell (p := ⟨w.heap.size + 2, 0, none⟩) (by simp) _).setCell (p := ⟨w.heap.size + 2, 1, none⟩) (by simp) _⟩
    · have k5 := K5.out (by omega) (by omega)
      have K6 := Lib.hid k5
      have ht3 : x ≤ 1099511627776 / y := by omega
      have ht4 : s ≤ 1048576 / t := by omega
      have hX2 : x * y ≤ 1099511627776 := by omega
      have hD2 : s * t ≤ 1048576 := by omega
      clear hbig K5 hdiv hdiv2 k5 hX hD
      go_enter Try.func27, Try.ntmps27
      go_wp2_with fail
      refine (K1.out _).mono ?_
      rintro e w1 ⟨rfl, hB⟩
      have B1 := Lib.hid hB
      have HB1 := Lib.hid (HB0.out.trans (hB.mono HB0.out.size))
      have HC1 := Lib.hid (HC0.out.trans (hB.mono HC0.out.size))
      clear hB
      obtain ⟨q1_0, q1_1, q1_2, q1_3, q1_4, q1_5, q1_6, q1_7, q1_8⟩ := box_3 HC1.out
      go_wp2_with fail
      refine (K2.out _).mono ?_
      rintro e w2 ⟨rfl, hB⟩
      have B2 := Lib.hid hB
      have HB2 := Lib.hid (HB1.out.trans (hB.mono HB1.out.size))
      have HC2 := Lib.hid (HC1.out.trans (hB.mono HC1.out.size))
      clear hB
      obtain ⟨q2_0, q2_1, q2_2, q2_3, q2_4, q2_5, q2_6, q2_7, q2_8⟩ := box_3 HC2.out
      have z1 : w.heap.size < w2.heap.size := by omega
      have z2 : w.heap.size + 1 < w2.heap.size := by omega
      go_wp2_with fail
      refine (K3.out _).mono ?_
      rintro e w3 ⟨rfl, hB⟩
      have HB3 := Lib.hid ((HB2.out.alloc (by omega) _).trans (hB.mono (by simp; omega)))
      have HC3 := Lib.hid ((HC2.out.alloc (by simp; omega) _).trans (hB.mono (by simp; omega)))
      obtain ⟨x0, x1, x2, x3, x4⟩ := box_r hB
      clear hB x2 x3
      obtain ⟨q3_0, q3_1, q3_2, q3_3, q3_4, q3_5, q3_6, q3_7, q3_8⟩ := box_3 HC3.out
      go_wp2_with fail
      refine (K4.out _).mono ?_
      rintro e w4 ⟨rfl, hB⟩
      have HB4 := Lib.hid (HB3.out.trans (hB.mono HB3.out.size))
      have HC4 := Lib.hid (HC3.out.trans (hB.mono HC3.out.size))
      replace x0 := (hB.cell (p := ⟨w2.heap.size, 0, none⟩) x4).trans x0
      replace x1 := (hB.cell (p := ⟨w2.heap.size, 1, none⟩) x4).trans x1
      clear hB
      obtain ⟨q4_0, q4_1, q4_2, q4_3, q4_4, q4_5, q4_6, q4_7, q4_8⟩ := box_3 HC4.out
      go_wp2_with fail
      all_goals
        refine (K6.out _).mono ?_
        rintro e w5 ⟨rfl, hB⟩
        have HB5 := Lib.hid (HB4.out.trans (hB.mono HB4.out.size))
        have HC5 := Lib.hid (HC4.out.trans (hB.mono HC4.out.size))
        obtain ⟨q5_0, q5_1, q5_2, q5_3, q5_4, q5_5, q5_6, q5_7, q5_8⟩ := box_3 HC5.out
        clear hB
        unfold rve
        go_wp2
        exact bodyPost_ret (v := rve R) (by simp [results, Try.results27, go_sem, q5_4, q5_5, rve]) rfl ⟨rfl, (HB5.out.setCell (p := ⟨w.heap.size + 2, 0, none⟩) (by simp) _).setCell (p := ⟨w.heap.size + 2, 1, none⟩) (by simp) _⟩

set_option maxHeartbeats 2000000 in
set_option maxRecDepth 100000 in
theorem div_pn (a b c d u v G H x y s t : Int) (R : Int × Int × Int) (w : World) (ha : (a == 0) = false) (hc : (c == 0) = false)
    (K1 : Hid (∀ w, Calls Try.prog 29 #[rv a b, rv c d] w fun e w' => e = .returned (.int .i64 0) ∧ Below w.heap.size w w'))
    (K2 : Hid (∀ w, Calls Try.prog 43 #[rv c d] w fun e w' => e = .returned (rv u v) ∧ Below w.heap.size w w'))
    (K3 : Hid (∀ w, Calls Try.prog 38 #[.int .i64 a, .int .i64 v] w fun e w' => e = .returned (.int .i64 G) ∧ Below w.heap.size w w'))
    (K4 : Hid (∀ w, Calls Try.prog 38 #[.int .i64 u, .int .i64 b] w fun e w' => e = .returned (.int .i64 H) ∧ Below w.heap.size w w'))
    (hG : 1 ≤ G) (hH : 1 ≤ H) (hx : 1 ≤ x) (hx2 : x ≤ 1099511627776) (hy : 1 ≤ y) (hy2 : y ≤ 1099511627776) (hs : 1 ≤ s) (hs2 : s ≤ 1048576) (ht : 1 ≤ t) (ht2 : t ≤ 1099511627776)
    (e1 : a.tdiv G = x) (e2 : u.tdiv H = -y) (e3 : b.tdiv H = s) (e4 : v.tdiv G = t)
    (hbig : 1048576 < s * t ∨ 1099511627776 < x * y → Hid (R = (0, 0, 5)))
    (K5 : Hid (s * t ≤ 1048576 → x * y ≤ 1099511627776 → ∀ w, Calls Try.prog 37 #[.int .i64 (-(x * y)), .int .i64 (s * t)] w fun e w' => e = .returned (rve R) ∧ Below w.heap.size w w')) :
    Calls Try.prog 27 #[rv a b, rv c d] w fun e w' => e = .returned (rve R) ∧ Below w.heap.size w w' := by
  have HB0 := Lib.hid ((((Below.refl w.heap.size w).alloc (Nat.le_refl _) (Obj.cells #[.int .i64 a, .int .i64 b] 26)).alloc (by simp) (Obj.cells #[.int .i64 c, .int .i64 d] 26)).alloc (by simp; omega) (Obj.cells #[.int .i64 0, .int .i64 0] 26))
  have HC0 := Lib.hid (Below.refl (three w (.int .i64 a) (.int .i64 b) (.int .i64 c) (.int .i64 d) (.int .i64 0) (.int .i64 0) 26).heap.size (three w (.int .i64 a) (.int .i64 b) (.int .i64 c) (.int .i64 d) (.int .i64 0) (.int .i64 0) 26))
  have eM : x * -y = -(x * y) := Int.mul_neg x y
  have hxy0 : 1 ≤ x * y := by have : 1 * y ≤ x * y := Int.mul_le_mul_of_nonneg_right hx (by omega); omega
  have hst0 : 1 ≤ s * t := by have : 1 * t ≤ s * t := Int.mul_le_mul_of_nonneg_right hs (by omega); omega
  have hdiv : 1099511627776 / y < x ↔ 1099511627776 < x * y := Int.ediv_lt_iff_lt_mul (by omega)
  have hdiv2 : 1048576 / t < s ↔ 1048576 < s * t := Int.ediv_lt_iff_lt_mul (by omega)
  have hb0 : 0 ≤ 1099511627776 / y := Int.ediv_nonneg (by omega) (by omega)
  have hb1 : 1099511627776 / y ≤ 1099511627776 := Int.ediv_le_self _ (by omega)
  have hb2 : 0 ≤ 1048576 / t := Int.ediv_nonneg (by omega) (by omega)
  have hb3 : 1048576 / t ≤ 1048576 := Int.ediv_le_self _ (by omega)
  unfold rv at *
  by_cases hX : 1099511627776 < x * y
  · have HE := hbig (.inr hX)
    have ht := hdiv.2 hX
    clear hbig K5 hdiv hdiv2
    go_enter Try.func27, Try.ntmps27
    go_wp2_with fail
    refine (K1.out _).mono ?_
    rintro e w1 ⟨rfl, hB⟩
    have B1 := Lib.hid hB
    have HB1 := Lib.hid (HB0.out.trans (hB.mono HB0.out.size))
    have HC1 := Lib.hid (HC0.out.trans (hB.mono HC0.out.size))
    clear hB
    obtain ⟨q1_0, q1_1, q1_2, q1_3, q1_4, q1_5, q1_6, q1_7, q1_8⟩ := box_3 HC1.out
    go_wp2_with fail
    refine (K2.out _).mono ?_
    rintro e w2 ⟨rfl, hB⟩
    have B2 := Lib.hid hB
    have HB2 := Lib.hid (HB1.out.trans (hB.mono HB1.out.size))
    have HC2 := Lib.hid (HC1.out.trans (hB.mono HC1.out.size))
    clear hB
    obtain ⟨q2_0, q2_1, q2_2, q2_3, q2_4, q2_5, q2_6, q2_7, q2_8⟩ := box_3 HC2.out
    have z1 : w.heap.size < w2.heap.size := by omega
    have z2 : w.heap.size + 1 < w2.heap.size := by omega
    go_wp2_with fail
    refine (K3.out _).mono ?_
    rintro e w3 ⟨rfl, hB⟩
    have HB3 := Lib.hid ((HB2.out.alloc (by omega) _).trans (hB.mono (by simp; omega)))
    have HC3 := Lib.hid ((HC2.out.alloc (by simp; omega) _).trans (hB.mono (by simp; omega)))
    obtain ⟨x0, x1, x2, x3, x4⟩ := box_r hB
    clear hB x2 x3
    obtain ⟨q3_0, q3_1, q3_2, q3_3, q3_4, q3_5, q3_6, q3_7, q3_8⟩ := box_3 HC3.out
    go_wp2_with fail
    refine (K4.out _).mono ?_
    rintro e w4 ⟨rfl, hB⟩
    have HB4 := Lib.hid (HB3.out.trans (hB.mono HB3.out.size))
    have HC4 := Lib.hid (HC3.out.trans (hB.mono HC3.out.size))
    replace x0 := (hB.cell (p := ⟨w2.heap.size, 0, none⟩) x4).trans x0
    replace x1 := (hB.cell (p := ⟨w2.heap.size, 1, none⟩) x4).trans x1
    clear hB
    obtain ⟨q4_0, q4_1, q4_2, q4_3, q4_4, q4_5, q4_6, q4_7, q4_8⟩ := box_3 HC4.out
    go_wp2
    all_goals
      exact bodyPost_ret (v := rve (0, 0, 5)) (by simp [results, Try.results27, go_sem, q4_4, q4_5, rve]) rfl ⟨by rw [HE.out], (HB4.out.setCell (p := ⟨w.heap.size + 2, 0, none⟩) (by simp) _).setCell (p := ⟨w.heap.size + 2, 1, none⟩) (by simp) _⟩
  · by_cases hD : 1048576 < s * t
    · have HE := hbig (.inl hD)
      have ht := hdiv2.2 hD
      have ht3 : x ≤ 1099511627776 / y := by omega
      clear hbig K5 hdiv hdiv2
      go_enter Try.func27, Try.ntmps27
      go_wp2_with fail
      refine (K1.out _).mono ?_
      rintro e w1 ⟨rfl, hB⟩
      have B1 := Lib.hid hB
      have HB1 := Lib.hid (HB0.out.trans (hB.mono HB0.out.size))
      have HC1 := Lib.hid (HC0.out.trans (hB.mono HC0.out.size))
      clear hB
      obtain ⟨q1_0, q1_1, q1_2, q1_3, q1_4, q1_5, q1_6, q1_7, q1_8⟩ := box_3 HC1.out
      go_wp2_with fail
      refine (K2.out _).mono ?_
      rintro e w2 ⟨rfl, hB⟩
      have B2 := Lib.hid hB
      have HB2 := Lib.hid (HB1.out.trans (hB.mono HB1.out.size))
      have HC2 := Lib.hid (HC1.out.trans (hB.mono HC1.out.size))
      clear hB
      obtain ⟨q2_0, q2_1, q2_2, q2_3, q2_4, q2_5, q2_6, q2_7, q2_8⟩ := box_3 HC2.out
      have z1 : w.heap.size < w2.heap.size := by omega
      have z2 : w.heap.size + 1 < w2.heap.size := by omega
      go_wp2_with fail
      refine (K3.out _).mono ?_
      rintro e w3 ⟨rfl, hB⟩
      have HB3 := Lib.hid ((HB2.out.alloc (by omega) _).trans (hB.mono (by simp; omega)))
      have HC3 := Lib.hid ((HC2.out.alloc (by simp; omega) _).trans (hB.mono (by simp; omega)))
      obtain ⟨x0, x1, x2, x3, x4⟩ := box_r hB
      clear hB x2 x3
      obtain ⟨q3_0, q3_1, q3_2, q3_3, q3_4, q3_5, q3_6, q3_7, q3_8⟩ := box_3 HC3.out
      go_wp2_with fail
      refine (K4.out _).mono ?_
      rintro e w4 ⟨rfl, hB⟩
      have HB4 := Lib.hid (HB3.out.trans (hB.mono HB3.out.size))
      have HC4 := Lib.hid (HC3.out.trans (hB.mono HC3.out.size))
      replace x0 := (hB.cell (p := ⟨w2.heap.size, 0, none⟩) x4).trans x0
      replace x1 := (hB.cell (p := ⟨w2.heap.size, 1, none⟩) x4).trans x1
      clear hB
      obtain ⟨q4_0, q4_1, q4_2, q4_3, q4_4, q4_5, q4_6, q4_7, q4_8⟩ := box_3 HC4.out
      go_wp2
      all_goals
        exact bodyPost_ret (v := rve (0, 0, 5)) (by simp [results, Try.results27, go_sem, q4_4, q4_5, rve]) rfl ⟨by rw [HE.out], (HB4.out.setCell (p := ⟨w.heap.size + 2, 0, none⟩) (by simp) _).setCell (p := ⟨w.heap.size + 2, 1, none⟩) (by simp) _⟩
    · have k5 := K5.out (by omega) (by omega)
      have K6 := Lib.hid k5
      have ht3 : x ≤ 1099511627776 / y := by omega
      have ht4 : s ≤ 1048576 / t := by omega
      have hX2 : x * y ≤ 1099511627776 := by omega
      have hD2 : s * t ≤ 1048576 := by omega
      clear hbig K5 hdiv hdiv2 k5 hX hD
      go_enter Try.func27, Try.ntmps27
      go_wp2_with fail
      refine (K1.out _).mono ?_
      rintro e w1 ⟨rfl, hB⟩
      have B1 := Lib.hid hB
      have HB1 := Lib.hid (HB0.out.trans (hB.mono HB0.out.size))
      have HC1 := Lib.hid (HC0.out.trans (hB.mono HC0.out.size))
      clear hB
      obtain ⟨q1_0, q1_1, q1_2, q1_3, q1_4, q1_5, q1_6, q1_7, q1_8⟩ := box_3 HC1.out
      go_wp2_with fail
      refine (K2.out _).mono ?_
      rintro e w2 ⟨rfl, hB⟩
      have B2 := Lib.hid hB
      have HB2 := Lib.hid (HB1.out.trans (hB.mono HB1.out.size))
      have HC2 := Lib.hid (HC1.out.trans (hB.mono HC1.out.size))
      clear hB
      obtain ⟨q2_0, q2_1, q2_2, q2_3, q2_4, q2_5, q2_6, q2_7, q2_8⟩ := box_3 HC2.out
      have z1 : w.heap.size < w2.heap.size := by omega
      have z2 : w.heap.size + 1 < w2.heap.size := by omega
      go_wp2_with fail
      refine (K3.out _).mono ?_
      rintro e w3 ⟨rfl, hB⟩
      have HB3 := Lib.hid ((HB2.out.alloc (by omega) _).trans (hB.mono (by simp; omega)))
      have HC3 := Lib.hid ((HC2.out.alloc (by simp; omega) _).trans (hB.mono (by simp; omega)))
      obtain ⟨x0, x1, x2, x3, x4⟩ := box_r hB
      clear hB x2 x3
      obtain ⟨q3_0, q3_1, q3_2, q3_3, q3_4, q3_5, q3_6, q3_7, q3_8⟩ := box_3 HC3.out
      go_wp2_with fail
      refine (K4.out _).mono ?_
      rintro e w4 ⟨rfl, hB⟩
      have HB4 := Lib.hid (HB3.out.trans (hB.mono HB3.out.size))
      have HC4 := Lib.hid (HC3.out.trans (hB.mono HC3.out.size))
      replace x0 := (hB.cell (p := ⟨w2.heap.size, 0, none⟩) x4).trans x0
      replace x1 := (hB.cell (p := ⟨w2.heap.size, 1, none⟩) x4).trans x1
      clear hB
      obtain ⟨q4_0, q4_1, q4_2, q4_3, q4_4, q4_5, q4_6, q4_7, q4_8⟩ := box_3 HC4.out
      go_wp2_with fail
      all_goals
        refine (K6.out _).mono ?_
        rintro e w5 ⟨rfl, hB⟩
        have HB5 := Lib.hid (HB4.out.trans (hB.mono HB4.out.size))
        have HC5 := Lib.hid (HC4.out.trans (hB.mono HC4.out.size))
        obtain ⟨q5_0, q5_1, q5_2, q5_3, q5_4, q5_5, q5_6, q5_7, q5_8⟩ := box_3 HC5.out
        clear hB
        unfold rve
        go_wp2
        exact bodyPost_ret (v := rve R) (by simp [results, Try.results27, go_sem, q5_4, q5_5, rve]) rfl ⟨rfl, (HB5.out.setCell (p := ⟨w.heap.size + 2, 0, none⟩) (by simp) _).setCell (p := ⟨w.heap.size + 2, 1, none⟩) (by simp) _⟩

set_option maxHeartbeats 2000000 in
set_option maxRecDepth 100000 in
theorem div_np (a b c d u v G H x y s t : Int) (R : Int × Int × Int) (w : World) (ha : (a == 0) = false) (hc : (c == 0) = false)
    (K1 : Hid (∀ w, Calls Try.prog 29 #[rv a b, rv c d] w fun e w' => e = .returned (.int .i64 0) ∧ Below w.heap.size w w'))
    (K2 : Hid (∀ w, Calls Try.prog 43 #[rv c d] w fun e w' => e = .returned (rv u v) ∧ Below w.heap.size w w'))
    (K3 : Hid (∀ w, Calls Try.prog 38 #[.int .i64 a, .int .i64 v] w fun e w' => e = .returned (.int .i64 G) ∧ Below w.heap.size w w'))
    (K4 : Hid (∀ w, Calls Try.prog 38 #[.int .i64 u, .int .i64 b] w fun e w' => e = .returned (.int .i64 H) ∧ Below w.heap.size w w'))
    (hG : 1 ≤ G) (hH : 1 ≤ H) (hx : 1 ≤ x) (hx2 : x ≤ 1099511627776) (hy : 1 ≤ y) (hy2 : y ≤ 1099511627776) (hs : 1 ≤ s) (hs2 : s ≤ 1048576) (ht : 1 ≤ t) (ht2 : t ≤ 1099511627776)
    (e1 : a.tdiv G = -x) (e2 : u.tdiv H = y) (e3 : b.tdiv H = s) (e4 : v.tdiv G = t)
    (hbig : 1048576 < s * t ∨ 1099511627776 < x * y → Hid (R = (0, 0, 5)))
    (K5 : Hid (s * t ≤ 1048576 → x * y ≤ 1099511627776 → ∀ w, Calls Try.prog 37 #[.int .i64 (-(x * y)), .int .i64 (s * t)] w fun e w' => e = .returned (rve R) ∧ Below w.heap.size w w')) :
    Calls Try.prog 27 #[rv a b, rv c d] w fun e w' => e = .returned (rve R) ∧ Below w.heap.size w w' := by
  have HB0 := Lib.hid ((((Below.refl w.heap.size w).alloc (Nat.le_refl _) (Obj.cells #[.int .i64 a, .int .i64 b] 26)).alloc (by simp) (Obj.cells #[.int .i64 c, .int .i64 d] 26)).alloc (by simp; omega) (Obj.cells #[.int .i64 0, .int .i64 0] 26))
  have HC0 := Lib.hid (Below.refl (three w (.int .i64 a) (.int .i64 b) (.int .i64 c) (.int .i64 d) (.int .i64 0) (.int .i64 0) 26).heap.size (three w (.int .i64 a) (.int .i64 b) (.int .i64 c) (.int .i64 d) (.int .i64 0) (.int .i64 0) 26))
  have eM : -x * y = -(x * y) := Int.neg_mul x y
  have hxy0 : 1 ≤ x * y := by have : 1 * y ≤ x * y := Int.mul_le_mul_of_nonneg_right hx (by omega); omega
  have hst0 : 1 ≤ s * t := by have : 1 * t ≤ s * t := Int.mul_le_mul_of_nonneg_right hs (by omega); omega
  have hdiv : 1099511627776 / y < x ↔ 1099511627776 < x * y := Int.ediv_lt_iff_lt_mul (by omega)
  have hdiv2 : 1048576 / t < s ↔ 1048576 < s * t := Int.ediv_lt_iff_lt_mul (by omega)
  have hb0 : 0 ≤ 1099511627776 / y := Int.ediv_nonneg (by omega) (by omega)
  have hb1 : 1099511627776 / y ≤ 1099511627776 := Int.ediv_le_self _ (by omega)
  have hb2 : 0 ≤ 1048576 / t := Int.ediv_nonneg (by omega) (by omega)
  have hb3 : 1048576 / t ≤ 1048576 := Int.ediv_le_self _ (by omega)
  unfold rv at *
  by_cases hX : 1099511627776 < x * y
  · have HE := hbig (.inr hX)
    have ht := hdiv.2 hX
    clear hbig K5 hdiv hdiv2
    go_enter Try.func27, Try.ntmps27
    go_wp2_with fail
    refine (K1.out _).mono ?_
    rintro e w1 ⟨rfl, hB⟩
    have B1 := Lib.hid hB
    have HB1 := Lib.hid (HB0.out.trans (hB.mono HB0.out.size))
    have HC1 := Lib.hid (HC0.out.trans (hB.mono HC0.out.size))
    clear hB
    obtain ⟨q1_0, q1_1, q1_2, q1_3, q1_4, q1_5, q1_6, q1_7, q1_8⟩ := box_3 HC1.out
    go_wp2_with fail
    refine (K2.out _).mono ?_
    rintro e w2 ⟨rfl, hB⟩
    have B2 := Lib.hid hB
    have HB2 := Lib.hid (HB1.out.trans (hB.mono HB1.out.size))
    have HC2 := Lib.hid (HC1.out.trans (hB.mono HC1.out.size))
    clear hB
    obtain ⟨q2_0, q2_1, q2_2, q2_3, q2_4, q2_5, q2_6, q2_7, q2_8⟩ := box_3 HC2.out
    have z1 : w.heap.size < w2.heap.size := by omega
    have z2 : w.heap.size + 1 < w2.heap.size := by omega
    go_wp2_with fail
    refine (K3.out _).mono ?_
    rintro e w3 ⟨rfl, hB⟩
    have HB3 := Lib.hid ((HB2.out.alloc (by omega) _).trans (hB.mono (by simp; omega)))
    have HC3 := Lib.hid ((HC2.out.alloc (by simp; omega) _).trans (hB.mono (by simp; omega)))
    obtain ⟨x0, x1, x2, x3, x4⟩ := box_r hB
    clear hB x2 x3
    obtain ⟨q3_0, q3_1, q3_2, q3_3, q3_4, q3_5, q3_6, q3_7, q3_8⟩ := box_3 HC3.out
    go_wp2_with fail
    refine (K4.out _).mono ?_
    rintro e w4 ⟨rfl, hB⟩
    have HB4 := Lib.hid (HB3.out.trans (hB.mono HB3.out.size))
    have HC4 := Lib.hid (HC3.out.trans (hB.mono HC3.out.size))
    replace x0 := (hB.cell (p := ⟨w2.heap.size, 0, none⟩) x4).trans x0
    replace x1 := (hB.cell (p := ⟨w2.heap.size, 1, none⟩) x4).trans x1
    clear hB
    obtain ⟨q4_0, q4_1, q4_2, q4_3, q4_4, q4_5, q4_6, q4_7, q4_8⟩ := box_3 HC4.out
    go_wp2
    all_goals
      exact bodyPost_ret (v := rve (0, 0, 5)) (by simp [results, Try.results27, go_sem, q4_4, q4_5, rve]) rfl ⟨by rw [HE.out], (HB4.out.setCell (p := ⟨w.heap.size + 2, 0, none⟩) (by simp) _).setCell (p := ⟨w.heap.size + 2, 1, none⟩) (by simp) _⟩
  · by_cases hD : 1048576 < s * t
    · have HE := hbig (.inl hD)
      have ht := hdiv2.2 hD
      have ht3 : x ≤ 1099511627776 / y := by omega
      clear hbig K5 hdiv hdiv2
      go_enter Try.func27, Try.ntmps27
      go_wp2_with fail
      refine (K1.out _).mono ?_
      rintro e w1 ⟨rfl, hB⟩
      have B1 := Lib.hid hB
      have HB1 := Lib.hid (HB0.out.trans (hB.mono HB0.out.size))
      have HC1 := Lib.hid (HC0.out.trans (hB.mono HC0.out.size))
      clear hB
      obtain ⟨q1_0, q1_1, q1_2, q1_3, q1_4, q1_5, q1_6, q1_7, q1_8⟩ := box_3 HC1.out
      go_wp2_with fail
      refine (K2.out _).mono ?_
      rintro e w2 ⟨rfl, hB⟩
      have B2 := Lib.hid hB
      have HB2 := Lib.hid (HB1.out.trans (hB.mono HB1.out.size))
      have HC2 := Lib.hid (HC1.out.trans (hB.mono HC1.out.size))
      clear hB
      obtain ⟨q2_0, q2_1, q2_2, q2_3, q2_4, q2_5, q2_6, q2_7, q2_8⟩ := box_3 HC2.out
      have z1 : w.heap.size < w2.heap.size := by omega
      have z2 : w.heap.size + 1 < w2.heap.size := by omega
      go_wp2_with fail
      refine (K3.out _).mono ?_
      rintro e w3 ⟨rfl, hB⟩
      have HB3 := Lib.hid ((HB2.out.alloc (by omega) _).trans (hB.mono (by simp; omega)))
      have HC3 := Lib.hid ((HC2.out.alloc (by simp; omega) _).trans (hB.mono (by simp; omega)))
      obtain ⟨x0, x1, x2, x3, x4⟩ := box_r hB
      clear hB x2 x3
      obtain ⟨q3_0, q3_1, q3_2, q3_3, q3_4, q3_5, q3_6, q3_7, q3_8⟩ := box_3 HC3.out
      go_wp2_with fail
      refine (K4.out _).mono ?_
      rintro e w4 ⟨rfl, hB⟩
      have HB4 := Lib.hid (HB3.out.trans (hB.mono HB3.out.size))
      have HC4 := Lib.hid (HC3.out.trans (hB.mono HC3.out.size))
      replace x0 := (hB.cell (p := ⟨w2.heap.size, 0, none⟩) x4).trans x0
      replace x1 := (hB.cell (p := ⟨w2.heap.size, 1, none⟩) x4).trans x1
      clear hB
      obtain ⟨q4_0, q4_1, q4_2, q4_3, q4_4, q4_5, q4_6, q4_7, q4_8⟩ := box_3 HC4.out
      go_wp2
      all_goals
        exact bodyPost_ret (v := rve (0, 0, 5)) (by simp [results, Try.results27, go_sem, q4_4, q4_5, rve]) rfl ⟨by rw [HE.out], (HB4.out.setCell (p := ⟨w.heap.size + 2, 0, none⟩) (by simp) _).setCell (p := ⟨w.heap.size + 2, 1, none⟩) (by simp) _⟩
    · have k5 := K5.out (by omega) (by omega)
      have K6 := Lib.hid k5
      have ht3 : x ≤ 1099511627776 / y := by omega
      have ht4 : s ≤ 1048576 / t := by omega
      have hX2 : x * y ≤ 1099511627776 := by omega
      have hD2 : s * t ≤ 1048576 := by omega
      clear hbig K5 hdiv hdiv2 k5 hX hD
      go_enter Try.func27, Try.ntmps27
      go_wp2_with fail
      refine (K1.out _).mono ?_
      rintro e w1 ⟨rfl, hB⟩
      have B1 := Lib.hid hB
      have HB1 := Lib.hid (HB0.out.trans (hB.mono HB0.out.size))
      have HC1 := Lib.hid (HC0.out.trans (hB.mono HC0.out.size))
      clear hB
      obtain ⟨q1_0, q1_1, q1_2, q1_3, q1_4, q1_5, q1_6, q1_7, q1_8⟩ := box_3 HC1.out
      go_wp2_with fail
      refine (K2.out _).mono ?_
      rintro e w2 ⟨rfl, hB⟩
      have B2 := Lib.hid hB
      have HB2 := Lib.hid (HB1.out.trans (hB.mono HB1.out.size))
      have HC2 := Lib.hid (HC1.out.trans (hB.mono HC1.out.size))
      clear hB
      obtain ⟨q2_0, q2_1, q2_2, q2_3, q2_4, q2_5, q2_6, q2_7, q2_8⟩ := box_3 HC2.out
      have z1 : w.heap.size < w2.heap.size := by omega
      have z2 : w.heap.size + 1 < w2.heap.size := by omega
      go_wp2_with fail
      refine (K3.out _).mono ?_
      rintro e w3 ⟨rfl, hB⟩
      have HB3 := Lib.hid ((HB2.out.alloc (by omega) _).trans (hB.mono (by simp; omega)))
      have HC3 := Lib.hid ((HC2.out.alloc (by simp; omega) _).trans (hB.mono (by simp; omega)))
      obtain ⟨x0, x1, x2, x3, x4⟩ := box_r hB
      clear hB x2 x3
      obtain ⟨q3_0, q3_1, q3_2, q3_3, q3_4, q3_5, q3_6, q3_7, q3_8⟩ := box_3 HC3.out
      go_wp2_with fail
      refine (K4.out _).mono ?_
      rintro e w4 ⟨rfl, hB⟩
      have HB4 := Lib.hid (HB3.out.trans (hB.mono HB3.out.size))
      have HC4 := Lib.hid (HC3.out.trans (hB.mono HC3.out.size))
      replace x0 := (hB.cell (p := ⟨w2.heap.size, 0, none⟩) x4).trans x0
      replace x1 := (hB.cell (p := ⟨w2.heap.size, 1, none⟩) x4).trans x1
      clear hB
      obtain ⟨q4_0, q4_1, q4_2, q4_3, q4_4, q4_5, q4_6, q4_7, q4_8⟩ := box_3 HC4.out
      go_wp2_with fail
      all_goals
        refine (K6.out _).mono ?_
        rintro e w5 ⟨rfl, hB⟩
        have HB5 := Lib.hid (HB4.out.trans (hB.mono HB4.out.size))
        have HC5 := Lib.hid (HC4.out.trans (hB.mono HC4.out.size))
        obtain ⟨q5_0, q5_1, q5_2, q5_3, q5_4, q5_5, q5_6, q5_7, q5_8⟩ := box_3 HC5.out
        clear hB
        unfold rve
        go_wp2
        exact bodyPost_ret (v := rve R) (by simp [results, Try.results27, go_sem, q5_4, q5_5, rve]) rfl ⟨rfl, (HB5.out.setCell (p := ⟨w.heap.size + 2, 0, none⟩) (by simp) _).setCell (p := ⟨w.heap.size + 2, 1, none⟩) (by simp) _⟩

set_option maxHeartbeats 2000000 in
set_option maxRecDepth 100000 in
theorem div_nn (a b c d u v G H x y s t : Int) (R : Int × Int × Int) (w : World) (ha : (a == 0) = false) (hc : (c == 0) = false)
    (K1 : Hid (∀ w, Calls Try.prog 29 #[rv a b, rv c d] w fun e w' => e = .returned (.int .i64 0) ∧ Below w.heap.size w w'))
    (K2 : Hid (∀ w, Calls Try.prog 43 #[rv c d] w fun e w' => e = .returned (rv u v) ∧ Below w.heap.size w w'))
    (K3 : Hid (∀ w, Calls Try.prog 38 #[.int .i64 a, .int .i64 v] w fun e w' => e = .returned (.int .i64 G) ∧ Below w.heap.size w w'))
    (K4 : Hid (∀ w, Calls Try.prog 38 #[.int .i64 u, .int .i64 b] w fun e w' => e = .returned (.int .i64 H) ∧ Below w.heap.size w w'))
    (hG : 1 ≤ G) (hH : 1 ≤ H) (hx : 1 ≤ x) (hx2 : x ≤ 1099511627776) (hy : 1 ≤ y) (hy2 : y ≤ 1099511627776) (hs : 1 ≤ s) (hs2 : s ≤ 1048576) (ht : 1 ≤ t) (ht2 : t ≤ 1099511627776)
    (e1 : a.tdiv G = -x) (e2 : u.tdiv H = -y) (e3 : b.tdiv H = s) (e4 : v.tdiv G = t)
    (hbig : 1048576 < s * t ∨ 1099511627776 < x * y → Hid (R = (0, 0, 5)))
    (K5 : Hid (s * t ≤ 1048576 → x * y ≤ 1099511627776 → ∀ w, Calls Try.prog 37 #[.int .i64 (x * y), .int .i64 (s * t)] w fun e w' => e = .returned (rve R) ∧ Below w.heap.size w w')) :
    Calls Try.prog 27 #[rv a b, rv c d] w fun e w' => e = .returned (rve R) ∧ Below w.heap.size w w' := by
  have HB0 := Lib.hid ((((Below.refl w.heap.size w).alloc (Nat.le_refl _) (Obj.cells #[.int .i64 a, .int .i64 b] 26)).alloc (by simp) (Obj.cells #[.int .i64 c, .int .i64 d] 26)).alloc (by simp; omega) (Obj.cells #[.int .i64 0, .int .i64 0] 26))
  have HC0 := Lib.hid (Below.refl (three w (.int .i64 a) (.int .i64 b) (.int .i64 c) (.int .i64 d) (.int .i64 0) (.int .i64 0) 26).heap.size (three w (.int .i64 a) (.int .i64 b) (.int .i64 c) (.int .i64 d) (.int .i64 0) (.int .i64 0) 26))
  have eM : -x * -y = x * y := Int.neg_mul_neg x y
  have hxy0 : 1 ≤ x * y := by have : 1 * y ≤ x * y := Int.mul_le_mul_of_nonneg_right hx (by omega); omega
  have hst0 : 1 ≤ s * t := by have : 1 * t ≤ s * t := Int.mul_le_mul_of_nonneg_right hs (by omega); omega
  have hdiv : 1099511627776 / y < x ↔ 1099511627776 < x * y := Int.ediv_lt_iff_lt_mul (by omega)
  have hdiv2 : 1048576 / t < s ↔ 1048576 < s * t := Int.ediv_lt_iff_lt_mul (by omega)
  have hb0 : 0 ≤ 1099511627776 / y := Int.ediv_nonneg (by omega) (by omega)
  have hb1 : 1099511627776 / y ≤ 1099511627776 := Int.ediv_le_self _ (by omega)
  have hb2 : 0 ≤ 1048576 / t := Int.ediv_nonneg (by omega) (by omega)
  have hb3 : 1048576 / t ≤ 1048576 := Int.ediv_le_self _ (by omega)
  unfold rv at *
  by_cases hX : 1099511627776 < x * y
  · have HE := hbig (.inr hX)
    have ht := hdiv.2 hX
    clear hbig K5 hdiv hdiv2
    go_enter Try.func27, Try.ntmps27
    go_wp2_with fail
    refine (K1.out _).mono ?_
    rintro e w1 ⟨rfl, hB⟩
    have B1 := Lib.hid hB
    have HB1 := Lib.hid (HB0.out.trans (hB.mono HB0.out.size))
    have HC1 := Lib.hid (HC0.out.trans (hB.mono HC0.out.size))
    clear hB
    obtain ⟨q1_0, q1_1, q1_2, q1_3, q1_4, q1_5, q1_6, q1_7, q1_8⟩ := box_3 HC1.out
    go_wp2_with fail
    refine (K2.out _).mono ?_
    rintro e w2 ⟨rfl, hB⟩
    have B2 := Lib.hid hB
    have HB2 := Lib.hid (HB1.out.trans (hB.mono HB1.out.size))
    have HC2 := Lib.hid (HC1.out.trans (hB.mono HC1.out.size))
    clear hB
    obtain ⟨q2_0, q2_1, q2_2, q2_3, q2_4, q2_5, q2_6, q2_7, q2_8⟩ := box_3 HC2.out
    have z1 : w.heap.size < w2.heap.size := by omega
    have z2 : w.heap.size + 1 < w2.heap.size := by omega
    go_wp2_with fail
    refine (K3.out _).mono ?_
    rintro e w3 ⟨rfl, hB⟩
    have HB3 := Lib.hid ((HB2.out.alloc (by omega) _).trans (hB.mono (by simp; omega)))
    have HC3 := Lib.hid ((HC2.out.alloc (by simp; omega) _).trans (hB.mono (by simp; omega)))
    obtain ⟨x0, x1, x2, x3, x4⟩ := box_r hB
    clear hB x2 x3
    obtain ⟨q3_0, q3_1, q3_2, q3_3, q3_4, q3_5, q3_6, q3_7, q3_8⟩ := box_3 HC3.out
    go_wp2_with fail
    refine (K4.out _).mono ?_
    rintro e w4 ⟨rfl, hB⟩
    have HB4 := Lib.hid (HB3.out.trans (hB.mono HB3.out.size))
    have HC4 := Lib.hid (HC3.out.trans (hB.mono HC3.out.size))
    replace x0 := (hB.cell (p := ⟨w2.heap.size, 0, none⟩) x4).trans x0
    replace x1 := (hB.cell (p := ⟨w2.heap.size, 1, none⟩) x4).trans x1
    clear hB
    obtain ⟨q4_0, q4_1, q4_2, q4_3, q4_4, q4_5, q4_6, q4_7, q4_8⟩ := box_3 HC4.out
    go_wp2
    all_goals
      exact bodyPost_ret (v := rve (0, 0, 5)) (by simp [results, Try.results27, go_sem, q4_4, q4_5, rve]) rfl ⟨by rw [HE.out], (HB4.out.setCell (p := ⟨w.heap.size + 2, 0, none⟩) (by simp) _).setCell (p := ⟨w.heap.size + 2, 1, none⟩) (by simp) _⟩
  · by_cases hD : 1048576 < s * t
    · have HE := hbig (.inl hD)
      have ht := hdiv2.2 hD
      have ht3 : x ≤ 1099511627776 / y := by omega
      clear hbig K5 hdiv hdiv2
      go_enter Try.func27, Try.ntmps27
      go_wp2_with fail
      refine (K1.out _).mono ?_
      rintro e w1 ⟨rfl, hB⟩
      have B1 := Lib.hid hB
      have HB1 := Lib.hid (HB0.out.trans (hB.mono HB0.out.size))
      have HC1 := Lib.hid (HC0.out.trans (hB.mono HC0.out.size))
      clear hB
      obtain ⟨q1_0, q1_1, q1_2, q1_3, q1_4, q1_5, q1_6, q1_7, q1_8⟩ := box_3 HC1.out
      go_wp2_with fail
      refine (K2.out _).mono ?_
      rintro e w2 ⟨rfl, hB⟩
      have B2 := Lib.hid hB
      have HB2 := Lib.hid (HB1.out.trans (hB.mono HB1.out.size))
      have HC2 := Lib.hid (HC1.out.trans (hB.mono HC1.out.size))
      clear hB
      obtain ⟨q2_0, q2_1, q2_2, q2_3, q2_4, q2_5, q2_6, q2_7, q2_8⟩ := box_3 HC2.out
      have z1 : w.heap.size < w2.heap.size := by omega
      have z2 : w.heap.size + 1 < w2.heap.size := by omega
      go_wp2_with fail
      refine (K3.out _).mono ?_
      rintro e w3 ⟨rfl, hB⟩
      have HB3 := Lib.hid ((HB2.out.alloc (by omega) _).trans (hB.mono (by simp; omega)))
      have HC3 := Lib.hid ((HC2.out.alloc (by simp; omega) _).trans (hB.mono (by simp; omega)))
      obtain ⟨x0, x1, x2, x3, x4⟩ := box_r hB
      clear hB x2 x3
      obtain ⟨q3_0, q3_1, q3_2, q3_3, q3_4, q3_5, q3_6, q3_7, q3_8⟩ := box_3 HC3.out
      go_wp2_with fail
      refine (K4.out _).mono ?_
      rintro e w4 ⟨rfl, hB⟩
      have HB4 := Lib.hid (HB3.out.trans (hB.mono HB3.out.size))
      have HC4 := Lib.hid (HC3.out.trans (hB.mono HC3.out.size))
      replace x0 := (hB.cell (p := ⟨w2.heap.size, 0, none⟩) x4).trans x0
      replace x1 := (hB.cell (p := ⟨w2.heap.size, 1, none⟩) x4).trans x1
      clear hB
      obtain ⟨q4_0, q4_1, q4_2, q4_3, q4_4, q4_5, q4_6, q4_7, q4_8⟩ := box_3 HC4.out
      go_wp2
      all_goals
        exact bodyPost_ret (v := rve (0, 0, 5)) (by simp [results, Try.results27, go_sem, q4_4, q4_5, rve]) rfl ⟨by rw [HE.out], (HB4.out.setCell (p := ⟨w.heap.size + 2, 0, none⟩) (by simp) _).setCell (p := ⟨w.heap.size + 2, 1, none⟩) (by simp) _⟩
    · have k5 := K5.out (by omega) (by omega)
      have K6 := Lib.hid k5
      have ht3 : x ≤ 1099511627776 / y := by omega
      have ht4 : s ≤ 1048576 / t := by omega
      have hX2 : x * y ≤ 1099511627776 := by omega
      have hD2 : s * t ≤ 1048576 := by omega
      clear hbig K5 hdiv hdiv2 k5 hX hD
      go_enter Try.func27, Try.ntmps27
      go_wp2_with fail
      refine (K1.out _).mono ?_
      rintro e w1 ⟨rfl, hB⟩
      have B1 := Lib.hid hB
      have HB1 := Lib.hid (HB0.out.trans (hB.mono HB0.out.size))
      have HC1 := Lib.hid (HC0.out.trans (hB.mono HC0.out.size))
      clear hB
      obtain ⟨q1_0, q1_1, q1_2, q1_3, q1_4, q1_5, q1_6, q1_7, q1_8⟩ := box_3 HC1.out
      go_wp2_with fail
      refine (K2.out _).mono ?_
      rintro e w2 ⟨rfl, hB⟩
      have B2 := Lib.hid hB
      have HB2 := Lib.hid (HB1.out.trans (hB.mono HB1.out.size))
      have HC2 := Lib.hid (HC1.out.trans (hB.mono HC1.out.size))
      clear hB
      obtain ⟨q2_0, q2_1, q2_2, q2_3, q2_4, q2_5, q2_6, q2_7, q2_8⟩ := box_3 HC2.out
      have z1 : w.heap.size < w2.heap.size := by omega
      have z2 : w.heap.size + 1 < w2.heap.size := by omega
      go_wp2_with fail
      refine (K3.out _).mono ?_
      rintro e w3 ⟨rfl, hB⟩
      have HB3 := Lib.hid ((HB2.out.alloc (by omega) _).trans (hB.mono (by simp; omega)))
      have HC3 := Lib.hid ((HC2.out.alloc (by simp; omega) _).trans (hB.mono (by simp; omega)))
      obtain ⟨x0, x1, x2, x3, x4⟩ := box_r hB
      clear hB x2 x3
      obtain ⟨q3_0, q3_1, q3_2, q3_3, q3_4, q3_5, q3_6, q3_7, q3_8⟩ := box_3 HC3.out
      go_wp2_with fail
      refine (K4.out _).mono ?_
      rintro e w4 ⟨rfl, hB⟩
      have HB4 := Lib.hid (HB3.out.trans (hB.mono HB3.out.size))
      have HC4 := Lib.hid (HC3.out.trans (hB.mono HC3.out.size))
      replace x0 := (hB.cell (p := ⟨w2.heap.size, 0, none⟩) x4).trans x0
      replace x1 := (hB.cell (p := ⟨w2.heap.size, 1, none⟩) x4).trans x1
      clear hB
      obtain ⟨q4_0, q4_1, q4_2, q4_3, q4_4, q4_5, q4_6, q4_7, q4_8⟩ := box_3 HC4.out
      go_wp2_with fail
      all_goals
        refine (K6.out _).mono ?_
        rintro e w5 ⟨rfl, hB⟩
        have HB5 := Lib.hid (HB4.out.trans (hB.mono HB4.out.size))
        have HC5 := Lib.hid (HC4.out.trans (hB.mono HC4.out.size))
        obtain ⟨q5_0, q5_1, q5_2, q5_3, q5_4, q5_5, q5_6, q5_7, q5_8⟩ := box_3 HC5.out
        clear hB
        unfold rve
        go_wp2
        exact bodyPost_ret (v := rve R) (by simp [results, Try.results27, go_sem, q5_4, q5_5, rve]) rfl ⟨rfl, (HB5.out.setCell (p := ⟨w.heap.size + 2, 0, none⟩) (by simp) _).setCell (p := ⟨w.heap.size + 2, 1, none⟩) (by simp) _⟩

end Go.Proofs.Ytloddocibfbkpaa
