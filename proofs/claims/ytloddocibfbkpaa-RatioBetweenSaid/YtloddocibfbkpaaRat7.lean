/- Contracts of package ratio: Mul. -/
import Derived.Test.YtloddocibfbkpaaRat6
namespace Go.Proofs.Ytloddocibfbkpaa
open Go.RowKit Go.Shelf

theorem absI_eq (n : Int) : absI n = (n.natAbs : Int) := by unfold absI; split <;> omega

theorem mul_big (x y : Int) : (0 < absI x * absI y / 18446744073709551616 ∨ 1099511627776 < absI x * absI y % 18446744073709551616) ↔ (x * y > 1099511627776 ∨ x * y < -1099511627776) := by
  have e : absI x * absI y = ((x * y).natAbs : Int) := by rw [absI_eq, absI_eq, Int.natAbs_mul, Int.natCast_mul]
  rw [e]
  omega

theorem size_q (n : Int) (w : World) (h1 : -1099511627776 ≤ n) (h2 : n ≤ 1099511627776) :
    Calls Try.prog 34 #[.int .i64 n] w fun e w' => e = .returned (.int .u64 (absI n)) ∧ w' = w :=
  (size_any n w (by omega) (by omega)).mono fun _ _ ⟨h1, h2⟩ => ⟨h1, h2.symm⟩

theorem mul64_q (x y : Int) (w : World) (h1 : 0 ≤ x) (h2 : x ≤ 1099511627776) (h3 : 0 ≤ y) (h4 : y ≤ 1099511627776) :
    Calls Try.prog 39 #[.int .u64 x, .int .u64 y] w fun e w' => e = .returned (.tuple #[.int .u64 (x * y / 18446744073709551616), .int .u64 (x * y % 18446744073709551616)]) ∧ w' = w :=
  (mul64_any x y w h1 h2 h3 h4).mono fun _ _ ⟨h1, h2⟩ => ⟨h1, h2.symm⟩

set_option maxHeartbeats 2000000 in
set_option maxRecDepth 100000 in
theorem rmul_walk (a b c d x q y p X Y H L : Int) (R : Int × Int × Int) (w : World)
    (K1 : Hid (∀ w, Calls Try.prog 41 #[.agg #[.int .i64 a, .int .i64 b], .agg #[.int .i64 c, .int .i64 d]] w fun e w' => e = .returned (.int .i64 0) ∧ Below w.heap.size w w'))
    (K2 : Hid (∀ w, Calls Try.prog 9 #[.int .i64 a, .int .i64 d] w fun e w' => e = .returned (.tuple #[.agg #[.int .i64 x, .int .i64 q], .int .i64 0]) ∧ Below w.heap.size w w'))
    (K3 : Hid (∀ w, Calls Try.prog 9 #[.int .i64 c, .int .i64 b] w fun e w' => e = .returned (.tuple #[.agg #[.int .i64 y, .int .i64 p], .int .i64 0]) ∧ Below w.heap.size w w'))
    (K4 : Hid (∀ w, Calls Try.prog 34 #[.int .i64 x] w fun e w' => e = .returned (.int .u64 X) ∧ w' = w))
    (K5 : Hid (∀ w, Calls Try.prog 34 #[.int .i64 y] w fun e w' => e = .returned (.int .u64 Y) ∧ w' = w))
    (K6 : Hid (∀ w, Calls Try.prog 39 #[.int .u64 X, .int .u64 Y] w fun e w' => e = .returned (.tuple #[.int .u64 H, .int .u64 L]) ∧ w' = w))
    (h12 : Hid (¬ (0 < H ∨ 1099511627776 < L) → -9223372036854775807 ≤ x * y ∧ x * y ≤ 9223372036854775807)) (h3 : 0 ≤ q * p) (h4 : q * p ≤ 1099511627776) (hH : 0 ≤ H) (hL : 0 ≤ L)
    (hbig : 0 < H ∨ 1099511627776 < L → Hid (R = (0, 0, 5)))
    (K7 : Hid (¬ (0 < H ∨ 1099511627776 < L) → ∀ w, Calls Try.prog 9 #[.int .i64 (x * y), .int .i64 (q * p)] w fun e w' => e = .returned (rve R) ∧ Below w.heap.size w w')) :
    Calls Try.prog 24 #[.agg #[.int .i64 a, .int .i64 b], .agg #[.int .i64 c, .int .i64 d]] w fun e w' => e = .returned (rve R) ∧ Below w.heap.size w w' := by
  have HB0 := Lib.hid ((((Below.refl w.heap.size w).alloc (Nat.le_refl _) (Obj.cells #[.int .i64 a, .int .i64 b] 26)).alloc (by simp) (Obj.cells #[.int .i64 c, .int .i64 d] 26)).alloc (by simp; omega) (Obj.cells #[.int .i64 0, .int .i64 0] 26))
  have HC0 := Lib.hid (Below.refl (three w (.int .i64 a) (.int .i64 b) (.int .i64 c) (.int .i64 d) (.int .i64 0) (.int .i64 0) 26).heap.size (three w (.int .i64 a) (.int .i64 b) (.int .i64 c) (.int .i64 d) (.int .i64 0) (.int .i64 0) 26))
  by_cases hD : 0 < H ∨ 1099511627776 < L
  · have HE := hbig hD
    clear K7 hbig
    have hD' : 0 < H ∨ (H ≤ 0 ∧ 1099511627776 < L) := by omega
    clear hD
    rcases hD' with t1 | ⟨t1, t2⟩
    all_goals
      go_enter Try.func24, Try.ntmps24
      go_wp2_with fail
      refine (K1.out _).mono ?_
      rintro e w1 ⟨rfl, hB⟩
      have B1 := Lib.hid hB
      have HB1 := Lib.hid (HB0.out.trans (hB.mono HB0.out.size))
      have HC1 := Lib.hid (HC0.out.trans (hB.mono HC0.out.size))
      clear hB
      obtain ⟨q1_0, q1_1, q1_2, q1_3, q1_4, q1_5, q1_6, q1_7, q1_8⟩ := box_3 HC1.out
      go_wp2_with fail
      refine (K2.out _).mono ?_
      rintro e w2 ⟨rfl, hB⟩
      have B2 := Lib.hid hB
      have HB2 := Lib.hid (HB1.out.trans (hB.mono HB1.out.size))
      have HC2 := Lib.hid (HC1.out.trans (hB.mono HC1.out.size))
      clear hB
      obtain ⟨q2_0, q2_1, q2_2, q2_3, q2_4, q2_5, q2_6, q2_7, q2_8⟩ := box_3 HC2.out
      have z1 : w.heap.size < w2.heap.size := by omega
      have z2 : w.heap.size + 1 < w2.heap.size := by omega
      go_wp2_with fail
      refine (K3.out _).mono ?_
      rintro e w3 ⟨rfl, hB⟩
      have HB3 := Lib.hid ((HB2.out.alloc (by omega) _).trans (hB.mono (by simp; omega)))
      have HC3 := Lib.hid ((HC2.out.alloc (by simp; omega) _).trans (hB.mono (by simp; omega)))
      obtain ⟨x0, x1, x2, x3, x4⟩ := box_r hB
      clear hB
      go_wp2_with fail
      obtain ⟨y0, y1, _, _⟩ := cell_new2 w3 (.int .i64 y) (.int .i64 p) 26
      replace x0 := cell_alloc_l (.cells #[.int .i64 y, .int .i64 p] 26) x0
      replace x1 := cell_alloc_l (.cells #[.int .i64 y, .int .i64 p] 26) x1
      clear x2 x3
      replace HB3 := Lib.hid (HB3.out.alloc (by omega) (.cells #[.int .i64 y, .int .i64 p] 26))
      replace HC3 := Lib.hid (HC3.out.alloc (by simp; omega) (.cells #[.int .i64 y, .int .i64 p] 26))
      generalize w3.alloc (.cells #[.int .i64 y, .int .i64 p] 26) = w4 at *
      obtain ⟨q3_0, q3_1, q3_2, q3_3, q3_4, q3_5, q3_6, q3_7, q3_8⟩ := box_3 HC3.out
      go_quiet (first
        | (go_at_call_of 34 (Value.int .i64 x); exact Calls.quiet_of_same (K4.out _))
        | (go_at_call_of 34 (Value.int .i64 y); exact Calls.quiet_of_same (K5.out _))
        | (go_at_call 39; exact Calls.quiet_of_same (K6.out _)))
      replace HB3 := Lib.hid (below_drewN HB3.out nq)
      replace HC3 := Lib.hid (below_drewN HC3.out nq)
      go_wp2
      all_goals
        exact bodyPost_ret (v := rve (0, 0, 5)) (by simp [results, Try.results24, go_sem, q3_4, q3_5, rve]) rfl ⟨by rw [HE.out], (HB3.out.setCell (p := ⟨w.heap.size + 2, 0, none⟩) (by simp) _).setCell (p := ⟨w.heap.size + 2, 1, none⟩) (by simp) _⟩
  · obtain ⟨h1, h2⟩ := h12.out hD
    have k7 := K7.out hD
    have K8 := Lib.hid k7
    have t1 : H ≤ 0 := by omega
    have t2 : L ≤ 1099511627776 := by omega
    clear K7 k7 hbig hD
    go_enter Try.func24, Try.ntmps24
    go_wp2_with fail
    refine (K1.out _).mono ?_
    rintro e w1 ⟨rfl, hB⟩
    have B1 := Lib.hid hB
    have HB1 := Lib.hid (HB0.out.trans (hB.mono HB0.out.size))
    have HC1 := Lib.hid (HC0.out.trans (hB.mono HC0.out.size))
    clear hB
    obtain ⟨q1_0, q1_1, q1_2, q1_3, q1_4, q1_5, q1_6, q1_7, q1_8⟩ := box_3 HC1.out
    go_wp2_with fail
    refine (K2.out _).mono ?_
    rintro e w2 ⟨rfl, hB⟩
    have B2 := Lib.hid hB
    have HB2 := Lib.hid (HB1.out.trans (hB.mono HB1.out.size))
    have HC2 := Lib.hid (HC1.out.trans (hB.mono HC1.out.size))
    clear hB
    obtain ⟨q2_0, q2_1, q2_2, q2_3, q2_4, q2_5, q2_6, q2_7, q2_8⟩ := box_3 HC2.out
    have z1 : w.heap.size < w2.heap.size := by omega
    have z2 : w.heap.size + 1 < w2.heap.size := by omega
    go_wp2_with fail
    refine (K3.out _).mono ?_
    rintro e w3 ⟨rfl, hB⟩
    have HB3 := Lib.hid ((HB2.out.alloc (by omega) _).trans (hB.mono (by simp; omega)))
    have HC3 := Lib.hid ((HC2.out.alloc (by simp; omega) _).trans (hB.mono (by simp; omega)))
    obtain ⟨x0, x1, x2, x3, x4⟩ := box_r hB
    clear hB
    go_wp2_with fail
    obtain ⟨y0, y1, _, _⟩ := cell_new2 w3 (.int .i64 y) (.int .i64 p) 26
    replace x0 := cell_alloc_l (.cells #[.int .i64 y, .int .i64 p] 26) x0
    replace x1 := cell_alloc_l (.cells #[.int .i64 y, .int .i64 p] 26) x1
    clear x2 x3
    replace HB3 := Lib.hid (HB3.out.alloc (by omega) (.cells #[.int .i64 y, .int .i64 p] 26))
    replace HC3 := Lib.hid (HC3.out.alloc (by simp; omega) (.cells #[.int .i64 y, .int .i64 p] 26))
    generalize w3.alloc (.cells #[.int .i64 y, .int .i64 p] 26) = w4 at *
    obtain ⟨q3_0, q3_1, q3_2, q3_3, q3_4, q3_5, q3_6, q3_7, q3_8⟩ := box_3 HC3.out
    go_quiet (first
      | (go_at_call_of 34 (Value.int .i64 x); exact Calls.quiet_of_same (K4.out _))
      | (go_at_call_of 34 (Value.int .i64 y); exact Calls.quiet_of_same (K5.out _))
      | (go_at_call 39; exact Calls.quiet_of_same (K6.out _)))
    replace HB3 := Lib.hid (below_drewN HB3.out nq)
    replace HC3 := Lib.hid (below_drewN HC3.out nq)
    go_wp2_with fail
    all_goals
      refine (K8.out _).mono ?_
      rintro e w5 ⟨rfl, hB⟩
      have HB4 := Lib.hid (HB3.out.trans (hB.mono HB3.out.size))
      have HC4 := Lib.hid (HC3.out.trans (hB.mono HC3.out.size))
      obtain ⟨q4_0, q4_1, q4_2, q4_3, q4_4, q4_5, q4_6, q4_7, q4_8⟩ := box_3 HC4.out
      clear hB
      unfold rve
      go_wp2
      exact bodyPost_ret (v := rve R) (by simp [results, Try.results24, go_sem, q4_4, q4_5, rve]) rfl ⟨rfl, (HB4.out.setCell (p := ⟨w.heap.size + 2, 0, none⟩) (by simp) _).setCell (p := ⟨w.heap.size + 2, 1, none⟩) (by simp) _⟩

end Go.Proofs.Ytloddocibfbkpaa
