/- The law RatioParts. -/
import Derived.Test.YtloddocibfbkpaaRat8
import Derived.Test.YtloddocibfbkpaaBox
namespace Go.Proofs.Ytloddocibfbkpaa
open Go.RowKit Go.Shelf

/-- The examples of the section hold. -/
def Lives : Prop := ∀ w, Calls Try.prog 19 #[] w fun e w' => e = .returned (.bool true) ∧ Below w.heap.size w w'

theorem parts_ok {x d : Int} (o : Qm.Ok x d) (h0 : 0 ≤ x) (h1 : x ≤ d) : addR 1 1 (negI x) d = (d - x, d, 0) ∧ Qm.Ok (d - x) d := by
  have o1 := o.1; have o2 := o.2.1; have o3 := o.2.2.1; have o4 := o.2.2.2.1; have o5 := o.2.2.2.2
  rw [negI_of (by omega) (by omega)]
  have og : Qm.Ok (-x) d := ⟨o1, o2, by omega, by omega, by unfold Qm.g at *; simpa using o5⟩
  have oh : Qm.Ok (d - x) d := by
    refine ⟨o1, o2, by omega, by omega, ?_⟩
    unfold Qm.g at *
    rw [show d - x = -(x - d) by omega, Int.neg_gcd, Int.gcd_sub_self_left]
    exact o5
  have e : Qm.bothI 1 1 (-x) d = 0 := Qm.bothI_ok.2 ⟨⟨by decide, by decide, by decide, by decide, by decide⟩, og⟩
  refine ⟨?_, oh⟩
  unfold addR
  rw [if_pos e, show 1 * d + -x * 1 = d - x by omega, Int.one_mul]
  exact Qm.ofR_ok oh

theorem parts_fit {W x d : Int} (o : Qm.Ok x d) (h0 : 0 ≤ x) (h1 : x ≤ d) (hW : 0 ≤ W) (hW2 : W ≤ 1099511627776) : partR W x d = (W * x / d, 0) ∧ 0 ≤ W * x / d ∧ W * x / d ≤ 1099511627776 := by
  have o1 := o.1
  have a1 : 0 ≤ W * x := Int.mul_nonneg hW h0
  have a2 : W * x ≤ W * d := Int.mul_le_mul_of_nonneg_left h1 hW
  have a3 : 0 ≤ W * x / d := Int.ediv_nonneg a1 (by omega)
  have a4 : W * x / d ≤ W := Int.ediv_le_of_le_mul (by omega) a2
  refine ⟨?_, a3, by omega⟩
  unfold partR
  rw [if_pos ⟨o, hW, hW2, h0⟩, if_neg (by omega)]

theorem parts_sum {W x d : Int} (hd : 1 ≤ d) : (W * x / d + W * (d - x) / d = W ∨ W * x / d + W * (d - x) / d = W - 1) ∧ (W % d = 0 → W * x / d + W * (d - x) / d = W) := by
  have e1 := Int.mul_ediv_add_emod (W * x) d
  have e2 := Int.mul_ediv_add_emod (W * (d - x)) d
  have f1 := Int.emod_nonneg (W * x) (by omega : d ≠ 0)
  have f2 := Int.emod_lt_of_pos (W * x) (by omega : 0 < d)
  have f3 := Int.emod_nonneg (W * (d - x)) (by omega : d ≠ 0)
  have f4 := Int.emod_lt_of_pos (W * (d - x)) (by omega : 0 < d)
  have e3 : W * (d - x) = d * W - W * x := by rw [Int.mul_sub, Int.mul_comm W d]
  constructor
  · generalize W * x / d = p at *
    generalize W * (d - x) / d = q at *
    have g1 : d * (p + q) ≤ d * W := by rw [Int.mul_add]; omega
    have g2 : d * (W - 1) ≤ d * (p + q) + (d - 1) := by rw [Int.mul_add, Int.mul_sub]; omega
    have h1 : p + q ≤ W := Int.le_of_mul_le_mul_left g1 (by omega)
    have h2 : W - 2 < p + q := by
      have : d * (W - 2) < d * (p + q) := by rw [Int.mul_sub] at *; omega
      exact Int.lt_of_mul_lt_mul_left this (by omega)
    omega
  · intro hm
    obtain ⟨t, rfl⟩ := Int.dvd_of_emod_eq_zero hm
    rw [show d * t * x = d * (t * x) by ac_rfl, show d * t * (d - x) = d * (t * (d - x)) by ac_rfl, Int.mul_ediv_cancel_left _ (by omega), Int.mul_ediv_cancel_left _ (by omega), ← Int.mul_add, show x + (d - x) = d by omega, Int.mul_comm]

/-- What the law's last test asks. -/
def PartsQ (a b W den : Int) : Prop := (Hid (a + b = W) ∧ True) ∨ (Hid (a + b = W - 1) ∧ W % den ≠ 0)

set_option maxHeartbeats 2000000 in
set_option maxRecDepth 100000 in
theorem parts_walk (a0 a1 a2 j x y d W A B : Int) (w : World) (KL : Hid Lives)
    (K1 : Hid (∀ w, Calls Try.prog 14 #[.int .i64 a1, .int .i64 1048576] w fun e w' => e = .returned (.int .i64 j) ∧ w = w'))
    (K2 : Hid (∀ w, Calls Try.prog 14 #[.int .i64 a2, .int .i64 (1 + j + 1)] w fun e w' => e = .returned (.int .i64 x) ∧ w = w'))
    (K3 : Hid (∀ w, Calls Try.prog 9 #[.int .i64 x, .int .i64 (1 + j)] w fun e w' => e = .returned (rve (y, d, 0)) ∧ Below w.heap.size w w'))
    (K4 : Hid (∀ w, Calls Try.prog 28 #[rv 1 1, rv y d] w fun e w' => e = .returned (rve (d - y, d, 0)) ∧ Below w.heap.size w w'))
    (K5 : Hid (∀ w, Calls Try.prog 14 #[.int .i64 a0, .int .i64 1099511627777] w fun e w' => e = .returned (.int .i64 W) ∧ w = w'))
    (K6 : Hid (∀ w, Calls Try.prog 17 #[.int .i64 W, rv y d] w fun e w' => e = .returned (.tuple #[.int .i64 A, .int .i64 0]) ∧ Below w.heap.size w w'))
    (K7 : Hid (∀ w, Calls Try.prog 17 #[.int .i64 W, rv (d - y) d] w fun e w' => e = .returned (.tuple #[.int .i64 B, .int .i64 0]) ∧ Below w.heap.size w w'))
    (hj : 0 ≤ j) (hj2 : j < 1048576) (hW : 0 ≤ W) (hW2 : W < 1099511627777) (hA : 0 ≤ A) (hB : 0 ≤ B) (hQ : PartsQ A B W (1 + j)) :
    Calls Try.prog 7 #[.int .i64 a0, .int .i64 a1, .int .i64 a2] w fun e w' => e = .returned (.bool true) ∧ Below w.heap.size w w' := by
  unfold Lives at KL
  unfold rv rve at *
  generalize d - y = z at *
  go_enter Try.func7, Try.ntmps7
  go_wp2_with fail
  refine (K1.out _).mono ?_
  rintro e w' ⟨rfl, rfl⟩
  go_wp2_with fail
  refine (K2.out _).mono ?_
  rintro e w' ⟨rfl, rfl⟩
  go_wp2_with fail
  refine (K3.out _).mono ?_
  rintro e w1 ⟨rfl, hB1⟩
  go_wp2_with fail
  refine (K4.out _).mono ?_
  rintro e w2 ⟨rfl, hB2⟩
  have X1 := Lib.hid (BoxAt.new hB2)
  have H2 := Lib.hid ((hB1.alloc hB1.size _).trans (hB2.mono (Nat.le_trans hB1.size (by simp))))
  clear hB1 hB2
  obtain ⟨x10, x11, x12, x13, x14⟩ := X1.out
  go_wp2_with fail
  refine (K5.out _).mono ?_
  rintro e w' ⟨rfl, rfl⟩
  go_wp2_with fail
  refine (K6.out _).mono ?_
  rintro e w3 ⟨rfl, hB3⟩
  have X2 := Lib.hid (BoxAt.new hB3)
  have H3 := Lib.hid ((H2.out.alloc H2.out.size _).trans (hB3.mono (Nat.le_trans H2.out.size (by simp))))
  clear hB3
  obtain ⟨x20, x21, x22, x23, x24⟩ := X2.out
  go_wp2_with fail
  refine (K7.out _).mono ?_
  rintro e w4 ⟨rfl, hB4⟩
  have HB4 := Lib.hid (H3.out.trans (hB4.mono H3.out.size))
  clear hB4 x10 x11 x12 x13 x14 x20 x21 x22 x23 x24
  have h0A : decide (0 ≤ A) = true := decide_eq_true hA
  have h0B : decide (0 ≤ B) = true := decide_eq_true hB
  rcases hQ with ⟨hs, _⟩ | ⟨hs, hm⟩
  · have hs' := hs.out
    generalize hq : (W.tmod (1 + j) != 0) = q
    have hq' : (W % (1 + j) != 0) = q := by rw [← hq, Int.tmod_eq_emod_of_nonneg hW]
    clear hq
    cases q
    all_goals
      go_wp2_with fail
      refine (KL.out _).mono ?_
      rintro e w5 ⟨rfl, hB⟩
      have B5 := Lib.hid hB
      have HB5 := Lib.hid (HB4.out.trans (hB.mono HB4.out.size))
      clear hB
      go_wp2
      go_ret
      exact ⟨rfl, HB5.out⟩
  · have hs' := hs.out
    have hne : (W - 1 == W) = false := by simp; omega
    have hq : (W % (1 + j) != 0) = true := by simpa using hm
    clear hm
    go_wp2_with fail
    refine (KL.out _).mono ?_
    rintro e w5 ⟨rfl, hB⟩
    have B5 := Lib.hid hB
    have HB5 := Lib.hid (HB4.out.trans (hB.mono HB4.out.size))
    clear hB
    go_wp2
    go_ret
    exact ⟨rfl, HB5.out⟩

theorem law_parts (a0 a1 a2 : Int) (w : World) (w0 : (Lit.int .i64 a0).wf = true) (w1 : (Lit.int .i64 a1).wf = true) (w2 : (Lit.int .i64 a2).wf = true) (KL : Lives) :
    Calls Try.prog 7 #[.int .i64 a0, .int .i64 a1, .int .i64 a2] w fun e w' => e = .returned (.bool true) ∧ Below w.heap.size w w' := by
  obtain ⟨j1, j2⟩ := aroundI_range a1 1048576 (by omega)
  have k1 := fun w => around_any a1 1048576 w (by omega) (by omega) w1
  generalize aroundI a1 1048576 = j at *
  obtain ⟨x1, x2⟩ := aroundI_range a2 (1 + j + 1) (by omega)
  have k2 := fun w => around_any a2 (1 + j + 1) w (by omega) (by omega) w2
  generalize aroundI a2 (1 + j + 1) = x at *
  obtain ⟨W1, W2⟩ := aroundI_range a0 1099511627777 (by omega)
  have k5 := fun w => around_any a0 1099511627777 w (by omega) (by omega) w0
  generalize aroundI a0 1099511627777 = W at *
  have k3 := fun w => rnew_any x (1 + j) w ⟨by omega, by omega⟩ ⟨by omega, by omega⟩
  have hf := newR_fits (a := x) (d := 1 + j) (by omega) (by omega) (by omega) (by omega)
  have hg := Qm.g_pos (a := x) (b := 1 + j) (by omega)
  have hdv := Qm.g_right x (1 + j)
  have hok : Qm.Ok (x / Qm.g x (1 + j)) ((1 + j) / Qm.g x (1 + j)) := by
    rcases newR_cases x (1 + j) with ⟨o, e⟩ | ⟨_, a, b, e, _⟩ | ⟨_, k, e, h1, h2⟩
    · rw [hf] at e
      simp only [Prod.mk.injEq, and_true] at e
      rw [e.1, e.2]
      exact o
    · rcases Qm.ofR_out (n := x) (d := 1 + j) (by omega) with e' | ⟨a', b', e', o, _⟩
      · have : Qm.newR x (1 + j) = (0, 0, 5) := by unfold Qm.newR; rw [if_neg (by omega)]; exact e'
        rw [hf] at this
        simp at this
      · have : Qm.newR x (1 + j) = (a', b', 0) := by unfold Qm.newR; rw [if_neg (by omega)]; exact e'
        rw [hf] at this
        simp only [Prod.mk.injEq, and_true] at this
        rw [this.1, this.2]
        exact o
    · rw [hf] at e
      simp only [Prod.mk.injEq] at e
      omega
  rw [hf] at k3
  have hy0 : 0 ≤ x / Qm.g x (1 + j) := Int.ediv_nonneg x1 (by omega)
  have hy1 : x / Qm.g x (1 + j) ≤ (1 + j) / Qm.g x (1 + j) := Int.ediv_le_ediv (by omega) (by omega)
  have hdd : (1 + j) / Qm.g x (1 + j) ∣ 1 + j := ⟨Qm.g x (1 + j), (Int.ediv_mul_cancel hdv).symm⟩
  generalize x / Qm.g x (1 + j) = y at *
  generalize (1 + j) / Qm.g x (1 + j) = d at *
  obtain ⟨ha, ho⟩ := parts_ok hok hy0 hy1
  have hd1 := hok.1
  have hd2 := hok.2.1
  have k4 := fun w => rsub_any 1 1 y d w ⟨by omega, by omega⟩ ⟨by omega, by omega⟩ ⟨by omega, by omega⟩
  rw [ha] at k4
  obtain ⟨p1, p2, _⟩ := parts_fit (W := W) hok hy0 hy1 W1 (by omega)
  obtain ⟨q1, q2, _⟩ := parts_fit (W := W) ho (by omega) (by omega) W1 (by omega)
  have k6 := fun w => rpart_any W y d w ⟨by omega, by omega⟩ ⟨by omega, by omega⟩
  have k7 := fun w => rpart_any W (d - y) d w ⟨by omega, by omega⟩ ⟨by omega, by omega⟩
  rw [p1] at k6
  rw [q1] at k7
  obtain ⟨s1, s2⟩ := parts_sum (W := W) (x := y) hd1
  refine parts_walk a0 a1 a2 j x y d W _ _ w (Lib.hid KL) (Lib.hid k1) (Lib.hid k2) (Lib.hid k3) (Lib.hid k4) (Lib.hid k5) (Lib.hid k6) (Lib.hid k7) j1 j2 W1 W2 p2 q2 ?_
  rcases s1 with h | h
  · exact .inl ⟨Lib.hid h, trivial⟩
  · refine .inr ⟨Lib.hid h, fun hm => ?_⟩
    have := s2 (Int.emod_eq_zero_of_dvd (Int.dvd_trans hdd (Int.dvd_of_emod_eq_zero hm)))
    omega

end Go.Proofs.Ytloddocibfbkpaa
