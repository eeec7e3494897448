/- The law RatioParts. -/
import Derived.Test.YtloddocibfbkpaaDoorRat8
import Derived.Test.YtloddocibfbkpaaDoorBox
namespace Go.Proofs.YtloddocibfbkpaaDoor
open Go.RowKit Go.Shelf

/-- The examples of the section hold. -/
def Lives : Prop := ∀ w, Calls Tryd.prog 12 #[] w fun e w' => e = .returned (.bool true) ∧ Below w.heap.size w w'

theorem parts_ok {x d : Int} (o : Qm.Ok x d) (h0 : 0 ≤ x) (h1 : x ≤ d) : addR 1 1 (negI x) d = (d - x, d, 0) ∧ Qm.Ok (d - x) d := by
  have o1 := o.1; have o2 := o.2.1; have o3 := o.2.2.1; have o4 := o.2.2.2.1; have o5 := o.2.2.2.2
  rw [negI_of (by omega) (by omega)]
  have og : Qm.Ok (-x) d := ⟨o1, o2, by omega, by omega, by unfold Qm.g at *; simpa using o5⟩
  have oh : Qm.Ok (d - x) d := by
    refine ⟨o1, o2, by omega, by omega, ?_⟩
    unfold Qm.g at *
    rw [show d - x = -(x - d) by omega, Int.neg_gcd, Int.gcd_sub_self_left]
    exact o5
  have e : Qm.bothI 1 1 (-x) d = 0 := Qm.bothI_ok.2 ⟨⟨by decide, by decide, by decide, by decide, by decide⟩, og⟩
  refine ⟨?_, oh⟩
  unfold addR
  rw [if_pos e, show 1 * d + -x * 1 = d - x by omega, Int.one_mul]
  exact Qm.ofR_ok oh

theorem parts_fit {W x d : Int} (o : Qm.Ok x d) (h0 : 0 ≤ x) (h1 : x ≤ d) (hW : 0 ≤ W) (hW2 : W ≤ 1099511627776) : partR W x d = (W * x / d, 0) ∧ 0 ≤ W * x / d ∧ W * x / d ≤ 1099511627776 := by
  have o1 := o.1
  have a1 : 0 ≤ W * x := Int.mul_nonneg hW h0
  have a2 : W * x ≤ W * d := Int.mul_le_mul_of_nonneg_left h1 hW
  have a3 : 0 ≤ W * x / d := Int.ediv_nonneg a1 (by omega)
  have a4 : W * x / d ≤ W := Int.ediv_le_of_le_mul (by omega) a2
  refine ⟨?_, a3, by omega⟩
  unfold partR
  rw [if_pos ⟨o, hW, hW2, h0⟩, if_neg (by omega)]

theorem parts_sum {W x d : Int} (hd : 1 ≤ d) : (W * x / d + W * (d - x) / d = W ∨ W * x / d + W * (d - x) / d = W - 1) ∧ (W % d = 0 → W * x / d + W * (d - x) / d = W) := by
  have e1 := Int.mul_ediv_add_emod (W * x) d
  have e2 := Int.mul_ediv_add_emod (W * (d - x)) d
  have f1 := Int.emod_nonneg (W * x) (by omega : d ≠ 0)
  have f2 := Int.emod_lt_of_pos (W * x) (by omega : 0 < d)
  have f3 := Int.emod_nonneg (W * (d - x)) (by omega : d ≠ 0)
  have f4 := Int.emod_lt_of_pos (W * (d - x)) (by omega : 0 < d)
  have e3 : W * (d - x) = d * W - W * x := by rw [Int.mul_sub, Int.mul_comm W d]
  constructor
  · generalize W * x / d = p at *
    generalize W * (d - x) / d = q at *
    have g1 : d * (p + q) ≤ d * W := by rw [Int.mul_add]; omega
    have g2 : d * (W - 1) ≤ d * (p + q) + (d - 1) := by rw [Int.mul_add, Int.mul_sub]; omega
    have h1 : p + q ≤ W := Int.le_of_mul_le_mul_left g1 (by omega)
    have h2 : W - 2 < p + q := by
      have : d * (W - 2) < d * (p + q) := by rw [Int.mul_sub] at *; omega
      exact Int.lt_of_mul_lt_mul_left this (by omega)
    omega
  · intro hm
    obtain ⟨t, rfl⟩ := Int.dvd_of_emod_eq_zero hm
    rw [show d * t * x = d * (t * x) by ac_rfl, show d * t * (d - x) = d * (t * (d - x)) by ac_rfl, Int.mul_ediv_cancel_left _ (by omega), Int.mul_ediv_cancel_left _ (by omega), ← Int.mul_add, show x + (d - x) = d by omega, Int.mul_comm]

/-- What the law's last test asks. -/
def PartsQ (a b W den : Int) : Prop := (Hid (a + b = W) ∧ True) ∨ (Hid (a + b = W - 1) ∧ W % den ≠ 0)



end Go.Proofs.YtloddocibfbkpaaDoor
