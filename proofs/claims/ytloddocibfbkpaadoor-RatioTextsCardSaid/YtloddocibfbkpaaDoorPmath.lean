/- Mathematics of Parse: reading digits, as parseP has it. -/
import Derived.Test.YtloddocibfbkpaaDoorPar2
import Derived.Test.YtloddocibfbkpaaDoorPdef
namespace Go.Proofs.YtloddocibfbkpaaDoor
open Go.RowKit

theorem dg_eq : ∀ (m : Nat) (n p : Int) (l : List UInt8), dg m n p l = (valF n (l.take (min m (cntD l))), p * 10 ^ (min m (cntD l)), l.drop (min m (cntD l))) := by
  intro m
  induction m with
  | zero => intro n p l; rw [dg_zero, Nat.zero_min]; simp [valF]
  | succ m ih =>
    intro n p l
    match l with
    | [] => rw [dg_nil]; simp [valF, cntD]
    | c :: l =>
      by_cases h : 48 ≤ c.toNat ∧ c.toNat ≤ 57
      · have hd := isD_iff.2 h
        rw [dg_go h, ih]
        have e : min (m + 1) (cntD (c :: l)) = min m (cntD l) + 1 := by
          have : cntD (c :: l) = cntD l + 1 := by rw [cntD, if_pos hd]
          omega
        rw [e, List.take_succ_cons, List.drop_succ_cons, Int.pow_succ]
        refine Prod.ext rfl (Prod.ext ?_ rfl)
        show p * 10 * 10 ^ (min m (cntD l)) = p * (10 ^ (min m (cntD l)) * 10)
        ac_rfl
      · have hd : isD c = false := by
          have := mt isD_iff.1 h
          simpa using this
        rw [dg_stop h]
        have e : cntD (c :: l) = 0 := by rw [cntD, hd]; rfl
        rw [e, Nat.min_zero]
        simp [valF]

end Go.Proofs.YtloddocibfbkpaaDoor
