/- Contracts of priorartref03: Neg, New, Add, Mul, Inverse, Div, Part. -/
import Derived.Test.YthjnodmhfhoilaaRef03b
namespace Go.Proofs.Ythjnodmhfhoilaa
open Go.RowKit Go.Shelf


/-- What Add returns. -/
def addR (a b c d : Int) : Int × Int × Int := if Qm.bothI a b c d = 0 then Qm.ofR (a * d + c * b) (b * d) else (0, 0, 1)


/-- What New returns is halved first. -/
theorem new_two {p q : Int} (hp : p.tmod 2 = 0) (hq : q.tmod 2 = 0) (h : q ≠ 0) : 2 * p.tdiv 2 = p ∧ 2 * q.tdiv 2 = q ∧ q.tdiv 2 ≠ 0 ∧ Qm.ofR (p.tdiv 2) (q.tdiv 2) = Qm.ofR p q := by
  have e1 := Int.mul_tdiv_add_tmod p 2
  have e2 := Int.mul_tdiv_add_tmod q 2
  have h3 : q.tdiv 2 ≠ 0 := by intro h0; rw [h0] at e2; omega
  refine ⟨by omega, by omega, h3, ?_⟩
  have e := Qm.ofR_mul (k := 2) (n := p.tdiv 2) (by omega) h3
  rw [← e]
  congr 1 <;> omega


end Go.Proofs.Ythjnodmhfhoilaa
