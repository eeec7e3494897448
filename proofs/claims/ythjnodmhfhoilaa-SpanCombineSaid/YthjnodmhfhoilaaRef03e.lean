/- Contracts of priorartref03: Mul, whole. -/
import Derived.Test.YthjnodmhfhoilaaRef03d
namespace Go.Proofs.Ythjnodmhfhoilaa
open Go.RowKit Go.Shelf

/-- What Mul returns. -/
def mulR (a b c d : Int) : Int × Int × Int := if Qm.bothI a b c d = 0 then Qm.ofR (a * c) (b * d) else (0, 0, 1)

/-- A part of a number: its sign and its bounds. -/
theorem part_pos {a G M : Int} (hG : 1 ≤ G) (hd : G ∣ a) (h : 0 < a) (hM : a ≤ M) : 1 ≤ a / G ∧ a / G ≤ M := by
  have h1 : 0 < a / G := Int.ediv_pos_of_pos_of_dvd h (by omega) hd
  have h2 := (ediv_le (a := a) (M := M) hG (by omega) hM).2
  omega

theorem part_neg {a G M : Int} (hG : 1 ≤ G) (hd : G ∣ a) (h : a < 0) (hM : -M ≤ a) : 1 ≤ -(a / G) ∧ -(a / G) ≤ M := by
  have h1 := part_pos hG ((Int.dvd_neg).2 hd) (show 0 < -a by omega) (show -a ≤ M by omega)
  rw [Int.neg_ediv_of_dvd hd] at h1
  exact h1

/-- The product of two ratios, by its parts. -/
theorem mul_parts {a b c d : Int} (o : Qm.Ok a b) (o' : Qm.Ok c d) :
    Qm.ofR (a * c) (b * d) = (if a / Qm.g a d * (c / Qm.g c b) > 1099511627776 ∨ a / Qm.g a d * (c / Qm.g c b) < -1099511627776 ∨ b / Qm.g c b * (d / Qm.g a d) > 1048576 then (0, 0, 5) else (a / Qm.g a d * (c / Qm.g c b), b / Qm.g c b * (d / Qm.g a d), 0)) ∧
    Qm.ofR (a / Qm.g a d * (c / Qm.g c b)) (b / Qm.g c b * (d / Qm.g a d)) = Qm.ofR (a * c) (b * d) ∧ 1 ≤ b / Qm.g c b ∧ b / Qm.g c b ≤ 1048576 ∧ 1 ≤ d / Qm.g a d ∧ d / Qm.g a d ≤ 1048576 := by
  have hb := o.1
  have hd := o'.1
  have p1 := part_pos (Qm.g_pos (a := c) (b := b) (by omega)) (Qm.g_right c b) (by omega) o.2.1
  have p2 := part_pos (Qm.g_pos (a := a) (b := d) (by omega)) (Qm.g_right a d) (by omega) o'.2.1
  have p3 := Qm.mul_pos p1.1 p1.2 p2.1 p2.2
  have p4 := Qm.mul_pos hb o.2.1 hd o'.2.1
  have e := Qm.ofR_same (n := a * c) (d := b * d) (n' := a / Qm.g a d * (c / Qm.g c b)) (d' := b / Qm.g c b * (d / Qm.g a d)) (by omega) (by omega) (Qm.cross_same (by omega) (by omega))
  refine ⟨?_, e.symm, p1.1, p1.2, p2.1, p2.2⟩
  rw [e]
  exact Qm.ofR_lowest (by omega) (Qm.g_cross o.2.2.2.2 o'.2.2.2.2 (by omega) (by omega))

theorem ofR_zero {d : Int} (h : d ≠ 0) : Qm.ofR 0 d = (0, 1, 0) := Qm.ofR_is h ⟨by decide, by decide, by decide, by decide, by decide⟩ (by simp)



end Go.Proofs.Ythjnodmhfhoilaa
