/- Plain mathematics of the field laws: ratios that stand for given fractions. -/
import Derived.Test.YtloddocibfbkpaaRef03h
namespace Go.Proofs.Ytloddocibfbkpaa
open Go.RowKit

/-- The ratio p/q is valid, stands for n/d, and is bounded. -/
def Rep (p q n d P Q : Int) : Prop := Qm.Ok p q ∧ 0 < d ∧ p * d = n * q ∧ -P ≤ p ∧ p ≤ P ∧ q ≤ Q

theorem Rep.own {p q P Q : Int} (o : Qm.Ok p q) (h1 : -P ≤ p) (h2 : p ≤ P) (h3 : q ≤ Q) : Rep p q p q P Q := ⟨o, by have := o.1; omega, rfl, h1, h2, h3⟩

theorem Rep.one {x y n d P Q x' y' n' d' P' Q' : Int} (h : Rep x y n d P Q) (h' : Rep x' y' n' d' P' Q') (e : n * d' = n' * d) : x = x' ∧ y = y' := by
  obtain ⟨o, hd, hv, _⟩ := h
  obtain ⟨o', hd', hv', _⟩ := h'
  refine Qm.ok_same o o' ?_
  have hdd : 0 < d * d' := Int.mul_pos hd hd'
  apply Int.eq_of_mul_eq_mul_right (a := d * d') (by omega)
  calc x * y' * (d * d') = (x * d) * (y' * d') := by ac_rfl
    _ = (n * d') * (y * y') := by rw [hv]; ac_rfl
    _ = (x' * d') * (y * d) := by rw [e, hv']; ac_rfl
    _ = x' * y * (d * d') := by ac_rfl

/-- A fraction that fits. -/
theorem Rep.of {n d N D : Int} (h1 : -N ≤ n) (h2 : n ≤ N) (h3 : 1 ≤ d) (h4 : d ≤ D) (hN : N ≤ 1099511627776) (hD : D ≤ 1048576) : ∃ x y, Qm.ofR n d = (x, y, 0) ∧ Rep x y n d N D := by
  have hg := Qm.g_pos (a := n) (b := d) (by omega)
  have b1 := ediv_le (M := N) hg h1 h2
  have b2 := ediv_le (M := D) hg (show -D ≤ d by omega) h4
  have e : Qm.ofR n d = (n / Qm.g n d, d / Qm.g n d, 0) := by rw [Qm.ofR_pos (by omega), if_neg (by omega)]
  rcases Qm.ofR_out (n := n) (d := d) (by omega) with e' | ⟨a, b, e', o, hv⟩
  · rw [e] at e'
    simp at e'
  · rw [e] at e'
    simp only [Prod.mk.injEq, and_true] at e'
    refine ⟨_, _, e, ?_, by omega, ?_, b1.1, b1.2, b2.2⟩
    · rw [e'.1, e'.2]; exact o
    · rw [e'.1, e'.2]; exact hv

theorem abs_mul_le {a b A B : Int} (h1 : -A ≤ a) (h2 : a ≤ A) (h3 : -B ≤ b) (h4 : b ≤ B) : -(A * B) ≤ a * b ∧ a * b ≤ A * B := by
  have hA : 0 ≤ A := by omega
  have e1 : (a * b).natAbs = a.natAbs * b.natAbs := Int.natAbs_mul a b
  have e2 : a.natAbs * b.natAbs ≤ A.natAbs * B.natAbs := Nat.mul_le_mul (by omega) (by omega)
  have e3 : (A * B).natAbs = A.natAbs * B.natAbs := Int.natAbs_mul A B
  have e4 : 0 ≤ A * B := Int.mul_nonneg hA (by omega)
  omega

theorem Rep.add {p q n d P Q r s m e R S : Int} (h : Rep p q n d P Q) (k : Rep r s m e R S) (hN : P * S + R * Q ≤ 1099511627776) (hD : Q * S ≤ 1048576) : ∃ x y, addR p q r s = (x, y, 0) ∧ Rep x y (n * e + m * d) (d * e) (P * S + R * Q) (Q * S) := by
  obtain ⟨o, hd, hv, b1, b2, b3⟩ := h
  obtain ⟨o', he, kv, c1, c2, c3⟩ := k
  have o1 := o.1; have o1' := o'.1
  have m1 := abs_mul_le (a := p) (b := s) b1 b2 (show -S ≤ s by omega) c3
  have m2 := abs_mul_le (a := r) (b := q) c1 c2 (show -Q ≤ q by omega) b3
  have m3 := abs_mul_le (a := q) (b := s) (show -Q ≤ q by omega) b3 (show -S ≤ s by omega) c3
  have m4 : 0 < q * s := Int.mul_pos (by omega) (by omega)
  have hE : addR p q r s = Qm.ofR (p * s + r * q) (q * s) := by unfold addR; rw [if_pos (Qm.bothI_ok.2 ⟨o, o'⟩)]
  obtain ⟨x, y, e1, ho, _, hv2, hb⟩ := Rep.of (n := p * s + r * q) (d := q * s) (N := P * S + R * Q) (D := Q * S) (by omega) (by omega) (by omega) (by omega) hN hD
  refine ⟨x, y, hE.trans e1, ho, Int.mul_pos hd he, ?_, hb⟩
  apply Int.eq_of_mul_eq_mul_right (a := q * s) (by omega)
  calc x * (d * e) * (q * s) = (x * (q * s)) * (d * e) := by ac_rfl
    _ = ((p * d) * (s * e) + (r * e) * (q * d)) * y := by rw [hv2]; simp only [Int.add_mul]; congr 1 <;> ac_rfl
    _ = (n * e + m * d) * y * (q * s) := by rw [hv, kv]; simp only [Int.add_mul]; congr 1 <;> ac_rfl

theorem Rep.mul {p q n d P Q r s m e R S : Int} (h : Rep p q n d P Q) (k : Rep r s m e R S) (hN : P * R ≤ 1099511627776) (hD : Q * S ≤ 1048576) : ∃ x y, mulR p q r s = (x, y, 0) ∧ Rep x y (n * m) (d * e) (P * R) (Q * S) := by
  obtain ⟨o, hd, hv, b1, b2, b3⟩ := h
  obtain ⟨o', he, kv, c1, c2, c3⟩ := k
  have o1 := o.1; have o1' := o'.1
  have m1 := abs_mul_le (a := p) (b := r) b1 b2 c1 c2
  have m3 := abs_mul_le (a := q) (b := s) (show -Q ≤ q by omega) b3 (show -S ≤ s by omega) c3
  have m4 : 0 < q * s := Int.mul_pos (by omega) (by omega)
  have hE : mulR p q r s = Qm.ofR (p * r) (q * s) := by unfold mulR; rw [if_pos (Qm.bothI_ok.2 ⟨o, o'⟩)]
  obtain ⟨x, y, e1, ho, _, hv2, hb⟩ := Rep.of (n := p * r) (d := q * s) (N := P * R) (D := Q * S) (by omega) (by omega) (by omega) (by omega) hN hD
  refine ⟨x, y, hE.trans e1, ho, Int.mul_pos hd he, ?_, hb⟩
  apply Int.eq_of_mul_eq_mul_right (a := q * s) (by omega)
  calc x * (d * e) * (q * s) = (x * (q * s)) * (d * e) := by ac_rfl
    _ = ((p * d) * (r * e)) * y := by rw [hv2]; ac_rfl
    _ = n * m * y * (q * s) := by rw [hv, kv]; ac_rfl

theorem Rep.neg {p q n d P Q : Int} (h : Rep p q n d P Q) : Rep (-p) q (-n) d P Q := by
  obtain ⟨o, hd, hv, b1, b2, b3⟩ := h
  refine ⟨⟨o.1, o.2.1, by have := o.2.2.2.1; omega, by have := o.2.2.1; omega, by have := o.2.2.2.2; unfold Qm.g at *; simpa using this⟩, hd, ?_, by omega, by omega, b3⟩
  rw [Int.neg_mul, hv, Int.neg_mul]

theorem lt_scale {x y u v K L : Int} (hK : 0 < K) (hL : 0 < L) (h1 : x * K = u * L) (h2 : y * K = v * L) : x < y ↔ u < v := by
  rw [← Int.mul_lt_mul_right hK, h1, h2, Int.mul_lt_mul_right hL]

theorem cmpI_val {p q n d P Q r s m e R S : Int} (h : Rep p q n d P Q) (k : Rep r s m e R S) : Qm.cmpI p q r s = Qm.cmpI n d m e := by
  obtain ⟨o, hd, hv, _⟩ := h
  obtain ⟨o', he, kv, _⟩ := k
  have o1 := o.1; have o1' := o'.1
  have e1 : p * s * (d * e) = n * e * (q * s) := by
    calc p * s * (d * e) = (p * d) * (s * e) := by ac_rfl
      _ = n * e * (q * s) := by rw [hv]; ac_rfl
  have e2 : r * q * (d * e) = m * d * (q * s) := by
    calc r * q * (d * e) = (r * e) * (q * d) := by ac_rfl
      _ = m * d * (q * s) := by rw [kv]; ac_rfl
  have hK : 0 < d * e := Int.mul_pos hd he
  have hL : 0 < q * s := Int.mul_pos (by omega) (by omega)
  have g1 := lt_scale hK hL e1 e2
  have g2 := lt_scale hK hL e2 e1
  unfold Qm.cmpI
  by_cases t1 : p * s < r * q
  · rw [if_pos t1, if_pos (g1.1 t1)]
  · rw [if_neg t1, if_neg (fun h => t1 (g1.2 h))]
    by_cases t2 : r * q < p * s
    · rw [if_pos t2, if_pos (g2.1 t2)]
    · rw [if_neg t2, if_neg (fun h => t2 (g2.2 h))]

theorem cmpI_anti (a b c d : Int) : Qm.cmpI c d a b = -Qm.cmpI a b c d := by
  unfold Qm.cmpI
  split <;> split <;> (try split) <;> omega

theorem cmpI_zero {a b c d : Int} (o : Qm.Ok a b) (o' : Qm.Ok c d) : Qm.cmpI a b c d = 0 ↔ a = c ∧ b = d := by
  unfold Qm.cmpI
  constructor
  · intro h
    refine Qm.ok_same o o' ?_
    split at h
    · omega
    · split at h
      · omega
      · omega
  · rintro ⟨rfl, rfl⟩
    simp

/-- Equal differences of cross products, up to a factor above 0. -/
theorem cmpI_diff {n d m e a b c f K : Int} (hK : 0 < K) (h : n * e - m * d = (a * f - c * b) * K) : Qm.cmpI n d m e = Qm.cmpI a b c f := by
  have g1 : n * e < m * d ↔ a * f < c * b := by
    constructor
    · intro h1
      rcases Int.lt_or_le (a * f) (c * b) with h2 | h2
      · exact h2
      · have : 0 ≤ (a * f - c * b) * K := Int.mul_nonneg (by omega) (by omega)
        omega
    · intro h1
      have : (a * f - c * b) * K < 0 := Int.mul_neg_of_neg_of_pos (by omega) hK
      omega
  have g2 : m * d < n * e ↔ c * b < a * f := by
    constructor
    · intro h1
      rcases Int.lt_or_le (c * b) (a * f) with h2 | h2
      · exact h2
      · have : (a * f - c * b) * K ≤ 0 := Int.mul_nonpos_of_nonpos_of_nonneg (by omega) (by omega)
        omega
    · intro h1
      have : 0 < (a * f - c * b) * K := Int.mul_pos (by omega) hK
      omega
  unfold Qm.cmpI
  by_cases t1 : n * e < m * d
  · rw [if_pos t1, if_pos (g1.1 t1)]
  · rw [if_neg t1, if_neg (fun h => t1 (g1.2 h))]
    by_cases t2 : m * d < n * e
    · rw [if_pos t2, if_pos (g2.1 t2)]
    · rw [if_neg t2, if_neg (fun h => t2 (g2.2 h))]

theorem id_assoc (a b c d e f : Int) : ((a * d + c * b) * f + e * (b * d)) * (b * (d * f)) = (a * (d * f) + (c * f + e * d) * b) * (b * d * f) := by grind
theorem id_back (a b c d : Int) : ((a * d + c * b) * d + -c * (b * d)) * b = a * (b * d * d) := by grind
theorem id_dist (a b c d e f : Int) : (a * c * (b * f) + a * e * (b * d)) * (b * (d * f)) = a * (c * f + e * d) * (b * d * (b * f)) := by grind
theorem id_left (a b c d e f : Int) : ((a * d + c * b) * f + e * (b * d)) * (d * f) - (c * f + e * d) * (b * d * f) = (a * 1 - 0 * b) * (d * f * (d * f)) := by grind
theorem id_keep (a b c d e f : Int) : (a * f + e * b) * (d * f) - (c * f + e * d) * (b * f) = (a * d - c * b) * (f * f) := by grind

end Go.Proofs.Ytloddocibfbkpaa
