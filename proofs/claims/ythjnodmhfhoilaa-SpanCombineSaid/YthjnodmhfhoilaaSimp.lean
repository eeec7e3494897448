/- Plain mathematics of the simplest fraction between two. -/
import Derived.Test.YthjnodmhfhoilaaQmath
namespace Go.Proofs.Ythjnodmhfhoilaa.Qm
open Go.RowKit

/-- (p, q) is the simplest fraction between a/b and c/d (d may be 0): the least of each. -/
def Simp (a b c d p q : Int) : Prop := 1 ≤ q ∧ a * q < p * b ∧ p * d < c * q ∧ ∀ p' q' : Int, 1 ≤ q' → a * q' < p' * b → p' * d < c * q' → q ≤ q' ∧ p ≤ p'

/-- An integer lies between. -/
theorem simp_int {a b c d : Int} (ha : 0 ≤ a) (hb : 1 ≤ b) (_hd : 0 ≤ d) (h : (a / b + 1) * d < c) : Simp a b c d (a / b + 1) 1 := by
  have e := Int.mul_ediv_add_emod a b
  have e1 := Int.emod_nonneg a (by omega : b ≠ 0)
  have e2 := Int.emod_lt_of_pos a (by omega : 0 < b)
  have hq0 : 0 ≤ a / b := Int.ediv_nonneg ha (by omega)
  refine ⟨by omega, ?_, by omega, ?_⟩
  · rw [Int.add_mul, Int.mul_comm (a / b) b]; omega
  · intro p' q' hq hl hr
    refine ⟨hq, ?_⟩
    have h1 : b * (a / b) ≤ a := by omega
    have h2 : b * (a / b) * q' ≤ a * q' := Int.mul_le_mul_of_nonneg_right h1 (by omega)
    have h3 : a / b * q' * b < p' * b := by
      have : a / b * q' * b = b * (a / b) * q' := by ac_rfl
      omega
    have h4 : a / b * q' < p' := Int.lt_of_mul_lt_mul_right h3 (by omega)
    have h5 : a / b * 1 ≤ a / b * q' := Int.mul_le_mul_of_nonneg_left hq hq0
    omega

/-- No integer lies between: the reciprocals of what exceeds it. -/
theorem simp_frac {a b c d u v : Int} (ha : 0 ≤ a) (hb : 1 ≤ b) (hd : 1 ≤ d) (hlt : a * d < c * b)
    (hs : Simp d (c - a / b * d) b (a - a / b * b) u v) : Simp a b c d (a / b * u + v) u := by
  have e := Int.mul_ediv_add_emod a b
  have e1 := Int.emod_nonneg a (by omega : b ≠ 0)
  have e2 := Int.emod_lt_of_pos a (by omega : 0 < b)
  have hk0 : 0 ≤ a / b := Int.ediv_nonneg ha (by omega)
  generalize hk : a / b = k at *
  obtain ⟨h1, h2, h3, h4⟩ := hs
  rw [Int.mul_comm b k] at e
  have hf : 0 ≤ a - k * b := by omega
  rw [Int.mul_sub] at h2 h3
  have hv0 : 0 < v := by omega
  have f1 : u * (k * b) = k * u * b := by ac_rfl
  have f2 : u * (k * d) = k * u * d := by ac_rfl
  have hu1 : 1 ≤ u := by
    rcases Int.lt_or_le 0 u with h | h
    · exact h
    · exfalso
      have g0 : 0 ≤ c - k * d := by
        have : k * b * d ≤ a * d := Int.mul_le_mul_of_nonneg_right (by omega) (by omega)
        have g1 : k * d * b < c * b := by
          have : k * d * b = k * b * d := by ac_rfl
          omega
        have := Int.lt_of_mul_lt_mul_right g1 (by omega)
        omega
      have g1 : u * (c - k * d) ≤ 0 := Int.mul_nonpos_of_nonpos_of_nonneg h g0
      rw [Int.mul_sub] at g1
      have g2 : 0 < d * v := Int.mul_pos (by omega) hv0
      omega
  refine ⟨hu1, ?_, ?_, ?_⟩
  · rw [Int.add_mul]
    have f3 : a * u = u * a := Int.mul_comm _ _
    have f4 : v * b = b * v := Int.mul_comm _ _
    omega
  · rw [Int.add_mul]
    have f3 : c * u = u * c := Int.mul_comm _ _
    have f4 : v * d = d * v := Int.mul_comm _ _
    omega
  · intro p' q' hq hl hr
    have g1 : k * q' < p' := by
      have : k * b * q' ≤ a * q' := Int.mul_le_mul_of_nonneg_right (by omega) (by omega)
      have g1 : k * q' * b < p' * b := by
        have : k * q' * b = k * b * q' := by ac_rfl
        omega
      exact Int.lt_of_mul_lt_mul_right g1 (by omega)
    have := h4 q' (p' - k * q') (by omega) (by
      rw [Int.mul_sub, Int.mul_sub]
      have : d * (k * q') = q' * (k * d) := by ac_rfl
      have : d * p' = p' * d := Int.mul_comm _ _
      have : q' * c = c * q' := Int.mul_comm _ _
      omega) (by
      rw [Int.mul_sub, Int.mul_sub]
      have : b * (k * q') = q' * (k * b) := by ac_rfl
      have : b * p' = p' * b := Int.mul_comm _ _
      have : q' * a = a * q' := Int.mul_comm _ _
      omega)
    refine ⟨this.2, ?_⟩
    have g2 : k * u ≤ k * q' := Int.mul_le_mul_of_nonneg_left this.2 hk0
    have g3 := this.1
    omega

/-- At most the mediant. -/
theorem Simp.le {a b c d p q : Int} (h : Simp a b c d p q) (hb : 1 ≤ b) (hd : 1 ≤ d) (hlt : a * d < c * b) : q ≤ b + d ∧ p ≤ a + c := by
  obtain ⟨_, _, _, h4⟩ := h
  refine h4 (a + c) (b + d) (by omega) ?_ ?_
  · rw [Int.mul_add, Int.add_mul]; omega
  · rw [Int.mul_add, Int.add_mul]; omega

/-- There is but one. -/
theorem Simp.one {a b c d p q p' q' : Int} (h : Simp a b c d p q) (h' : Simp a b c d p' q') : p = p' ∧ q = q' := by
  have h1 := h.2.2.2 p' q' h'.1 h'.2.1 h'.2.2.1
  have h2 := h'.2.2.2 p q h.1 h.2.1 h.2.2.1
  omega

/-- Above 0. -/
theorem Simp.pos {a b c d p q : Int} (h : Simp a b c d p q) (ha : 0 ≤ a) (hb : 1 ≤ b) : 1 ≤ p := by
  obtain ⟨h1, h2, _⟩ := h
  have h3 : 0 ≤ a * q := Int.mul_nonneg ha (by omega)
  have h4 : 0 * b < p * b := by omega
  have := Int.lt_of_mul_lt_mul_right h4 (by omega)
  omega

/-- In lowest terms. -/
theorem Simp.low {a b c d p q : Int} (h : Simp a b c d p q) : g p q = 1 := by
  have hg := g_pos (a := p) (b := q) (by have := h.1; omega)
  obtain ⟨p', hp⟩ := g_left p q
  obtain ⟨q', hq⟩ := g_right p q
  obtain ⟨h1, h2, h3, h4⟩ := h
  generalize g p q = G at *
  have hq' : 1 ≤ q' := by
    rcases Int.lt_or_le 0 q' with h | h
    · exact h
    · have := Int.mul_nonpos_of_nonneg_of_nonpos (show 0 ≤ G by omega) h
      omega
  have k1 : a * q' < p' * b := by
    have : a * q' * G < p' * b * G := by
      have e1 : a * q' * G = a * (G * q') := by ac_rfl
      have e2 : p' * b * G = G * p' * b := by ac_rfl
      rw [e1, e2, ← hq, ← hp]; exact h2
    exact Int.lt_of_mul_lt_mul_right this (by omega)
  have k2 : p' * d < c * q' := by
    have : p' * d * G < c * q' * G := by
      have e1 : c * q' * G = c * (G * q') := by ac_rfl
      have e2 : p' * d * G = G * p' * d := by ac_rfl
      rw [e1, e2, ← hq, ← hp]; exact h3
    exact Int.lt_of_mul_lt_mul_right this (by omega)
  have := (h4 p' q' hq' k1 k2).1
  rcases Int.lt_or_le 1 G with h | h
  · have : 2 * q' ≤ G * q' := Int.mul_le_mul_of_nonneg_right (by omega) (by omega)
    omega
  · omega

/-- What the step to the reciprocals keeps. -/
theorem simp_step {a b c d : Int} (ha : 0 ≤ a) (hb : 1 ≤ b) (hd : 0 ≤ d) (hlt : a * d < c * b) (h : ¬ (a / b + 1) * d < c) :
    1 ≤ d ∧ 0 ≤ a / b ∧ a / b ≤ a ∧ 0 ≤ a - a / b * b ∧ a - a / b * b < b ∧ 1 ≤ c - a / b * d ∧ c - a / b * d ≤ d ∧ d * (a - a / b * b) < b * (c - a / b * d) := by
  have e := Int.mul_ediv_add_emod a b
  have e1 := Int.emod_nonneg a (by omega : b ≠ 0)
  have e2 := Int.emod_lt_of_pos a (by omega : 0 < b)
  have hk0 : 0 ≤ a / b := Int.ediv_nonneg ha (by omega)
  have hk1 : a / b ≤ a := Int.ediv_le_self _ ha
  generalize a / b = k at *
  rw [Int.add_mul, Int.one_mul] at h
  rw [Int.mul_comm b k] at e
  have hd1 : 1 ≤ d := by
    rcases Int.lt_or_le 0 d with h0 | h0
    · exact h0
    · have : d = 0 := by omega
      subst this
      simp only [Int.mul_zero] at *
      have : c ≤ 0 := by omega
      have := Int.mul_nonpos_of_nonpos_of_nonneg this (show 0 ≤ b by omega)
      omega
  have g1 : k * b * d ≤ a * d := Int.mul_le_mul_of_nonneg_right (by omega) (by omega)
  have g2 : k * d * b < c * b := by
    have : k * d * b = k * b * d := by ac_rfl
    omega
  have g3 : k * d < c := Int.lt_of_mul_lt_mul_right g2 (by omega)
  refine ⟨hd1, hk0, hk1, by omega, by omega, by omega, by omega, ?_⟩
  rw [Int.mul_sub, Int.mul_sub]
  have f1 : d * (k * b) = k * b * d := by ac_rfl
  have f2 : b * (k * d) = k * b * d := by ac_rfl
  have f3 : d * a = a * d := Int.mul_comm _ _
  have f4 : b * c = c * b := Int.mul_comm _ _
  omega

theorem simp_exists : ∀ (n : Nat) (a b c d : Int), (b + d).toNat ≤ n → 0 ≤ a → 1 ≤ b → 0 ≤ d → a * d < c * b → ∃ p q, Simp a b c d p q := by
  intro n
  induction n with
  | zero => intro a b c d h; omega
  | succ n ih =>
    intro a b c d hn ha hb hd hlt
    by_cases h : (a / b + 1) * d < c
    · exact ⟨_, _, simp_int ha hb hd h⟩
    · obtain ⟨h1, h2, h3, h4, h5, h6, h7, h8⟩ := simp_step ha hb hd hlt h
      obtain ⟨u, v, hs⟩ := ih d (c - a / b * d) b (a - a / b * b) (by omega) hd h6 h4 h8
      exact ⟨_, _, simp_frac ha hb h1 hlt hs⟩

/-- What Between returns of a and b, c and d: the error first. -/
def Btw (a b c d : Int) (R : Int × Int × Int) : Prop :=
  (bothI a b c d = 1 ∧ R = (0, 0, 1)) ∨ (bothI a b c d = 0 ∧ ¬ a * d < c * b ∧ R = (0, 0, 13)) ∨
  (bothI a b c d = 0 ∧ a * d < c * b ∧ ((a < 0 ∧ 0 < c ∧ R = (0, 1, 0)) ∨ (0 ≤ a ∧ ∃ p q, Simp a b c d p q ∧ R = ofR p q) ∨ (a < 0 ∧ c ≤ 0 ∧ ∃ p q, Simp (-c) d (-a) b p q ∧ R = ofR (-p) q)))

theorem Btw.one {a b c d : Int} {R R' : Int × Int × Int} (h : Btw a b c d R) (h' : Btw a b c d R') : R = R' := by
  rcases h with ⟨h1, rfl⟩ | ⟨h1, h2, rfl⟩ | ⟨h1, h2, h3⟩
  · rcases h' with ⟨k1, rfl⟩ | ⟨k1, k2, rfl⟩ | ⟨k1, k2, k3⟩
    · rfl
    · omega
    · omega
  · rcases h' with ⟨k1, rfl⟩ | ⟨k1, k2, rfl⟩ | ⟨k1, k2, k3⟩
    · omega
    · rfl
    · exact absurd k2 h2
  · rcases h' with ⟨k1, rfl⟩ | ⟨k1, k2, rfl⟩ | ⟨k1, k2, k3⟩
    · omega
    · exact absurd h2 k2
    · rcases h3 with ⟨_, _, rfl⟩ | ⟨_, p, q, hs, rfl⟩ | ⟨_, _, p, q, hs, rfl⟩ <;> rcases k3 with ⟨_, _, rfl⟩ | ⟨_, p', q', ks, rfl⟩ | ⟨_, _, p', q', ks, rfl⟩
      · rfl
      · omega
      · omega
      · omega
      · rw [(hs.one ks).1, (hs.one ks).2]
      · omega
      · omega
      · omega
      · rw [(hs.one ks).1, (hs.one ks).2]

/-- The opposite ratio. -/
theorem ofR_negl {p q : Int} (h : 1 ≤ q) : ofR (-p) q = (-(ofR p q).1, (ofR p q).2.1, (ofR p q).2.2) := by
  have hg := g_pos (a := p) (b := q) (by omega)
  have e : g (-p) q = g p q := by unfold g; simp
  rw [ofR_pos (by omega), ofR_pos (by omega), e, Int.neg_ediv_of_dvd (g_left p q)]
  by_cases t : p / g p q > 1099511627776 ∨ p / g p q < -1099511627776 ∨ q / g p q > 1048576
  · rw [if_pos t, if_pos (by omega)]; rfl
  · rw [if_neg t, if_neg (by omega)]

end Go.Proofs.Ythjnodmhfhoilaa.Qm
