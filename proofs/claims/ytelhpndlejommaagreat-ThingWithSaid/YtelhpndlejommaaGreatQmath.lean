/- Plain mathematics of ratios: lowest terms, and what New, Cmp, Add, Mul, Div return, over unbounded integers. -/
import Derived.Test.YtelhpndlejommaaGreatKit
namespace Go.Proofs.YtelhpndlejommaaGreat.Qm
open Go.RowKit

/-- The greatest common divisor, as an integer. -/
def g (a b : Int) : Int := (Int.gcd a b : Int)

theorem g_nonneg (a b : Int) : 0 ≤ g a b := Int.natCast_nonneg _

theorem g_zero (a : Int) : g a 0 = if a < 0 then -a else a := by
  unfold g
  rw [Int.gcd_zero_right]
  split <;> omega

theorem g_step (a b : Int) : g b (a.tmod b) = g a b := by
  unfold g Int.gcd
  rw [Int.natAbs_tmod, Nat.gcd_comm a.natAbs, Nat.gcd_rec b.natAbs a.natAbs, Nat.gcd_comm]

theorem g_left (a b : Int) : g a b ∣ a := Int.gcd_dvd_left ..
theorem g_right (a b : Int) : g a b ∣ b := Int.gcd_dvd_right ..

theorem g_pos {a b : Int} (h : b ≠ 0) : 1 ≤ g a b := by
  have : 0 < Int.gcd a b := Int.gcd_pos_of_ne_zero_right _ h
  unfold g
  omega

/-- Lowest terms, where they fit: numerator, denominator, error. -/
def ofR (n d : Int) : Int × Int × Int :=
  if d < 0 then (if -n / g n d > 1099511627776 ∨ -n / g n d < -1099511627776 ∨ -d / g n d > 1048576 then (0, 0, 5) else (-n / g n d, -d / g n d, 0))
  else (if n / g n d > 1099511627776 ∨ n / g n d < -1099511627776 ∨ d / g n d > 1048576 then (0, 0, 5) else (n / g n d, d / g n d, 0))

/-- Lowest terms for a denominator above 0. -/
theorem ofR_pos {n d : Int} (h : 0 < d) : ofR n d = if n / g n d > 1099511627776 ∨ n / g n d < -1099511627776 ∨ d / g n d > 1048576 then (0, 0, 5) else (n / g n d, d / g n d, 0) := by
  unfold ofR
  rw [if_neg (by omega)]

theorem g_neg (n d : Int) : g (-n) (-d) = g n d := by unfold g; simp

theorem ofR_neg {n d : Int} (h : d < 0) : ofR n d = ofR (-n) (-d) := by
  rw [ofR_pos (n := -n) (d := -d) (by omega), g_neg]
  unfold ofR
  rw [if_pos h]

theorem g_mul (k n d : Int) : g (k * n) (k * d) = (k.natAbs : Int) * g n d := by
  unfold g
  rw [Int.gcd_mul_left]
  simp

theorem ofR_mul_pos {k n d : Int} (hk : 0 < k) (h : 0 < d) : ofR (k * n) (k * d) = ofR n d := by
  have hg : 0 < g n d := by have := g_pos (a := n) (b := d) (by omega); omega
  rw [ofR_pos (Int.mul_pos hk h), ofR_pos h, g_mul, Int.natAbs_of_nonneg (by omega), Int.mul_ediv_mul_of_pos _ _ hk, Int.mul_ediv_mul_of_pos _ _ hk]

theorem ofR_mul {k n d : Int} (hk : k ≠ 0) (h : d ≠ 0) : ofR (k * n) (k * d) = ofR n d := by
  by_cases h1 : 0 < k <;> by_cases h2 : 0 < d
  · exact ofR_mul_pos h1 h2
  · rw [ofR_neg (n := n) (d := d) (by omega), ofR_neg (n := k * n) (d := k * d) (Int.mul_neg_of_pos_of_neg h1 (by omega)), ← Int.mul_neg, ← Int.mul_neg]
    exact ofR_mul_pos h1 (by omega)
  · rw [ofR_neg (n := k * n) (d := k * d) (Int.mul_neg_of_neg_of_pos (by omega) h2), ← Int.neg_mul, ← Int.neg_mul]
    exact ofR_mul_pos (by omega) h2
  · rw [ofR_neg (n := n) (d := d) (by omega)]
    have e1 : k * n = -k * -n := by rw [Int.neg_mul_neg]
    have e2 : k * d = -k * -d := by rw [Int.neg_mul_neg]
    rw [e1, e2]
    exact ofR_mul_pos (by omega) (by omega)

/-- A valid ratio. -/
def Ok (n d : Int) : Prop := 1 ≤ d ∧ d ≤ 1048576 ∧ -1099511627776 ≤ n ∧ n ≤ 1099511627776 ∧ g n d = 1

instance (n d : Int) : Decidable (Ok n d) := inferInstanceAs (Decidable (_ ∧ _ ∧ _ ∧ _ ∧ _))

theorem ofR_ok {n d : Int} (h : Ok n d) : ofR n d = (n, d, 0) := by
  obtain ⟨h1, h2, h3, h4, h5⟩ := h
  rw [ofR_pos (by omega), h5, Int.ediv_one, Int.ediv_one, if_neg (by omega)]

/-- In lowest terms already: whether it fits is seen at once. -/
theorem ofR_lowest {n d : Int} (h : 0 < d) (hg : g n d = 1) : ofR n d = if n > 1099511627776 ∨ n < -1099511627776 ∨ d > 1048576 then (0, 0, 5) else (n, d, 0) := by
  rw [ofR_pos h, hg, Int.ediv_one, Int.ediv_one]

theorem g_low {n d : Int} (h : d ≠ 0) : g (n / g n d) (d / g n d) = 1 := by
  have hp : 0 < Int.gcd n d := Int.gcd_pos_of_ne_zero_right _ h
  unfold g
  rw [Int.gcd_ediv_gcd_ediv_gcd hp]
  rfl

/-- What comes out is a ratio, or nothing. -/
theorem ofR_out {n d : Int} (h : d ≠ 0) : ofR n d = (0, 0, 5) ∨ ∃ a b, ofR n d = (a, b, 0) ∧ Ok a b ∧ a * d = n * b := by
  suffices H : ∀ n d : Int, 0 < d → ofR n d = (0, 0, 5) ∨ ∃ a b, ofR n d = (a, b, 0) ∧ Ok a b ∧ a * d = n * b by
    by_cases hd : 0 < d
    · exact H n d hd
    · rw [ofR_neg (by omega)]
      rcases H (-n) (-d) (by omega) with e | ⟨a, b, e, o, m⟩
      · exact .inl e
      · refine .inr ⟨a, b, e, o, ?_⟩
        rw [Int.mul_neg, Int.neg_mul] at m
        omega
  intro n d h
  rw [ofR_pos h]
  have hg : 0 < g n d := by have := g_pos (a := n) (b := d) (by omega); omega
  split
  · exact .inl rfl
  · refine .inr ⟨_, _, rfl, ⟨?_, by omega, by omega, by omega, g_low (by omega)⟩, ?_⟩
    · exact Int.ediv_pos_of_pos_of_dvd h (by omega) (g_right _ _)
    · rw [← Int.mul_ediv_assoc' _ (g_left n d), ← Int.mul_ediv_assoc _ (g_right n d)]

/-- The same value, the same answer. -/
theorem ofR_same {n d n' d' : Int} (h : d ≠ 0) (h' : d' ≠ 0) (e : n * d' = n' * d) : ofR n d = ofR n' d' := by
  rw [← ofR_mul (k := d') h' h, ← ofR_mul (k := d) (n := n') h h', Int.mul_comm d' n, e, Int.mul_comm n' d, Int.mul_comm d' d]

theorem ofR_is {n d a b : Int} (h : d ≠ 0) (o : Ok a b) (e : n * b = a * d) : ofR n d = (a, b, 0) := by
  rw [← ofR_ok o]
  exact ofR_same h (by have := o.1; omega) e

theorem ok_same {a b c d : Int} (o : Ok a b) (o' : Ok c d) (e : a * d = c * b) : a = c ∧ b = d := by
  have := ofR_is (n := a) (d := b) (by have := o.1; omega) o' e
  rw [ofR_ok o] at this
  simp only [Prod.mk.injEq, and_true] at this
  exact this

/-- What New returns. -/
def newR (n d : Int) : Int × Int × Int := if d = 0 then (0, 0, 1) else ofR n d

/-- What is no ratio's error is 0, for a valid one. -/
def validI (n d : Int) : Int := if Ok n d then 0 else 1

theorem validI_two (n d : Int) : validI n d = 0 ∨ validI n d = 1 := by unfold validI; split; (· exact .inl rfl); (· exact .inr rfl)

theorem validI_ok {n d : Int} : validI n d = 0 ↔ Ok n d := by unfold validI; split <;> simp [*]

/-- The error of two ratios. -/
def bothI (a b c d : Int) : Int := if validI a b = 0 ∧ validI c d = 0 then 0 else 1

theorem bothI_two (a b c d : Int) : bothI a b c d = 0 ∨ bothI a b c d = 1 := by unfold bothI; split; (· exact .inl rfl); (· exact .inr rfl)

theorem bothI_ok {a b c d : Int} : bothI a b c d = 0 ↔ Ok a b ∧ Ok c d := by
  rw [← validI_ok, ← validI_ok]
  unfold bothI
  split <;> simp_all

/-- What Cmp returns of valid ratios. -/
def cmpI (a b c d : Int) : Int := if a * d < c * b then -1 else if c * b < a * d then 1 else 0

theorem g_one_mul {a b c : Int} (h1 : g a c = 1) (h2 : g b c = 1) : g (a * b) c = 1 := by
  unfold g at *
  have h1' : Nat.Coprime a.natAbs c.natAbs := by have : Int.gcd a c = 1 := by omega
                                                 exact this
  have h2' : Nat.Coprime b.natAbs c.natAbs := by have : Int.gcd b c = 1 := by omega
                                                 exact this
  have := Nat.Coprime.mul_left h1' h2'
  unfold Int.gcd
  rw [Int.natAbs_mul, this]
  rfl

theorem g_comm (a b : Int) : g a b = g b a := by unfold g; rw [Int.gcd_comm]

theorem g_one_right {a b c : Int} (h1 : g a b = 1) (h2 : g a c = 1) : g a (b * c) = 1 := by
  rw [g_comm] at *
  exact g_one_mul h1 h2

/-- Coprime to what is divided. -/
theorem g_one_dvd {a b x y : Int} (h : g a b = 1) (hx : x ∣ a) (hy : y ∣ b) : g x y = 1 := by
  have h' : Int.gcd a b = 1 := by unfold g at h; omega
  unfold g
  have : Int.gcd x y ∣ 1 := by
    rw [← h']
    exact Int.dvd_gcd (Int.dvd_trans (Int.gcd_dvd_left ..) hx) (Int.dvd_trans (Int.gcd_dvd_right ..) hy)
  rw [Nat.dvd_one.1 this]
  rfl

/-- The product of two ratios, crosswise without their common divisors: in lowest terms. -/
theorem g_cross {a b c d : Int} (ho : g a b = 1) (ho' : g c d = 1) (hb : b ≠ 0) (hd : d ≠ 0) : g (a / g a d * (c / g c b)) (b / g c b * (d / g a d)) = 1 := by
  have h1 : g (a / g a d) (d / g a d) = 1 := g_low hd
  have h2 : g (c / g c b) (b / g c b) = 1 := g_low hb
  have dv : ∀ {x y : Int}, y ∣ x → x / y ∣ x := fun {x y} h => ⟨y, (Int.ediv_mul_cancel h).symm⟩
  have h3 : g (a / g a d) (b / g c b) = 1 := g_one_dvd ho (dv (g_left _ _)) (dv (g_right _ _))
  have h4 : g (c / g c b) (d / g a d) = 1 := g_one_dvd ho' (dv (g_left _ _)) (dv (g_right _ _))
  exact g_one_mul (g_one_right h3 h1) (g_one_right h2 h4)

/-- The value of the product is the same. -/
theorem cross_same {a b c d : Int} (hb : b ≠ 0) (hd : d ≠ 0) : a * c * (b / g c b * (d / g a d)) = a / g a d * (c / g c b) * (b * d) := by
  have hg := g_pos (a := a) hd
  have hh := g_pos (a := c) hb
  obtain ⟨a', ha⟩ := g_left a d
  obtain ⟨d', hd'⟩ := g_right a d
  obtain ⟨c', hc⟩ := g_left c b
  obtain ⟨b', hb'⟩ := g_right c b
  generalize g a d = x at *
  generalize g c b = y at *
  subst ha hc hb' hd'
  rw [Int.mul_ediv_cancel_left _ (by omega), Int.mul_ediv_cancel_left _ (by omega), Int.mul_ediv_cancel_left _ (by omega), Int.mul_ediv_cancel_left _ (by omega)]
  ac_rfl

theorem mul_small {a d : Int} (h1 : -1099511627776 ≤ a) (h2 : a ≤ 1099511627776) (h3 : 1 ≤ d) (h4 : d ≤ 1048576) : -1152921504606846976 ≤ a * d ∧ a * d ≤ 1152921504606846976 := by
  have e1 : a * d ≤ 1099511627776 * d := Int.mul_le_mul_of_nonneg_right h2 (by omega)
  have e2 : -1099511627776 * d ≤ a * d := Int.mul_le_mul_of_nonneg_right h1 (by omega)
  omega

theorem tdiv_floor (n : Int) {d : Int} (h : 1 ≤ d) : n / d = if n.tdiv d * d > n then n.tdiv d - 1 else n.tdiv d := by
  have e1 := Int.mul_tdiv_add_tmod n d
  have e2 := Int.mul_ediv_add_emod n d
  have e3 := Int.emod_nonneg n (by omega : d ≠ 0)
  have e4 := Int.emod_lt_of_pos n (by omega : 0 < d)
  have e5 : n.tdiv d * d = d * n.tdiv d := Int.mul_comm _ _
  have e6 := Int.tmod_lt_of_pos n (by omega : 0 < d)
  have e7 : -d < n.tmod d := by
    have h1 : (n.tmod d).natAbs < d.natAbs := by rw [Int.natAbs_tmod]; exact Nat.mod_lt _ (by omega)
    omega
  split
  · have hk : d * (n / d) < d * n.tdiv d := by omega
    have h1 : n / d < n.tdiv d := Int.lt_of_mul_lt_mul_left hk (by omega)
    have hk2 : d * (n.tdiv d - 2) < d * (n / d) := by rw [Int.mul_sub]; omega
    have h2 : n.tdiv d - 2 < n / d := Int.lt_of_mul_lt_mul_left hk2 (by omega)
    omega
  · have hk : d * (n / d) < d * (n.tdiv d + 1) := by rw [Int.mul_add]; omega
    have h1 : n / d < n.tdiv d + 1 := Int.lt_of_mul_lt_mul_left hk (by omega)
    have hk2 : d * (n.tdiv d - 1) < d * (n / d) := by rw [Int.mul_sub]; omega
    have h2 : n.tdiv d - 1 < n / d := Int.lt_of_mul_lt_mul_left hk2 (by omega)
    omega

theorem tdiv_bounds {n d M : Int} (h1 : -M ≤ n) (h2 : n ≤ M) : (-M ≤ n.tdiv d ∧ n.tdiv d ≤ M) ∧ (-M ≤ n.tdiv d * d ∧ n.tdiv d * d ≤ M) := by
  have a1 : (n.tdiv d).natAbs = n.natAbs / d.natAbs := Int.natAbs_tdiv ..
  have a2 : n.natAbs / d.natAbs ≤ n.natAbs := Nat.div_le_self _ _
  have a3 : n.natAbs / d.natAbs * d.natAbs ≤ n.natAbs := Nat.div_mul_le_self _ _
  have a4 : (n.tdiv d * d).natAbs ≤ n.natAbs := by rw [Int.natAbs_mul, a1]; exact a3
  omega

theorem mul_pos {b d : Int} (h1 : 1 ≤ b) (h2 : b ≤ 1048576) (h3 : 1 ≤ d) (h4 : d ≤ 1048576) : 1 ≤ b * d ∧ b * d ≤ 1099511627776 := by
  have e1 : b * d ≤ 1048576 * d := Int.mul_le_mul_of_nonneg_right h2 (by omega)
  have e2 : 1 * d ≤ b * d := Int.mul_le_mul_of_nonneg_right h1 (by omega)
  omega

theorem g_odd {p : Int} (h : p.tmod 2 ≠ 0) : g p 9223372036854775808 = 1 := by
  have h1 : p.natAbs % 2 = 1 := by
    have h2 : (p.tmod 2).natAbs = p.natAbs % 2 := Int.natAbs_tmod ..
    omega
  have h2 : Nat.Coprime p.natAbs 2 := by
    show Nat.gcd p.natAbs 2 = 1
    rw [Nat.gcd_comm, Nat.gcd_rec, h1]; exact Nat.gcd_one_left 2
  have h3 : Nat.Coprime p.natAbs (2 ^ 63) := Nat.Coprime.pow_right 63 h2
  have h4 : Nat.gcd p.natAbs 9223372036854775808 = 1 := h3
  unfold g Int.gcd
  show ((Nat.gcd p.natAbs 9223372036854775808 : Nat) : Int) = 1
  rw [h4]
  rfl

theorem ofR_big_d {p : Int} (h : p.tmod 2 ≠ 0) : ofR p (-9223372036854775808) = (0, 0, 5) := by
  have h' : (-p).tmod 2 ≠ 0 := by rw [Int.neg_tmod]; omega
  rw [ofR_neg (by omega), ofR_lowest (by omega) (by exact g_odd h'), if_pos (by omega)]

theorem ofR_big_n {q : Int} (h : q.tmod 2 ≠ 0) : ofR (-9223372036854775808) q = (0, 0, 5) := by
  have h' : (-q).tmod 2 ≠ 0 := by rw [Int.neg_tmod]; omega
  have h0 : q ≠ 0 := by intro e; rw [e] at h; exact h rfl
  by_cases hq : 0 < q
  · rw [ofR_lowest hq (by rw [← g_neg, g_comm]; exact g_odd h'), if_pos (by omega)]
  · rw [ofR_neg (by omega), ofR_lowest (by omega) (by rw [g_comm]; exact g_odd h'), if_pos (by omega)]

end Go.Proofs.YtelhpndlejommaaGreat.Qm
