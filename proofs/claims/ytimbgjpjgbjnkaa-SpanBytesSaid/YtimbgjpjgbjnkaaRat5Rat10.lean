import Derived.Test.YtimbgjpjgbjnkaaRatRat4
import Derived.Test.YtimbgjpjgbjnkaaQmath
/- Contracts of package ratio: bits.Mul64, Sub, Floor, Part. -/
namespace Go.Proofs.Ytimbgjpjgbjnkaa
open Go.RowKit Go.Shelf



/-- What Floor returns. -/
def floorR (n d : Int) : Int × Int := if Qm.validI n d = 0 then (n / d, 0) else (0, 1)


/-- Part by the two halves of the product. -/
theorem part_halves {k n d : Int} (h1 : 0 ≤ k) (h2 : 0 ≤ n) (h3 : 1 ≤ d) (h4 : d ≤ 1048576) :
    (0 < k * n / 18446744073709551616 ∨ 1099511627776 < k * n % 18446744073709551616 / d) ↔ 1099511627776 < k * n / d := by
  have hp : 0 ≤ k * n := Int.mul_nonneg h1 h2
  generalize k * n = p at *
  have e := Int.mul_ediv_add_emod p d
  have e0 := Int.emod_nonneg p (by omega : d ≠ 0)
  have e2 := Int.emod_lt_of_pos p (by omega : 0 < d)
  by_cases h : p < 18446744073709551616
  · have a1 : p / 18446744073709551616 = 0 := by omega
    have a2 : p % 18446744073709551616 = p := by omega
    rw [a1, a2]
    omega
  · have a1 : 0 < p / 18446744073709551616 := by omega
    refine ⟨fun _ => ?_, fun _ => .inl a1⟩
    have : 1099511627777 * d ≤ p := by
      have : 1099511627777 * d ≤ 1099511627777 * 1048576 := Int.mul_le_mul_of_nonneg_left h4 (by omega)
      omega
    have := (Int.le_ediv_iff_mul_le (show 0 < d by omega)).2 this
    omega

theorem part_low {k n : Int} (h1 : 0 ≤ k) (h2 : 0 ≤ n) (h : k * n / 18446744073709551616 = 0) : k * n % 18446744073709551616 = k * n := by
  have hp : 0 ≤ k * n := Int.mul_nonneg h1 h2
  omega


end Go.Proofs.Ytimbgjpjgbjnkaa

/- Contracts of package ratio: Sub. -/
namespace Go.Proofs.Ytimbgjpjgbjnkaa
open Go.RowKit Go.Shelf


end Go.Proofs.Ytimbgjpjgbjnkaa

/- Contracts of package ratio: Mul. -/
namespace Go.Proofs.Ytimbgjpjgbjnkaa
open Go.RowKit Go.Shelf

theorem absI_eq (n : Int) : absI n = (n.natAbs : Int) := by unfold absI; split <;> omega

theorem mul_big (x y : Int) : (0 < absI x * absI y / 18446744073709551616 ∨ 1099511627776 < absI x * absI y % 18446744073709551616) ↔ (x * y > 1099511627776 ∨ x * y < -1099511627776) := by
  have e : absI x * absI y = ((x * y).natAbs : Int) := by rw [absI_eq, absI_eq, Int.natAbs_mul, Int.natCast_mul]
  rw [e]
  omega

theorem size_q (n : Int) (w : World) (h1 : -1099511627776 ≤ n) (h2 : n ≤ 1099511627776) :
    Calls Try.prog 94 #[.int .i64 n] w fun e w' => e = .returned (.int .u64 (absI n)) ∧ w' = w :=
  (size_any n w (by omega) (by omega)).mono fun _ _ ⟨h1, h2⟩ => ⟨h1, h2.symm⟩



end Go.Proofs.Ytimbgjpjgbjnkaa

/- Contracts of package ratio: Mul, whole. -/
namespace Go.Proofs.Ytimbgjpjgbjnkaa
open Go.RowKit Go.Shelf

/-- New of a numerator and another denominator fits. -/
theorem newR_fits {a d : Int} (h1 : -1099511627776 ≤ a) (h2 : a ≤ 1099511627776) (h3 : 1 ≤ d) (h4 : d ≤ 1048576) : Qm.newR a d = (a / Qm.g a d, d / Qm.g a d, 0) := by
  have hg := Qm.g_pos (a := a) (b := d) (by omega)
  have b1 := ediv_le (M := 1099511627776) hg h1 h2
  have b2 := ediv_le (M := 1048576) hg (show -1048576 ≤ d by omega) h4
  unfold Qm.newR
  rw [if_neg (by omega), Qm.ofR_pos (by omega), if_neg (by omega)]


end Go.Proofs.Ytimbgjpjgbjnkaa

/- Plain mathematics of the simplest fraction between two. -/
namespace Go.Proofs.Ytimbgjpjgbjnkaa.Qm
open Go.RowKit

/-- (p, q) is the simplest fraction between a/b and c/d (d may be 0): the least of each. -/
def Simp (a b c d p q : Int) : Prop := 1 ≤ q ∧ a * q < p * b ∧ p * d < c * q ∧ ∀ p' q' : Int, 1 ≤ q' → a * q' < p' * b → p' * d < c * q' → q ≤ q' ∧ p ≤ p'

/-- An integer lies between. -/
theorem simp_int {a b c d : Int} (ha : 0 ≤ a) (hb : 1 ≤ b) (_hd : 0 ≤ d) (h : (a / b + 1) * d < c) : Simp a b c d (a / b + 1) 1 := by
  have e := Int.mul_ediv_add_emod a b
  have e1 := Int.emod_nonneg a (by omega : b ≠ 0)
  have e2 := Int.emod_lt_of_pos a (by omega : 0 < b)
  have hq0 : 0 ≤ a / b := Int.ediv_nonneg ha (by omega)
  refine ⟨by omega, ?_, by omega, ?_⟩
  · rw [Int.add_mul, Int.mul_comm (a / b) b]; omega
  · intro p' q' hq hl hr
    refine ⟨hq, ?_⟩
    have h1 : b * (a / b) ≤ a := by omega
    have h2 : b * (a / b) * q' ≤ a * q' := Int.mul_le_mul_of_nonneg_right h1 (by omega)
    have h3 : a / b * q' * b < p' * b := by
      have : a / b * q' * b = b * (a / b) * q' := by ac_rfl
      omega
    have h4 : a / b * q' < p' := Int.lt_of_mul_lt_mul_right h3 (by omega)
    have h5 : a / b * 1 ≤ a / b * q' := Int.mul_le_mul_of_nonneg_left hq hq0
    omega

/-- No integer lies between: the reciprocals of what exceeds it. -/
theorem simp_frac {a b c d u v : Int} (ha : 0 ≤ a) (hb : 1 ≤ b) (hd : 1 ≤ d) (hlt : a * d < c * b)
    (hs : Simp d (c - a / b * d) b (a - a / b * b) u v) : Simp a b c d (a / b * u + v) u := by
  have e := Int.mul_ediv_add_emod a b
  have e1 := Int.emod_nonneg a (by omega : b ≠ 0)
  have e2 := Int.emod_lt_of_pos a (by omega : 0 < b)
  have hk0 : 0 ≤ a / b := Int.ediv_nonneg ha (by omega)
  generalize hk : a / b = k at *
  obtain ⟨h1, h2, h3, h4⟩ := hs
  rw [Int.mul_comm b k] at e
  have hf : 0 ≤ a - k * b := by omega
  rw [Int.mul_sub] at h2 h3
  have hv0 : 0 < v := by omega
  have f1 : u * (k * b) = k * u * b := by ac_rfl
  have f2 : u * (k * d) = k * u * d := by ac_rfl
  have hu1 : 1 ≤ u := by
    rcases Int.lt_or_le 0 u with h | h
    · exact h
    · exfalso
      have g0 : 0 ≤ c - k * d := by
        have : k * b * d ≤ a * d := Int.mul_le_mul_of_nonneg_right (by omega) (by omega)
        have g1 : k * d * b < c * b := by
          have : k * d * b = k * b * d := by ac_rfl
          omega
        have := Int.lt_of_mul_lt_mul_right g1 (by omega)
        omega
      have g1 : u * (c - k * d) ≤ 0 := Int.mul_nonpos_of_nonpos_of_nonneg h g0
      rw [Int.mul_sub] at g1
      have g2 : 0 < d * v := Int.mul_pos (by omega) hv0
      omega
  refine ⟨hu1, ?_, ?_, ?_⟩
  · rw [Int.add_mul]
    have f3 : a * u = u * a := Int.mul_comm _ _
    have f4 : v * b = b * v := Int.mul_comm _ _
    omega
  · rw [Int.add_mul]
    have f3 : c * u = u * c := Int.mul_comm _ _
    have f4 : v * d = d * v := Int.mul_comm _ _
    omega
  · intro p' q' hq hl hr
    have g1 : k * q' < p' := by
      have : k * b * q' ≤ a * q' := Int.mul_le_mul_of_nonneg_right (by omega) (by omega)
      have g1 : k * q' * b < p' * b := by
        have : k * q' * b = k * b * q' := by ac_rfl
        omega
      exact Int.lt_of_mul_lt_mul_right g1 (by omega)
    have := h4 q' (p' - k * q') (by omega) (by
      rw [Int.mul_sub, Int.mul_sub]
      have : d * (k * q') = q' * (k * d) := by ac_rfl
      have : d * p' = p' * d := Int.mul_comm _ _
      have : q' * c = c * q' := Int.mul_comm _ _
      omega) (by
      rw [Int.mul_sub, Int.mul_sub]
      have : b * (k * q') = q' * (k * b) := by ac_rfl
      have : b * p' = p' * b := Int.mul_comm _ _
      have : q' * a = a * q' := Int.mul_comm _ _
      omega)
    refine ⟨this.2, ?_⟩
    have g2 : k * u ≤ k * q' := Int.mul_le_mul_of_nonneg_left this.2 hk0
    have g3 := this.1
    omega

/-- At most the mediant. -/
theorem Simp.le {a b c d p q : Int} (h : Simp a b c d p q) (hb : 1 ≤ b) (hd : 1 ≤ d) (hlt : a * d < c * b) : q ≤ b + d ∧ p ≤ a + c := by
  obtain ⟨_, _, _, h4⟩ := h
  refine h4 (a + c) (b + d) (by omega) ?_ ?_
  · rw [Int.mul_add, Int.add_mul]; omega
  · rw [Int.mul_add, Int.add_mul]; omega

/-- There is but one. -/
theorem Simp.one {a b c d p q p' q' : Int} (h : Simp a b c d p q) (h' : Simp a b c d p' q') : p = p' ∧ q = q' := by
  have h1 := h.2.2.2 p' q' h'.1 h'.2.1 h'.2.2.1
  have h2 := h'.2.2.2 p q h.1 h.2.1 h.2.2.1
  omega

/-- Above 0. -/
theorem Simp.pos {a b c d p q : Int} (h : Simp a b c d p q) (ha : 0 ≤ a) (hb : 1 ≤ b) : 1 ≤ p := by
  obtain ⟨h1, h2, _⟩ := h
  have h3 : 0 ≤ a * q := Int.mul_nonneg ha (by omega)
  have h4 : 0 * b < p * b := by omega
  have := Int.lt_of_mul_lt_mul_right h4 (by omega)
  omega

/-- In lowest terms. -/
theorem Simp.low {a b c d p q : Int} (h : Simp a b c d p q) : g p q = 1 := by
  have hg := g_pos (a := p) (b := q) (by have := h.1; omega)
  obtain ⟨p', hp⟩ := g_left p q
  obtain ⟨q', hq⟩ := g_right p q
  obtain ⟨h1, h2, h3, h4⟩ := h
  generalize g p q = G at *
  have hq' : 1 ≤ q' := by
    rcases Int.lt_or_le 0 q' with h | h
    · exact h
    · have := Int.mul_nonpos_of_nonneg_of_nonpos (show 0 ≤ G by omega) h
      omega
  have k1 : a * q' < p' * b := by
    have : a * q' * G < p' * b * G := by
      have e1 : a * q' * G = a * (G * q') := by ac_rfl
      have e2 : p' * b * G = G * p' * b := by ac_rfl
      rw [e1, e2, ← hq, ← hp]; exact h2
    exact Int.lt_of_mul_lt_mul_right this (by omega)
  have k2 : p' * d < c * q' := by
    have : p' * d * G < c * q' * G := by
      have e1 : c * q' * G = c * (G * q') := by ac_rfl
      have e2 : p' * d * G = G * p' * d := by ac_rfl
      rw [e1, e2, ← hq, ← hp]; exact h3
    exact Int.lt_of_mul_lt_mul_right this (by omega)
  have := (h4 p' q' hq' k1 k2).1
  rcases Int.lt_or_le 1 G with h | h
  · have : 2 * q' ≤ G * q' := Int.mul_le_mul_of_nonneg_right (by omega) (by omega)
    omega
  · omega

/-- What the step to the reciprocals keeps. -/
theorem simp_step {a b c d : Int} (ha : 0 ≤ a) (hb : 1 ≤ b) (hd : 0 ≤ d) (hlt : a * d < c * b) (h : ¬ (a / b + 1) * d < c) :
    1 ≤ d ∧ 0 ≤ a / b ∧ a / b ≤ a ∧ 0 ≤ a - a / b * b ∧ a - a / b * b < b ∧ 1 ≤ c - a / b * d ∧ c - a / b * d ≤ d ∧ d * (a - a / b * b) < b * (c - a / b * d) := by
  have e := Int.mul_ediv_add_emod a b
  have e1 := Int.emod_nonneg a (by omega : b ≠ 0)
  have e2 := Int.emod_lt_of_pos a (by omega : 0 < b)
  have hk0 : 0 ≤ a / b := Int.ediv_nonneg ha (by omega)
  have hk1 : a / b ≤ a := Int.ediv_le_self _ ha
  generalize a / b = k at *
  rw [Int.add_mul, Int.one_mul] at h
  rw [Int.mul_comm b k] at e
  have hd1 : 1 ≤ d := by
    rcases Int.lt_or_le 0 d with h0 | h0
    · exact h0
    · have : d = 0 := by omega
      subst this
      simp only [Int.mul_zero] at *
      have : c ≤ 0 := by omega
      have := Int.mul_nonpos_of_nonpos_of_nonneg this (show 0 ≤ b by omega)
      omega
  have g1 : k * b * d ≤ a * d := Int.mul_le_mul_of_nonneg_right (by omega) (by omega)
  have g2 : k * d * b < c * b := by
    have : k * d * b = k * b * d := by ac_rfl
    omega
  have g3 : k * d < c := Int.lt_of_mul_lt_mul_right g2 (by omega)
  refine ⟨hd1, hk0, hk1, by omega, by omega, by omega, by omega, ?_⟩
  rw [Int.mul_sub, Int.mul_sub]
  have f1 : d * (k * b) = k * b * d := by ac_rfl
  have f2 : b * (k * d) = k * b * d := by ac_rfl
  have f3 : d * a = a * d := Int.mul_comm _ _
  have f4 : b * c = c * b := Int.mul_comm _ _
  omega

theorem simp_exists : ∀ (n : Nat) (a b c d : Int), (b + d).toNat ≤ n → 0 ≤ a → 1 ≤ b → 0 ≤ d → a * d < c * b → ∃ p q, Simp a b c d p q := by
  intro n
  induction n with
  | zero => intro a b c d h; omega
  | succ n ih =>
    intro a b c d hn ha hb hd hlt
    by_cases h : (a / b + 1) * d < c
    · exact ⟨_, _, simp_int ha hb hd h⟩
    · obtain ⟨h1, h2, h3, h4, h5, h6, h7, h8⟩ := simp_step ha hb hd hlt h
      obtain ⟨u, v, hs⟩ := ih d (c - a / b * d) b (a - a / b * b) (by omega) hd h6 h4 h8
      exact ⟨_, _, simp_frac ha hb h1 hlt hs⟩

/-- What Between returns of a and b, c and d: the error first. -/
def Btw (a b c d : Int) (R : Int × Int × Int) : Prop :=
  (bothI a b c d = 1 ∧ R = (0, 0, 1)) ∨ (bothI a b c d = 0 ∧ ¬ a * d < c * b ∧ R = (0, 0, 13)) ∨
  (bothI a b c d = 0 ∧ a * d < c * b ∧ ((a < 0 ∧ 0 < c ∧ R = (0, 1, 0)) ∨ (0 ≤ a ∧ ∃ p q, Simp a b c d p q ∧ R = ofR p q) ∨ (a < 0 ∧ c ≤ 0 ∧ ∃ p q, Simp (-c) d (-a) b p q ∧ R = ofR (-p) q)))

theorem Btw.one {a b c d : Int} {R R' : Int × Int × Int} (h : Btw a b c d R) (h' : Btw a b c d R') : R = R' := by
  rcases h with ⟨h1, rfl⟩ | ⟨h1, h2, rfl⟩ | ⟨h1, h2, h3⟩
  · rcases h' with ⟨k1, rfl⟩ | ⟨k1, k2, rfl⟩ | ⟨k1, k2, k3⟩
    · rfl
    · omega
    · omega
  · rcases h' with ⟨k1, rfl⟩ | ⟨k1, k2, rfl⟩ | ⟨k1, k2, k3⟩
    · omega
    · rfl
    · exact absurd k2 h2
  · rcases h' with ⟨k1, rfl⟩ | ⟨k1, k2, rfl⟩ | ⟨k1, k2, k3⟩
    · omega
    · exact absurd h2 k2
    · rcases h3 with ⟨_, _, rfl⟩ | ⟨_, p, q, hs, rfl⟩ | ⟨_, _, p, q, hs, rfl⟩ <;> rcases k3 with ⟨_, _, rfl⟩ | ⟨_, p', q', ks, rfl⟩ | ⟨_, _, p', q', ks, rfl⟩
      · rfl
      · omega
      · omega
      · omega
      · rw [(hs.one ks).1, (hs.one ks).2]
      · omega
      · omega
      · omega
      · rw [(hs.one ks).1, (hs.one ks).2]

/-- The opposite ratio. -/
theorem ofR_negl {p q : Int} (h : 1 ≤ q) : ofR (-p) q = (-(ofR p q).1, (ofR p q).2.1, (ofR p q).2.2) := by
  have hg := g_pos (a := p) (b := q) (by omega)
  have e : g (-p) q = g p q := by unfold g; simp
  rw [ofR_pos (by omega), ofR_pos (by omega), e, Int.neg_ediv_of_dvd (g_left p q)]
  by_cases t : p / g p q > 1099511627776 ∨ p / g p q < -1099511627776 ∨ q / g p q > 1048576
  · rw [if_pos t, if_pos (by omega)]; rfl
  · rw [if_neg t, if_neg (by omega)]

end Go.Proofs.Ytimbgjpjgbjnkaa.Qm

/- Contracts of package ratio: simplest. -/
namespace Go.Proofs.Ytimbgjpjgbjnkaa
open Go.RowKit Go.Shelf

/-- The simplest fraction comes back. -/
def SimpOut (a b c d : Int) (w : World) (e : Ending) (w' : World) : Prop := ∃ p q, Qm.Simp a b c d p q ∧ e = .returned (.tuple #[.int .i64 p, .int .i64 q]) ∧ Below w.heap.size w w'

set_option maxHeartbeats 1000000 in
set_option maxRecDepth 100000 in
theorem simplest_int (a b c d k : Int) (w : World) (hk : a / b = k) (ha : 0 ≤ a) (ha2 : a ≤ 1099511627776) (hb : 1 ≤ b) (hk0 : 0 ≤ k) (hk1 : k ≤ 1099511627776) (h1 : 0 ≤ (k + 1) * d) (h2 : (k + 1) * d ≤ 4611686018427387904) (hlt : (k + 1) * d < c) :
    Calls Try.prog 66 #[rv a b, rv c d] w fun e w' => e = .returned (.tuple #[.int .i64 (k + 1), .int .i64 1]) ∧ Below w.heap.size w w' := by
  have HB0 := Lib.hid (((Below.refl w.heap.size w).alloc (Nat.le_refl _) (Obj.cells #[.int .i64 a, .int .i64 b] 25)).alloc (by simp) (Obj.cells #[.int .i64 c, .int .i64 d] 25))
  unfold rv
  go_enter Try.func66, Try.ntmps66
  go_wp2
  go_ret2
  exact ⟨rfl, HB0.out⟩

set_option maxHeartbeats 1000000 in
set_option maxRecDepth 100000 in
theorem simplest_frac (a b c d k e f p q : Int) (w : World) (hk : a / b = k) (ha : 0 ≤ a) (ha2 : a ≤ 1099511627776) (hb : 1 ≤ b) (hk0 : 0 ≤ k) (hk1 : k ≤ 1099511627776) (h1 : 0 ≤ (k + 1) * d) (h2 : (k + 1) * d ≤ 4611686018427387904) (hge : c ≤ (k + 1) * d)
    (h3 : 0 ≤ k * d) (h4 : k * d ≤ 4611686018427387904) (h5 : 0 ≤ k * b) (h6 : k * b ≤ 4611686018427387904) (he : c - k * d = e) (hf : a - k * b = f) (he1 : 0 ≤ e) (he2 : e ≤ 1099511627776) (hf1 : 0 ≤ f) (hf2 : f ≤ 1099511627776)
    (hp : 0 ≤ k * p) (hp2 : k * p ≤ 4611686018427387904) (hq : 0 ≤ k * p + q) (hq2 : k * p + q ≤ 4611686018427387904)
    (K1 : Hid (∀ w, Calls Try.prog 66 #[rv d e, rv b f] w fun e w' => e = .returned (.tuple #[.int .i64 p, .int .i64 q]) ∧ Below w.heap.size w w')) :
    Calls Try.prog 66 #[rv a b, rv c d] w fun e w' => e = .returned (.tuple #[.int .i64 (k * p + q), .int .i64 p]) ∧ Below w.heap.size w w' := by
  have HB0 := Lib.hid (((Below.refl w.heap.size w).alloc (Nat.le_refl _) (Obj.cells #[.int .i64 a, .int .i64 b] 25)).alloc (by simp) (Obj.cells #[.int .i64 c, .int .i64 d] 25))
  unfold rv at *
  go_enter Try.func66, Try.ntmps66
  go_wp2_with fail
  refine (K1.out _).mono ?_
  rintro e w1 ⟨rfl, hB⟩
  have B1 := Lib.hid hB
  have HB1 := Lib.hid (HB0.out.trans (hB.mono HB0.out.size))
  clear hB
  go_wp2
  go_ret2
  exact ⟨rfl, HB1.out⟩

theorem mul_le_big {x y : Int} (h1 : 0 ≤ x) (h2 : x ≤ 1099511627777) (h3 : 0 ≤ y) (h4 : y ≤ 1048576) : 0 ≤ x * y ∧ x * y ≤ 4611686018427387904 := by
  refine ⟨Int.mul_nonneg h1 h3, ?_⟩
  have a1 : x * y ≤ x * 1048576 := Int.mul_le_mul_of_nonneg_left h4 h1
  omega

theorem simplest_any : ∀ (n : Nat) (a b c d : Int) (w : World), (b + d).toNat ≤ n → 0 ≤ a → a ≤ 1099511627776 → 1 ≤ b → b ≤ 1048576 → 0 ≤ c → c ≤ 1099511627776 → 0 ≤ d → d ≤ 1048576 → a * d < c * b →
    Calls Try.prog 66 #[rv a b, rv c d] w (SimpOut a b c d w) := by
  intro n
  induction n with
  | zero => intro a b c d w h; omega
  | succ n ih =>
    intro a b c d w hn ha ha2 hb hb2 hc hc2 hd hd2 hlt
    have k0 : 0 ≤ a / b := Int.ediv_nonneg ha (by omega)
    have k1 : a / b ≤ a := Int.ediv_le_self _ ha
    have m1 := mul_le_big (x := a / b + 1) (y := d) (by omega) (by omega) hd hd2
    by_cases h : (a / b + 1) * d < c
    · exact (simplest_int a b c d (a / b) w rfl ha ha2 hb k0 (by omega) m1.1 m1.2 h).mono fun e w' ⟨he, hw⟩ => ⟨_, _, Qm.simp_int ha hb hd h, he, hw⟩
    · obtain ⟨h1, _, _, h4, h5, h6, h7, h8⟩ := Qm.simp_step ha hb hd hlt h
      obtain ⟨p, q, hs⟩ := Qm.simp_exists _ d (c - a / b * d) b (a - a / b * b) (Nat.le_refl _) hd h6 h4 h8
      have K1 : Hid (∀ w, Calls Try.prog 66 #[rv d (c - a / b * d), rv b (a - a / b * b)] w fun e w' => e = .returned (.tuple #[.int .i64 p, .int .i64 q]) ∧ Below w.heap.size w w') := Lib.hid fun w => by
        refine (ih d (c - a / b * d) b (a - a / b * b) w (by omega) hd (by omega) h6 (by omega) (by omega) (by omega) h4 (by omega) h8).mono ?_
        rintro e w' ⟨p', q', hs', he, hw⟩
        rw [(hs.one hs').1, (hs.one hs').2]
        exact ⟨he, hw⟩
      have hS := Qm.simp_frac ha hb h1 hlt hs
      have hle := hS.le hb h1 hlt
      have hq1 := hs.1
      have hp1 := hS.1
      have m2 := mul_le_big (x := a / b) (y := d) (by omega) (by omega) hd hd2
      have m3 := mul_le_big (x := a / b) (y := b) (by omega) (by omega) (by omega) hb2
      have m4 : 0 ≤ a / b * p := Int.mul_nonneg k0 (by omega)
      exact (simplest_frac a b c d (a / b) (c - a / b * d) (a - a / b * b) p q w rfl ha ha2 hb k0 (by omega) m1.1 m1.2 (by omega) m2.1 m2.2 m3.1 m3.2 rfl rfl (by omega) (by omega) h4 (by omega) m4 (by omega) (by omega) (by omega) K1).mono fun e w' ⟨he, hw⟩ => ⟨_, _, hS, he, hw⟩

end Go.Proofs.Ytimbgjpjgbjnkaa

/- Contracts of package ratio: Between. -/
namespace Go.Proofs.Ytimbgjpjgbjnkaa
open Go.RowKit Go.Shelf

/-- Between comes back. -/
def RBtwOut (a b c d : Int) (w : World) (e : Ending) (w' : World) : Prop := ∃ R, Qm.Btw a b c d R ∧ e = .returned (rve R) ∧ Below w.heap.size w w'

set_option maxHeartbeats 2000000 in
set_option maxRecDepth 100000 in
theorem rbtw_err (a b c d k : Int) (w : World) (hk : (k != 0) = true) (K1 : Hid (∀ w, Calls Try.prog 64 #[rv a b, rv c d] w fun e w' => e = .returned (.tuple #[.int .i64 0, .int .i64 k]) ∧ Below w.heap.size w w')) :
    Calls Try.prog 33 #[rv a b, rv c d] w fun e w' => e = .returned (rve (0, 0, k)) ∧ Below w.heap.size w w' := by
  have HB0 := Lib.hid ((((Below.refl w.heap.size w).alloc (Nat.le_refl _) (Obj.cells #[.int .i64 a, .int .i64 b] 25)).alloc (by simp) (Obj.cells #[.int .i64 c, .int .i64 d] 25)).alloc (by simp; omega) (Obj.cells #[.int .i64 0, .int .i64 0] 25))
  have HC0 := Lib.hid (Below.refl (three w (.int .i64 a) (.int .i64 b) (.int .i64 c) (.int .i64 d) (.int .i64 0) (.int .i64 0) 25).heap.size (three w (.int .i64 a) (.int .i64 b) (.int .i64 c) (.int .i64 d) (.int .i64 0) (.int .i64 0) 25))
  unfold rv at *
  go_enter Try.func33, Try.ntmps33
  go_wp2_with fail
  refine (K1.out _).mono ?_
  rintro e w1 ⟨rfl, hB⟩
  have B1 := Lib.hid hB
  have HB1 := Lib.hid (HB0.out.trans (hB.mono HB0.out.size))
  have HC1 := Lib.hid (HC0.out.trans (hB.mono HC0.out.size))
  clear hB
  obtain ⟨q1_0, q1_1, q1_2, q1_3, q1_4, q1_5, q1_6, q1_7, q1_8⟩ := box_3 HC1.out
  go_wp2
  exact bodyPost_ret (v := rve (0, 0, k)) (by simp [results, Try.results33, go_sem, q1_4, q1_5, rve]) rfl ⟨rfl, (HB1.out.setCell (p := ⟨w.heap.size + 2, 0, none⟩) (by simp) _).setCell (p := ⟨w.heap.size + 2, 1, none⟩) (by simp) _⟩

set_option maxHeartbeats 2000000 in
set_option maxRecDepth 100000 in
theorem rbtw_order (a b c d k : Int) (w : World) (hk : 0 ≤ k) (K1 : Hid (∀ w, Calls Try.prog 64 #[rv a b, rv c d] w fun e w' => e = .returned (.tuple #[.int .i64 k, .int .i64 0]) ∧ Below w.heap.size w w')) :
    Calls Try.prog 33 #[rv a b, rv c d] w fun e w' => e = .returned (rve (0, 0, 13)) ∧ Below w.heap.size w w' := by
  have HB0 := Lib.hid ((((Below.refl w.heap.size w).alloc (Nat.le_refl _) (Obj.cells #[.int .i64 a, .int .i64 b] 25)).alloc (by simp) (Obj.cells #[.int .i64 c, .int .i64 d] 25)).alloc (by simp; omega) (Obj.cells #[.int .i64 0, .int .i64 0] 25))
  have HC0 := Lib.hid (Below.refl (three w (.int .i64 a) (.int .i64 b) (.int .i64 c) (.int .i64 d) (.int .i64 0) (.int .i64 0) 25).heap.size (three w (.int .i64 a) (.int .i64 b) (.int .i64 c) (.int .i64 d) (.int .i64 0) (.int .i64 0) 25))
  unfold rv at *
  go_enter Try.func33, Try.ntmps33
  go_wp2_with fail
  refine (K1.out _).mono ?_
  rintro e w1 ⟨rfl, hB⟩
  have B1 := Lib.hid hB
  have HB1 := Lib.hid (HB0.out.trans (hB.mono HB0.out.size))
  have HC1 := Lib.hid (HC0.out.trans (hB.mono HC0.out.size))
  clear hB
  obtain ⟨q1_0, q1_1, q1_2, q1_3, q1_4, q1_5, q1_6, q1_7, q1_8⟩ := box_3 HC1.out
  go_wp2
  exact bodyPost_ret (v := rve (0, 0, 13)) (by simp [results, Try.results33, go_sem, q1_4, q1_5, rve]) rfl ⟨rfl, (HB1.out.setCell (p := ⟨w.heap.size + 2, 0, none⟩) (by simp) _).setCell (p := ⟨w.heap.size + 2, 1, none⟩) (by simp) _⟩

set_option maxHeartbeats 2000000 in
set_option maxRecDepth 100000 in
theorem rbtw_zero (a b c d : Int) (R : Int × Int × Int) (w : World) (ha : a < 0) (hc : 0 < c) (K1 : Hid (∀ w, Calls Try.prog 64 #[rv a b, rv c d] w fun e w' => e = .returned (.tuple #[.int .i64 (-1), .int .i64 0]) ∧ Below w.heap.size w w'))
    (K2 : Hid (∀ w, Calls Try.prog 65 #[.int .i64 0, .int .i64 1] w fun e w' => e = .returned (rve R) ∧ Below w.heap.size w w')) :
    Calls Try.prog 33 #[rv a b, rv c d] w fun e w' => e = .returned (rve R) ∧ Below w.heap.size w w' := by
  have HB0 := Lib.hid ((((Below.refl w.heap.size w).alloc (Nat.le_refl _) (Obj.cells #[.int .i64 a, .int .i64 b] 25)).alloc (by simp) (Obj.cells #[.int .i64 c, .int .i64 d] 25)).alloc (by simp; omega) (Obj.cells #[.int .i64 0, .int .i64 0] 25))
  have HC0 := Lib.hid (Below.refl (three w (.int .i64 a) (.int .i64 b) (.int .i64 c) (.int .i64 d) (.int .i64 0) (.int .i64 0) 25).heap.size (three w (.int .i64 a) (.int .i64 b) (.int .i64 c) (.int .i64 d) (.int .i64 0) (.int .i64 0) 25))
  unfold rv at *
  go_enter Try.func33, Try.ntmps33
  go_wp2_with fail
  refine (K1.out _).mono ?_
  rintro e w1 ⟨rfl, hB⟩
  have B1 := Lib.hid hB
  have HB1 := Lib.hid (HB0.out.trans (hB.mono HB0.out.size))
  have HC1 := Lib.hid (HC0.out.trans (hB.mono HC0.out.size))
  clear hB
  obtain ⟨q1_0, q1_1, q1_2, q1_3, q1_4, q1_5, q1_6, q1_7, q1_8⟩ := box_3 HC1.out
  go_wp2_with fail
  refine (K2.out _).mono ?_
  rintro e w2 ⟨rfl, hB⟩
  have B2 := Lib.hid hB
  have HB2 := Lib.hid (HB1.out.trans (hB.mono HB1.out.size))
  have HC2 := Lib.hid (HC1.out.trans (hB.mono HC1.out.size))
  clear hB
  obtain ⟨q2_0, q2_1, q2_2, q2_3, q2_4, q2_5, q2_6, q2_7, q2_8⟩ := box_3 HC2.out
  unfold rve
  go_wp2
  exact bodyPost_ret (v := rve R) (by simp [results, Try.results33, go_sem, q2_4, q2_5, rve]) rfl ⟨rfl, (HB2.out.setCell (p := ⟨w.heap.size + 2, 0, none⟩) (by simp) _).setCell (p := ⟨w.heap.size + 2, 1, none⟩) (by simp) _⟩

set_option maxHeartbeats 2000000 in
set_option maxRecDepth 100000 in
theorem rbtw_pos (a b c d p q : Int) (R : Int × Int × Int) (w : World) (ha : 0 ≤ a) (K1 : Hid (∀ w, Calls Try.prog 64 #[rv a b, rv c d] w fun e w' => e = .returned (.tuple #[.int .i64 (-1), .int .i64 0]) ∧ Below w.heap.size w w'))
    (K2 : Hid (∀ w, Calls Try.prog 66 #[rv a b, rv c d] w fun e w' => e = .returned (.tuple #[.int .i64 p, .int .i64 q]) ∧ Below w.heap.size w w'))
    (K3 : Hid (∀ w, Calls Try.prog 65 #[.int .i64 p, .int .i64 q] w fun e w' => e = .returned (rve R) ∧ Below w.heap.size w w')) :
    Calls Try.prog 33 #[rv a b, rv c d] w fun e w' => e = .returned (rve R) ∧ Below w.heap.size w w' := by
  have HB0 := Lib.hid ((((Below.refl w.heap.size w).alloc (Nat.le_refl _) (Obj.cells #[.int .i64 a, .int .i64 b] 25)).alloc (by simp) (Obj.cells #[.int .i64 c, .int .i64 d] 25)).alloc (by simp; omega) (Obj.cells #[.int .i64 0, .int .i64 0] 25))
  have HC0 := Lib.hid (Below.refl (three w (.int .i64 a) (.int .i64 b) (.int .i64 c) (.int .i64 d) (.int .i64 0) (.int .i64 0) 25).heap.size (three w (.int .i64 a) (.int .i64 b) (.int .i64 c) (.int .i64 d) (.int .i64 0) (.int .i64 0) 25))
  have ha' : decide (a < 0) = false := decide_eq_false (by omega)
  unfold rv at *
  go_enter Try.func33, Try.ntmps33
  go_wp2_with fail
  refine (K1.out _).mono ?_
  rintro e w1 ⟨rfl, hB⟩
  have B1 := Lib.hid hB
  have HB1 := Lib.hid (HB0.out.trans (hB.mono HB0.out.size))
  have HC1 := Lib.hid (HC0.out.trans (hB.mono HC0.out.size))
  clear hB
  obtain ⟨q1_0, q1_1, q1_2, q1_3, q1_4, q1_5, q1_6, q1_7, q1_8⟩ := box_3 HC1.out
  go_wp2_with fail
  refine (K2.out _).mono ?_
  rintro e w2 ⟨rfl, hB⟩
  have B2 := Lib.hid hB
  have HB2 := Lib.hid (HB1.out.trans (hB.mono HB1.out.size))
  have HC2 := Lib.hid (HC1.out.trans (hB.mono HC1.out.size))
  clear hB
  obtain ⟨q2_0, q2_1, q2_2, q2_3, q2_4, q2_5, q2_6, q2_7, q2_8⟩ := box_3 HC2.out
  go_wp2_with fail
  refine (K3.out _).mono ?_
  rintro e w3 ⟨rfl, hB⟩
  have B3 := Lib.hid hB
  have HB3 := Lib.hid (HB2.out.trans (hB.mono HB2.out.size))
  have HC3 := Lib.hid (HC2.out.trans (hB.mono HC2.out.size))
  clear hB
  obtain ⟨q3_0, q3_1, q3_2, q3_3, q3_4, q3_5, q3_6, q3_7, q3_8⟩ := box_3 HC3.out
  unfold rve
  go_wp2
  exact bodyPost_ret (v := rve R) (by simp [results, Try.results33, go_sem, q3_4, q3_5, rve]) rfl ⟨rfl, (HB3.out.setCell (p := ⟨w.heap.size + 2, 0, none⟩) (by simp) _).setCell (p := ⟨w.heap.size + 2, 1, none⟩) (by simp) _⟩

set_option maxHeartbeats 2000000 in
set_option maxRecDepth 100000 in
theorem rbtw_neg (a b c d p q : Int) (R : Int × Int × Int) (w : World) (ha : a < 0) (hc : c ≤ 0) (hp : 0 ≤ p) (hp2 : p ≤ 4611686018427387904) (K1 : Hid (∀ w, Calls Try.prog 64 #[rv a b, rv c d] w fun e w' => e = .returned (.tuple #[.int .i64 (-1), .int .i64 0]) ∧ Below w.heap.size w w'))
    (K2 : Hid (∀ w, Calls Try.prog 67 #[rv c d] w fun e w' => e = .returned (rv (-c) d) ∧ Below w.heap.size w w'))
    (K3 : Hid (∀ w, Calls Try.prog 67 #[rv a b] w fun e w' => e = .returned (rv (-a) b) ∧ Below w.heap.size w w'))
    (K4 : Hid (∀ w, Calls Try.prog 66 #[rv (-c) d, rv (-a) b] w fun e w' => e = .returned (.tuple #[.int .i64 p, .int .i64 q]) ∧ Below w.heap.size w w'))
    (K5 : Hid (∀ w, Calls Try.prog 65 #[.int .i64 (-p), .int .i64 q] w fun e w' => e = .returned (rve R) ∧ Below w.heap.size w w')) :
    Calls Try.prog 33 #[rv a b, rv c d] w fun e w' => e = .returned (rve R) ∧ Below w.heap.size w w' := by
  have HB0 := Lib.hid ((((Below.refl w.heap.size w).alloc (Nat.le_refl _) (Obj.cells #[.int .i64 a, .int .i64 b] 25)).alloc (by simp) (Obj.cells #[.int .i64 c, .int .i64 d] 25)).alloc (by simp; omega) (Obj.cells #[.int .i64 0, .int .i64 0] 25))
  have HC0 := Lib.hid (Below.refl (three w (.int .i64 a) (.int .i64 b) (.int .i64 c) (.int .i64 d) (.int .i64 0) (.int .i64 0) 25).heap.size (three w (.int .i64 a) (.int .i64 b) (.int .i64 c) (.int .i64 d) (.int .i64 0) (.int .i64 0) 25))
  unfold rv at *
  go_enter Try.func33, Try.ntmps33
  go_wp2_with fail
  refine (K1.out _).mono ?_
  rintro e w1 ⟨rfl, hB⟩
  have B1 := Lib.hid hB
  have HB1 := Lib.hid (HB0.out.trans (hB.mono HB0.out.size))
  have HC1 := Lib.hid (HC0.out.trans (hB.mono HC0.out.size))
  clear hB
  obtain ⟨q1_0, q1_1, q1_2, q1_3, q1_4, q1_5, q1_6, q1_7, q1_8⟩ := box_3 HC1.out
  go_wp2
  clear B1
  have k7 := fun W (hS : Since w1 W) => (K2.out W).mono fun e W' hh => And.intro hh.1 (hS.step hh.2)
  have k8 := fun W (hS : Since w1 W) => (K3.out W).mono fun e W' hh => And.intro hh.1 (hS.step hh.2)
  have k9 := fun W (hS : Since w1 W) => (K4.out W).mono fun e W' hh => And.intro hh.1 (hS.step hh.2)
  have K7 := Lib.hid k7
  have K8 := Lib.hid k8
  have K9 := Lib.hid k9
  clear k7 k8 k9 K2 K3 K4
  have hSd : Since w1 w1.drew := Below.drew (Below.refl _ _)
  go_region_held3 (fun w' => w'.cell? ⟨w.heap.size, 0, none⟩ = some (.int .i64 a) ∧ w'.cell? ⟨w.heap.size, 1, none⟩ = some (.int .i64 b) ∧ w'.cell? ⟨w.heap.size + 1, 0, none⟩ = some (.int .i64 c) ∧ w'.cell? ⟨w.heap.size + 1, 1, none⟩ = some (.int .i64 d) ∧ Since w1 w')
    (first | exact ⟨q1_0, q1_1, q1_2, q1_3, hSd⟩ | exact ⟨Since.cell hB q1_0, Since.cell hB q1_1, Since.cell hB q1_2, Since.cell hB q1_3, hB⟩)
    ((first
      | (go_at_call_of 67 (Value.agg #[Value.int .i64 c, Value.int .i64 d]); refine (K7.out _ (by first | exact hB | exact hSd)).mono ?_; rintro e w' ⟨rfl, hB⟩)
      | (go_at_call_of 67 (Value.agg #[Value.int .i64 a, Value.int .i64 b]); refine (K8.out _ (by first | exact hB | exact hSd)).mono ?_; rintro e w' ⟨rfl, hB⟩)
      | (go_at_call 66; refine (K9.out _ (by first | exact hB | exact hSd)).mono ?_; rintro e w' ⟨rfl, hB⟩)))
  have HB2 := Lib.hid (HB1.out.trans (Below.mono hB HB1.out.size))
  have HC2 := Lib.hid (HC1.out.trans (Below.mono hB HC1.out.size))
  clear hB
  go_wp2_with fail
  refine (K5.out _).mono ?_
  rintro e w3 ⟨rfl, hB⟩
  have B3 := Lib.hid hB
  have HB3 := Lib.hid (HB2.out.trans (hB.mono HB2.out.size))
  have HC3 := Lib.hid (HC2.out.trans (hB.mono HC2.out.size))
  clear hB
  obtain ⟨q3_0, q3_1, q3_2, q3_3, q3_4, q3_5, q3_6, q3_7, q3_8⟩ := box_3 HC3.out
  unfold rve
  go_wp2
  exact bodyPost_ret (v := rve R) (by simp [results, Try.results33, go_sem, q3_4, q3_5, rve]) rfl ⟨rfl, (HB3.out.setCell (p := ⟨w.heap.size + 2, 0, none⟩) (by simp) _).setCell (p := ⟨w.heap.size + 2, 1, none⟩) (by simp) _⟩

theorem rbtw_any (a b c d : Int) (w : World) (ha : I64 a) (hb : I64 b) (hc : I64 c) (hd : I64 d) :
    Calls Try.prog 33 #[rv a b, rv c d] w (RBtwOut a b c d w) := by
  have k1 := fun w => rcmp_any a b c d w ha hb hc hd
  rcases Qm.bothI_two a b c d with e1 | e1
  · obtain ⟨o, o'⟩ := Qm.bothI_ok.1 e1
    have hE : cmpR a b c d = (Qm.cmpI a b c d, 0) := by unfold cmpR; rw [if_pos e1]
    rw [hE] at k1
    unfold Qm.cmpI at k1
    by_cases hlt : a * d < c * b
    · rw [if_pos hlt] at k1
      have K1 := Lib.hid k1
      by_cases h1 : a < 0
      · by_cases h2 : 0 < c
        · have K2 := Lib.hid (fun w => rnew_any 0 1 w ⟨by omega, by omega⟩ ⟨by omega, by omega⟩)
          exact (rbtw_zero a b c d _ w h1 h2 K1 K2).mono fun e w' ⟨he, hw⟩ => ⟨_, .inr (.inr ⟨e1, hlt, .inl ⟨h1, h2, by decide⟩⟩), he, hw⟩
        · have hlt2 : -c * b < -a * d := by rw [Int.neg_mul, Int.neg_mul]; omega
          have o1 := o.1; have o2 := o.2.1; have o3 := o.2.2.1
          have o1' := o'.1; have o2' := o'.2.1; have o3' := o'.2.2.1
          obtain ⟨p, q, hs⟩ := Qm.simp_exists _ (-c) d (-a) b (Nat.le_refl _) (by omega) o1' (by omega) hlt2
          have hle := hs.le o1' o1 hlt2
          have hp := hs.pos (by omega) o1'
          have hq := hs.1
          have K2 : Hid (∀ w, Calls Try.prog 67 #[rv c d] w fun e w' => e = .returned (rv (-c) d) ∧ Below w.heap.size w w') := Lib.hid fun w => by
            have := negative_raw c d w
            rw [negI_of (by omega) (by omega)] at this
            exact this
          have K3 : Hid (∀ w, Calls Try.prog 67 #[rv a b] w fun e w' => e = .returned (rv (-a) b) ∧ Below w.heap.size w w') := Lib.hid fun w => by
            have := negative_raw a b w
            rw [negI_of (by omega) (by omega)] at this
            exact this
          have K4 : Hid (∀ w, Calls Try.prog 66 #[rv (-c) d, rv (-a) b] w fun e w' => e = .returned (.tuple #[.int .i64 p, .int .i64 q]) ∧ Below w.heap.size w w') := Lib.hid fun w => by
            refine (simplest_any _ (-c) d (-a) b w (Nat.le_refl _) (by omega) (by omega) o1' o2' (by omega) (by omega) (by omega) o2 hlt2).mono ?_
            rintro e w' ⟨p', q', hs', he, hw⟩
            rw [(hs.one hs').1, (hs.one hs').2]
            exact ⟨he, hw⟩
          have K5 := Lib.hid (fun w => rnew_any (-p) q w ⟨by omega, by omega⟩ ⟨by omega, by omega⟩)
          refine (rbtw_neg a b c d p q _ w h1 (by omega) (by omega) (by omega) K1 K2 K3 K4 K5).mono fun e w' ⟨he, hw⟩ => ⟨_, .inr (.inr ⟨e1, hlt, .inr (.inr ⟨h1, by omega, p, q, hs, ?_⟩)⟩), he, hw⟩
          unfold Qm.newR
          rw [if_neg (by omega)]
      · have o1 := o.1; have o2 := o.2.1; have o3 := o.2.2.2.1
        have o1' := o'.1; have o2' := o'.2.1; have o3' := o'.2.2.2.1
        have hc0 : 0 ≤ c := by
          have h3 : 0 ≤ a * d := Int.mul_nonneg (by omega) (by omega)
          have h4 : 0 * b < c * b := by omega
          have := Int.lt_of_mul_lt_mul_right h4 (by omega)
          omega
        obtain ⟨p, q, hs⟩ := Qm.simp_exists _ a b c d (Nat.le_refl _) (by omega) o1 (by omega) hlt
        have hle := hs.le o1 o1' hlt
        have hp := hs.pos (by omega) o1
        have hq := hs.1
        have K2 : Hid (∀ w, Calls Try.prog 66 #[rv a b, rv c d] w fun e w' => e = .returned (.tuple #[.int .i64 p, .int .i64 q]) ∧ Below w.heap.size w w') := Lib.hid fun w => by
          refine (simplest_any _ a b c d w (Nat.le_refl _) (by omega) (by omega) o1 o2 (by omega) (by omega) (by omega) o2' hlt).mono ?_
          rintro e w' ⟨p', q', hs', he, hw⟩
          rw [(hs.one hs').1, (hs.one hs').2]
          exact ⟨he, hw⟩
        have K3 := Lib.hid (fun w => rnew_any p q w ⟨by omega, by omega⟩ ⟨by omega, by omega⟩)
        refine (rbtw_pos a b c d p q _ w (by omega) K1 K2 K3).mono fun e w' ⟨he, hw⟩ => ⟨_, .inr (.inr ⟨e1, hlt, .inr (.inl ⟨by omega, p, q, hs, ?_⟩)⟩), he, hw⟩
        unfold Qm.newR
        rw [if_neg (by omega)]
    · rw [if_neg hlt] at k1
      refine (rbtw_order a b c d _ w ?_ (Lib.hid k1)).mono fun e w' ⟨he, hw⟩ => ⟨_, .inr (.inl ⟨e1, hlt, rfl⟩), he, hw⟩
      split <;> omega
  · have hE : cmpR a b c d = (0, 1) := by unfold cmpR; rw [if_neg (by rw [e1]; decide)]
    rw [hE] at k1
    exact (rbtw_err a b c d 1 w (by decide) (Lib.hid k1)).mono fun e w' ⟨he, hw⟩ => ⟨_, .inl ⟨e1, rfl⟩, he, hw⟩

end Go.Proofs.Ytimbgjpjgbjnkaa

