/- Mathematics of the laws of span: the numbers of sets, and what Normal leaves. -/
import Derived.Test.YtimbgjpjgbjnkaaLaw04d
import Derived.Test.YtimbgjpjgbjnkaaPk5
namespace Go.Proofs.Ytimbgjpjgbjnkaa
open Go.RowKit Go.Shelf

theorem any_in {xs : List Iv} (hg : ∀ x ∈ xs, x.good = true) (n d : Int) : xs.any (hasI n d) = true ↔ inL xs (2 * kR n d) := by
  rw [List.any_eq_true]
  constructor
  · rintro ⟨x, hx, h⟩
    unfold hasI at h
    simp only [Bool.and_eq_true, decide_eq_true_eq] at h
    exact ⟨x, hx, h.1.2, by omega⟩
  · rintro ⟨x, hx, h1, h2⟩
    refine ⟨x, hx, ?_⟩
    unfold hasI
    simp only [Bool.and_eq_true, decide_eq_true_eq]
    exact ⟨⟨hg x hx, h1⟩, by omega⟩

theorem hasL_iff {xs : List Iv} (hg : ∀ x ∈ xs, x.good = true) {n d : Int} (o : Qm.Ok n d) : hasL xs n d = true ↔ inL xs (2 * kR n d) := by
  unfold hasL
  rw [decide_eq_true o, Bool.true_and]
  exact any_in hg n d

theorem has_of {L xs : List Iv} (hL : ∀ x ∈ L, x.good = true) (hx : ∀ x ∈ xs, x.good = true) (h : ∀ κ, inL L κ ↔ inL xs κ) (n d : Int) : hasL L n d = hasL xs n d := by
  unfold hasL
  have : L.any (hasI n d) = xs.any (hasI n d) := Bool.eq_iff_iff.2 ((any_in hL n d).trans ((h _).trans (any_in hx n d).symm))
  rw [this]

theorem fit_goods {L : List Iv} (h : Fit L) : ∀ x ∈ L, x.good = true := fun _ hx => h.good hx

theorem norm_self {L : List Iv} (h : Fit L) (hl : L.length ≤ 32) : normL L = (L, 0) := by
  unfold normL
  rw [if_pos (fit_goods h), ← theSet_is h fun κ => Iff.rfl]
  unfold limL
  rw [if_neg (by omega)]

/-- What Normal leaves. -/
theorem norm_cases (xs : List Iv) : (∃ L, normL xs = (L, 0) ∧ Fit L ∧ L.length ≤ 32 ∧ validL L = 0 ∧ normL L = (L, 0) ∧ ∀ n d, hasL L n d = hasL xs n d) ∨ (∃ e : Int, (e = 1 ∨ e = 4) ∧ normL xs = ([], e)) := by
  by_cases hg : ∀ x ∈ xs, x.good = true
  · obtain ⟨h1, h2⟩ := theSet_fit (norm_exists xs hg)
    have e : normL xs = limL (theSet (inL xs)) := by unfold normL; rw [if_pos hg]
    rw [e]
    unfold limL
    by_cases hl : 32 < (theSet (inL xs)).length
    · rw [if_pos hl]
      exact .inr ⟨4, .inr rfl, rfl⟩
    · rw [if_neg hl]
      exact .inl ⟨_, rfl, h1, by omega, valid_fit h1 (by omega), norm_self h1 (by omega), has_of (fit_goods h1) hg h2⟩
  · refine .inr ⟨1, .inl rfl, ?_⟩
    unfold normL
    rw [if_neg hg]

theorem key_range {n d : Int} (o : Qm.Ok n d) : lowC.key ≤ 2 * kR n d ∧ 2 * kR n d < highC.key := by
  have h1 : lowC.key = 2 * kR (-1099511627776) 1 := by rw [key_split]; simp [lowC, kP]
  have h2 : highC.key = 2 * kR 1099511627776 1 + 1 := by rw [key_split]; simp [highC, kP]
  have l1 := kR_lt (n := n) (d := d) (n' := -1099511627776) (d' := 1) o.1 o.2.1 (by decide) (by decide)
  have l2 := kR_lt (n := 1099511627776) (d := 1) (n' := n) (d' := d) (by decide) (by decide) o.1 o.2.1
  have a1 := o.1
  have a3 := o.2.2.1
  have a4 := o.2.2.2.1
  have b1 : ¬ n * 1 < -1099511627776 * d := by omega
  have b2 : ¬ 1099511627776 * d < n * 1 := by omega
  have c1 := mt l1.1 b1
  have c2 := mt l2.1 b2
  omega

theorem num_union {a b U : List Iv} (ha : Fit a) (hb : Fit b) (hU : Fit U) (h : ∀ κ, inL U κ ↔ unionS a b κ) {n d : Int} (o : Qm.Ok n d) : hasL U n d = (hasL a n d || hasL b n d) :=
  Bool.eq_iff_iff.2 (by rw [Bool.or_eq_true, hasL_iff (fit_goods hU) o, hasL_iff (fit_goods ha) o, hasL_iff (fit_goods hb) o]; exact h _)

theorem num_meet {a b U : List Iv} (ha : Fit a) (hb : Fit b) (hU : Fit U) (h : ∀ κ, inL U κ ↔ meetS a b κ) {n d : Int} (o : Qm.Ok n d) : hasL U n d = (hasL a n d && hasL b n d) :=
  Bool.eq_iff_iff.2 (by rw [Bool.and_eq_true, hasL_iff (fit_goods hU) o, hasL_iff (fit_goods ha) o, hasL_iff (fit_goods hb) o]; exact h _)

theorem num_not {a U : List Iv} (ha : Fit a) (hU : Fit U) (h : ∀ κ, inL U κ ↔ notS a κ) {n d : Int} (o : Qm.Ok n d) : hasL U n d = !(hasL a n d) :=
  Bool.eq_iff_iff.2 (by
    rw [Bool.not_eq_true', ← Bool.not_eq_true, hasL_iff (fit_goods hU) o, hasL_iff (fit_goods ha) o, h _]
    unfold notS
    have := key_range o
    exact ⟨fun h => h.2.2, fun h => ⟨this.1, this.2, h⟩⟩)

/-- What is in a and not in b. -/
theorem only_in {a b N M : List Iv} (ha : Fit a) (hN : ∀ κ, inL N κ ↔ notS b κ) (hM : ∀ κ, inL M κ ↔ meetS a N κ) (κ : Int) : inL M κ ↔ inL a κ ∧ ¬ inL b κ := by
  rw [hM κ]
  unfold meetS
  rw [hN κ]
  unfold notS
  constructor
  · rintro ⟨h1, h2⟩
    exact ⟨h1, h2.2.2⟩
  · rintro ⟨h1, h2⟩
    have := in_bounds (fit_goods ha) h1
    exact ⟨h1, this.1, this.2, h2⟩

theorem some_in {L : List Iv} (h : Fit L) : L ≠ [] ↔ ∃ κ, inL L κ := by
  constructor
  · intro h0
    cases L with
    | nil => exact absurd rfl h0
    | cons x xs => exact ⟨x.from.key, inL_cons.2 (.inl ⟨Int.le_refl _, (good_parts h.head).2.2⟩)⟩
  · rintro ⟨κ, h1⟩ rfl
    exact inL_nil κ h1

/-- Sets are equal if nothing is in one of them alone. -/
theorem eq_only {a b M M' : List Iv} (ha : Fit a) (hb : Fit b) (hM : Fit M) (hM' : Fit M') (h : ∀ κ, inL M κ ↔ inL a κ ∧ ¬ inL b κ) (h' : ∀ κ, inL M' κ ↔ inL b κ ∧ ¬ inL a κ) : decide (a = b) = (decide (M = []) && decide (M' = [])) := by
  refine Bool.eq_iff_iff.2 ?_
  rw [Bool.and_eq_true, decide_eq_true_eq, decide_eq_true_eq, decide_eq_true_eq]
  constructor
  · rintro rfl
    refine ⟨Classical.byContradiction fun h0 => ?_, Classical.byContradiction fun h0 => ?_⟩
    · obtain ⟨κ, hk⟩ := (some_in hM).1 h0
      exact ((h κ).1 hk).2 ((h κ).1 hk).1
    · obtain ⟨κ, hk⟩ := (some_in hM').1 h0
      exact ((h' κ).1 hk).2 ((h' κ).1 hk).1
  · rintro ⟨e1, e2⟩
    refine Fit.one ha hb fun κ => ⟨fun hk => Classical.byContradiction fun hn => ?_, fun hk => Classical.byContradiction fun hn => ?_⟩
    · have := (h κ).2 ⟨hk, hn⟩
      rw [e1] at this
      exact inL_nil κ this
    · have := (h' κ).2 ⟨hk, hn⟩
      rw [e2] at this
      exact inL_nil κ this

/-- What is picked is in the set. -/
theorem pick_in {L : List Iv} {r : Int × Int} (h : IsPick L r) : Qm.Ok r.1 r.2 ∧ inL L (2 * kR r.1 r.2) := by
  obtain ⟨⟨x, hx, ho, h1, h2⟩, _⟩ := h
  unfold kP at h1 h2
  exact ⟨ho, x, hx, h1, by omega⟩

theorem pick_only {a b M : List Iv} (ha : Fit a) (hb : Fit b) (h : ∀ κ, inL M κ ↔ inL a κ ∧ ¬ inL b κ) {r : Int × Int} (hr : IsPick M r) : hasL a r.1 r.2 = true ∧ hasL b r.1 r.2 = false := by
  obtain ⟨o, hi⟩ := pick_in hr
  obtain ⟨h1, h2⟩ := (h _).1 hi
  refine ⟨(hasL_iff (fit_goods ha) o).2 h1, ?_⟩
  rw [← Bool.not_eq_true]
  exact mt (hasL_iff (fit_goods hb) o).1 h2

/-- Between two small ratios there is one. -/
theorem btw_small {a b c d : Int} {R : Int × Int × Int} (h : Qm.Btw a b c d R) (o : SmallR a b) (o' : SmallR c d) (hlt : a * d < c * b) : R.2.2 = 0 ∧ Qm.Ok R.1 R.2.1 := by
  have hb := o.1.1
  have hd := o'.1.1
  have hne : b + d ≠ 0 := by omega
  rcases Qm.ofR_out (n := a + c) (d := b + d) hne with e | ⟨p, q, _, hq, e⟩
  · exfalso
    rw [Qm.ofR_pos (by omega)] at e
    have hg := Qm.g_pos (a := a + c) (b := b + d) hne
    have b1 := ediv_le (a := a + c) (M := 1099511627776) hg (by have := o.2.1; have := o'.2.1; omega) (by have := o.2.2.1; have := o'.2.2.1; omega)
    have b2 := ediv_le (a := b + d) (M := 1048576) hg (by omega) (by have := o.2.2.2; have := o'.2.2.2; omega)
    rw [if_neg (by omega)] at e
    simp at e
  · have hq0 := hq.1
    have hpos : 0 < b + d := by omega
    have e1 : a * q < p * b := by
      have : a * q * (b + d) < p * b * (b + d) := by
        have x1 : p * b * (b + d) = (a + c) * q * b := by rw [← e]; ac_rfl
        have x2 : a * q * (b + d) = a * b * q + a * d * q := by rw [Int.mul_add]; ac_rfl
        have x3 : (a + c) * q * b = a * b * q + c * b * q := by rw [Int.add_mul, Int.add_mul]; ac_rfl
        have x4 : a * d * q < c * b * q := Int.mul_lt_mul_of_pos_right hlt (by omega)
        omega
      exact Int.lt_of_mul_lt_mul_right this (by omega)
    have e2 : p * d < c * q := by
      have : p * d * (b + d) < c * q * (b + d) := by
        have x1 : p * d * (b + d) = (a + c) * q * d := by rw [← e]; ac_rfl
        have x2 : c * q * (b + d) = c * b * q + c * d * q := by rw [Int.mul_add]; ac_rfl
        have x3 : (a + c) * q * d = a * d * q + c * d * q := by rw [Int.add_mul, Int.add_mul]; ac_rfl
        have x4 : a * d * q < c * b * q := Int.mul_lt_mul_of_pos_right hlt (by omega)
        omega
      exact Int.lt_of_mul_lt_mul_right this (by omega)
    have h1 := (btw_simp h o.1 o'.1 (q := (p, q)) hq e1 e2).1
    exact ⟨h1, (btw_in h o.1 o'.1 h1).1⟩

end Go.Proofs.Ytimbgjpjgbjnkaa
