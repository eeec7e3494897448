/- The reference's way to the simplest number: mathematics. -/
import Derived.Test.YtimbgjpjgbjnkaaNum
namespace Go.Proofs.Ytimbgjpjgbjnkaa
open Go.RowKit Go.Shelf

/-- The numerators that are tried. -/
def nearL (x : Iv) (d : Int) : List Int := ([0, 1, -1] ++ if x.r then [] else [x.a * d / x.b, x.a * d / x.b + 1, x.a * d / x.b + 2]) ++ if x.s then [] else [x.c * d / x.d - 1, x.c * d / x.d, x.c * d / x.d + 1]

/-- Whether a numerator gives a number of the interval, with just this denominator. -/
noncomputable def fits4 (x : Iv) (d k : Int) : Bool := decide ((Qm.ofR k d).2.2 = 0) && (decide ((Qm.ofR k d).2.1 = d) && hasI (Qm.ofR k d).1 (Qm.ofR k d).2.1 x)

/-- The better one of two of the same denominator. -/
def betterB (b : Option (Int × Int)) (r : Int × Int) : Bool := match b with
  | none => true
  | some s => decide (absZ r.1 < absZ s.1) || (decide (absZ r.1 = absZ s.1) && decide (s.1 < r.1))

noncomputable def step4 (x : Iv) (d : Int) (b : Option (Int × Int)) (k : Int) : Option (Int × Int) :=
  if fits4 x d k = true ∧ betterB b ((Qm.ofR k d).1, (Qm.ofR k d).2.1) = true then some ((Qm.ofR k d).1, (Qm.ofR k d).2.1) else b

noncomputable def row4 (d : Int) (b : Option (Int × Int)) (x : Iv) : Option (Int × Int) := (nearL x d).foldl (step4 x d) b

/-- The best of all for a denominator. -/
noncomputable def best4 (xs : List Iv) (d : Int) : Option (Int × Int) := xs.foldl (row4 d) none

/-- b is the best of those for which S holds. -/
def Best (S : Int × Int → Prop) (b : Option (Int × Int)) : Prop := match b with
  | none => ∀ q, ¬ S q
  | some r => S r ∧ ∀ q, S q → absZ r.1 < absZ q.1 ∨ (absZ r.1 = absZ q.1 ∧ q.1 ≤ r.1)

theorem Best.congr {S T : Int × Int → Prop} {b : Option (Int × Int)} (h : Best S b) (e : ∀ q, T q ↔ S q) : Best T b := by
  cases b with
  | none => exact fun q hq => h q ((e q).1 hq)
  | some r => exact ⟨(e r).2 h.1, fun q hq => h.2 q ((e q).1 hq)⟩

theorem Best.step {S : Int × Int → Prop} {b : Option (Int × Int)} (h : Best S b) (x : Iv) (d k : Int) : Best (fun q => S q ∨ (fits4 x d k = true ∧ q = ((Qm.ofR k d).1, (Qm.ofR k d).2.1))) (step4 x d b k) := by
  unfold step4
  generalize ((Qm.ofR k d).1, (Qm.ofR k d).2.1) = r
  by_cases hf : fits4 x d k = true
  · by_cases hb : betterB b r = true
    · rw [if_pos ⟨hf, hb⟩]
      refine ⟨.inr ⟨hf, rfl⟩, fun q hq => ?_⟩
      rcases hq with hq | ⟨_, rfl⟩
      · cases b with
        | none => exact absurd hq (h q)
        | some s =>
          have h1 := h.2 q hq
          unfold betterB at hb
          simp only [Bool.or_eq_true, Bool.and_eq_true, decide_eq_true_eq] at hb
          omega
      · exact .inr ⟨rfl, Int.le_refl _⟩
    · rw [if_neg fun hh => hb hh.2]
      cases b with
      | none => exact absurd rfl hb
      | some s =>
        refine ⟨.inl h.1, fun q hq => ?_⟩
        rcases hq with hq | ⟨_, rfl⟩
        · exact h.2 q hq
        · unfold betterB at hb
          simp only [Bool.or_eq_true, Bool.and_eq_true, decide_eq_true_eq, not_or] at hb
          omega
  · rw [if_neg fun hh => hf hh.1]
    exact h.congr fun q => ⟨fun hq => hq.resolve_right fun hh => hf hh.1, .inl⟩

theorem Best.list {x : Iv} {d : Int} (ks : List Int) : ∀ {S : Int × Int → Prop} {b : Option (Int × Int)}, Best S b → Best (fun q => S q ∨ ∃ k ∈ ks, fits4 x d k = true ∧ q = ((Qm.ofR k d).1, (Qm.ofR k d).2.1)) (ks.foldl (step4 x d) b) := by
  induction ks with
  | nil => intro S b h; exact h.congr fun q => ⟨fun hq => hq.resolve_right fun ⟨k, hk, _⟩ => (by cases hk), .inl⟩
  | cons k ks ih =>
    intro S b h
    rw [List.foldl_cons]
    refine (ih (h.step x d k)).congr fun q => ?_
    constructor
    · rintro (hq | ⟨j, hj, h1⟩)
      · exact .inl (.inl hq)
      · rcases List.mem_cons.1 hj with rfl | hj
        · exact .inl (.inr h1)
        · exact .inr ⟨j, hj, h1⟩
    · rintro ((hq | h1) | ⟨j, hj, h1⟩)
      · exact .inl hq
      · exact .inr ⟨k, List.mem_cons_self .., h1⟩
      · exact .inr ⟨j, List.mem_cons_of_mem _ hj, h1⟩

theorem Best.rows {d : Int} (xs : List Iv) : ∀ {S : Int × Int → Prop} {b : Option (Int × Int)}, Best S b → Best (fun q => S q ∨ ∃ x ∈ xs, ∃ k ∈ nearL x d, fits4 x d k = true ∧ q = ((Qm.ofR k d).1, (Qm.ofR k d).2.1)) (xs.foldl (row4 d) b) := by
  induction xs with
  | nil => intro S b h; exact h.congr fun q => ⟨fun hq => hq.resolve_right fun ⟨k, hk, _⟩ => (by cases hk), .inl⟩
  | cons x xs ih =>
    intro S b h
    rw [List.foldl_cons]
    refine (ih (Best.list (x := x) (d := d) (nearL x d) h)).congr fun q => ?_
    constructor
    · rintro (hq | ⟨j, hj, h1⟩)
      · exact .inl (.inl hq)
      · rcases List.mem_cons.1 hj with rfl | hj
        · exact .inl (.inr h1)
        · exact .inr ⟨j, hj, h1⟩
    · rintro ((hq | h1) | ⟨j, hj, h1⟩)
      · exact .inl hq
      · exact .inr ⟨x, List.mem_cons_self .., h1⟩
      · exact .inr ⟨j, List.mem_cons_of_mem _ hj, h1⟩

theorem best4_is (xs : List Iv) (d : Int) : Best (fun q => ∃ x ∈ xs, ∃ k ∈ nearL x d, fits4 x d k = true ∧ q = ((Qm.ofR k d).1, (Qm.ofR k d).2.1)) (best4 xs d) := by
  have h0 : Best (fun _ => False) none := fun q h => h
  exact (Best.rows xs h0).congr fun q => ⟨.inr, fun h => h.resolve_left fun h => h⟩

/-- What fits is a number of the interval. -/
theorem fits_in {x : Iv} {d k : Int} (h0 : d ≠ 0) (h : fits4 x d k = true) : InI x ((Qm.ofR k d).1, (Qm.ofR k d).2.1) ∧ (Qm.ofR k d).2.1 = d := by
  unfold fits4 at h
  simp only [Bool.and_eq_true, decide_eq_true_eq] at h
  obtain ⟨h1, h2, h3⟩ := h
  rcases Qm.ofR_out (n := k) h0 with e | ⟨p, q, e, o, _⟩
  · rw [e] at h1
    simp at h1
  · rw [e] at h2 h3 ⊢
    unfold hasI at h3
    simp only [Bool.and_eq_true, decide_eq_true_eq] at h3
    exact ⟨⟨o, h3.1.2, h3.2⟩, h2⟩

theorem in_fits {x : Iv} (hx : x.good = true) {n d : Int} (h : InI x (n, d)) : fits4 x d n = true ∧ ((Qm.ofR n d).1, (Qm.ofR n d).2.1) = (n, d) := by
  have e := Qm.ofR_ok h.1
  unfold fits4
  rw [e]
  refine ⟨?_, rfl⟩
  simp only [decide_true, Bool.true_and]
  unfold hasI
  simp only [Bool.and_eq_true, decide_eq_true_eq]
  exact ⟨⟨hx, h.2.1⟩, h.2.2⟩

/-- A number over the same denominator, nearer to 0, is not in the set. -/
theorem nearer_out {xs : List Iv} {n d m : Int} (h : IsPick xs (n, d)) (h1 : -1099511627776 ≤ m) (h2 : m ≤ 1099511627776) (hm : absZ m < absZ n) : ∃ p q : Int, Qm.Ok p q ∧ p * d = m * q ∧ ∀ x ∈ xs, ¬ InI x (p, q) := by
  have o : Qm.Ok n d := by obtain ⟨⟨x, _, h, _⟩, _⟩ := h; exact h
  have od := o.1
  have od2 := o.2.1
  have hg := Qm.g_pos (a := m) (b := d) (by omega)
  have b1 := ediv_le (a := m) (M := 1099511627776) hg h1 h2
  have b2 := ediv_le (a := d) (M := d) hg (by omega) (by omega)
  rcases Qm.ofR_out (n := m) (d := d) (by omega) with e | ⟨p, q, e, ho, e2⟩
  · rw [Qm.ofR_pos (by omega), if_neg (by omega)] at e
    simp at e
  · have hq : q ≤ d := by
      rw [Qm.ofR_pos (by omega), if_neg (by omega)] at e
      simp only [Prod.mk.injEq] at e
      omega
    refine ⟨p, q, ho, e2, fun x hx hi => ?_⟩
    have := h.2 (p, q) ⟨x, hx, hi⟩
    unfold SmpLe at this
    simp only at this
    have hqd : q = d := by omega
    subst hqd
    have hpm : p = m := Int.eq_of_mul_eq_mul_right (by omega) e2
    subst hpm
    omega

theorem floor_mem {u d f : Int} (hd : 1 ≤ d) (h1 : f * d ≤ u) (h2 : u ≤ (f + 1) * d) : u / d = f ∨ u / d = f + 1 := by
  have e := Int.mul_ediv_add_emod u d
  have e1 := Int.emod_nonneg u (by omega : d ≠ 0)
  have e2 := Int.emod_lt_of_pos u (by omega : 0 < d)
  generalize u / d = g at *
  have a1 : f * d < (g + 1) * d := by
    rw [Int.add_mul, Int.mul_comm g d]
    omega
  have a2 : g * d < (f + 1 + 1) * d := by
    rw [Int.add_mul (f + 1), Int.mul_comm g d]
    omega
  have b1 := Int.lt_of_mul_lt_mul_right a1 (by omega)
  have b2 := Int.lt_of_mul_lt_mul_right a2 (by omega)
  omega

theorem cross_le {a b d p q m : Int} (hq : 1 ≤ q) (e : p * d = m * q) (hd : 1 ≤ d) : (p * b ≤ a * q ↔ m * b ≤ a * d) ∧ (a * q ≤ p * b ↔ a * d ≤ m * b) := by
  have x1 : p * b * d = m * b * q := by
    have : p * b * d = p * d * b := by ac_rfl
    rw [this, e]
    ac_rfl
  have x2 : a * q * d = a * d * q := by ac_rfl
  constructor
  · constructor
    · intro h
      have : p * b * d ≤ a * q * d := Int.mul_le_mul_of_nonneg_right h (by omega)
      rw [x1, x2] at this
      exact Int.le_of_mul_le_mul_right this (by omega)
    · intro h
      have : m * b * q ≤ a * d * q := Int.mul_le_mul_of_nonneg_right h (by omega)
      rw [← x1, ← x2] at this
      exact Int.le_of_mul_le_mul_right this (by omega)
  · constructor
    · intro h
      have : a * q * d ≤ p * b * d := Int.mul_le_mul_of_nonneg_right h (by omega)
      rw [x1, x2] at this
      exact Int.le_of_mul_le_mul_right this (by omega)
    · intro h
      have : a * d * q ≤ m * b * q := Int.mul_le_mul_of_nonneg_right h (by omega)
      rw [← x1, ← x2] at this
      exact Int.le_of_mul_le_mul_right this (by omega)

/-- The simplest number's numerator is tried. -/
theorem near_has {xs : List Iv} {n d : Int} (h : IsPick xs (n, d)) {x : Iv} (hx : x ∈ xs) (hg : x.good = true) (hi : InI x (n, d)) : n ∈ nearL x d := by
  have o : Qm.Ok n d := hi.1
  have od := o.1
  have on1 := o.2.2.1
  have on2 := o.2.2.2.1
  obtain ⟨g1, g2⟩ := good_from hg
  unfold nearL
  rcases Int.lt_trichotomy n 0 with hn | hn | hn
  · obtain ⟨p, q, ho, e, hout⟩ := nearer_out h (m := n + 1) (by omega) (by omega) (by rw [abs_neg (by omega), abs_neg (by omega)]; omega)
    have hno := hout x hx
    have hk : kP (n, d) < kP (p, q) := (kR_lt o.1 o.2.1 ho.1 ho.2.1).2 (by
      have : n * q < (n + 1) * q := by rw [Int.add_mul]; have := ho.1; omega
      rw [← e] at this
      exact this)
    have hto : x.to.key ≤ 2 * kP (p, q) := by
      apply Classical.byContradiction
      intro hc
      exact hno ⟨ho, by have := hi.2.1; omega, by omega⟩
    cases hs : x.s with
    | true =>
      exfalso
      have := (key_range ho).2
      have e3 : x.to = highC := by unfold Iv.to; rw [hs, if_pos rfl]
      rw [e3] at hto
      unfold kP at hto
      simp only at hto
      omega
    | false =>
      have e3 : x.to = ⟨x.c, x.d, !x.q⟩ := by unfold Iv.to; rw [hs]; simp
      have hsm : SmallR x.c x.d := by
        rcases g2 with e4 | e4
        · have e5 := e3.symm.trans e4
          have : (1 : Int) ≤ 1 := by decide
          rcases end_ok (show endB x.c x.d x.q x.s = true by unfold Iv.good at hg; simp only [Bool.and_eq_true] at hg; exact hg.1.2) with ⟨h1, _⟩ | ⟨_, h2⟩
          · rw [hs] at h1; cases h1
          · exact h2
        · rw [e3] at e4
          exact e4
      have k1 : kP (x.c, x.d) ≤ kP (p, q) := by
        rw [e3, key_split] at hto
        simp only at hto
        split at hto <;> omega
      have k2 : kP (n, d) ≤ kP (x.c, x.d) := by
        have := hi.2.2
        rw [e3, key_split] at this
        simp only at this
        split at this <;> omega
      have l1 : ¬ p * x.d < x.c * q := fun hh => by have := (kR_lt ho.1 ho.2.1 hsm.1.1 hsm.1.2.1).2 hh; unfold kP at k1; simp only at k1; omega
      have l2 : ¬ x.c * d < n * x.d := fun hh => by have := (kR_lt hsm.1.1 hsm.1.2.1 o.1 o.2.1).2 hh; have k2' : kR n d ≤ kR x.c x.d := k2; omega
      have l3 := (cross_le (a := x.c) (b := x.d) ho.1 e o.1).2.1 (by omega)
      have hf := floor_mem (u := x.c * d) (d := x.d) (f := n) hsm.1.1 (by omega) l3
      simp only [Bool.false_eq_true, if_false, List.mem_append, List.mem_cons, List.not_mem_nil, or_false]
      refine .inr ?_
      omega
  · subst hn
    simp
  · obtain ⟨p, q, ho, e, hout⟩ := nearer_out h (m := n - 1) (by omega) (by omega) (by rw [abs_pos (by omega), abs_pos (by omega)]; omega)
    have hno := hout x hx
    have hk : kP (p, q) < kP (n, d) := (kR_lt ho.1 ho.2.1 o.1 o.2.1).2 (by
      have : (n - 1) * q < n * q := by rw [Int.sub_mul]; have := ho.1; omega
      rw [← e] at this
      exact this)
    have hfr : 2 * kP (p, q) < x.from.key := by
      apply Classical.byContradiction
      intro hc
      exact hno ⟨ho, by omega, by have := hi.2.2; omega⟩
    cases hr : x.r with
    | true =>
      exfalso
      have := (key_range ho).1
      have e3 : x.from = lowC := by unfold Iv.from; rw [hr, if_pos rfl]
      rw [e3] at hfr
      unfold kP at hfr
      simp only at hfr
      omega
    | false =>
      have e3 : x.from = ⟨x.a, x.b, x.p⟩ := by unfold Iv.from; rw [hr]; simp
      have hsm : SmallR x.a x.b := by
        rcases end_ok (show endB x.a x.b x.p x.r = true by unfold Iv.good at hg; simp only [Bool.and_eq_true] at hg; exact hg.1.1) with ⟨h1, _⟩ | ⟨_, h2⟩
        · rw [hr] at h1; cases h1
        · exact h2
      have k1 : kP (p, q) ≤ kP (x.a, x.b) := by
        rw [e3, key_split] at hfr
        simp only at hfr
        split at hfr <;> omega
      have k2 : kP (x.a, x.b) ≤ kP (n, d) := by
        have := hi.2.1
        rw [e3, key_split] at this
        simp only at this
        split at this <;> omega
      have l1 : ¬ x.a * q < p * x.b := fun hh => by have := (kR_lt hsm.1.1 hsm.1.2.1 ho.1 ho.2.1).2 hh; unfold kP at k1; simp only at k1; omega
      have l2 : ¬ n * x.b < x.a * d := fun hh => by have := (kR_lt o.1 o.2.1 hsm.1.1 hsm.1.2.1).2 hh; have k2' : kR x.a x.b ≤ kR n d := k2; omega
      have l3 := (cross_le (a := x.a) (b := x.b) ho.1 e o.1).1.1 (by omega)
      have hf := floor_mem (u := x.a * d) (d := x.b) (f := n - 1) hsm.1.1 l3 (by rw [Int.sub_add_cancel]; omega)
      simp only [Bool.false_eq_true, if_false, List.mem_append, List.mem_cons, List.not_mem_nil, or_false]
      refine .inl (.inr ?_)
      omega

/-- For each denominator below the simplest number's nothing is found, for its own this number. -/
theorem best_pick {xs : List Iv} (hg : ∀ x ∈ xs, x.good = true) {r : Int × Int} (h : IsPick xs r) : (∀ d, 1 ≤ d → d < r.2 → best4 xs d = none) ∧ best4 xs r.2 = some r := by
  obtain ⟨n, D⟩ := r
  have hD : 1 ≤ D := by obtain ⟨⟨x, _, h, _⟩, _⟩ := h; exact h.1
  constructor
  · intro d h1 h2
    have hb := best4_is xs d
    cases hc : best4 xs d with
    | none => rfl
    | some q =>
      exfalso
      rw [hc] at hb
      obtain ⟨⟨x, hx, k, _, hf, e⟩, _⟩ := hb
      obtain ⟨hi, e2⟩ := fits_in (by omega) hf
      have := h.2 _ ⟨x, hx, hi⟩
      unfold SmpLe at this
      simp only at this h2
      omega
  · have hb := best4_is xs D
    obtain ⟨x0, hx0, hi0⟩ := h.1
    have hn := near_has h hx0 (hg x0 hx0) hi0
    have hf0 := in_fits (hg x0 hx0) hi0
    have hS : ∃ x ∈ xs, ∃ k ∈ nearL x D, fits4 x D k = true ∧ (n, D) = ((Qm.ofR k D).1, (Qm.ofR k D).2.1) := ⟨x0, hx0, n, hn, hf0.1, hf0.2.symm⟩
    cases hc : best4 xs D with
    | none => rw [hc] at hb; exact absurd hS (hb (n, D))
    | some q =>
      rw [hc] at hb
      obtain ⟨⟨x, hx, k, _, hf, e⟩, hm⟩ := hb
      obtain ⟨hi, e2⟩ := fits_in (by omega) hf
      have h1 := h.2 _ ⟨x, hx, hi⟩
      rw [← e] at h1
      have h2 := hm (n, D) hS
      have h3 : q.2 = D := by rw [e]; exact e2
      unfold SmpLe at h1
      simp only at h1 h2 ⊢
      rw [show q = (q.1, q.2) from rfl, h3]
      congr 2
      omega

end Go.Proofs.Ytimbgjpjgbjnkaa
