/- Mathematics of sweeping: lists of intervals as sets of cut numbers; the ends of intervals in order. -/
import Derived.Test.YthjnodmhfhoilaaSp6
namespace Go.Proofs.Ythjnodmhfhoilaa
open Go.RowKit Go.Shelf

/-- Whether a list's intervals have a cut's number. -/
def inL (xs : List Iv) (κ : Int) : Prop := ∃ x ∈ xs, x.from.key ≤ κ ∧ κ < x.to.key

theorem inL_nil (κ : Int) : ¬ inL [] κ := fun ⟨x, h, _⟩ => by cases h

theorem inL_append {xs ys : List Iv} {κ : Int} : inL (xs ++ ys) κ ↔ inL xs κ ∨ inL ys κ := by
  constructor
  · rintro ⟨x, h, hk⟩
    rcases List.mem_append.1 h with h | h
    · exact .inl ⟨x, h, hk⟩
    · exact .inr ⟨x, h, hk⟩
  · rintro (⟨x, h, hk⟩ | ⟨x, h, hk⟩)
    · exact ⟨x, List.mem_append_left _ h, hk⟩
    · exact ⟨x, List.mem_append_right _ h, hk⟩

theorem inL_one {x : Iv} {κ : Int} : inL [x] κ ↔ x.from.key ≤ κ ∧ κ < x.to.key := by
  constructor
  · rintro ⟨y, h, hk⟩
    rw [List.mem_singleton.1 h] at hk
    exact hk
  · intro h
    exact ⟨x, List.mem_singleton_self x, h⟩

theorem inL_cons {x : Iv} {xs : List Iv} {κ : Int} : inL (x :: xs) κ ↔ (x.from.key ≤ κ ∧ κ < x.to.key) ∨ inL xs κ := by
  rw [show x :: xs = [x] ++ xs from rfl, inL_append, inL_one]

/-- The interval between two cuts. -/
def mkIv (f t : Cut) : Iv :=
  ⟨if f = lowC then 0 else f.n, if f = lowC then 0 else f.d, if t = highC then 0 else t.n, if t = highC then 0 else t.d, if f = lowC then false else f.a, if t = highC then false else !t.a, decide (f = lowC), decide (t = highC)⟩

theorem mkIv_from (f t : Cut) : (mkIv f t).from = f := by
  unfold mkIv Iv.from
  by_cases h : f = lowC
  · simp [h]
  · simp [h]

theorem mkIv_to (f t : Cut) : (mkIv f t).to = t := by
  unfold mkIv Iv.to
  by_cases h : t = highC
  · simp [h]
  · simp [h]

/-- The cut before an interval. -/
def FromC (c : Cut) : Prop := c = lowC ∨ SmallR c.n c.d
/-- The cut behind an interval. -/
def ToC (c : Cut) : Prop := c = highC ∨ SmallR c.n c.d

theorem small_ne_low {c : Cut} (h : SmallR c.n c.d) : c ≠ lowC := by
  intro e
  rw [e] at h
  have := h.2.1
  simp [lowC] at this
theorem small_ne_high {c : Cut} (h : SmallR c.n c.d) : c ≠ highC := by
  intro e
  rw [e] at h
  have := h.2.2.1
  simp [highC] at this

theorem FromC.ok {c : Cut} (h : FromC c) : c.Ok := by
  rcases h with rfl | h
  · exact key_low
  · exact h.1
theorem ToC.ok {c : Cut} (h : ToC c) : c.Ok := by
  rcases h with rfl | h
  · exact key_high
  · exact h.1

theorem mkIv_good {f t : Cut} (hf : FromC f) (ht : ToC t) (hk : f.key < t.key) : (mkIv f t).good = true := by
  unfold Iv.good
  rw [mkIv_from, mkIv_to, decide_eq_true hk, Bool.and_true, Bool.and_eq_true]
  constructor
  · unfold mkIv endB
    rcases hf with rfl | h
    · simp
    · have := small_ne_low h
      simp [this, h]
  · unfold mkIv endB
    rcases ht with rfl | h
    · simp
    · have := small_ne_high h
      simp [this, h]

theorem good_from {x : Iv} (h : x.good = true) : FromC x.from ∧ ToC x.to := by
  unfold Iv.good at h
  simp only [Bool.and_eq_true, decide_eq_true_eq] at h
  constructor
  · rcases end_ok h.1.1 with ⟨e, _⟩ | ⟨e, hs⟩
    · exact .inl (by unfold Iv.from; rw [e]; rfl)
    · exact .inr (by unfold Iv.from; rw [e]; exact hs)
  · rcases end_ok h.1.2 with ⟨e, _⟩ | ⟨e, hs⟩
    · exact .inl (by unfold Iv.to; rw [e]; rfl)
    · exact .inr (by unfold Iv.to; rw [e]; exact hs)

/-- A valid interval is what lies between its cuts. -/
theorem mkIv_self {x : Iv} (h : x.good = true) : mkIv x.from x.to = x := by
  unfold Iv.good at h
  simp only [Bool.and_eq_true, decide_eq_true_eq] at h
  obtain ⟨a, b, c, d, p, q, r, s⟩ := x
  have h1 := end_ok h.1.1
  have h2 := end_ok h.1.2
  simp only at h1 h2
  unfold mkIv Iv.from Iv.to
  simp only [Iv.mk.injEq]
  have hl : ∀ {n d : Int} {a : Bool}, SmallR n d → (⟨n, d, a⟩ : Cut) ≠ lowC := fun h => small_ne_low (c := ⟨_, _, _⟩) h
  have hh : ∀ {n d : Int} {a : Bool}, SmallR n d → (⟨n, d, a⟩ : Cut) ≠ highC := fun h => small_ne_high (c := ⟨_, _, _⟩) h
  rcases h1 with ⟨rfl, rfl, rfl, rfl⟩ | ⟨rfl, hs⟩
  · rcases h2 with ⟨rfl, rfl, rfl, rfl⟩ | ⟨rfl, hs2⟩
    · simp
    · simp [hh hs2]
  · rcases h2 with ⟨rfl, rfl, rfl, rfl⟩ | ⟨rfl, hs2⟩
    · simp [hl hs]
    · simp [hl hs, hh hs2]

theorem low_high : lowC.key < highC.key := by
  unfold Cut.key lowC highC
  have := (kR_lt (n := -1099511627776) (n' := 1099511627776) (d := 1) (d' := 1) (by decide) (by decide) (by decide) (by decide)).2 (by decide)
  simp
  omega

theorem key_small {c : Cut} (h : SmallR c.n c.d) : lowC.key < c.key ∧ c.key < highC.key := by
  have h1 := h.1.1
  have l1 := (kR_lt (n := -1099511627776) (n' := c.n) (d := 1) (d' := c.d) (by decide) (by decide) h.1.1 h.1.2.1).2 (by
    have := h.2.1
    have := h.2.2.2
    omega)
  have l2 := (kR_lt (n := c.n) (n' := 1099511627776) (d := c.d) (d' := 1) h.1.1 h.1.2.1 (by decide) (by decide)).2 (by
    have := h.2.2.1
    omega)
  unfold Cut.key lowC highC
  simp only
  have hk : (if c.a = true then (1 : Int) else 0) = 0 ∨ (if c.a = true then (1 : Int) else 0) = 1 := by cases c.a; (· exact .inl rfl); (· exact .inr rfl)
  simp
  omega

/-- Any cut there is. -/
def AnyC (c : Cut) : Prop := c = lowC ∨ c = highC ∨ SmallR c.n c.d

theorem AnyC.ok {c : Cut} (h : AnyC c) : c.Ok := by
  rcases h with rfl | rfl | h
  · exact key_low
  · exact key_high
  · exact h.1

theorem AnyC.bounds {c : Cut} (h : AnyC c) : lowC.key ≤ c.key ∧ c.key ≤ highC.key := by
  have := low_high
  rcases h with rfl | rfl | h
  · omega
  · omega
  · have := key_small h
    omega

/-! ### One list for each set -/

theorem Fit.tail {x : Iv} {xs : List Iv} (h : Fit (x :: xs)) : Fit xs :=
  ⟨fun i y hy => h.1 (i + 1) y hy, fun i y z hy hz => h.2 (i + 1) y z hy hz⟩

theorem Fit.head {x : Iv} {xs : List Iv} (h : Fit (x :: xs)) : x.good = true := h.1 0 x rfl

theorem Fit.gap {xs : List Iv} : ∀ {x : Iv}, Fit (x :: xs) → ∀ y ∈ xs, x.to.key < y.from.key := by
  induction xs with
  | nil => intro x _ y hy; cases hy
  | cons z zs ih =>
    intro x h y hy
    have h1 := h.2 0 x z rfl rfl
    rcases List.mem_cons.1 hy with rfl | hy
    · exact h1
    · have h2 := ih h.tail y hy
      have h3 := (good_parts h.tail.head).2.2
      omega

theorem Fit.good {xs : List Iv} (h : Fit xs) {x : Iv} (hx : x ∈ xs) : x.good = true := by
  obtain ⟨i, hi⟩ := List.getElem?_of_mem hx
  exact h.1 i x hi

theorem Fit.one {xs : List Iv} : ∀ {ys : List Iv}, Fit xs → Fit ys → (∀ κ, inL xs κ ↔ inL ys κ) → xs = ys := by
  induction xs with
  | nil =>
    intro ys _ hy h
    match ys with
    | [] => rfl
    | y :: ys =>
      have hk := (good_parts hy.head).2.2
      exact absurd ((h y.from.key).2 (inL_cons.2 (.inl ⟨Int.le_refl _, hk⟩))) (inL_nil _)
  | cons x xs ih =>
    intro ys hx hy h
    match ys with
    | [] =>
      have hk := (good_parts hx.head).2.2
      exact absurd ((h x.from.key).1 (inL_cons.2 (.inl ⟨Int.le_refl _, hk⟩))) (inL_nil _)
    | y :: ys =>
      have kx := (good_parts hx.head).2.2
      have ky := (good_parts hy.head).2.2
      have hgx := hx.gap
      have hgy := hy.gap
      have f1 : y.from.key ≤ x.from.key := by
        rcases inL_cons.1 ((h x.from.key).1 (inL_cons.2 (.inl ⟨Int.le_refl _, kx⟩))) with ⟨h1, _⟩ | ⟨z, hz, h1, _⟩
        · exact h1
        · have := hgy z hz
          omega
      have f2 : x.from.key ≤ y.from.key := by
        rcases inL_cons.1 ((h y.from.key).2 (inL_cons.2 (.inl ⟨Int.le_refl _, ky⟩))) with ⟨h1, _⟩ | ⟨z, hz, h1, _⟩
        · exact h1
        · have := hgx z hz
          omega
      have t1 : ¬ x.to.key < y.to.key := by
        intro hlt
        rcases inL_cons.1 ((h x.to.key).2 (inL_cons.2 (.inl ⟨by omega, hlt⟩))) with ⟨_, h1⟩ | ⟨z, hz, h1, _⟩
        · omega
        · have := hgx z hz
          omega
      have t2 : ¬ y.to.key < x.to.key := by
        intro hlt
        rcases inL_cons.1 ((h y.to.key).1 (inL_cons.2 (.inl ⟨by omega, hlt⟩))) with ⟨_, h1⟩ | ⟨z, hz, h1, _⟩
        · omega
        · have := hgy z hz
          omega
      have e1 : x.from = y.from := (Cut.key_eq (good_parts hx.head).1 (good_parts hy.head).1).1 (by omega)
      have e2 : x.to = y.to := (Cut.key_eq (good_parts hx.head).2.1 (good_parts hy.head).2.1).1 (by omega)
      have e : x = y := by rw [← mkIv_self hx.head, ← mkIv_self hy.head, e1, e2]
      subst e
      congr 1
      refine ih hx.tail hy.tail fun κ => ?_
      constructor
      · intro hk
        obtain ⟨z, hz, h1, h2⟩ := hk
        have := hgx z hz
        rcases inL_cons.1 ((h κ).1 (inL_cons.2 (.inr ⟨z, hz, h1, h2⟩))) with ⟨_, h3⟩ | h3
        · omega
        · exact h3
      · intro hk
        obtain ⟨z, hz, h1, h2⟩ := hk
        have := hgy z hz
        rcases inL_cons.1 ((h κ).2 (inL_cons.2 (.inr ⟨z, hz, h1, h2⟩))) with ⟨_, h3⟩ | h3
        · omega
        · exact h3

theorem Fit.push {xs : List Iv} {x : Iv} (h : Fit xs) (hg : x.good = true) (hk : ∀ y ∈ xs, y.to.key < x.from.key) : Fit (xs ++ [x]) := by
  constructor
  · intro i y hy
    by_cases hi : i < xs.length
    · rw [List.getElem?_append_left hi] at hy
      exact h.1 i y hy
    · rw [List.getElem?_append_right (by omega)] at hy
      have : i - xs.length = 0 := by
        have := (List.getElem?_eq_some_iff.1 hy).1
        simp at this
        exact this
      rw [this] at hy
      cases hy
      exact hg
  · intro i y z hy hz
    by_cases hi : i + 1 < xs.length
    · rw [List.getElem?_append_left (by omega)] at hy
      rw [List.getElem?_append_left hi] at hz
      exact h.2 i y z hy hz
    · have hlen := (List.getElem?_eq_some_iff.1 hz).1
      rw [List.length_append] at hlen
      simp at hlen
      rw [List.getElem?_append_left (by omega)] at hy
      rw [List.getElem?_append_right (by omega), show i + 1 - xs.length = 0 by omega] at hz
      cases hz
      exact hk y (List.mem_of_getElem? hy)

end Go.Proofs.Ythjnodmhfhoilaa
