import Derived.Test.YtimbgjpjgbjnkaaSp6
/- Mathematics of sweeping: lists of intervals as sets of cut numbers; the ends of intervals in order. -/
namespace Go.Proofs.Ytimbgjpjgbjnkaa
open Go.RowKit Go.Shelf

/-- Whether a list's intervals have a cut's number. -/
def inL (xs : List Iv) (κ : Int) : Prop := ∃ x ∈ xs, x.from.key ≤ κ ∧ κ < x.to.key

theorem inL_nil (κ : Int) : ¬ inL [] κ := fun ⟨x, h, _⟩ => by cases h

theorem inL_append {xs ys : List Iv} {κ : Int} : inL (xs ++ ys) κ ↔ inL xs κ ∨ inL ys κ := by
  constructor
  · rintro ⟨x, h, hk⟩
    rcases List.mem_append.1 h with h | h
    · exact .inl ⟨x, h, hk⟩
    · exact .inr ⟨x, h, hk⟩
  · rintro (⟨x, h, hk⟩ | ⟨x, h, hk⟩)
    · exact ⟨x, List.mem_append_left _ h, hk⟩
    · exact ⟨x, List.mem_append_right _ h, hk⟩

theorem inL_one {x : Iv} {κ : Int} : inL [x] κ ↔ x.from.key ≤ κ ∧ κ < x.to.key := by
  constructor
  · rintro ⟨y, h, hk⟩
    rw [List.mem_singleton.1 h] at hk
    exact hk
  · intro h
    exact ⟨x, List.mem_singleton_self x, h⟩

theorem inL_cons {x : Iv} {xs : List Iv} {κ : Int} : inL (x :: xs) κ ↔ (x.from.key ≤ κ ∧ κ < x.to.key) ∨ inL xs κ := by
  rw [show x :: xs = [x] ++ xs from rfl, inL_append, inL_one]

/-- The interval between two cuts. -/
def mkIv (f t : Cut) : Iv :=
  ⟨if f = lowC then 0 else f.n, if f = lowC then 0 else f.d, if t = highC then 0 else t.n, if t = highC then 0 else t.d, if f = lowC then false else f.a, if t = highC then false else !t.a, decide (f = lowC), decide (t = highC)⟩

theorem mkIv_from (f t : Cut) : (mkIv f t).from = f := by
  unfold mkIv Iv.from
  by_cases h : f = lowC
  · simp [h]
  · simp [h]

theorem mkIv_to (f t : Cut) : (mkIv f t).to = t := by
  unfold mkIv Iv.to
  by_cases h : t = highC
  · simp [h]
  · simp [h]

/-- The cut before an interval. -/
def FromC (c : Cut) : Prop := c = lowC ∨ SmallR c.n c.d
/-- The cut behind an interval. -/
def ToC (c : Cut) : Prop := c = highC ∨ SmallR c.n c.d

theorem small_ne_low {c : Cut} (h : SmallR c.n c.d) : c ≠ lowC := by
  intro e
  rw [e] at h
  have := h.2.1
  simp [lowC] at this
theorem small_ne_high {c : Cut} (h : SmallR c.n c.d) : c ≠ highC := by
  intro e
  rw [e] at h
  have := h.2.2.1
  simp [highC] at this

theorem FromC.ok {c : Cut} (h : FromC c) : c.Ok := by
  rcases h with rfl | h
  · exact key_low
  · exact h.1
theorem ToC.ok {c : Cut} (h : ToC c) : c.Ok := by
  rcases h with rfl | h
  · exact key_high
  · exact h.1

theorem mkIv_good {f t : Cut} (hf : FromC f) (ht : ToC t) (hk : f.key < t.key) : (mkIv f t).good = true := by
  unfold Iv.good
  rw [mkIv_from, mkIv_to, decide_eq_true hk, Bool.and_true, Bool.and_eq_true]
  constructor
  · unfold mkIv endB
    rcases hf with rfl | h
    · simp
    · have := small_ne_low h
      simp [this, h]
  · unfold mkIv endB
    rcases ht with rfl | h
    · simp
    · have := small_ne_high h
      simp [this, h]

theorem good_from {x : Iv} (h : x.good = true) : FromC x.from ∧ ToC x.to := by
  unfold Iv.good at h
  simp only [Bool.and_eq_true, decide_eq_true_eq] at h
  constructor
  · rcases end_ok h.1.1 with ⟨e, _⟩ | ⟨e, hs⟩
    · exact .inl (by unfold Iv.from; rw [e]; rfl)
    · exact .inr (by unfold Iv.from; rw [e]; exact hs)
  · rcases end_ok h.1.2 with ⟨e, _⟩ | ⟨e, hs⟩
    · exact .inl (by unfold Iv.to; rw [e]; rfl)
    · exact .inr (by unfold Iv.to; rw [e]; exact hs)

/-- A valid interval is what lies between its cuts. -/
theorem mkIv_self {x : Iv} (h : x.good = true) : mkIv x.from x.to = x := by
  unfold Iv.good at h
  simp only [Bool.and_eq_true, decide_eq_true_eq] at h
  obtain ⟨a, b, c, d, p, q, r, s⟩ := x
  have h1 := end_ok h.1.1
  have h2 := end_ok h.1.2
  simp only at h1 h2
  unfold mkIv Iv.from Iv.to
  simp only [Iv.mk.injEq]
  have hl : ∀ {n d : Int} {a : Bool}, SmallR n d → (⟨n, d, a⟩ : Cut) ≠ lowC := fun h => small_ne_low (c := ⟨_, _, _⟩) h
  have hh : ∀ {n d : Int} {a : Bool}, SmallR n d → (⟨n, d, a⟩ : Cut) ≠ highC := fun h => small_ne_high (c := ⟨_, _, _⟩) h
  rcases h1 with ⟨rfl, rfl, rfl, rfl⟩ | ⟨rfl, hs⟩
  · rcases h2 with ⟨rfl, rfl, rfl, rfl⟩ | ⟨rfl, hs2⟩
    · simp
    · simp [hh hs2]
  · rcases h2 with ⟨rfl, rfl, rfl, rfl⟩ | ⟨rfl, hs2⟩
    · simp [hl hs]
    · simp [hl hs, hh hs2]

theorem low_high : lowC.key < highC.key := by
  unfold Cut.key lowC highC
  have := (kR_lt (n := -1099511627776) (n' := 1099511627776) (d := 1) (d' := 1) (by decide) (by decide) (by decide) (by decide)).2 (by decide)
  simp
  omega

theorem key_small {c : Cut} (h : SmallR c.n c.d) : lowC.key < c.key ∧ c.key < highC.key := by
  have h1 := h.1.1
  have l1 := (kR_lt (n := -1099511627776) (n' := c.n) (d := 1) (d' := c.d) (by decide) (by decide) h.1.1 h.1.2.1).2 (by
    have := h.2.1
    have := h.2.2.2
    omega)
  have l2 := (kR_lt (n := c.n) (n' := 1099511627776) (d := c.d) (d' := 1) h.1.1 h.1.2.1 (by decide) (by decide)).2 (by
    have := h.2.2.1
    omega)
  unfold Cut.key lowC highC
  simp only
  have hk : (if c.a = true then (1 : Int) else 0) = 0 ∨ (if c.a = true then (1 : Int) else 0) = 1 := by cases c.a; (· exact .inl rfl); (· exact .inr rfl)
  simp
  omega

/-- Any cut there is. -/
def AnyC (c : Cut) : Prop := c = lowC ∨ c = highC ∨ SmallR c.n c.d

theorem AnyC.ok {c : Cut} (h : AnyC c) : c.Ok := by
  rcases h with rfl | rfl | h
  · exact key_low
  · exact key_high
  · exact h.1

theorem AnyC.bounds {c : Cut} (h : AnyC c) : lowC.key ≤ c.key ∧ c.key ≤ highC.key := by
  have := low_high
  rcases h with rfl | rfl | h
  · omega
  · omega
  · have := key_small h
    omega

/-! ### One list for each set -/

theorem Fit.tail {x : Iv} {xs : List Iv} (h : Fit (x :: xs)) : Fit xs :=
  ⟨fun i y hy => h.1 (i + 1) y hy, fun i y z hy hz => h.2 (i + 1) y z hy hz⟩

theorem Fit.head {x : Iv} {xs : List Iv} (h : Fit (x :: xs)) : x.good = true := h.1 0 x rfl

theorem Fit.gap {xs : List Iv} : ∀ {x : Iv}, Fit (x :: xs) → ∀ y ∈ xs, x.to.key < y.from.key := by
  induction xs with
  | nil => intro x _ y hy; cases hy
  | cons z zs ih =>
    intro x h y hy
    have h1 := h.2 0 x z rfl rfl
    rcases List.mem_cons.1 hy with rfl | hy
    · exact h1
    · have h2 := ih h.tail y hy
      have h3 := (good_parts h.tail.head).2.2
      omega

theorem Fit.good {xs : List Iv} (h : Fit xs) {x : Iv} (hx : x ∈ xs) : x.good = true := by
  obtain ⟨i, hi⟩ := List.getElem?_of_mem hx
  exact h.1 i x hi

theorem Fit.one {xs : List Iv} : ∀ {ys : List Iv}, Fit xs → Fit ys → (∀ κ, inL xs κ ↔ inL ys κ) → xs = ys := by
  induction xs with
  | nil =>
    intro ys _ hy h
    match ys with
    | [] => rfl
    | y :: ys =>
      have hk := (good_parts hy.head).2.2
      exact absurd ((h y.from.key).2 (inL_cons.2 (.inl ⟨Int.le_refl _, hk⟩))) (inL_nil _)
  | cons x xs ih =>
    intro ys hx hy h
    match ys with
    | [] =>
      have hk := (good_parts hx.head).2.2
      exact absurd ((h x.from.key).1 (inL_cons.2 (.inl ⟨Int.le_refl _, hk⟩))) (inL_nil _)
    | y :: ys =>
      have kx := (good_parts hx.head).2.2
      have ky := (good_parts hy.head).2.2
      have hgx := hx.gap
      have hgy := hy.gap
      have f1 : y.from.key ≤ x.from.key := by
        rcases inL_cons.1 ((h x.from.key).1 (inL_cons.2 (.inl ⟨Int.le_refl _, kx⟩))) with ⟨h1, _⟩ | ⟨z, hz, h1, _⟩
        · exact h1
        · have := hgy z hz
          omega
      have f2 : x.from.key ≤ y.from.key := by
        rcases inL_cons.1 ((h y.from.key).2 (inL_cons.2 (.inl ⟨Int.le_refl _, ky⟩))) with ⟨h1, _⟩ | ⟨z, hz, h1, _⟩
        · exact h1
        · have := hgx z hz
          omega
      have t1 : ¬ x.to.key < y.to.key := by
        intro hlt
        rcases inL_cons.1 ((h x.to.key).2 (inL_cons.2 (.inl ⟨by omega, hlt⟩))) with ⟨_, h1⟩ | ⟨z, hz, h1, _⟩
        · omega
        · have := hgx z hz
          omega
      have t2 : ¬ y.to.key < x.to.key := by
        intro hlt
        rcases inL_cons.1 ((h y.to.key).1 (inL_cons.2 (.inl ⟨by omega, hlt⟩))) with ⟨_, h1⟩ | ⟨z, hz, h1, _⟩
        · omega
        · have := hgy z hz
          omega
      have e1 : x.from = y.from := (Cut.key_eq (good_parts hx.head).1 (good_parts hy.head).1).1 (by omega)
      have e2 : x.to = y.to := (Cut.key_eq (good_parts hx.head).2.1 (good_parts hy.head).2.1).1 (by omega)
      have e : x = y := by rw [← mkIv_self hx.head, ← mkIv_self hy.head, e1, e2]
      subst e
      congr 1
      refine ih hx.tail hy.tail fun κ => ?_
      constructor
      · intro hk
        obtain ⟨z, hz, h1, h2⟩ := hk
        have := hgx z hz
        rcases inL_cons.1 ((h κ).1 (inL_cons.2 (.inr ⟨z, hz, h1, h2⟩))) with ⟨_, h3⟩ | h3
        · omega
        · exact h3
      · intro hk
        obtain ⟨z, hz, h1, h2⟩ := hk
        have := hgy z hz
        rcases inL_cons.1 ((h κ).2 (inL_cons.2 (.inr ⟨z, hz, h1, h2⟩))) with ⟨_, h3⟩ | h3
        · omega
        · exact h3

theorem Fit.push {xs : List Iv} {x : Iv} (h : Fit xs) (hg : x.good = true) (hk : ∀ y ∈ xs, y.to.key < x.from.key) : Fit (xs ++ [x]) := by
  constructor
  · intro i y hy
    by_cases hi : i < xs.length
    · rw [List.getElem?_append_left hi] at hy
      exact h.1 i y hy
    · rw [List.getElem?_append_right (by omega)] at hy
      have : i - xs.length = 0 := by
        have := (List.getElem?_eq_some_iff.1 hy).1
        simp at this
        exact this
      rw [this] at hy
      cases hy
      exact hg
  · intro i y z hy hz
    by_cases hi : i + 1 < xs.length
    · rw [List.getElem?_append_left (by omega)] at hy
      rw [List.getElem?_append_left hi] at hz
      exact h.2 i y z hy hz
    · have hlen := (List.getElem?_eq_some_iff.1 hz).1
      rw [List.length_append] at hlen
      simp at hlen
      rw [List.getElem?_append_left (by omega)] at hy
      rw [List.getElem?_append_right (by omega), show i + 1 - xs.length = 0 by omega] at hz
      cases hz
      exact hk y (List.mem_of_getElem? hy)

end Go.Proofs.Ytimbgjpjgbjnkaa

/- Mathematics of sweeping: how deep each list is at a cut, and what a step does. -/
namespace Go.Proofs.Ytimbgjpjgbjnkaa
open Go.RowKit Go.Shelf

/-- What an end adds to a list's depth at a cut's number. -/
noncomputable def contrib (l κ : Int) (t : Cut × Int × Int) : Int := if t.1.key ≤ κ ∧ t.2.1 = l then t.2.2 else 0

noncomputable def dsum (l κ : Int) (T : List (Cut × Int × Int)) : Int := (T.map (contrib l κ)).sum

theorem dsum_cons (l κ : Int) (t : Cut × Int × Int) (T : List (Cut × Int × Int)) : dsum l κ (t :: T) = contrib l κ t + dsum l κ T := by simp [dsum]

theorem dsum_append (l κ : Int) (T U : List (Cut × Int × Int)) : dsum l κ (T ++ U) = dsum l κ T + dsum l κ U := by simp [dsum]

theorem dsum_perm {l κ : Int} {T U : List (Cut × Int × Int)} (h : T.Perm U) : dsum l κ T = dsum l κ U := by
  induction h with
  | nil => rfl
  | cons x _ ih => rw [dsum_cons, dsum_cons, ih]
  | swap x y L => simp only [dsum_cons]; omega
  | trans _ _ h1 h2 => rw [h1, h2]

/-- How many intervals have a cut's number. -/
noncomputable def depthL (xs : List Iv) (κ : Int) : Int := (xs.map fun x => if x.from.key ≤ κ ∧ κ < x.to.key then (1 : Int) else 0).sum

theorem depthL_cons (x : Iv) (xs : List Iv) (κ : Int) : depthL (x :: xs) κ = (if x.from.key ≤ κ ∧ κ < x.to.key then (1 : Int) else 0) + depthL xs κ := by simp [depthL]

theorem depthL_pos (xs : List Iv) (κ : Int) : 0 ≤ depthL xs κ ∧ depthL xs κ ≤ xs.length ∧ (0 < depthL xs κ ↔ inL xs κ) := by
  induction xs with
  | nil => exact ⟨by simp [depthL], by simp [depthL], ⟨fun h => by simp [depthL] at h, fun h => absurd h (inL_nil κ)⟩⟩
  | cons x xs ih =>
    obtain ⟨h1, h2, h3⟩ := ih
    rw [depthL_cons, inL_cons, List.length_cons]
    by_cases h : x.from.key ≤ κ ∧ κ < x.to.key
    · rw [if_pos h]
      exact ⟨by omega, by omega, ⟨fun _ => .inl h, fun _ => by omega⟩⟩
    · rw [if_neg h]
      refine ⟨by omega, by omega, ⟨fun h4 => .inr (h3.1 (by omega)), fun h4 => ?_⟩⟩
      rcases h4 with h4 | h4
      · exact absurd h4 h
      · have := h3.2 h4
        omega

theorem dsum_raw (l κ : Int) (i : Nat) (xs : List Iv) (h : ∀ x ∈ xs, x.from.key < x.to.key) : dsum l κ (rawEnds i xs) = if (i : Int) = l then depthL xs κ else 0 := by
  induction xs with
  | nil => simp [rawEnds, dsum, depthL]
  | cons x xs ih =>
    have e : rawEnds i (x :: xs) = (x.from, (i : Int), 1) :: (x.to, (i : Int), -1) :: rawEnds i xs := rfl
    rw [e, dsum_cons, dsum_cons, ih fun y hy => h y (List.mem_cons_of_mem _ hy), depthL_cons]
    have hx := h x (List.mem_cons_self ..)
    unfold contrib
    simp only
    by_cases hi : (i : Int) = l
    · simp only [hi, and_true, if_true]
      by_cases h1 : x.from.key ≤ κ
      · by_cases h2 : x.to.key ≤ κ
        · rw [if_pos h1, if_pos h2, if_neg (by omega)]; omega
        · rw [if_pos h1, if_neg h2, if_pos (by omega)]; omega
      · rw [if_neg h1, if_neg (by omega), if_neg (by omega)]; omega
    · simp [hi]

theorem dsum_all {xss : List (List Iv)} (h : ∀ xs ∈ xss, ∀ x ∈ xs, x.good = true) (l : Nat) (κ : Int) : ∀ k, dsum l κ (allEnds xss k) = if l < k then depthL (xss[l]?.getD []) κ else 0
  | 0 => by simp [allEnds, dsum]
  | k + 1 => by
    rw [allEnds_succ, dsum_append, dsum_all h l κ k, dsum_raw]
    · by_cases h1 : l < k
      · rw [if_pos h1, if_pos (show l < k + 1 by omega), if_neg (by omega)]; omega
      · by_cases h2 : k = l
        · subst h2
          rw [if_neg h1, if_pos (show k < k + 1 by omega), if_pos rfl]; omega
        · rw [if_neg h1, if_neg (by omega), if_neg (show ¬ l < k + 1 by omega)]; rfl
    · intro x hx
      cases hk : xss[k]? with
      | none => rw [hk] at hx; simp at hx
      | some xs =>
        rw [hk] at hx
        exact (good_parts (h xs (List.mem_of_getElem? hk) x hx)).2.2

/-- The depth of a list behind some ends. -/
def psum (l : Int) (es : List En) : Int := (es.map fun e => if e.i = l then e.h else 0).sum

theorem psum_snoc (l : Int) {ys : List En} {k : Nat} {e : En} (h : ys[k]? = some e) : psum l (ys.take (k + 1)) = psum l (ys.take k) + if e.i = l then e.h else 0 := by
  unfold psum
  rw [List.take_add_one, h]
  simp

theorem psum_dsum {l κ : Int} {ys : List En} {k : Nat} (h1 : ∀ e ∈ ys.take k, e.c.key ≤ κ) (h2 : ∀ e ∈ ys.drop k, κ < e.c.key) : psum l (ys.take k) = dsum l κ (ys.map En.raw) := by
  have a1 : ∀ es : List En, (∀ e ∈ es, e.c.key ≤ κ) → psum l es = dsum l κ (es.map En.raw) := by
    intro es
    induction es with
    | nil => intro _; rfl
    | cons e es ih =>
      intro h
      have ih := ih fun x hx => h x (List.mem_cons_of_mem _ hx)
      have he := h e (List.mem_cons_self ..)
      rw [List.map_cons, dsum_cons, ← ih]
      unfold contrib En.raw psum
      simp [he]
  have a2 : ∀ es : List En, (∀ e ∈ es, κ < e.c.key) → dsum l κ (es.map En.raw) = 0 := by
    intro es
    induction es with
    | nil => intro _; rfl
    | cons e es ih =>
      intro h
      have ih := ih fun x hx => h x (List.mem_cons_of_mem _ hx)
      have he := h e (List.mem_cons_self ..)
      rw [List.map_cons, dsum_cons, ih]
      unfold contrib En.raw
      simp
      intro h3
      omega
  rw [a1 _ h1]
  conv => rhs; rw [← List.take_append_drop k ys]
  rw [List.map_append, dsum_append, a2 _ h2]
  omega

/-- The set that a closure asks for, of some lists. -/
def setS (hasF : List Int → Bool) (xss : List (List Iv)) (κ : Int) : Prop := lowC.key ≤ κ ∧ κ < highC.key ∧ hasF (xss.map fun xs => depthL xs κ) = true

/-- Ends in order, of some lists. -/
structure Ends (xss : List (List Iv)) (ys : List En) : Prop where
  ord : SortedE ys
  perm : (ys.map En.raw).Perm (ends0 ++ allEnds xss xss.length)
  good : ∀ xs ∈ xss, ∀ x ∈ xs, x.good = true

theorem Ends.mem {xss : List (List Iv)} {ys : List En} (h : Ends xss ys) {e : En} (he : e ∈ ys) : AnyC e.c ∧ 0 ≤ e.i ∧ (e.i < xss.length ∨ (e.i = 0 ∧ e.h = 0)) ∧ -1 ≤ e.h ∧ e.h ≤ 1 := by
  have hm : e.raw ∈ ends0 ++ allEnds xss xss.length := h.perm.mem_iff.1 (List.mem_map_of_mem he)
  rcases List.mem_append.1 hm with hm | hm
  · unfold ends0 En.raw at hm
    simp at hm
    rcases hm with ⟨h1, h2, h3⟩ | ⟨h1, h2, h3⟩
    · exact ⟨.inl h1, by omega, .inr ⟨h2, h3⟩, by omega, by omega⟩
    · exact ⟨.inr (.inl h1), by omega, .inr ⟨h2, h3⟩, by omega, by omega⟩
  · unfold allEnds at hm
    obtain ⟨i, hi, hm⟩ := List.mem_flatMap.1 hm
    rw [List.mem_range] at hi
    unfold rawEnds at hm
    obtain ⟨x, hx, hm⟩ := List.mem_flatMap.1 hm
    have hg : x.good = true := by
      rw [List.getElem?_eq_getElem hi] at hx
      exact h.good _ (List.getElem_mem hi) x hx
    obtain ⟨g1, g2⟩ := good_from hg
    unfold En.raw at hm
    simp at hm
    rcases hm with ⟨h1, h2, h3⟩ | ⟨h1, h2, h3⟩
    · refine ⟨?_, by omega, .inl (by omega), by omega, by omega⟩
      rw [h1]
      rcases g1 with e | e
      · exact .inl e
      · exact .inr (.inr e)
    · refine ⟨?_, by omega, .inl (by omega), by omega, by omega⟩
      rw [h1]
      rcases g2 with e | e
      · exact .inr (.inl e)
      · exact .inr (.inr e)

theorem Ends.has {xss : List (List Iv)} {ys : List En} (h : Ends xss ys) : (∃ e ∈ ys, e.c = lowC) ∧ ∃ e ∈ ys, e.c = highC := by
  have g : ∀ t, t ∈ ends0 → ∃ e ∈ ys, e.raw = t := fun t ht => List.mem_map.1 (h.perm.mem_iff.2 (List.mem_append_left _ ht))
  obtain ⟨e, he, e1⟩ := g (lowC, 0, 0) (by simp [ends0])
  obtain ⟨f, hf, f1⟩ := g (highC, 0, 0) (by simp [ends0])
  exact ⟨⟨e, he, congrArg (·.1) e1⟩, ⟨f, hf, congrArg (·.1) f1⟩⟩

/-- The depths behind k ends. -/
def depthsAt (m : Nat) (ys : List En) (k : Nat) : List Int := (List.range m).map fun l : Nat => psum (l : Int) (ys.take k)

/-- At a cut's number behind just k ends, the depths are the lists'. -/
theorem Ends.depths {xss : List (List Iv)} {ys : List En} (h : Ends xss ys) {k : Nat} {κ : Int} (h1 : ∀ e ∈ ys.take k, e.c.key ≤ κ) (h2 : ∀ e ∈ ys.drop k, κ < e.c.key) : depthsAt xss.length ys k = xss.map fun xs => depthL xs κ := by
  apply List.ext_getElem
  · simp [depthsAt]
  · intro l hl1 hl2
    have hl : l < xss.length := by simpa using hl2
    simp only [depthsAt, List.getElem_map, List.getElem_range]
    rw [psum_dsum h1 h2, dsum_perm h.perm, dsum_append, dsum_all h.good, if_pos hl, List.getElem?_eq_getElem hl]
    have : dsum (l : Int) κ ends0 = 0 := by unfold ends0 dsum contrib; simp
    rw [this]
    simp

/-- What the sweep has when k ends are behind it. -/
structure SwInv (ys : List En) (S : Int → Prop) (k : Nat) (L : List Iv) (F : Cut) (b : Bool) : Prop where
  fit : Fit L
  tos : ∀ x ∈ L, ∀ e, ys[k]? = some e → x.to.key < e.c.key
  inn : b = true → FromC F ∧ (∀ x ∈ L, x.to.key < F.key) ∧ ∀ e, ys[k]? = some e → F.key < e.c.key
  mem : ∀ κ, (∀ e, ys[k]? = some e → κ < e.c.key) → ((inL L κ ∨ (b = true ∧ F.key ≤ κ)) ↔ S κ)

theorem SwInv.start {xss : List (List Iv)} {ys : List En} (h : Ends xss ys) (hasF : List Int → Bool) (F : Cut) : SwInv ys (setS hasF xss) 0 [] F false := by
  refine ⟨Fit.nil, fun x hx => (by cases hx), fun hb => (by cases hb), fun κ hk => ⟨fun hh => ?_, fun hh => ?_⟩⟩
  · rcases hh with hh | ⟨hh, _⟩
    · exact absurd hh (inL_nil κ)
    · cases hh
  · exfalso
    obtain ⟨e, he, e1⟩ := h.has.1
    obtain ⟨i, hi⟩ := List.getElem?_of_mem he
    obtain ⟨e0, he0⟩ : ∃ e0, ys[0]? = some e0 := ⟨ys[0]'(Nat.lt_of_le_of_lt (Nat.zero_le _) (List.getElem?_eq_some_iff.1 hi).1), List.getElem?_eq_getElem _⟩
    have h1 := h.ord 0 i e0 e (Nat.zero_le _) he0 hi
    have h2 := hk e0 he0
    rw [e1] at h1
    have := hh.1
    omega

/-- A further end at the same cut. -/
theorem SwInv.same {ys : List En} {S : Int → Prop} {k : Nat} {L : List Iv} {F : Cut} {b : Bool} (h : SwInv ys S k L F b) {e e' : En} (he : ys[k]? = some e) (he' : ys[k + 1]? = some e') (hc : e'.c = e.c) : SwInv ys S (k + 1) L F b := by
  refine ⟨h.fit, fun x hx f hf => ?_, fun hb => ⟨(h.inn hb).1, (h.inn hb).2.1, fun f hf => ?_⟩, fun κ hk => h.mem κ fun f hf => ?_⟩
  · rw [he'] at hf; cases hf
    rw [hc]
    exact h.tos x hx e he
  · rw [he'] at hf; cases hf
    rw [hc]
    exact (h.inn hb).2.2 e he
  · rw [he] at hf; cases hf
    rw [← hc]
    exact hk e' he'

/-- The last end at a cut: where the depths are the set's there and up to the next one. -/
theorem Ends.at {xss : List (List Iv)} {ys : List En} (h : Ends xss ys) (hasF : List Int → Bool) {k : Nat} {e : En} (he : ys[k]? = some e) {κ : Int} (h1 : e.c.key ≤ κ) (h2 : ∀ e', ys[k + 1]? = some e' → κ < e'.c.key) :
    setS hasF xss κ ↔ (decide (e.c ≠ highC) && hasF (depthsAt xss.length ys (k + 1))) = true := by
  have hem := h.mem (List.mem_of_getElem? he)
  have a1 : ∀ f ∈ ys.take (k + 1), f.c.key ≤ κ := by
    intro f hf
    obtain ⟨i, hi⟩ := List.getElem?_of_mem hf
    rw [List.getElem?_take] at hi
    split at hi
    · have := h.ord i k f e (by omega) hi he
      omega
    · cases hi
  have a2 : ∀ f ∈ ys.drop (k + 1), κ < f.c.key := by
    intro f hf
    obtain ⟨i, hi⟩ := List.getElem?_of_mem hf
    rw [List.getElem?_drop] at hi
    obtain ⟨e', he'⟩ : ∃ e', ys[k + 1]? = some e' := ⟨ys[k + 1]'(by have := (List.getElem?_eq_some_iff.1 hi).1; omega), List.getElem?_eq_getElem _⟩
    have := h.ord (k + 1) (k + 1 + i) e' f (by omega) he' hi
    have := h2 e' he'
    omega
  rw [h.depths a1 a2]
  unfold setS
  obtain ⟨f, hf, f1⟩ := h.has.2
  obtain ⟨i, hi⟩ := List.getElem?_of_mem hf
  have hlow := hem.1.bounds.1
  by_cases hh : e.c = highC
  · rw [hh] at h1
    simp [hh]
    omega
  · have hik : k < i := by
      apply Classical.byContradiction
      intro hik
      have h3 := h.ord i k f e (by omega) hi he
      rw [f1] at h3
      have h4 := hem.1.bounds.2
      exact hh ((Cut.key_eq hem.1.ok key_high).1 (by omega))
    have h5 := a2 f (by
      apply List.mem_of_getElem? (i := i - (k + 1))
      rw [List.getElem?_drop, show k + 1 + (i - (k + 1)) = i by omega]
      exact hi)
    rw [f1] at h5
    simp [hh]
    constructor
    · intro h6; exact h6.2.2
    · intro h6; exact ⟨by omega, h5, h6⟩

/-- What the sweep has behind the last end at a cut. -/
theorem SwInv.step {xss : List (List Iv)} {ys : List En} (h : Ends xss ys) (hasF : List Int → Bool) {k : Nat} {L : List Iv} {F : Cut} {b : Bool} (hi : SwInv ys (setS hasF xss) k L F b) {e : En} (he : ys[k]? = some e) (hn : ∀ e', ys[k + 1]? = some e' → e'.c ≠ e.c)
    {q : Bool} (hq : q = (decide (e.c ≠ highC) && hasF (depthsAt xss.length ys (k + 1)))) :
    SwInv ys (setS hasF xss) (k + 1) (if b && !q then L ++ [mkIv F e.c] else L) (if q && !b then e.c else F) q
    ∧ (b = true → q = false → FromC F ∧ ToC e.c ∧ F.key < e.c.key) := by
  have hem := h.mem (List.mem_of_getElem? he)
  have hat := fun κ h1 h2 => h.at hasF (κ := κ) he h1 h2
  rw [← hq] at hat
  have hnx : ∀ e', ys[k + 1]? = some e' → e.c.key < e'.c.key := by
    intro e' he'
    have h1 := h.ord k (k + 1) e e' (by omega) he he'
    have h2 := hn e' he'
    have hem' := h.mem (List.mem_of_getElem? he')
    have : e.c.key ≠ e'.c.key := fun hh => h2 ((Cut.key_eq hem.1.ok hem'.1.ok).1 hh).symm
    omega
  have hbef : ∀ κ, κ < e.c.key → ((inL L κ ∨ (b = true ∧ F.key ≤ κ)) ↔ setS hasF xss κ) := fun κ hk => hi.mem κ fun f hf => by rw [he] at hf; cases hf; exact hk
  have htos : ∀ x ∈ L, x.to.key < e.c.key := fun x hx => hi.tos x hx e he
  have hpast : ∀ κ, e.c.key ≤ κ → ¬ inL L κ := fun κ hk ⟨x, hx, _, h2⟩ => by have := htos x hx; omega
  cases b
  case false =>
    refine ⟨?_, fun hb => by cases hb⟩
    cases q
    case false =>
      simp only [Bool.false_and, Bool.false_eq_true, if_false]
      refine ⟨hi.fit, fun x hx f hf => ?_, (fun hb => by cases hb), fun κ hk => ?_⟩
      · have := htos x hx
        have := hnx f hf
        omega
      · by_cases h1 : κ < e.c.key
        · exact hbef κ h1
        · have h2 := hat κ (by omega) hk
          simp at h2
          constructor
          · rintro (h3 | ⟨h3, _⟩)
            · exact absurd h3 (hpast κ (by omega))
            · cases h3
          · intro h3
            exact absurd h3 h2
    case true =>
      simp only [Bool.false_and, Bool.false_eq_true, if_false, Bool.true_and, Bool.not_false, if_true]
      have hne : e.c ≠ highC := by
        have := hq.symm
        simp at this
        exact this.1
      refine ⟨hi.fit, fun x hx f hf => ?_, fun _ => ⟨?_, htos, hnx⟩, fun κ hk => ?_⟩
      · have := htos x hx
        have := hnx f hf
        omega
      · rcases hem.1 with h1 | h1 | h1
        · exact .inl h1
        · exact absurd h1 hne
        · exact .inr h1
      · by_cases h1 : κ < e.c.key
        · have := hbef κ h1
          constructor
          · rintro (h3 | ⟨_, h3⟩)
            · exact this.1 (.inl h3)
            · omega
          · intro h3
            rcases this.2 h3 with h4 | ⟨h4, _⟩
            · exact .inl h4
            · cases h4
        · have h2 := hat κ (by omega) hk
          exact ⟨fun _ => h2.2 rfl, fun _ => .inr ⟨rfl, by omega⟩⟩
  case true =>
    obtain ⟨f1, f2, f3⟩ := hi.inn rfl
    have f4 := f3 e he
    cases q
    case false =>
      have hto : ToC e.c := by
        rcases hem.1 with h1 | h1 | h1
        · exfalso
          have := (show AnyC F from by rcases f1 with h | h; (· exact .inl h); (· exact .inr (.inr h))).bounds.1
          rw [h1] at f4
          omega
        · exact .inl h1
        · exact .inr h1
      refine ⟨?_, fun _ _ => ⟨f1, hto, f4⟩⟩
      simp only [Bool.true_and, Bool.not_false, if_true, Bool.false_and, Bool.false_eq_true, if_false]
      refine ⟨hi.fit.push (mkIv_good f1 hto f4) (fun y hy => by rw [mkIv_from]; exact f2 y hy), fun x hx f hf => ?_, (fun hb => by cases hb), fun κ hk => ?_⟩
      · have := hnx f hf
        rcases List.mem_append.1 hx with hx | hx
        · have := htos x hx
          omega
        · rw [List.mem_singleton.1 hx, mkIv_to]
          exact this
      · rw [inL_append, inL_one, mkIv_from, mkIv_to]
        by_cases h1 : κ < e.c.key
        · have := hbef κ h1
          rw [← this]
          constructor
          · rintro ((h3 | ⟨h3, _⟩) | ⟨h3, _⟩)
            · exact .inl h3
            · exact .inr ⟨rfl, h3⟩
            · cases h3
          · rintro (h3 | ⟨_, h3⟩)
            · exact .inl (.inl h3)
            · exact .inl (.inr ⟨h3, h1⟩)
        · have h2 := hat κ (by omega) hk
          simp at h2
          constructor
          · rintro ((h3 | ⟨_, h3⟩) | ⟨h3, _⟩)
            · exact absurd h3 (hpast κ (by omega))
            · omega
            · cases h3
          · intro h3
            exact absurd h3 h2
    case true =>
      refine ⟨?_, fun _ hq2 => by cases hq2⟩
      simp only [Bool.true_and, Bool.not_true, Bool.false_eq_true, if_false]
      refine ⟨hi.fit, fun x hx f hf => ?_, fun _ => ⟨f1, f2, fun f hf => ?_⟩, fun κ hk => ?_⟩
      · have := htos x hx
        have := hnx f hf
        omega
      · have := hnx f hf
        omega
      · by_cases h1 : κ < e.c.key
        · exact hbef κ h1
        · have h2 := hat κ (by omega) hk
          exact ⟨fun _ => h2.2 rfl, fun _ => .inr ⟨rfl, by omega⟩⟩

/-- Behind the last of all ends nothing is open. -/
theorem Ends.last {xss : List (List Iv)} {ys : List En} (h : Ends xss ys) {k : Nat} {e : En} (he : ys[k]? = some e) (hn : ys[k + 1]? = none) : e.c = highC := by
  obtain ⟨f, hf, f1⟩ := h.has.2
  obtain ⟨i, hi⟩ := List.getElem?_of_mem hf
  have hlt := (List.getElem?_eq_some_iff.1 hi).1
  have hk := List.getElem?_eq_none_iff.1 hn
  have h1 := h.ord i k f e (by omega) hi he
  rw [f1] at h1
  have hem := h.mem (List.mem_of_getElem? he)
  have := hem.1.bounds.2
  exact (Cut.key_eq hem.1.ok key_high).1 (by omega)

theorem SwInv.done {xss : List (List Iv)} {ys : List En} {hasF : List Int → Bool} {k : Nat} {L : List Iv} {F : Cut} (h : SwInv ys (setS hasF xss) k L F false) (hk : ys.length ≤ k) : Fit L ∧ ∀ κ, inL L κ ↔ setS hasF xss κ := by
  refine ⟨h.fit, fun κ => ?_⟩
  have := h.mem κ fun e he => by rw [List.getElem?_eq_none hk] at he; cases he
  rw [← this]
  exact ⟨fun h => .inl h, fun h => by rcases h with h | ⟨h, _⟩; (· exact h); (· cases h)⟩

end Go.Proofs.Ytimbgjpjgbjnkaa

