/- Classes that inherit: what Least leaves; mathematics. -/
import Derived.Test.YtidnllddhhllcaaTf
import Derived.Test.YtidnllddhhllcaaLaw05a
namespace Go.Proofs.Ytidnllddhhllcaa
open Go.RowKit Go.Shelf

theorem ones_ext {f g : Nat → Bool} {n : Nat} (h : ∀ d, d < n → f d = g d) : ones f n = ones g n := by
  unfold ones
  congr 1
  apply List.filter_congr
  intro d hd
  exact h d (by simpa using hd)

theorem gB_iff {zs : List Int} {x : Nat} : gB zs x = true ↔ ∃ z ∈ zs, z.toNat = x := by
  unfold gB
  rw [List.any_eq_true]
  constructor
  · rintro ⟨z, hz, h⟩; exact ⟨z, hz, of_decide_eq_true h⟩
  · rintro ⟨z, hz, h⟩; exact ⟨z, hz, decide_eq_true h⟩

theorem anyB_iff {F : Nat → Nat → Bool} {zs : List Int} {d : Nat} : anyB F zs d = true ↔ ∃ x, gB zs x = true ∧ F x d = true := by
  unfold anyB
  rw [List.any_eq_true]
  constructor
  · rintro ⟨z, hz, h⟩; exact ⟨z.toNat, gB_iff.2 ⟨z, hz, rfl⟩, h⟩
  · rintro ⟨x, hx, h⟩
    obtain ⟨z, hz, rfl⟩ := gB_iff.1 hx
    exact ⟨z, hz, h⟩

theorem gB_ones {f : Nat → Bool} {n x : Nat} : gB (ones f n) x = true ↔ x < n ∧ f x = true := by
  rw [gB_iff]
  constructor
  · rintro ⟨z, hz, rfl⟩
    obtain ⟨d, rfl, h1, h2⟩ := ones_mem.1 hz
    exact ⟨by simpa using h1, by simpa using h2⟩
  · rintro ⟨h1, h2⟩
    exact ⟨(x : Int), ones_mem.2 ⟨x, rfl, h1, h2⟩, by simp⟩

theorem gB_lt {n : Nat} {zs : List Int} (h : allB n zs = true) {x : Nat} (hx : gB zs x = true) : x < n := by
  obtain ⟨z, hz, rfl⟩ := gB_iff.1 hx
  have := allB_mem h z hz
  omega

theorem allB_ones {n m : Nat} {f : Nat → Bool} (h : ∀ d, d < m → f d = true → d < n) : allB n (ones f m) = true := List.all_eq_true.2 fun z hz => by
  obtain ⟨d, rfl, h1, h2⟩ := ones_mem.1 hz
  exact clsB_nat (h d h1 h2)

/-- The classes of a list that Least returns. -/
noncomputable def lstB (P : List (List Int)) (zs : List Int) : Nat → Bool := leftB P (gB zs) (ones (gB zs) 64) (ones (gB zs) 64).length

theorem lstB_iff {P : List (List Int)} {zs : List Int} (h : allB P.length zs = true) (h64 : P.length ≤ 64) {d : Nat} : lstB P zs d = true ↔ gB zs d = true ∧ ∀ c, gB zs c = true → c ≠ d → Tx.inh P c d = false := by
  unfold lstB leftB
  rw [List.take_length, Bool.and_eq_true]
  constructor
  · rintro ⟨h1, h2⟩
    refine ⟨h1, fun c hc hne => ?_⟩
    have h3 : ((ones (gB zs) 64).any fun c => decide (c.toNat ≠ d) && Tx.inh P c.toNat d) = false := by simpa using h2
    have hm : (c : Int) ∈ ones (gB zs) 64 := ones_mem.2 ⟨c, rfl, by have := gB_lt h hc; omega, hc⟩
    have := List.any_eq_false.1 h3 _ hm
    simp [hne] at this
    exact this
  · rintro ⟨h1, h2⟩
    refine ⟨h1, ?_⟩
    have h3 : ((ones (gB zs) 64).any fun c => decide (c.toNat ≠ d) && Tx.inh P c.toNat d) = false := List.any_eq_false.2 fun z hz => by
      obtain ⟨c, rfl, h3, h4⟩ := ones_mem.1 hz
      by_cases e : c = d
      · simp [e]
      · have := h2 c h4 e
        simp [this]
    rw [h3]; rfl

/-- How many classes of a list inherit from a class. -/
noncomputable def cnt (P : List (List Int)) (g : Nat → Bool) (x : Nat) : Nat → Nat
  | 0 => 0
  | n + 1 => cnt P g x n + (if g n = true ∧ Tx.inh P n x = true then 1 else 0)

theorem cnt_le {P : List (List Int)} {g : Nat → Bool} {x y : Nat} (h : ∀ e, g e = true → Tx.inh P e x = true → Tx.inh P e y = true) (n : Nat) : cnt P g x n ≤ cnt P g y n := by
  induction n with
  | zero => exact Nat.le_refl _
  | succ n ih =>
    unfold cnt
    by_cases hx : g n = true ∧ Tx.inh P n x = true
    · rw [if_pos hx, if_pos ⟨hx.1, h n hx.1 hx.2⟩]; omega
    · rw [if_neg hx]; split <;> omega

theorem cnt_lt {P : List (List Int)} {g : Nat → Bool} {x y : Nat} (h : ∀ e, g e = true → Tx.inh P e x = true → Tx.inh P e y = true) (hy : g y = true) (hyy : Tx.inh P y y = true) (hyx : Tx.inh P y x = false) : ∀ n, y < n → cnt P g x n < cnt P g y n := by
  intro n
  induction n with
  | zero => intro h; omega
  | succ n ih =>
    intro hn
    unfold cnt
    by_cases e : y = n
    · subst e
      rw [if_neg (fun h => by rw [hyx] at h; cases h.2), if_pos ⟨hy, hyy⟩]
      have := cnt_le h y
      omega
    · have := ih (by omega)
      by_cases hx : g n = true ∧ Tx.inh P n x = true
      · rw [if_pos hx, if_pos ⟨hx.1, h n hx.1 hx.2⟩]; omega
      · rw [if_neg hx]; split <;> omega

/-- Each class of a list is one from which a least one inherits. -/
theorem lst_below {P : List (List Int)} {zs : List Int} (hg : Tx.Good P) (h : allB P.length zs = true) : ∀ (k x : Nat), cnt P (gB zs) x 64 ≤ k → gB zs x = true → ∃ y, lstB P zs y = true ∧ Tx.inh P y x = true := by
  intro k
  induction k with
  | zero =>
    intro x hk hx
    exfalso
    have hx64 : x < 64 := by have := gB_lt h hx; have := hg.len; omega
    have h1 : ∀ n, x < n → 0 < cnt P (gB zs) x n := by
      intro n
      induction n with
      | zero => intro h; omega
      | succ n ih =>
        intro hn
        unfold cnt
        by_cases e : x = n
        · subst e; rw [if_pos ⟨hx, Tx.inh_eq.2 (.refl x)⟩]; omega
        · have := ih (by omega); omega
    have := h1 64 hx64
    omega
  | succ k ih =>
    intro x hk hx
    by_cases hl : lstB P zs x = true
    · exact ⟨x, hl, Tx.inh_eq.2 (.refl x)⟩
    · have hno : ¬ ∀ c, gB zs c = true → c ≠ x → Tx.inh P c x = false := fun hh => hl ((lstB_iff h hg.len).2 ⟨hx, hh⟩)
      obtain ⟨c, hc⟩ := Classical.not_forall.1 hno
      have hc1 : gB zs c = true := by
        rcases Bool.eq_false_or_eq_true (gB zs c) with e | e
        · exact e
        · exact absurd (fun h => by rw [e] at h; cases h) hc
      have hc2 : c ≠ x := fun e => hc fun _ hne => absurd e hne
      have hc3 : Tx.inh P c x = true := by
        rcases Bool.eq_false_or_eq_true (Tx.inh P c x) with e | e
        · exact e
        · exact absurd (fun _ _ => e) hc
      have hx64 : x < 64 := by have := gB_lt h hx; have := hg.len; omega
      have hlt := cnt_lt (P := P) (g := gB zs) (x := c) (y := x) (fun e _ he => Tx.inh_eq.2 ((Tx.inh_eq.1 he).trans (Tx.inh_eq.1 hc3))) hx (Tx.inh_eq.2 (.refl x)) (Tx.inh_ne.2 fun hi => hc2 ((Tx.inh_eq.1 hc3).anti hg.acy hi)) 64 hx64
      obtain ⟨y, hy1, hy2⟩ := ih c (by omega) hc1
      exact ⟨y, hy1, Tx.inh_eq.2 ((Tx.inh_eq.1 hy2).trans (Tx.inh_eq.1 hc3))⟩

theorem leastL_eq {P : List (List Int)} {zs : List Int} (h : allB P.length zs = true) : leastL P zs = ones (lstB P zs) 64 := by
  unfold leastL
  rw [if_pos h]
  rfl

theorem upL_eq {P : List (List Int)} {zs : List Int} (h : allB P.length zs = true) : upL P zs = ones (anyB (Tx.inh P) zs) 64 := by
  unfold upL
  rw [if_pos h]

theorem least_all {P : List (List Int)} {zs : List Int} (hg : Tx.Good P) (h : allB P.length zs = true) : allB P.length (leastL P zs) = true := by
  rw [leastL_eq h]
  exact allB_ones fun d _ hd => gB_lt h ((lstB_iff h hg.len).1 hd).1

theorem least_up {P : List (List Int)} {zs : List Int} (hg : Tx.Good P) (h : allB P.length zs = true) : upL P (leastL P zs) = upL P zs := by
  rw [upL_eq (least_all hg h), upL_eq h, leastL_eq h]
  refine ones_ext fun d _ => Bool.eq_iff_iff.2 ?_
  rw [anyB_iff, anyB_iff]
  constructor
  · rintro ⟨x, hx, hi⟩
    exact ⟨x, ((lstB_iff h hg.len).1 (gB_ones.1 hx).2).1, hi⟩
  · rintro ⟨x, hx, hi⟩
    obtain ⟨y, hy1, hy2⟩ := lst_below hg h _ x (Nat.le_refl _) hx
    exact ⟨y, gB_ones.2 ⟨by have := gB_lt h ((lstB_iff h hg.len).1 hy1).1; have := hg.len; omega, hy1⟩, Tx.inh_eq.2 ((Tx.inh_eq.1 hy2).trans (Tx.inh_eq.1 hi))⟩

theorem up_all {P : List (List Int)} {zs : List Int} (hg : Tx.Good P) (h : allB P.length zs = true) : allB P.length (upL P zs) = true := by
  rw [upL_eq h]
  refine allB_ones fun d _ hd => ?_
  obtain ⟨x, hx, hi⟩ := anyB_iff.1 hd
  exact (Tx.inh_eq.1 hi).lt hg.ok (gB_lt h hx)

theorem ones_nodup (f : Nat → Bool) (n : Nat) : (ones f n).Pairwise (· < ·) := by
  unfold ones
  rw [List.pairwise_map]
  refine List.Pairwise.imp (fun h => ?_) ((List.pairwise_lt_range (n := n)).filter f)
  simpa using h

/-- None of the least ones inherits from another one. -/
theorem least_apart {P : List (List Int)} {zs : List Int} (hg : Tx.Good P) (h : allB P.length zs = true) {i k : Nat} (hi : i < (leastL P zs).length) (hk : k < (leastL P zs).length) (hne : i ≠ k) : isB P ((leastL P zs)[i]?.getD 0) ((leastL P zs)[k]?.getD 0) = false := by
  rw [List.getElem?_eq_getElem hi, List.getElem?_eq_getElem hk]
  show isB P (leastL P zs)[i] (leastL P zs)[k] = false
  have h1 := List.getElem_mem hi
  have h2 := List.getElem_mem hk
  have hpw := ones_nodup (lstB P zs) 64
  rw [← leastL_eq h] at hpw
  have hd : (leastL P zs)[i] ≠ (leastL P zs)[k] := by
    intro e
    rcases Nat.lt_or_gt_of_ne hne with hlt | hlt
    · have := List.pairwise_iff_getElem.1 hpw i k hi hk hlt; omega
    · have := List.pairwise_iff_getElem.1 hpw k i hk hi hlt; omega
  generalize (leastL P zs)[i] = x at *
  generalize (leastL P zs)[k] = y at *
  rw [leastL_eq h] at h1 h2
  obtain ⟨c, rfl, hc1, hc2⟩ := ones_mem.1 h1
  obtain ⟨d, rfl, hd1, hd2⟩ := ones_mem.1 h2
  have hc3 := ((lstB_iff h hg.len).1 hc2).1
  have hd3 := (lstB_iff h hg.len).1 hd2
  rw [isB_nat (gB_lt h hc3) (gB_lt h hd3.1)]
  exact hd3.2 c hc3 (fun e => hd (by rw [e]))

/-- Without one of the least ones Up is another one. -/
theorem least_without {P : List (List Int)} {zs : List Int} (hg : Tx.Good P) (h : allB P.length zs = true) {y : Int} (hy : y ∈ leastL P zs) : allB P.length ((upL P zs).filter fun u => u != y) = true ∧ upL P ((upL P zs).filter fun u => u != y) ≠ upL P zs := by
  have hal : allB P.length ((upL P zs).filter fun u => u != y) = true := List.all_eq_true.2 fun z hz => List.all_eq_true.1 (up_all hg h) z ((List.mem_filter.1 hz).1)
  refine ⟨hal, fun e => ?_⟩
  rw [leastL_eq h] at hy
  obtain ⟨d, rfl, hd1, hd2⟩ := ones_mem.1 hy
  have hd3 := (lstB_iff h hg.len).1 hd2
  have hin : (d : Int) ∈ upL P zs := by
    rw [upL_eq h]
    exact ones_mem.2 ⟨d, rfl, hd1, anyB_iff.2 ⟨d, hd3.1, Tx.inh_eq.2 (.refl d)⟩⟩
  rw [← e, upL_eq hal] at hin
  obtain ⟨d', hdd, _, hany⟩ := ones_mem.1 hin
  have : d' = d := by omega
  subst this
  obtain ⟨r, hr, hri⟩ := anyB_iff.1 hany
  obtain ⟨z, hz, rfl⟩ := gB_iff.1 hr
  have hz1 := (List.mem_filter.1 hz).1
  have hz2 : z ≠ (d' : Int) := by
    have := (List.mem_filter.1 hz).2
    simpa using this
  rw [upL_eq h] at hz1
  obtain ⟨r, rfl, _, hr2⟩ := ones_mem.1 hz1
  have hri : Tx.inh P r d' = true := hri
  obtain ⟨x, hx, hxi⟩ := anyB_iff.1 hr2
  by_cases e2 : x = d'
  · subst e2
    have := (Tx.inh_eq.1 hxi).anti hg.acy (Tx.inh_eq.1 hri)
    exact hz2 (by rw [this])
  · have := hd3.2 x hx e2
    rw [Tx.inh_eq.2 ((Tx.inh_eq.1 hxi).trans (Tx.inh_eq.1 hri))] at this
    cases this

end Go.Proofs.Ytidnllddhhllcaa
