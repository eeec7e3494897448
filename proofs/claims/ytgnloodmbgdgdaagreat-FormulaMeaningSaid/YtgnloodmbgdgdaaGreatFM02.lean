import Derived.Test.YtgnloodmbgdgdaaGreatFM01
namespace Go.Proofs.YtgnloodmbgdgdaaGreat
open Go.RowKit
theorem exists_mult : ∀ n : Nat, ∃ F : Nat, 0 < F ∧ ∀ d, 1 ≤ d → d ≤ n → d ∣ F
 | 0 => ⟨1, by decide, fun d h1 h2 => by omega⟩
 | n + 1 => by
  obtain ⟨F, h0, h⟩ := exists_mult n
  refine ⟨F * (n + 1), Nat.mul_pos h0 (by omega), fun d h1 h2 => ?_⟩
  by_cases e : d = n + 1
  ·exact ⟨F, by rw [e, Nat.mul_comm]⟩
  ·exact Nat.dvd_trans (h d h1 (by omega)) (Nat.dvd_mul_right ..)
noncomputable def FF : Nat := Classical.choose (exists_mult 1048576)
theorem FF_pos : 0 < FF := (Classical.choose_spec (exists_mult 1048576)).1
theorem FF_dvd (d : Nat) (h1 : 1 ≤ d) (h2 : d ≤ 1048576) : d ∣ FF := (Classical.choose_spec (exists_mult 1048576)).2 d h1 h2
noncomputable def kR (n d : Int) : Int := n * ((FF / d.toNat : Nat) : Int)
theorem kR_mul {n d : Int} (h1 : 1 ≤ d) (h2 : d ≤ 1048576) : kR n d * d = n * FF := by
 obtain ⟨q, hq⟩ := FF_dvd d.toNat (by omega) (by omega)
 unfold kR
 have hd : ((d.toNat : Nat) : Int) = d := Int.toNat_of_nonneg (by omega)
 have e : FF / d.toNat = q := by rw [hq]; exact Nat.mul_div_cancel_left _ (by omega)
 rw [e, hq, Int.natCast_mul, hd, Int.mul_assoc, Int.mul_comm d]
theorem mul_lt_iff {a b c : Int} (hc : 0 < c) : a * c < b * c ↔ a < b := ⟨fun h => Int.lt_of_mul_lt_mul_right h (by omega), fun h => Int.mul_lt_mul_of_pos_right h hc⟩
theorem kR_lt {n d n' d' : Int} (h1 : 1 ≤ d) (h2 : d ≤ 1048576) (h3 : 1 ≤ d') (h4 : d' ≤ 1048576) : kR n d < kR n' d' ↔ n * d' < n' * d := by
 have e1 := kR_mul (n := n) h1 h2
 have e2 := kR_mul (n := n') h3 h4
 have hF : (0 : Int) < FF := by have := FF_pos; omega
 have hp : 0 < d * d' := Int.mul_pos (by omega) (by omega)
 rw [← mul_lt_iff hp, ← mul_lt_iff (a := n * d') (b := n' * d) hF]
 have a1 : kR n d * (d * d') = n * d' * FF := by rw [← Int.mul_assoc, e1, Int.mul_right_comm]
 have a2 : kR n' d' * (d * d') = n' * d * FF := by rw [Int.mul_comm d, ← Int.mul_assoc, e2, Int.mul_right_comm]
 rw [a1, a2]
theorem cmp_kR {n d n' d' : Int} (o : Qm.Ok n d) (o' : Qm.Ok n' d') : Qm.cmpI n d n' d' = if kR n d < kR n' d' then -1 else if kR n d = kR n' d' then 0 else 1 := by
 have l1 := kR_lt (n := n) (n' := n') o.1 o.2.1 o'.1 o'.2.1
 have l2 := kR_lt (n := n') (n' := n) o'.1 o'.2.1 o.1 o.2.1
 unfold Qm.cmpI
 by_cases h1 : n * d' < n' * d
 ·rw [if_pos h1, if_pos (l1.2 h1)]
 ·rw [if_neg h1, if_neg (mt l1.1 h1)]
  by_cases h2 : n * d' > n' * d
  ·have : kR n' d' < kR n d := l2.2 h2
   rw [if_pos h2, if_neg (by omega)]
  ·have h3 : kR n d = kR n' d' := by have := mt l1.1 h1; have := mt l2.1 (show ¬ n' * d < n * d' from h2); omega
   rw [if_neg h2, if_pos h3]
structure Cut where
 n : Int
 d : Int
 a : Bool
deriving DecidableEq, Inhabited
noncomputable def Cut.key (c : Cut) : Int := 2 * kR c.n c.d + if c.a then 1 else 0
def Cut.Ok (c : Cut) : Prop := Qm.Ok c.n c.d
noncomputable def cmpC (x y : Cut) : Int := if x.key < y.key then -1 else if x.key = y.key then 0 else 1
theorem cmpC_eq {x y : Cut} (o : x.Ok) (o' : y.Ok) : cmpC x y = if Qm.cmpI x.n x.d y.n y.d ≠ 0 then Qm.cmpI x.n x.d y.n y.d else if x.a = y.a then 0 else if y.a then -1 else 1 := by
 obtain ⟨n, d, a⟩ := x
 obtain ⟨n', d', a'⟩ := y
 have e := cmp_kR (n := n) (d := d) (n' := n') (d' := d') o o'
 unfold cmpC Cut.key
 simp only
 rw [e]
 clear e o o'
 generalize kR n d = p
 generalize kR n' d' = q
 have hk : ∀ a : Bool, (if a = true then (1 : Int) else 0) = 0 ∨ (if a = true then (1 : Int) else 0) = 1 := by intro a; cases a; (· exact .inl rfl); (· exact .inr rfl)
 rcases Int.lt_trichotomy p q with h | h | h
 ·have hc : (if p < q then (-1 : Int) else if p = q then 0 else 1) = -1 := by rw [if_pos h]
  rw [hc, if_pos (show (-1 : Int) ≠ 0 by decide)]
  have := hk a
  have := hk a'
  rw [if_pos (by omega)]
 ·have hc : (if p < q then (-1 : Int) else if p = q then 0 else 1) = 0 := by rw [if_neg (by omega), if_pos h]
  rw [hc, if_neg (show ¬ (0 : Int) ≠ 0 by decide)]
  subst h
  cases a <;> cases a' <;> simp <;> omega
 ·have hc : (if p < q then (-1 : Int) else if p = q then 0 else 1) = 1 := by rw [if_neg (by omega), if_neg (by omega)]
  rw [hc, if_pos (show (1 : Int) ≠ 0 by decide)]
  have := hk a
  have := hk a'
  rw [if_neg (by omega), if_neg (by omega)]
end Go.Proofs.YtgnloodmbgdgdaaGreat
