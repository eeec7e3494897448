/- Mathematics of Parse: digits, numbers, and what the reference's Parse returns. -/
import Derived.Test.YtloddocibfbkpaaDoorQmath
namespace Go.Proofs.YtloddocibfbkpaaDoor
open Go.RowKit

/-- A digit. -/
def isD (c : UInt8) : Bool := decide (48 ≤ c.toNat ∧ c.toNat ≤ 57)

/-- How many digits lead. -/
def cntD : List UInt8 → Nat
  | [] => 0
  | c :: l => if isD c then cntD l + 1 else 0

/-- The number that digits stand for, behind n. -/
def valF (n : Int) (l : List UInt8) : Int := l.foldl (fun n c => n * 10 + ((c.toNat : Int) - 48)) n

theorem isD_iff {c : UInt8} : isD c = true ↔ 48 ≤ c.toNat ∧ c.toNat ≤ 57 := by unfold isD; simp

theorem cntD_le : ∀ l : List UInt8, cntD l ≤ l.length
  | [] => Nat.le_refl _
  | c :: l => by
    unfold cntD
    split
    · have := cntD_le l; simp only [List.length_cons]; omega
    · exact Nat.zero_le _

theorem cntD_head {l : List UInt8} {k : Nat} (h : k < cntD l) : ∃ c r, l.drop k = c :: r ∧ isD c = true := by
  induction l generalizing k with
  | nil => simp [cntD] at h
  | cons c l ih =>
    by_cases hd : isD c = true
    · rw [cntD, if_pos hd] at h
      match k with
      | 0 => exact ⟨c, l, rfl, hd⟩
      | k + 1 => exact ih (by omega)
    · rw [cntD, if_neg hd] at h
      omega

/-- All are digits. -/
theorem cntD_all : ∀ (l : List UInt8) (c : UInt8), c ∈ l.take (cntD l) → isD c = true
  | [], c, h => by simp at h
  | d :: l, c, h => by
    by_cases hd : isD d = true
    · rw [cntD, if_pos hd, List.take_succ_cons] at h
      rcases List.mem_cons.1 h with rfl | h
      · exact hd
      · exact cntD_all l c h
    · rw [cntD, if_neg hd] at h
      simp at h

theorem valF_append (n : Int) (a b : List UInt8) : valF n (a ++ b) = valF (valF n a) b := by unfold valF; rw [List.foldl_append]

theorem valF_shift (n : Int) (l : List UInt8) : valF n l = n * 10 ^ l.length + valF 0 l := by
  induction l generalizing n with
  | nil => simp [valF]
  | cons c l ih =>
    have e : valF n (c :: l) = valF (n * 10 + ((c.toNat : Int) - 48)) l := rfl
    have e0 : valF 0 (c :: l) = valF (0 * 10 + ((c.toNat : Int) - 48)) l := rfl
    rw [e, e0, ih, ih (0 * 10 + ((c.toNat : Int) - 48)), List.length_cons, Int.pow_succ]
    generalize valF 0 l = v
    generalize (10 : Int) ^ l.length = q
    grind

theorem valF_range (l : List UInt8) (h : ∀ c ∈ l, isD c = true) : 0 ≤ valF 0 l ∧ valF 0 l < 10 ^ l.length := by
  induction l with
  | nil => simp [valF]
  | cons c l ih =>
    obtain ⟨h1, h2⟩ := ih (fun d hd => h d (List.mem_cons_of_mem _ hd))
    obtain ⟨c1, c2⟩ := isD_iff.1 (h c (List.mem_cons_self ..))
    have e0 : valF 0 (c :: l) = valF (0 * 10 + ((c.toNat : Int) - 48)) l := rfl
    rw [e0, valF_shift, List.length_cons, Int.pow_succ]
    generalize valF 0 l = v at *
    generalize (10 : Int) ^ l.length = q at *
    have g1 : 0 ≤ (0 * 10 + ((c.toNat : Int) - 48)) * q := Int.mul_nonneg (by omega) (by omega)
    have g2 : (0 * 10 + ((c.toNat : Int) - 48)) * q ≤ 9 * q := Int.mul_le_mul_of_nonneg_right (by omega) (by omega)
    omega

/-- The reference's number: exact below 46 * 10^17, else from there on. -/
def valC (n : Int) (l : List UInt8) : Int := l.foldl (fun n c => min n 460000000000000000 * 10 + (c.toNat : Int) - 48) n

theorem valC_val (l : List UInt8) (h : ∀ c ∈ l, isD c = true) : ∀ (n v : Int), 0 ≤ v → ((v < 4600000000000000000 ∧ n = v) ∨ (4600000000000000000 ≤ v ∧ 4600000000000000000 ≤ n)) →
    (valF v l < 4600000000000000000 ∧ valC n l = valF v l) ∨ (4600000000000000000 ≤ valF v l ∧ 4600000000000000000 ≤ valC n l) := by
  induction l with
  | nil => intro n v hv hh; exact hh
  | cons c l ih =>
    intro n v hv hh
    obtain ⟨c1, c2⟩ := isD_iff.1 (h c (List.mem_cons_self ..))
    have e1 : valF v (c :: l) = valF (v * 10 + ((c.toNat : Int) - 48)) l := rfl
    have e2 : valC n (c :: l) = valC (min n 460000000000000000 * 10 + (c.toNat : Int) - 48) l := rfl
    rw [e1, e2]
    exact ih (fun d hd => h d (List.mem_cons_of_mem _ hd)) _ _ (by omega) (by omega)

/-- What the reference's Parse does behind the sign. -/
def refF (sg : Int) (l1 : List UInt8) : Int × Int × Int :=
  if cntD l1 < 1 ∨ 15 < cntD l1 then (0, 0, 2)
  else match l1.drop (cntD l1) with
    | [] => if 4600000000000000000 ≤ valC 0 (l1.take (cntD l1)) then (0, 0, 5) else Qm.ofR (sg * valC 0 (l1.take (cntD l1))) 1
    | c :: r =>
      if (c ≠ 46 ∧ c ≠ 47) ∨ cntD r < 1 ∨ cntD r < r.length ∨ (c = 47 ∧ 7 < cntD r) ∨ (c ≠ 47 ∧ 6 < cntD r) then (0, 0, 2)
      else if c = 47 then
        (if valC 0 r = 0 then (0, 0, 1) else if 4600000000000000000 ≤ valC 0 (l1.take (cntD l1)) then (0, 0, 5) else Qm.ofR (sg * valC 0 (l1.take (cntD l1))) (valC 0 r))
      else (if 4600000000000000000 ≤ valC 0 (l1.take (cntD l1) ++ r) then (0, 0, 5) else Qm.ofR (sg * valC 0 (l1.take (cntD l1) ++ r)) (10 ^ cntD r))

/-- What the reference's Parse returns. -/
def refP (l : List UInt8) : Int × Int × Int := if l.head? = some 45 then refF (-1) l.tail else refF 1 l

theorem pow_pos10 (k : Nat) : (1 : Int) ≤ 10 ^ k := by
  have := Nat.one_le_pow k 10 (by omega)
  have e : (10 : Int) ^ k = ((10 ^ k : Nat) : Int) := by simp
  omega

theorem pow_one10 {k : Nat} (h : 1 ≤ k) : ((1 * (10 : Int) ^ k) == 1) = false := by
  obtain ⟨j, rfl⟩ : ∃ j, k = j + 1 := ⟨k - 1, by omega⟩
  have := pow_pos10 j
  rw [Int.one_mul, Int.pow_succ]
  simp
  omega

theorem pow_le10 {k m : Nat} (h : k ≤ m) : (10 : Int) ^ k ≤ 10 ^ m := by
  have := Nat.pow_le_pow_right (n := 10) (by omega) h
  have e1 : (10 : Int) ^ k = ((10 ^ k : Nat) : Int) := by simp
  have e2 : (10 : Int) ^ m = ((10 ^ m : Nat) : Int) := by simp
  omega

/-- What is too great does not fit. -/
theorem ofR_great {n d : Int} (hd : 1 ≤ d) (h : 1099511627777 * d ≤ n ∨ n ≤ -(1099511627777 * d)) : Qm.ofR n d = (0, 0, 5) := by
  rcases Qm.ofR_out (n := n) (d := d) (by omega) with e | ⟨a, b, _, o, hv⟩
  · exact e
  · exfalso
    obtain ⟨b1, b2, b3, b4, _⟩ := o
    have g1 : a * d ≤ 1099511627776 * d := Int.mul_le_mul_of_nonneg_right b4 (by omega)
    have g2 : -1099511627776 * d ≤ a * d := Int.mul_le_mul_of_nonneg_right b3 (by omega)
    rcases h with h | h
    · have g3 : n * 1 ≤ n * b := Int.mul_le_mul_of_nonneg_left b1 (by omega)
      omega
    · have g3 : -n * 1 ≤ -n * b := Int.mul_le_mul_of_nonneg_left b1 (by omega)
      rw [Int.neg_mul, Int.neg_mul] at g3
      omega

end Go.Proofs.YtloddocibfbkpaaDoor
