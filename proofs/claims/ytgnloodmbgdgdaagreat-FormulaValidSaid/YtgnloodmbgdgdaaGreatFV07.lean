import Derived.Test.YtgnloodmbgdgdaaGreatFV06
import Derived.Test.YtgnloodmbgdgdaaGreatFV04
namespace Go.Proofs.YtgnloodmbgdgdaaGreat
open Go.RowKit Go.Shelf
def Cut.ltB (c c' : Cut) : Bool := decide (c.n * c'.d < c'.n * c.d) || (decide (c.n = c'.n ∧ c.d = c'.d) && !c.a && c'.a)
theorem Cut.lt_of {c c' : Cut} (o : c.Ok) (o' : c'.Ok) (h : Cut.ltB c c' = true) : c.key < c'.key := by
 obtain ⟨n, d, a⟩ := c
 obtain ⟨n', d', a'⟩ := c'
 unfold Cut.key
 unfold Cut.ltB at h
 simp only [Bool.or_eq_true, Bool.and_eq_true, decide_eq_true_eq, Bool.not_eq_true'] at h
 simp only
 rcases h with h | ⟨⟨⟨rfl, rfl⟩, rfl⟩, rfl⟩
 ·have h2 : kR n d < kR n' d' := (kR_lt (n := n) (n' := n') o.1 o.2.1 o'.1 o'.2.1).2 h
  split <;> split <;> omega
 ·simp
  omega
def Iv.fine (x : Iv) : Bool := endB x.a x.b x.p x.r && endB x.c x.d x.q x.s && Cut.ltB x.from x.to
theorem Iv.good_of {x : Iv} (h : x.fine = true) : x.good = true := by
 unfold Iv.fine at h
 simp only [Bool.and_eq_true] at h
 obtain ⟨⟨h1, h2⟩, h3⟩ := h
 unfold Iv.good
 rw [h1, h2, decide_eq_true (Cut.lt_of (from_ok h1) (to_ok h2) h3)]
 rfl
def fineL : List Iv → Bool
 | [] => true
 | [x] => x.fine
 | [x, y] => x.fine && y.fine && Cut.ltB x.to y.from
 | _ => false
theorem fine_ends {x : Iv} (h : x.fine = true) : x.from.Ok ∧ x.to.Ok := by
 unfold Iv.fine at h
 simp only [Bool.and_eq_true] at h
 exact ⟨from_ok h.1.1, to_ok h.1.2⟩
theorem fine_fit : ∀ {l : List Iv}, fineL l = true → Fit l ∧ l.length ≤ 2
 | [], _ => ⟨Fit.nil, by simp⟩
 | [x], h => ⟨⟨fun i y hy => by
   match i with
   | 0 => cases hy; exact Iv.good_of h
   | i + 1 => simp at hy, fun i y z hy hz => by simp at hz⟩, by simp⟩
 | [x, y], h => by
  simp only [fineL, Bool.and_eq_true] at h
  obtain ⟨⟨h1, h2⟩, h3⟩ := h
  refine ⟨⟨fun i z hz => ?_, fun i u v hu hv => ?_⟩, by simp⟩
  ·match i with
   | 0 => cases hz; exact Iv.good_of h1
   | 1 => cases hz; exact Iv.good_of h2
   | i + 2 => simp at hz
  ·match i with
   | 0 => cases hu; cases hv; exact Cut.lt_of (fine_ends h1).2 (fine_ends h2).1 h3
   | i + 1 => simp at hv
 | _ :: _ :: _ :: _, h => by simp [fineL] at h
def rangeP (c : Nat) (ln ld hn : Int) (f g z : Bool) : List Iv :=
 match c with
 | 0 => [⟨0, 0, hn, ld, false, f, true, false⟩]
 | 1 => [⟨ln, ld, 0, 0, f, false, false, true⟩]
 | 2 => [⟨ln, ld, ln, ld, false, false, false, false⟩]
 | 3 => [⟨ln, ld, hn, ld, f, g, false, false⟩]
 | 4 => [⟨ln, ld, hn, ld, f, g, false, false⟩]
 | 5 => [⟨0, 0, 0, 0, false, false, true, true⟩]
 | 6 => [⟨0, 0, ln, ld, false, true, true, false⟩, ⟨hn, ld, 0, 0, f, false, false, true⟩]
 | _ => if z then [] else [⟨ln, ld, ln, ld, false, false, false, false⟩, ⟨hn, ld, hn, ld, false, false, false, false⟩]
def rangeLo (n : Nat) : Int × Int := if n % 16 = 3 then (2 * (n / 8 % 4 : Nat) - 1, 2) else ((n / 8 % 5 : Nat), 1)
def rangeHi (n : Nat) : Int := (rangeLo n).1 + (rangeLo n).2 * (1 + (n / 40 % 3 : Nat))
def rangeL (n : Nat) : List Iv := rangeP (n % 8) (rangeLo n).1 (rangeLo n).2 (rangeHi n) (decide (n / 64 % 2 = 0)) (decide (n / 128 % 2 = 0)) (decide (n / 64 % 4 = 0))
def los : List (Int × Int) := [(0, 1), (1, 1), (2, 1), (3, 1), (4, 1), (-1, 2), (1, 2), (3, 2), (5, 2)]
def wfB (x : Iv) : Bool := decide (-100 ≤ x.a ∧ x.a ≤ 100 ∧ -100 ≤ x.b ∧ x.b ≤ 100 ∧ -100 ≤ x.c ∧ x.c ≤ 100 ∧ -100 ≤ x.d ∧ x.d ≤ 100)
theorem los_all : ((List.range 8).all fun c => los.all fun lo => (List.range 3).all fun (j : Nat) => [true, false].all fun f => [true, false].all fun g => [true, false].all fun z => fineL (rangeP c lo.1 lo.2 (lo.1 + lo.2 * (1 + (j : Int))) f g z) && (rangeP c lo.1 lo.2 (lo.1 + lo.2 * (1 + (j : Int))) f g z).all wfB) = true := by kernel_rfl
theorem lo_mem (n : Nat) : rangeLo n ∈ los := by
 unfold rangeLo
 split
 ·have : n / 8 % 4 < 4 := by omega
  generalize n / 8 % 4 = m at *
  match m, this with
  | 0, _ => decide
  | 1, _ => decide
  | 2, _ => decide
  | 3, _ => decide
 ·have : n / 8 % 5 < 5 := by omega
  generalize n / 8 % 5 = m at *
  match m, this with
  | 0, _ => decide
  | 1, _ => decide
  | 2, _ => decide
  | 3, _ => decide
  | 4, _ => decide
theorem bmem (b : Bool) : b ∈ [true, false] := by cases b <;> simp
theorem range_facts (n : Nat) : Fit (rangeL n) ∧ (rangeL n).length ≤ 2 ∧ ∀ x ∈ rangeL n, x.wf := by
 have h := los_all
 have h1 := List.all_eq_true.1 h (n % 8) (List.mem_range.2 (by omega))
 have h2 := List.all_eq_true.1 h1 _ (lo_mem n)
 have h3 := List.all_eq_true.1 h2 (n / 40 % 3) (List.mem_range.2 (by omega))
 have h4 := List.all_eq_true.1 h3 _ (bmem (decide (n / 64 % 2 = 0)))
 have h5 := List.all_eq_true.1 h4 _ (bmem (decide (n / 128 % 2 = 0)))
 have h6 := List.all_eq_true.1 h5 _ (bmem (decide (n / 64 % 4 = 0)))
 have h7 : fineL (rangeL n) = true ∧ (rangeL n).all wfB = true := Bool.and_eq_true_iff.1 h6
 have h8 := fine_fit h7.1
 refine ⟨h8.1, h8.2, fun x hx => ?_⟩
 have := of_decide_eq_true (List.all_eq_true.1 h7.2 x hx)
 exact ⟨⟨by omega, by omega⟩, ⟨by omega, by omega⟩, ⟨by omega, by omega⟩, ⟨by omega, by omega⟩⟩
theorem valid_fit {l : List Iv} (h : Fit l) (hl : l.length ≤ 32) : validL l = 0 := by
 unfold validL
 rw [if_pos h, if_neg (by omega)]
end Go.Proofs.YtgnloodmbgdgdaaGreat
