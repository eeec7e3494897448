/- The examples of the section: mathematics. -/
import Derived.Test.YtimbgjpjgbjnkaaOpsEx
import Derived.Test.YtimbgjpjgbjnkaaGa
import Derived.Test.YtimbgjpjgbjnkaaPk3Pk4
namespace Go.Proofs.Ytimbgjpjgbjnkaa
open Go.RowKit Go.Shelf

theorem fit_one {x : Iv} (h : x.good = true) : Fit [x] := Fit.nil.push h (fun y hy => by cases hy)
theorem fit_two {x y : Iv} (h : x.good = true) (h' : y.good = true) (hk : x.to.key < y.from.key) : Fit [x, y] := (fit_one h).push h' (fun z hz => by rw [List.mem_singleton.1 hz]; exact hk)
theorem valid_fit {xs : List Iv} (h : Fit xs) (hl : xs.length ≤ 32) : validL xs = 0 := by
  unfold validL
  rw [if_pos h, if_neg (by omega)]

def eA : Iv := ⟨1, 1, 2, 1, false, true, false, false⟩
def eB : Iv := ⟨2, 1, 3, 1, false, false, false, false⟩
def eC : Iv := ⟨2, 1, 3, 1, true, false, false, false⟩
def eD : Iv := ⟨1, 1, 3, 1, false, false, false, false⟩
def eE : Iv := ⟨0, 0, 1, 1, false, true, true, false⟩
def eF : Iv := ⟨2, 1, 0, 0, false, false, false, true⟩
def eG : Iv := ⟨1, 3, 1, 2, true, true, false, false⟩

theorem gA : eA.good = true := by rw [good_is]; decide
theorem gB : eB.good = true := by rw [good_is]; decide
theorem gC : eC.good = true := by rw [good_is]; decide
theorem gD : eD.good = true := by rw [good_is]; decide
theorem gE : eE.good = true := by rw [good_is]; decide
theorem gF : eF.good = true := by rw [good_is]; decide
theorem gG : eG.good = true := by rw [good_is]; decide

theorem k12 : kR 1 1 < kR 2 1 := (kR_lt (by decide) (by decide) (by decide) (by decide)).2 (by decide)
theorem k23 : kR 2 1 < kR 3 1 := (kR_lt (by decide) (by decide) (by decide) (by decide)).2 (by decide)

theorem inA (κ : Int) : inL [eA] κ ↔ 2 * kR 1 1 ≤ κ ∧ κ < 2 * kR 2 1 := by
  rw [inL_one]
  show 2 * kR 1 1 + 0 ≤ κ ∧ κ < 2 * kR 2 1 + 0 ↔ _
  omega
theorem inB' (κ : Int) : inL [eB] κ ↔ 2 * kR 2 1 ≤ κ ∧ κ < 2 * kR 3 1 + 1 := by
  rw [inL_one]
  show 2 * kR 2 1 + 0 ≤ κ ∧ κ < 2 * kR 3 1 + 1 ↔ _
  omega
theorem inC' (κ : Int) : inL [eC] κ ↔ 2 * kR 2 1 + 1 ≤ κ ∧ κ < 2 * kR 3 1 + 1 := by
  rw [inL_one]
  exact Iff.rfl
theorem inD' (κ : Int) : inL [eD] κ ↔ 2 * kR 1 1 ≤ κ ∧ κ < 2 * kR 3 1 + 1 := by
  rw [inL_one]
  show 2 * kR 1 1 + 0 ≤ κ ∧ κ < 2 * kR 3 1 + 1 ↔ _
  omega
theorem inE' (κ : Int) : inL [eE] κ ↔ lowC.key ≤ κ ∧ κ < 2 * kR 1 1 := by
  rw [inL_one]
  show lowC.key ≤ κ ∧ κ < 2 * kR 1 1 + 0 ↔ _
  omega
theorem inF' (κ : Int) : inL [eF] κ ↔ 2 * kR 2 1 ≤ κ ∧ κ < highC.key := by
  rw [inL_one]
  show 2 * kR 2 1 + 0 ≤ κ ∧ κ < highC.key ↔ _
  omega

theorem ex1 : opL (unionS [eA] [eB]) [eA] [eB] = ([eD], 0) := by
  unfold opL
  rw [if_neg (by simp [valid_fit (fit_one gA)]), if_neg (by simp [valid_fit (fit_one gB)])]
  rw [← theSet_is (fit_one gD) (S := unionS [eA] [eB]) fun κ => by
    unfold unionS
    rw [inA, inB', inD']
    have := k12
    have := k23
    omega]
  rfl

theorem ex2 : opL (unionS [eA] [eC]) [eA] [eC] = ([eA, eC], 0) := by
  unfold opL
  rw [if_neg (by simp [valid_fit (fit_one gA)]), if_neg (by simp [valid_fit (fit_one gC)])]
  rw [← theSet_is (L := [eA, eC]) (fit_two gA gC (by show 2 * kR 2 1 + 0 < 2 * kR 2 1 + 1; omega)) (S := unionS [eA] [eC]) fun κ => by
    unfold unionS
    rw [show [eA, eC] = [eA] ++ [eC] from rfl, inL_append]]
  rfl

theorem ex3 : notL [eA] = ([eE, eF], 0) := by
  unfold notL
  rw [if_neg (by simp [valid_fit (fit_one gA)])]
  rw [← theSet_is (L := [eE, eF]) (fit_two gE gF (by show 2 * kR 1 1 + 0 < 2 * kR 2 1 + 0; have := k12; omega)) (S := notS [eA]) fun κ => by
    unfold notS
    rw [show [eE, eF] = [eE] ++ [eF] from rfl, inL_append, inA, inE', inF']
    have := k12
    have h1 := small_keys (n := 1) (d := 1) false (by decide)
    have h2 := small_keys (n := 2) (d := 1) false (by decide)
    have e1 : Cut.key ⟨1, 1, false⟩ = 2 * kR 1 1 + 0 := rfl
    have e2 : Cut.key ⟨2, 1, false⟩ = 2 * kR 2 1 + 0 := rfl
    omega]
  rfl

theorem ex4 : validL [eG] = 0 ∧ IsPick [eG] (2, 5) := by
  refine ⟨valid_fit (fit_one gG) (by simp), ⟨eG, by simp, ⟨by decide, ?_, ?_⟩⟩, fun q ⟨x, hx, o, h1, h2⟩ => ?_⟩
  · have : kR 1 3 < kR 2 5 := (kR_lt (by decide) (by decide) (by decide) (by decide)).2 (by decide)
    show 2 * kR 1 3 + 1 ≤ 2 * kR 2 5
    omega
  · have : kR 2 5 < kR 1 2 := (kR_lt (by decide) (by decide) (by decide) (by decide)).2 (by decide)
    show 2 * kR 2 5 + 1 ≤ 2 * kR 1 2 + 0
    omega
  · rw [List.mem_singleton.1 hx] at h1 h2
    have h1' : 2 * kR 1 3 + 1 ≤ 2 * kR q.1 q.2 := h1
    have h2' : 2 * kR q.1 q.2 + 1 ≤ 2 * kR 1 2 + 0 := h2
    have l1 := (kR_lt (n := 1) (d := 3) (n' := q.1) (d' := q.2) (by decide) (by decide) o.1 o.2.1).1 (by omega)
    have l2 := (kR_lt (n := q.1) (d := q.2) (n' := 1) (d' := 2) o.1 o.2.1 (by decide) (by decide)).1 (by omega)
    unfold SmpLe absZ
    simp only
    omega

theorem ex4_one {r : Int × Int} (h : IsPick [eG] r) : r = (2, 5) := h.one ex4.2

end Go.Proofs.Ytimbgjpjgbjnkaa
