import Derived.Test.YtimbgjpjgbjnkaaRef03
/- Contracts of priorartref03: Valid, Both, Less, Cmp, Neg, Inverse, Floor. -/
namespace Go.Proofs.Ytimbgjpjgbjnkaa
open Go.RowKit Go.Shelf

set_option maxHeartbeats 1000000 in
set_option maxRecDepth 100000 in
theorem valid_any (n d : Int) (w : World) :
    Calls Try.prog 56 #[rv n d] w fun e w' => e = .returned (.int .i64 (Qm.validI n d)) ∧ Below w.heap.size w w' := by
  have HB0 := Lib.hid ((Below.refl w.heap.size w).alloc (Nat.le_refl _) (Obj.cells #[.int .i64 n, .int .i64 d] 25))
  by_cases hr : 1 ≤ d ∧ d ≤ 1048576 ∧ -1099511627776 ≤ n ∧ n ≤ 1099511627776
  · obtain ⟨h1, h2, h3, h4⟩ := hr
    have k1 := fun w => common_any n d w (by omega) (by omega)
    by_cases hg : Qm.g n d = 1
    · have HE : Hid (Qm.validI n d = 0) := by unfold Qm.validI; rw [if_pos ⟨h1, h2, h3, h4, hg⟩]; exact rfl
      rw [hg] at k1
      have K1 := Lib.hid k1
      clear k1
      generalize Qm.validI n d = R at *
      unfold rv
      go_enter Try.func56, Try.ntmps56
      go_wp2_with fail
      refine (K1.out _).mono ?_
      rintro e w1 ⟨rfl, hB⟩
      have B1 := Lib.hid hB
      have HB1 := Lib.hid (HB0.out.trans (hB.mono HB0.out.size))
      clear hB
      go_wp2
      all_goals
        go_ret
        exact ⟨ret_int HE.out.symm, HB1.out⟩
    · have HE : Hid (Qm.validI n d = 1) := by unfold Qm.validI; rw [if_neg (fun h => hg h.2.2.2.2)]; exact rfl
      generalize Qm.g n d = G at *
      have hg' : (G != 1) = true := by simpa using hg
      have K1 := Lib.hid k1
      clear k1
      generalize Qm.validI n d = R at *
      unfold rv
      go_enter Try.func56, Try.ntmps56
      go_wp2_with fail
      refine (K1.out _).mono ?_
      rintro e w1 ⟨rfl, hB⟩
      have B1 := Lib.hid hB
      have HB1 := Lib.hid (HB0.out.trans (hB.mono HB0.out.size))
      clear hB
      go_wp2
      all_goals
        go_ret
        exact ⟨ret_int HE.out.symm, HB1.out⟩
  · have HE : Hid (Qm.validI n d = 1) := by unfold Qm.validI; rw [if_neg (fun h => hr ⟨h.1, h.2.1, h.2.2.1, h.2.2.2.1⟩)]; exact rfl
    generalize Qm.validI n d = R at *
    have hr' : d < 1 ∨ 1048576 < d ∨ n < -1099511627776 ∨ 1099511627776 < n := by omega
    clear hr
    unfold rv
    rcases hr' with h | h | h | h
    all_goals
      go_enter Try.func56, Try.ntmps56
      go_wp2
      all_goals
        go_ret
        exact ⟨ret_int HE.out.symm, HB0.out⟩


set_option maxHeartbeats 1000000 in
set_option maxRecDepth 100000 in
theorem less_any (a b c d : Int) (w : World) (o : Qm.Ok a b) (o' : Qm.Ok c d) :
    Calls Try.prog 84 #[rv a b, rv c d] w fun e w' => e = .returned (.bool (decide (a * d < c * b))) ∧ Below w.heap.size w w' := by
  have HB0 := Lib.hid (((Below.refl w.heap.size w).alloc (Nat.le_refl _) (Obj.cells #[.int .i64 a, .int .i64 b] 25)).alloc (by simp) (Obj.cells #[.int .i64 c, .int .i64 d] 25))
  have h1 := Qm.mul_small o.2.2.1 o.2.2.2.1 o'.1 o'.2.1
  have h2 := Qm.mul_small o'.2.2.1 o'.2.2.2.1 o.1 o.2.1
  obtain ⟨h11, h12⟩ := h1
  obtain ⟨h21, h22⟩ := h2
  unfold rv
  clear o o'
  go_enter Try.func84, Try.ntmps84
  go_wp2
  go_ret
  exact ⟨rfl, HB0.out⟩

set_option maxHeartbeats 1000000 in
set_option maxRecDepth 100000 in
theorem floor_any (n d : Int) (w : World) (h1 : -4611686018427387904 ≤ n) (h2 : n ≤ 4611686018427387904) (h3 : 1 ≤ d) (h4 : d ≤ 9223372036854775807) :
    Calls Try.prog 97 #[.int .i64 n, .int .i64 d] w fun e w' => e = .returned (.int .i64 (n / d)) ∧ w = w' := by
  have hq := Qm.tdiv_floor n h3
  obtain ⟨⟨b1, b2⟩, b3, b4⟩ := Qm.tdiv_bounds (d := d) h1 h2
  generalize hR : n / d = R at *
  clear hR
  by_cases ht : n.tdiv d * d > n
  · rw [if_pos ht] at hq
    have HQ := Lib.hid hq
    clear hq
    go_enter Try.func97, Try.ntmps97
    go_wp2
    all_goals
      go_ret
      exact ⟨ret_int HQ.out.symm, rfl⟩
  · rw [if_neg ht] at hq
    have HQ := Lib.hid hq
    clear hq
    go_enter Try.func97, Try.ntmps97
    go_wp2
    all_goals
      go_ret
      exact ⟨ret_int HQ.out.symm, rfl⟩

/-- What Cmp returns. -/
def cmpR (a b c d : Int) : Int × Int := if Qm.bothI a b c d = 0 then (Qm.cmpI a b c d, 0) else (0, 1)

theorem ret_two {a b c d : Int} (h1 : a = c) (h2 : b = d) : Ending.returned (.tuple #[.int .i64 a, .int .i64 b]) = .returned (.tuple #[.int .i64 c, .int .i64 d]) := by rw [h1, h2]


end Go.Proofs.Ytimbgjpjgbjnkaa

/- Contracts of priorartref03: Neg, New, Add, Mul, Inverse, Div, Part. -/
namespace Go.Proofs.Ytimbgjpjgbjnkaa
open Go.RowKit Go.Shelf


/-- What Add returns. -/
def addR (a b c d : Int) : Int × Int × Int := if Qm.bothI a b c d = 0 then Qm.ofR (a * d + c * b) (b * d) else (0, 0, 1)


/-- What New returns is halved first. -/
theorem new_two {p q : Int} (hp : p.tmod 2 = 0) (hq : q.tmod 2 = 0) (h : q ≠ 0) : 2 * p.tdiv 2 = p ∧ 2 * q.tdiv 2 = q ∧ q.tdiv 2 ≠ 0 ∧ Qm.ofR (p.tdiv 2) (q.tdiv 2) = Qm.ofR p q := by
  have e1 := Int.mul_tdiv_add_tmod p 2
  have e2 := Int.mul_tdiv_add_tmod q 2
  have h3 : q.tdiv 2 ≠ 0 := by intro h0; rw [h0] at e2; omega
  refine ⟨by omega, by omega, h3, ?_⟩
  have e := Qm.ofR_mul (k := 2) (n := p.tdiv 2) (by omega) h3
  rw [← e]
  congr 1 <;> omega


end Go.Proofs.Ytimbgjpjgbjnkaa

/- Contracts of priorartref03: Mul. -/
namespace Go.Proofs.Ytimbgjpjgbjnkaa
open Go.RowKit Go.Shelf





end Go.Proofs.Ytimbgjpjgbjnkaa

/- Contracts of priorartref03: Mul, whole. -/
namespace Go.Proofs.Ytimbgjpjgbjnkaa
open Go.RowKit Go.Shelf

/-- What Mul returns. -/
def mulR (a b c d : Int) : Int × Int × Int := if Qm.bothI a b c d = 0 then Qm.ofR (a * c) (b * d) else (0, 0, 1)

/-- A part of a number: its sign and its bounds. -/
theorem part_pos {a G M : Int} (hG : 1 ≤ G) (hd : G ∣ a) (h : 0 < a) (hM : a ≤ M) : 1 ≤ a / G ∧ a / G ≤ M := by
  have h1 : 0 < a / G := Int.ediv_pos_of_pos_of_dvd h (by omega) hd
  have h2 := (ediv_le (a := a) (M := M) hG (by omega) hM).2
  omega

theorem part_neg {a G M : Int} (hG : 1 ≤ G) (hd : G ∣ a) (h : a < 0) (hM : -M ≤ a) : 1 ≤ -(a / G) ∧ -(a / G) ≤ M := by
  have h1 := part_pos hG ((Int.dvd_neg).2 hd) (show 0 < -a by omega) (show -a ≤ M by omega)
  rw [Int.neg_ediv_of_dvd hd] at h1
  exact h1

/-- The product of two ratios, by its parts. -/
theorem mul_parts {a b c d : Int} (o : Qm.Ok a b) (o' : Qm.Ok c d) :
    Qm.ofR (a * c) (b * d) = (if a / Qm.g a d * (c / Qm.g c b) > 1099511627776 ∨ a / Qm.g a d * (c / Qm.g c b) < -1099511627776 ∨ b / Qm.g c b * (d / Qm.g a d) > 1048576 then (0, 0, 5) else (a / Qm.g a d * (c / Qm.g c b), b / Qm.g c b * (d / Qm.g a d), 0)) ∧
    Qm.ofR (a / Qm.g a d * (c / Qm.g c b)) (b / Qm.g c b * (d / Qm.g a d)) = Qm.ofR (a * c) (b * d) ∧ 1 ≤ b / Qm.g c b ∧ b / Qm.g c b ≤ 1048576 ∧ 1 ≤ d / Qm.g a d ∧ d / Qm.g a d ≤ 1048576 := by
  have hb := o.1
  have hd := o'.1
  have p1 := part_pos (Qm.g_pos (a := c) (b := b) (by omega)) (Qm.g_right c b) (by omega) o.2.1
  have p2 := part_pos (Qm.g_pos (a := a) (b := d) (by omega)) (Qm.g_right a d) (by omega) o'.2.1
  have p3 := Qm.mul_pos p1.1 p1.2 p2.1 p2.2
  have p4 := Qm.mul_pos hb o.2.1 hd o'.2.1
  have e := Qm.ofR_same (n := a * c) (d := b * d) (n' := a / Qm.g a d * (c / Qm.g c b)) (d' := b / Qm.g c b * (d / Qm.g a d)) (by omega) (by omega) (Qm.cross_same (by omega) (by omega))
  refine ⟨?_, e.symm, p1.1, p1.2, p2.1, p2.2⟩
  rw [e]
  exact Qm.ofR_lowest (by omega) (Qm.g_cross o.2.2.2.2 o'.2.2.2.2 (by omega) (by omega))

theorem ofR_zero {d : Int} (h : d ≠ 0) : Qm.ofR 0 d = (0, 1, 0) := Qm.ofR_is h ⟨by decide, by decide, by decide, by decide, by decide⟩ (by simp)



end Go.Proofs.Ytimbgjpjgbjnkaa

/- Contracts of priorartref03: Part. -/
namespace Go.Proofs.Ytimbgjpjgbjnkaa
open Go.RowKit Go.Shelf

/-- What Part returns. -/
def partR (k n d : Int) : Int × Int := if Qm.Ok n d ∧ 0 ≤ k ∧ k ≤ 1099511627776 ∧ 0 ≤ n then (if k * n / d > 1099511627776 then (0, 5) else (k * n / d, 0)) else (0, 1)

theorem part_split (k n : Int) {d : Int} (h : 0 < d) : k * n / d = k / d * n + k % d * n / d := by
  have e : k * n = k % d * n + k / d * n * d := by
    have := Int.mul_ediv_add_emod k d
    calc k * n = (d * (k / d) + k % d) * n := by rw [this]
      _ = k % d * n + k / d * n * d := by rw [Int.add_mul, Int.add_comm, Int.mul_comm d, Int.mul_assoc, Int.mul_comm d n, ← Int.mul_assoc]
  conv => lhs; rw [e]
  rw [Int.add_mul_ediv_right _ _ (by omega), Int.add_comm]


end Go.Proofs.Ytimbgjpjgbjnkaa

/- Contracts of priorartref03: Inverse, Div. -/
namespace Go.Proofs.Ytimbgjpjgbjnkaa
open Go.RowKit Go.Shelf







end Go.Proofs.Ytimbgjpjgbjnkaa

/- Contracts of priorartref03: Div, whole. -/
namespace Go.Proofs.Ytimbgjpjgbjnkaa
open Go.RowKit Go.Shelf

/-- What Div returns. -/
def divR (a b c d : Int) : Int × Int × Int := if Qm.bothI a b c d = 0 then Qm.newR (a * d) (b * c) else (0, 0, 1)

/-- A quotient, by its parts. -/
theorem div_parts {a b u v : Int} (hb : 1 ≤ b) (hv : 1 ≤ v) (h1 : Qm.g a b = 1) (h2 : Qm.g u v = 1) :
    Qm.ofR (a * u) (b * v) = (if a / Qm.g a v * (u / Qm.g u b) > 1099511627776 ∨ a / Qm.g a v * (u / Qm.g u b) < -1099511627776 ∨ b / Qm.g u b * (v / Qm.g a v) > 1048576 then (0, 0, 5) else (a / Qm.g a v * (u / Qm.g u b), b / Qm.g u b * (v / Qm.g a v), 0)) ∧
    Qm.ofR (a / Qm.g a v * (u / Qm.g u b)) (b / Qm.g u b * (v / Qm.g a v)) = Qm.ofR (a * u) (b * v) := by
  have p1 := (part_pos (M := b) (Qm.g_pos (a := u) (b := b) (by omega)) (Qm.g_right u b) (by omega) (Int.le_refl _)).1
  have p2 := (part_pos (M := v) (Qm.g_pos (a := a) (b := v) (by omega)) (Qm.g_right a v) (by omega) (Int.le_refl _)).1
  have p3 : 0 < b / Qm.g u b * (v / Qm.g a v) := Int.mul_pos (by omega) (by omega)
  have p4 : 0 < b * v := Int.mul_pos (by omega) (by omega)
  have e := Qm.ofR_same (n := a * u) (d := b * v) (n' := a / Qm.g a v * (u / Qm.g u b)) (d' := b / Qm.g u b * (v / Qm.g a v)) (by omega) (by omega) (Qm.cross_same (by omega) (by omega))
  refine ⟨?_, e.symm⟩
  rw [e]
  exact Qm.ofR_lowest (by omega) (Qm.g_cross h1 h2 (by omega) (by omega))


theorem ok_ne {n d : Int} (o : Qm.Ok n d) : d ≠ 0 := by have := o.1; omega


end Go.Proofs.Ytimbgjpjgbjnkaa

