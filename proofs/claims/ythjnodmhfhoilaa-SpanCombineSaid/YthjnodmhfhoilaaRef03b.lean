/- Contracts of priorartref03: Valid, Both, Less, Cmp, Neg, Inverse, Floor. -/
import Derived.Test.YthjnodmhfhoilaaRef03
namespace Go.Proofs.Ythjnodmhfhoilaa
open Go.RowKit Go.Shelf

set_option maxHeartbeats 1000000 in
set_option maxRecDepth 100000 in
theorem valid_any (n d : Int) (w : World) :
    Calls Try.prog 56 #[rv n d] w fun e w' => e = .returned (.int .i64 (Qm.validI n d)) ∧ Below w.heap.size w w' := by
  have HB0 := Lib.hid ((Below.refl w.heap.size w).alloc (Nat.le_refl _) (Obj.cells #[.int .i64 n, .int .i64 d] 25))
  by_cases hr : 1 ≤ d ∧ d ≤ 1048576 ∧ -1099511627776 ≤ n ∧ n ≤ 1099511627776
  · obtain ⟨h1, h2, h3, h4⟩ := hr
    have k1 := fun w => common_any n d w (by omega) (by omega)
    by_cases hg : Qm.g n d = 1
    · have HE : Hid (Qm.validI n d = 0) := by unfold Qm.validI; rw [if_pos ⟨h1, h2, h3, h4, hg⟩]; exact rfl
      rw [hg] at k1
      have K1 := Lib.hid k1
      clear k1
      generalize Qm.validI n d = R at *
      unfold rv
      go_enter Try.func56, Try.ntmps56
      go_wp2_with fail
      refine (K1.out _).mono ?_
      rintro e w1 ⟨rfl, hB⟩
      have B1 := Lib.hid hB
      have HB1 := Lib.hid (HB0.out.trans (hB.mono HB0.out.size))
      clear hB
      go_wp2
      all_goals
        go_ret
        exact ⟨ret_int HE.out.symm, HB1.out⟩
    · have HE : Hid (Qm.validI n d = 1) := by unfold Qm.validI; rw [if_neg (fun h => hg h.2.2.2.2)]; exact rfl
      generalize Qm.g n d = G at *
      have hg' : (G != 1) = true := by simpa using hg
      have K1 := Lib.hid k1
      clear k1
      generalize Qm.validI n d = R at *
      unfold rv
      go_enter Try.func56, Try.ntmps56
      go_wp2_with fail
      refine (K1.out _).mono ?_
      rintro e w1 ⟨rfl, hB⟩
      have B1 := Lib.hid hB
      have HB1 := Lib.hid (HB0.out.trans (hB.mono HB0.out.size))
      clear hB
      go_wp2
      all_goals
        go_ret
        exact ⟨ret_int HE.out.symm, HB1.out⟩
  · have HE : Hid (Qm.validI n d = 1) := by unfold Qm.validI; rw [if_neg (fun h => hr ⟨h.1, h.2.1, h.2.2.1, h.2.2.2.1⟩)]; exact rfl
    generalize Qm.validI n d = R at *
    have hr' : d < 1 ∨ 1048576 < d ∨ n < -1099511627776 ∨ 1099511627776 < n := by omega
    clear hr
    unfold rv
    rcases hr' with h | h | h | h
    all_goals
      go_enter Try.func56, Try.ntmps56
      go_wp2
      all_goals
        go_ret
        exact ⟨ret_int HE.out.symm, HB0.out⟩


set_option maxHeartbeats 1000000 in
set_option maxRecDepth 100000 in
theorem less_any (a b c d : Int) (w : World) (o : Qm.Ok a b) (o' : Qm.Ok c d) :
    Calls Try.prog 84 #[rv a b, rv c d] w fun e w' => e = .returned (.bool (decide (a * d < c * b))) ∧ Below w.heap.size w w' := by
  have HB0 := Lib.hid (((Below.refl w.heap.size w).alloc (Nat.le_refl _) (Obj.cells #[.int .i64 a, .int .i64 b] 25)).alloc (by simp) (Obj.cells #[.int .i64 c, .int .i64 d] 25))
  have h1 := Qm.mul_small o.2.2.1 o.2.2.2.1 o'.1 o'.2.1
  have h2 := Qm.mul_small o'.2.2.1 o'.2.2.2.1 o.1 o.2.1
  obtain ⟨h11, h12⟩ := h1
  obtain ⟨h21, h22⟩ := h2
  unfold rv
  clear o o'
  go_enter Try.func84, Try.ntmps84
  go_wp2
  go_ret
  exact ⟨rfl, HB0.out⟩

set_option maxHeartbeats 1000000 in
set_option maxRecDepth 100000 in
theorem floor_any (n d : Int) (w : World) (h1 : -4611686018427387904 ≤ n) (h2 : n ≤ 4611686018427387904) (h3 : 1 ≤ d) (h4 : d ≤ 9223372036854775807) :
    Calls Try.prog 97 #[.int .i64 n, .int .i64 d] w fun e w' => e = .returned (.int .i64 (n / d)) ∧ w = w' := by
  have hq := Qm.tdiv_floor n h3
  obtain ⟨⟨b1, b2⟩, b3, b4⟩ := Qm.tdiv_bounds (d := d) h1 h2
  generalize hR : n / d = R at *
  clear hR
  by_cases ht : n.tdiv d * d > n
  · rw [if_pos ht] at hq
    have HQ := Lib.hid hq
    clear hq
    go_enter Try.func97, Try.ntmps97
    go_wp2
    all_goals
      go_ret
      exact ⟨ret_int HQ.out.symm, rfl⟩
  · rw [if_neg ht] at hq
    have HQ := Lib.hid hq
    clear hq
    go_enter Try.func97, Try.ntmps97
    go_wp2
    all_goals
      go_ret
      exact ⟨ret_int HQ.out.symm, rfl⟩

/-- What Cmp returns. -/
def cmpR (a b c d : Int) : Int × Int := if Qm.bothI a b c d = 0 then (Qm.cmpI a b c d, 0) else (0, 1)

theorem ret_two {a b c d : Int} (h1 : a = c) (h2 : b = d) : Ending.returned (.tuple #[.int .i64 a, .int .i64 b]) = .returned (.tuple #[.int .i64 c, .int .i64 d]) := by rw [h1, h2]


end Go.Proofs.Ythjnodmhfhoilaa
