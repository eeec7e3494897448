/- Contracts of priorartref03: Valid, Both, Less, Cmp, Neg, Inverse, Floor. -/
import Derived.Test.YtloddocibfbkpaaRef03
namespace Go.Proofs.Ytloddocibfbkpaa
open Go.RowKit Go.Shelf

set_option maxHeartbeats 1000000 in
set_option maxRecDepth 100000 in
theorem valid_any (n d : Int) (w : World) :
    Calls Try.prog 12 #[rv n d] w fun e w' => e = .returned (.int .i64 (Qm.validI n d)) ∧ Below w.heap.size w w' := by
  have HB0 := Lib.hid ((Below.refl w.heap.size w).alloc (Nat.le_refl _) (Obj.cells #[.int .i64 n, .int .i64 d] 26))
  by_cases hr : 1 ≤ d ∧ d ≤ 1048576 ∧ -1099511627776 ≤ n ∧ n ≤ 1099511627776
  · obtain ⟨h1, h2, h3, h4⟩ := hr
    have k1 := fun w => common_any n d w (by omega) (by omega)
    by_cases hg : Qm.g n d = 1
    · have HE : Hid (Qm.validI n d = 0) := by unfold Qm.validI; rw [if_pos ⟨h1, h2, h3, h4, hg⟩]; exact rfl
      rw [hg] at k1
      have K1 := Lib.hid k1
      clear k1
      generalize Qm.validI n d = R at *
      unfold rv
      go_enter Try.func12, Try.ntmps12
      go_wp2_with fail
      refine (K1.out _).mono ?_
      rintro e w1 ⟨rfl, hB⟩
      have B1 := Lib.hid hB
      have HB1 := Lib.hid (HB0.out.trans (hB.mono HB0.out.size))
      clear hB
      go_wp2
      all_goals
        go_ret
        exact ⟨ret_int HE.out.symm, HB1.out⟩
    · have HE : Hid (Qm.validI n d = 1) := by unfold Qm.validI; rw [if_neg (fun h => hg h.2.2.2.2)]; exact rfl
      generalize Qm.g n d = G at *
      have hg' : (G != 1) = true := by simpa using hg
      have K1 := Lib.hid k1
      clear k1
      generalize Qm.validI n d = R at *
      unfold rv
      go_enter Try.func12, Try.ntmps12
      go_wp2_with fail
      refine (K1.out _).mono ?_
      rintro e w1 ⟨rfl, hB⟩
      have B1 := Lib.hid hB
      have HB1 := Lib.hid (HB0.out.trans (hB.mono HB0.out.size))
      clear hB
      go_wp2
      all_goals
        go_ret
        exact ⟨ret_int HE.out.symm, HB1.out⟩
  · have HE : Hid (Qm.validI n d = 1) := by unfold Qm.validI; rw [if_neg (fun h => hr ⟨h.1, h.2.1, h.2.2.1, h.2.2.2.1⟩)]; exact rfl
    generalize Qm.validI n d = R at *
    have hr' : d < 1 ∨ 1048576 < d ∨ n < -1099511627776 ∨ 1099511627776 < n := by omega
    clear hr
    unfold rv
    rcases hr' with h | h | h | h
    all_goals
      go_enter Try.func12, Try.ntmps12
      go_wp2
      all_goals
        go_ret
        exact ⟨ret_int HE.out.symm, HB0.out⟩

set_option maxHeartbeats 1000000 in
set_option maxRecDepth 100000 in
theorem both_any (a b c d : Int) (w : World) :
    Calls Try.prog 29 #[rv a b, rv c d] w fun e w' => e = .returned (.int .i64 (Qm.bothI a b c d)) ∧ Below w.heap.size w w' := by
  have HB0 := Lib.hid (((Below.refl w.heap.size w).alloc (Nat.le_refl _) (Obj.cells #[.int .i64 a, .int .i64 b] 26)).alloc (by simp) (Obj.cells #[.int .i64 c, .int .i64 d] 26))
  have HC0 := Lib.hid (Below.refl (two w (.int .i64 a) (.int .i64 b) (.int .i64 c) (.int .i64 d) 26).heap.size (two w (.int .i64 a) (.int .i64 b) (.int .i64 c) (.int .i64 d) 26))
  have k1 := fun w => valid_any a b w
  have k2 := fun w => valid_any c d w
  rcases Qm.validI_two a b with e1 | e1
  · rcases Qm.validI_two c d with e2 | e2
    · have HE : Hid (Qm.bothI a b c d = 0) := by unfold Qm.bothI; rw [if_pos ⟨e1, e2⟩]; exact rfl
      rw [e1] at k1
      rw [e2] at k2
      have K1 := Lib.hid k1
      have K2 := Lib.hid k2
      clear k1 k2 e1 e2
      generalize Qm.bothI a b c d = R at *
      unfold rv at *
      go_enter Try.func29, Try.ntmps29
      go_wp2_with fail
      refine (K1.out _).mono ?_
      rintro e w1 ⟨rfl, hB⟩
      have B1 := Lib.hid hB
      have HB1 := Lib.hid (HB0.out.trans (hB.mono HB0.out.size))
      have HC1 := Lib.hid (HC0.out.trans (hB.mono HC0.out.size))
      clear hB
      obtain ⟨q1_0, q1_1, q1_2, q1_3, q1_4⟩ := box_2 HC1.out
      go_wp2_with fail
      refine (K2.out _).mono ?_
      rintro e w2 ⟨rfl, hB⟩
      have B2 := Lib.hid hB
      have HB2 := Lib.hid (HB1.out.trans (hB.mono HB1.out.size))
      have HC2 := Lib.hid (HC1.out.trans (hB.mono HC1.out.size))
      clear hB
      obtain ⟨q2_0, q2_1, q2_2, q2_3, q2_4⟩ := box_2 HC2.out
      go_wp2
      go_ret
      exact ⟨ret_int HE.out.symm, HB2.out⟩
    · have HE : Hid (Qm.bothI a b c d = 1) := by unfold Qm.bothI; rw [if_neg (fun h => by rw [e2] at h; exact absurd h.2 (by decide))]; exact rfl
      rw [e1] at k1
      rw [e2] at k2
      have K1 := Lib.hid k1
      have K2 := Lib.hid k2
      clear k1 k2 e1 e2
      generalize Qm.bothI a b c d = R at *
      unfold rv at *
      go_enter Try.func29, Try.ntmps29
      go_wp2_with fail
      refine (K1.out _).mono ?_
      rintro e w1 ⟨rfl, hB⟩
      have B1 := Lib.hid hB
      have HB1 := Lib.hid (HB0.out.trans (hB.mono HB0.out.size))
      have HC1 := Lib.hid (HC0.out.trans (hB.mono HC0.out.size))
      clear hB
      obtain ⟨q1_0, q1_1, q1_2, q1_3, q1_4⟩ := box_2 HC1.out
      go_wp2_with fail
      refine (K2.out _).mono ?_
      rintro e w2 ⟨rfl, hB⟩
      have B2 := Lib.hid hB
      have HB2 := Lib.hid (HB1.out.trans (hB.mono HB1.out.size))
      have HC2 := Lib.hid (HC1.out.trans (hB.mono HC1.out.size))
      clear hB
      obtain ⟨q2_0, q2_1, q2_2, q2_3, q2_4⟩ := box_2 HC2.out
      go_wp2
      go_ret
      exact ⟨ret_int HE.out.symm, HB2.out⟩
  · have HE : Hid (Qm.bothI a b c d = 1) := by unfold Qm.bothI; rw [if_neg (fun h => by rw [e1] at h; exact absurd h.1 (by decide))]; exact rfl
    rw [e1] at k1
    have K1 := Lib.hid k1
    clear k1 k2 e1
    generalize Qm.bothI a b c d = R at *
    unfold rv at *
    go_enter Try.func29, Try.ntmps29
    go_wp2_with fail
    refine (K1.out _).mono ?_
    rintro e w1 ⟨rfl, hB⟩
    have B1 := Lib.hid hB
    have HB1 := Lib.hid (HB0.out.trans (hB.mono HB0.out.size))
    have HC1 := Lib.hid (HC0.out.trans (hB.mono HC0.out.size))
    clear hB
    obtain ⟨q1_0, q1_1, q1_2, q1_3, q1_4⟩ := box_2 HC1.out
    go_wp2
    go_ret
    exact ⟨ret_int HE.out.symm, HB1.out⟩

set_option maxHeartbeats 1000000 in
set_option maxRecDepth 100000 in
theorem less_any (a b c d : Int) (w : World) (o : Qm.Ok a b) (o' : Qm.Ok c d) :
    Calls Try.prog 33 #[rv a b, rv c d] w fun e w' => e = .returned (.bool (decide (a * d < c * b))) ∧ Below w.heap.size w w' := by
  have HB0 := Lib.hid (((Below.refl w.heap.size w).alloc (Nat.le_refl _) (Obj.cells #[.int .i64 a, .int .i64 b] 26)).alloc (by simp) (Obj.cells #[.int .i64 c, .int .i64 d] 26))
  have h1 := Qm.mul_small o.2.2.1 o.2.2.2.1 o'.1 o'.2.1
  have h2 := Qm.mul_small o'.2.2.1 o'.2.2.2.1 o.1 o.2.1
  obtain ⟨h11, h12⟩ := h1
  obtain ⟨h21, h22⟩ := h2
  unfold rv
  clear o o'
  go_enter Try.func33, Try.ntmps33
  go_wp2
  go_ret
  exact ⟨rfl, HB0.out⟩

set_option maxHeartbeats 1000000 in
set_option maxRecDepth 100000 in
theorem floor_any (n d : Int) (w : World) (h1 : -4611686018427387904 ≤ n) (h2 : n ≤ 4611686018427387904) (h3 : 1 ≤ d) (h4 : d ≤ 9223372036854775807) :
    Calls Try.prog 16 #[.int .i64 n, .int .i64 d] w fun e w' => e = .returned (.int .i64 (n / d)) ∧ w = w' := by
  have hq := Qm.tdiv_floor n h3
  obtain ⟨⟨b1, b2⟩, b3, b4⟩ := Qm.tdiv_bounds (d := d) h1 h2
  generalize hR : n / d = R at *
  clear hR
  by_cases ht : n.tdiv d * d > n
  · rw [if_pos ht] at hq
    have HQ := Lib.hid hq
    clear hq
    go_enter Try.func16, Try.ntmps16
    go_wp2
    all_goals
      go_ret
      exact ⟨ret_int HQ.out.symm, rfl⟩
  · rw [if_neg ht] at hq
    have HQ := Lib.hid hq
    clear hq
    go_enter Try.func16, Try.ntmps16
    go_wp2
    all_goals
      go_ret
      exact ⟨ret_int HQ.out.symm, rfl⟩

/-- What Cmp returns. -/
def cmpR (a b c d : Int) : Int × Int := if Qm.bothI a b c d = 0 then (Qm.cmpI a b c d, 0) else (0, 1)

theorem ret_two {a b c d : Int} (h1 : a = c) (h2 : b = d) : Ending.returned (.tuple #[.int .i64 a, .int .i64 b]) = .returned (.tuple #[.int .i64 c, .int .i64 d]) := by rw [h1, h2]

set_option maxHeartbeats 1000000 in
set_option maxRecDepth 100000 in
theorem cmp_any (a b c d : Int) (w : World) :
    Calls Try.prog 21 #[rv a b, rv c d] w fun e w' => e = .returned (.tuple #[.int .i64 (cmpR a b c d).1, .int .i64 (cmpR a b c d).2]) ∧ Below w.heap.size w w' := by
  have HB0 := Lib.hid (((Below.refl w.heap.size w).alloc (Nat.le_refl _) (Obj.cells #[.int .i64 a, .int .i64 b] 26)).alloc (by simp) (Obj.cells #[.int .i64 c, .int .i64 d] 26))
  have HC0 := Lib.hid (Below.refl (two w (.int .i64 a) (.int .i64 b) (.int .i64 c) (.int .i64 d) 26).heap.size (two w (.int .i64 a) (.int .i64 b) (.int .i64 c) (.int .i64 d) 26))
  have k1 := fun w => both_any a b c d w
  rcases Qm.bothI_two a b c d with e1 | e1
  · obtain ⟨o, o'⟩ := Qm.bothI_ok.1 e1
    have k2 := fun w => less_any a b c d w o o'
    have k3 := fun w => less_any c d a b w o' o
    have hE : cmpR a b c d = (Qm.cmpI a b c d, 0) := by unfold cmpR; rw [if_pos e1]
    unfold Qm.cmpI at hE
    rw [e1] at k1
    by_cases t1 : a * d < c * b
    · rw [decide_eq_true t1] at k2
      rw [if_pos t1] at hE
      have HE := Lib.hid hE
      have K1 := Lib.hid k1
      have K2 := Lib.hid k2
      clear k1 k2 k3 e1 hE o o' t1
      generalize cmpR a b c d = R at *
      unfold rv at *
      go_enter Try.func21, Try.ntmps21
      go_wp2_with fail
      refine (K1.out _).mono ?_
      rintro e w1 ⟨rfl, hB⟩
      have B1 := Lib.hid hB
      have HB1 := Lib.hid (HB0.out.trans (hB.mono HB0.out.size))
      have HC1 := Lib.hid (HC0.out.trans (hB.mono HC0.out.size))
      clear hB
      obtain ⟨q1_0, q1_1, q1_2, q1_3, q1_4⟩ := box_2 HC1.out
      go_wp2_with fail
      refine (K2.out _).mono ?_
      rintro e w2 ⟨rfl, hB⟩
      have B2 := Lib.hid hB
      have HB2 := Lib.hid (HB1.out.trans (hB.mono HB1.out.size))
      have HC2 := Lib.hid (HC1.out.trans (hB.mono HC1.out.size))
      clear hB
      obtain ⟨q2_0, q2_1, q2_2, q2_3, q2_4⟩ := box_2 HC2.out
      go_wp2
      go_ret2
      exact ⟨by rw [HE.out]; exact rfl, HB2.out⟩
    · rw [decide_eq_false t1] at k2
      rw [if_neg t1] at hE
      by_cases t2 : c * b < a * d
      · rw [decide_eq_true t2] at k3
        rw [if_pos t2] at hE
        have HE := Lib.hid hE
        have K1 := Lib.hid k1
        have K2 := Lib.hid k2
        have K3 := Lib.hid k3
        clear k1 k2 k3 e1 hE o o' t1 t2
        generalize cmpR a b c d = R at *
        unfold rv at *
        go_enter Try.func21, Try.ntmps21
        go_wp2_with fail
        refine (K1.out _).mono ?_
        rintro e w1 ⟨rfl, hB⟩
        have B1 := Lib.hid hB
        have HB1 := Lib.hid (HB0.out.trans (hB.mono HB0.out.size))
        have HC1 := Lib.hid (HC0.out.trans (hB.mono HC0.out.size))
        clear hB
        obtain ⟨q1_0, q1_1, q1_2, q1_3, q1_4⟩ := box_2 HC1.out
        go_wp2_with fail
        refine (K2.out _).mono ?_
        rintro e w2 ⟨rfl, hB⟩
        have B2 := Lib.hid hB
        have HB2 := Lib.hid (HB1.out.trans (hB.mono HB1.out.size))
        have HC2 := Lib.hid (HC1.out.trans (hB.mono HC1.out.size))
        clear hB
        obtain ⟨q2_0, q2_1, q2_2, q2_3, q2_4⟩ := box_2 HC2.out
        go_wp2_with fail
        refine (K3.out _).mono ?_
        rintro e w3 ⟨rfl, hB⟩
        have B3 := Lib.hid hB
        have HB3 := Lib.hid (HB2.out.trans (hB.mono HB2.out.size))
        have HC3 := Lib.hid (HC2.out.trans (hB.mono HC2.out.size))
        clear hB
        obtain ⟨q3_0, q3_1, q3_2, q3_3, q3_4⟩ := box_2 HC3.out
        go_wp2
        go_ret2
        exact ⟨by rw [HE.out]; exact rfl, HB3.out⟩
      · rw [decide_eq_false t2] at k3
        rw [if_neg t2] at hE
        have HE := Lib.hid hE
        have K1 := Lib.hid k1
        have K2 := Lib.hid k2
        have K3 := Lib.hid k3
        clear k1 k2 k3 e1 hE o o' t1 t2
        generalize cmpR a b c d = R at *
        unfold rv at *
        go_enter Try.func21, Try.ntmps21
        go_wp2_with fail
        refine (K1.out _).mono ?_
        rintro e w1 ⟨rfl, hB⟩
        have B1 := Lib.hid hB
        have HB1 := Lib.hid (HB0.out.trans (hB.mono HB0.out.size))
        have HC1 := Lib.hid (HC0.out.trans (hB.mono HC0.out.size))
        clear hB
        obtain ⟨q1_0, q1_1, q1_2, q1_3, q1_4⟩ := box_2 HC1.out
        go_wp2_with fail
        refine (K2.out _).mono ?_
        rintro e w2 ⟨rfl, hB⟩
        have B2 := Lib.hid hB
        have HB2 := Lib.hid (HB1.out.trans (hB.mono HB1.out.size))
        have HC2 := Lib.hid (HC1.out.trans (hB.mono HC1.out.size))
        clear hB
        obtain ⟨q2_0, q2_1, q2_2, q2_3, q2_4⟩ := box_2 HC2.out
        go_wp2_with fail
        refine (K3.out _).mono ?_
        rintro e w3 ⟨rfl, hB⟩
        have B3 := Lib.hid hB
        have HB3 := Lib.hid (HB2.out.trans (hB.mono HB2.out.size))
        have HC3 := Lib.hid (HC2.out.trans (hB.mono HC2.out.size))
        clear hB
        obtain ⟨q3_0, q3_1, q3_2, q3_3, q3_4⟩ := box_2 HC3.out
        go_wp2
        go_ret2
        exact ⟨by rw [HE.out]; exact rfl, HB3.out⟩
  · have hE : cmpR a b c d = (0, 1) := by unfold cmpR; rw [if_neg (by rw [e1]; decide)]
    rw [e1] at k1
    have HE := Lib.hid hE
    have K1 := Lib.hid k1
    clear k1 e1 hE
    generalize cmpR a b c d = R at *
    unfold rv at *
    go_enter Try.func21, Try.ntmps21
    go_wp2_with fail
    refine (K1.out _).mono ?_
    rintro e w1 ⟨rfl, hB⟩
    have B1 := Lib.hid hB
    have HB1 := Lib.hid (HB0.out.trans (hB.mono HB0.out.size))
    have HC1 := Lib.hid (HC0.out.trans (hB.mono HC0.out.size))
    clear hB
    obtain ⟨q1_0, q1_1, q1_2, q1_3, q1_4⟩ := box_2 HC1.out
    go_wp2
    go_ret2
    exact ⟨by rw [HE.out]; exact rfl, HB1.out⟩

end Go.Proofs.Ytloddocibfbkpaa
