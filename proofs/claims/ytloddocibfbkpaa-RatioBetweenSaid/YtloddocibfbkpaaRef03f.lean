/- Contracts of priorartref03: Part. -/
import Derived.Test.YtloddocibfbkpaaRef03e
namespace Go.Proofs.Ytloddocibfbkpaa
open Go.RowKit Go.Shelf

/-- What Part returns. -/
def partR (k n d : Int) : Int × Int := if Qm.Ok n d ∧ 0 ≤ k ∧ k ≤ 1099511627776 ∧ 0 ≤ n then (if k * n / d > 1099511627776 then (0, 5) else (k * n / d, 0)) else (0, 1)

theorem part_split (k n : Int) {d : Int} (h : 0 < d) : k * n / d = k / d * n + k % d * n / d := by
  have e : k * n = k % d * n + k / d * n * d := by
    have := Int.mul_ediv_add_emod k d
    calc k * n = (d * (k / d) + k % d) * n := by rw [this]
      _ = k % d * n + k / d * n * d := by rw [Int.add_mul, Int.add_comm, Int.mul_comm d, Int.mul_assoc, Int.mul_comm d n, ← Int.mul_assoc]
  conv => lhs; rw [e]
  rw [Int.add_mul_ediv_right _ _ (by omega), Int.add_comm]

set_option maxHeartbeats 1000000 in
set_option maxRecDepth 100000 in
theorem part_any (k n d : Int) (w : World) :
    Calls Try.prog 18 #[.int .i64 k, rv n d] w fun e w' => e = .returned (.tuple #[.int .i64 (partR k n d).1, .int .i64 (partR k n d).2]) ∧ Below w.heap.size w w' := by
  have HB0 := Lib.hid ((Below.refl w.heap.size w).alloc (Nat.le_refl _) (Obj.cells #[.int .i64 n, .int .i64 d] 26))
  have k1 := fun w => valid_any n d w
  rcases Qm.validI_two n d with e1 | e1
  · have o := Qm.validI_ok.1 e1
    rw [e1] at k1
    by_cases hk : 0 ≤ k ∧ k ≤ 1099511627776 ∧ 0 ≤ n
    · obtain ⟨hk1, hk2, hn0⟩ := hk
      obtain ⟨od1, od2, on1, on2, og⟩ := id o
      have hE : partR k n d = if k * n / d > 1099511627776 then (0, 5) else (k * n / d, 0) := by unfold partR; rw [if_pos ⟨o, hk1, hk2, hn0⟩]
      rw [part_split k n (by omega)] at hE
      have hq0 : 0 ≤ k / d := Int.ediv_nonneg hk1 (by omega)
      have hq1 : k / d ≤ k := Int.ediv_le_self _ hk1
      have hr0 : 0 ≤ k % d := Int.emod_nonneg _ (by omega)
      have hr1 : k % d < d := Int.emod_lt_of_pos _ (by omega)
      have t1 : k.tdiv d = k / d := Int.tdiv_eq_ediv_of_nonneg hk1
      have t2 : k.tmod d = k % d := Int.tmod_eq_emod_of_nonneg hk1
      generalize k / d = q at *
      generalize k % d = r at *
      have hrn := Qm.mul_small on1 on2 (d := r + 1) (by omega) (by omega)
      have hrn0 : 0 ≤ r * n := Int.mul_nonneg hr0 hn0
      have hrn1 : r * n ≤ 1152921504606846976 := by
        have : r * n ≤ 1048576 * n := Int.mul_le_mul_of_nonneg_right (by omega) hn0
        omega
      have t3 : (r * n).tdiv d = r * n / d := Int.tdiv_eq_ediv_of_nonneg hrn0
      have hs0 : 0 ≤ r * n / d := Int.ediv_nonneg hrn0 (by omega)
      have hs1 : r * n / d ≤ r * n := Int.ediv_le_self _ hrn0
      generalize r * n / d = s at *
      have hqn0 : 0 ≤ q * n := Int.mul_nonneg hq0 hn0
      clear hrn o og
      have K1 := Lib.hid k1
      clear k1 e1
      by_cases hq : 0 < q
      · have hdiv : 1099511627776 / q < n ↔ 1099511627776 < n * q := Int.ediv_lt_iff_lt_mul hq
        rw [Int.mul_comm n q] at hdiv
        have hb0 : 0 ≤ 1099511627776 / q := Int.ediv_nonneg (by omega) (by omega)
        have hb1 : 1099511627776 / q ≤ 1099511627776 := Int.ediv_le_self _ (by omega)
        by_cases hx : 1099511627776 < q * n
        · have ht := hdiv.2 hx
          rw [if_pos (by omega)] at hE
          have HE := Lib.hid hE
          clear hE hdiv
          generalize partR k n d = R at *
          unfold rv at *
          go_enter Try.func18, Try.ntmps18
          go_wp2_with fail
          refine (K1.out _).mono ?_
          rintro e w1 ⟨rfl, hB⟩
          have B1 := Lib.hid hB
          have HB1 := Lib.hid (HB0.out.trans (hB.mono HB0.out.size))
          clear hB
          obtain ⟨hc0, hc1, hf0, hf1, hz⟩ := box_r B1.out
          go_wp2
          go_quiet (fail)
          go_wp2
          all_goals
            go_ret2
            exact ⟨by rw [HE.out]; exact rfl, below_drewN HB1.out _⟩
        · have ht : n ≤ 1099511627776 / q := by omega
          have hx2 : q * n ≤ 1099511627776 := by omega
          clear hdiv
          by_cases hy : q * n + s > 1099511627776
          · rw [if_pos hy] at hE
            have HE := Lib.hid hE
            clear hE
            generalize partR k n d = R at *
            unfold rv at *
            go_enter Try.func18, Try.ntmps18
            go_wp2_with fail
            refine (K1.out _).mono ?_
            rintro e w1 ⟨rfl, hB⟩
            have B1 := Lib.hid hB
            have HB1 := Lib.hid (HB0.out.trans (hB.mono HB0.out.size))
            clear hB
            obtain ⟨hc0, hc1, hf0, hf1, hz⟩ := box_r B1.out
            go_wp2
            go_quiet (fail)
            go_wp2
            go_quiet (fail)
            go_wp2
            all_goals
              go_ret2
              exact ⟨by rw [HE.out]; exact rfl, below_drewN HB1.out _⟩
          · rw [if_neg hy] at hE
            have HE := Lib.hid hE
            clear hE
            generalize partR k n d = R at *
            unfold rv at *
            go_enter Try.func18, Try.ntmps18
            go_wp2_with fail
            refine (K1.out _).mono ?_
            rintro e w1 ⟨rfl, hB⟩
            have B1 := Lib.hid hB
            have HB1 := Lib.hid (HB0.out.trans (hB.mono HB0.out.size))
            clear hB
            obtain ⟨hc0, hc1, hf0, hf1, hz⟩ := box_r B1.out
            go_wp2
            go_quiet (fail)
            go_wp2
            go_quiet (fail)
            go_wp2
            all_goals
              go_ret2
              exact ⟨by rw [HE.out]; exact rfl, below_drewN HB1.out _⟩
      · have hq2 : q = 0 := by omega
        subst hq2
        by_cases hy : s > 1099511627776
        · rw [if_pos (by omega)] at hE
          have HE := Lib.hid hE
          clear hE
          generalize partR k n d = R at *
          unfold rv at *
          go_enter Try.func18, Try.ntmps18
          go_wp2_with fail
          refine (K1.out _).mono ?_
          rintro e w1 ⟨rfl, hB⟩
          have B1 := Lib.hid hB
          have HB1 := Lib.hid (HB0.out.trans (hB.mono HB0.out.size))
          clear hB
          obtain ⟨hc0, hc1, hf0, hf1, hz⟩ := box_r B1.out
          go_wp2
          go_quiet (fail)
          go_wp2
          go_quiet (fail)
          go_wp2
          all_goals
            go_ret2
            exact ⟨by rw [HE.out]; exact rfl, below_drewN HB1.out _⟩
        · rw [if_neg (by omega), Int.zero_mul, Int.zero_add] at hE
          have HE := Lib.hid hE
          clear hE
          generalize partR k n d = R at *
          unfold rv at *
          go_enter Try.func18, Try.ntmps18
          go_wp2_with fail
          refine (K1.out _).mono ?_
          rintro e w1 ⟨rfl, hB⟩
          have B1 := Lib.hid hB
          have HB1 := Lib.hid (HB0.out.trans (hB.mono HB0.out.size))
          clear hB
          obtain ⟨hc0, hc1, hf0, hf1, hz⟩ := box_r B1.out
          go_wp2
          go_quiet (fail)
          go_wp2
          go_quiet (fail)
          go_wp2
          all_goals
            go_ret2
            exact ⟨by rw [HE.out]; exact rfl, below_drewN HB1.out _⟩
    · have hE : partR k n d = (0, 1) := by unfold partR; rw [if_neg (fun h => hk h.2)]
      have HE := Lib.hid hE
      have K1 := Lib.hid k1
      clear k1 e1 hE o
      generalize partR k n d = R at *
      have hk' : k < 0 ∨ 1099511627776 < k ∨ n < 0 := by omega
      clear hk
      unfold rv at *
      rcases hk' with h | h | h
      all_goals
        go_enter Try.func18, Try.ntmps18
        go_wp2_with fail
        refine (K1.out _).mono ?_
        rintro e w1 ⟨rfl, hB⟩
        have B1 := Lib.hid hB
        have HB1 := Lib.hid (HB0.out.trans (hB.mono HB0.out.size))
        clear hB
        obtain ⟨hc0, hc1, hf0, hf1, hz⟩ := box_r B1.out
        go_wp2
        all_goals
          go_ret2
          exact ⟨by rw [HE.out]; exact rfl, HB1.out⟩
  · have hE : partR k n d = (0, 1) := by unfold partR; rw [if_neg (fun h => by rw [Qm.validI_ok.2 h.1] at e1; exact absurd e1 (by decide))]
    rw [e1] at k1
    have HE := Lib.hid hE
    have K1 := Lib.hid k1
    clear k1 e1 hE
    generalize partR k n d = R at *
    unfold rv at *
    go_enter Try.func18, Try.ntmps18
    go_wp2_with fail
    refine (K1.out _).mono ?_
    rintro e w1 ⟨rfl, hB⟩
    have B1 := Lib.hid hB
    have HB1 := Lib.hid (HB0.out.trans (hB.mono HB0.out.size))
    clear hB
    go_wp2
    go_ret2
    exact ⟨by rw [HE.out]; exact rfl, HB1.out⟩

end Go.Proofs.Ytloddocibfbkpaa
