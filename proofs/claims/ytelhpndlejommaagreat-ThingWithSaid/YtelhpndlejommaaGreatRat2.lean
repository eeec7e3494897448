/- Contracts of package ratio: New. -/
import Derived.Test.YtelhpndlejommaaGreatRat
namespace Go.Proofs.YtelhpndlejommaaGreat
open Go.RowKit Go.Shelf

set_option maxHeartbeats 1000000 in
set_option maxRecDepth 100000 in
theorem rnew_any (n d : Int) (w : World) (hn : -9223372036854775808 ≤ n ∧ n ≤ 9223372036854775807) (hd : -9223372036854775808 ≤ d ∧ d ≤ 9223372036854775807) :
    Calls Tryz.prog 71 #[.int .i64 n, .int .i64 d] w fun e w' => e = .returned (rve (Qm.newR n d)) ∧ Below w.heap.size w w' := by
  obtain ⟨hn1, hn2⟩ := hn
  obtain ⟨hd1, hd2⟩ := hd
  have HB0 := Lib.hid ((Below.refl w.heap.size w).alloc (Nat.le_refl _) (Obj.cells #[.int .i64 0, .int .i64 0] 44))
  by_cases h0 : d = 0
  · have hE : Qm.newR n d = (0, 0, 1) := by unfold Qm.newR; rw [if_pos h0]
    have HE := Lib.hid hE
    clear hE
    generalize Qm.newR n d = R at *
    subst h0
    go_enter Tryz.func71, Tryz.ntmps71
    go_wp2
    exact bodyPost_ret (v := rve (0, 0, 1)) (by simp [results, Tryz.results71, go_sem, rve]) rfl ⟨by rw [HE.out], HB0.out⟩
  · have hE : Qm.newR n d = Qm.ofR n d := by unfold Qm.newR; rw [if_neg h0]
    rw [hE, ofR_abs h0]
    clear hE
    have k1 := fun w => size_any n w hn1 hn2
    have k2 := fun w => size_any d w hd1 hd2
    have k3 := fun w => divisor_any (absI n) (absI d) w ⟨absI_nonneg n, by have := absI_le hn1 hn2; omega⟩ ⟨absI_nonneg d, by have := absI_le hd1 hd2; omega⟩
    rw [absI_g] at k3
    have hG := Qm.g_pos (a := n) h0
    have a1 := absI_nonneg n
    have a2 := absI_le hn1 hn2
    have b1 := absI_pos h0
    have b2 := absI_le hd1 hd2
    have x1 : 0 ≤ absI n / Qm.g n d := Int.ediv_nonneg a1 (by omega)
    have y1 : 0 ≤ absI d / Qm.g n d := Int.ediv_nonneg (by omega) (by omega)
    have x2 : absI n / Qm.g n d ≤ absI n := Int.ediv_le_self _ a1
    have y2 : absI d / Qm.g n d ≤ absI d := Int.ediv_le_self _ (by omega)
    have hd0 : (d == 0) = false := by simpa using h0
    generalize Qm.g n d = G at *
    generalize absI n = A at *
    generalize absI d = B at *
    generalize hx : A / G = x at *
    generalize hy : B / G = y at *
    have K1 := Lib.hid k1
    have K2 := Lib.hid k2
    have K3 := Lib.hid k3
    clear k1 k2 k3
    by_cases t1 : x > 1099511627776 ∨ y > 1048576
    · rw [if_pos t1]
      go_enter Tryz.func71, Tryz.ntmps71
      go_wp2_with fail
      refine (K1.out _).mono ?_
      rintro e w' ⟨rfl, rfl⟩
      go_wp2_with fail
      refine (K2.out _).mono ?_
      rintro e w' ⟨rfl, rfl⟩
      go_wp2_with fail
      refine (K3.out _).mono ?_
      rintro e w1 ⟨rfl, hB⟩
      have B1 := Lib.hid hB
      have HB1 := Lib.hid (HB0.out.trans (hB.mono HB0.out.size))
      clear hB
      obtain ⟨hc0, hc1, hf0, hf1, hz⟩ := box_r B1.out
      go_wp2
      go_quiet (fail)
      go_wp2
      all_goals exact bodyPost_ret (v := rve (0, 0, 5)) (by simp [results, Tryz.results71, go_sem, hc0, hc1, rve]) rfl ⟨rfl, (below_drewN HB1.out _).setCell (p := ⟨w.heap.size, 0, none⟩) (Nat.le_refl _) _ |>.setCell (p := ⟨w.heap.size, 1, none⟩) (Nat.le_refl _) _⟩
    · rw [if_neg t1]
      have t2 : x ≤ 1099511627776 := by omega
      have t3 : y ≤ 1048576 := by omega
      clear t1
      by_cases s1 : n < 0 <;> by_cases s2 : d < 0
      · have HE := Lib.hid (show (if decide (n < 0) != decide (d < 0) then -x else x, y, (0 : Int)) = (x, y, 0) by rw [decide_eq_true s1, decide_eq_true s2]; rfl)
        generalize (if decide (n < 0) != decide (d < 0) then -x else x, y, (0 : Int)) = R at *
        have hb1 : decide (n < 0) = true := decide_eq_true s1
        have hb2 : decide (d < 0) = true := decide_eq_true s2
        clear s1 s2
        go_enter Tryz.func71, Tryz.ntmps71
        go_wp2_with fail
        refine (K1.out _).mono ?_
        rintro e w' ⟨rfl, rfl⟩
        go_wp2_with fail
        refine (K2.out _).mono ?_
        rintro e w' ⟨rfl, rfl⟩
        go_wp2_with fail
        refine (K3.out _).mono ?_
        rintro e w1 ⟨rfl, hB⟩
        have B1 := Lib.hid hB
        have HB1 := Lib.hid (HB0.out.trans (hB.mono HB0.out.size))
        clear hB
        obtain ⟨hc0, hc1, hf0, hf1, hz⟩ := box_r B1.out
        go_wp2
        go_quiet (fail)
        replace HB1 := Lib.hid (below_drewN HB1.out nq)
        replace hc0 : (w1.drewN nq).cell? ⟨w.heap.size, 0, none⟩ = some (.int .i64 0) := hc0
        replace hc1 : (w1.drewN nq).cell? ⟨w.heap.size, 1, none⟩ = some (.int .i64 0) := hc1
        replace hf0 : (w1.drewN nq).frozen? ⟨w.heap.size, 0, none⟩ = false := hf0
        replace hf1 : (w1.drewN nq).frozen? ⟨w.heap.size, 1, none⟩ = false := hf1
        replace hz : w.heap.size < (w1.drewN nq).heap.size := hz
        clear B1
        generalize w1.drewN nq = w2 at *
        go_wp2
        all_goals
          exact bodyPost_ret (v := rve (x, y, 0)) (by simp [results, Tryz.results71, go_sem, hc0, hc1, hz, rve]) rfl ⟨by rw [HE.out], ((HB1.out.setCell (p := ⟨w.heap.size, 0, none⟩) (Nat.le_refl _) _).setCell (p := ⟨w.heap.size, 1, none⟩) (Nat.le_refl _) _).alloc (by simp; omega) _⟩
      · have HE := Lib.hid (show (if decide (n < 0) != decide (d < 0) then -x else x, y, (0 : Int)) = (-x, y, 0) by rw [decide_eq_true s1, decide_eq_false s2]; rfl)
        generalize (if decide (n < 0) != decide (d < 0) then -x else x, y, (0 : Int)) = R at *
        have k4 := fun w => negative_raw x y w
        rw [negI_of (by omega) (by omega)] at k4
        have K4 := Lib.hid k4
        clear k4
        unfold rv at K4
        have hb1 : decide (n < 0) = true := decide_eq_true s1
        have hb2 : decide (d < 0) = false := decide_eq_false s2
        clear s1 s2
        go_enter Tryz.func71, Tryz.ntmps71
        go_wp2_with fail
        refine (K1.out _).mono ?_
        rintro e w' ⟨rfl, rfl⟩
        go_wp2_with fail
        refine (K2.out _).mono ?_
        rintro e w' ⟨rfl, rfl⟩
        go_wp2_with fail
        refine (K3.out _).mono ?_
        rintro e w1 ⟨rfl, hB⟩
        have B1 := Lib.hid hB
        have HB1 := Lib.hid (HB0.out.trans (hB.mono HB0.out.size))
        clear hB
        obtain ⟨hc0, hc1, hf0, hf1, hz⟩ := box_r B1.out
        go_wp2
        go_quiet (fail)
        replace HB1 := Lib.hid (below_drewN HB1.out nq)
        replace hc0 : (w1.drewN nq).cell? ⟨w.heap.size, 0, none⟩ = some (.int .i64 0) := hc0
        replace hc1 : (w1.drewN nq).cell? ⟨w.heap.size, 1, none⟩ = some (.int .i64 0) := hc1
        replace hf0 : (w1.drewN nq).frozen? ⟨w.heap.size, 0, none⟩ = false := hf0
        replace hf1 : (w1.drewN nq).frozen? ⟨w.heap.size, 1, none⟩ = false := hf1
        replace hz : w.heap.size < (w1.drewN nq).heap.size := hz
        clear B1
        generalize w1.drewN nq = w2 at *
        go_wp2_with fail
        all_goals
          refine (K4.out _).mono ?_
          rintro e w3 ⟨rfl, hB⟩
          have r0 := (hB.cell (p := ⟨w.heap.size, 0, none⟩) (by simp; omega)).trans (cell_alloc_l _ hc0)
          have r1 := (hB.cell (p := ⟨w.heap.size, 1, none⟩) (by simp; omega)).trans (cell_alloc_l _ hc1)
          have r2 := (hB.frozen (p := ⟨w.heap.size, 0, none⟩) (by simp; omega)).trans (frozen_alloc_l _ hc0 hf0)
          have r3 := (hB.frozen (p := ⟨w.heap.size, 1, none⟩) (by simp; omega)).trans (frozen_alloc_l _ hc1 hf1)
          obtain ⟨hd0, hd1, he0, he1, hz2⟩ := box_r hB
          have HB2 := Lib.hid ((HB1.out.alloc (by omega) (Obj.cells #[.int .i64 x, .int .i64 y] 44)).trans (hB.mono (by simp; omega)))
          clear hB
          go_wp2
          all_goals
            exact bodyPost_ret (v := rve (-x, y, 0)) (by simp [results, Tryz.results71, go_sem, r0, r1, rve]) rfl ⟨by rw [HE.out], (((HB2.out.setCell (p := ⟨w2.heap.size, 0, none⟩) (by simp; omega) _).setCell (p := ⟨w2.heap.size, 1, none⟩) (by simp; omega) _).setCell (p := ⟨w.heap.size, 0, none⟩) (Nat.le_refl _) _).setCell (p := ⟨w.heap.size, 1, none⟩) (Nat.le_refl _) _⟩
      · have HE := Lib.hid (show (if decide (n < 0) != decide (d < 0) then -x else x, y, (0 : Int)) = (-x, y, 0) by rw [decide_eq_false s1, decide_eq_true s2]; rfl)
        generalize (if decide (n < 0) != decide (d < 0) then -x else x, y, (0 : Int)) = R at *
        have k4 := fun w => negative_raw x y w
        rw [negI_of (by omega) (by omega)] at k4
        have K4 := Lib.hid k4
        clear k4
        unfold rv at K4
        have hb1 : decide (n < 0) = false := decide_eq_false s1
        have hb2 : decide (d < 0) = true := decide_eq_true s2
        clear s1 s2
        go_enter Tryz.func71, Tryz.ntmps71
        go_wp2_with fail
        refine (K1.out _).mono ?_
        rintro e w' ⟨rfl, rfl⟩
        go_wp2_with fail
        refine (K2.out _).mono ?_
        rintro e w' ⟨rfl, rfl⟩
        go_wp2_with fail
        refine (K3.out _).mono ?_
        rintro e w1 ⟨rfl, hB⟩
        have B1 := Lib.hid hB
        have HB1 := Lib.hid (HB0.out.trans (hB.mono HB0.out.size))
        clear hB
        obtain ⟨hc0, hc1, hf0, hf1, hz⟩ := box_r B1.out
        go_wp2
        go_quiet (fail)
        replace HB1 := Lib.hid (below_drewN HB1.out nq)
        replace hc0 : (w1.drewN nq).cell? ⟨w.heap.size, 0, none⟩ = some (.int .i64 0) := hc0
        replace hc1 : (w1.drewN nq).cell? ⟨w.heap.size, 1, none⟩ = some (.int .i64 0) := hc1
        replace hf0 : (w1.drewN nq).frozen? ⟨w.heap.size, 0, none⟩ = false := hf0
        replace hf1 : (w1.drewN nq).frozen? ⟨w.heap.size, 1, none⟩ = false := hf1
        replace hz : w.heap.size < (w1.drewN nq).heap.size := hz
        clear B1
        generalize w1.drewN nq = w2 at *
        go_wp2_with fail
        all_goals
          refine (K4.out _).mono ?_
          rintro e w3 ⟨rfl, hB⟩
          have r0 := (hB.cell (p := ⟨w.heap.size, 0, none⟩) (by simp; omega)).trans (cell_alloc_l _ hc0)
          have r1 := (hB.cell (p := ⟨w.heap.size, 1, none⟩) (by simp; omega)).trans (cell_alloc_l _ hc1)
          have r2 := (hB.frozen (p := ⟨w.heap.size, 0, none⟩) (by simp; omega)).trans (frozen_alloc_l _ hc0 hf0)
          have r3 := (hB.frozen (p := ⟨w.heap.size, 1, none⟩) (by simp; omega)).trans (frozen_alloc_l _ hc1 hf1)
          obtain ⟨hd0, hd1, he0, he1, hz2⟩ := box_r hB
          have HB2 := Lib.hid ((HB1.out.alloc (by omega) (Obj.cells #[.int .i64 x, .int .i64 y] 44)).trans (hB.mono (by simp; omega)))
          clear hB
          go_wp2
          all_goals
            exact bodyPost_ret (v := rve (-x, y, 0)) (by simp [results, Tryz.results71, go_sem, r0, r1, rve]) rfl ⟨by rw [HE.out], (((HB2.out.setCell (p := ⟨w2.heap.size, 0, none⟩) (by simp; omega) _).setCell (p := ⟨w2.heap.size, 1, none⟩) (by simp; omega) _).setCell (p := ⟨w.heap.size, 0, none⟩) (Nat.le_refl _) _).setCell (p := ⟨w.heap.size, 1, none⟩) (Nat.le_refl _) _⟩
      · have HE := Lib.hid (show (if decide (n < 0) != decide (d < 0) then -x else x, y, (0 : Int)) = (x, y, 0) by rw [decide_eq_false s1, decide_eq_false s2]; rfl)
        generalize (if decide (n < 0) != decide (d < 0) then -x else x, y, (0 : Int)) = R at *
        have hb1 : decide (n < 0) = false := decide_eq_false s1
        have hb2 : decide (d < 0) = false := decide_eq_false s2
        clear s1 s2
        go_enter Tryz.func71, Tryz.ntmps71
        go_wp2_with fail
        refine (K1.out _).mono ?_
        rintro e w' ⟨rfl, rfl⟩
        go_wp2_with fail
        refine (K2.out _).mono ?_
        rintro e w' ⟨rfl, rfl⟩
        go_wp2_with fail
        refine (K3.out _).mono ?_
        rintro e w1 ⟨rfl, hB⟩
        have B1 := Lib.hid hB
        have HB1 := Lib.hid (HB0.out.trans (hB.mono HB0.out.size))
        clear hB
        obtain ⟨hc0, hc1, hf0, hf1, hz⟩ := box_r B1.out
        go_wp2
        go_quiet (fail)
        replace HB1 := Lib.hid (below_drewN HB1.out nq)
        replace hc0 : (w1.drewN nq).cell? ⟨w.heap.size, 0, none⟩ = some (.int .i64 0) := hc0
        replace hc1 : (w1.drewN nq).cell? ⟨w.heap.size, 1, none⟩ = some (.int .i64 0) := hc1
        replace hf0 : (w1.drewN nq).frozen? ⟨w.heap.size, 0, none⟩ = false := hf0
        replace hf1 : (w1.drewN nq).frozen? ⟨w.heap.size, 1, none⟩ = false := hf1
        replace hz : w.heap.size < (w1.drewN nq).heap.size := hz
        clear B1
        generalize w1.drewN nq = w2 at *
        go_wp2
        all_goals
          exact bodyPost_ret (v := rve (x, y, 0)) (by simp [results, Tryz.results71, go_sem, hc0, hc1, hz, rve]) rfl ⟨by rw [HE.out], ((HB1.out.setCell (p := ⟨w.heap.size, 0, none⟩) (Nat.le_refl _) _).setCell (p := ⟨w.heap.size, 1, none⟩) (Nat.le_refl _) _).alloc (by simp; omega) _⟩

end Go.Proofs.YtelhpndlejommaaGreat
