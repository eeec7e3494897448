/- Contracts of package ratio: Mul, whole. -/
import Derived.Test.YtloddocibfbkpaaRat7
namespace Go.Proofs.Ytloddocibfbkpaa
open Go.RowKit Go.Shelf

/-- New of a numerator and another denominator fits. -/
theorem newR_fits {a d : Int} (h1 : -1099511627776 ≤ a) (h2 : a ≤ 1099511627776) (h3 : 1 ≤ d) (h4 : d ≤ 1048576) : Qm.newR a d = (a / Qm.g a d, d / Qm.g a d, 0) := by
  have hg := Qm.g_pos (a := a) (b := d) (by omega)
  have b1 := ediv_le (M := 1099511627776) hg h1 h2
  have b2 := ediv_le (M := 1048576) hg (show -1048576 ≤ d by omega) h4
  unfold Qm.newR
  rw [if_neg (by omega), Qm.ofR_pos (by omega), if_neg (by omega)]

set_option maxHeartbeats 1000000 in
set_option maxRecDepth 100000 in
theorem rmul_any (a b c d : Int) (w : World) (ha : I64 a) (hb : I64 b) (hc : I64 c) (hd : I64 d) :
    Calls Try.prog 24 #[rv a b, rv c d] w fun e w' => e = .returned (rve (mulR a b c d)) ∧ Below w.heap.size w w' := by
  have HB0 := Lib.hid ((((Below.refl w.heap.size w).alloc (Nat.le_refl _) (Obj.cells #[.int .i64 a, .int .i64 b] 26)).alloc (by simp) (Obj.cells #[.int .i64 c, .int .i64 d] 26)).alloc (by simp; omega) (Obj.cells #[.int .i64 0, .int .i64 0] 26))
  have HC0 := Lib.hid (Below.refl (three w (.int .i64 a) (.int .i64 b) (.int .i64 c) (.int .i64 d) (.int .i64 0) (.int .i64 0) 26).heap.size (three w (.int .i64 a) (.int .i64 b) (.int .i64 c) (.int .i64 d) (.int .i64 0) (.int .i64 0) 26))
  have k1 := fun w => rpair_any a b c d w ha hb hc hd
  rcases Qm.bothI_two a b c d with e1 | e1
  · obtain ⟨o, o'⟩ := Qm.bothI_ok.1 e1
    have hE : mulR a b c d = Qm.ofR (a * c) (b * d) := by unfold mulR; rw [if_pos e1]
    rw [hE]
    obtain ⟨hr, hOf, p1, p2, q1, q2⟩ := mul_parts o o'
    have pq := Qm.mul_pos q1 q2 p1 p2
    have k2 := fun w => rnew_any a d w ha hd
    have k3 := fun w => rnew_any c b w hc hb
    rw [newR_fits o.2.2.1 o.2.2.2.1 o'.1 o'.2.1] at k2
    rw [newR_fits o'.2.2.1 o'.2.2.2.1 o.1 o.2.1] at k3
    rw [e1] at k1
    have hG := Qm.g_pos (a := a) (b := d) (ok_ne o')
    have hH := Qm.g_pos (a := c) (b := b) (ok_ne o)
    have bx := ediv_le (M := 1099511627776) hG o.2.2.1 o.2.2.2.1
    have by' := ediv_le (M := 1099511627776) hH o'.2.2.1 o'.2.2.2.1
    generalize a / Qm.g a d = x at *
    generalize c / Qm.g c b = y at *
    generalize d / Qm.g a d = q at *
    generalize b / Qm.g c b = p at *
    have ax := absI_nonneg x
    have ay := absI_nonneg y
    have ax2 : absI x ≤ 1099511627776 := by unfold absI; split <;> omega
    have ay2 : absI y ≤ 1099511627776 := by unfold absI; split <;> omega
    have hb := mul_big x y
    by_cases hbig : x * y > 1099511627776 ∨ x * y < -1099511627776
    · refine rmul_walk a b c d x q y p (absI x) (absI y) _ _ _ w (Lib.hid k1) (Lib.hid k2) (Lib.hid k3) (Lib.hid fun w => size_q x w bx.1 bx.2) (Lib.hid fun w => size_q y w by'.1 by'.2) (Lib.hid fun w => mul64_q (absI x) (absI y) w ax ax2 ay ay2) (Lib.hid fun h => by by_cases t : x * y > 1099511627776 ∨ x * y < -1099511627776; (· exact absurd (hb.2 t) h); (· omega)) (by omega) pq.2 (Int.ediv_nonneg (Int.mul_nonneg ax ay) (by omega)) (Int.emod_nonneg _ (by omega)) (fun _ => Lib.hid (by rw [hr, if_pos (by omega)])) (Lib.hid fun h w => absurd (hb.2 hbig) h)
    · refine rmul_walk a b c d x q y p (absI x) (absI y) _ _ _ w (Lib.hid k1) (Lib.hid k2) (Lib.hid k3) (Lib.hid fun w => size_q x w bx.1 bx.2) (Lib.hid fun w => size_q y w by'.1 by'.2) (Lib.hid fun w => mul64_q (absI x) (absI y) w ax ax2 ay ay2) (Lib.hid fun h => by by_cases t : x * y > 1099511627776 ∨ x * y < -1099511627776; (· exact absurd (hb.2 t) h); (· omega)) (by omega) pq.2 (Int.ediv_nonneg (Int.mul_nonneg ax ay) (by omega)) (Int.emod_nonneg _ (by omega)) (fun h => absurd (hb.1 h) hbig) (Lib.hid fun _ w => ?_)
      have := rnew_any (x * y) (q * p) w (by omega) (by omega)
      unfold Qm.newR at this
      rw [if_neg (by omega), Int.mul_comm q p, hOf] at this
      rw [Int.mul_comm q p]
      exact this
  · have hE : mulR a b c d = (0, 0, 1) := by unfold mulR; rw [if_neg (by rw [e1]; decide)]
    rw [e1] at k1
    have HE := Lib.hid hE
    have K1 := Lib.hid k1
    clear k1 e1 hE
    generalize mulR a b c d = R at *
    unfold rv at *
    go_enter Try.func24, Try.ntmps24
    go_wp2_with fail
    refine (K1.out _).mono ?_
    rintro e w1 ⟨rfl, hB⟩
    have B1 := Lib.hid hB
    have HB1 := Lib.hid (HB0.out.trans (hB.mono HB0.out.size))
    have HC1 := Lib.hid (HC0.out.trans (hB.mono HC0.out.size))
    clear hB
    obtain ⟨q1_0, q1_1, q1_2, q1_3, q1_4, q1_5, q1_6, q1_7, q1_8⟩ := box_3 HC1.out
    go_wp2
    exact bodyPost_ret (v := rve (0, 0, 1)) (by simp [results, Try.results24, go_sem, q1_4, q1_5, rve]) rfl ⟨by rw [HE.out], (HB1.out.setCell (p := ⟨w.heap.size + 2, 0, none⟩) (by simp) _).setCell (p := ⟨w.heap.size + 2, 1, none⟩) (by simp) _⟩

end Go.Proofs.Ytloddocibfbkpaa
