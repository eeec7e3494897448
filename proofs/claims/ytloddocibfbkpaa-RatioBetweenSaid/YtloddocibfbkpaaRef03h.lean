/- Contracts of priorartref03: Div, whole. -/
import Derived.Test.YtloddocibfbkpaaRef03g
namespace Go.Proofs.Ytloddocibfbkpaa
open Go.RowKit Go.Shelf

/-- What Div returns. -/
def divR (a b c d : Int) : Int × Int × Int := if Qm.bothI a b c d = 0 then Qm.newR (a * d) (b * c) else (0, 0, 1)

/-- A quotient, by its parts. -/
theorem div_parts {a b u v : Int} (hb : 1 ≤ b) (hv : 1 ≤ v) (h1 : Qm.g a b = 1) (h2 : Qm.g u v = 1) :
    Qm.ofR (a * u) (b * v) = (if a / Qm.g a v * (u / Qm.g u b) > 1099511627776 ∨ a / Qm.g a v * (u / Qm.g u b) < -1099511627776 ∨ b / Qm.g u b * (v / Qm.g a v) > 1048576 then (0, 0, 5) else (a / Qm.g a v * (u / Qm.g u b), b / Qm.g u b * (v / Qm.g a v), 0)) ∧
    Qm.ofR (a / Qm.g a v * (u / Qm.g u b)) (b / Qm.g u b * (v / Qm.g a v)) = Qm.ofR (a * u) (b * v) := by
  have p1 := (part_pos (M := b) (Qm.g_pos (a := u) (b := b) (by omega)) (Qm.g_right u b) (by omega) (Int.le_refl _)).1
  have p2 := (part_pos (M := v) (Qm.g_pos (a := a) (b := v) (by omega)) (Qm.g_right a v) (by omega) (Int.le_refl _)).1
  have p3 : 0 < b / Qm.g u b * (v / Qm.g a v) := Int.mul_pos (by omega) (by omega)
  have p4 : 0 < b * v := Int.mul_pos (by omega) (by omega)
  have e := Qm.ofR_same (n := a * u) (d := b * v) (n' := a / Qm.g a v * (u / Qm.g u b)) (d' := b / Qm.g u b * (v / Qm.g a v)) (by omega) (by omega) (Qm.cross_same (by omega) (by omega))
  refine ⟨?_, e.symm⟩
  rw [e]
  exact Qm.ofR_lowest (by omega) (Qm.g_cross h1 h2 (by omega) (by omega))

theorem div_core (a b c d u v : Int) (R : Int × Int × Int) (w : World) (o : Qm.Ok a b) (o' : Qm.Ok c d) (ha : a ≠ 0) (hc : c ≠ 0) (hu : u ≠ 0) (hu1 : -1048576 ≤ u) (hu2 : u ≤ 1048576) (hv1 : 1 ≤ v) (hv2 : v ≤ 1099511627776) (huv : Qm.g u v = 1)
    (K2 : Hid (∀ w, Calls Try.prog 43 #[rv c d] w fun e w' => e = .returned (rv u v) ∧ Below w.heap.size w w')) (hR : Qm.ofR (a * u) (b * v) = R) :
    Calls Try.prog 27 #[rv a b, rv c d] w fun e w' => e = .returned (rve R) ∧ Below w.heap.size w w' := by
  obtain ⟨hr, hOf⟩ := div_parts (a := a) (b := b) (u := u) (v := v) o.1 hv1 o.2.2.2.2 huv
  rw [hR] at hr hOf
  have K1 : Hid (∀ w, Calls Try.prog 29 #[rv a b, rv c d] w fun e w' => e = .returned (.int .i64 0) ∧ Below w.heap.size w w') := Lib.hid fun w => by
    have := both_any a b c d w
    rw [Qm.bothI_ok.2 ⟨o, o'⟩] at this
    exact this
  have K3 := Lib.hid (fun w => common_any a v w (by have := o.2.2; omega) (by omega))
  have K4 := Lib.hid (fun w => common_any u b w (by omega) (by have := o.1; have := o.2.1; omega))
  have hG := Qm.g_pos (a := a) (b := v) (by omega)
  have hH := Qm.g_pos (a := u) (b := b) (by have := o.1; omega)
  have t1 := tdiv_of_dvd (Qm.g_left a v)
  have t2 := tdiv_of_dvd (Qm.g_left u b)
  have t3 := tdiv_of_dvd (Qm.g_right u b)
  have t4 := tdiv_of_dvd (Qm.g_right a v)
  have ps := part_pos hH (Qm.g_right u b) (by have := o.1; omega) o.2.1
  have pt := part_pos hG (Qm.g_right a v) (by omega) hv2
  have sa : 0 < a → 1 ≤ a / Qm.g a v ∧ a / Qm.g a v ≤ 1099511627776 := fun h => part_pos hG (Qm.g_left a v) h o.2.2.2.1
  have sa' : a < 0 → 1 ≤ -(a / Qm.g a v) ∧ -(a / Qm.g a v) ≤ 1099511627776 := fun h => part_neg hG (Qm.g_left a v) h o.2.2.1
  have sc : 0 < u → 1 ≤ u / Qm.g u b ∧ u / Qm.g u b ≤ 1048576 := fun h => part_pos hH (Qm.g_left u b) h hu2
  have sc' : u < 0 → 1 ≤ -(u / Qm.g u b) ∧ -(u / Qm.g u b) ≤ 1048576 := fun h => part_neg hH (Qm.g_left u b) h hu1
  have ha0 : (a == 0) = false := by simpa using ha
  have hc0 : (c == 0) = false := by simpa using hc
  generalize a / Qm.g a v = n at *
  generalize u / Qm.g u b = m at *
  generalize b / Qm.g u b = s at *
  generalize v / Qm.g a v = t at *
  by_cases h1 : 0 < a
  · have hx := sa h1
    by_cases h2 : 0 < u
    · have hy := sc h2
      have eq : n * m = n * m := rfl
      refine div_pp a b c d u v _ _ (n) (m) s t R w ha0 hc0 K1 K2 K3 K4 hG hH hx.1 hx.2 hy.1 (by omega) ps.1 ps.2 pt.1 pt.2 (by omega) (by omega) t3 t4 (fun h => Lib.hid ?_) (Lib.hid fun h1 h2 w => ?_)
      · rw [eq] at h
        rw [hr, if_pos (by omega)]
      · rw [eq] at h2 ⊢
        have hz := Int.mul_nonneg (show 0 ≤ n by omega) (show 0 ≤ m by omega)
        rw [eq] at hz
        have hst : 0 < s * t := Int.mul_pos (by omega) (by omega)
        have := of_any (n * m) (s * t) w (by omega) (by omega) (by omega)
        rw [hOf] at this
        exact this
    · have hy := sc' (by omega)
      have eq : n * -m = -(n * m) := Int.mul_neg n m
      refine div_pn a b c d u v _ _ (n) (-m) s t R w ha0 hc0 K1 K2 K3 K4 hG hH hx.1 hx.2 hy.1 (by omega) ps.1 ps.2 pt.1 pt.2 (by omega) (by omega) t3 t4 (fun h => Lib.hid ?_) (Lib.hid fun h1 h2 w => ?_)
      · rw [eq] at h
        rw [hr, if_pos (by omega)]
      · rw [eq] at h2 ⊢
        have hz := Int.mul_nonneg (show 0 ≤ n by omega) (show 0 ≤ -m by omega)
        rw [eq] at hz
        have hst : 0 < s * t := Int.mul_pos (by omega) (by omega)
        have := of_any (n * m) (s * t) w (by omega) (by omega) (by omega)
        rw [hOf] at this
        rw [Int.neg_neg]; exact this
  · have hx := sa' (by omega)
    by_cases h2 : 0 < u
    · have hy := sc h2
      have eq : -n * m = -(n * m) := Int.neg_mul n m
      refine div_np a b c d u v _ _ (-n) (m) s t R w ha0 hc0 K1 K2 K3 K4 hG hH hx.1 hx.2 hy.1 (by omega) ps.1 ps.2 pt.1 pt.2 (by omega) (by omega) t3 t4 (fun h => Lib.hid ?_) (Lib.hid fun h1 h2 w => ?_)
      · rw [eq] at h
        rw [hr, if_pos (by omega)]
      · rw [eq] at h2 ⊢
        have hz := Int.mul_nonneg (show 0 ≤ -n by omega) (show 0 ≤ m by omega)
        rw [eq] at hz
        have hst : 0 < s * t := Int.mul_pos (by omega) (by omega)
        have := of_any (n * m) (s * t) w (by omega) (by omega) (by omega)
        rw [hOf] at this
        rw [Int.neg_neg]; exact this
    · have hy := sc' (by omega)
      have eq : -n * -m = n * m := Int.neg_mul_neg n m
      refine div_nn a b c d u v _ _ (-n) (-m) s t R w ha0 hc0 K1 K2 K3 K4 hG hH hx.1 hx.2 hy.1 (by omega) ps.1 ps.2 pt.1 pt.2 (by omega) (by omega) t3 t4 (fun h => Lib.hid ?_) (Lib.hid fun h1 h2 w => ?_)
      · rw [eq] at h
        rw [hr, if_pos (by omega)]
      · rw [eq] at h2 ⊢
        have hz := Int.mul_nonneg (show 0 ≤ -n by omega) (show 0 ≤ -m by omega)
        rw [eq] at hz
        have hst : 0 < s * t := Int.mul_pos (by omega) (by omega)
        have := of_any (n * m) (s * t) w (by omega) (by omega) (by omega)
        rw [hOf] at this
        exact this

theorem ok_ne {n d : Int} (o : Qm.Ok n d) : d ≠ 0 := by have := o.1; omega

set_option maxHeartbeats 1000000 in
set_option maxRecDepth 100000 in
theorem div_any (a b c d : Int) (w : World) :
    Calls Try.prog 27 #[rv a b, rv c d] w fun e w' => e = .returned (rve (divR a b c d)) ∧ Below w.heap.size w w' := by
  have HB0 := Lib.hid ((((Below.refl w.heap.size w).alloc (Nat.le_refl _) (Obj.cells #[.int .i64 a, .int .i64 b] 26)).alloc (by simp) (Obj.cells #[.int .i64 c, .int .i64 d] 26)).alloc (by simp; omega) (Obj.cells #[.int .i64 0, .int .i64 0] 26))
  have HC0 := Lib.hid (Below.refl (three w (.int .i64 a) (.int .i64 b) (.int .i64 c) (.int .i64 d) (.int .i64 0) (.int .i64 0) 26).heap.size (three w (.int .i64 a) (.int .i64 b) (.int .i64 c) (.int .i64 d) (.int .i64 0) (.int .i64 0) 26))
  have k1 := fun w => both_any a b c d w
  rcases Qm.bothI_two a b c d with e1 | e1
  · obtain ⟨o, o'⟩ := Qm.bothI_ok.1 e1
    have hE : divR a b c d = Qm.newR (a * d) (b * c) := by unfold divR; rw [if_pos e1]
    by_cases hc : c = 0
    · have HE : Hid (divR a b c d = (0, 0, 1)) := Lib.hid (hE.trans (by unfold Qm.newR; rw [hc, Int.mul_zero, if_pos rfl]))
      rw [e1] at k1
      have K1 := Lib.hid k1
      clear k1 e1 hE o o'
      generalize divR a b c d = R at *
      subst hc
      unfold rv at *
      go_enter Try.func27, Try.ntmps27
      go_wp2_with fail
      refine (K1.out _).mono ?_
      rintro e w1 ⟨rfl, hB⟩
      have B1 := Lib.hid hB
      have HB1 := Lib.hid (HB0.out.trans (hB.mono HB0.out.size))
      have HC1 := Lib.hid (HC0.out.trans (hB.mono HC0.out.size))
      clear hB
      obtain ⟨q1_0, q1_1, q1_2, q1_3, q1_4, q1_5, q1_6, q1_7, q1_8⟩ := box_3 HC1.out
      go_wp2
      all_goals
        exact bodyPost_ret (v := rve (0, 0, 1)) (by simp [results, Try.results27, go_sem, q1_4, q1_5, rve]) rfl ⟨by rw [HE.out], (HB1.out.setCell (p := ⟨w.heap.size + 2, 0, none⟩) (by simp) _).setCell (p := ⟨w.heap.size + 2, 1, none⟩) (by simp) _⟩
    · have hbc : b * c ≠ 0 := Int.mul_ne_zero (ok_ne o) hc
      have hE2 : divR a b c d = Qm.ofR (a * d) (b * c) := hE.trans (by unfold Qm.newR; rw [if_neg hbc])
      by_cases ha : a = 0
      · have HE : Hid (divR a b c d = (0, 1, 0)) := Lib.hid (hE2.trans (by rw [ha, Int.zero_mul]; exact ofR_zero hbc))
        rw [e1] at k1
        have K1 := Lib.hid k1
        clear k1 e1 hE hE2 o o' hbc
        have hc0 : (c == 0) = false := by simpa using hc
        generalize divR a b c d = R at *
        subst ha
        unfold rv at *
        go_enter Try.func27, Try.ntmps27
        go_wp2_with fail
        refine (K1.out _).mono ?_
        rintro e w1 ⟨rfl, hB⟩
        have B1 := Lib.hid hB
        have HB1 := Lib.hid (HB0.out.trans (hB.mono HB0.out.size))
        have HC1 := Lib.hid (HC0.out.trans (hB.mono HC0.out.size))
        clear hB
        obtain ⟨q1_0, q1_1, q1_2, q1_3, q1_4, q1_5, q1_6, q1_7, q1_8⟩ := box_3 HC1.out
        go_wp2
        all_goals
          exact bodyPost_ret (v := rve (0, 1, 0)) (by simp [results, Try.results27, go_sem, q1_4, q1_5, rve]) rfl ⟨by rw [HE.out], (HB1.out.setCell (p := ⟨w.heap.size + 2, 0, none⟩) (by simp) _).setCell (p := ⟨w.heap.size + 2, 1, none⟩) (by simp) _⟩
      · rw [hE2]
        clear hE hE2 HB0 HC0 k1
        have o1 := o'.1
        have o2 := o'.2.1
        have o3 := o'.2.2.1
        have o4 := o'.2.2.2.1
        by_cases hs : c < 0
        · refine div_core a b c d (-d) (-c) _ w o o' ha hc (by omega) (by omega) (by omega) (by omega) (by omega) (by rw [Qm.g_neg, Qm.g_comm]; exact o'.2.2.2.2) (Lib.hid fun w => inverse_neg c d w (by omega) hs (by omega) (by omega)) ?_
          rw [Int.mul_neg, Int.mul_neg]
          exact Qm.ofR_same (by omega) hbc (by rw [Int.neg_mul, Int.mul_neg])
        · exact div_core a b c d d c _ w o o' ha hc (by omega) (by omega) (by omega) (by omega) (by omega) (by rw [Qm.g_comm]; exact o'.2.2.2.2) (Lib.hid fun w => inverse_pos c d w (by omega)) rfl
  · have hE : divR a b c d = (0, 0, 1) := by unfold divR; rw [if_neg (by rw [e1]; decide)]
    rw [e1] at k1
    have HE := Lib.hid hE
    have K1 := Lib.hid k1
    clear k1 e1 hE
    generalize divR a b c d = R at *
    unfold rv at *
    go_enter Try.func27, Try.ntmps27
    go_wp2_with fail
    refine (K1.out _).mono ?_
    rintro e w1 ⟨rfl, hB⟩
    have B1 := Lib.hid hB
    have HB1 := Lib.hid (HB0.out.trans (hB.mono HB0.out.size))
    have HC1 := Lib.hid (HC0.out.trans (hB.mono HC0.out.size))
    clear hB
    obtain ⟨q1_0, q1_1, q1_2, q1_3, q1_4, q1_5, q1_6, q1_7, q1_8⟩ := box_3 HC1.out
    go_wp2
    exact bodyPost_ret (v := rve (0, 0, 1)) (by simp [results, Try.results27, go_sem, q1_4, q1_5, rve]) rfl ⟨by rw [HE.out], (HB1.out.setCell (p := ⟨w.heap.size + 2, 0, none⟩) (by simp) _).setCell (p := ⟨w.heap.size + 2, 1, none⟩) (by simp) _⟩

end Go.Proofs.Ytloddocibfbkpaa
