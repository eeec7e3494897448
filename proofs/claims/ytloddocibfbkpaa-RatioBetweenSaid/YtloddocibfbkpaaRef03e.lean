/- Contracts of priorartref03: Mul, whole. -/
import Derived.Test.YtloddocibfbkpaaRef03d
namespace Go.Proofs.Ytloddocibfbkpaa
open Go.RowKit Go.Shelf

/-- What Mul returns. -/
def mulR (a b c d : Int) : Int × Int × Int := if Qm.bothI a b c d = 0 then Qm.ofR (a * c) (b * d) else (0, 0, 1)

/-- A part of a number: its sign and its bounds. -/
theorem part_pos {a G M : Int} (hG : 1 ≤ G) (hd : G ∣ a) (h : 0 < a) (hM : a ≤ M) : 1 ≤ a / G ∧ a / G ≤ M := by
  have h1 : 0 < a / G := Int.ediv_pos_of_pos_of_dvd h (by omega) hd
  have h2 := (ediv_le (a := a) (M := M) hG (by omega) hM).2
  omega

theorem part_neg {a G M : Int} (hG : 1 ≤ G) (hd : G ∣ a) (h : a < 0) (hM : -M ≤ a) : 1 ≤ -(a / G) ∧ -(a / G) ≤ M := by
  have h1 := part_pos hG ((Int.dvd_neg).2 hd) (show 0 < -a by omega) (show -a ≤ M by omega)
  rw [Int.neg_ediv_of_dvd hd] at h1
  exact h1

/-- The product of two ratios, by its parts. -/
theorem mul_parts {a b c d : Int} (o : Qm.Ok a b) (o' : Qm.Ok c d) :
    Qm.ofR (a * c) (b * d) = (if a / Qm.g a d * (c / Qm.g c b) > 1099511627776 ∨ a / Qm.g a d * (c / Qm.g c b) < -1099511627776 ∨ b / Qm.g c b * (d / Qm.g a d) > 1048576 then (0, 0, 5) else (a / Qm.g a d * (c / Qm.g c b), b / Qm.g c b * (d / Qm.g a d), 0)) ∧
    Qm.ofR (a / Qm.g a d * (c / Qm.g c b)) (b / Qm.g c b * (d / Qm.g a d)) = Qm.ofR (a * c) (b * d) ∧ 1 ≤ b / Qm.g c b ∧ b / Qm.g c b ≤ 1048576 ∧ 1 ≤ d / Qm.g a d ∧ d / Qm.g a d ≤ 1048576 := by
  have hb := o.1
  have hd := o'.1
  have p1 := part_pos (Qm.g_pos (a := c) (b := b) (by omega)) (Qm.g_right c b) (by omega) o.2.1
  have p2 := part_pos (Qm.g_pos (a := a) (b := d) (by omega)) (Qm.g_right a d) (by omega) o'.2.1
  have p3 := Qm.mul_pos p1.1 p1.2 p2.1 p2.2
  have p4 := Qm.mul_pos hb o.2.1 hd o'.2.1
  have e := Qm.ofR_same (n := a * c) (d := b * d) (n' := a / Qm.g a d * (c / Qm.g c b)) (d' := b / Qm.g c b * (d / Qm.g a d)) (by omega) (by omega) (Qm.cross_same (by omega) (by omega))
  refine ⟨?_, e.symm, p1.1, p1.2, p2.1, p2.2⟩
  rw [e]
  exact Qm.ofR_lowest (by omega) (Qm.g_cross o.2.2.2.2 o'.2.2.2.2 (by omega) (by omega))

theorem ofR_zero {d : Int} (h : d ≠ 0) : Qm.ofR 0 d = (0, 1, 0) := Qm.ofR_is h ⟨by decide, by decide, by decide, by decide, by decide⟩ (by simp)

theorem mul_some (a b c d : Int) (w : World) (o : Qm.Ok a b) (o' : Qm.Ok c d) (ha : a ≠ 0) (hc : c ≠ 0) :
    Calls Try.prog 25 #[rv a b, rv c d] w fun e w' => e = .returned (rve (Qm.ofR (a * c) (b * d))) ∧ Below w.heap.size w w' := by
  obtain ⟨hR, hOf, p1, p2, q1, q2⟩ := mul_parts o o'
  have p3 := Qm.mul_pos p1 p2 q1 q2
  have K1 : Hid (∀ w, Calls Try.prog 29 #[rv a b, rv c d] w fun e w' => e = .returned (.int .i64 0) ∧ Below w.heap.size w w') := Lib.hid fun w => by
    have := both_any a b c d w
    rw [Qm.bothI_ok.2 ⟨o, o'⟩] at this
    exact this
  have K2 := Lib.hid (fun w => common_any a d w (by have := o.2.2; omega) (by have := o'.1; have := o'.2.1; omega))
  have K3 := Lib.hid (fun w => common_any c b w (by have := o'.2.2; omega) (by have := o.1; have := o.2.1; omega))
  have hG := Qm.g_pos (a := a) (b := d) (by have := o'.1; omega)
  have hH := Qm.g_pos (a := c) (b := b) (by have := o.1; omega)
  have t1 := tdiv_of_dvd (Qm.g_left a d)
  have t2 := tdiv_of_dvd (Qm.g_left c b)
  have t3 := tdiv_of_dvd (Qm.g_right c b)
  have t4 := tdiv_of_dvd (Qm.g_right a d)
  have sa : 0 < a → 1 ≤ a / Qm.g a d ∧ a / Qm.g a d ≤ 1099511627776 := fun h => part_pos hG (Qm.g_left a d) h o.2.2.2.1
  have sa' : a < 0 → 1 ≤ -(a / Qm.g a d) ∧ -(a / Qm.g a d) ≤ 1099511627776 := fun h => part_neg hG (Qm.g_left a d) h o.2.2.1
  have sc : 0 < c → 1 ≤ c / Qm.g c b ∧ c / Qm.g c b ≤ 1099511627776 := fun h => part_pos hH (Qm.g_left c b) h o'.2.2.2.1
  have sc' : c < 0 → 1 ≤ -(c / Qm.g c b) ∧ -(c / Qm.g c b) ≤ 1099511627776 := fun h => part_neg hH (Qm.g_left c b) h o'.2.2.1
  generalize hn : a / Qm.g a d = n at *
  generalize hm : c / Qm.g c b = m at *
  generalize hp : b / Qm.g c b = p at *
  generalize hq : d / Qm.g a d = q at *
  generalize hr : Qm.ofR (a * c) (b * d) = R at *
  by_cases h1 : 0 < a
  · have hx := sa h1
    by_cases h2 : 0 < c
    · have hy := sc h2
      have eq : n * m = n * m := rfl
      refine mul_pp a b c d _ _ (n) (m) p q R w (by omega) (by omega) K1 K2 K3 hG hH hx.1 hx.2 hy.1 hy.2 p1 p2 q1 q2 p3.1 p3.2 t1 t2 t3 t4 hp hq hn hm (fun h => Lib.hid ?_) (Lib.hid fun h1 h2 w => ?_)
      · rw [eq] at h
        rw [hR, if_pos (by omega)]
      · rw [eq] at h2 ⊢
        have hz := Int.mul_nonneg (show 0 ≤ n by omega) (show 0 ≤ m by omega)
        rw [eq] at hz
        have := of_any (n * m) (p * q) w (by omega) (by omega) (by omega)
        rw [hOf] at this
        exact this
    · have hy := sc' (by omega)
      have eq : n * -m = -(n * m) := Int.mul_neg n m
      refine mul_pn a b c d _ _ (n) (-m) p q R w (by omega) (by omega) K1 K2 K3 hG hH hx.1 hx.2 hy.1 hy.2 p1 p2 q1 q2 p3.1 p3.2 t1 (by omega) t3 t4 hp hq hn (fun h => Lib.hid ?_) (Lib.hid fun h1 h2 w => ?_)
      · rw [eq] at h
        rw [hR, if_pos (by omega)]
      · rw [eq] at h2 ⊢
        have hz := Int.mul_nonneg (show 0 ≤ n by omega) (show 0 ≤ -m by omega)
        rw [eq] at hz
        have := of_any (n * m) (p * q) w (by omega) (by omega) (by omega)
        rw [hOf] at this
        rw [Int.neg_neg]; exact this
  · have hx := sa' (by omega)
    by_cases h2 : 0 < c
    · have hy := sc h2
      have eq : -n * m = -(n * m) := Int.neg_mul n m
      refine mul_np a b c d _ _ (-n) (m) p q R w (by omega) (by omega) K1 K2 K3 hG hH hx.1 hx.2 hy.1 hy.2 p1 p2 q1 q2 p3.1 p3.2 (by omega) t2 t3 t4 hp hq hm (fun h => Lib.hid ?_) (Lib.hid fun h1 h2 w => ?_)
      · rw [eq] at h
        rw [hR, if_pos (by omega)]
      · rw [eq] at h2 ⊢
        have hz := Int.mul_nonneg (show 0 ≤ -n by omega) (show 0 ≤ m by omega)
        rw [eq] at hz
        have := of_any (n * m) (p * q) w (by omega) (by omega) (by omega)
        rw [hOf] at this
        rw [Int.neg_neg]; exact this
    · have hy := sc' (by omega)
      have eq : -n * -m = n * m := Int.neg_mul_neg n m
      refine mul_nn a b c d _ _ (-n) (-m) p q R w (by omega) (by omega) K1 K2 K3 hG hH hx.1 hx.2 hy.1 hy.2 p1 p2 q1 q2 p3.1 p3.2 (by omega) (by omega) t3 t4 hp hq (fun h => Lib.hid ?_) (Lib.hid fun h1 h2 w => ?_)
      · rw [eq] at h
        rw [hR, if_pos (by omega)]
      · rw [eq] at h2 ⊢
        have hz := Int.mul_nonneg (show 0 ≤ -n by omega) (show 0 ≤ -m by omega)
        rw [eq] at hz
        have := of_any (n * m) (p * q) w (by omega) (by omega) (by omega)
        rw [hOf] at this
        exact this

set_option maxHeartbeats 1000000 in
set_option maxRecDepth 100000 in
theorem mul_any (a b c d : Int) (w : World) :
    Calls Try.prog 25 #[rv a b, rv c d] w fun e w' => e = .returned (rve (mulR a b c d)) ∧ Below w.heap.size w w' := by
  have HB0 := Lib.hid ((((Below.refl w.heap.size w).alloc (Nat.le_refl _) (Obj.cells #[.int .i64 a, .int .i64 b] 26)).alloc (by simp) (Obj.cells #[.int .i64 c, .int .i64 d] 26)).alloc (by simp; omega) (Obj.cells #[.int .i64 0, .int .i64 0] 26))
  have HC0 := Lib.hid (Below.refl (three w (.int .i64 a) (.int .i64 b) (.int .i64 c) (.int .i64 d) (.int .i64 0) (.int .i64 0) 26).heap.size (three w (.int .i64 a) (.int .i64 b) (.int .i64 c) (.int .i64 d) (.int .i64 0) (.int .i64 0) 26))
  have k1 := fun w => both_any a b c d w
  rcases Qm.bothI_two a b c d with e1 | e1
  · obtain ⟨o, o'⟩ := Qm.bothI_ok.1 e1
    have hE : mulR a b c d = Qm.ofR (a * c) (b * d) := by unfold mulR; rw [if_pos e1]
    by_cases hz : a = 0 ∨ c = 0
    · have hac : a * c = 0 := by rcases hz with h | h <;> simp [h]
      have hbd : b * d ≠ 0 := by have := Qm.mul_pos o.1 o.2.1 o'.1 o'.2.1; omega
      have HE : Hid (mulR a b c d = (0, 1, 0)) := Lib.hid (hE.trans (by rw [hac]; exact ofR_zero hbd))
      rw [e1] at k1
      have K1 := Lib.hid k1
      clear k1 e1 hE o o' hac hbd
      generalize mulR a b c d = R at *
      unfold rv at *
      by_cases ha : a = 0
      · subst ha
        go_enter Try.func25, Try.ntmps25
        go_wp2_with fail
        refine (K1.out _).mono ?_
        rintro e w1 ⟨rfl, hB⟩
        have B1 := Lib.hid hB
        have HB1 := Lib.hid (HB0.out.trans (hB.mono HB0.out.size))
        have HC1 := Lib.hid (HC0.out.trans (hB.mono HC0.out.size))
        clear hB
        obtain ⟨q1_0, q1_1, q1_2, q1_3, q1_4, q1_5, q1_6, q1_7, q1_8⟩ := box_3 HC1.out
        go_wp2
        all_goals
          exact bodyPost_ret (v := rve (0, 1, 0)) (by simp [results, Try.results25, go_sem, q1_4, q1_5, rve]) rfl ⟨by rw [HE.out], (HB1.out.setCell (p := ⟨w.heap.size + 2, 0, none⟩) (by simp) _).setCell (p := ⟨w.heap.size + 2, 1, none⟩) (by simp) _⟩
      · have hc : c = 0 := by omega
        subst hc
        have ha0 : (a == 0) = false := by simpa using ha
        go_enter Try.func25, Try.ntmps25
        go_wp2_with fail
        refine (K1.out _).mono ?_
        rintro e w1 ⟨rfl, hB⟩
        have B1 := Lib.hid hB
        have HB1 := Lib.hid (HB0.out.trans (hB.mono HB0.out.size))
        have HC1 := Lib.hid (HC0.out.trans (hB.mono HC0.out.size))
        clear hB
        obtain ⟨q1_0, q1_1, q1_2, q1_3, q1_4, q1_5, q1_6, q1_7, q1_8⟩ := box_3 HC1.out
        go_wp2
        all_goals
          exact bodyPost_ret (v := rve (0, 1, 0)) (by simp [results, Try.results25, go_sem, q1_4, q1_5, rve]) rfl ⟨by rw [HE.out], (HB1.out.setCell (p := ⟨w.heap.size + 2, 0, none⟩) (by simp) _).setCell (p := ⟨w.heap.size + 2, 1, none⟩) (by simp) _⟩
    · rw [hE]
      exact mul_some a b c d w o o' (by omega) (by omega)
  · have hE : mulR a b c d = (0, 0, 1) := by unfold mulR; rw [if_neg (by rw [e1]; decide)]
    rw [e1] at k1
    have HE := Lib.hid hE
    have K1 := Lib.hid k1
    clear k1 e1 hE
    generalize mulR a b c d = R at *
    unfold rv at *
    go_enter Try.func25, Try.ntmps25
    go_wp2_with fail
    refine (K1.out _).mono ?_
    rintro e w1 ⟨rfl, hB⟩
    have B1 := Lib.hid hB
    have HB1 := Lib.hid (HB0.out.trans (hB.mono HB0.out.size))
    have HC1 := Lib.hid (HC0.out.trans (hB.mono HC0.out.size))
    clear hB
    obtain ⟨q1_0, q1_1, q1_2, q1_3, q1_4, q1_5, q1_6, q1_7, q1_8⟩ := box_3 HC1.out
    go_wp2
    exact bodyPost_ret (v := rve (0, 0, 1)) (by simp [results, Try.results25, go_sem, q1_4, q1_5, rve]) rfl ⟨by rw [HE.out], (HB1.out.setCell (p := ⟨w.heap.size + 2, 0, none⟩) (by simp) _).setCell (p := ⟨w.heap.size + 2, 1, none⟩) (by simp) _⟩

end Go.Proofs.Ytloddocibfbkpaa
