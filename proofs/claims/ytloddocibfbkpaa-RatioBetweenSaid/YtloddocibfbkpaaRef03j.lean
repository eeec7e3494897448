/- Contracts of priorartref03: Between. -/
import Derived.Test.YtloddocibfbkpaaRef03i
import Derived.Test.YtloddocibfbkpaaSimp
namespace Go.Proofs.Ytloddocibfbkpaa
open Go.RowKit Go.Shelf

/-- Between comes back. -/
def BtwOut (a b c d : Int) (w : World) (e : Ending) (w' : World) : Prop := ∃ R, Qm.Btw a b c d R ∧ e = .returned (rve R) ∧ Below w.heap.size w w'

set_option maxHeartbeats 2000000 in
set_option maxRecDepth 100000 in
theorem sbtw_err (a b c d : Int) (w : World) (K1 : Hid (∀ w, Calls Try.prog 29 #[rv a b, rv c d] w fun e w' => e = .returned (.int .i64 1) ∧ Below w.heap.size w w')) :
    Calls Try.prog 32 #[rv a b, rv c d] w fun e w' => e = .returned (rve (0, 0, 1)) ∧ Below w.heap.size w w' := by
  have HB0 := Lib.hid ((((Below.refl w.heap.size w).alloc (Nat.le_refl _) (Obj.cells #[.int .i64 a, .int .i64 b] 26)).alloc (by simp) (Obj.cells #[.int .i64 c, .int .i64 d] 26)).alloc (by simp; omega) (Obj.cells #[.int .i64 0, .int .i64 0] 26))
  have HC0 := Lib.hid (Below.refl (three w (.int .i64 a) (.int .i64 b) (.int .i64 c) (.int .i64 d) (.int .i64 0) (.int .i64 0) 26).heap.size (three w (.int .i64 a) (.int .i64 b) (.int .i64 c) (.int .i64 d) (.int .i64 0) (.int .i64 0) 26))
  unfold rv at *
  go_enter Try.func32, Try.ntmps32
  go_wp2_with fail
  refine (K1.out _).mono ?_
  rintro e w1 ⟨rfl, hB⟩
  have B1 := Lib.hid hB
  have HB1 := Lib.hid (HB0.out.trans (hB.mono HB0.out.size))
  have HC1 := Lib.hid (HC0.out.trans (hB.mono HC0.out.size))
  clear hB
  obtain ⟨q1_0, q1_1, q1_2, q1_3, q1_4, q1_5, q1_6, q1_7, q1_8⟩ := box_3 HC1.out
  go_wp2
  exact bodyPost_ret (v := rve (0, 0, 1)) (by simp [results, Try.results32, go_sem, q1_4, q1_5, rve]) rfl ⟨rfl, (HB1.out.setCell (p := ⟨w.heap.size + 2, 0, none⟩) (by simp) _).setCell (p := ⟨w.heap.size + 2, 1, none⟩) (by simp) _⟩

set_option maxHeartbeats 2000000 in
set_option maxRecDepth 100000 in
theorem sbtw_order (a b c d : Int) (w : World) (K1 : Hid (∀ w, Calls Try.prog 29 #[rv a b, rv c d] w fun e w' => e = .returned (.int .i64 0) ∧ Below w.heap.size w w'))
    (K2 : Hid (∀ w, Calls Try.prog 33 #[rv a b, rv c d] w fun e w' => e = .returned (.bool false) ∧ Below w.heap.size w w')) :
    Calls Try.prog 32 #[rv a b, rv c d] w fun e w' => e = .returned (rve (0, 0, 13)) ∧ Below w.heap.size w w' := by
  have HB0 := Lib.hid ((((Below.refl w.heap.size w).alloc (Nat.le_refl _) (Obj.cells #[.int .i64 a, .int .i64 b] 26)).alloc (by simp) (Obj.cells #[.int .i64 c, .int .i64 d] 26)).alloc (by simp; omega) (Obj.cells #[.int .i64 0, .int .i64 0] 26))
  have HC0 := Lib.hid (Below.refl (three w (.int .i64 a) (.int .i64 b) (.int .i64 c) (.int .i64 d) (.int .i64 0) (.int .i64 0) 26).heap.size (three w (.int .i64 a) (.int .i64 b) (.int .i64 c) (.int .i64 d) (.int .i64 0) (.int .i64 0) 26))
  unfold rv at *
  go_enter Try.func32, Try.ntmps32
  go_wp2_with fail
  refine (K1.out _).mono ?_
  rintro e w1 ⟨rfl, hB⟩
  have B1 := Lib.hid hB
  have HB1 := Lib.hid (HB0.out.trans (hB.mono HB0.out.size))
  have HC1 := Lib.hid (HC0.out.trans (hB.mono HC0.out.size))
  clear hB
  obtain ⟨q1_0, q1_1, q1_2, q1_3, q1_4, q1_5, q1_6, q1_7, q1_8⟩ := box_3 HC1.out
  go_wp2_with fail
  refine (K2.out _).mono ?_
  rintro e w2 ⟨rfl, hB⟩
  have B2 := Lib.hid hB
  have HB2 := Lib.hid (HB1.out.trans (hB.mono HB1.out.size))
  have HC2 := Lib.hid (HC1.out.trans (hB.mono HC1.out.size))
  clear hB
  obtain ⟨q2_0, q2_1, q2_2, q2_3, q2_4, q2_5, q2_6, q2_7, q2_8⟩ := box_3 HC2.out
  go_wp2
  exact bodyPost_ret (v := rve (0, 0, 13)) (by simp [results, Try.results32, go_sem, q2_4, q2_5, rve]) rfl ⟨rfl, (HB2.out.setCell (p := ⟨w.heap.size + 2, 0, none⟩) (by simp) _).setCell (p := ⟨w.heap.size + 2, 1, none⟩) (by simp) _⟩

set_option maxHeartbeats 2000000 in
set_option maxRecDepth 100000 in
theorem sbtw_zero (a b c d : Int) (w : World) (ha : a < 0) (hc : 0 < c) (K1 : Hid (∀ w, Calls Try.prog 29 #[rv a b, rv c d] w fun e w' => e = .returned (.int .i64 0) ∧ Below w.heap.size w w'))
    (K2 : Hid (∀ w, Calls Try.prog 33 #[rv a b, rv c d] w fun e w' => e = .returned (.bool true) ∧ Below w.heap.size w w')) :
    Calls Try.prog 32 #[rv a b, rv c d] w fun e w' => e = .returned (rve (0, 1, 0)) ∧ Below w.heap.size w w' := by
  have HB0 := Lib.hid ((((Below.refl w.heap.size w).alloc (Nat.le_refl _) (Obj.cells #[.int .i64 a, .int .i64 b] 26)).alloc (by simp) (Obj.cells #[.int .i64 c, .int .i64 d] 26)).alloc (by simp; omega) (Obj.cells #[.int .i64 0, .int .i64 0] 26))
  have HC0 := Lib.hid (Below.refl (three w (.int .i64 a) (.int .i64 b) (.int .i64 c) (.int .i64 d) (.int .i64 0) (.int .i64 0) 26).heap.size (three w (.int .i64 a) (.int .i64 b) (.int .i64 c) (.int .i64 d) (.int .i64 0) (.int .i64 0) 26))
  unfold rv at *
  go_enter Try.func32, Try.ntmps32
  go_wp2_with fail
  refine (K1.out _).mono ?_
  rintro e w1 ⟨rfl, hB⟩
  have B1 := Lib.hid hB
  have HB1 := Lib.hid (HB0.out.trans (hB.mono HB0.out.size))
  have HC1 := Lib.hid (HC0.out.trans (hB.mono HC0.out.size))
  clear hB
  obtain ⟨q1_0, q1_1, q1_2, q1_3, q1_4, q1_5, q1_6, q1_7, q1_8⟩ := box_3 HC1.out
  go_wp2_with fail
  refine (K2.out _).mono ?_
  rintro e w2 ⟨rfl, hB⟩
  have B2 := Lib.hid hB
  have HB2 := Lib.hid (HB1.out.trans (hB.mono HB1.out.size))
  have HC2 := Lib.hid (HC1.out.trans (hB.mono HC1.out.size))
  clear hB
  obtain ⟨q2_0, q2_1, q2_2, q2_3, q2_4, q2_5, q2_6, q2_7, q2_8⟩ := box_3 HC2.out
  go_wp2
  exact bodyPost_ret (v := rve (0, 1, 0)) (by simp [results, Try.results32, go_sem, q2_4, q2_5, rve]) rfl ⟨rfl, (HB2.out.setCell (p := ⟨w.heap.size + 2, 0, none⟩) (by simp) _).setCell (p := ⟨w.heap.size + 2, 1, none⟩) (by simp) _⟩

theorem mul_le_big' {x y : Int} (h1 : 0 ≤ x) (h2 : x ≤ 1099511627777) (h3 : 0 ≤ y) (h4 : y ≤ 1048576) : 0 ≤ x * y ∧ x * y ≤ 4611686018427387904 := by
  refine ⟨Int.mul_nonneg h1 h3, ?_⟩
  have a1 : x * y ≤ x * 1048576 := Int.mul_le_mul_of_nonneg_left h4 h1
  omega

theorem frac_lt {n t c d : Int} (ht : 0 < t) (hd : 0 < d) : (n / t < c / d ∨ (n / t = c / d ∧ n % t * d < c % d * t)) ↔ n * d < c * t := by
  have e1 := Int.mul_ediv_add_emod n t
  have e2 := Int.mul_ediv_add_emod c d
  have f1 := Int.emod_nonneg n (by omega : t ≠ 0)
  have f2 := Int.emod_lt_of_pos n ht
  have f3 := Int.emod_nonneg c (by omega : d ≠ 0)
  have f4 := Int.emod_lt_of_pos c hd
  generalize n / t = x at *
  generalize n % t = u at *
  generalize c / d = y at *
  generalize c % d = v at *
  have g1 : n * d = t * d * x + u * d := by rw [← e1, Int.add_mul]; congr 1; ac_rfl
  have g2 : c * t = t * d * y + v * t := by rw [← e2, Int.add_mul]; congr 1; ac_rfl
  have g3 : u * d < t * d := Int.mul_lt_mul_of_pos_right f2 hd
  have g4 : v * t < t * d := by rw [Int.mul_comm t d]; exact Int.mul_lt_mul_of_pos_right f4 ht
  have g5 : 0 ≤ u * d := Int.mul_nonneg f1 (by omega)
  have g6 : 0 ≤ v * t := Int.mul_nonneg f3 (by omega)
  have g7 : 0 ≤ t * d := Int.mul_nonneg (by omega) (by omega)
  rw [g1, g2]
  generalize t * d = M at *
  rcases Int.lt_trichotomy x y with h | h | h
  · have : M * (x + 1) ≤ M * y := Int.mul_le_mul_of_nonneg_left (by omega) g7
    rw [Int.mul_add, Int.mul_one] at this
    exact ⟨fun _ => by omega, fun _ => .inl h⟩
  · subst h
    omega
  · have : M * (y + 1) ≤ M * x := Int.mul_le_mul_of_nonneg_left (by omega) g7
    rw [Int.mul_add, Int.mul_one] at this
    exact ⟨fun _ => by omega, fun _ => by omega⟩

/-- No fraction with a denominator below t lies between. -/
def NoneBelow (a b c d t : Int) : Prop := ∀ p q : Int, 1 ≤ q → q < t → ¬ (a * q < p * b ∧ p * d < c * q)

theorem floor_lt {a t b p : Int} (hb : 0 < b) : a * t < p * b ↔ a * t / b + 1 ≤ p := by
  have : a * t / b < p ↔ a * t < p * b := Int.ediv_lt_iff_lt_mul hb
  omega

theorem noneBelow_step {a b c d t : Int} (hb : 0 < b) (hd : 0 < d) (h : NoneBelow a b c d t) (hn : ¬ (a * t / b + 1) * d < c * t) : NoneBelow a b c d (t + 1) := by
  intro p q h1 h2 ⟨h3, h4⟩
  by_cases hq : q < t
  · exact h p q h1 hq ⟨h3, h4⟩
  · have : q = t := by omega
    subst this
    have h5 := (floor_lt hb).1 h3
    have : (a * q / b + 1) * d ≤ p * d := Int.mul_le_mul_of_nonneg_right h5 (by omega)
    omega

theorem noneBelow_simp {a b c d t : Int} (ha : 0 ≤ a) (hb : 0 < b) (ht : 1 ≤ t) (h : NoneBelow a b c d t) (hn : (a * t / b + 1) * d < c * t) : Qm.Simp a b c d (a * t / b + 1) t := by
  refine ⟨ht, (floor_lt hb).2 (Int.le_refl _), hn, fun p q h1 h2 h3 => ?_⟩
  have hq : t ≤ q := by
    rcases Int.lt_or_le q t with hq | hq
    · exact absurd ⟨h2, h3⟩ (h p q h1 hq)
    · exact hq
  refine ⟨hq, (floor_lt hb).1 ?_⟩
  have : a * t ≤ a * q := Int.mul_le_mul_of_nonneg_left hq ha
  omega

theorem noneBelow_end {a b c d : Int} (h : NoneBelow a b c d 1048577) (p q : Int) (hs : Qm.Simp a b c d p q) : Qm.ofR p q = (0, 0, 5) := by
  have hq : 1048577 ≤ q := by
    rcases Int.lt_or_le q 1048577 with hq | hq
    · exact absurd ⟨hs.2.1, hs.2.2.1⟩ (h p q hs.1 hq)
    · exact hq
  rw [Qm.ofR_lowest (by omega) hs.low, if_pos (by omega)]

set_option maxHeartbeats 2000000 in
set_option maxRecDepth 100000 in
theorem sbtw_pos (a b c d : Int) (R : Int × Int × Int) (w : World) (ha : 0 ≤ a) (ha2 : a ≤ 1099511627776) (hb : 1 ≤ b) (hb2 : b ≤ 1048576) (hc : 0 ≤ c) (hc2 : c ≤ 1099511627776) (hd : 1 ≤ d) (hd2 : d ≤ 1048576)
    (hR : ∀ p q, Qm.Simp a b c d p q → R = Qm.ofR p q) (hex : ∃ p q, Qm.Simp a b c d p q)
    (K1 : Hid (∀ w, Calls Try.prog 29 #[rv a b, rv c d] w fun e w' => e = .returned (.int .i64 0) ∧ Below w.heap.size w w'))
    (K2 : Hid (∀ w, Calls Try.prog 33 #[rv a b, rv c d] w fun e w' => e = .returned (.bool true) ∧ Below w.heap.size w w')) :
    Calls Try.prog 32 #[rv a b, rv c d] w fun e w' => e = .returned (rve R) ∧ Below w.heap.size w w' := by
  have HB0 := Lib.hid ((((Below.refl w.heap.size w).alloc (Nat.le_refl _) (Obj.cells #[.int .i64 a, .int .i64 b] 26)).alloc (by simp) (Obj.cells #[.int .i64 c, .int .i64 d] 26)).alloc (by simp; omega) (Obj.cells #[.int .i64 0, .int .i64 0] 26))
  have HC0 := Lib.hid (Below.refl (three w (.int .i64 a) (.int .i64 b) (.int .i64 c) (.int .i64 d) (.int .i64 0) (.int .i64 0) 26).heap.size (three w (.int .i64 a) (.int .i64 b) (.int .i64 c) (.int .i64 d) (.int .i64 0) (.int .i64 0) 26))
  have HR := Lib.hid hR
  have HX := Lib.hid hex
  clear hR hex
  have hr0 := Int.emod_nonneg a (by omega : b ≠ 0)
  have hr1 := Int.emod_lt_of_pos a (by omega : 0 < b)
  have hk0 : 0 ≤ a / b := Int.ediv_nonneg ha (by omega)
  have hk1 : a / b ≤ a := Int.ediv_le_self _ ha
  have hcr0 := Int.emod_nonneg c (by omega : d ≠ 0)
  have hcr1 := Int.emod_lt_of_pos c (by omega : 0 < d)
  have hck0 : 0 ≤ c / d := Int.ediv_nonneg hc (by omega)
  have hck1 : c / d ≤ c := Int.ediv_le_self _ hc
  have hsp := Lib.hid (fun t : Int => part_split a t (show 0 < b by omega))
  have hfr := Lib.hid (fun n t : Int => fun ht : 0 < t => frac_lt (n := n) (t := t) (c := c) (d := d) ht (by omega))
  generalize hk : a / b = k at *
  generalize hr : a % b = r at *
  generalize hck : c / d = u at *
  generalize hcr : c % d = v at *
  have ha' : decide (a < 0) = false := decide_eq_false (by omega)
  unfold rv at *
  go_enter Try.func32, Try.ntmps32
  go_wp2_with fail
  refine (K1.out _).mono ?_
  rintro e w1 ⟨rfl, hB⟩
  have B1 := Lib.hid hB
  have HB1 := Lib.hid (HB0.out.trans (hB.mono HB0.out.size))
  have HC1 := Lib.hid (HC0.out.trans (hB.mono HC0.out.size))
  clear hB
  obtain ⟨q1_0, q1_1, q1_2, q1_3, q1_4, q1_5, q1_6, q1_7, q1_8⟩ := box_3 HC1.out
  go_wp2_with fail
  refine (K2.out _).mono ?_
  rintro e w2 ⟨rfl, hB⟩
  have B2 := Lib.hid hB
  have HB2 := Lib.hid (HB1.out.trans (hB.mono HB1.out.size))
  have HC2 := Lib.hid (HC1.out.trans (hB.mono HC1.out.size))
  clear hB
  obtain ⟨q2_0, q2_1, q2_2, q2_3, q2_4, q2_5, q2_6, q2_7, q2_8⟩ := box_3 HC2.out
  go_wp2
  go_loopw [10] (fun x wz => ∃ t : Int, x = .int .i64 t ∧ 1 ≤ t ∧ t ≤ 1048577 ∧ Hid (NoneBelow a b c d t) ∧ Hid (Below w.heap.size w wz) ∧ Hid (Below (three w (.int .i64 a) (.int .i64 b) (.int .i64 c) (.int .i64 d) (.int .i64 0) (.int .i64 0) 26).heap.size (three w (.int .i64 a) (.int .i64 b) (.int .i64 c) (.int .i64 d) (.int .i64 0) (.int .i64 0) 26) wz)) (fun x _ => (1048577 - intOf x).toNat)
  case atStart => exact ⟨1, rfl, by omega, by omega, fun p q h1 h2 => by omega, HB2.out, HC2.out⟩
  case round =>
    obtain ⟨t, rfl, ht1, ht2, hN, HB3, HC3⟩ := hrel
    obtain ⟨q3_0, q3_1, q3_2, q3_3, q3_4, q3_5, q3_6, q3_7, q3_8⟩ := box_3 HC3.out
    clear q1_0 q1_1 q1_2 q1_3 q1_4 q1_5 q1_6 q1_7 q1_8 q2_0 q2_1 q2_2 q2_3 q2_4 q2_5 q2_6 q2_7 q2_8
    by_cases ht : t ≤ 1048576
    · have hrt := Qm.mul_pos (b := r + 1) (d := t) (by omega) (by omega) ht1 ht
      have hrt0 : 0 ≤ r * t := Int.mul_nonneg hr0 (by omega)
      have hrt1 : r * t ≤ 1099511627776 := by rw [Int.add_mul] at hrt; omega
      have hkt := mul_le_big' (x := k) (y := t) hk0 (by omega) (by omega) ht
      obtain ⟨hkt0, hkt1⟩ := hkt
      have hs0 : 0 ≤ r * t / b := Int.ediv_nonneg hrt0 (by omega)
      have hs1 : r * t / b ≤ r * t := Int.ediv_le_self _ hrt0
      have hsplit := Lib.hid (hsp.out t)
      have hfrac := Lib.hid (hfr.out (k * t + r * t / b + 1) t (by omega))
      have hn1 : 1 ≤ k * t + r * t / b + 1 := by omega
      have hn2 : k * t + r * t / b + 1 ≤ 9223372036854775000 := by omega
      generalize hs : r * t / b = s at *
      generalize hn : k * t + s + 1 = n at *
      have hm0 := Int.emod_nonneg n (by omega : t ≠ 0)
      have hm1 := Int.emod_lt_of_pos n (by omega : 0 < t)
      have hx0 : 0 ≤ n / t := Int.ediv_nonneg (by omega) (by omega)
      have hx1 : n / t ≤ n := Int.ediv_le_self _ (by omega)
      generalize hx : n / t = x at *
      generalize hm : n % t = m at *
      have hmd := Qm.mul_pos (b := m + 1) (d := d) (by omega) (by omega) hd hd2
      have hmd0 : 0 ≤ m * d := Int.mul_nonneg hm0 (by omega)
      have hmd1 : m * d ≤ 1099511627776 := by rw [Int.add_mul] at hmd; omega
      have hvt := Qm.mul_pos (b := v + 1) (d := t) (by omega) (by omega) ht1 ht
      have hvt0 : 0 ≤ v * t := Int.mul_nonneg hcr0 (by omega)
      have hvt1 : v * t ≤ 1099511627776 := by rw [Int.add_mul] at hvt; omega
      clear hrt hmd hvt
      have hnn : Hid (a * t / b + 1 = n) := Lib.hid (by rw [hsplit.out]; exact hn)
      by_cases hF : n * d < c * t
      · have HE : Hid (R = Qm.ofR n t) := Lib.hid (by
          have := HR.out _ _ (noneBelow_simp ha (by omega) ht1 hN.out (by rw [hnn.out]; exact hF))
          rw [hnn.out] at this
          exact this)
        have K3 : Hid (∀ w, Calls Try.prog 37 #[.int .i64 n, .int .i64 t] w fun e w' => e = .returned (rve R) ∧ Below w.heap.size w w') := Lib.hid fun w => by
          rw [HE.out]
          exact of_any n t w ⟨by omega, by omega⟩ ⟨by omega, by omega⟩ (by omega)
        have hor := hfrac.out.2 hF
        clear hF
        rcases hor with h1 | ⟨h1, h2⟩
        · clear hN hnn HE HR HX hfrac hsplit hfr hsp
          go_wp2
          go_quiet (fail)
          rename Nat => n1
          go_wp2
          go_quiet (fail)
          replace HB3 := Lib.hid (below_drewN HB3.out (n1 + nq))
          replace HC3 := Lib.hid (below_drewN HC3.out (n1 + nq))
          go_wp2_with fail
          refine (K3.out _).mono ?_
          rintro e w4 ⟨rfl, hB⟩
          have B4 := Lib.hid hB
          have HB4 := Lib.hid (HB3.out.trans (hB.mono HB3.out.size))
          have HC4 := Lib.hid (HC3.out.trans (hB.mono HC3.out.size))
          clear hB
          obtain ⟨q4_0, q4_1, q4_2, q4_3, q4_4, q4_5, q4_6, q4_7, q4_8⟩ := box_3 HC4.out
          unfold rve
          go_wp2
          exact bodyPost_ret (v := rve R) (by simp [results, Try.results32, go_sem, q4_4, q4_5, rve]) rfl ⟨rfl, (HB4.out.setCell (p := ⟨w.heap.size + 2, 0, none⟩) (by simp) _).setCell (p := ⟨w.heap.size + 2, 1, none⟩) (by simp) _⟩
        · subst h1
          clear hN hnn HE HR HX hfrac hsplit hfr hsp
          go_wp2
          go_quiet (fail)
          rename Nat => n1
          go_wp2
          go_quiet (fail)
          replace HB3 := Lib.hid (below_drewN HB3.out (n1 + nq))
          replace HC3 := Lib.hid (below_drewN HC3.out (n1 + nq))
          go_wp2_with fail
          refine (K3.out _).mono ?_
          rintro e w4 ⟨rfl, hB⟩
          have B4 := Lib.hid hB
          have HB4 := Lib.hid (HB3.out.trans (hB.mono HB3.out.size))
          have HC4 := Lib.hid (HC3.out.trans (hB.mono HC3.out.size))
          clear hB
          obtain ⟨q4_0, q4_1, q4_2, q4_3, q4_4, q4_5, q4_6, q4_7, q4_8⟩ := box_3 HC4.out
          unfold rve
          go_wp2
          exact bodyPost_ret (v := rve R) (by simp [results, Try.results32, go_sem, q4_4, q4_5, rve]) rfl ⟨rfl, (HB4.out.setCell (p := ⟨w.heap.size + 2, 0, none⟩) (by simp) _).setCell (p := ⟨w.heap.size + 2, 1, none⟩) (by simp) _⟩
      · have hN2 := Lib.hid (noneBelow_step (t := t) (show 0 < b by omega) (show 0 < d by omega) hN.out (by rw [hnn.out]; exact hF))
        have hor : u < x ∨ (x = u ∧ v * t ≤ m * d) := by
          rcases Int.lt_trichotomy x u with h | h | h
          · exact absurd (hfrac.out.1 (.inl h)) hF
          · refine .inr ⟨h, ?_⟩
            rcases Int.lt_or_le (m * d) (v * t) with h2 | h2
            · exact absurd (hfrac.out.1 (.inr ⟨h, h2⟩)) hF
            · exact h2
          · exact .inl h
        clear hF
        rcases hor with h1 | ⟨h1, h2⟩
        · have he : (x == u) = false := by simp; omega
          have hl : decide (x < u) = false := decide_eq_false (by omega)
          clear hN hnn HR HX hfrac hsplit hfr hsp
          go_wp2
          go_quiet (fail)
          rename Nat => n1
          go_wp2
          go_quiet (fail)
          replace HB3 := Lib.hid (below_drewN HB3.out (n1 + nq))
          replace HC3 := Lib.hid (below_drewN HC3.out (n1 + nq))
          go_wp2
          go_roundw
          case rel => exact ⟨t + 1, rfl, by omega, by omega, hN2.out, HB3.out, HC3.out⟩
          case measure => simp [intOf]; omega
        · subst h1
          have hl : decide (m * d < v * t) = false := decide_eq_false (by omega)
          clear hN hnn HR HX hfrac hsplit hfr hsp
          go_wp2
          go_quiet (fail)
          rename Nat => n1
          go_wp2
          go_quiet (fail)
          replace HB3 := Lib.hid (below_drewN HB3.out (n1 + nq))
          replace HC3 := Lib.hid (below_drewN HC3.out (n1 + nq))
          go_wp2
          go_roundw
          case rel => exact ⟨t + 1, rfl, by omega, by omega, hN2.out, HB3.out, HC3.out⟩
          case measure => simp [intOf]; omega
    · have ht3 : t = 1048577 := by omega
      subst ht3
      have HE : Hid (R = (0, 0, 5)) := Lib.hid (by
        obtain ⟨p, q, hs⟩ := HX.out
        rw [HR.out p q hs]
        exact noneBelow_end hN.out p q hs)
      go_wp2
      exact bodyPost_ret (v := rve (0, 0, 5)) (by simp [results, Try.results32, go_sem, q3_4, q3_5, rve]) rfl ⟨by rw [HE.out], (HB3.out.setCell (p := ⟨w.heap.size + 2, 0, none⟩) (by simp) _).setCell (p := ⟨w.heap.size + 2, 1, none⟩) (by simp) _⟩


end Go.Proofs.Ytloddocibfbkpaa
