/- Contracts of priorartref03: Neg, New, Add, Mul, Inverse, Div, Part. -/
import Derived.Test.YtloddocibfbkpaaRef03b
namespace Go.Proofs.Ytloddocibfbkpaa
open Go.RowKit Go.Shelf

set_option maxHeartbeats 1000000 in
set_option maxRecDepth 100000 in
theorem neg_any (n d : Int) (w : World) (h1 : -9223372036854775807 ≤ n) (h2 : n ≤ 9223372036854775807) :
    Calls Try.prog 30 #[rv n d] w fun e w' => e = .returned (rv (-n) d) ∧ Below w.heap.size w w' := by
  unfold rv
  go_enter Try.func30, Try.ntmps30
  go_wp2
  exact bodyPost_ret (v := rv (-n) d) (by simp [results, Try.results30, go_sem, rv]) rfl ⟨rfl, ((Below.refl w.heap.size w).alloc (Nat.le_refl _) _).alloc (by simp) _⟩

/-- What Add returns. -/
def addR (a b c d : Int) : Int × Int × Int := if Qm.bothI a b c d = 0 then Qm.ofR (a * d + c * b) (b * d) else (0, 0, 1)

set_option maxHeartbeats 1000000 in
set_option maxRecDepth 100000 in
theorem add_any (a b c d : Int) (w : World) :
    Calls Try.prog 23 #[rv a b, rv c d] w fun e w' => e = .returned (rve (addR a b c d)) ∧ Below w.heap.size w w' := by
  have HB0 := Lib.hid ((((Below.refl w.heap.size w).alloc (Nat.le_refl _) (Obj.cells #[.int .i64 a, .int .i64 b] 26)).alloc (by simp) (Obj.cells #[.int .i64 c, .int .i64 d] 26)).alloc (by simp; omega) (Obj.cells #[.int .i64 0, .int .i64 0] 26))
  have HC0 := Lib.hid (Below.refl (three w (.int .i64 a) (.int .i64 b) (.int .i64 c) (.int .i64 d) (.int .i64 0) (.int .i64 0) 26).heap.size (three w (.int .i64 a) (.int .i64 b) (.int .i64 c) (.int .i64 d) (.int .i64 0) (.int .i64 0) 26))
  have k1 := fun w => both_any a b c d w
  rcases Qm.bothI_two a b c d with e1 | e1
  · obtain ⟨o, o'⟩ := Qm.bothI_ok.1 e1
    have m1 := Qm.mul_small o.2.2.1 o.2.2.2.1 o'.1 o'.2.1
    have m2 := Qm.mul_small o'.2.2.1 o'.2.2.2.1 o.1 o.2.1
    have m3 := Qm.mul_pos o.1 o.2.1 o'.1 o'.2.1
    obtain ⟨m11, m12⟩ := m1
    obtain ⟨m21, m22⟩ := m2
    obtain ⟨m31, m32⟩ := m3
    have k2 := fun w => of_any (a * d + c * b) (b * d) w (by omega) (by omega) (by omega)
    have hE : addR a b c d = Qm.ofR (a * d + c * b) (b * d) := by unfold addR; rw [if_pos e1]
    rw [← hE] at k2
    rw [e1] at k1
    have K1 := Lib.hid k1
    have K2 := Lib.hid k2
    clear k1 k2 e1 hE o o'
    generalize addR a b c d = R at *
    unfold rv at *
    go_enter Try.func23, Try.ntmps23
    go_wp2_with fail
    refine (K1.out _).mono ?_
    rintro e w1 ⟨rfl, hB⟩
    have B1 := Lib.hid hB
    have HB1 := Lib.hid (HB0.out.trans (hB.mono HB0.out.size))
    have HC1 := Lib.hid (HC0.out.trans (hB.mono HC0.out.size))
    clear hB
    obtain ⟨q1_0, q1_1, q1_2, q1_3, q1_4, q1_5, q1_6, q1_7, q1_8⟩ := box_3 HC1.out
    go_wp2_with fail
    refine (K2.out _).mono ?_
    rintro e w2 ⟨rfl, hB⟩
    have B2 := Lib.hid hB
    have HB2 := Lib.hid (HB1.out.trans (hB.mono HB1.out.size))
    have HC2 := Lib.hid (HC1.out.trans (hB.mono HC1.out.size))
    clear hB
    obtain ⟨q2_0, q2_1, q2_2, q2_3, q2_4, q2_5, q2_6, q2_7, q2_8⟩ := box_3 HC2.out
    unfold rve
    go_wp2
    exact bodyPost_ret (v := rve R) (by simp [results, Try.results23, go_sem, q2_4, q2_5, rve]) rfl ⟨rfl, (HB2.out.setCell (p := ⟨w.heap.size + 2, 0, none⟩) (by simp) _).setCell (p := ⟨w.heap.size + 2, 1, none⟩) (by simp) _⟩
  · have hE : addR a b c d = (0, 0, 1) := by unfold addR; rw [if_neg (by rw [e1]; decide)]
    rw [e1] at k1
    have HE := Lib.hid hE
    have K1 := Lib.hid k1
    clear k1 e1 hE
    generalize addR a b c d = R at *
    unfold rv at *
    go_enter Try.func23, Try.ntmps23
    go_wp2_with fail
    refine (K1.out _).mono ?_
    rintro e w1 ⟨rfl, hB⟩
    have B1 := Lib.hid hB
    have HB1 := Lib.hid (HB0.out.trans (hB.mono HB0.out.size))
    have HC1 := Lib.hid (HC0.out.trans (hB.mono HC0.out.size))
    clear hB
    obtain ⟨q1_0, q1_1, q1_2, q1_3, q1_4, q1_5, q1_6, q1_7, q1_8⟩ := box_3 HC1.out
    go_wp2
    exact bodyPost_ret (v := rve (0, 0, 1)) (by simp [results, Try.results23, go_sem, q1_4, q1_5, rve]) rfl ⟨by rw [HE.out], (HB1.out.setCell (p := ⟨w.heap.size + 2, 0, none⟩) (by simp) _).setCell (p := ⟨w.heap.size + 2, 1, none⟩) (by simp) _⟩

/-- What New returns is halved first. -/
theorem new_two {p q : Int} (hp : p.tmod 2 = 0) (hq : q.tmod 2 = 0) (h : q ≠ 0) : 2 * p.tdiv 2 = p ∧ 2 * q.tdiv 2 = q ∧ q.tdiv 2 ≠ 0 ∧ Qm.ofR (p.tdiv 2) (q.tdiv 2) = Qm.ofR p q := by
  have e1 := Int.mul_tdiv_add_tmod p 2
  have e2 := Int.mul_tdiv_add_tmod q 2
  have h3 : q.tdiv 2 ≠ 0 := by intro h0; rw [h0] at e2; omega
  refine ⟨by omega, by omega, h3, ?_⟩
  have e := Qm.ofR_mul (k := 2) (n := p.tdiv 2) (by omega) h3
  rw [← e]
  congr 1 <;> omega

set_option maxHeartbeats 1000000 in
set_option maxRecDepth 100000 in
theorem new_any (n d : Int) (w : World) (hn : -9223372036854775808 ≤ n ∧ n ≤ 9223372036854775807) (hd : -9223372036854775808 ≤ d ∧ d ≤ 9223372036854775807) :
    Calls Try.prog 10 #[.int .i64 n, .int .i64 d] w fun e w' => e = .returned (rve (Qm.newR n d)) ∧ Below w.heap.size w w' := by
  obtain ⟨hn1, hn2⟩ := hn
  obtain ⟨hd1, hd2⟩ := hd
  have HB0 := Lib.hid ((Below.refl w.heap.size w).alloc (Nat.le_refl _) (Obj.cells #[.int .i64 0, .int .i64 0] 26))
  by_cases h0 : d = 0
  · have hE : Qm.newR n d = (0, 0, 1) := by unfold Qm.newR; rw [if_pos h0]
    have HE := Lib.hid hE
    clear hE
    generalize Qm.newR n d = R at *
    subst h0
    go_enter Try.func10, Try.ntmps10
    go_wp2
    exact bodyPost_ret (v := rve (0, 0, 1)) (by simp [results, Try.results10, go_sem, rve]) rfl ⟨by rw [HE.out], HB0.out⟩
  · have hE : Qm.newR n d = Qm.ofR n d := by unfold Qm.newR; rw [if_neg h0]
    rw [hE]
    clear hE
    generalize hR : Qm.ofR n d = R at *
    go_enter Try.func10, Try.ntmps10
    go_wp2
    go_loop [0, 1] (fun x y => ∃ p q : Int, x = .int .i64 p ∧ y = .int .i64 q ∧ q ≠ 0 ∧ Qm.ofR p q = R ∧ -9223372036854775808 ≤ p ∧ p ≤ 9223372036854775807 ∧ -9223372036854775808 ≤ q ∧ q ≤ 9223372036854775807) (fun _ y => (intOf y).natAbs)
    case atStart => exact ⟨n, d, rfl, rfl, h0, hR, hn1, hn2, hd1, hd2⟩
    case round =>
      obtain ⟨p, q, rfl, rfl, hq0, hE, hp1, hp2, hq1, hq2⟩ := hrel
      by_cases hp : p.tmod 2 = 0
      · by_cases hq : q.tmod 2 = 0
        · obtain ⟨e1, e2, e3, e4⟩ := new_two hp hq hq0
          have HE := Lib.hid (e4.trans hE)
          clear e4 hE
          have f1 : -4611686018427387904 ≤ p.tdiv 2 := by omega
          have f2 : p.tdiv 2 ≤ 4611686018427387904 := by omega
          have f3 : -4611686018427387904 ≤ q.tdiv 2 := by omega
          have f4 : q.tdiv 2 ≤ 4611686018427387904 := by omega
          go_wp2
          go_round
          case rel => exact ⟨p.tdiv 2, q.tdiv 2, rfl, rfl, e3, HE.out, by omega, by omega, by omega, by omega⟩
          case measure => show (q.tdiv 2).natAbs < q.natAbs; omega
        · by_cases hm : p = -9223372036854775808
          · subst hm
            have HE := Lib.hid (hE.symm.trans (Qm.ofR_big_n hq))
            clear hE
            have hb2 : (q == -9223372036854775808) = false := by simpa using (fun e : q = -9223372036854775808 => hq (by rw [e]; decide))
            go_wp2
            exact bodyPost_ret (v := rve (0, 0, 5)) (by simp [results, Try.results10, go_sem, rve]) rfl ⟨by rw [HE.out], HB0.out⟩
          · have hm2 : -9223372036854775807 ≤ p := by omega
            have hm3 : -9223372036854775807 ≤ q := by
              by_cases e : q = -9223372036854775808
              · rw [e] at hq; exact absurd (by decide) hq
              · omega
            have k1 := fun w => of_any p q w ⟨by omega, by omega⟩ ⟨by omega, by omega⟩ hq0
            rw [hE] at k1
            have K1 := Lib.hid k1
            have hb1 : (p == -9223372036854775808) = false := by simpa using (by omega : ¬ p = -9223372036854775808)
            have hb2 : (q == -9223372036854775808) = false := by simpa using (by omega : ¬ q = -9223372036854775808)
            clear k1 hE
            go_wp2_with fail
            refine (K1.out _).mono ?_
            rintro e w1 ⟨rfl, hB⟩
            have B1 := Lib.hid hB
            have HB1 := Lib.hid (HB0.out.trans (hB.mono HB0.out.size))
            clear hB
            unfold rve
            obtain ⟨hc0, hc1, hf0, hf1, hz⟩ := box_r B1.out
            go_wp2
            exact bodyPost_ret (v := rve R) (by simp [results, Try.results10, go_sem, hc0, hc1, rve]) rfl ⟨rfl, (HB1.out.setCell (p := ⟨w.heap.size, 0, none⟩) (Nat.le_refl _) _).setCell (p := ⟨w.heap.size, 1, none⟩) (Nat.le_refl _) _⟩
      · by_cases hm : q = -9223372036854775808
        · subst hm
          have HE := Lib.hid (hE.symm.trans (Qm.ofR_big_d hp))
          clear hE
          have hb2 : (p == -9223372036854775808) = false := by simpa using (fun e : p = -9223372036854775808 => hp (by rw [e]; decide))
          go_wp2
          exact bodyPost_ret (v := rve (0, 0, 5)) (by simp [results, Try.results10, go_sem, rve]) rfl ⟨by rw [HE.out], HB0.out⟩
        · have hm2 : -9223372036854775807 ≤ q := by omega
          have hm3 : -9223372036854775807 ≤ p := by
            by_cases e : p = -9223372036854775808
            · rw [e] at hp; exact absurd (by decide) hp
            · omega
          have k1 := fun w => of_any p q w ⟨by omega, by omega⟩ ⟨by omega, by omega⟩ hq0
          rw [hE] at k1
          have K1 := Lib.hid k1
          have hb1 : (p == -9223372036854775808) = false := by simpa using (by omega : ¬ p = -9223372036854775808)
          have hb2 : (q == -9223372036854775808) = false := by simpa using (by omega : ¬ q = -9223372036854775808)
          clear k1 hE
          go_wp2_with fail
          refine (K1.out _).mono ?_
          rintro e w1 ⟨rfl, hB⟩
          have B1 := Lib.hid hB
          have HB1 := Lib.hid (HB0.out.trans (hB.mono HB0.out.size))
          clear hB
          unfold rve
          obtain ⟨hc0, hc1, hf0, hf1, hz⟩ := box_r B1.out
          go_wp2
          exact bodyPost_ret (v := rve R) (by simp [results, Try.results10, go_sem, hc0, hc1, rve]) rfl ⟨rfl, (HB1.out.setCell (p := ⟨w.heap.size, 0, none⟩) (Nat.le_refl _) _).setCell (p := ⟨w.heap.size, 1, none⟩) (Nat.le_refl _) _⟩

end Go.Proofs.Ytloddocibfbkpaa
