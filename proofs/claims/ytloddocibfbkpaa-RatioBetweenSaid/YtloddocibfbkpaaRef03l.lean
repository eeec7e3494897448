/- Contracts of priorartref03: Between, put together. -/
import Derived.Test.YtloddocibfbkpaaRef03k
namespace Go.Proofs.Ytloddocibfbkpaa
open Go.RowKit Go.Shelf

theorem sbtw_any (a b c d : Int) (w : World) :
    Calls Try.prog 32 #[rv a b, rv c d] w (BtwOut a b c d w) := by
  have k1 := fun (a b c d : Int) w => both_any a b c d w
  rcases Qm.bothI_two a b c d with e1 | e1
  · obtain ⟨o, o'⟩ := Qm.bothI_ok.1 e1
    have k2 := fun w => less_any a b c d w o o'
    have K1 : Hid (∀ w, Calls Try.prog 29 #[rv a b, rv c d] w fun e w' => e = .returned (.int .i64 0) ∧ Below w.heap.size w w') := Lib.hid fun w => by
      have := k1 a b c d w
      rw [e1] at this
      exact this
    by_cases hlt : a * d < c * b
    · rw [decide_eq_true hlt] at k2
      have K2 := Lib.hid k2
      have o1 := o.1; have o2 := o.2.1; have o3 := o.2.2.1; have o4 := o.2.2.2.1
      have o1' := o'.1; have o2' := o'.2.1; have o3' := o'.2.2.1; have o4' := o'.2.2.2.1
      by_cases h1 : a < 0
      · by_cases h2 : 0 < c
        · exact (sbtw_zero a b c d w h1 h2 K1 K2).mono fun e w' ⟨he, hw⟩ => ⟨_, .inr (.inr ⟨e1, hlt, .inl ⟨h1, h2, rfl⟩⟩), he, hw⟩
        · have hlt2 : -c * b < -a * d := by rw [Int.neg_mul, Int.neg_mul]; omega
          obtain ⟨p, q, hs⟩ := Qm.simp_exists _ (-c) d (-a) b (Nat.le_refl _) (by omega) o1' (by omega) hlt2
          have hq := hs.1
          have og : Qm.Ok (-c) d := ⟨o1', o2', by omega, by omega, by have := o'.2.2.2.2; unfold Qm.g at *; simpa using this⟩
          have og' : Qm.Ok (-a) b := ⟨o1, o2, by omega, by omega, by have := o.2.2.2.2; unfold Qm.g at *; simpa using this⟩
          have e2 : Qm.bothI (-c) d (-a) b = 0 := Qm.bothI_ok.2 ⟨og, og'⟩
          have J1 : Hid (∀ w, Calls Try.prog 29 #[rv (-c) d, rv (-a) b] w fun e w' => e = .returned (.int .i64 0) ∧ Below w.heap.size w w') := Lib.hid fun w => by
            have := k1 (-c) d (-a) b w
            rw [e2] at this
            exact this
          have J2 : Hid (∀ w, Calls Try.prog 33 #[rv (-c) d, rv (-a) b] w fun e w' => e = .returned (.bool true) ∧ Below w.heap.size w w') := Lib.hid fun w => by
            have := less_any (-c) d (-a) b w og og'
            rw [decide_eq_true hlt2] at this
            exact this
          have K5 := Lib.hid (fun w => sbtw_pos (-c) d (-a) b (Qm.ofR p q) w (by omega) (by omega) o1' o2' (by omega) (by omega) o1 o2 (fun p' q' h => by rw [(hs.one h).1, (hs.one h).2]) ⟨p, q, hs⟩ J1 J2)
          have hR := Qm.ofR_negl (p := p) hq
          have hbd : -1099511627776 ≤ (Qm.ofR p q).1 ∧ (Qm.ofR p q).1 ≤ 1099511627776 := by
            rcases Qm.ofR_out (n := p) (d := q) (by omega) with e | ⟨x, y, e, ho, _⟩
            · rw [e]; exact ⟨by decide, by decide⟩
            · rw [e]; exact ⟨ho.2.2.1, ho.2.2.2.1⟩
          have K3 := Lib.hid (fun w => neg_any c d w (by omega) (by omega))
          have K4 := Lib.hid (fun w => neg_any a b w (by omega) (by omega))
          have K6 := Lib.hid (fun w => neg_any (Qm.ofR p q).1 (Qm.ofR p q).2.1 w (by omega) (by omega))
          refine (sbtw_neg a b c d (Qm.ofR p q).1 (Qm.ofR p q).2.1 (Qm.ofR p q).2.2 w h1 (by omega) K1 K2 K3 K4 K5 K6).mono fun e w' ⟨he, hw⟩ => ⟨_, .inr (.inr ⟨e1, hlt, .inr (.inr ⟨h1, by omega, p, q, hs, hR.symm⟩)⟩), he, hw⟩
      · have hc0 : 0 ≤ c := by
          have h3 : 0 ≤ a * d := Int.mul_nonneg (by omega) (by omega)
          have h4 : 0 * b < c * b := by omega
          have := Int.lt_of_mul_lt_mul_right h4 (by omega)
          omega
        obtain ⟨p, q, hs⟩ := Qm.simp_exists _ a b c d (Nat.le_refl _) (by omega) o1 (by omega) hlt
        exact (sbtw_pos a b c d (Qm.ofR p q) w (by omega) o4 o1 o2 hc0 o4' o1' o2' (fun p' q' h => by rw [(hs.one h).1, (hs.one h).2]) ⟨p, q, hs⟩ K1 K2).mono fun e w' ⟨he, hw⟩ => ⟨_, .inr (.inr ⟨e1, hlt, .inr (.inl ⟨by omega, p, q, hs, rfl⟩)⟩), he, hw⟩
    · rw [decide_eq_false hlt] at k2
      exact (sbtw_order a b c d w K1 (Lib.hid k2)).mono fun e w' ⟨he, hw⟩ => ⟨_, .inr (.inl ⟨e1, hlt, rfl⟩), he, hw⟩
  · have K1 : Hid (∀ w, Calls Try.prog 29 #[rv a b, rv c d] w fun e w' => e = .returned (.int .i64 1) ∧ Below w.heap.size w w') := Lib.hid fun w => by
      have := k1 a b c d w
      rw [e1] at this
      exact this
    exact (sbtw_err a b c d w K1).mono fun e w' ⟨he, hw⟩ => ⟨_, .inl ⟨e1, rfl⟩, he, hw⟩

end Go.Proofs.Ytloddocibfbkpaa
