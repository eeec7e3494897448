/- Contracts of package ratio: Valid, validPair. -/
import Derived.Test.YtelhpndlejommaaGreatRat2
namespace Go.Proofs.YtelhpndlejommaaGreat
open Go.RowKit Go.Shelf

theorem newR_cases (n d : Int) : (Qm.Ok n d ∧ Qm.newR n d = (n, d, 0)) ∨ (¬ Qm.Ok n d ∧ ∃ a b, Qm.newR n d = (a, b, 0) ∧ (a ≠ n ∨ b ≠ d)) ∨ (¬ Qm.Ok n d ∧ ∃ k, Qm.newR n d = (0, 0, k) ∧ 1 ≤ k ∧ k ≤ 5) := by
  by_cases h : Qm.Ok n d
  · refine .inl ⟨h, ?_⟩
    unfold Qm.newR
    rw [if_neg (by have := h.1; omega), Qm.ofR_ok h]
  · refine .inr ?_
    unfold Qm.newR
    by_cases h0 : d = 0
    · rw [if_pos h0]
      exact .inr ⟨h, 1, rfl, by omega, by omega⟩
    · rw [if_neg h0]
      rcases Qm.ofR_out (n := n) h0 with e | ⟨a, b, e, o, m⟩
      · exact .inr ⟨h, 5, e, by omega, by omega⟩
      · refine .inl ⟨h, a, b, e, ?_⟩
        by_cases ha : a = n
        · right
          rintro rfl
          rw [ha] at o
          exact h o
        · exact .inl ha

set_option maxHeartbeats 1000000 in
set_option maxRecDepth 100000 in
theorem rvalid_any (n d : Int) (w : World) (hn : -9223372036854775808 ≤ n ∧ n ≤ 9223372036854775807) (hd : -9223372036854775808 ≤ d ∧ d ≤ 9223372036854775807) :
    Calls Tryz.prog 51 #[rv n d] w fun e w' => e = .returned (.int .i64 (Qm.validI n d)) ∧ Below w.heap.size w w' := by
  have HB0 := Lib.hid ((Below.refl w.heap.size w).alloc (Nat.le_refl _) (Obj.cells #[.int .i64 n, .int .i64 d] 44))
  have k1 := fun w => rnew_any n d w hn hd
  rcases newR_cases n d with ⟨o, e⟩ | ⟨o, a, b, e, hab⟩ | ⟨o, k, e, hk1, hk2⟩
  · have HE := Lib.hid (Qm.validI_ok.2 o)
    rw [e] at k1
    have K1 := Lib.hid k1
    clear k1 e o
    generalize Qm.validI n d = R at *
    unfold rv rve at *
    go_enter Tryz.func51, Tryz.ntmps51
    go_wp2_with fail
    refine (K1.out _).mono ?_
    rintro e w1 ⟨rfl, hB⟩
    have B1 := Lib.hid hB
    have HB1 := Lib.hid (HB0.out.trans (hB.mono HB0.out.size))
    clear hB
    obtain ⟨hc0, hc1, hf0, hf1, hz⟩ := box_r B1.out
    go_wp2
    all_goals
      go_ret
      exact ⟨ret_int HE.out.symm, HB1.out.alloc (by omega) _⟩
  · have HE : Hid (Qm.validI n d = 1) := Lib.hid (by unfold Qm.validI; rw [if_neg o])
    rw [e] at k1
    have K1 := Lib.hid k1
    clear k1 e o
    generalize Qm.validI n d = R at *
    unfold rv rve at *
    go_enter Tryz.func51, Tryz.ntmps51
    go_wp2_with fail
    refine (K1.out _).mono ?_
    rintro e w1 ⟨rfl, hB⟩
    have B1 := Lib.hid hB
    have HB1 := Lib.hid (HB0.out.trans (hB.mono HB0.out.size))
    clear hB
    obtain ⟨hc0, hc1, hf0, hf1, hz⟩ := box_r B1.out
    go_wp2
    all_goals
      go_ret
      exact ⟨ret_int HE.out.symm, HB1.out.alloc (by omega) _⟩
  · have HE : Hid (Qm.validI n d = 1) := Lib.hid (by unfold Qm.validI; rw [if_neg o])
    rw [e] at k1
    have K1 := Lib.hid k1
    have hk : (k != 0) = true := by simp; omega
    clear k1 e o
    generalize Qm.validI n d = R at *
    unfold rv rve at *
    go_enter Tryz.func51, Tryz.ntmps51
    go_wp2_with fail
    refine (K1.out _).mono ?_
    rintro e w1 ⟨rfl, hB⟩
    have B1 := Lib.hid hB
    have HB1 := Lib.hid (HB0.out.trans (hB.mono HB0.out.size))
    clear hB
    obtain ⟨hc0, hc1, hf0, hf1, hz⟩ := box_r B1.out
    go_wp2
    all_goals
      go_ret
      exact ⟨ret_int HE.out.symm, HB1.out.alloc (by omega) _⟩

/-- An int of 64 bits. -/
def I64 (n : Int) : Prop := -9223372036854775808 ≤ n ∧ n ≤ 9223372036854775807


end Go.Proofs.YtelhpndlejommaaGreat
