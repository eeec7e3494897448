/- Contracts of package ratio: Valid, validPair. -/
import Derived.Test.YthjnodmhfhoilaaRat2
namespace Go.Proofs.Ythjnodmhfhoilaa
open Go.RowKit Go.Shelf

theorem newR_cases (n d : Int) : (Qm.Ok n d ∧ Qm.newR n d = (n, d, 0)) ∨ (¬ Qm.Ok n d ∧ ∃ a b, Qm.newR n d = (a, b, 0) ∧ (a ≠ n ∨ b ≠ d)) ∨ (¬ Qm.Ok n d ∧ ∃ k, Qm.newR n d = (0, 0, k) ∧ 1 ≤ k ∧ k ≤ 5) := by
  by_cases h : Qm.Ok n d
  · refine .inl ⟨h, ?_⟩
    unfold Qm.newR
    rw [if_neg (by have := h.1; omega), Qm.ofR_ok h]
  · refine .inr ?_
    unfold Qm.newR
    by_cases h0 : d = 0
    · rw [if_pos h0]
      exact .inr ⟨h, 1, rfl, by omega, by omega⟩
    · rw [if_neg h0]
      rcases Qm.ofR_out (n := n) h0 with e | ⟨a, b, e, o, m⟩
      · exact .inr ⟨h, 5, e, by omega, by omega⟩
      · refine .inl ⟨h, a, b, e, ?_⟩
        by_cases ha : a = n
        · right
          rintro rfl
          rw [ha] at o
          exact h o
        · exact .inl ha

set_option maxHeartbeats 1000000 in
set_option maxRecDepth 100000 in
theorem rvalid_any (n d : Int) (w : World) (hn : -9223372036854775808 ≤ n ∧ n ≤ 9223372036854775807) (hd : -9223372036854775808 ≤ d ∧ d ≤ 9223372036854775807) :
    Calls Try.prog 53 #[rv n d] w fun e w' => e = .returned (.int .i64 (Qm.validI n d)) ∧ Below w.heap.size w w' := by
  have HB0 := Lib.hid ((Below.refl w.heap.size w).alloc (Nat.le_refl _) (Obj.cells #[.int .i64 n, .int .i64 d] 25))
  have k1 := fun w => rnew_any n d w hn hd
  rcases newR_cases n d with ⟨o, e⟩ | ⟨o, a, b, e, hab⟩ | ⟨o, k, e, hk1, hk2⟩
  · have HE := Lib.hid (Qm.validI_ok.2 o)
    rw [e] at k1
    have K1 := Lib.hid k1
    clear k1 e o
    generalize Qm.validI n d = R at *
    unfold rv rve at *
    go_enter Try.func53, Try.ntmps53
    go_wp2_with fail
    refine (K1.out _).mono ?_
    rintro e w1 ⟨rfl, hB⟩
    have B1 := Lib.hid hB
    have HB1 := Lib.hid (HB0.out.trans (hB.mono HB0.out.size))
    clear hB
    obtain ⟨hc0, hc1, hf0, hf1, hz⟩ := box_r B1.out
    go_wp2
    all_goals
      go_ret
      exact ⟨ret_int HE.out.symm, HB1.out.alloc (by omega) _⟩
  · have HE : Hid (Qm.validI n d = 1) := Lib.hid (by unfold Qm.validI; rw [if_neg o])
    rw [e] at k1
    have K1 := Lib.hid k1
    clear k1 e o
    generalize Qm.validI n d = R at *
    unfold rv rve at *
    go_enter Try.func53, Try.ntmps53
    go_wp2_with fail
    refine (K1.out _).mono ?_
    rintro e w1 ⟨rfl, hB⟩
    have B1 := Lib.hid hB
    have HB1 := Lib.hid (HB0.out.trans (hB.mono HB0.out.size))
    clear hB
    obtain ⟨hc0, hc1, hf0, hf1, hz⟩ := box_r B1.out
    go_wp2
    all_goals
      go_ret
      exact ⟨ret_int HE.out.symm, HB1.out.alloc (by omega) _⟩
  · have HE : Hid (Qm.validI n d = 1) := Lib.hid (by unfold Qm.validI; rw [if_neg o])
    rw [e] at k1
    have K1 := Lib.hid k1
    have hk : (k != 0) = true := by simp; omega
    clear k1 e o
    generalize Qm.validI n d = R at *
    unfold rv rve at *
    go_enter Try.func53, Try.ntmps53
    go_wp2_with fail
    refine (K1.out _).mono ?_
    rintro e w1 ⟨rfl, hB⟩
    have B1 := Lib.hid hB
    have HB1 := Lib.hid (HB0.out.trans (hB.mono HB0.out.size))
    clear hB
    obtain ⟨hc0, hc1, hf0, hf1, hz⟩ := box_r B1.out
    go_wp2
    all_goals
      go_ret
      exact ⟨ret_int HE.out.symm, HB1.out.alloc (by omega) _⟩

/-- An int of 64 bits. -/
def I64 (n : Int) : Prop := -9223372036854775808 ≤ n ∧ n ≤ 9223372036854775807

set_option maxHeartbeats 1000000 in
set_option maxRecDepth 100000 in
theorem rpair_any (a b c d : Int) (w : World) (ha : I64 a) (hb : I64 b) (hc : I64 c) (hd : I64 d) :
    Calls Try.prog 92 #[rv a b, rv c d] w fun e w' => e = .returned (.int .i64 (Qm.bothI a b c d)) ∧ Below w.heap.size w w' := by
  have HB0 := Lib.hid (((Below.refl w.heap.size w).alloc (Nat.le_refl _) (Obj.cells #[.int .i64 a, .int .i64 b] 25)).alloc (by simp) (Obj.cells #[.int .i64 c, .int .i64 d] 25))
  have HC0 := Lib.hid (Below.refl (two w (.int .i64 a) (.int .i64 b) (.int .i64 c) (.int .i64 d) 25).heap.size (two w (.int .i64 a) (.int .i64 b) (.int .i64 c) (.int .i64 d) 25))
  have k1 := fun w => rvalid_any a b w ha hb
  have k2 := fun w => rvalid_any c d w hc hd
  rcases Qm.validI_two a b with e1 | e1
  · have HE : Hid (Qm.bothI a b c d = Qm.validI c d) := by
      unfold Qm.bothI
      rcases Qm.validI_two c d with e2 | e2
      · rw [e1, e2, if_pos ⟨rfl, rfl⟩]; exact rfl
      · rw [e1, e2, if_neg (by decide)]; exact rfl
    rw [e1] at k1
    have K1 := Lib.hid k1
    have K2 := Lib.hid k2
    clear k1 k2 e1
    generalize Qm.bothI a b c d = R at *
    generalize Qm.validI c d = V at *
    unfold rv at *
    go_enter Try.func92, Try.ntmps92
    go_wp2_with fail
    refine (K1.out _).mono ?_
    rintro e w1 ⟨rfl, hB⟩
    have B1 := Lib.hid hB
    have HB1 := Lib.hid (HB0.out.trans (hB.mono HB0.out.size))
    have HC1 := Lib.hid (HC0.out.trans (hB.mono HC0.out.size))
    clear hB
    obtain ⟨q1_0, q1_1, q1_2, q1_3, q1_4⟩ := box_2 HC1.out
    go_wp2_with fail
    refine (K2.out _).mono ?_
    rintro e w2 ⟨rfl, hB⟩
    have B2 := Lib.hid hB
    have HB2 := Lib.hid (HB1.out.trans (hB.mono HB1.out.size))
    have HC2 := Lib.hid (HC1.out.trans (hB.mono HC1.out.size))
    clear hB
    obtain ⟨q2_0, q2_1, q2_2, q2_3, q2_4⟩ := box_2 HC2.out
    go_wp2
    go_ret
    exact ⟨ret_int HE.out.symm, HB2.out⟩
  · have HE : Hid (Qm.bothI a b c d = 1) := by unfold Qm.bothI; rw [e1, if_neg (fun h => absurd h.1 (by decide))]; exact rfl
    rw [e1] at k1
    have K1 := Lib.hid k1
    clear k1 k2 e1
    generalize Qm.bothI a b c d = R at *
    unfold rv at *
    go_enter Try.func92, Try.ntmps92
    go_wp2_with fail
    refine (K1.out _).mono ?_
    rintro e w1 ⟨rfl, hB⟩
    have B1 := Lib.hid hB
    have HB1 := Lib.hid (HB0.out.trans (hB.mono HB0.out.size))
    have HC1 := Lib.hid (HC0.out.trans (hB.mono HC0.out.size))
    clear hB
    obtain ⟨q1_0, q1_1, q1_2, q1_3, q1_4⟩ := box_2 HC1.out
    go_wp2
    go_ret
    exact ⟨ret_int HE.out.symm, HB1.out⟩

end Go.Proofs.Ythjnodmhfhoilaa
