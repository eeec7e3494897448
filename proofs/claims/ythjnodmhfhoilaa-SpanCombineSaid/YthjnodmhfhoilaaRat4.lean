/- Contracts of package ratio: Cmp, Add, Sub, Div, Floor. -/
import Derived.Test.YthjnodmhfhoilaaRat3
import Derived.Test.YthjnodmhfhoilaaRef03h
namespace Go.Proofs.Ythjnodmhfhoilaa
open Go.RowKit Go.Shelf

set_option maxHeartbeats 1000000 in
theorem isNaN_any (x : Int) (w : World) :
    Calls Try.prog 105 #[.int .i64 x] w fun e w' => e = .returned (.bool false) ∧ w = w' := by
  go_enter Try.func105, Try.ntmps105
  go_wp2
  go_ret
  exact ⟨by simp, rfl⟩

set_option maxHeartbeats 1000000 in
theorem compare_any (x y : Int) (w : World) :
    Calls Try.prog 93 #[.int .i64 x, .int .i64 y] w fun e w' => e = .returned (.int .i64 (if x < y then -1 else if y < x then 1 else 0)) ∧ w = w' := by
  have K1 := Lib.hid (fun x w => isNaN_any x w)
  by_cases h1 : x < y
  · rw [if_pos h1]
    go_enter Try.func93, Try.ntmps93
    go_wp2_with fail
    refine (K1.out _ _).mono ?_
    rintro e w' ⟨rfl, rfl⟩
    go_wp2_with fail
    refine (K1.out _ _).mono ?_
    rintro e w' ⟨rfl, rfl⟩
    go_wp2
    go_ret
    exact ⟨rfl, rfl⟩
  · rw [if_neg h1]
    by_cases h2 : y < x
    · rw [if_pos h2]
      go_enter Try.func93, Try.ntmps93
      go_wp2_with fail
      refine (K1.out _ _).mono ?_
      rintro e w' ⟨rfl, rfl⟩
      go_wp2_with fail
      refine (K1.out _ _).mono ?_
      rintro e w' ⟨rfl, rfl⟩
      go_wp2
      go_ret
      exact ⟨rfl, rfl⟩
    · rw [if_neg h2]
      go_enter Try.func93, Try.ntmps93
      go_wp2_with fail
      refine (K1.out _ _).mono ?_
      rintro e w' ⟨rfl, rfl⟩
      go_wp2_with fail
      refine (K1.out _ _).mono ?_
      rintro e w' ⟨rfl, rfl⟩
      go_wp2
      go_ret
      exact ⟨rfl, rfl⟩

set_option maxHeartbeats 1000000 in
set_option maxRecDepth 100000 in
theorem rcmp_any (a b c d : Int) (w : World) (ha : I64 a) (hb : I64 b) (hc : I64 c) (hd : I64 d) :
    Calls Try.prog 64 #[rv a b, rv c d] w fun e w' => e = .returned (.tuple #[.int .i64 (cmpR a b c d).1, .int .i64 (cmpR a b c d).2]) ∧ Below w.heap.size w w' := by
  have HB0 := Lib.hid (((Below.refl w.heap.size w).alloc (Nat.le_refl _) (Obj.cells #[.int .i64 a, .int .i64 b] 25)).alloc (by simp) (Obj.cells #[.int .i64 c, .int .i64 d] 25))
  have HC0 := Lib.hid (Below.refl (two w (.int .i64 a) (.int .i64 b) (.int .i64 c) (.int .i64 d) 25).heap.size (two w (.int .i64 a) (.int .i64 b) (.int .i64 c) (.int .i64 d) 25))
  have k1 := fun w => rpair_any a b c d w ha hb hc hd
  rcases Qm.bothI_two a b c d with e1 | e1
  · obtain ⟨o, o'⟩ := Qm.bothI_ok.1 e1
    have h1 := Qm.mul_small o.2.2.1 o.2.2.2.1 o'.1 o'.2.1
    have h2 := Qm.mul_small o'.2.2.1 o'.2.2.2.1 o.1 o.2.1
    obtain ⟨h11, h12⟩ := h1
    obtain ⟨h21, h22⟩ := h2
    have k2 := fun w => compare_any (a * d) (c * b) w
    have HE : Hid (cmpR a b c d = ((if a * d < c * b then -1 else if c * b < a * d then 1 else 0), 0)) := Lib.hid (by unfold cmpR; rw [if_pos e1]; rfl)
    rw [e1] at k1
    generalize (if a * d < c * b then (-1 : Int) else if c * b < a * d then 1 else 0) = V at *
    generalize cmpR a b c d = R at *
    have K1 := Lib.hid k1
    have K2 := Lib.hid k2
    clear k1 k2 e1 o o' ha hb hc hd
    unfold rv at *
    go_enter Try.func64, Try.ntmps64
    go_wp2_with fail
    refine (K1.out _).mono ?_
    rintro e w1 ⟨rfl, hB⟩
    have B1 := Lib.hid hB
    have HB1 := Lib.hid (HB0.out.trans (hB.mono HB0.out.size))
    have HC1 := Lib.hid (HC0.out.trans (hB.mono HC0.out.size))
    clear hB
    obtain ⟨q1_0, q1_1, q1_2, q1_3, q1_4⟩ := box_2 HC1.out
    go_wp2_with fail
    refine (K2.out _).mono ?_
    rintro e w' ⟨rfl, rfl⟩
    go_wp2
    go_ret2
    exact ⟨by rw [HE.out]; exact rfl, HB1.out⟩
  · have hE : cmpR a b c d = (0, 1) := by unfold cmpR; rw [if_neg (by rw [e1]; decide)]
    rw [e1] at k1
    have HE := Lib.hid hE
    have K1 := Lib.hid k1
    clear k1 e1 hE
    generalize cmpR a b c d = R at *
    unfold rv at *
    go_enter Try.func64, Try.ntmps64
    go_wp2_with fail
    refine (K1.out _).mono ?_
    rintro e w1 ⟨rfl, hB⟩
    have B1 := Lib.hid hB
    have HB1 := Lib.hid (HB0.out.trans (hB.mono HB0.out.size))
    have HC1 := Lib.hid (HC0.out.trans (hB.mono HC0.out.size))
    clear hB
    obtain ⟨q1_0, q1_1, q1_2, q1_3, q1_4⟩ := box_2 HC1.out
    go_wp2
    go_ret2
    exact ⟨by rw [HE.out]; exact rfl, HB1.out⟩



end Go.Proofs.Ythjnodmhfhoilaa
