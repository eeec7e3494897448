/- Contracts of package ratio: Cmp, Add, Sub, Div, Floor. -/
import Derived.Test.YtloddocibfbkpaaRat3
import Derived.Test.YtloddocibfbkpaaRef03h
namespace Go.Proofs.Ytloddocibfbkpaa
open Go.RowKit Go.Shelf

set_option maxHeartbeats 1000000 in
theorem isNaN_any (x : Int) (w : World) :
    Calls Try.prog 48 #[.int .i64 x] w fun e w' => e = .returned (.bool false) ∧ w = w' := by
  go_enter Try.func48, Try.ntmps48
  go_wp2
  go_ret
  exact ⟨by simp, rfl⟩

set_option maxHeartbeats 1000000 in
theorem compare_any (x y : Int) (w : World) :
    Calls Try.prog 42 #[.int .i64 x, .int .i64 y] w fun e w' => e = .returned (.int .i64 (if x < y then -1 else if y < x then 1 else 0)) ∧ w = w' := by
  have K1 := Lib.hid (fun x w => isNaN_any x w)
  by_cases h1 : x < y
  · rw [if_pos h1]
    go_enter Try.func42, Try.ntmps42
    go_wp2_with fail
    refine (K1.out _ _).mono ?_
    rintro e w' ⟨rfl, rfl⟩
    go_wp2_with fail
    refine (K1.out _ _).mono ?_
    rintro e w' ⟨rfl, rfl⟩
    go_wp2
    go_ret
    exact ⟨rfl, rfl⟩
  · rw [if_neg h1]
    by_cases h2 : y < x
    · rw [if_pos h2]
      go_enter Try.func42, Try.ntmps42
      go_wp2_with fail
      refine (K1.out _ _).mono ?_
      rintro e w' ⟨rfl, rfl⟩
      go_wp2_with fail
      refine (K1.out _ _).mono ?_
      rintro e w' ⟨rfl, rfl⟩
      go_wp2
      go_ret
      exact ⟨rfl, rfl⟩
    · rw [if_neg h2]
      go_enter Try.func42, Try.ntmps42
      go_wp2_with fail
      refine (K1.out _ _).mono ?_
      rintro e w' ⟨rfl, rfl⟩
      go_wp2_with fail
      refine (K1.out _ _).mono ?_
      rintro e w' ⟨rfl, rfl⟩
      go_wp2
      go_ret
      exact ⟨rfl, rfl⟩

set_option maxHeartbeats 1000000 in
set_option maxRecDepth 100000 in
theorem rcmp_any (a b c d : Int) (w : World) (ha : I64 a) (hb : I64 b) (hc : I64 c) (hd : I64 d) :
    Calls Try.prog 20 #[rv a b, rv c d] w fun e w' => e = .returned (.tuple #[.int .i64 (cmpR a b c d).1, .int .i64 (cmpR a b c d).2]) ∧ Below w.heap.size w w' := by
  have HB0 := Lib.hid (((Below.refl w.heap.size w).alloc (Nat.le_refl _) (Obj.cells #[.int .i64 a, .int .i64 b] 26)).alloc (by simp) (Obj.cells #[.int .i64 c, .int .i64 d] 26))
  have HC0 := Lib.hid (Below.refl (two w (.int .i64 a) (.int .i64 b) (.int .i64 c) (.int .i64 d) 26).heap.size (two w (.int .i64 a) (.int .i64 b) (.int .i64 c) (.int .i64 d) 26))
  have k1 := fun w => rpair_any a b c d w ha hb hc hd
  rcases Qm.bothI_two a b c d with e1 | e1
  · obtain ⟨o, o'⟩ := Qm.bothI_ok.1 e1
    have h1 := Qm.mul_small o.2.2.1 o.2.2.2.1 o'.1 o'.2.1
    have h2 := Qm.mul_small o'.2.2.1 o'.2.2.2.1 o.1 o.2.1
    obtain ⟨h11, h12⟩ := h1
    obtain ⟨h21, h22⟩ := h2
    have k2 := fun w => compare_any (a * d) (c * b) w
    have HE : Hid (cmpR a b c d = ((if a * d < c * b then -1 else if c * b < a * d then 1 else 0), 0)) := Lib.hid (by unfold cmpR; rw [if_pos e1]; rfl)
    rw [e1] at k1
    generalize (if a * d < c * b then (-1 : Int) else if c * b < a * d then 1 else 0) = V at *
    generalize cmpR a b c d = R at *
    have K1 := Lib.hid k1
    have K2 := Lib.hid k2
    clear k1 k2 e1 o o' ha hb hc hd
    unfold rv at *
    go_enter Try.func20, Try.ntmps20
    go_wp2_with fail
    refine (K1.out _).mono ?_
    rintro e w1 ⟨rfl, hB⟩
    have B1 := Lib.hid hB
    have HB1 := Lib.hid (HB0.out.trans (hB.mono HB0.out.size))
    have HC1 := Lib.hid (HC0.out.trans (hB.mono HC0.out.size))
    clear hB
    obtain ⟨q1_0, q1_1, q1_2, q1_3, q1_4⟩ := box_2 HC1.out
    go_wp2_with fail
    refine (K2.out _).mono ?_
    rintro e w' ⟨rfl, rfl⟩
    go_wp2
    go_ret2
    exact ⟨by rw [HE.out]; exact rfl, HB1.out⟩
  · have hE : cmpR a b c d = (0, 1) := by unfold cmpR; rw [if_neg (by rw [e1]; decide)]
    rw [e1] at k1
    have HE := Lib.hid hE
    have K1 := Lib.hid k1
    clear k1 e1 hE
    generalize cmpR a b c d = R at *
    unfold rv at *
    go_enter Try.func20, Try.ntmps20
    go_wp2_with fail
    refine (K1.out _).mono ?_
    rintro e w1 ⟨rfl, hB⟩
    have B1 := Lib.hid hB
    have HB1 := Lib.hid (HB0.out.trans (hB.mono HB0.out.size))
    have HC1 := Lib.hid (HC0.out.trans (hB.mono HC0.out.size))
    clear hB
    obtain ⟨q1_0, q1_1, q1_2, q1_3, q1_4⟩ := box_2 HC1.out
    go_wp2
    go_ret2
    exact ⟨by rw [HE.out]; exact rfl, HB1.out⟩

set_option maxHeartbeats 1000000 in
set_option maxRecDepth 100000 in
theorem radd_any (a b c d : Int) (w : World) (ha : I64 a) (hb : I64 b) (hc : I64 c) (hd : I64 d) :
    Calls Try.prog 22 #[rv a b, rv c d] w fun e w' => e = .returned (rve (addR a b c d)) ∧ Below w.heap.size w w' := by
  have HB0 := Lib.hid ((((Below.refl w.heap.size w).alloc (Nat.le_refl _) (Obj.cells #[.int .i64 a, .int .i64 b] 26)).alloc (by simp) (Obj.cells #[.int .i64 c, .int .i64 d] 26)).alloc (by simp; omega) (Obj.cells #[.int .i64 0, .int .i64 0] 26))
  have HC0 := Lib.hid (Below.refl (three w (.int .i64 a) (.int .i64 b) (.int .i64 c) (.int .i64 d) (.int .i64 0) (.int .i64 0) 26).heap.size (three w (.int .i64 a) (.int .i64 b) (.int .i64 c) (.int .i64 d) (.int .i64 0) (.int .i64 0) 26))
  have k1 := fun w => rpair_any a b c d w ha hb hc hd
  rcases Qm.bothI_two a b c d with e1 | e1
  · obtain ⟨o, o'⟩ := Qm.bothI_ok.1 e1
    have m1 := Qm.mul_small o.2.2.1 o.2.2.2.1 o'.1 o'.2.1
    have m2 := Qm.mul_small o'.2.2.1 o'.2.2.2.1 o.1 o.2.1
    have m3 := Qm.mul_pos o.1 o.2.1 o'.1 o'.2.1
    obtain ⟨m11, m12⟩ := m1
    obtain ⟨m21, m22⟩ := m2
    obtain ⟨m31, m32⟩ := m3
    have k2 := fun w => rnew_any (a * d + c * b) (b * d) w (by omega) (by omega)
    have hE : addR a b c d = Qm.newR (a * d + c * b) (b * d) := by unfold addR Qm.newR; rw [if_pos e1, if_neg (by omega)]
    rw [← hE] at k2
    rw [e1] at k1
    have K1 := Lib.hid k1
    have K2 := Lib.hid k2
    clear k1 k2 e1 hE o o' ha hb hc hd
    generalize addR a b c d = R at *
    unfold rv at *
    go_enter Try.func22, Try.ntmps22
    go_wp2_with fail
    refine (K1.out _).mono ?_
    rintro e w1 ⟨rfl, hB⟩
    have B1 := Lib.hid hB
    have HB1 := Lib.hid (HB0.out.trans (hB.mono HB0.out.size))
    have HC1 := Lib.hid (HC0.out.trans (hB.mono HC0.out.size))
    clear hB
    obtain ⟨q1_0, q1_1, q1_2, q1_3, q1_4, q1_5, q1_6, q1_7, q1_8⟩ := box_3 HC1.out
    go_wp2_with fail
    refine (K2.out _).mono ?_
    rintro e w2 ⟨rfl, hB⟩
    have B2 := Lib.hid hB
    have HB2 := Lib.hid (HB1.out.trans (hB.mono HB1.out.size))
    have HC2 := Lib.hid (HC1.out.trans (hB.mono HC1.out.size))
    clear hB
    obtain ⟨q2_0, q2_1, q2_2, q2_3, q2_4, q2_5, q2_6, q2_7, q2_8⟩ := box_3 HC2.out
    unfold rve
    go_wp2
    exact bodyPost_ret (v := rve R) (by simp [results, Try.results22, go_sem, q2_4, q2_5, rve]) rfl ⟨rfl, (HB2.out.setCell (p := ⟨w.heap.size + 2, 0, none⟩) (by simp) _).setCell (p := ⟨w.heap.size + 2, 1, none⟩) (by simp) _⟩
  · have hE : addR a b c d = (0, 0, 1) := by unfold addR; rw [if_neg (by rw [e1]; decide)]
    rw [e1] at k1
    have HE := Lib.hid hE
    have K1 := Lib.hid k1
    clear k1 e1 hE
    generalize addR a b c d = R at *
    unfold rv at *
    go_enter Try.func22, Try.ntmps22
    go_wp2_with fail
    refine (K1.out _).mono ?_
    rintro e w1 ⟨rfl, hB⟩
    have B1 := Lib.hid hB
    have HB1 := Lib.hid (HB0.out.trans (hB.mono HB0.out.size))
    have HC1 := Lib.hid (HC0.out.trans (hB.mono HC0.out.size))
    clear hB
    obtain ⟨q1_0, q1_1, q1_2, q1_3, q1_4, q1_5, q1_6, q1_7, q1_8⟩ := box_3 HC1.out
    go_wp2
    exact bodyPost_ret (v := rve (0, 0, 1)) (by simp [results, Try.results22, go_sem, q1_4, q1_5, rve]) rfl ⟨by rw [HE.out], (HB1.out.setCell (p := ⟨w.heap.size + 2, 0, none⟩) (by simp) _).setCell (p := ⟨w.heap.size + 2, 1, none⟩) (by simp) _⟩

set_option maxHeartbeats 1000000 in
set_option maxRecDepth 100000 in
theorem rdiv_any (a b c d : Int) (w : World) (ha : I64 a) (hb : I64 b) (hc : I64 c) (hd : I64 d) :
    Calls Try.prog 26 #[rv a b, rv c d] w fun e w' => e = .returned (rve (divR a b c d)) ∧ Below w.heap.size w w' := by
  have HB0 := Lib.hid ((((Below.refl w.heap.size w).alloc (Nat.le_refl _) (Obj.cells #[.int .i64 a, .int .i64 b] 26)).alloc (by simp) (Obj.cells #[.int .i64 c, .int .i64 d] 26)).alloc (by simp; omega) (Obj.cells #[.int .i64 0, .int .i64 0] 26))
  have HC0 := Lib.hid (Below.refl (three w (.int .i64 a) (.int .i64 b) (.int .i64 c) (.int .i64 d) (.int .i64 0) (.int .i64 0) 26).heap.size (three w (.int .i64 a) (.int .i64 b) (.int .i64 c) (.int .i64 d) (.int .i64 0) (.int .i64 0) 26))
  have k1 := fun w => rpair_any a b c d w ha hb hc hd
  rcases Qm.bothI_two a b c d with e1 | e1
  · obtain ⟨o, o'⟩ := Qm.bothI_ok.1 e1
    have m1 := Qm.mul_small o.2.2.1 o.2.2.2.1 o'.1 o'.2.1
    have m2 := Qm.mul_small o'.2.2.1 o'.2.2.2.1 o.1 o.2.1
    rw [Int.mul_comm c b] at m2
    obtain ⟨m11, m12⟩ := m1
    obtain ⟨m21, m22⟩ := m2
    have k2 := fun w => rnew_any (a * d) (b * c) w (by omega) (by omega)
    have hE : divR a b c d = Qm.newR (a * d) (b * c) := by unfold divR; rw [if_pos e1]
    rw [← hE] at k2
    rw [e1] at k1
    have K1 := Lib.hid k1
    have K2 := Lib.hid k2
    clear k1 k2 e1 hE o o' ha hb hc hd
    generalize divR a b c d = R at *
    unfold rv at *
    go_enter Try.func26, Try.ntmps26
    go_wp2_with fail
    refine (K1.out _).mono ?_
    rintro e w1 ⟨rfl, hB⟩
    have B1 := Lib.hid hB
    have HB1 := Lib.hid (HB0.out.trans (hB.mono HB0.out.size))
    have HC1 := Lib.hid (HC0.out.trans (hB.mono HC0.out.size))
    clear hB
    obtain ⟨q1_0, q1_1, q1_2, q1_3, q1_4, q1_5, q1_6, q1_7, q1_8⟩ := box_3 HC1.out
    go_wp2_with fail
    refine (K2.out _).mono ?_
    rintro e w2 ⟨rfl, hB⟩
    have B2 := Lib.hid hB
    have HB2 := Lib.hid (HB1.out.trans (hB.mono HB1.out.size))
    have HC2 := Lib.hid (HC1.out.trans (hB.mono HC1.out.size))
    clear hB
    obtain ⟨q2_0, q2_1, q2_2, q2_3, q2_4, q2_5, q2_6, q2_7, q2_8⟩ := box_3 HC2.out
    unfold rve
    go_wp2
    exact bodyPost_ret (v := rve R) (by simp [results, Try.results26, go_sem, q2_4, q2_5, rve]) rfl ⟨rfl, (HB2.out.setCell (p := ⟨w.heap.size + 2, 0, none⟩) (by simp) _).setCell (p := ⟨w.heap.size + 2, 1, none⟩) (by simp) _⟩
  · have hE : divR a b c d = (0, 0, 1) := by unfold divR; rw [if_neg (by rw [e1]; decide)]
    rw [e1] at k1
    have HE := Lib.hid hE
    have K1 := Lib.hid k1
    clear k1 e1 hE
    generalize divR a b c d = R at *
    unfold rv at *
    go_enter Try.func26, Try.ntmps26
    go_wp2_with fail
    refine (K1.out _).mono ?_
    rintro e w1 ⟨rfl, hB⟩
    have B1 := Lib.hid hB
    have HB1 := Lib.hid (HB0.out.trans (hB.mono HB0.out.size))
    have HC1 := Lib.hid (HC0.out.trans (hB.mono HC0.out.size))
    clear hB
    obtain ⟨q1_0, q1_1, q1_2, q1_3, q1_4, q1_5, q1_6, q1_7, q1_8⟩ := box_3 HC1.out
    go_wp2
    exact bodyPost_ret (v := rve (0, 0, 1)) (by simp [results, Try.results26, go_sem, q1_4, q1_5, rve]) rfl ⟨by rw [HE.out], (HB1.out.setCell (p := ⟨w.heap.size + 2, 0, none⟩) (by simp) _).setCell (p := ⟨w.heap.size + 2, 1, none⟩) (by simp) _⟩

end Go.Proofs.Ytloddocibfbkpaa
