/- The law RatioField: what all its calls return, and the walk. -/
import Derived.Test.YtloddocibfbkpaaField
import Derived.Test.YtloddocibfbkpaaRef03i
import Derived.Test.YtloddocibfbkpaaRat8
import Derived.Test.YtloddocibfbkpaaLaw03a
namespace Go.Proofs.Ytloddocibfbkpaa
open Go.RowKit Go.Shelf

/-- What the calls of the law return, for three small ratios. -/
structure FieldR (a1 a2 b1 b2 c1 c2 s1 s2 t1 t2 l1 l2 x1 x2 z1 z2 m1 m2 y1 y2 o1 o2 d1 d2 v u : Int) : Prop where
  ab : addR a1 a2 b1 b2 = (s1, s2, 0)
  ba : addR b1 b2 a1 a2 = (s1, s2, 0)
  bc : addR b1 b2 c1 c2 = (t1, t2, 0)
  left : addR s1 s2 c1 c2 = (l1, l2, 0)
  right : addR a1 a2 t1 t2 = (l1, l2, 0)
  back : addR s1 s2 (negI b1) b2 = (a1, a2, 0)
  xy : mulR a1 a2 b1 b2 = (x1, x2, 0)
  yx : mulR b1 b2 a1 a2 = (x1, x2, 0)
  xz : mulR a1 a2 c1 c2 = (z1, z2, 0)
  sum : addR x1 x2 z1 z2 = (m1, m2, 0)
  whole : mulR a1 a2 t1 t2 = (m1, m2, 0)
  yz : mulR b1 b2 c1 c2 = (y1, y2, 0)
  one : mulR x1 x2 c1 c2 = (o1, o2, 0)
  two : mulR a1 a2 y1 y2 = (o1, o2, 0)
  quo0 : b1 = 0 → divR x1 x2 b1 b2 = (0, 0, 1)
  quo : b1 ≠ 0 → divR x1 x2 b1 b2 = (a1, a2, 0)
  ac : addR a1 a2 c1 c2 = (d1, d2, 0)
  cx : cmpR a1 a2 b1 b2 = (v, 0)
  cy : cmpR b1 b2 a1 a2 = (-v, 0)
  cz : cmpR l1 l2 t1 t2 = (u, 0)
  cw : cmpR a1 a2 0 1 = (u, 0)
  cu : cmpR d1 d2 t1 t2 = (v, 0)
  zero : v = 0 ↔ a1 = b1 ∧ a2 = b2
  v1 : -1 ≤ v
  v2 : v ≤ 1
  oa : Qm.Ok a1 a2
  ob : Qm.Ok b1 b2
  oc : Qm.Ok c1 c2
  os : Qm.Ok s1 s2
  ot : Qm.Ok t1 t2
  ol : Qm.Ok l1 l2
  ox : Qm.Ok x1 x2
  oz : Qm.Ok z1 z2
  oy : Qm.Ok y1 y2
  od : Qm.Ok d1 d2

theorem cmpR_ok {a b c d : Int} (o : Qm.Ok a b) (o' : Qm.Ok c d) : cmpR a b c d = (Qm.cmpI a b c d, 0) := by unfold cmpR; rw [if_pos (Qm.bothI_ok.2 ⟨o, o'⟩)]

theorem cmpI_three (a b c d : Int) : -1 ≤ Qm.cmpI a b c d ∧ Qm.cmpI a b c d ≤ 1 := by
  unfold Qm.cmpI
  split
  · omega
  · split <;> omega

theorem field_all {a1 a2 b1 b2 c1 c2 : Int} (pa : SmallP a1 a2) (pb : SmallP b1 b2) (pc : SmallP c1 c2) : ∃ s1 s2 t1 t2 l1 l2 x1 x2 z1 z2 m1 m2 y1 y2 o1 o2 d1 d2 v u, FieldR a1 a2 b1 b2 c1 c2 s1 s2 t1 t2 l1 l2 x1 x2 z1 z2 m1 m2 y1 y2 o1 o2 d1 d2 v u := by
  have A := Rep.own (P := 30) (Q := 12) pa.1 pa.2.1 pa.2.2.1 pa.2.2.2
  have B := Rep.own (P := 30) (Q := 12) pb.1 pb.2.1 pb.2.2.1 pb.2.2.2
  have C := Rep.own (P := 30) (Q := 12) pc.1 pc.2.1 pc.2.2.1 pc.2.2.2
  obtain ⟨s1, s2, e1, S⟩ := A.add B (by decide) (by decide)
  obtain ⟨s1', s2', e2, S'⟩ := B.add A (by decide) (by decide)
  obtain ⟨rfl, rfl⟩ := S.one S' (by grind)
  obtain ⟨t1, t2, e3, T⟩ := B.add C (by decide) (by decide)
  obtain ⟨l1, l2, e4, L⟩ := S.add C (by decide) (by decide)
  obtain ⟨l1', l2', e5, L'⟩ := A.add T (by decide) (by decide)
  obtain ⟨rfl, rfl⟩ := L.one L' (id_assoc ..)
  obtain ⟨k1, k2, e6, K⟩ := S.add B.neg (by decide) (by decide)
  obtain ⟨rfl, rfl⟩ := K.one A (id_back ..)
  obtain ⟨x1, x2, e7, X⟩ := A.mul B (by decide) (by decide)
  obtain ⟨x1', x2', e8, X'⟩ := B.mul A (by decide) (by decide)
  obtain ⟨rfl, rfl⟩ := X.one X' (by grind)
  obtain ⟨z1, z2, e9, Z⟩ := A.mul C (by decide) (by decide)
  obtain ⟨m1, m2, e10, M⟩ := X.add Z (by decide) (by decide)
  obtain ⟨m1', m2', e11, M'⟩ := A.mul T (by decide) (by decide)
  obtain ⟨rfl, rfl⟩ := M.one M' (id_dist ..)
  obtain ⟨y1, y2, e12, Y⟩ := B.mul C (by decide) (by decide)
  obtain ⟨o1, o2, e13, O⟩ := X.mul C (by decide) (by decide)
  obtain ⟨o1', o2', e14, O'⟩ := A.mul Y (by decide) (by decide)
  obtain ⟨rfl, rfl⟩ := O.one O' (by grind)
  obtain ⟨d1, d2, e15, D⟩ := A.add C (by decide) (by decide)
  have hA2 : 0 < k2 := by have := A.1.1; omega
  have hB2 : 0 < b2 := by have := B.1.1; omega
  have hC2 : 0 < c2 := by have := C.1.1; omega
  have N0 : Qm.Ok 0 1 := ⟨by decide, by decide, by decide, by decide, by decide⟩
  have cz : Qm.cmpI l1 l2 t1 t2 = Qm.cmpI k1 k2 0 1 := by
    rw [cmpI_val L T]
    exact cmpI_diff (K := b2 * c2 * (b2 * c2)) (Int.mul_pos (Int.mul_pos hB2 hC2) (Int.mul_pos hB2 hC2)) (id_left ..)
  have cu : Qm.cmpI d1 d2 t1 t2 = Qm.cmpI k1 k2 b1 b2 := by
    rw [cmpI_val D T]
    exact cmpI_diff (K := c2 * c2) (Int.mul_pos hC2 hC2) (id_keep ..)
  have hdiv : divR x1 x2 b1 b2 = Qm.newR (x1 * b2) (x2 * b1) := by unfold divR; rw [if_pos (Qm.bothI_ok.2 ⟨X.1, B.1⟩)]
  have hx2 : x2 ≠ 0 := ok_ne X.1
  refine ⟨s1, s2, t1, t2, l1, l2, x1, x2, z1, z2, m1, m2, y1, y2, o1, o2, d1, d2, Qm.cmpI k1 k2 b1 b2, Qm.cmpI k1 k2 0 1, ?_⟩
  exact {
    ab := e1, ba := e2, bc := e3, left := e4, right := e5
    back := by rw [negI_of (by have := B.2.2.2; omega) (by have := B.2.2.2; omega)]; exact e6
    xy := e7, yx := e8, xz := e9, sum := e10, whole := e11, yz := e12, one := e13, two := e14
    quo0 := fun h => by rw [hdiv, h, Int.mul_zero]; rfl
    quo := fun h => by
      have hne : x2 * b1 ≠ 0 := Int.mul_ne_zero hx2 h
      rw [hdiv]
      unfold Qm.newR
      rw [if_neg hne]
      refine Qm.ofR_is hne A.1 ?_
      have := X.2.2.1
      calc x1 * b2 * k2 = x1 * (k2 * b2) := by ac_rfl
        _ = k1 * (x2 * b1) := by rw [this]; ac_rfl
    ac := e15
    cx := cmpR_ok A.1 B.1
    cy := by rw [cmpR_ok B.1 A.1, cmpI_anti]
    cz := by rw [cmpR_ok L.1 T.1, cz]
    cw := cmpR_ok A.1 N0
    cu := by rw [cmpR_ok D.1 T.1, cu]
    zero := cmpI_zero A.1 B.1
    v1 := (cmpI_three ..).1
    v2 := (cmpI_three ..).2
    oa := A.1, ob := B.1, oc := C.1, os := S.1, ot := T.1, ol := L.1, ox := X.1, oz := Z.1, oy := Y.1, od := D.1 }

theorem ok_i64 {n d : Int} (o : Qm.Ok n d) : I64 n ∧ I64 d := by
  obtain ⟨h1, h2, h3, h4, _⟩ := o
  exact ⟨⟨by omega, by omega⟩, ⟨by omega, by omega⟩⟩

theorem mul4_small (m : Int) : aroundI (4 * aroundI m 9) 1048576 % 4 ≠ 3 := by
  obtain ⟨h1, h2⟩ := aroundI_range m 9 (by omega)
  generalize aroundI m 9 = x at *
  unfold aroundI
  rw [if_neg (by omega)]
  omega

theorem wf_small {z : Int} (h1 : -9223372036854775808 ≤ z) (h2 : z ≤ 9223372036854775807) : (Lit.int .i64 z).wf = true := by
  simpa [Lit.wf, IntKind.min, IntKind.max, IntKind.signed, IntKind.bits] using And.intro h1 h2

set_option maxHeartbeats 20000000 in
set_option maxRecDepth 100000 in
theorem law_field (a0 a1 a2 a3 a4 a5 : Int) (w : World) (w0 : (Lit.int .i64 a0).wf = true) (w1 : (Lit.int .i64 a1).wf = true) (w2 : (Lit.int .i64 a2).wf = true) (w3 : (Lit.int .i64 a3).wf = true) (w4 : (Lit.int .i64 a4).wf = true) (w5 : (Lit.int .i64 a5).wf = true) (KL : Lives) :
    Calls Try.prog 5 #[.int .i64 a0, .int .i64 a1, .int .i64 a2, .int .i64 a3, .int .i64 a4, .int .i64 a5] w fun e w' => e = .returned (.bool true) ∧ Below w.heap.size w w' := by
  have KL' := Lib.hid KL
  unfold Lives at KL'
  obtain ⟨j01, j02⟩ := aroundI_range a1 9 (by omega)
  have KA0 := Lib.hid (fun w => around_any a1 9 w (by omega) (by omega) w1)
  have KR0 := Lib.hid (fun w => ratio_small a0 (4 * aroundI a1 9) w w0 (wf_small (by omega) (by omega)) (mul4_small a1))
  generalize aroundI a1 9 = j0 at *
  obtain ⟨j11, j12⟩ := aroundI_range a3 9 (by omega)
  have KA1 := Lib.hid (fun w => around_any a3 9 w (by omega) (by omega) w3)
  have KR1 := Lib.hid (fun w => ratio_small a2 (4 * aroundI a3 9) w w2 (wf_small (by omega) (by omega)) (mul4_small a3))
  generalize aroundI a3 9 = j1 at *
  obtain ⟨j21, j22⟩ := aroundI_range a5 9 (by omega)
  have KA2 := Lib.hid (fun w => around_any a5 9 w (by omega) (by omega) w5)
  have KR2 := Lib.hid (fun w => ratio_small a4 (4 * aroundI a5 9) w w4 (wf_small (by omega) (by omega)) (mul4_small a5))
  generalize aroundI a5 9 = j2 at *
  clear KL w0 w1 w2 w3 w4 w5
  have H0 := Lib.hid (Below.refl w.heap.size w)
  go_enter Try.func5, Try.ntmps5
  have hw0 : w = w := rfl
  clear hw0
  go_wp2_with fail
  refine (KA0.out _).mono ?_
  rintro e w' ⟨rfl, rfl⟩
  go_wp2_with fail
  refine (KR0.out _).mono ?_
  rintro e W1 ⟨a1, a2, hA, rfl, hB⟩
  have H1 := Lib.hid (H0.out.trans (hB.mono H0.out.size))
  clear hB H0
  unfold rv
  go_wp2_with fail
  refine (KA1.out _).mono ?_
  rintro e w' ⟨rfl, rfl⟩
  go_wp2_with fail
  refine (KR1.out _).mono ?_
  rintro e W2 ⟨b1, b2, hBB, rfl, hB⟩
  have hK := (((Below.refl _ W1).alloc (Nat.le_refl _) _).trans (hB.mono (by simp)))
  have X_a := Lib.hid (BoxAt.new hB)
  have H2 := Lib.hid (H1.out.trans (hK.mono H1.out.size))
  clear hB hK H1
  unfold rv
  go_wp2_with fail
  refine (KA2.out _).mono ?_
  rintro e w' ⟨rfl, rfl⟩
  go_wp2_with fail
  refine (KR2.out _).mono ?_
  rintro e W3 ⟨c1, c2, hC, rfl, hB⟩
  have hK := (((Below.refl _ W2).alloc (Nat.le_refl _) _).trans (hB.mono (by simp)))
  have X_b := Lib.hid (BoxAt.new hB)
  replace X_a := Lib.hid (X_a.out.keep hK)
  have H3 := Lib.hid (H2.out.trans (hK.mono H2.out.size))
  clear hB hK H2
  unfold rv
  obtain ⟨s1, s2, t1, t2, l1, l2, x1, x2, z1, z2, m1, m2, y1, y2, o1, o2, d1, d2, v, u, R⟩ := field_all hA hBB hC
  have k_ab := fun w => radd_any a1 a2 b1 b2 w (ok_i64 R.oa).1 (ok_i64 R.oa).2 (ok_i64 R.ob).1 (ok_i64 R.ob).2
  rw [R.ab] at k_ab
  have K_ab := Lib.hid k_ab
  clear k_ab
  have k_ba := fun w => radd_any b1 b2 a1 a2 w (ok_i64 R.ob).1 (ok_i64 R.ob).2 (ok_i64 R.oa).1 (ok_i64 R.oa).2
  rw [R.ba] at k_ba
  have K_ba := Lib.hid k_ba
  clear k_ba
  have k_bc := fun w => radd_any b1 b2 c1 c2 w (ok_i64 R.ob).1 (ok_i64 R.ob).2 (ok_i64 R.oc).1 (ok_i64 R.oc).2
  rw [R.bc] at k_bc
  have K_bc := Lib.hid k_bc
  clear k_bc
  have k_left := fun w => radd_any s1 s2 c1 c2 w (ok_i64 R.os).1 (ok_i64 R.os).2 (ok_i64 R.oc).1 (ok_i64 R.oc).2
  rw [R.left] at k_left
  have K_left := Lib.hid k_left
  clear k_left
  have k_right := fun w => radd_any a1 a2 t1 t2 w (ok_i64 R.oa).1 (ok_i64 R.oa).2 (ok_i64 R.ot).1 (ok_i64 R.ot).2
  rw [R.right] at k_right
  have K_right := Lib.hid k_right
  clear k_right
  have k_back := fun w => rsub_any s1 s2 b1 b2 w (ok_i64 R.os).1 (ok_i64 R.os).2 (ok_i64 R.ob).2
  rw [R.back] at k_back
  have K_back := Lib.hid k_back
  clear k_back
  have k_xy := fun w => rmul_any a1 a2 b1 b2 w (ok_i64 R.oa).1 (ok_i64 R.oa).2 (ok_i64 R.ob).1 (ok_i64 R.ob).2
  rw [R.xy] at k_xy
  have K_xy := Lib.hid k_xy
  clear k_xy
  have k_yx := fun w => rmul_any b1 b2 a1 a2 w (ok_i64 R.ob).1 (ok_i64 R.ob).2 (ok_i64 R.oa).1 (ok_i64 R.oa).2
  rw [R.yx] at k_yx
  have K_yx := Lib.hid k_yx
  clear k_yx
  have k_xz := fun w => rmul_any a1 a2 c1 c2 w (ok_i64 R.oa).1 (ok_i64 R.oa).2 (ok_i64 R.oc).1 (ok_i64 R.oc).2
  rw [R.xz] at k_xz
  have K_xz := Lib.hid k_xz
  clear k_xz
  have k_sum := fun w => radd_any x1 x2 z1 z2 w (ok_i64 R.ox).1 (ok_i64 R.ox).2 (ok_i64 R.oz).1 (ok_i64 R.oz).2
  rw [R.sum] at k_sum
  have K_sum := Lib.hid k_sum
  clear k_sum
  have k_whole := fun w => rmul_any a1 a2 t1 t2 w (ok_i64 R.oa).1 (ok_i64 R.oa).2 (ok_i64 R.ot).1 (ok_i64 R.ot).2
  rw [R.whole] at k_whole
  have K_whole := Lib.hid k_whole
  clear k_whole
  have k_yz := fun w => rmul_any b1 b2 c1 c2 w (ok_i64 R.ob).1 (ok_i64 R.ob).2 (ok_i64 R.oc).1 (ok_i64 R.oc).2
  rw [R.yz] at k_yz
  have K_yz := Lib.hid k_yz
  clear k_yz
  have k_one := fun w => rmul_any x1 x2 c1 c2 w (ok_i64 R.ox).1 (ok_i64 R.ox).2 (ok_i64 R.oc).1 (ok_i64 R.oc).2
  rw [R.one] at k_one
  have K_one := Lib.hid k_one
  clear k_one
  have k_two := fun w => rmul_any a1 a2 y1 y2 w (ok_i64 R.oa).1 (ok_i64 R.oa).2 (ok_i64 R.oy).1 (ok_i64 R.oy).2
  rw [R.two] at k_two
  have K_two := Lib.hid k_two
  clear k_two
  have k_cx := fun w => rcmp_any a1 a2 b1 b2 w (ok_i64 R.oa).1 (ok_i64 R.oa).2 (ok_i64 R.ob).1 (ok_i64 R.ob).2
  rw [R.cx] at k_cx
  have K_cx := Lib.hid k_cx
  clear k_cx
  have k_cy := fun w => rcmp_any b1 b2 a1 a2 w (ok_i64 R.ob).1 (ok_i64 R.ob).2 (ok_i64 R.oa).1 (ok_i64 R.oa).2
  rw [R.cy] at k_cy
  have K_cy := Lib.hid k_cy
  clear k_cy
  have k_cz := fun w => rcmp_any l1 l2 t1 t2 w (ok_i64 R.ol).1 (ok_i64 R.ol).2 (ok_i64 R.ot).1 (ok_i64 R.ot).2
  rw [R.cz] at k_cz
  have K_cz := Lib.hid k_cz
  clear k_cz
  have k_cu := fun w => rcmp_any d1 d2 t1 t2 w (ok_i64 R.od).1 (ok_i64 R.od).2 (ok_i64 R.ot).1 (ok_i64 R.ot).2
  rw [R.cu] at k_cu
  have K_cu := Lib.hid k_cu
  clear k_cu
  have k_cw := fun w => rcmp_any a1 a2 0 1 w (ok_i64 R.oa).1 (ok_i64 R.oa).2 ⟨by decide, by decide⟩ ⟨by decide, by decide⟩
  rw [R.cw] at k_cw
  have K_cw := Lib.hid k_cw
  clear k_cw
  have k_ac := fun w => radd_any a1 a2 c1 c2 w (ok_i64 R.oa).1 (ok_i64 R.oa).2 (ok_i64 R.oc).1 (ok_i64 R.oc).2
  rw [R.ac] at k_ac
  have K_ac := Lib.hid k_ac
  clear k_ac
  have k_q := fun w => rdiv_any x1 x2 b1 b2 w (ok_i64 R.ox).1 (ok_i64 R.ox).2 (ok_i64 R.ob).1 (ok_i64 R.ob).2
  have hv1 := R.v1
  have hv2 := R.v2
  have HZ := Lib.hid R.zero
  have hq : (b1 = 0 ∧ divR x1 x2 b1 b2 = (0, 0, 1)) ∨ (b1 ≠ 0 ∧ divR x1 x2 b1 b2 = (a1, a2, 0)) := by
    by_cases h : b1 = 0
    · exact .inl ⟨h, R.quo0 h⟩
    · exact .inr ⟨h, R.quo h⟩
  have HQ := Lib.hid hq
  have K_q := Lib.hid k_q
  clear k_q R hA hBB hC hq
  unfold rv rve at *
  obtain ⟨p_a0, p_a1, -, -, p_a2⟩ := X_a.out
  obtain ⟨p_b0, p_b1, -, -, p_b2⟩ := X_b.out
  go_wp2_with fail
  refine (K_ab.out _).mono ?_
  rintro e W4 ⟨rfl, hB⟩
  clear p_a0 p_a1 p_a2 p_b0 p_b1 p_b2
  have hK := (((Below.refl _ W3).alloc (Nat.le_refl _) _).trans (hB.mono (by simp)))
  have X_c := Lib.hid (BoxAt.new hB)
  replace X_a := Lib.hid (X_a.out.keep hK)
  replace X_b := Lib.hid (X_b.out.keep hK)
  have H4 := Lib.hid (H3.out.trans (hK.mono H3.out.size))
  clear hB hK H3
  obtain ⟨p_b0, p_b1, -, -, p_b2⟩ := X_b.out
  obtain ⟨p_a0, p_a1, -, -, p_a2⟩ := X_a.out
  go_wp2_with fail
  refine (K_ba.out _).mono ?_
  rintro e W5 ⟨rfl, hB⟩
  clear p_b0 p_b1 p_b2 p_a0 p_a1 p_a2
  have hK := (((Below.refl _ W4).alloc (Nat.le_refl _) _).trans (hB.mono (by simp)))
  have X_ab := Lib.hid (BoxAt.new hB)
  replace X_a := Lib.hid (X_a.out.keep hK)
  replace X_b := Lib.hid (X_b.out.keep hK)
  replace X_c := Lib.hid (X_c.out.keep hK)
  have H5 := Lib.hid (H4.out.trans (hK.mono H4.out.size))
  clear hB hK H4
  obtain ⟨p_b0, p_b1, -, -, p_b2⟩ := X_b.out
  obtain ⟨p_c0, p_c1, -, -, p_c2⟩ := X_c.out
  go_wp2_with fail
  refine (K_bc.out _).mono ?_
  rintro e W6 ⟨rfl, hB⟩
  clear p_b0 p_b1 p_b2 p_c0 p_c1 p_c2
  have hK := (((Below.refl _ W5).alloc (Nat.le_refl _) _).trans (hB.mono (by simp)))
  have X_ba := Lib.hid (BoxAt.new hB)
  replace X_a := Lib.hid (X_a.out.keep hK)
  replace X_b := Lib.hid (X_b.out.keep hK)
  replace X_c := Lib.hid (X_c.out.keep hK)
  replace X_ab := Lib.hid (X_ab.out.keep hK)
  have H6 := Lib.hid (H5.out.trans (hK.mono H5.out.size))
  clear hB hK H5
  obtain ⟨p_ab0, p_ab1, -, -, p_ab2⟩ := X_ab.out
  obtain ⟨p_c0, p_c1, -, -, p_c2⟩ := X_c.out
  go_wp2_with fail
  refine (K_left.out _).mono ?_
  rintro e W7 ⟨rfl, hB⟩
  clear p_ab0 p_ab1 p_ab2 p_c0 p_c1 p_c2
  have hK := (((Below.refl _ W6).alloc (Nat.le_refl _) _).trans (hB.mono (by simp)))
  have X_bc := Lib.hid (BoxAt.new hB)
  replace X_a := Lib.hid (X_a.out.keep hK)
  replace X_b := Lib.hid (X_b.out.keep hK)
  replace X_c := Lib.hid (X_c.out.keep hK)
  replace X_ab := Lib.hid (X_ab.out.keep hK)
  replace X_ba := Lib.hid (X_ba.out.keep hK)
  have H7 := Lib.hid (H6.out.trans (hK.mono H6.out.size))
  clear hB hK H6
  obtain ⟨p_a0, p_a1, -, -, p_a2⟩ := X_a.out
  obtain ⟨p_bc0, p_bc1, -, -, p_bc2⟩ := X_bc.out
  go_wp2_with fail
  refine (K_right.out _).mono ?_
  rintro e W8 ⟨rfl, hB⟩
  clear p_a0 p_a1 p_a2 p_bc0 p_bc1 p_bc2
  have hK := (((Below.refl _ W7).alloc (Nat.le_refl _) _).trans (hB.mono (by simp)))
  have X_left := Lib.hid (BoxAt.new hB)
  replace X_a := Lib.hid (X_a.out.keep hK)
  replace X_b := Lib.hid (X_b.out.keep hK)
  replace X_c := Lib.hid (X_c.out.keep hK)
  replace X_ab := Lib.hid (X_ab.out.keep hK)
  replace X_ba := Lib.hid (X_ba.out.keep hK)
  replace X_bc := Lib.hid (X_bc.out.keep hK)
  have H8 := Lib.hid (H7.out.trans (hK.mono H7.out.size))
  clear hB hK H7
  obtain ⟨p_ab0, p_ab1, -, -, p_ab2⟩ := X_ab.out
  obtain ⟨p_b0, p_b1, -, -, p_b2⟩ := X_b.out
  go_wp2_with fail
  refine (K_back.out _).mono ?_
  rintro e W9 ⟨rfl, hB⟩
  clear p_ab0 p_ab1 p_ab2 p_b0 p_b1 p_b2
  have hK := (((Below.refl _ W8).alloc (Nat.le_refl _) _).trans (hB.mono (by simp)))
  have X_right := Lib.hid (BoxAt.new hB)
  replace X_a := Lib.hid (X_a.out.keep hK)
  replace X_b := Lib.hid (X_b.out.keep hK)
  replace X_c := Lib.hid (X_c.out.keep hK)
  replace X_ab := Lib.hid (X_ab.out.keep hK)
  replace X_ba := Lib.hid (X_ba.out.keep hK)
  replace X_bc := Lib.hid (X_bc.out.keep hK)
  replace X_left := Lib.hid (X_left.out.keep hK)
  have H9 := Lib.hid (H8.out.trans (hK.mono H8.out.size))
  clear hB hK H8
  obtain ⟨p_a0, p_a1, -, -, p_a2⟩ := X_a.out
  obtain ⟨p_b0, p_b1, -, -, p_b2⟩ := X_b.out
  obtain ⟨p_ab0, p_ab1, -, -, p_ab2⟩ := X_ab.out
  obtain ⟨p_ba0, p_ba1, -, -, p_ba2⟩ := X_ba.out
  obtain ⟨p_left0, p_left1, -, -, p_left2⟩ := X_left.out
  obtain ⟨p_right0, p_right1, -, -, p_right2⟩ := X_right.out
  go_wp2_with fail
  refine (K_xy.out _).mono ?_
  rintro e W10 ⟨rfl, hB⟩
  clear p_a0 p_a1 p_a2 p_b0 p_b1 p_b2 p_ab0 p_ab1 p_ab2 p_ba0 p_ba1 p_ba2 p_left0 p_left1 p_left2 p_right0 p_right1 p_right2
  have hK := (((Below.refl _ W9).alloc (Nat.le_refl _) _).trans (hB.mono (by simp)))
  have X_back := Lib.hid (BoxAt.new hB)
  replace X_a := Lib.hid (X_a.out.keep hK)
  replace X_b := Lib.hid (X_b.out.keep hK)
  replace X_c := Lib.hid (X_c.out.keep hK)
  replace X_ab := Lib.hid (X_ab.out.keep hK)
  replace X_ba := Lib.hid (X_ba.out.keep hK)
  replace X_bc := Lib.hid (X_bc.out.keep hK)
  replace X_left := Lib.hid (X_left.out.keep hK)
  replace X_right := Lib.hid (X_right.out.keep hK)
  have H10 := Lib.hid (H9.out.trans (hK.mono H9.out.size))
  clear hB hK H9
  obtain ⟨p_b0, p_b1, -, -, p_b2⟩ := X_b.out
  obtain ⟨p_a0, p_a1, -, -, p_a2⟩ := X_a.out
  go_wp2_with fail
  refine (K_yx.out _).mono ?_
  rintro e W11 ⟨rfl, hB⟩
  clear p_b0 p_b1 p_b2 p_a0 p_a1 p_a2
  have hK := (((Below.refl _ W10).alloc (Nat.le_refl _) _).trans (hB.mono (by simp)))
  have X_xy := Lib.hid (BoxAt.new hB)
  replace X_a := Lib.hid (X_a.out.keep hK)
  replace X_b := Lib.hid (X_b.out.keep hK)
  replace X_c := Lib.hid (X_c.out.keep hK)
  replace X_ab := Lib.hid (X_ab.out.keep hK)
  replace X_ba := Lib.hid (X_ba.out.keep hK)
  replace X_bc := Lib.hid (X_bc.out.keep hK)
  replace X_left := Lib.hid (X_left.out.keep hK)
  replace X_right := Lib.hid (X_right.out.keep hK)
  replace X_back := Lib.hid (X_back.out.keep hK)
  have H11 := Lib.hid (H10.out.trans (hK.mono H10.out.size))
  clear hB hK H10
  obtain ⟨p_a0, p_a1, -, -, p_a2⟩ := X_a.out
  obtain ⟨p_c0, p_c1, -, -, p_c2⟩ := X_c.out
  go_wp2_with fail
  refine (K_xz.out _).mono ?_
  rintro e W12 ⟨rfl, hB⟩
  clear p_a0 p_a1 p_a2 p_c0 p_c1 p_c2
  have hK := (((Below.refl _ W11).alloc (Nat.le_refl _) _).trans (hB.mono (by simp)))
  have X_yx := Lib.hid (BoxAt.new hB)
  replace X_a := Lib.hid (X_a.out.keep hK)
  replace X_b := Lib.hid (X_b.out.keep hK)
  replace X_c := Lib.hid (X_c.out.keep hK)
  replace X_ab := Lib.hid (X_ab.out.keep hK)
  replace X_ba := Lib.hid (X_ba.out.keep hK)
  replace X_bc := Lib.hid (X_bc.out.keep hK)
  replace X_left := Lib.hid (X_left.out.keep hK)
  replace X_right := Lib.hid (X_right.out.keep hK)
  replace X_back := Lib.hid (X_back.out.keep hK)
  replace X_xy := Lib.hid (X_xy.out.keep hK)
  have H12 := Lib.hid (H11.out.trans (hK.mono H11.out.size))
  clear hB hK H11
  obtain ⟨p_xy0, p_xy1, -, -, p_xy2⟩ := X_xy.out
  go_wp2_with fail
  refine (K_sum.out _).mono ?_
  rintro e W13 ⟨rfl, hB⟩
  clear p_xy0 p_xy1 p_xy2
  have hK := (((Below.refl _ W12).alloc (Nat.le_refl _) _).trans (hB.mono (by simp)))
  have X_xz := Lib.hid (BoxAt.new hB)
  replace X_a := Lib.hid (X_a.out.keep hK)
  replace X_b := Lib.hid (X_b.out.keep hK)
  replace X_c := Lib.hid (X_c.out.keep hK)
  replace X_ab := Lib.hid (X_ab.out.keep hK)
  replace X_ba := Lib.hid (X_ba.out.keep hK)
  replace X_bc := Lib.hid (X_bc.out.keep hK)
  replace X_left := Lib.hid (X_left.out.keep hK)
  replace X_right := Lib.hid (X_right.out.keep hK)
  replace X_back := Lib.hid (X_back.out.keep hK)
  replace X_xy := Lib.hid (X_xy.out.keep hK)
  replace X_yx := Lib.hid (X_yx.out.keep hK)
  have H13 := Lib.hid (H12.out.trans (hK.mono H12.out.size))
  clear hB hK H12
  obtain ⟨p_a0, p_a1, -, -, p_a2⟩ := X_a.out
  obtain ⟨p_bc0, p_bc1, -, -, p_bc2⟩ := X_bc.out
  go_wp2_with fail
  refine (K_whole.out _).mono ?_
  rintro e W14 ⟨rfl, hB⟩
  clear p_a0 p_a1 p_a2 p_bc0 p_bc1 p_bc2
  have hK := (((Below.refl _ W13).alloc (Nat.le_refl _) _).trans (hB.mono (by simp)))
  have X_sum := Lib.hid (BoxAt.new hB)
  replace X_a := Lib.hid (X_a.out.keep hK)
  replace X_b := Lib.hid (X_b.out.keep hK)
  replace X_c := Lib.hid (X_c.out.keep hK)
  replace X_ab := Lib.hid (X_ab.out.keep hK)
  replace X_ba := Lib.hid (X_ba.out.keep hK)
  replace X_bc := Lib.hid (X_bc.out.keep hK)
  replace X_left := Lib.hid (X_left.out.keep hK)
  replace X_right := Lib.hid (X_right.out.keep hK)
  replace X_back := Lib.hid (X_back.out.keep hK)
  replace X_xy := Lib.hid (X_xy.out.keep hK)
  replace X_yx := Lib.hid (X_yx.out.keep hK)
  replace X_xz := Lib.hid (X_xz.out.keep hK)
  have H14 := Lib.hid (H13.out.trans (hK.mono H13.out.size))
  clear hB hK H13
  obtain ⟨p_b0, p_b1, -, -, p_b2⟩ := X_b.out
  obtain ⟨p_c0, p_c1, -, -, p_c2⟩ := X_c.out
  go_wp2_with fail
  refine (K_yz.out _).mono ?_
  rintro e W15 ⟨rfl, hB⟩
  clear p_b0 p_b1 p_b2 p_c0 p_c1 p_c2
  have hK := (((Below.refl _ W14).alloc (Nat.le_refl _) _).trans (hB.mono (by simp)))
  have X_whole := Lib.hid (BoxAt.new hB)
  replace X_a := Lib.hid (X_a.out.keep hK)
  replace X_b := Lib.hid (X_b.out.keep hK)
  replace X_c := Lib.hid (X_c.out.keep hK)
  replace X_ab := Lib.hid (X_ab.out.keep hK)
  replace X_ba := Lib.hid (X_ba.out.keep hK)
  replace X_bc := Lib.hid (X_bc.out.keep hK)
  replace X_left := Lib.hid (X_left.out.keep hK)
  replace X_right := Lib.hid (X_right.out.keep hK)
  replace X_back := Lib.hid (X_back.out.keep hK)
  replace X_xy := Lib.hid (X_xy.out.keep hK)
  replace X_yx := Lib.hid (X_yx.out.keep hK)
  replace X_xz := Lib.hid (X_xz.out.keep hK)
  replace X_sum := Lib.hid (X_sum.out.keep hK)
  have H15 := Lib.hid (H14.out.trans (hK.mono H14.out.size))
  clear hB hK H14
  obtain ⟨p_xy0, p_xy1, -, -, p_xy2⟩ := X_xy.out
  obtain ⟨p_c0, p_c1, -, -, p_c2⟩ := X_c.out
  go_wp2_with fail
  refine (K_one.out _).mono ?_
  rintro e W16 ⟨rfl, hB⟩
  clear p_xy0 p_xy1 p_xy2 p_c0 p_c1 p_c2
  have hK := (((Below.refl _ W15).alloc (Nat.le_refl _) _).trans (hB.mono (by simp)))
  have X_yz := Lib.hid (BoxAt.new hB)
  replace X_a := Lib.hid (X_a.out.keep hK)
  replace X_b := Lib.hid (X_b.out.keep hK)
  replace X_c := Lib.hid (X_c.out.keep hK)
  replace X_ab := Lib.hid (X_ab.out.keep hK)
  replace X_ba := Lib.hid (X_ba.out.keep hK)
  replace X_bc := Lib.hid (X_bc.out.keep hK)
  replace X_left := Lib.hid (X_left.out.keep hK)
  replace X_right := Lib.hid (X_right.out.keep hK)
  replace X_back := Lib.hid (X_back.out.keep hK)
  replace X_xy := Lib.hid (X_xy.out.keep hK)
  replace X_yx := Lib.hid (X_yx.out.keep hK)
  replace X_xz := Lib.hid (X_xz.out.keep hK)
  replace X_sum := Lib.hid (X_sum.out.keep hK)
  replace X_whole := Lib.hid (X_whole.out.keep hK)
  have H16 := Lib.hid (H15.out.trans (hK.mono H15.out.size))
  clear hB hK H15
  obtain ⟨p_a0, p_a1, -, -, p_a2⟩ := X_a.out
  obtain ⟨p_yz0, p_yz1, -, -, p_yz2⟩ := X_yz.out
  go_wp2_with fail
  refine (K_two.out _).mono ?_
  rintro e W17 ⟨rfl, hB⟩
  clear p_a0 p_a1 p_a2 p_yz0 p_yz1 p_yz2
  have hK := (((Below.refl _ W16).alloc (Nat.le_refl _) _).trans (hB.mono (by simp)))
  have X_one := Lib.hid (BoxAt.new hB)
  replace X_a := Lib.hid (X_a.out.keep hK)
  replace X_b := Lib.hid (X_b.out.keep hK)
  replace X_c := Lib.hid (X_c.out.keep hK)
  replace X_ab := Lib.hid (X_ab.out.keep hK)
  replace X_ba := Lib.hid (X_ba.out.keep hK)
  replace X_bc := Lib.hid (X_bc.out.keep hK)
  replace X_left := Lib.hid (X_left.out.keep hK)
  replace X_right := Lib.hid (X_right.out.keep hK)
  replace X_back := Lib.hid (X_back.out.keep hK)
  replace X_xy := Lib.hid (X_xy.out.keep hK)
  replace X_yx := Lib.hid (X_yx.out.keep hK)
  replace X_xz := Lib.hid (X_xz.out.keep hK)
  replace X_sum := Lib.hid (X_sum.out.keep hK)
  replace X_whole := Lib.hid (X_whole.out.keep hK)
  replace X_yz := Lib.hid (X_yz.out.keep hK)
  have H17 := Lib.hid (H16.out.trans (hK.mono H16.out.size))
  clear hB hK H16
  rcases HQ.out with ⟨hb, e⟩ | ⟨hb, e⟩
  · have k_q := K_q.out
    rw [e] at k_q
    replace K_q := Lib.hid k_q
    have hb0 : (b1 == 0) = true := by simpa using hb
    clear k_q e hb
    obtain ⟨p_xy0, p_xy1, -, -, p_xy2⟩ := X_xy.out
    obtain ⟨p_b0, p_b1, -, -, p_b2⟩ := X_b.out
    obtain ⟨p_yx0, p_yx1, -, -, p_yx2⟩ := X_yx.out
    obtain ⟨p_sum0, p_sum1, -, -, p_sum2⟩ := X_sum.out
    obtain ⟨p_whole0, p_whole1, -, -, p_whole2⟩ := X_whole.out
    obtain ⟨p_one0, p_one1, -, -, p_one2⟩ := X_one.out
    obtain ⟨p_a0, p_a1, -, -, p_a2⟩ := X_a.out
    go_wp2_with fail
    refine (K_q.out _).mono ?_
    rintro e W18 ⟨rfl, hB⟩
    clear p_xy0 p_xy1 p_xy2 p_b0 p_b1 p_b2 p_yx0 p_yx1 p_yx2 p_sum0 p_sum1 p_sum2 p_whole0 p_whole1 p_whole2 p_one0 p_one1 p_one2 p_a0 p_a1 p_a2
    have hK := (((Below.refl _ W17).alloc (Nat.le_refl _) _).trans (hB.mono (by simp)))
    have X_two := Lib.hid (BoxAt.new hB)
    replace X_a := Lib.hid (X_a.out.keep hK)
    replace X_b := Lib.hid (X_b.out.keep hK)
    replace X_c := Lib.hid (X_c.out.keep hK)
    replace X_ab := Lib.hid (X_ab.out.keep hK)
    replace X_ba := Lib.hid (X_ba.out.keep hK)
    replace X_bc := Lib.hid (X_bc.out.keep hK)
    replace X_left := Lib.hid (X_left.out.keep hK)
    replace X_right := Lib.hid (X_right.out.keep hK)
    replace X_back := Lib.hid (X_back.out.keep hK)
    replace X_xy := Lib.hid (X_xy.out.keep hK)
    replace X_yx := Lib.hid (X_yx.out.keep hK)
    replace X_xz := Lib.hid (X_xz.out.keep hK)
    replace X_sum := Lib.hid (X_sum.out.keep hK)
    replace X_whole := Lib.hid (X_whole.out.keep hK)
    replace X_yz := Lib.hid (X_yz.out.keep hK)
    replace X_one := Lib.hid (X_one.out.keep hK)
    have H18 := Lib.hid (H17.out.trans (hK.mono H17.out.size))
    clear hB hK H17
    obtain ⟨p_b0, p_b1, -, -, p_b2⟩ := X_b.out
    obtain ⟨p_a0, p_a1, -, -, p_a2⟩ := X_a.out
    go_wp2_with fail
    refine (K_cx.out _).mono ?_
    rintro e W19 ⟨rfl, hB⟩
    clear p_b0 p_b1 p_b2 p_a0 p_a1 p_a2
    have hK := (((Below.refl _ W18).alloc (Nat.le_refl _) _).trans (hB.mono (by simp)))
    have X_quot := Lib.hid (BoxAt.new hB)
    replace X_a := Lib.hid (X_a.out.keep hK)
    replace X_b := Lib.hid (X_b.out.keep hK)
    replace X_c := Lib.hid (X_c.out.keep hK)
    replace X_ab := Lib.hid (X_ab.out.keep hK)
    replace X_ba := Lib.hid (X_ba.out.keep hK)
    replace X_bc := Lib.hid (X_bc.out.keep hK)
    replace X_left := Lib.hid (X_left.out.keep hK)
    replace X_right := Lib.hid (X_right.out.keep hK)
    replace X_back := Lib.hid (X_back.out.keep hK)
    replace X_xy := Lib.hid (X_xy.out.keep hK)
    replace X_yx := Lib.hid (X_yx.out.keep hK)
    replace X_xz := Lib.hid (X_xz.out.keep hK)
    replace X_sum := Lib.hid (X_sum.out.keep hK)
    replace X_whole := Lib.hid (X_whole.out.keep hK)
    replace X_yz := Lib.hid (X_yz.out.keep hK)
    replace X_one := Lib.hid (X_one.out.keep hK)
    replace X_two := Lib.hid (X_two.out.keep hK)
    have H19 := Lib.hid (H18.out.trans (hK.mono H18.out.size))
    clear hB hK H18
    clear X_xy X_yx X_xz X_sum X_whole X_yz X_one X_two X_quot X_ab X_ba X_right X_back
    obtain ⟨p_a0, p_a1, -, -, p_a2⟩ := X_a.out
    obtain ⟨p_b0, p_b1, -, -, p_b2⟩ := X_b.out
    go_wp2_with fail
    refine (K_cy.out _).mono ?_
    rintro e W20 ⟨rfl, hB⟩
    clear p_a0 p_a1 p_a2 p_b0 p_b1 p_b2
    have hK := hB
    replace X_a := Lib.hid (X_a.out.keep hK)
    replace X_b := Lib.hid (X_b.out.keep hK)
    replace X_c := Lib.hid (X_c.out.keep hK)
    replace X_bc := Lib.hid (X_bc.out.keep hK)
    replace X_left := Lib.hid (X_left.out.keep hK)
    have H20 := Lib.hid (H19.out.trans (hK.mono H19.out.size))
    clear hB hK H19
    obtain ⟨p_left0, p_left1, -, -, p_left2⟩ := X_left.out
    obtain ⟨p_bc0, p_bc1, -, -, p_bc2⟩ := X_bc.out
    go_wp2_with fail
    refine (K_cz.out _).mono ?_
    rintro e W21 ⟨rfl, hB⟩
    clear p_left0 p_left1 p_left2 p_bc0 p_bc1 p_bc2
    have hK := hB
    replace X_a := Lib.hid (X_a.out.keep hK)
    replace X_b := Lib.hid (X_b.out.keep hK)
    replace X_c := Lib.hid (X_c.out.keep hK)
    replace X_bc := Lib.hid (X_bc.out.keep hK)
    replace X_left := Lib.hid (X_left.out.keep hK)
    have H21 := Lib.hid (H20.out.trans (hK.mono H20.out.size))
    clear hB hK H20
    obtain ⟨p_a0, p_a1, -, -, p_a2⟩ := X_a.out
    go_wp2_with fail
    refine (K_cw.out _).mono ?_
    rintro e W22 ⟨rfl, hB⟩
    clear p_a0 p_a1 p_a2
    have hK := (((Below.refl _ W21).alloc (Nat.le_refl _) _).trans (hB.mono (by simp)))
    have X_none := Lib.hid (BoxAt.new hB)
    replace X_a := Lib.hid (X_a.out.keep hK)
    replace X_b := Lib.hid (X_b.out.keep hK)
    replace X_c := Lib.hid (X_c.out.keep hK)
    replace X_bc := Lib.hid (X_bc.out.keep hK)
    replace X_left := Lib.hid (X_left.out.keep hK)
    have H22 := Lib.hid (H21.out.trans (hK.mono H21.out.size))
    clear hB hK H21
    obtain ⟨p_a0, p_a1, -, -, p_a2⟩ := X_a.out
    obtain ⟨p_c0, p_c1, -, -, p_c2⟩ := X_c.out
    go_wp2_with fail
    refine (K_ac.out _).mono ?_
    rintro e W23 ⟨rfl, hB⟩
    clear p_a0 p_a1 p_a2 p_c0 p_c1 p_c2
    have hK := hB
    replace X_a := Lib.hid (X_a.out.keep hK)
    replace X_b := Lib.hid (X_b.out.keep hK)
    replace X_c := Lib.hid (X_c.out.keep hK)
    replace X_bc := Lib.hid (X_bc.out.keep hK)
    replace X_left := Lib.hid (X_left.out.keep hK)
    replace X_none := Lib.hid (X_none.out.keep hK)
    have H23 := Lib.hid (H22.out.trans (hK.mono H22.out.size))
    clear hB hK H22
    obtain ⟨p_bc0, p_bc1, -, -, p_bc2⟩ := X_bc.out
    go_wp2_with fail
    refine (K_cu.out _).mono ?_
    rintro e W24 ⟨rfl, hB⟩
    clear p_bc0 p_bc1 p_bc2
    have hK := (((Below.refl _ W23).alloc (Nat.le_refl _) _).trans (hB.mono (by simp)))
    have X_ac := Lib.hid (BoxAt.new hB)
    replace X_a := Lib.hid (X_a.out.keep hK)
    replace X_b := Lib.hid (X_b.out.keep hK)
    replace X_c := Lib.hid (X_c.out.keep hK)
    replace X_bc := Lib.hid (X_bc.out.keep hK)
    replace X_left := Lib.hid (X_left.out.keep hK)
    replace X_none := Lib.hid (X_none.out.keep hK)
    have H24 := Lib.hid (H23.out.trans (hK.mono H23.out.size))
    clear hB hK H23
    obtain ⟨p_a0, p_a1, -, -, p_a2⟩ := X_a.out
    obtain ⟨p_b0, p_b1, -, -, p_b2⟩ := X_b.out
    by_cases hab : a1 = b1 ∧ a2 = b2
    · have hv0 := HZ.out.2 hab
      obtain ⟨rfl, rfl⟩ := hab
      subst hv0
      go_wp2_with fail
      refine (KL'.out _).mono ?_
      rintro e WZ ⟨rfl, hB⟩
      have HZZ := Lib.hid (H24.out.trans (hB.mono H24.out.size))
      clear hB
      go_wp2
      go_ret
      exact ⟨rfl, HZZ.out⟩
    · have hv0 : (v == 0) = false := by simpa using fun h => hab (HZ.out.1 h)
      have hne : a1 ≠ b1 ∨ a2 ≠ b2 := by omega
      clear hab
      go_wp2_with fail
      all_goals
        refine (KL'.out _).mono ?_
        rintro e WZ ⟨rfl, hB⟩
        have HZZ := Lib.hid (H24.out.trans (hB.mono H24.out.size))
        clear hB
        go_wp2
        go_ret
        exact ⟨rfl, HZZ.out⟩
  · have k_q := K_q.out
    rw [e] at k_q
    replace K_q := Lib.hid k_q
    have hb0 : (b1 == 0) = false := by simpa using hb
    clear k_q e hb
    obtain ⟨p_xy0, p_xy1, -, -, p_xy2⟩ := X_xy.out
    obtain ⟨p_b0, p_b1, -, -, p_b2⟩ := X_b.out
    obtain ⟨p_yx0, p_yx1, -, -, p_yx2⟩ := X_yx.out
    obtain ⟨p_sum0, p_sum1, -, -, p_sum2⟩ := X_sum.out
    obtain ⟨p_whole0, p_whole1, -, -, p_whole2⟩ := X_whole.out
    obtain ⟨p_one0, p_one1, -, -, p_one2⟩ := X_one.out
    obtain ⟨p_a0, p_a1, -, -, p_a2⟩ := X_a.out
    go_wp2_with fail
    refine (K_q.out _).mono ?_
    rintro e W18 ⟨rfl, hB⟩
    clear p_xy0 p_xy1 p_xy2 p_b0 p_b1 p_b2 p_yx0 p_yx1 p_yx2 p_sum0 p_sum1 p_sum2 p_whole0 p_whole1 p_whole2 p_one0 p_one1 p_one2 p_a0 p_a1 p_a2
    have hK := (((Below.refl _ W17).alloc (Nat.le_refl _) _).trans (hB.mono (by simp)))
    have X_two := Lib.hid (BoxAt.new hB)
    replace X_a := Lib.hid (X_a.out.keep hK)
    replace X_b := Lib.hid (X_b.out.keep hK)
    replace X_c := Lib.hid (X_c.out.keep hK)
    replace X_ab := Lib.hid (X_ab.out.keep hK)
    replace X_ba := Lib.hid (X_ba.out.keep hK)
    replace X_bc := Lib.hid (X_bc.out.keep hK)
    replace X_left := Lib.hid (X_left.out.keep hK)
    replace X_right := Lib.hid (X_right.out.keep hK)
    replace X_back := Lib.hid (X_back.out.keep hK)
    replace X_xy := Lib.hid (X_xy.out.keep hK)
    replace X_yx := Lib.hid (X_yx.out.keep hK)
    replace X_xz := Lib.hid (X_xz.out.keep hK)
    replace X_sum := Lib.hid (X_sum.out.keep hK)
    replace X_whole := Lib.hid (X_whole.out.keep hK)
    replace X_yz := Lib.hid (X_yz.out.keep hK)
    replace X_one := Lib.hid (X_one.out.keep hK)
    have H18 := Lib.hid (H17.out.trans (hK.mono H17.out.size))
    clear hB hK H17
    obtain ⟨p_b0, p_b1, -, -, p_b2⟩ := X_b.out
    obtain ⟨p_a0, p_a1, -, -, p_a2⟩ := X_a.out
    go_wp2_with fail
    refine (K_cx.out _).mono ?_
    rintro e W19 ⟨rfl, hB⟩
    clear p_b0 p_b1 p_b2 p_a0 p_a1 p_a2
    have hK := (((Below.refl _ W18).alloc (Nat.le_refl _) _).trans (hB.mono (by simp)))
    have X_quot := Lib.hid (BoxAt.new hB)
    replace X_a := Lib.hid (X_a.out.keep hK)
    replace X_b := Lib.hid (X_b.out.keep hK)
    replace X_c := Lib.hid (X_c.out.keep hK)
    replace X_ab := Lib.hid (X_ab.out.keep hK)
    replace X_ba := Lib.hid (X_ba.out.keep hK)
    replace X_bc := Lib.hid (X_bc.out.keep hK)
    replace X_left := Lib.hid (X_left.out.keep hK)
    replace X_right := Lib.hid (X_right.out.keep hK)
    replace X_back := Lib.hid (X_back.out.keep hK)
    replace X_xy := Lib.hid (X_xy.out.keep hK)
    replace X_yx := Lib.hid (X_yx.out.keep hK)
    replace X_xz := Lib.hid (X_xz.out.keep hK)
    replace X_sum := Lib.hid (X_sum.out.keep hK)
    replace X_whole := Lib.hid (X_whole.out.keep hK)
    replace X_yz := Lib.hid (X_yz.out.keep hK)
    replace X_one := Lib.hid (X_one.out.keep hK)
    replace X_two := Lib.hid (X_two.out.keep hK)
    have H19 := Lib.hid (H18.out.trans (hK.mono H18.out.size))
    clear hB hK H18
    clear X_xy X_yx X_xz X_sum X_whole X_yz X_one X_two X_quot X_ab X_ba X_right X_back
    obtain ⟨p_a0, p_a1, -, -, p_a2⟩ := X_a.out
    obtain ⟨p_b0, p_b1, -, -, p_b2⟩ := X_b.out
    go_wp2_with fail
    refine (K_cy.out _).mono ?_
    rintro e W20 ⟨rfl, hB⟩
    clear p_a0 p_a1 p_a2 p_b0 p_b1 p_b2
    have hK := hB
    replace X_a := Lib.hid (X_a.out.keep hK)
    replace X_b := Lib.hid (X_b.out.keep hK)
    replace X_c := Lib.hid (X_c.out.keep hK)
    replace X_bc := Lib.hid (X_bc.out.keep hK)
    replace X_left := Lib.hid (X_left.out.keep hK)
    have H20 := Lib.hid (H19.out.trans (hK.mono H19.out.size))
    clear hB hK H19
    obtain ⟨p_left0, p_left1, -, -, p_left2⟩ := X_left.out
    obtain ⟨p_bc0, p_bc1, -, -, p_bc2⟩ := X_bc.out
    go_wp2_with fail
    refine (K_cz.out _).mono ?_
    rintro e W21 ⟨rfl, hB⟩
    clear p_left0 p_left1 p_left2 p_bc0 p_bc1 p_bc2
    have hK := hB
    replace X_a := Lib.hid (X_a.out.keep hK)
    replace X_b := Lib.hid (X_b.out.keep hK)
    replace X_c := Lib.hid (X_c.out.keep hK)
    replace X_bc := Lib.hid (X_bc.out.keep hK)
    replace X_left := Lib.hid (X_left.out.keep hK)
    have H21 := Lib.hid (H20.out.trans (hK.mono H20.out.size))
    clear hB hK H20
    obtain ⟨p_a0, p_a1, -, -, p_a2⟩ := X_a.out
    go_wp2_with fail
    refine (K_cw.out _).mono ?_
    rintro e W22 ⟨rfl, hB⟩
    clear p_a0 p_a1 p_a2
    have hK := (((Below.refl _ W21).alloc (Nat.le_refl _) _).trans (hB.mono (by simp)))
    have X_none := Lib.hid (BoxAt.new hB)
    replace X_a := Lib.hid (X_a.out.keep hK)
    replace X_b := Lib.hid (X_b.out.keep hK)
    replace X_c := Lib.hid (X_c.out.keep hK)
    replace X_bc := Lib.hid (X_bc.out.keep hK)
    replace X_left := Lib.hid (X_left.out.keep hK)
    have H22 := Lib.hid (H21.out.trans (hK.mono H21.out.size))
    clear hB hK H21
    obtain ⟨p_a0, p_a1, -, -, p_a2⟩ := X_a.out
    obtain ⟨p_c0, p_c1, -, -, p_c2⟩ := X_c.out
    go_wp2_with fail
    refine (K_ac.out _).mono ?_
    rintro e W23 ⟨rfl, hB⟩
    clear p_a0 p_a1 p_a2 p_c0 p_c1 p_c2
    have hK := hB
    replace X_a := Lib.hid (X_a.out.keep hK)
    replace X_b := Lib.hid (X_b.out.keep hK)
    replace X_c := Lib.hid (X_c.out.keep hK)
    replace X_bc := Lib.hid (X_bc.out.keep hK)
    replace X_left := Lib.hid (X_left.out.keep hK)
    replace X_none := Lib.hid (X_none.out.keep hK)
    have H23 := Lib.hid (H22.out.trans (hK.mono H22.out.size))
    clear hB hK H22
    obtain ⟨p_bc0, p_bc1, -, -, p_bc2⟩ := X_bc.out
    go_wp2_with fail
    refine (K_cu.out _).mono ?_
    rintro e W24 ⟨rfl, hB⟩
    clear p_bc0 p_bc1 p_bc2
    have hK := (((Below.refl _ W23).alloc (Nat.le_refl _) _).trans (hB.mono (by simp)))
    have X_ac := Lib.hid (BoxAt.new hB)
    replace X_a := Lib.hid (X_a.out.keep hK)
    replace X_b := Lib.hid (X_b.out.keep hK)
    replace X_c := Lib.hid (X_c.out.keep hK)
    replace X_bc := Lib.hid (X_bc.out.keep hK)
    replace X_left := Lib.hid (X_left.out.keep hK)
    replace X_none := Lib.hid (X_none.out.keep hK)
    have H24 := Lib.hid (H23.out.trans (hK.mono H23.out.size))
    clear hB hK H23
    obtain ⟨p_a0, p_a1, -, -, p_a2⟩ := X_a.out
    obtain ⟨p_b0, p_b1, -, -, p_b2⟩ := X_b.out
    by_cases hab : a1 = b1 ∧ a2 = b2
    · have hv0 := HZ.out.2 hab
      obtain ⟨rfl, rfl⟩ := hab
      subst hv0
      go_wp2_with fail
      refine (KL'.out _).mono ?_
      rintro e WZ ⟨rfl, hB⟩
      have HZZ := Lib.hid (H24.out.trans (hB.mono H24.out.size))
      clear hB
      go_wp2
      go_ret
      exact ⟨rfl, HZZ.out⟩
    · have hv0 : (v == 0) = false := by simpa using fun h => hab (HZ.out.1 h)
      have hne : a1 ≠ b1 ∨ a2 ≠ b2 := by omega
      clear hab
      go_wp2_with fail
      all_goals
        refine (KL'.out _).mono ?_
        rintro e WZ ⟨rfl, hB⟩
        have HZZ := Lib.hid (H24.out.trans (hB.mono H24.out.size))
        clear hB
        go_wp2
        go_ret
        exact ⟨rfl, HZZ.out⟩

end Go.Proofs.Ytloddocibfbkpaa
