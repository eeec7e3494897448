/- Contracts of priorartref03: Between, whole. -/
import Derived.Test.YtloddocibfbkpaaRef03j
import Derived.Test.YtloddocibfbkpaaBox
import Derived.Deep.DeepCutAuto
namespace Go.Proofs.Ytloddocibfbkpaa
open Go.RowKit Go.Shelf

set_option maxHeartbeats 4000000 in
set_option maxRecDepth 100000 in
theorem sbtw_neg (a b c d p q k : Int) (w : World) (ha : a < 0) (hc : c ≤ 0) (K1 : Hid (∀ w, Calls Try.prog 29 #[rv a b, rv c d] w fun e w' => e = .returned (.int .i64 0) ∧ Below w.heap.size w w'))
    (K2 : Hid (∀ w, Calls Try.prog 33 #[rv a b, rv c d] w fun e w' => e = .returned (.bool true) ∧ Below w.heap.size w w'))
    (K3 : Hid (∀ w, Calls Try.prog 30 #[rv c d] w fun e w' => e = .returned (rv (-c) d) ∧ Below w.heap.size w w'))
    (K4 : Hid (∀ w, Calls Try.prog 30 #[rv a b] w fun e w' => e = .returned (rv (-a) b) ∧ Below w.heap.size w w'))
    (K5 : Hid (∀ w, Calls Try.prog 32 #[rv (-c) d, rv (-a) b] w fun e w' => e = .returned (rve (p, q, k)) ∧ Below w.heap.size w w'))
    (K6 : Hid (∀ w, Calls Try.prog 30 #[rv p q] w fun e w' => e = .returned (rv (-p) q) ∧ Below w.heap.size w w')) :
    Calls Try.prog 32 #[rv a b, rv c d] w fun e w' => e = .returned (rve (-p, q, k)) ∧ Below w.heap.size w w' := by
  have HB0 := Lib.hid ((((Below.refl w.heap.size w).alloc (Nat.le_refl _) (Obj.cells #[.int .i64 a, .int .i64 b] 26)).alloc (by simp) (Obj.cells #[.int .i64 c, .int .i64 d] 26)).alloc (by simp; omega) (Obj.cells #[.int .i64 0, .int .i64 0] 26))
  have HC0 := Lib.hid (Below.refl (three w (.int .i64 a) (.int .i64 b) (.int .i64 c) (.int .i64 d) (.int .i64 0) (.int .i64 0) 26).heap.size (three w (.int .i64 a) (.int .i64 b) (.int .i64 c) (.int .i64 d) (.int .i64 0) (.int .i64 0) 26))
  unfold rv rve at *
  go_enter Try.func32, Try.ntmps32
  go_wp2_with fail
  refine (K1.out _).mono ?_
  rintro e w1 ⟨rfl, hB⟩
  have B1 := Lib.hid hB
  have HB1 := Lib.hid (HB0.out.trans (hB.mono HB0.out.size))
  have HC1 := Lib.hid (HC0.out.trans (hB.mono HC0.out.size))
  clear hB
  obtain ⟨q1_0, q1_1, q1_2, q1_3, q1_4, q1_5, q1_6, q1_7, q1_8⟩ := box_3 HC1.out
  go_wp2_with fail
  refine (K2.out _).mono ?_
  rintro e w2 ⟨rfl, hB⟩
  have B2 := Lib.hid hB
  have HB2 := Lib.hid (HB1.out.trans (hB.mono HB1.out.size))
  have HC2 := Lib.hid (HC1.out.trans (hB.mono HC1.out.size))
  clear hB
  obtain ⟨q2_0, q2_1, q2_2, q2_3, q2_4, q2_5, q2_6, q2_7, q2_8⟩ := box_3 HC2.out
  clear B1 B2 q1_0 q1_1 q1_2 q1_3 q1_4 q1_5 q1_6 q1_7 q1_8
  go_upto_region 8 with (fail)
  have hx3 : (three w (.int .i64 a) (.int .i64 b) (.int .i64 c) (.int .i64 d) (.int .i64 0) (.int .i64 0) 26).heap.size = w.heap.size + 3 := by rw [size_alloc, size_alloc, size_alloc]
  have HX3 := Lib.hid hx3
  clear hx3
  go_cut [8, 9] (fun s8 s9 wx => CutR (three w (.int .i64 a) (.int .i64 b) (.int .i64 c) (.int .i64 d) (.int .i64 0) (.int .i64 0) 26) p q k s8 s9 wx)
  case rest =>
    obtain ⟨N, rfl, rfl, ⟨n0, n1, n2, n3, n4⟩, hN, hC⟩ := hcut
    rw [HX3.out] at hN
    clear q2_0 q2_1 q2_2 q2_3 q2_4 q2_5 q2_6 q2_7 q2_8 K1 K2 K3 K4 K5 HB1 HB2 HC1 HC2
    have HC3 := Lib.hid hC
    have HB3 := Lib.hid (HB0.out.trans (hC.mono (by simp; omega)))
    clear hC
    obtain ⟨q3_0, q3_1, q3_2, q3_3, q3_4, q3_5, q3_6, q3_7, q3_8⟩ := box_3 HC3.out
    go_wp2_with fail
    refine (K6.out _).mono ?_
    rintro e w4 ⟨rfl, hB⟩
    have B4 := Lib.hid hB
    have HB4 := Lib.hid (HB3.out.trans (hB.mono HB3.out.size))
    have HC4 := Lib.hid (HC3.out.trans (hB.mono HC3.out.size))
    clear hB
    obtain ⟨q4_0, q4_1, q4_2, q4_3, q4_4, q4_5, q4_6, q4_7, q4_8⟩ := box_3 HC4.out
    go_wp2
    exact bodyPost_ret (v := rve (-p, q, k)) (by simp [results, Try.results32, go_sem, q4_4, q4_5, rve]) rfl ⟨rfl, (HB4.out.setCell (p := ⟨w.heap.size + 2, 0, none⟩) (by simp) _).setCell (p := ⟨w.heap.size + 2, 1, none⟩) (by simp) _⟩
  case first =>
  clear K6 HC1 HB1 HB2
  have k7 := fun W (hS : Since w2 W) => (K3.out W).mono fun e W' hh => And.intro hh.1 (And.intro (hS.step hh.2) hh.2)
  have k8 := fun W (hS : Since w2 W) => (K4.out W).mono fun e W' hh => And.intro hh.1 (And.intro (hS.step hh.2) hh.2)
  have k9 := fun W (hS : Since w2 W) => (K5.out W).mono fun e W' hh => And.intro hh.1 (And.intro (hS.step hh.2) hh.2)
  have K7 := Lib.hid k7
  have K8 := Lib.hid k8
  have K9 := Lib.hid k9
  clear k7 k8 k9 K3 K4 K5
  have z1 : w.heap.size < w2.heap.size := by omega
  have z2 : w.heap.size + 1 < w2.heap.size := by omega
  have hSd : Since w2 w2.drew := Below.drew (Below.refl _ _)
  go_region_with (first
    | (go_at_call_of 30 (Value.agg #[Value.int .i64 c, Value.int .i64 d]); refine (K7.out _ (by first | exact hB | exact Since.alloc hB _ | exact hSd | exact Since.adrew _ _)).mono ?_; rintro e w' ⟨rfl, hB, hr⟩; have z3 : w.heap.size < w'.heap.size := Nat.lt_of_lt_of_le z1 (Below.size hB); have z4 : w.heap.size + 1 < w'.heap.size := Nat.lt_of_lt_of_le z2 (Below.size hB); have z5 : w.heap.size + 1 + 1 < w'.heap.size := Nat.lt_of_lt_of_le q2_8 (Below.size hB); have r0 := Since.cell hB q2_0; have r1 := Since.cell hB q2_1; have r2 := Since.cell hB q2_2; have r3 := Since.cell hB q2_3; (first | (with_reducible (have BX := Lib.hid (BoxAt.new hr))) | (with_reducible (have BX := Lib.hid (BoxAt.newd hr))) | (with_reducible (have BX := Lib.hid (BoxAt.keep BX.out hr))) | skip); (first | (obtain ⟨b0, b1, b2, b3, b4⟩ := BX.out) | skip); clear hr)
    | (go_at_call_of 30 (Value.agg #[Value.int .i64 a, Value.int .i64 b]); refine (K8.out _ (by first | exact hB | exact Since.alloc hB _ | exact hSd | exact Since.adrew _ _)).mono ?_; rintro e w' ⟨rfl, hB, hr⟩; have z3 : w.heap.size < w'.heap.size := Nat.lt_of_lt_of_le z1 (Below.size hB); have z4 : w.heap.size + 1 < w'.heap.size := Nat.lt_of_lt_of_le z2 (Below.size hB); have z5 : w.heap.size + 1 + 1 < w'.heap.size := Nat.lt_of_lt_of_le q2_8 (Below.size hB); have r0 := Since.cell hB q2_0; have r1 := Since.cell hB q2_1; have r2 := Since.cell hB q2_2; have r3 := Since.cell hB q2_3; (first | (with_reducible (have BX := Lib.hid (BoxAt.new hr))) | (with_reducible (have BX := Lib.hid (BoxAt.newd hr))) | (with_reducible (have BX := Lib.hid (BoxAt.keep BX.out hr))) | skip); (first | (obtain ⟨b0, b1, b2, b3, b4⟩ := BX.out) | skip); clear hr)
    | (go_at_call 32; refine (K9.out _ (by first | exact hB | exact Since.alloc hB _ | exact hSd | exact Since.adrew _ _)).mono ?_; rintro e w' ⟨rfl, hB, hr⟩; have z3 : w.heap.size < w'.heap.size := Nat.lt_of_lt_of_le z1 (Below.size hB); have z4 : w.heap.size + 1 < w'.heap.size := Nat.lt_of_lt_of_le z2 (Below.size hB); have z5 : w.heap.size + 1 + 1 < w'.heap.size := Nat.lt_of_lt_of_le q2_8 (Below.size hB); have r0 := Since.cell hB q2_0; have r1 := Since.cell hB q2_1; have r2 := Since.cell hB q2_2; have r3 := Since.cell hB q2_3; (first | (with_reducible (have BX := Lib.hid (BoxAt.new hr))) | (with_reducible (have BX := Lib.hid (BoxAt.newd hr))) | (with_reducible (have BX := Lib.hid (BoxAt.keep BX.out hr))) | skip); (first | (obtain ⟨b0, b1, b2, b3, b4⟩ := BX.out) | skip); clear hr))
  all_goals (go_wp2_with fail; go_meet; first | exact CutR.alloc _ HC2.out hB | exact CutR.store HC2.out hB BX.out (by rw [HX3.out]; omega))

end Go.Proofs.Ytloddocibfbkpaa
