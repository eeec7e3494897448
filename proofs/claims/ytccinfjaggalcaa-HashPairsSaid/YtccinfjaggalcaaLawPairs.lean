/- The walk of the law HashPairs. -/
import Derived.Test.YtccinfjaggalcaaPair
namespace Go.Proofs.Ytccinfjaggalcaa
open Go.RowKit Go.Shelf

theorem u64_of_wf {a : Int} (h : (Lit.int .u64 a).wf = true) : IntKind.u64.wrap a = a := by
  have h2 : 0 ≤ a ∧ a ≤ 18446744073709551615 := by
    simpa [Lit.wf, IntKind.min, IntKind.max, IntKind.signed, IntKind.bits] using h
  exact IntWalk.u64_in a h2

theorem sum_pair (x y : Int) (T : TypeId) (w : World) :
    Calls Try.prog 13 #[.string { data := #[112, 97, 105, 114] }, .slice (some ⟨w.heap.size, 0, none⟩) 2 2] (w.alloc (.cells #[.int .i64 (wrap64 x), .int .i64 (wrap64 y)] T)) fun e W' => e = .returned (.int .u64 (Hm.pairI x y)) ∧ Below w.heap.size w W' :=
  (sum_lit _ T [wrap64 x, wrap64 y] w (by decide) (by simp)).mono fun _ _ h => ⟨h.1.trans (ret_int (Hm.sumI_wrap2 _ x y)), h.2⟩

set_option maxHeartbeats 2000000 in
theorem law_pairs (a0 : Int) (a1 : Int) (a2 : Int) (w0 : (Lit.int .u64 a0).wf = true) (w1 : (Lit.int .u64 a1).wf = true) (w : World) :
    Calls Try.prog 9 #[.int .u64 a0, .int .u64 a1, .int .u64 a2] w fun e w' => e = .returned (.bool true) ∧ Below w.heap.size w w' := by
  have f1 : ((Hm.pairI a0 a2 == Hm.pairI a1 a2) == (a0 == a1)) = true ∧ ((Hm.pairI a2 a0 == Hm.pairI a2 a1) == (a0 == a1)) = true := by
    by_cases h : a0 = a1
    · subst h; simp
    · have h1 : Hm.pairI a0 a2 ≠ Hm.pairI a1 a2 := fun e => h (by have := Hm.pairI_left e; rwa [u64_of_wf w0, u64_of_wf w1] at this)
      have h2 : Hm.pairI a2 a0 ≠ Hm.pairI a2 a1 := fun e => h (by have := Hm.pairI_right e; rwa [u64_of_wf w0, u64_of_wf w1] at this)
      rw [beq_eq_false_iff_ne.2 h, beq_eq_false_iff_ne.2 h1, beq_eq_false_iff_ne.2 h2]
      exact ⟨rfl, rfl⟩
  clear w0 w1
  have c1 := fun w => pair_any a0 a2 w
  have c2 := fun w => pair_any a1 a2 w
  have c3 := fun w => pair_any a2 a0 w
  have c4 := fun w => pair_any a2 a1 w
  have c5 := fun w => pair_any a0 a1 w
  have c6 := fun T w => sum_pair a0 a1 T w
  generalize Hm.pairI a0 a2 = p1 at *
  generalize Hm.pairI a1 a2 = p2 at *
  generalize Hm.pairI a2 a0 = p3 at *
  generalize Hm.pairI a2 a1 = p4 at *
  generalize Hm.pairI a0 a1 = p5 at *
  generalize hq : (a0 == a1) = q at *
  obtain ⟨g1, g2⟩ := f1
  have g1 : (p1 == p2) = q := by simpa using g1
  have g2 : (p3 == p4) = q := by simpa using g2
  have C1 := Lib.hid c1
  have C2 := Lib.hid c2
  have C3 := Lib.hid c3
  have C4 := Lib.hid c4
  have C5 := Lib.hid c5
  have C6 := Lib.hid c6
  clear c1 c2 c3 c4 c5 c6
  go_enter Try.func9, Try.ntmps9
  have HB0 := Lib.hid (Below.refl w.heap.size w)
  go_wp2_with fail
  refine (C1.out _).mono ?_
  rintro e w1 ⟨rfl, hB⟩
  have HB1 := Lib.hid (HB0.out.trans (hB.mono HB0.out.size))
  clear hB HB0
  go_wp2_with fail
  refine (C2.out _).mono ?_
  rintro e w2 ⟨rfl, hB⟩
  have HB2 := Lib.hid (HB1.out.trans (hB.mono HB1.out.size))
  clear hB HB1
  go_wp2_with fail
  refine (C3.out _).mono ?_
  rintro e w3 ⟨rfl, hB⟩
  have HB3 := Lib.hid (HB2.out.trans (hB.mono HB2.out.size))
  clear hB HB2
  go_wp2_with fail
  refine (C4.out _).mono ?_
  rintro e w4 ⟨rfl, hB⟩
  have HB4 := Lib.hid (HB3.out.trans (hB.mono HB3.out.size))
  clear hB HB3
  go_wp2_with fail
  refine (C5.out _).mono ?_
  rintro e w5 ⟨rfl, hB⟩
  have HB5 := Lib.hid (HB4.out.trans (hB.mono HB4.out.size))
  clear hB HB4
  go_wp2_with fail
  refine (C6.out _ _).mono ?_
  rintro e w6 ⟨rfl, hB⟩
  have HB6 := Lib.hid (HB5.out.trans (hB.mono HB5.out.size))
  clear hB HB5
  go_wp2_with fail
  refine (lives_any _).mono ?_
  rintro e w7 ⟨rfl, hB⟩
  have HB7 := Lib.hid (HB6.out.trans (hB.mono HB6.out.size))
  clear hB HB6
  go_wp2_with fail
  go_ret
  exact ⟨rfl, HB7.out⟩
end Go.Proofs.Ytccinfjaggalcaa
