/- Contracts of package ratio: Sub. -/
import Derived.Test.YtloddocibfbkpaaRat5
namespace Go.Proofs.Ytloddocibfbkpaa
open Go.RowKit Go.Shelf

set_option maxHeartbeats 2000000 in
set_option maxRecDepth 100000 in
theorem rsub_any (a b c d : Int) (w : World) (ha : I64 a) (hb : I64 b) (hd : I64 d) :
    Calls Try.prog 28 #[rv a b, rv c d] w fun e w' => e = .returned (rve (addR a b (negI c) d)) ∧ Below w.heap.size w w' := by
  have HB0 := Lib.hid ((((Below.refl w.heap.size w).alloc (Nat.le_refl _) (Obj.cells #[.int .i64 a, .int .i64 b] 26)).alloc (by simp) (Obj.cells #[.int .i64 c, .int .i64 d] 26)).alloc (by simp; omega) (Obj.cells #[.int .i64 0, .int .i64 0] 26)).drew
  have HC0 := Lib.hid (Below.refl (three w (.int .i64 a) (.int .i64 b) (.int .i64 c) (.int .i64 d) (.int .i64 0) (.int .i64 0) 26).heap.size (three w (.int .i64 a) (.int .i64 b) (.int .i64 c) (.int .i64 d) (.int .i64 0) (.int .i64 0) 26)).drew
  have hneg : I64 (negI c) := by unfold negI I64; constructor <;> (unfold wrap64; omega)
  have k1 := fun w => negative_raw c d w
  have k2 := fun w => radd_any a b (negI c) d w ha hb hneg hd
  have K1 := Lib.hid k1
  have K2 := Lib.hid k2
  clear k1 k2 hneg ha hb hd
  generalize addR a b (negI c) d = R at *
  generalize negI c = c' at *
  unfold rv at *
  go_enter Try.func28, Try.ntmps28
  go_wp2
  go_region_with (first
    | (go_at_call 36; refine (K1.out _).mono ?_; rintro e w1 ⟨rfl, hB1⟩; have HB1 := Lib.hid (HB0.out.trans (hB1.mono HB0.out.size)); have HC1 := Lib.hid (HC0.out.trans (hB1.mono HC0.out.size)); obtain ⟨q1_0, q1_1, q1_2, q1_3, q1_4, q1_5, q1_6, q1_7, q1_8⟩ := box_3 HC1.out; clear hB1)
    | (go_at_call 22; refine (K2.out _).mono ?_; rintro e w2 ⟨rfl, hB2⟩; have HB2 := Lib.hid (HB1.out.trans (hB2.mono HB1.out.size)); have HC2 := Lib.hid (HC1.out.trans (hB2.mono HC1.out.size)); obtain ⟨q2_0, q2_1, q2_2, q2_3, q2_4, q2_5, q2_6, q2_7, q2_8⟩ := box_3 HC2.out; clear hB2; unfold rve))
  all_goals go_wp2
  all_goals
    exact bodyPost_ret (v := rve R) (by simp [results, Try.results28, go_sem, q2_4, q2_5, rve]) rfl ⟨rfl, (HB2.out.setCell (p := ⟨w.heap.size + 2, 0, none⟩) (by simp) _).setCell (p := ⟨w.heap.size + 2, 1, none⟩) (by simp) _⟩

end Go.Proofs.Ytloddocibfbkpaa
