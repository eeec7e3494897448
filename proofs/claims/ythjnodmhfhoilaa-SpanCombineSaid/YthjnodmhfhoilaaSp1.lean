/- Contracts of package span: lowest, highest, bounds. -/
import Derived.Test.YthjnodmhfhoilaaSpd
namespace Go.Proofs.Ythjnodmhfhoilaa
open Go.RowKit Go.Shelf

theorem lowest_any (w : World) :
    Calls Try.prog 90 #[] w fun e w' => e = .returned lowC.v ∧ w' = w.alloc (.cells #[.int .i64 (-1099511627776), .int .i64 1, .bool false] 75) := by
  unfold lowC Cut.v
  go_enter Try.func90, Try.ntmps90
  go_wp2
  exact bodyPost_ret (v := .agg #[.int .i64 (-1099511627776), .int .i64 1, .bool false]) (by simp [results, Try.results90, go_sem]) rfl ⟨rfl, rfl⟩

theorem highest_any (w : World) :
    Calls Try.prog 87 #[] w fun e w' => e = .returned highC.v ∧ w' = w.alloc (.cells #[.int .i64 1099511627776, .int .i64 1, .bool true] 75) := by
  unfold highC Cut.v
  go_enter Try.func87, Try.ntmps87
  go_wp2
  exact bodyPost_ret (v := .agg #[.int .i64 1099511627776, .int .i64 1, .bool true]) (by simp [results, Try.results87, go_sem]) rfl ⟨rfl, rfl⟩

set_option maxHeartbeats 2000000 in
set_option maxRecDepth 100000 in
theorem bounds_any (x : Iv) (w : World) :
    Calls Try.prog 49 #[x.v] w fun e w' => e = .returned (.tuple #[x.from.v, x.to.v]) ∧ Below w.heap.size w w' := by
  obtain ⟨a, b, c, d, p, q, r, s⟩ := x
  have k1 := Lib.hid fun w => lowest_any w
  have k2 := Lib.hid fun w => highest_any w
  unfold Iv.v Iv.from Iv.to Cut.v lowC highC at *
  simp only at *
  cases r <;> cases s
  all_goals
    simp only [if_true, if_false, Bool.false_eq_true] at *
    go_enter Try.func49, Try.ntmps49
    go_wp2_with fail
    refine (k1.out _).mono ?_
    rintro e w' ⟨rfl, rfl⟩
    go_wp2_with fail
    refine (k2.out _).mono ?_
    rintro e w' ⟨rfl, rfl⟩
    go_wp2
    go_region
    all_goals
      go_wp2
      exact bodyPost_ret (v := .tuple #[_, _]) (by simp [results, Try.results49, go_sem]) rfl ⟨rfl, ((((((Below.refl _ _).alloc (Nat.le_refl _) _).alloc (by simp) _).alloc (by simp; omega) _).alloc (by simp; omega) _).alloc (by simp; omega) _).drew⟩

end Go.Proofs.Ythjnodmhfhoilaa
