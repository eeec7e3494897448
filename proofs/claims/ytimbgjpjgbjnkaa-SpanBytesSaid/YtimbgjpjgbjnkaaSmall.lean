/- The generators of the reference models: Short, Around, Ints, Few, SameInts, SameBytes, Bound: what they return; nothing that lay has turned. -/
import Derived.Test.YtimbgjpjgbjnkaaProg
import Derived.Test.YtimbgjpjgbjnkaaKit
namespace Go.Proofs.Ytimbgjpjgbjnkaa
open Go.RowKit Go.Shelf

/-- What Around returns. -/
def aroundI (a n : Int) : Int := if a < 0 then (-(a + 1)) % n else a % n

theorem aroundI_range (a n : Int) (h : 1 ≤ n) : 0 ≤ aroundI a n ∧ aroundI a n < n := by
  unfold aroundI
  split
  · exact ⟨Int.emod_nonneg _ (by omega), Int.emod_lt_of_pos _ (by omega)⟩
  · exact ⟨Int.emod_nonneg _ (by omega), Int.emod_lt_of_pos _ (by omega)⟩

set_option maxHeartbeats 400000 in
theorem around_any (a n : Int) (w : World) (h : 1 ≤ n) (hn : n ≤ 4611686018427387904) (ha : (Lit.int .i64 a).wf = true) :
    Calls Try.prog 11 #[.int .i64 a, .int .i64 n] w fun e w' => e = .returned (.int .i64 (aroundI a n)) ∧ w = w' := by
  have hb : -9223372036854775808 ≤ a ∧ a ≤ 9223372036854775807 := by
    simpa [Lit.wf, IntKind.min, IntKind.max, IntKind.signed, IntKind.bits] using ha
  obtain ⟨hb1, hb2⟩ := hb
  clear ha
  by_cases h0 : a < 0
  · have e : Hid (aroundI a n = (-(a + 1)) % n) := by unfold aroundI; exact if_pos h0
    go_enter Try.func11, Try.ntmps11
    go_wp2
    go_ret
    exact ⟨ret_int (by rw [e.out, ← Int.neg_tmod, Int.tmod_eq_emod_of_nonneg (by omega)]), rfl⟩
  · have e : Hid (aroundI a n = a % n) := by unfold aroundI; exact if_neg h0
    go_enter Try.func11, Try.ntmps11
    go_wp2
    go_ret
    exact ⟨ret_int (by rw [e.out]), rfl⟩

theorem Try.infoI64 : (Try.prog.info? 3).map (fun i => (i.zero, i.size, i.bytes)) = some (some (.int .i64 0), 1, 8) := by kernel_rfl

theorem Try.infoU8 : (Try.prog.info? 5).map (fun i => (i.zero, i.size, i.bytes)) = some (some (.int .u8 0), 1, 1) := by kernel_rfl

theorem Try.infoU64 : (Try.prog.info? 106).map (fun i => (i.zero, i.size, i.bytes)) = some (some (.int .u64 0), 1, 8) := by kernel_rfl

theorem around_nat (a : Int) (n : Nat) (h : 0 < n) : ∃ k : Nat, aroundI a n = (k : Int) ∧ k < n := by
  have := aroundI_range a n (by omega)
  exact ⟨(aroundI a n).toNat, by omega, by omega⟩

/-- What Bound returns. -/
def boundI (a m : Int) : Int := aroundI a (2 * m + 1) - m

theorem boundI_range (a m : Int) (h : 0 ≤ m) : -m ≤ boundI a m ∧ boundI a m ≤ m := by
  have := aroundI_range a (2 * m + 1) (by omega)
  unfold boundI
  omega

set_option maxHeartbeats 400000 in
theorem bound_any (a m : Int) (w : World) (h : 0 ≤ m) (hm : m ≤ 2305843009213693951) (ha : (Lit.int .i64 a).wf = true) :
    Calls Try.prog 12 #[.int .i64 a, .int .i64 m] w fun e w' => e = .returned (.int .i64 (boundI a m)) ∧ w = w' := by
  have hr := aroundI_range a (2 * m + 1) (by omega)
  obtain ⟨hr1, hr2⟩ := hr
  have k := fun w => around_any a (2 * m + 1) w (by omega) (by omega) ha
  generalize hx : aroundI a (2 * m + 1) = x at *
  have HX := Lib.hid hx
  have K := Lib.hid k
  clear hx k ha
  go_enter Try.func12, Try.ntmps12
  go_wp2_with fail
  refine (K.out _).mono ?_
  rintro e w' ⟨rfl, rfl⟩
  go_wp2_with fail
  go_ret
  exact ⟨ret_int (by rw [boundI, HX.out]), rfl⟩

end Go.Proofs.Ytimbgjpjgbjnkaa
