/- Contracts of package ratio: size, divisor, negative. -/
import Derived.Test.YtelhpndlejommaaGreatProg
import Derived.Test.YtelhpndlejommaaGreatKit
import Derived.Test.YtelhpndlejommaaGreatSmall
import Derived.Test.YtelhpndlejommaaGreatQmath
import Derived.Test.YtelhpndlejommaaGreatRef03
namespace Go.Proofs.YtelhpndlejommaaGreat
open Go.RowKit Go.Shelf

/-- The absolute value. -/
def absI (n : Int) : Int := if n < 0 then -n else n

theorem absI_nonneg (n : Int) : 0 ≤ absI n := by unfold absI; split <;> omega

theorem absI_g (a b : Int) : Qm.g (absI a) (absI b) = Qm.g a b := by
  unfold absI Qm.g
  split <;> split <;> simp

theorem u64_neg {n : Int} (h : n < 0) (h1 : -9223372036854775808 ≤ n) : IntKind.u64.wrap (-IntKind.u64.wrap n) = -n := by
  rw [IntKind.wrap_u64, IntKind.wrap_u64]
  omega

set_option maxHeartbeats 400000 in
theorem size_any (n : Int) (w : World) (h1 : -9223372036854775808 ≤ n) (h2 : n ≤ 9223372036854775807) :
    Calls Tryz.prog 105 #[.int .i64 n] w fun e w' => e = .returned (.int .u64 (absI n)) ∧ w = w' := by
  by_cases h : n < 0
  · have HE := Lib.hid (show absI n = -n by unfold absI; rw [if_pos h])
    have HU := Lib.hid (u64_neg h h1)
    go_enter Tryz.func105, Tryz.ntmps105
    go_wp2
    go_ret
    exact ⟨ret_int (by rw [HE.out, ← HU.out]), rfl⟩
  · have HE := Lib.hid (show absI n = n by unfold absI; rw [if_neg h])
    go_enter Tryz.func105, Tryz.ntmps105
    go_wp2
    go_ret
    exact ⟨ret_int (by rw [HE.out]), rfl⟩

theorem g_zero_nonneg {a : Int} (h : 0 ≤ a) : Qm.g a 0 = a := by rw [Qm.g_zero, if_neg (by omega)]

theorem g_step_pos {p q : Int} (hp : 0 ≤ p) : Qm.g q (p % q) = Qm.g p q := by
  rw [← Int.tmod_eq_emod_of_nonneg hp]; exact Qm.g_step p q

set_option maxHeartbeats 400000 in
theorem divisor_any (a b : Int) (w : World) (h1 : 0 ≤ a ∧ a ≤ 18446744073709551615) (h2 : 0 ≤ b ∧ b ≤ 18446744073709551615) :
    Calls Tryz.prog 106 #[.int .u64 a, .int .u64 b] w fun e w' => e = .returned (.int .u64 (Qm.g a b)) ∧ Below w.heap.size w w' := by
  obtain ⟨ha, ha'⟩ := h1
  obtain ⟨hb, hb'⟩ := h2
  go_enter Tryz.func106, Tryz.ntmps106
  go_wp2
  go_loopw [0, 1] (fun x y w' => ∃ p q : Int, x = .int .u64 p ∧ y = .int .u64 q ∧ Qm.g p q = Qm.g a b ∧ 0 ≤ p ∧ p ≤ 18446744073709551615 ∧ 0 ≤ q ∧ q ≤ 18446744073709551615 ∧ Below w.heap.size w w') (fun _ y _ => (intOf y).natAbs)
  case atStart => exact ⟨a, b, rfl, rfl, rfl, ha, ha', hb, hb', Below.refl _ _⟩
  case round =>
    obtain ⟨p, q, rfl, rfl, hg, hp, hp', hq, hq', hB⟩ := hrel
    have HB := Lib.hid hB
    clear hB
    by_cases h0 : q = 0
    · subst h0
      rw [g_zero_nonneg hp] at hg
      have HG := Lib.hid hg
      clear hg
      go_wp2
      go_ret
      exact ⟨ret_int HG.out, HB.out⟩
    · have hs := Lib.hid ((g_step_pos (q := q) hp).trans hg)
      have hl1 : 0 ≤ p % q := Int.emod_nonneg _ h0
      have hl : p % q < q := Int.emod_lt_of_pos _ (by omega)
      generalize hr : p % q = r at *
      have HR := Lib.hid hr
      have h0' : 0 < q := by omega
      clear hr hg
      go_wp2
      go_quiet (fail)
      go_wp2
      go_roundw
      case rel => exact ⟨q, r, by first | rfl | (rw [HR.out]), by first | rfl | (rw [HR.out]), hs.out, by omega, by omega, by omega, by omega, below_drewN HB.out _⟩
      case measure => show (p % q).natAbs < q.natAbs; rw [HR.out]; omega

/-- The opposite number. -/
def negI (n : Int) : Int := wrap64 (-n)

theorem negI_of {n : Int} (h1 : -9223372036854775807 ≤ n) (h2 : n ≤ 9223372036854775807) : negI n = -n := by
  unfold negI
  exact IntWalk.wrap64_in _ (by omega)

theorem negI_ok {n d : Int} (h1 : -9223372036854775808 ≤ n) (h2 : n ≤ 9223372036854775807) : Qm.Ok (negI n) d ↔ Qm.Ok n d := by
  by_cases h : n = -9223372036854775808
  · subst h
    constructor
    · rintro ⟨_, _, _, h4, _⟩
      rename_i h3 _
      exact absurd h3 (by unfold negI wrap64; decide)
    · rintro ⟨_, _, h3, _, _⟩
      omega
  · rw [negI_of (by omega) h2]
    have e : Qm.g (-n) d = Qm.g n d := by unfold Qm.g; simp
    unfold Qm.Ok
    rw [e]
    omega

set_option maxHeartbeats 1000000 in
set_option maxRecDepth 100000 in
theorem negative_raw (n d : Int) (w : World) :
    Calls Tryz.prog 107 #[rv n d] w fun e w' => e = .returned (rv (negI n) d) ∧ Below w.heap.size w w' := by
  unfold rv
  go_enter Tryz.func107, Tryz.ntmps107
  go_wp2
  exact bodyPost_ret (v := rv (negI n) d) (by simp [results, Tryz.results107, go_sem, rv, negI]) rfl ⟨rfl, ((Below.refl w.heap.size w).alloc (Nat.le_refl _) _).alloc (by simp) _⟩

/-- Lowest terms by absolute values. -/
theorem ofR_abs {n d : Int} (h : d ≠ 0) : Qm.ofR n d = if absI n / Qm.g n d > 1099511627776 ∨ absI d / Qm.g n d > 1048576 then (0, 0, 5) else (if decide (n < 0) != decide (d < 0) then -(absI n / Qm.g n d) else absI n / Qm.g n d, absI d / Qm.g n d, 0) := by
  have hg := Qm.g_pos (a := n) h
  have dl := Qm.g_left n d
  unfold Qm.ofR
  generalize Qm.g n d = G at *
  have en : (-n) / G = -(n / G) := Int.neg_ediv_of_dvd dl
  have p1 : 0 ≤ n → 0 ≤ n / G := fun h => Int.ediv_nonneg h (by omega)
  have p2 : n < 0 → 0 ≤ -(n / G) := fun h => by rw [← en]; exact Int.ediv_nonneg (by omega) (by omega)
  rw [en]
  by_cases h1 : d < 0 <;> by_cases h2 : n < 0
  · rw [show absI n = -n from if_pos h2, show absI d = -d from if_pos h1, decide_eq_true h1, decide_eq_true h2, if_pos h1, en]
    have := p2 h2
    by_cases t : -(n / G) > 1099511627776 ∨ -d / G > 1048576
    · rw [if_pos t, if_pos (by omega)]
    · rw [if_neg t, if_neg (by omega)]
      simp
  · rw [show absI n = n from if_neg h2, show absI d = -d from if_pos h1, decide_eq_true h1, decide_eq_false h2, if_pos h1]
    have := p1 (by omega)
    by_cases t : n / G > 1099511627776 ∨ -d / G > 1048576
    · rw [if_pos t, if_pos (by omega)]
    · rw [if_neg t, if_neg (by omega)]
      simp
  · rw [show absI n = -n from if_pos h2, show absI d = d from if_neg h1, decide_eq_false h1, decide_eq_true h2, if_neg h1, en]
    have := p2 h2
    by_cases t : -(n / G) > 1099511627776 ∨ d / G > 1048576
    · rw [if_pos t, if_pos (by omega)]
    · rw [if_neg t, if_neg (by omega)]
      simp
  · rw [show absI n = n from if_neg h2, show absI d = d from if_neg h1, decide_eq_false h1, decide_eq_false h2, if_neg h1]
    have := p1 (by omega)
    by_cases t : n / G > 1099511627776 ∨ d / G > 1048576
    · rw [if_pos t, if_pos (by omega)]
    · rw [if_neg t, if_neg (by omega)]
      simp

theorem absI_le {n : Int} (h1 : -9223372036854775808 ≤ n) (h2 : n ≤ 9223372036854775807) : absI n ≤ 9223372036854775808 := by unfold absI; split <;> omega

theorem absI_pos {n : Int} (h : n ≠ 0) : 1 ≤ absI n := by unfold absI; split <;> omega

end Go.Proofs.YtelhpndlejommaaGreat
