/- The reference's Good: whether a ratio can be a value. -/
import Derived.Test.YtejllfpcffeogaaYc
namespace Go.Proofs.Ytejllfpcffeogaa
open Go.RowKit Go.Shelf

set_option maxHeartbeats 400000 in
theorem rdivisor_any (a b : Int) (w : World) (h1 : 0 ≤ a ∧ a ≤ 1099511627776) (h2 : 0 ≤ b ∧ b ≤ 1099511627776) :
    Calls Try.prog 86 #[.int .i64 a, .int .i64 b] w fun e w' => e = .returned (.int .i64 (Qm.g a b)) ∧ Below w.heap.size w w' := by
  obtain ⟨ha, ha'⟩ := h1
  obtain ⟨hb, hb'⟩ := h2
  go_enter Try.func86, Try.ntmps86
  go_wp2
  go_loopw [0, 1] (fun x y w' => ∃ p q : Int, x = .int .i64 p ∧ y = .int .i64 q ∧ Hid (Qm.g p q = Qm.g a b) ∧ 0 ≤ p ∧ p ≤ 1099511627776 ∧ 0 ≤ q ∧ q ≤ 1099511627776 ∧ Hid (Below w.heap.size w w')) (fun _ y _ => (intOf y).natAbs)
  case atStart => exact ⟨a, b, rfl, rfl, Lib.hid rfl, ha, ha', hb, hb', Lib.hid (Below.refl _ _)⟩
  case round =>
    obtain ⟨p, q, rfl, rfl, hg, hp, hp', hq, hq', hB⟩ := hrel
    by_cases h0 : q = 0
    · subst h0
      have hg2 : Qm.g a b = p := by rw [← hg.out, Qm.g_zero, if_neg (by omega)]
      have HG := Lib.hid hg2.symm
      clear hg2
      go_wp2
      go_ret
      exact ⟨ret_int HG.out, hB.out⟩
    · have h0' : q > 0 := by omega
      have hr0 : p.tmod q = p % q := Int.tmod_eq_emod_of_nonneg hp
      have hl1 : 0 ≤ p % q := Int.emod_nonneg _ h0
      have hl : p % q < q := Int.emod_lt_of_pos _ h0'
      have hs : Hid (Qm.g q (p % q) = Qm.g a b) := Lib.hid (by rw [← hr0, Qm.g_step]; exact hg.out)
      clear hg
      go_wp2
      go_roundw
      case rel => exact ⟨q, p % q, rfl, by first | rfl | rw [hr0] | simp [hr0], hs, hq, hq', hl1, by omega, hB⟩
      case measure => (simp [intOf]; omega)

theorem g_negl (n d : Int) : Qm.g (-n) d = Qm.g n d := by unfold Qm.g; simp

/-- Whether a ratio can be a value. -/
def okV (n d : Int) : Bool := decide (Qm.Ok n d ∧ d ≤ 65536)

theorem okV_f {n d : Int} (h : d < 1 ∨ d > 65536 ∨ n < -1099511627776 ∨ n > 1099511627776) : okV n d = false := by
  unfold okV
  rw [decide_eq_false_iff_not]
  rintro ⟨⟨h1, h2, h3, h4, h5⟩, h6⟩
  omega

theorem okV_g {n d : Int} (h1 : 1 ≤ d) (h2 : d ≤ 65536) (h3 : -1099511627776 ≤ n) (h4 : n ≤ 1099511627776) : okV n d = (Qm.g n d == 1) := by
  unfold okV
  by_cases h : Qm.g n d = 1
  · rw [decide_eq_true ⟨⟨h1, by omega, h3, h4, h⟩, h2⟩, h]; rfl
  · rw [decide_eq_false fun hh => h hh.1.2.2.2.2]
    exact (beq_eq_false_iff_ne.2 h).symm

set_option maxHeartbeats 2000000 in
set_option maxRecDepth 100000 in
theorem rgood_any (n d : Int) (w : World) (hn : I64 n) (hd : I64 d) :
    Calls Try.prog 70 #[.agg #[.int .i64 n, .int .i64 d]] w fun e w' => e = .returned (.bool (okV n d)) ∧ Below w.heap.size w w' := by
  obtain ⟨hn1, hn2⟩ := hn
  obtain ⟨hd1, hd2⟩ := hd
  have HB0 := Lib.hid ((Below.refl w.heap.size w).alloc (Nat.le_refl _) (.cells #[.int .i64 n, .int .i64 d] 32))
  by_cases c1 : d < 1
  · have HF := Lib.hid (okV_f (n := n) (.inl c1))
    go_enter Try.func70, Try.ntmps70
    go_wp2
    go_ret
    exact ⟨by rw [HF.out]; rfl, HB0.out⟩
  · by_cases c2 : d > 65536
    · have HF := Lib.hid (okV_f (n := n) (.inr (.inl c2)))
      go_enter Try.func70, Try.ntmps70
      go_wp2
      go_ret
      exact ⟨by rw [HF.out]; rfl, HB0.out⟩
    · by_cases c3 : n < -1099511627776
      · have HF := Lib.hid (okV_f (d := d) (.inr (.inr (.inl c3))))
        go_enter Try.func70, Try.ntmps70
        go_wp2
        go_ret
        exact ⟨by rw [HF.out]; rfl, HB0.out⟩
      · by_cases c4 : n > 1099511627776
        · have HF := Lib.hid (okV_f (d := d) (.inr (.inr (.inr c4))))
          go_enter Try.func70, Try.ntmps70
          go_wp2
          go_ret
          exact ⟨by rw [HF.out]; rfl, HB0.out⟩
        · have HF := Lib.hid (okV_g (n := n) (d := d) (by omega) (by omega) (by omega) (by omega))
          have hw : IntKind.i64.wrap (-n) = -n := IntWalk.i64_in _ (by omega)
          have kd := fun (m : Int) (h : m = n ∨ m = -n) (h0 : 0 ≤ m) (W : World) => rdivisor_any m d W ⟨h0, by omega⟩ ⟨by omega, by omega⟩
          have kg : ∀ m : Int, (m = n ∨ m = -n) → Qm.g m d = Qm.g n d := fun m h => by
            rcases h with rfl | rfl
            · rfl
            · exact g_negl n d
          have KG := Lib.hid kg
          by_cases c5 : 0 ≤ n
          · have KD := Lib.hid fun W => kd n (.inl rfl) c5 W
            clear kd kg
            have c6 : -n ≤ n := by omega
            have c7 : max n (-n) = n := by omega
            go_enter Try.func70, Try.ntmps70
            go_wp2_with fail
            refine (KD.out _).mono ?_
            rintro e w1 ⟨rfl, hB1⟩
            go_wp2
            go_ret
            exact ⟨by rw [HF.out]; rfl, HB0.out.trans (hB1.mono (by simp))⟩
          · have KD := Lib.hid fun W => kd (-n) (.inr rfl) (by omega) W
            clear kd kg
            have c6 : n ≤ -n := by omega
            have c7 : max n (-n) = -n := by omega
            go_enter Try.func70, Try.ntmps70
            go_wp2_with fail
            refine (KD.out _).mono ?_
            rintro e w1 ⟨rfl, hB1⟩
            go_wp2
            go_ret
            exact ⟨by rw [HF.out, ← KG.out (-n) (.inr rfl)]; rfl, HB0.out.trans (hB1.mono (by simp))⟩

end Go.Proofs.Ytejllfpcffeogaa
