/- Contracts of package ratio: bits.Mul64, Sub, Floor, Part. -/
import Derived.Test.YtloddocibfbkpaaRat4
import Derived.Shelf.Bits.Mul64
namespace Go.Proofs.Ytloddocibfbkpaa
open Go.RowKit Go.Shelf

set_option maxHeartbeats 1000000 in
theorem mul64_nat (x y : Nat) (hx : x < 18446744073709551616) (hy : y < 18446744073709551616) (w : World) :
    Calls Try.prog 39 #[.int .u64 x, .int .u64 y] w fun e w' => e = .returned (.tuple #[.int .u64 ((x * y / 18446744073709551616 : Nat) : Int), .int .u64 ((x * y % 18446744073709551616 : Nat) : Int)]) ∧ w = w' := by
  obtain ⟨bd, bt, bw, hhi⟩ := Lib.mul64_hi x y hx hy
  have ba := Lib.half_mul_le (a := x / 4294967296) (b := y / 4294967296) (by omega) (by omega)
  have bb := Lib.half_mul_le (a := x / 4294967296) (b := y % 4294967296) (by omega) (by omega)
  have bc := Lib.half_mul_le (a := x % 4294967296) (b := y / 4294967296) (by omega) (by omega)
  have ba' : x / 4294967296 * (y / 4294967296) < 18446744073709551616 := by omega
  have bb' : x / 4294967296 * (y % 4294967296) < 18446744073709551616 := by omega
  have bc' : x % 4294967296 * (y / 4294967296) < 18446744073709551616 := by omega
  have bh1 : x / 4294967296 * (y / 4294967296) + (x / 4294967296 * (y % 4294967296) + x % 4294967296 * (y % 4294967296) / 4294967296) / 4294967296 < 18446744073709551616 := by omega
  have bh : x / 4294967296 * (y / 4294967296) + (x / 4294967296 * (y % 4294967296) + x % 4294967296 * (y % 4294967296) / 4294967296) / 4294967296 + ((x / 4294967296 * (y % 4294967296) + x % 4294967296 * (y % 4294967296) / 4294967296) % 4294967296 + x % 4294967296 * (y / 4294967296)) / 4294967296 < 18446744073709551616 := by omega
  go_enter Try.func39, Try.ntmps39
  go_wp2
  simp only [Mul64.maskN x hx, Mul64.maskN y hy, Mul64.divN, Mul64.mulN, Mul64.addN, Mul64.wrapN _ bd, Mul64.wrapN _ bb', Mul64.wrapN _ bt, Mul64.maskN _ bt, Mul64.wrapN _ bc', Mul64.wrapN _ bw, Mul64.wrapN _ ba', Mul64.wrapN _ bh1, Mul64.wrapN _ bh, Mul64.wrapM (x * y)]
  rw [hhi]
  go_ret2
  exact ⟨rfl, rfl⟩

theorem mul64_any (x y : Int) (w : World) (h1 : 0 ≤ x) (h2 : x ≤ 1099511627776) (h3 : 0 ≤ y) (h4 : y ≤ 1099511627776) :
    Calls Try.prog 39 #[.int .u64 x, .int .u64 y] w fun e w' => e = .returned (.tuple #[.int .u64 (x * y / 18446744073709551616), .int .u64 (x * y % 18446744073709551616)]) ∧ w = w' := by
  obtain ⟨x, rfl⟩ := Int.eq_ofNat_of_zero_le h1
  obtain ⟨y, rfl⟩ := Int.eq_ofNat_of_zero_le h3
  have := mul64_nat x y (by omega) (by omega) w
  simpa using this

/-- What Floor returns. -/
def floorR (n d : Int) : Int × Int := if Qm.validI n d = 0 then (n / d, 0) else (0, 1)

set_option maxHeartbeats 1000000 in
set_option maxRecDepth 100000 in
theorem rfloor_any (n d : Int) (w : World) (hn : I64 n) (hd : I64 d) :
    Calls Try.prog 15 #[rv n d] w fun e w' => e = .returned (.tuple #[.int .i64 (floorR n d).1, .int .i64 (floorR n d).2]) ∧ Below w.heap.size w w' := by
  have HB0 := Lib.hid ((Below.refl w.heap.size w).alloc (Nat.le_refl _) (Obj.cells #[.int .i64 n, .int .i64 d] 26))
  have k1 := fun w => rvalid_any n d w hn hd
  rcases Qm.validI_two n d with e1 | e1
  · obtain ⟨o1, o2, o3, o4, o5⟩ := Qm.validI_ok.1 e1
    have hE : floorR n d = (n / d, 0) := by unfold floorR; rw [if_pos e1]
    have hq := Qm.tdiv_floor n o1
    obtain ⟨⟨b1, b2⟩, b3, b4⟩ := Qm.tdiv_bounds (n := n) (d := d) (M := 4611686018427387904) (by omega) (by omega)
    rw [e1] at k1
    have K1 := Lib.hid k1
    clear k1 e1 o5 hn hd
    by_cases ht : n.tdiv d * d > n
    · rw [if_pos ht] at hq
      rw [hq] at hE
      have HE := Lib.hid hE
      clear hq hE
      generalize floorR n d = R at *
      unfold rv at *
      go_enter Try.func15, Try.ntmps15
      go_wp2_with fail
      refine (K1.out _).mono ?_
      rintro e w1 ⟨rfl, hB⟩
      have B1 := Lib.hid hB
      have HB1 := Lib.hid (HB0.out.trans (hB.mono HB0.out.size))
      clear hB
      obtain ⟨hc0, hc1, hf0, hf1, hz⟩ := box_r B1.out
      go_wp2
      all_goals
        go_ret2
        exact ⟨by rw [HE.out]; exact rfl, HB1.out⟩
    · rw [if_neg ht] at hq
      rw [hq] at hE
      have HE := Lib.hid hE
      clear hq hE
      generalize floorR n d = R at *
      unfold rv at *
      go_enter Try.func15, Try.ntmps15
      go_wp2_with fail
      refine (K1.out _).mono ?_
      rintro e w1 ⟨rfl, hB⟩
      have B1 := Lib.hid hB
      have HB1 := Lib.hid (HB0.out.trans (hB.mono HB0.out.size))
      clear hB
      obtain ⟨hc0, hc1, hf0, hf1, hz⟩ := box_r B1.out
      go_wp2
      all_goals
        go_ret2
        exact ⟨by rw [HE.out]; exact rfl, HB1.out⟩
  · have hE : floorR n d = (0, 1) := by unfold floorR; rw [if_neg (by rw [e1]; decide)]
    rw [e1] at k1
    have HE := Lib.hid hE
    have K1 := Lib.hid k1
    clear k1 e1 hE
    generalize floorR n d = R at *
    unfold rv at *
    go_enter Try.func15, Try.ntmps15
    go_wp2_with fail
    refine (K1.out _).mono ?_
    rintro e w1 ⟨rfl, hB⟩
    have B1 := Lib.hid hB
    have HB1 := Lib.hid (HB0.out.trans (hB.mono HB0.out.size))
    clear hB
    go_wp2
    go_ret2
    exact ⟨by rw [HE.out]; exact rfl, HB1.out⟩

/-- Part by the two halves of the product. -/
theorem part_halves {k n d : Int} (h1 : 0 ≤ k) (h2 : 0 ≤ n) (h3 : 1 ≤ d) (h4 : d ≤ 1048576) :
    (0 < k * n / 18446744073709551616 ∨ 1099511627776 < k * n % 18446744073709551616 / d) ↔ 1099511627776 < k * n / d := by
  have hp : 0 ≤ k * n := Int.mul_nonneg h1 h2
  generalize k * n = p at *
  have e := Int.mul_ediv_add_emod p d
  have e0 := Int.emod_nonneg p (by omega : d ≠ 0)
  have e2 := Int.emod_lt_of_pos p (by omega : 0 < d)
  by_cases h : p < 18446744073709551616
  · have a1 : p / 18446744073709551616 = 0 := by omega
    have a2 : p % 18446744073709551616 = p := by omega
    rw [a1, a2]
    omega
  · have a1 : 0 < p / 18446744073709551616 := by omega
    refine ⟨fun _ => ?_, fun _ => .inl a1⟩
    have : 1099511627777 * d ≤ p := by
      have : 1099511627777 * d ≤ 1099511627777 * 1048576 := Int.mul_le_mul_of_nonneg_left h4 (by omega)
      omega
    have := (Int.le_ediv_iff_mul_le (show 0 < d by omega)).2 this
    omega

theorem part_low {k n : Int} (h1 : 0 ≤ k) (h2 : 0 ≤ n) (h : k * n / 18446744073709551616 = 0) : k * n % 18446744073709551616 = k * n := by
  have hp : 0 ≤ k * n := Int.mul_nonneg h1 h2
  omega

set_option maxHeartbeats 1000000 in
set_option maxRecDepth 100000 in
theorem rpart_any (k n d : Int) (w : World) (hn : I64 n) (hd : I64 d) :
    Calls Try.prog 17 #[.int .i64 k, rv n d] w fun e w' => e = .returned (.tuple #[.int .i64 (partR k n d).1, .int .i64 (partR k n d).2]) ∧ Below w.heap.size w w' := by
  have HB0 := Lib.hid ((Below.refl w.heap.size w).alloc (Nat.le_refl _) (Obj.cells #[.int .i64 n, .int .i64 d] 26))
  have k1 := fun w => rvalid_any n d w hn hd
  rcases Qm.validI_two n d with e1 | e1
  · have o := Qm.validI_ok.1 e1
    rw [e1] at k1
    have K1 := Lib.hid k1
    clear k1 e1
    by_cases hk : 0 ≤ k ∧ k ≤ 1099511627776 ∧ 0 ≤ n
    · obtain ⟨hk1, hk2, hn0⟩ := hk
      obtain ⟨od1, od2, on1, on2, og⟩ := id o
      have hE : partR k n d = if k * n / d > 1099511627776 then (0, 5) else (k * n / d, 0) := by unfold partR; rw [if_pos ⟨o, hk1, hk2, hn0⟩]
      have k2 := fun w => mul64_any k n w hk1 hk2 hn0 on2
      have hh := part_halves hk1 hn0 od1 od2
      have hl := part_low hk1 hn0
      have g1 : 0 ≤ k * n % 18446744073709551616 := Int.emod_nonneg _ (by omega)
      have g2 : k * n % 18446744073709551616 < 18446744073709551616 := Int.emod_lt_of_pos _ (by omega)
      have g3 : 0 ≤ k * n / 18446744073709551616 := Int.ediv_nonneg (Int.mul_nonneg hk1 hn0) (by omega)
      have g4 : k * n / 18446744073709551616 ≤ k * n := Int.ediv_le_self _ (Int.mul_nonneg hk1 hn0)
      have g5 : 0 ≤ k * n % 18446744073709551616 / d := Int.ediv_nonneg g1 (by omega)
      have g6 : k * n % 18446744073709551616 / d ≤ k * n % 18446744073709551616 := Int.ediv_le_self _ g1
      generalize k * n / 18446744073709551616 = H at *
      generalize k * n % 18446744073709551616 = L at *
      generalize hP : L / d = P at *
      have K2 := Lib.hid k2
      clear k2 o og hn hd
      by_cases t : k * n / d > 1099511627776
      · rw [if_pos t] at hE
        have HE := Lib.hid hE
        have hor := hh.2 t
        have HP := Lib.hid hP
        clear hE hh hl t hP
        generalize partR k n d = R at *
        unfold rv at *
        by_cases t0 : 0 < H
        · go_enter Try.func17, Try.ntmps17
          go_wp2_with fail
          refine (K1.out _).mono ?_
          rintro e w1 ⟨rfl, hB⟩
          have B1 := Lib.hid hB
          have HB1 := Lib.hid (HB0.out.trans (hB.mono HB0.out.size))
          clear hB
          obtain ⟨hc0, hc1, hf0, hf1, hz⟩ := box_r B1.out
          go_wp2_with fail
          refine (K2.out _).mono ?_
          rintro e w' ⟨rfl, rfl⟩
          go_wp2
          all_goals
            go_ret2
            exact ⟨by rw [HE.out]; exact rfl, HB1.out⟩
        · have hP := HP.out
          have t1 : 1099511627776 < P := by omega
          have t2 : H ≤ 0 := by omega
          clear hor t0
          go_enter Try.func17, Try.ntmps17
          go_wp2_with fail
          refine (K1.out _).mono ?_
          rintro e w1 ⟨rfl, hB⟩
          have B1 := Lib.hid hB
          have HB1 := Lib.hid (HB0.out.trans (hB.mono HB0.out.size))
          clear hB
          obtain ⟨hc0, hc1, hf0, hf1, hz⟩ := box_r B1.out
          go_wp2_with fail
          refine (K2.out _).mono ?_
          rintro e w' ⟨rfl, rfl⟩
          go_wp2
          all_goals
            go_ret2
            exact ⟨by rw [HE.out]; exact rfl, HB1.out⟩
      · rw [if_neg t] at hE
        have hor : ¬ (0 < H ∨ 1099511627776 < P) := fun h => t (hh.1 h)
        have t1 : H = 0 := by omega
        have t2 : P ≤ 1099511627776 := by omega
        rw [← hl t1, hP] at hE
        have HE := Lib.hid hE
        clear hE hh hl t hor
        subst t1
        generalize partR k n d = R at *
        unfold rv at *
        go_enter Try.func17, Try.ntmps17
        go_wp2_with fail
        refine (K1.out _).mono ?_
        rintro e w1 ⟨rfl, hB⟩
        have B1 := Lib.hid hB
        have HB1 := Lib.hid (HB0.out.trans (hB.mono HB0.out.size))
        clear hB
        obtain ⟨hc0, hc1, hf0, hf1, hz⟩ := box_r B1.out
        go_wp2_with fail
        refine (K2.out _).mono ?_
        rintro e w' ⟨rfl, rfl⟩
        go_wp2
        all_goals
          go_ret2
          exact ⟨by rw [HE.out]; exact rfl, HB1.out⟩
    · have hE : partR k n d = (0, 1) := by unfold partR; rw [if_neg (fun h => hk h.2)]
      have HE := Lib.hid hE
      clear hE o
      generalize partR k n d = R at *
      have hk' : k < 0 ∨ 1099511627776 < k ∨ n < 0 := by omega
      clear hk
      unfold rv at *
      rcases hk' with h | h | h
      all_goals
        go_enter Try.func17, Try.ntmps17
        go_wp2_with fail
        refine (K1.out _).mono ?_
        rintro e w1 ⟨rfl, hB⟩
        have B1 := Lib.hid hB
        have HB1 := Lib.hid (HB0.out.trans (hB.mono HB0.out.size))
        clear hB
        obtain ⟨hc0, hc1, hf0, hf1, hz⟩ := box_r B1.out
        go_wp2
        all_goals
          go_ret2
          exact ⟨by rw [HE.out]; exact rfl, HB1.out⟩
  · have hE : partR k n d = (0, 1) := by unfold partR; rw [if_neg (fun h => by rw [Qm.validI_ok.2 h.1] at e1; exact absurd e1 (by decide))]
    rw [e1] at k1
    have HE := Lib.hid hE
    have K1 := Lib.hid k1
    clear k1 e1 hE
    generalize partR k n d = R at *
    unfold rv at *
    go_enter Try.func17, Try.ntmps17
    go_wp2_with fail
    refine (K1.out _).mono ?_
    rintro e w1 ⟨rfl, hB⟩
    have B1 := Lib.hid hB
    have HB1 := Lib.hid (HB0.out.trans (hB.mono HB0.out.size))
    clear hB
    obtain ⟨hc0, hc1, hf0, hf1, hz⟩ := box_r B1.out
    go_wp2
    all_goals
      go_ret2
      exact ⟨by rw [HE.out]; exact rfl, HB1.out⟩

end Go.Proofs.Ytloddocibfbkpaa
