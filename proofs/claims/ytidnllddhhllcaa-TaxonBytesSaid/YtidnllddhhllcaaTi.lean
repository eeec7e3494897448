/- The generator of lists of classes, as a function. -/
import Derived.Test.YtidnllddhhllcaaTh
namespace Go.Proofs.Ytidnllddhhllcaa
open Go.RowKit Go.Shelf

/-- A class, or a number of none. -/
def someI (n : Nat) (z : Int) : Int := if z < 50 * (n : Int) then z % n else if z - 50 * (n : Int) = 0 then -1 else if z - 50 * (n : Int) = 1 then n else 64

/-- What Some returns. -/
def someL (n : Nat) (zs : List Int) : List Int := Hm.upto (fun i => someI n (pickI zs i (50 * (n : Int) + 3))) (min zs.length 6)

theorem someL_len (n : Nat) (zs : List Int) : (someL n zs).length ≤ 6 := by
  unfold someL
  rw [Hm.upto_length]
  exact Nat.min_le_right _ _

set_option maxHeartbeats 8000000 in
set_option maxRecDepth 100000 in
theorem some_eq (pv sv : Value) (P : List (List Int)) (zs : List Int) (w : World) (hL : LE w pv P) (hl : Els .i64 w sv zs) (hw : Wfs zs) (h1 : 1 ≤ P.length) (hm : P.length ≤ 64) :
    Calls Try.prog 24 #[pv, sv] w (Makes .i64 3 (someL P.length zs) w) := by
  obtain ⟨pa, pc, rfl⟩ := LIn.shape hL
  obtain ⟨a, cap, rfl⟩ := hl.shape
  have hP1 := h1
  have k2 := fun (W : World) (hB : Below w.heap.size w W) (i : Nat) (hi : i ≤ 1000) => pick_any _ zs i (50 * (P.length : Int) + 3) W (hl.below hB) hw (by omega) (by omega) (by omega)
  have hr2 := fun i => pickI_range zs i (50 * (P.length : Int) + 3) (by omega)
  have K2 := Lib.hid k2
  have HR2 := Lib.hid hr2
  have HI0 := Lib.hid Try.infoI64
  have hmin : ∀ k, (¬ k < zs.length ∨ ¬ k < 6) → k ≤ 6 → k ≤ zs.length → Hm.upto (fun i => someI P.length (pickI zs i (50 * (P.length : Int) + 3))) k = someL P.length zs := fun k h1 h2 h3 => by
    unfold someL
    rw [show min zs.length 6 = k by omega]
  generalize hn : P.length = n at *
  generalize someL n zs = SL at *
  generalize zs.length = m at *
  have HMIN := Lib.hid hmin
  have hn1 : (1 : Int) ≤ n := by omega
  have hn2 : (n : Int) ≤ 64 := by omega
  clear k2 hr2 hl hw hL hn hmin
  go_enter Try.func24, Try.ntmps24
  go_wp2
  go_loopw [5, 6] (fun v i wr => ∃ k : Nat, k ≤ 6 ∧ i = .int .i64 k ∧ ∃ ap np cp zl, v = .slice ap np cp ∧ Hid (np = zl.length) ∧ Hid (zl = Hm.upto (fun i => someI n (pickI zs i (50 * (n : Int) + 3))) k) ∧ k ≤ m ∧ Hid (Own .i64 3 w.heap.size wr (.slice ap np cp) zl) ∧ Hid (Below w.heap.size w wr)) (fun _ i _ => 6 - (intOf i).toNat)
  case atStart => exact ⟨0, Nat.zero_le _, rfl, none, 0, 0, [], rfl, rfl, rfl, Nat.zero_le _, Lib.hid (World.ownsRow_nil _ _ _ _), Lib.hid (Below.refl _ _)⟩
  case round =>
    obtain ⟨k, hk, rfl, ap, np, cp, zl, rfl, hnp, hzq, hkm, hO, hB⟩ := hrel
    have hzk : Hid (zl.length = k) := by have := hzq.out; rw [this]; exact Hm.upto_length _ _
    by_cases hlt : k < m
    · have hki : decide ((k : Int) < (m : Int)) = true := decide_eq_true (by omega)
      by_cases hlt6 : k < 6
      · have hk6 : decide ((k : Int) < 6) = true := decide_eq_true (by omega)
        have k3 := K2.out wr hB.out k (by omega)
        obtain ⟨r1, r2⟩ := HR2.out k
        have HNX : Hid (∀ X, someI n (pickI zs k (50 * (n : Int) + 3)) = X → zl ++ [X] = Hm.upto (fun i => someI n (pickI zs i (50 * (n : Int) + 3))) (k + 1)) := fun X hX => by rw [Hm.upto_succ, hX, hzq.out]
        generalize pickI zs k (50 * (n : Int) + 3) = z at *
        have K3 := Lib.hid k3
        clear k3
        by_cases hz : z < 50 * (n : Int)
        · have hzb : decide (z < 50 * (n : Int)) = true := decide_eq_true hz
          go_wp2_with fail
          refine (K3.out).mono ?_
          rintro e w' ⟨rfl, rfl⟩
          go_wp2_with (at_builtin; refine push_own rfl _ _ 22 rfl .i64 3 8 Try.underlying22 HI0.out (by decide) w.heap.size (.slice ap np cp) zl _ _ rfl rfl hO.out hB.out.size (by have := hzk.out; omega) ?_; intro a2 n2 c2 w2 hn2 hO2 hB2)
          go_roundw
          case rel => exact ⟨k + 1, by omega, by go_num, a2, n2, c2, _, rfl, Lib.hid (by rw [List.length_append]; exact hn2.out), Lib.hid (HNX.out _ (by unfold someI; rw [if_pos hz])), by omega, hO2, Lib.hid (hB.out.trans hB2.out)⟩
          case measure => simp [intOf]; omega
        · have hzb : decide (z < 50 * (n : Int)) = false := decide_eq_false hz
          have hj : z - 50 * (n : Int) = 0 ∨ z - 50 * (n : Int) = 1 ∨ z - 50 * (n : Int) = 2 := by omega
          have HB2 := Lib.hid hB.out.size
          rcases hj with hj | hj | hj
          all_goals
            go_wp2_with fail
            refine (K3.out).mono ?_
            rintro e w' ⟨rfl, rfl⟩
            go_upto_region 9 with (fail)
            have hBx := (Below.refl wr.heap.size wr).alloc (Nat.le_refl _) (.cells #[.int .i64 (-1), .int .i64 (n : Int), .int .i64 64] 3)
            generalize wr.alloc (.cells #[.int .i64 (-1), .int .i64 (n : Int), .int .i64 64] 3) = wx at *
            have HO3 := Lib.hid (hO.out.below hBx)
            have HB3 := Lib.hid (Since.step hB.out hBx)
            clear hBx
            go_wp2_with (at_builtin; refine push_own rfl _ _ 22 rfl .i64 3 8 Try.underlying22 HI0.out (by decide) w.heap.size (.slice ap np cp) zl _ _ rfl rfl HO3.out HB3.out.size (by have := hzk.out; omega) ?_; intro a2 n2 c2 w2 hn2 hO2 hB2)
            go_roundw
            case rel => exact ⟨k + 1, by omega, by go_num, a2, n2, c2, _, rfl, Lib.hid (by rw [List.length_append]; exact hn2.out), Lib.hid (HNX.out _ (by unfold someI; rw [if_neg (Int.not_lt.2 hz)]; simp [hj])), by omega, hO2, Lib.hid (HB3.out.trans hB2.out)⟩
            case measure => simp [intOf]; omega
      · have hk6 : decide ((k : Int) < 6) = false := decide_eq_false (by omega)
        go_wp2
        go_ret
        rw [hzq.out, HMIN.out k (.inr hlt6) hk hkm] at hnp hO
        exact ⟨ap, np, cp, rfl, hnp, hO, hB⟩
    · have hki : decide ((k : Int) < (m : Int)) = false := decide_eq_false (by omega)
      go_wp2
      go_ret
      rw [hzq.out, HMIN.out k (.inl hlt) hk hkm] at hnp hO
      exact ⟨ap, np, cp, rfl, hnp, hO, hB⟩


theorem upL_idem {P : List (List Int)} {zs : List Int} (hg : Tx.Good P) (h : allB P.length zs = true) : upL P (upL P zs) = upL P zs := by
  rw [upL_eq (up_all hg h), upL_eq h]
  refine ones_ext fun d hd => Bool.eq_iff_iff.2 ?_
  rw [anyB_iff, anyB_iff]
  constructor
  · rintro ⟨x, hx, hi⟩
    obtain ⟨_, hx2⟩ := gB_ones.1 hx
    obtain ⟨y, hy, hyx⟩ := anyB_iff.1 hx2
    exact ⟨y, hy, Tx.inh_eq.2 ((Tx.inh_eq.1 hyx).trans (Tx.inh_eq.1 hi))⟩
  · rintro ⟨y, hy, hi⟩
    exact ⟨d, gB_ones.2 ⟨hd, anyB_iff.2 ⟨y, hy, hi⟩⟩, Tx.inh_eq.2 (.refl d)⟩

theorem allB_append {n : Nat} {xs ys : List Int} (h1 : allB n xs = true) (h2 : allB n ys = true) : allB n (xs ++ ys) = true := by
  unfold allB at *
  rw [List.all_append, h1, h2]
  rfl

theorem hasB_ones {f : Nat → Bool} {n c : Nat} (h : c < n) : hasB (ones f n) (c : Int) = f c := by
  apply Bool.eq_iff_iff.2
  unfold hasB
  rw [List.any_eq_true]
  constructor
  · rintro ⟨z, hz, he⟩
    obtain ⟨d, rfl, _, hd⟩ := ones_mem.1 hz
    have : (d : Int) = (c : Int) := by simpa using he
    have : d = c := by omega
    rw [← this]; exact hd
  · intro hf
    exact ⟨(c : Int), ones_mem.2 ⟨c, rfl, h, hf⟩, by simp⟩

theorem has_both {P : List (List Int)} {xs ys : List Int} (h1 : allB P.length xs = true) (h2 : allB P.length ys = true) {c : Nat} (hc : c < 64) : hasB (upL P (xs ++ ys)) (c : Int) = (hasB (upL P xs) (c : Int) || hasB (upL P ys) (c : Int)) := by
  rw [upL_eq (allB_append h1 h2), upL_eq h1, upL_eq h2, hasB_ones hc, hasB_ones hc, hasB_ones hc]
  unfold anyB
  rw [List.any_append]

theorem has_down {P : List (List Int)} (h64 : P.length ≤ 64) {c d : Nat} (hc : c < P.length) (hd : d < P.length) : hasB (downL P (c : Int)) (d : Int) = hasB (upL P [(d : Int)]) (c : Int) := by
  unfold downL
  rw [if_pos (clsB_nat hc), upL_eq (allB_one hd), hasB_ones (by omega), hasB_ones (by omega)]
  unfold anyB
  rw [List.any_cons, decide_eq_true hd]
  simp

end Go.Proofs.Ytidnllddhhllcaa
