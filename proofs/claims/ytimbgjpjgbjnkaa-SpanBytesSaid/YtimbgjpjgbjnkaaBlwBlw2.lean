import Derived.Test.YtimbgjpjgbjnkaaBoxSp2
import Derived.Sort.Grow
/- As Below, and the count of draws does not go back: what a sort asks of what it calls. -/
namespace Go.Proofs.Ytimbgjpjgbjnkaa
open Go.RowKit Go.Shelf

/-- Below, and the draws go on. -/
structure Blw (B : Nat) (w w' : World) : Prop extends Below B w w' where
  dr : w.drawn ≤ w'.drawn

theorem Blw.refl (B : Nat) (w : World) : Blw B w w := ⟨Below.refl B w, Nat.le_refl _⟩
theorem Blw.trans {B : Nat} {a b c : World} (h : Blw B a b) (k : Blw B b c) : Blw B a c := ⟨h.toBelow.trans k.toBelow, Nat.le_trans h.dr k.dr⟩
theorem Blw.mono {B B' : Nat} {w w' : World} (h : Blw B w w') (hB : B' ≤ B) : Blw B' w w' := ⟨h.toBelow.mono hB, h.dr⟩
theorem Blw.drew {B : Nat} {a w : World} (h : Blw B a w) : Blw B a w.drew := ⟨h.toBelow.drew, Nat.le_trans h.dr (Nat.le_succ _)⟩
theorem Blw.alloc {B : Nat} {a w : World} (h : Blw B a w) (hB : B ≤ w.heap.size) (o : Obj) : Blw B a (w.alloc o) := ⟨h.toBelow.alloc hB o, h.dr⟩
theorem Blw.setCell {B : Nat} {a w : World} (h : Blw B a w) {p : Addr} (hp : B ≤ p.block) (u : Value) : Blw B a (w.setCell p u) := ⟨h.toBelow.setCell hp u, h.dr⟩
theorem blw_drewN {B : Nat} {a w : World} (h : Blw B a w) (n : Nat) : Blw B a (w.drewN n) := ⟨below_drewN h.toBelow n, Nat.le_trans h.dr (Nat.le_add_right _ _)⟩

theorem box_rd {w w1 : World} {a b : Value} {t : TypeId} (hb : Blw (w.alloc (.cells #[a, b] t)).heap.size (w.alloc (.cells #[a, b] t)) w1) :
    w1.cell? ⟨w.heap.size, 0, none⟩ = some a ∧ w1.cell? ⟨w.heap.size, 1, none⟩ = some b ∧ w1.frozen? ⟨w.heap.size, 0, none⟩ = false ∧ w1.frozen? ⟨w.heap.size, 1, none⟩ = false ∧ w.heap.size < w1.heap.size := box_r hb.toBelow

/-- What it gives a sort. -/
theorem Blw.grows {w w' : World} (h : Blw w.heap.size w w') : ∃ q os, w' = Sort.grow (w.drewN q) os := by
  refine ⟨w'.drawn - w.drawn, w'.heap.extract w.heap.size w'.heap.size, ?_⟩
  obtain ⟨⟨h1, h2, h3, h4, h5⟩, h6⟩ := h
  have hh : w.heap ++ w'.heap.extract w.heap.size w'.heap.size = w'.heap := by
    apply Array.ext_getElem?
    intro i
    by_cases hi : i < w.heap.size
    · rw [Array.getElem?_append_left hi, h5 i hi]
    · rw [Array.getElem?_append_right (by omega)]
      by_cases hj : i < w'.heap.size
      · rw [Array.getElem?_extract, if_pos (by omega)]
        congr 1
        omega
      · rw [Array.getElem?_eq_none (by simp; omega), Array.getElem?_eq_none (by omega)]
  cases w with
  | mk heap tape drawn os output =>
    cases w' with
    | mk heap' tape' drawn' os' output' =>
      simp only at h1 h2 h3 h4 h5 h6 hh
      subst h1 h2 h3
      unfold Sort.grow World.drewN
      simp only [World.mk.injEq]
      exact ⟨hh.symm, trivial, by omega, trivial, trivial⟩

end Go.Proofs.Ytimbgjpjgbjnkaa

/- Contracts of ratio's and span's compare, with the count of draws. -/
namespace Go.Proofs.Ytimbgjpjgbjnkaa
open Go.RowKit Go.Shelf

theorem box_2d {w w1 : World} {a b c d : Value} {t : TypeId} (hb : Blw (two w a b c d t).heap.size (two w a b c d t) w1) :
    w1.cell? ⟨w.heap.size, 0, none⟩ = some a ∧ w1.cell? ⟨w.heap.size, 1, none⟩ = some b ∧ w1.cell? ⟨w.heap.size + 1, 0, none⟩ = some c ∧ w1.cell? ⟨w.heap.size + 1, 1, none⟩ = some d ∧ w.heap.size + 1 < w1.heap.size := box_2 hb.toBelow


set_option maxHeartbeats 400000 in
theorem divisor_d (a b : Int) (w : World) (h1 : 0 ≤ a ∧ a ≤ 18446744073709551615) (h2 : 0 ≤ b ∧ b ≤ 18446744073709551615) :
    Calls Try.prog 95 #[.int .u64 a, .int .u64 b] w fun e w' => e = .returned (.int .u64 (Qm.g a b)) ∧ Blw w.heap.size w w' := by
  obtain ⟨ha, ha'⟩ := h1
  obtain ⟨hb, hb'⟩ := h2
  go_enter Try.func95, Try.ntmps95
  go_wp2
  go_loopw [0, 1] (fun x y w' => ∃ p q : Int, x = .int .u64 p ∧ y = .int .u64 q ∧ Qm.g p q = Qm.g a b ∧ 0 ≤ p ∧ p ≤ 18446744073709551615 ∧ 0 ≤ q ∧ q ≤ 18446744073709551615 ∧ Blw w.heap.size w w') (fun _ y _ => (intOf y).natAbs)
  case atStart => exact ⟨a, b, rfl, rfl, rfl, ha, ha', hb, hb', Blw.refl _ _⟩
  case round =>
    obtain ⟨p, q, rfl, rfl, hg, hp, hp', hq, hq', hB⟩ := hrel
    have HB := Lib.hid hB
    clear hB
    by_cases h0 : q = 0
    · subst h0
      rw [g_zero_nonneg hp] at hg
      have HG := Lib.hid hg
      clear hg
      go_wp2
      go_ret
      exact ⟨ret_int HG.out, HB.out⟩
    · have hs := Lib.hid ((g_step_pos (q := q) hp).trans hg)
      have hl1 : 0 ≤ p % q := Int.emod_nonneg _ h0
      have hl : p % q < q := Int.emod_lt_of_pos _ (by omega)
      generalize hr : p % q = r at *
      have HR := Lib.hid hr
      have h0' : 0 < q := by omega
      clear hr hg
      go_wp2
      go_quiet (fail)
      go_wp2
      go_roundw
      case rel => exact ⟨q, r, by first | rfl | (rw [HR.out]), by first | rfl | (rw [HR.out]), hs.out, by omega, by omega, by omega, by omega, blw_drewN HB.out _⟩
      case measure => show (p % q).natAbs < q.natAbs; rw [HR.out]; omega



set_option maxHeartbeats 1000000 in
set_option maxRecDepth 100000 in
theorem negative_d (n d : Int) (w : World) :
    Calls Try.prog 67 #[rv n d] w fun e w' => e = .returned (rv (negI n) d) ∧ Blw w.heap.size w w' := by
  unfold rv
  go_enter Try.func67, Try.ntmps67
  go_wp2
  exact bodyPost_ret (v := rv (negI n) d) (by simp [results, Try.results67, go_sem, rv, negI]) rfl ⟨rfl, ((Blw.refl w.heap.size w).alloc (Nat.le_refl _) _).alloc (by simp) _⟩



set_option maxHeartbeats 1000000 in
set_option maxRecDepth 100000 in
theorem rnew_d (n d : Int) (w : World) (hn : -9223372036854775808 ≤ n ∧ n ≤ 9223372036854775807) (hd : -9223372036854775808 ≤ d ∧ d ≤ 9223372036854775807) :
    Calls Try.prog 65 #[.int .i64 n, .int .i64 d] w fun e w' => e = .returned (rve (Qm.newR n d)) ∧ Blw w.heap.size w w' := by
  obtain ⟨hn1, hn2⟩ := hn
  obtain ⟨hd1, hd2⟩ := hd
  have HB0 := Lib.hid ((Blw.refl w.heap.size w).alloc (Nat.le_refl _) (Obj.cells #[.int .i64 0, .int .i64 0] 25))
  by_cases h0 : d = 0
  · have hE : Qm.newR n d = (0, 0, 1) := by unfold Qm.newR; rw [if_pos h0]
    have HE := Lib.hid hE
    clear hE
    generalize Qm.newR n d = R at *
    subst h0
    go_enter Try.func65, Try.ntmps65
    go_wp2
    exact bodyPost_ret (v := rve (0, 0, 1)) (by simp [results, Try.results65, go_sem, rve]) rfl ⟨by rw [HE.out], HB0.out⟩
  · have hE : Qm.newR n d = Qm.ofR n d := by unfold Qm.newR; rw [if_neg h0]
    rw [hE, ofR_abs h0]
    clear hE
    have k1 := fun w => size_any n w hn1 hn2
    have k2 := fun w => size_any d w hd1 hd2
    have k3 := fun w => divisor_d (absI n) (absI d) w ⟨absI_nonneg n, by have := absI_le hn1 hn2; omega⟩ ⟨absI_nonneg d, by have := absI_le hd1 hd2; omega⟩
    rw [absI_g] at k3
    have hG := Qm.g_pos (a := n) h0
    have a1 := absI_nonneg n
    have a2 := absI_le hn1 hn2
    have b1 := absI_pos h0
    have b2 := absI_le hd1 hd2
    have x1 : 0 ≤ absI n / Qm.g n d := Int.ediv_nonneg a1 (by omega)
    have y1 : 0 ≤ absI d / Qm.g n d := Int.ediv_nonneg (by omega) (by omega)
    have x2 : absI n / Qm.g n d ≤ absI n := Int.ediv_le_self _ a1
    have y2 : absI d / Qm.g n d ≤ absI d := Int.ediv_le_self _ (by omega)
    have hd0 : (d == 0) = false := by simpa using h0
    generalize Qm.g n d = G at *
    generalize absI n = A at *
    generalize absI d = B at *
    generalize hx : A / G = x at *
    generalize hy : B / G = y at *
    have K1 := Lib.hid k1
    have K2 := Lib.hid k2
    have K3 := Lib.hid k3
    clear k1 k2 k3
    by_cases t1 : x > 1099511627776 ∨ y > 1048576
    · rw [if_pos t1]
      go_enter Try.func65, Try.ntmps65
      go_wp2_with fail
      refine (K1.out _).mono ?_
      rintro e w' ⟨rfl, rfl⟩
      go_wp2_with fail
      refine (K2.out _).mono ?_
      rintro e w' ⟨rfl, rfl⟩
      go_wp2_with fail
      refine (K3.out _).mono ?_
      rintro e w1 ⟨rfl, hB⟩
      have B1 := Lib.hid hB
      have HB1 := Lib.hid (HB0.out.trans (hB.mono HB0.out.size))
      clear hB
      obtain ⟨hc0, hc1, hf0, hf1, hz⟩ := box_rd B1.out
      go_wp2
      go_quiet (fail)
      go_wp2
      all_goals exact bodyPost_ret (v := rve (0, 0, 5)) (by simp [results, Try.results65, go_sem, hc0, hc1, rve]) rfl ⟨rfl, (blw_drewN HB1.out _).setCell (p := ⟨w.heap.size, 0, none⟩) (Nat.le_refl _) _ |>.setCell (p := ⟨w.heap.size, 1, none⟩) (Nat.le_refl _) _⟩
    · rw [if_neg t1]
      have t2 : x ≤ 1099511627776 := by omega
      have t3 : y ≤ 1048576 := by omega
      clear t1
      by_cases s1 : n < 0 <;> by_cases s2 : d < 0
      · have HE := Lib.hid (show (if decide (n < 0) != decide (d < 0) then -x else x, y, (0 : Int)) = (x, y, 0) by rw [decide_eq_true s1, decide_eq_true s2]; rfl)
        generalize (if decide (n < 0) != decide (d < 0) then -x else x, y, (0 : Int)) = R at *
        have hb1 : decide (n < 0) = true := decide_eq_true s1
        have hb2 : decide (d < 0) = true := decide_eq_true s2
        clear s1 s2
        go_enter Try.func65, Try.ntmps65
        go_wp2_with fail
        refine (K1.out _).mono ?_
        rintro e w' ⟨rfl, rfl⟩
        go_wp2_with fail
        refine (K2.out _).mono ?_
        rintro e w' ⟨rfl, rfl⟩
        go_wp2_with fail
        refine (K3.out _).mono ?_
        rintro e w1 ⟨rfl, hB⟩
        have B1 := Lib.hid hB
        have HB1 := Lib.hid (HB0.out.trans (hB.mono HB0.out.size))
        clear hB
        obtain ⟨hc0, hc1, hf0, hf1, hz⟩ := box_rd B1.out
        go_wp2
        go_quiet (fail)
        replace HB1 := Lib.hid (blw_drewN HB1.out nq)
        replace hc0 : (w1.drewN nq).cell? ⟨w.heap.size, 0, none⟩ = some (.int .i64 0) := hc0
        replace hc1 : (w1.drewN nq).cell? ⟨w.heap.size, 1, none⟩ = some (.int .i64 0) := hc1
        replace hf0 : (w1.drewN nq).frozen? ⟨w.heap.size, 0, none⟩ = false := hf0
        replace hf1 : (w1.drewN nq).frozen? ⟨w.heap.size, 1, none⟩ = false := hf1
        replace hz : w.heap.size < (w1.drewN nq).heap.size := hz
        clear B1
        generalize w1.drewN nq = w2 at *
        go_wp2
        all_goals
          exact bodyPost_ret (v := rve (x, y, 0)) (by simp [results, Try.results65, go_sem, hc0, hc1, hz, rve]) rfl ⟨by rw [HE.out], ((HB1.out.setCell (p := ⟨w.heap.size, 0, none⟩) (Nat.le_refl _) _).setCell (p := ⟨w.heap.size, 1, none⟩) (Nat.le_refl _) _).alloc (by simp; omega) _⟩
      · have HE := Lib.hid (show (if decide (n < 0) != decide (d < 0) then -x else x, y, (0 : Int)) = (-x, y, 0) by rw [decide_eq_true s1, decide_eq_false s2]; rfl)
        generalize (if decide (n < 0) != decide (d < 0) then -x else x, y, (0 : Int)) = R at *
        have k4 := fun w => negative_d x y w
        rw [negI_of (by omega) (by omega)] at k4
        have K4 := Lib.hid k4
        clear k4
        unfold rv at K4
        have hb1 : decide (n < 0) = true := decide_eq_true s1
        have hb2 : decide (d < 0) = false := decide_eq_false s2
        clear s1 s2
        go_enter Try.func65, Try.ntmps65
        go_wp2_with fail
        refine (K1.out _).mono ?_
        rintro e w' ⟨rfl, rfl⟩
        go_wp2_with fail
        refine (K2.out _).mono ?_
        rintro e w' ⟨rfl, rfl⟩
        go_wp2_with fail
        refine (K3.out _).mono ?_
        rintro e w1 ⟨rfl, hB⟩
        have B1 := Lib.hid hB
        have HB1 := Lib.hid (HB0.out.trans (hB.mono HB0.out.size))
        clear hB
        obtain ⟨hc0, hc1, hf0, hf1, hz⟩ := box_rd B1.out
        go_wp2
        go_quiet (fail)
        replace HB1 := Lib.hid (blw_drewN HB1.out nq)
        replace hc0 : (w1.drewN nq).cell? ⟨w.heap.size, 0, none⟩ = some (.int .i64 0) := hc0
        replace hc1 : (w1.drewN nq).cell? ⟨w.heap.size, 1, none⟩ = some (.int .i64 0) := hc1
        replace hf0 : (w1.drewN nq).frozen? ⟨w.heap.size, 0, none⟩ = false := hf0
        replace hf1 : (w1.drewN nq).frozen? ⟨w.heap.size, 1, none⟩ = false := hf1
        replace hz : w.heap.size < (w1.drewN nq).heap.size := hz
        clear B1
        generalize w1.drewN nq = w2 at *
        go_wp2_with fail
        all_goals
          refine (K4.out _).mono ?_
          rintro e w3 ⟨rfl, hB⟩
          have r0 := (hB.cell (p := ⟨w.heap.size, 0, none⟩) (by simp; omega)).trans (cell_alloc_l _ hc0)
          have r1 := (hB.cell (p := ⟨w.heap.size, 1, none⟩) (by simp; omega)).trans (cell_alloc_l _ hc1)
          have r2 := (hB.frozen (p := ⟨w.heap.size, 0, none⟩) (by simp; omega)).trans (frozen_alloc_l _ hc0 hf0)
          have r3 := (hB.frozen (p := ⟨w.heap.size, 1, none⟩) (by simp; omega)).trans (frozen_alloc_l _ hc1 hf1)
          obtain ⟨hd0, hd1, he0, he1, hz2⟩ := box_rd hB
          have HB2 := Lib.hid ((HB1.out.alloc (by omega) (Obj.cells #[.int .i64 x, .int .i64 y] 25)).trans (hB.mono (by simp; omega)))
          clear hB
          go_wp2
          all_goals
            exact bodyPost_ret (v := rve (-x, y, 0)) (by simp [results, Try.results65, go_sem, r0, r1, rve]) rfl ⟨by rw [HE.out], (((HB2.out.setCell (p := ⟨w2.heap.size, 0, none⟩) (by simp; omega) _).setCell (p := ⟨w2.heap.size, 1, none⟩) (by simp; omega) _).setCell (p := ⟨w.heap.size, 0, none⟩) (Nat.le_refl _) _).setCell (p := ⟨w.heap.size, 1, none⟩) (Nat.le_refl _) _⟩
      · have HE := Lib.hid (show (if decide (n < 0) != decide (d < 0) then -x else x, y, (0 : Int)) = (-x, y, 0) by rw [decide_eq_false s1, decide_eq_true s2]; rfl)
        generalize (if decide (n < 0) != decide (d < 0) then -x else x, y, (0 : Int)) = R at *
        have k4 := fun w => negative_d x y w
        rw [negI_of (by omega) (by omega)] at k4
        have K4 := Lib.hid k4
        clear k4
        unfold rv at K4
        have hb1 : decide (n < 0) = false := decide_eq_false s1
        have hb2 : decide (d < 0) = true := decide_eq_true s2
        clear s1 s2
        go_enter Try.func65, Try.ntmps65
        go_wp2_with fail
        refine (K1.out _).mono ?_
        rintro e w' ⟨rfl, rfl⟩
        go_wp2_with fail
        refine (K2.out _).mono ?_
        rintro e w' ⟨rfl, rfl⟩
        go_wp2_with fail
        refine (K3.out _).mono ?_
        rintro e w1 ⟨rfl, hB⟩
        have B1 := Lib.hid hB
        have HB1 := Lib.hid (HB0.out.trans (hB.mono HB0.out.size))
        clear hB
        obtain ⟨hc0, hc1, hf0, hf1, hz⟩ := box_rd B1.out
        go_wp2
        go_quiet (fail)
        replace HB1 := Lib.hid (blw_drewN HB1.out nq)
        replace hc0 : (w1.drewN nq).cell? ⟨w.heap.size, 0, none⟩ = some (.int .i64 0) := hc0
        replace hc1 : (w1.drewN nq).cell? ⟨w.heap.size, 1, none⟩ = some (.int .i64 0) := hc1
        replace hf0 : (w1.drewN nq).frozen? ⟨w.heap.size, 0, none⟩ = false := hf0
        replace hf1 : (w1.drewN nq).frozen? ⟨w.heap.size, 1, none⟩ = false := hf1
        replace hz : w.heap.size < (w1.drewN nq).heap.size := hz
        clear B1
        generalize w1.drewN nq = w2 at *
        go_wp2_with fail
        all_goals
          refine (K4.out _).mono ?_
          rintro e w3 ⟨rfl, hB⟩
          have r0 := (hB.cell (p := ⟨w.heap.size, 0, none⟩) (by simp; omega)).trans (cell_alloc_l _ hc0)
          have r1 := (hB.cell (p := ⟨w.heap.size, 1, none⟩) (by simp; omega)).trans (cell_alloc_l _ hc1)
          have r2 := (hB.frozen (p := ⟨w.heap.size, 0, none⟩) (by simp; omega)).trans (frozen_alloc_l _ hc0 hf0)
          have r3 := (hB.frozen (p := ⟨w.heap.size, 1, none⟩) (by simp; omega)).trans (frozen_alloc_l _ hc1 hf1)
          obtain ⟨hd0, hd1, he0, he1, hz2⟩ := box_rd hB
          have HB2 := Lib.hid ((HB1.out.alloc (by omega) (Obj.cells #[.int .i64 x, .int .i64 y] 25)).trans (hB.mono (by simp; omega)))
          clear hB
          go_wp2
          all_goals
            exact bodyPost_ret (v := rve (-x, y, 0)) (by simp [results, Try.results65, go_sem, r0, r1, rve]) rfl ⟨by rw [HE.out], (((HB2.out.setCell (p := ⟨w2.heap.size, 0, none⟩) (by simp; omega) _).setCell (p := ⟨w2.heap.size, 1, none⟩) (by simp; omega) _).setCell (p := ⟨w.heap.size, 0, none⟩) (Nat.le_refl _) _).setCell (p := ⟨w.heap.size, 1, none⟩) (Nat.le_refl _) _⟩
      · have HE := Lib.hid (show (if decide (n < 0) != decide (d < 0) then -x else x, y, (0 : Int)) = (x, y, 0) by rw [decide_eq_false s1, decide_eq_false s2]; rfl)
        generalize (if decide (n < 0) != decide (d < 0) then -x else x, y, (0 : Int)) = R at *
        have hb1 : decide (n < 0) = false := decide_eq_false s1
        have hb2 : decide (d < 0) = false := decide_eq_false s2
        clear s1 s2
        go_enter Try.func65, Try.ntmps65
        go_wp2_with fail
        refine (K1.out _).mono ?_
        rintro e w' ⟨rfl, rfl⟩
        go_wp2_with fail
        refine (K2.out _).mono ?_
        rintro e w' ⟨rfl, rfl⟩
        go_wp2_with fail
        refine (K3.out _).mono ?_
        rintro e w1 ⟨rfl, hB⟩
        have B1 := Lib.hid hB
        have HB1 := Lib.hid (HB0.out.trans (hB.mono HB0.out.size))
        clear hB
        obtain ⟨hc0, hc1, hf0, hf1, hz⟩ := box_rd B1.out
        go_wp2
        go_quiet (fail)
        replace HB1 := Lib.hid (blw_drewN HB1.out nq)
        replace hc0 : (w1.drewN nq).cell? ⟨w.heap.size, 0, none⟩ = some (.int .i64 0) := hc0
        replace hc1 : (w1.drewN nq).cell? ⟨w.heap.size, 1, none⟩ = some (.int .i64 0) := hc1
        replace hf0 : (w1.drewN nq).frozen? ⟨w.heap.size, 0, none⟩ = false := hf0
        replace hf1 : (w1.drewN nq).frozen? ⟨w.heap.size, 1, none⟩ = false := hf1
        replace hz : w.heap.size < (w1.drewN nq).heap.size := hz
        clear B1
        generalize w1.drewN nq = w2 at *
        go_wp2
        all_goals
          exact bodyPost_ret (v := rve (x, y, 0)) (by simp [results, Try.results65, go_sem, hc0, hc1, hz, rve]) rfl ⟨by rw [HE.out], ((HB1.out.setCell (p := ⟨w.heap.size, 0, none⟩) (Nat.le_refl _) _).setCell (p := ⟨w.heap.size, 1, none⟩) (Nat.le_refl _) _).alloc (by simp; omega) _⟩



set_option maxHeartbeats 1000000 in
set_option maxRecDepth 100000 in
theorem rvalid_d (n d : Int) (w : World) (hn : -9223372036854775808 ≤ n ∧ n ≤ 9223372036854775807) (hd : -9223372036854775808 ≤ d ∧ d ≤ 9223372036854775807) :
    Calls Try.prog 53 #[rv n d] w fun e w' => e = .returned (.int .i64 (Qm.validI n d)) ∧ Blw w.heap.size w w' := by
  have HB0 := Lib.hid ((Blw.refl w.heap.size w).alloc (Nat.le_refl _) (Obj.cells #[.int .i64 n, .int .i64 d] 25))
  have k1 := fun w => rnew_d n d w hn hd
  rcases newR_cases n d with ⟨o, e⟩ | ⟨o, a, b, e, hab⟩ | ⟨o, k, e, hk1, hk2⟩
  · have HE := Lib.hid (Qm.validI_ok.2 o)
    rw [e] at k1
    have K1 := Lib.hid k1
    clear k1 e o
    generalize Qm.validI n d = R at *
    unfold rv rve at *
    go_enter Try.func53, Try.ntmps53
    go_wp2_with fail
    refine (K1.out _).mono ?_
    rintro e w1 ⟨rfl, hB⟩
    have B1 := Lib.hid hB
    have HB1 := Lib.hid (HB0.out.trans (hB.mono HB0.out.size))
    clear hB
    obtain ⟨hc0, hc1, hf0, hf1, hz⟩ := box_rd B1.out
    go_wp2
    all_goals
      go_ret
      exact ⟨ret_int HE.out.symm, HB1.out.alloc (by omega) _⟩
  · have HE : Hid (Qm.validI n d = 1) := Lib.hid (by unfold Qm.validI; rw [if_neg o])
    rw [e] at k1
    have K1 := Lib.hid k1
    clear k1 e o
    generalize Qm.validI n d = R at *
    unfold rv rve at *
    go_enter Try.func53, Try.ntmps53
    go_wp2_with fail
    refine (K1.out _).mono ?_
    rintro e w1 ⟨rfl, hB⟩
    have B1 := Lib.hid hB
    have HB1 := Lib.hid (HB0.out.trans (hB.mono HB0.out.size))
    clear hB
    obtain ⟨hc0, hc1, hf0, hf1, hz⟩ := box_rd B1.out
    go_wp2
    all_goals
      go_ret
      exact ⟨ret_int HE.out.symm, HB1.out.alloc (by omega) _⟩
  · have HE : Hid (Qm.validI n d = 1) := Lib.hid (by unfold Qm.validI; rw [if_neg o])
    rw [e] at k1
    have K1 := Lib.hid k1
    have hk : (k != 0) = true := by simp; omega
    clear k1 e o
    generalize Qm.validI n d = R at *
    unfold rv rve at *
    go_enter Try.func53, Try.ntmps53
    go_wp2_with fail
    refine (K1.out _).mono ?_
    rintro e w1 ⟨rfl, hB⟩
    have B1 := Lib.hid hB
    have HB1 := Lib.hid (HB0.out.trans (hB.mono HB0.out.size))
    clear hB
    obtain ⟨hc0, hc1, hf0, hf1, hz⟩ := box_rd B1.out
    go_wp2
    all_goals
      go_ret
      exact ⟨ret_int HE.out.symm, HB1.out.alloc (by omega) _⟩



set_option maxHeartbeats 1000000 in
set_option maxRecDepth 100000 in
theorem rpair_d (a b c d : Int) (w : World) (ha : I64 a) (hb : I64 b) (hc : I64 c) (hd : I64 d) :
    Calls Try.prog 92 #[rv a b, rv c d] w fun e w' => e = .returned (.int .i64 (Qm.bothI a b c d)) ∧ Blw w.heap.size w w' := by
  have HB0 := Lib.hid (((Blw.refl w.heap.size w).alloc (Nat.le_refl _) (Obj.cells #[.int .i64 a, .int .i64 b] 25)).alloc (by simp) (Obj.cells #[.int .i64 c, .int .i64 d] 25))
  have HC0 := Lib.hid (Blw.refl (two w (.int .i64 a) (.int .i64 b) (.int .i64 c) (.int .i64 d) 25).heap.size (two w (.int .i64 a) (.int .i64 b) (.int .i64 c) (.int .i64 d) 25))
  have k1 := fun w => rvalid_d a b w ha hb
  have k2 := fun w => rvalid_d c d w hc hd
  rcases Qm.validI_two a b with e1 | e1
  · have HE : Hid (Qm.bothI a b c d = Qm.validI c d) := by
      unfold Qm.bothI
      rcases Qm.validI_two c d with e2 | e2
      · rw [e1, e2, if_pos ⟨rfl, rfl⟩]; exact rfl
      · rw [e1, e2, if_neg (by decide)]; exact rfl
    rw [e1] at k1
    have K1 := Lib.hid k1
    have K2 := Lib.hid k2
    clear k1 k2 e1
    generalize Qm.bothI a b c d = R at *
    generalize Qm.validI c d = V at *
    unfold rv at *
    go_enter Try.func92, Try.ntmps92
    go_wp2_with fail
    refine (K1.out _).mono ?_
    rintro e w1 ⟨rfl, hB⟩
    have B1 := Lib.hid hB
    have HB1 := Lib.hid (HB0.out.trans (hB.mono HB0.out.size))
    have HC1 := Lib.hid (HC0.out.trans (hB.mono HC0.out.size))
    clear hB
    obtain ⟨q1_0, q1_1, q1_2, q1_3, q1_4⟩ := box_2d HC1.out
    go_wp2_with fail
    refine (K2.out _).mono ?_
    rintro e w2 ⟨rfl, hB⟩
    have B2 := Lib.hid hB
    have HB2 := Lib.hid (HB1.out.trans (hB.mono HB1.out.size))
    have HC2 := Lib.hid (HC1.out.trans (hB.mono HC1.out.size))
    clear hB
    obtain ⟨q2_0, q2_1, q2_2, q2_3, q2_4⟩ := box_2d HC2.out
    go_wp2
    go_ret
    exact ⟨ret_int HE.out.symm, HB2.out⟩
  · have HE : Hid (Qm.bothI a b c d = 1) := by unfold Qm.bothI; rw [e1, if_neg (fun h => absurd h.1 (by decide))]; exact rfl
    rw [e1] at k1
    have K1 := Lib.hid k1
    clear k1 k2 e1
    generalize Qm.bothI a b c d = R at *
    unfold rv at *
    go_enter Try.func92, Try.ntmps92
    go_wp2_with fail
    refine (K1.out _).mono ?_
    rintro e w1 ⟨rfl, hB⟩
    have B1 := Lib.hid hB
    have HB1 := Lib.hid (HB0.out.trans (hB.mono HB0.out.size))
    have HC1 := Lib.hid (HC0.out.trans (hB.mono HC0.out.size))
    clear hB
    obtain ⟨q1_0, q1_1, q1_2, q1_3, q1_4⟩ := box_2d HC1.out
    go_wp2
    go_ret
    exact ⟨ret_int HE.out.symm, HB1.out⟩



set_option maxHeartbeats 1000000 in
set_option maxRecDepth 100000 in
theorem rcmp_d (a b c d : Int) (w : World) (ha : I64 a) (hb : I64 b) (hc : I64 c) (hd : I64 d) :
    Calls Try.prog 64 #[rv a b, rv c d] w fun e w' => e = .returned (.tuple #[.int .i64 (cmpR a b c d).1, .int .i64 (cmpR a b c d).2]) ∧ Blw w.heap.size w w' := by
  have HB0 := Lib.hid (((Blw.refl w.heap.size w).alloc (Nat.le_refl _) (Obj.cells #[.int .i64 a, .int .i64 b] 25)).alloc (by simp) (Obj.cells #[.int .i64 c, .int .i64 d] 25))
  have HC0 := Lib.hid (Blw.refl (two w (.int .i64 a) (.int .i64 b) (.int .i64 c) (.int .i64 d) 25).heap.size (two w (.int .i64 a) (.int .i64 b) (.int .i64 c) (.int .i64 d) 25))
  have k1 := fun w => rpair_d a b c d w ha hb hc hd
  rcases Qm.bothI_two a b c d with e1 | e1
  · obtain ⟨o, o'⟩ := Qm.bothI_ok.1 e1
    have h1 := Qm.mul_small o.2.2.1 o.2.2.2.1 o'.1 o'.2.1
    have h2 := Qm.mul_small o'.2.2.1 o'.2.2.2.1 o.1 o.2.1
    obtain ⟨h11, h12⟩ := h1
    obtain ⟨h21, h22⟩ := h2
    have k2 := fun w => compare_any (a * d) (c * b) w
    have HE : Hid (cmpR a b c d = ((if a * d < c * b then -1 else if c * b < a * d then 1 else 0), 0)) := Lib.hid (by unfold cmpR; rw [if_pos e1]; rfl)
    rw [e1] at k1
    generalize (if a * d < c * b then (-1 : Int) else if c * b < a * d then 1 else 0) = V at *
    generalize cmpR a b c d = R at *
    have K1 := Lib.hid k1
    have K2 := Lib.hid k2
    clear k1 k2 e1 o o' ha hb hc hd
    unfold rv at *
    go_enter Try.func64, Try.ntmps64
    go_wp2_with fail
    refine (K1.out _).mono ?_
    rintro e w1 ⟨rfl, hB⟩
    have B1 := Lib.hid hB
    have HB1 := Lib.hid (HB0.out.trans (hB.mono HB0.out.size))
    have HC1 := Lib.hid (HC0.out.trans (hB.mono HC0.out.size))
    clear hB
    obtain ⟨q1_0, q1_1, q1_2, q1_3, q1_4⟩ := box_2d HC1.out
    go_wp2_with fail
    refine (K2.out _).mono ?_
    rintro e w' ⟨rfl, rfl⟩
    go_wp2
    go_ret2
    exact ⟨by rw [HE.out]; exact rfl, HB1.out⟩
  · have hE : cmpR a b c d = (0, 1) := by unfold cmpR; rw [if_neg (by rw [e1]; decide)]
    rw [e1] at k1
    have HE := Lib.hid hE
    have K1 := Lib.hid k1
    clear k1 e1 hE
    generalize cmpR a b c d = R at *
    unfold rv at *
    go_enter Try.func64, Try.ntmps64
    go_wp2_with fail
    refine (K1.out _).mono ?_
    rintro e w1 ⟨rfl, hB⟩
    have B1 := Lib.hid hB
    have HB1 := Lib.hid (HB0.out.trans (hB.mono HB0.out.size))
    have HC1 := Lib.hid (HC0.out.trans (hB.mono HC0.out.size))
    clear hB
    obtain ⟨q1_0, q1_1, q1_2, q1_3, q1_4⟩ := box_2d HC1.out
    go_wp2
    go_ret2
    exact ⟨by rw [HE.out]; exact rfl, HB1.out⟩



set_option maxHeartbeats 2000000 in
set_option maxRecDepth 100000 in
theorem scmp_d (x y : Cut) (w : World) (hx : x.Ok) (hy : y.Ok) :
    Calls Try.prog 50 #[x.v, y.v] w fun e w' => e = .returned (.int .i64 (cmpC x y)) ∧ Blw w.heap.size w w' := by
  rw [cmpC_eq hx hy]
  have k1 := fun w => rcmp_d x.n x.d y.n y.d w (ok_nums hx).1 (ok_nums hx).2 (ok_nums hy).1 (ok_nums hy).2
  rw [cmpR_good hx hy] at k1
  obtain ⟨n, d, a⟩ := x
  obtain ⟨n', d', a'⟩ := y
  unfold Cut.v rv at *
  simp only at *
  clear hx hy
  generalize Qm.cmpI n d n' d' = V at *
  have XA := Lib.hid ((BoxL.made w #[.int .i64 n, .int .i64 d, .bool a] 75).under (.cells #[.int .i64 n', .int .i64 d', .bool a'] 75))
  have xb := BoxL.made (w.alloc (.cells #[.int .i64 n, .int .i64 d, .bool a] 75)) #[.int .i64 n', .int .i64 d', .bool a'] 75
  rw [size_alloc] at xb
  have XB := Lib.hid xb
  have HB0 := Lib.hid (((Blw.refl w.heap.size w).alloc (Nat.le_refl _) (.cells #[.int .i64 n, .int .i64 d, .bool a] 75)).alloc (by simp) (.cells #[.int .i64 n', .int .i64 d', .bool a'] 75))
  have K1 := Lib.hid k1
  clear xb k1
  by_cases hV : V = 0
  · subst hV
    cases a <;> cases a'
    all_goals
      go_enter Try.func50, Try.ntmps50
      go_wp2_with fail
      refine (K1.out _).mono ?_
      rintro e w1 ⟨rfl, hB⟩
      have H1 := Lib.hid (HB0.out.trans (hB.mono HB0.out.size))
      obtain ⟨a0, a1, a2, -, -, -, a3⟩ := BoxL.open3 (XA.out.keep hB.toBelow)
      obtain ⟨b0, b1, b2, -, -, -, b3⟩ := BoxL.open3 (XB.out.keep hB.toBelow)
      clear hB
      go_wp2
      go_ret
      exact ⟨rfl, H1.out⟩
  · have hVb : (V == 0) = false := by simpa using hV
    rw [if_pos hV]
    go_enter Try.func50, Try.ntmps50
    go_wp2_with fail
    refine (K1.out _).mono ?_
    rintro e w1 ⟨rfl, hB⟩
    have H1 := Lib.hid (HB0.out.trans (hB.mono HB0.out.size))
    clear hB
    go_wp2
    go_ret
    exact ⟨rfl, H1.out⟩


end Go.Proofs.Ytimbgjpjgbjnkaa

