/- Contracts of priorartref03: Ratio, the generator. -/
import Derived.Test.YtimbgjpjgbjnkaaRef03bRef03h
namespace Go.Proofs.Ytimbgjpjgbjnkaa
open Go.RowKit Go.Shelf

/-- Some ratio comes back. -/
def RatOut (P : Int → Int → Prop) (w : World) (e : Ending) (w' : World) : Prop := ∃ a b, P a b ∧ e = .returned (rv a b) ∧ Below w.heap.size w w'

/-- A valid one. -/
def OkP (a b : Int) : Prop := Qm.Ok a b

/-- A small one. -/
def SmallP (a b : Int) : Prop := Qm.Ok a b ∧ -30 ≤ a ∧ a ≤ 30 ∧ b ≤ 12

theorem ok_one : Qm.Ok 1 1 := ⟨by decide, by decide, by decide, by decide, by decide⟩

theorem small_out {v d : Int} (h1 : 1 ≤ d) (h2 : d ≤ 12) (h3 : -30 ≤ v) (h4 : v ≤ 30) : ∃ a b, Qm.ofR v d = (a, b, 0) ∧ SmallP a b := by
  have hg := Qm.g_pos (a := v) (b := d) (by omega)
  have b1 := ediv_le (M := 30) hg h3 h4
  have b2 := ediv_le (M := 12) hg (show -12 ≤ d by omega) h2
  have e : Qm.ofR v d = (v / Qm.g v d, d / Qm.g v d, 0) := by rw [Qm.ofR_pos (by omega), if_neg (by omega)]
  refine ⟨_, _, e, ?_, b1.1, b1.2, b2.2⟩
  rcases Qm.ofR_out (n := v) (d := d) (by omega) with e' | ⟨a, b, e', o, _⟩
  · rw [e] at e'
    simp at e'
  · rw [e] at e'
    simp only [Prod.mk.injEq, and_true] at e'
    rw [e'.1, e'.2]
    exact o

set_option maxHeartbeats 1000000 in
set_option maxRecDepth 100000 in
theorem ratio_small (n m : Int) (w : World) (hn : (Lit.int .i64 n).wf = true) (hm : (Lit.int .i64 m).wf = true) (hk : aroundI m 1048576 % 4 ≠ 3) :
    Calls Try.prog 15 #[.int .i64 n, .int .i64 m] w (RatOut SmallP w) := by
  have HB0 := Lib.hid ((Below.refl w.heap.size w).alloc (Nat.le_refl _) (Obj.cells #[.int .i64 0, .int .i64 0] 25))
  have k1 := fun w => around_any m 1048576 w (by omega) (by omega) hm
  have k2 := fun w => bound_any n 30 w (by omega) (by omega) hn
  obtain ⟨r1, r2⟩ := aroundI_range m 1048576 (by omega)
  obtain ⟨s1, s2⟩ := boundI_range n 30 (by omega)
  generalize aroundI m 1048576 = k at *
  generalize boundI n 30 = v at *
  have hq : (k % 4 == 3) = false := by simpa using hk
  have d1 : 1 ≤ 1 + k / 4 % 12 := by omega
  have d2 : 1 + k / 4 % 12 ≤ 12 := by omega
  have k3 := fun w => of_any v (1 + k / 4 % 12) w (by omega) (by omega) (by omega)
  have K1 := Lib.hid k1
  have K2 := Lib.hid k2
  clear k1 k2 hn hm hk
  obtain ⟨a, b, e, hv⟩ := small_out d1 d2 s1 s2
  rw [e] at k3
  have K3 := Lib.hid k3
  have HV := Lib.hid hv
  clear k3 e hv
  go_enter Try.func15, Try.ntmps15
  go_wp2_with fail
  refine (K1.out _).mono ?_
  rintro e w' ⟨rfl, rfl⟩
  go_wp2_with fail
  refine (K2.out _).mono ?_
  rintro e w' ⟨rfl, rfl⟩
  go_wp2_with fail
  refine (K3.out _).mono ?_
  rintro e w1 ⟨rfl, hB⟩
  have B1 := Lib.hid hB
  have HB1 := Lib.hid (HB0.out.trans (hB.mono HB0.out.size))
  clear hB
  unfold rve
  obtain ⟨hc0, hc1, hf0, hf1, hz⟩ := box_r B1.out
  go_wp2
  exact bodyPost_ret (v := rv a b) (by simp [results, Try.results15, go_sem, hc0, hc1, hz, rv]) rfl ⟨a, b, HV.out, rfl, ((HB1.out.setCell (p := ⟨w.heap.size, 0, none⟩) (Nat.le_refl _) _).setCell (p := ⟨w.heap.size, 1, none⟩) (Nat.le_refl _) _).alloc (by simp; omega) _⟩

theorem ratio_dens (k : Int) : k / 4 % 6 = 0 ∨ k / 4 % 6 = 1 ∨ k / 4 % 6 = 2 ∨ k / 4 % 6 = 3 ∨ k / 4 % 6 = 4 ∨ k / 4 % 6 = 5 := by omega

/-- The box of a result that is a ratio, below something new, after a call. -/
theorem box_ro {w w1 : World} {a b : Value} {t : TypeId} {o : Obj} (hb : Below ((w.alloc (.cells #[a, b] t)).alloc o).heap.size ((w.alloc (.cells #[a, b] t)).alloc o) w1) :
    w1.cell? ⟨w.heap.size, 0, none⟩ = some a ∧ w1.cell? ⟨w.heap.size, 1, none⟩ = some b ∧ w1.frozen? ⟨w.heap.size, 0, none⟩ = false ∧ w1.frozen? ⟨w.heap.size, 1, none⟩ = false ∧ w.heap.size < w1.heap.size := by
  obtain ⟨c0, c1, f0, f1⟩ := cell_new2 w a b t
  have h := bcell hb
  have hs := hb.size
  simp at hs
  refine ⟨?_, ?_, ?_, ?_, by omega⟩
  · rw [h.1 _ _ (by simp; omega)]; exact cell_alloc_l _ c0
  · rw [h.1 _ _ (by simp; omega)]; exact cell_alloc_l _ c1
  · rw [h.2 _ _ (by simp; omega)]; exact frozen_alloc_l _ c0 f0
  · rw [h.2 _ _ (by simp; omega)]; exact frozen_alloc_l _ c1 f1

set_option maxHeartbeats 1000000 in
set_option maxRecDepth 100000 in
theorem ratio_big0 (n m k v u : Int) (w : World) (K1 : Hid (∀ w, Calls Try.prog 11 #[.int .i64 m, .int .i64 1048576] w fun e w' => e = .returned (.int .i64 k) ∧ w = w'))
    (K2 : Hid (∀ w, Calls Try.prog 12 #[.int .i64 n, .int .i64 30] w fun e w' => e = .returned (.int .i64 v) ∧ w = w'))
    (K3 : Hid (∀ w, Calls Try.prog 12 #[.int .i64 n, .int .i64 1099511627776] w fun e w' => e = .returned (.int .i64 u) ∧ w = w'))
    (hk1 : 0 ≤ k) (hk2 : k < 1048576) (hk : k % 4 = 3) (hj : k / 4 % 6 = 0) (hu1 : -1099511627776 ≤ u) (hu2 : u ≤ 1099511627776) :
    Calls Try.prog 15 #[.int .i64 n, .int .i64 m] w (RatOut OkP w) := by
  have k4 := fun w => of_any u 1 w (by omega) (by omega) (by omega)
  rcases Qm.ofR_out (n := u) (d := 1) (by omega) with e | ⟨a, b, e, o, _⟩
  · rw [e] at k4
    have K4 := Lib.hid k4
    clear k4 e
    go_enter Try.func15, Try.ntmps15
    go_wp2_with fail
    refine (K1.out _).mono ?_
    rintro e w' ⟨rfl, rfl⟩
    go_wp2_with fail
    refine (K2.out _).mono ?_
    rintro e w' ⟨rfl, rfl⟩
    go_wp2_with fail
    refine (K3.out _).mono ?_
    rintro e w' ⟨rfl, rfl⟩
    go_wp2_with fail
    refine (K4.out _).mono ?_
    rintro e w1 ⟨rfl, hB⟩
    obtain ⟨hc0, hc1, hf0, hf1, hz⟩ := box_ro hB
    have HB1 := Lib.hid ((((Below.refl w.heap.size w).alloc (Nat.le_refl _) _).alloc (by simp) _).trans (hB.mono (by simp; omega)))
    clear hB
    unfold rve
    go_wp2
    exact bodyPost_ret (v := rv 1 1) (by simp [results, Try.results15, go_sem, hc0, hc1, hz, rv]) rfl ⟨1, 1, ok_one, rfl, ((HB1.out.setCell (p := ⟨w.heap.size, 0, none⟩) (Nat.le_refl _) _).setCell (p := ⟨w.heap.size, 1, none⟩) (Nat.le_refl _) _).alloc (by simp; omega) _⟩
  · rw [e] at k4
    have K4 := Lib.hid k4
    have HV := Lib.hid o
    clear k4 e o
    go_enter Try.func15, Try.ntmps15
    go_wp2_with fail
    refine (K1.out _).mono ?_
    rintro e w' ⟨rfl, rfl⟩
    go_wp2_with fail
    refine (K2.out _).mono ?_
    rintro e w' ⟨rfl, rfl⟩
    go_wp2_with fail
    refine (K3.out _).mono ?_
    rintro e w' ⟨rfl, rfl⟩
    go_wp2_with fail
    refine (K4.out _).mono ?_
    rintro e w1 ⟨rfl, hB⟩
    obtain ⟨hc0, hc1, hf0, hf1, hz⟩ := box_ro hB
    have HB1 := Lib.hid ((((Below.refl w.heap.size w).alloc (Nat.le_refl _) _).alloc (by simp) _).trans (hB.mono (by simp; omega)))
    clear hB
    unfold rve
    go_wp2
    exact bodyPost_ret (v := rv a b) (by simp [results, Try.results15, go_sem, hc0, hc1, hz, rv]) rfl ⟨a, b, HV.out, rfl, ((HB1.out.setCell (p := ⟨w.heap.size, 0, none⟩) (Nat.le_refl _) _).setCell (p := ⟨w.heap.size, 1, none⟩) (Nat.le_refl _) _).alloc (by simp; omega) _⟩

set_option maxHeartbeats 1000000 in
set_option maxRecDepth 100000 in
theorem ratio_big1 (n m k v u : Int) (w : World) (K1 : Hid (∀ w, Calls Try.prog 11 #[.int .i64 m, .int .i64 1048576] w fun e w' => e = .returned (.int .i64 k) ∧ w = w'))
    (K2 : Hid (∀ w, Calls Try.prog 12 #[.int .i64 n, .int .i64 30] w fun e w' => e = .returned (.int .i64 v) ∧ w = w'))
    (K3 : Hid (∀ w, Calls Try.prog 12 #[.int .i64 n, .int .i64 1099511627776] w fun e w' => e = .returned (.int .i64 u) ∧ w = w'))
    (hk1 : 0 ≤ k) (hk2 : k < 1048576) (hk : k % 4 = 3) (hj : k / 4 % 6 = 1) (hu1 : -1099511627776 ≤ u) (hu2 : u ≤ 1099511627776) :
    Calls Try.prog 15 #[.int .i64 n, .int .i64 m] w (RatOut OkP w) := by
  have k4 := fun w => of_any u 2 w (by omega) (by omega) (by omega)
  rcases Qm.ofR_out (n := u) (d := 2) (by omega) with e | ⟨a, b, e, o, _⟩
  · rw [e] at k4
    have K4 := Lib.hid k4
    clear k4 e
    go_enter Try.func15, Try.ntmps15
    go_wp2_with fail
    refine (K1.out _).mono ?_
    rintro e w' ⟨rfl, rfl⟩
    go_wp2_with fail
    refine (K2.out _).mono ?_
    rintro e w' ⟨rfl, rfl⟩
    go_wp2_with fail
    refine (K3.out _).mono ?_
    rintro e w' ⟨rfl, rfl⟩
    go_wp2_with fail
    refine (K4.out _).mono ?_
    rintro e w1 ⟨rfl, hB⟩
    obtain ⟨hc0, hc1, hf0, hf1, hz⟩ := box_ro hB
    have HB1 := Lib.hid ((((Below.refl w.heap.size w).alloc (Nat.le_refl _) _).alloc (by simp) _).trans (hB.mono (by simp; omega)))
    clear hB
    unfold rve
    go_wp2
    exact bodyPost_ret (v := rv 1 1) (by simp [results, Try.results15, go_sem, hc0, hc1, hz, rv]) rfl ⟨1, 1, ok_one, rfl, ((HB1.out.setCell (p := ⟨w.heap.size, 0, none⟩) (Nat.le_refl _) _).setCell (p := ⟨w.heap.size, 1, none⟩) (Nat.le_refl _) _).alloc (by simp; omega) _⟩
  · rw [e] at k4
    have K4 := Lib.hid k4
    have HV := Lib.hid o
    clear k4 e o
    go_enter Try.func15, Try.ntmps15
    go_wp2_with fail
    refine (K1.out _).mono ?_
    rintro e w' ⟨rfl, rfl⟩
    go_wp2_with fail
    refine (K2.out _).mono ?_
    rintro e w' ⟨rfl, rfl⟩
    go_wp2_with fail
    refine (K3.out _).mono ?_
    rintro e w' ⟨rfl, rfl⟩
    go_wp2_with fail
    refine (K4.out _).mono ?_
    rintro e w1 ⟨rfl, hB⟩
    obtain ⟨hc0, hc1, hf0, hf1, hz⟩ := box_ro hB
    have HB1 := Lib.hid ((((Below.refl w.heap.size w).alloc (Nat.le_refl _) _).alloc (by simp) _).trans (hB.mono (by simp; omega)))
    clear hB
    unfold rve
    go_wp2
    exact bodyPost_ret (v := rv a b) (by simp [results, Try.results15, go_sem, hc0, hc1, hz, rv]) rfl ⟨a, b, HV.out, rfl, ((HB1.out.setCell (p := ⟨w.heap.size, 0, none⟩) (Nat.le_refl _) _).setCell (p := ⟨w.heap.size, 1, none⟩) (Nat.le_refl _) _).alloc (by simp; omega) _⟩

set_option maxHeartbeats 1000000 in
set_option maxRecDepth 100000 in
theorem ratio_big2 (n m k v u : Int) (w : World) (K1 : Hid (∀ w, Calls Try.prog 11 #[.int .i64 m, .int .i64 1048576] w fun e w' => e = .returned (.int .i64 k) ∧ w = w'))
    (K2 : Hid (∀ w, Calls Try.prog 12 #[.int .i64 n, .int .i64 30] w fun e w' => e = .returned (.int .i64 v) ∧ w = w'))
    (K3 : Hid (∀ w, Calls Try.prog 12 #[.int .i64 n, .int .i64 1099511627776] w fun e w' => e = .returned (.int .i64 u) ∧ w = w'))
    (hk1 : 0 ≤ k) (hk2 : k < 1048576) (hk : k % 4 = 3) (hj : k / 4 % 6 = 2) (hu1 : -1099511627776 ≤ u) (hu2 : u ≤ 1099511627776) :
    Calls Try.prog 15 #[.int .i64 n, .int .i64 m] w (RatOut OkP w) := by
  have k4 := fun w => of_any u 1048576 w (by omega) (by omega) (by omega)
  rcases Qm.ofR_out (n := u) (d := 1048576) (by omega) with e | ⟨a, b, e, o, _⟩
  · rw [e] at k4
    have K4 := Lib.hid k4
    clear k4 e
    go_enter Try.func15, Try.ntmps15
    go_wp2_with fail
    refine (K1.out _).mono ?_
    rintro e w' ⟨rfl, rfl⟩
    go_wp2_with fail
    refine (K2.out _).mono ?_
    rintro e w' ⟨rfl, rfl⟩
    go_wp2_with fail
    refine (K3.out _).mono ?_
    rintro e w' ⟨rfl, rfl⟩
    go_wp2_with fail
    refine (K4.out _).mono ?_
    rintro e w1 ⟨rfl, hB⟩
    obtain ⟨hc0, hc1, hf0, hf1, hz⟩ := box_ro hB
    have HB1 := Lib.hid ((((Below.refl w.heap.size w).alloc (Nat.le_refl _) _).alloc (by simp) _).trans (hB.mono (by simp; omega)))
    clear hB
    unfold rve
    go_wp2
    exact bodyPost_ret (v := rv 1 1) (by simp [results, Try.results15, go_sem, hc0, hc1, hz, rv]) rfl ⟨1, 1, ok_one, rfl, ((HB1.out.setCell (p := ⟨w.heap.size, 0, none⟩) (Nat.le_refl _) _).setCell (p := ⟨w.heap.size, 1, none⟩) (Nat.le_refl _) _).alloc (by simp; omega) _⟩
  · rw [e] at k4
    have K4 := Lib.hid k4
    have HV := Lib.hid o
    clear k4 e o
    go_enter Try.func15, Try.ntmps15
    go_wp2_with fail
    refine (K1.out _).mono ?_
    rintro e w' ⟨rfl, rfl⟩
    go_wp2_with fail
    refine (K2.out _).mono ?_
    rintro e w' ⟨rfl, rfl⟩
    go_wp2_with fail
    refine (K3.out _).mono ?_
    rintro e w' ⟨rfl, rfl⟩
    go_wp2_with fail
    refine (K4.out _).mono ?_
    rintro e w1 ⟨rfl, hB⟩
    obtain ⟨hc0, hc1, hf0, hf1, hz⟩ := box_ro hB
    have HB1 := Lib.hid ((((Below.refl w.heap.size w).alloc (Nat.le_refl _) _).alloc (by simp) _).trans (hB.mono (by simp; omega)))
    clear hB
    unfold rve
    go_wp2
    exact bodyPost_ret (v := rv a b) (by simp [results, Try.results15, go_sem, hc0, hc1, hz, rv]) rfl ⟨a, b, HV.out, rfl, ((HB1.out.setCell (p := ⟨w.heap.size, 0, none⟩) (Nat.le_refl _) _).setCell (p := ⟨w.heap.size, 1, none⟩) (Nat.le_refl _) _).alloc (by simp; omega) _⟩

set_option maxHeartbeats 1000000 in
set_option maxRecDepth 100000 in
theorem ratio_big3 (n m k v u : Int) (w : World) (K1 : Hid (∀ w, Calls Try.prog 11 #[.int .i64 m, .int .i64 1048576] w fun e w' => e = .returned (.int .i64 k) ∧ w = w'))
    (K2 : Hid (∀ w, Calls Try.prog 12 #[.int .i64 n, .int .i64 30] w fun e w' => e = .returned (.int .i64 v) ∧ w = w'))
    (K3 : Hid (∀ w, Calls Try.prog 12 #[.int .i64 n, .int .i64 1099511627776] w fun e w' => e = .returned (.int .i64 u) ∧ w = w'))
    (hk1 : 0 ≤ k) (hk2 : k < 1048576) (hk : k % 4 = 3) (hj : k / 4 % 6 = 3) (hu1 : -1099511627776 ≤ u) (hu2 : u ≤ 1099511627776) :
    Calls Try.prog 15 #[.int .i64 n, .int .i64 m] w (RatOut OkP w) := by
  have k4 := fun w => of_any u 1048575 w (by omega) (by omega) (by omega)
  rcases Qm.ofR_out (n := u) (d := 1048575) (by omega) with e | ⟨a, b, e, o, _⟩
  · rw [e] at k4
    have K4 := Lib.hid k4
    clear k4 e
    go_enter Try.func15, Try.ntmps15
    go_wp2_with fail
    refine (K1.out _).mono ?_
    rintro e w' ⟨rfl, rfl⟩
    go_wp2_with fail
    refine (K2.out _).mono ?_
    rintro e w' ⟨rfl, rfl⟩
    go_wp2_with fail
    refine (K3.out _).mono ?_
    rintro e w' ⟨rfl, rfl⟩
    go_wp2_with fail
    refine (K4.out _).mono ?_
    rintro e w1 ⟨rfl, hB⟩
    obtain ⟨hc0, hc1, hf0, hf1, hz⟩ := box_ro hB
    have HB1 := Lib.hid ((((Below.refl w.heap.size w).alloc (Nat.le_refl _) _).alloc (by simp) _).trans (hB.mono (by simp; omega)))
    clear hB
    unfold rve
    go_wp2
    exact bodyPost_ret (v := rv 1 1) (by simp [results, Try.results15, go_sem, hc0, hc1, hz, rv]) rfl ⟨1, 1, ok_one, rfl, ((HB1.out.setCell (p := ⟨w.heap.size, 0, none⟩) (Nat.le_refl _) _).setCell (p := ⟨w.heap.size, 1, none⟩) (Nat.le_refl _) _).alloc (by simp; omega) _⟩
  · rw [e] at k4
    have K4 := Lib.hid k4
    have HV := Lib.hid o
    clear k4 e o
    go_enter Try.func15, Try.ntmps15
    go_wp2_with fail
    refine (K1.out _).mono ?_
    rintro e w' ⟨rfl, rfl⟩
    go_wp2_with fail
    refine (K2.out _).mono ?_
    rintro e w' ⟨rfl, rfl⟩
    go_wp2_with fail
    refine (K3.out _).mono ?_
    rintro e w' ⟨rfl, rfl⟩
    go_wp2_with fail
    refine (K4.out _).mono ?_
    rintro e w1 ⟨rfl, hB⟩
    obtain ⟨hc0, hc1, hf0, hf1, hz⟩ := box_ro hB
    have HB1 := Lib.hid ((((Below.refl w.heap.size w).alloc (Nat.le_refl _) _).alloc (by simp) _).trans (hB.mono (by simp; omega)))
    clear hB
    unfold rve
    go_wp2
    exact bodyPost_ret (v := rv a b) (by simp [results, Try.results15, go_sem, hc0, hc1, hz, rv]) rfl ⟨a, b, HV.out, rfl, ((HB1.out.setCell (p := ⟨w.heap.size, 0, none⟩) (Nat.le_refl _) _).setCell (p := ⟨w.heap.size, 1, none⟩) (Nat.le_refl _) _).alloc (by simp; omega) _⟩

set_option maxHeartbeats 1000000 in
set_option maxRecDepth 100000 in
theorem ratio_big4 (n m k v u : Int) (w : World) (K1 : Hid (∀ w, Calls Try.prog 11 #[.int .i64 m, .int .i64 1048576] w fun e w' => e = .returned (.int .i64 k) ∧ w = w'))
    (K2 : Hid (∀ w, Calls Try.prog 12 #[.int .i64 n, .int .i64 30] w fun e w' => e = .returned (.int .i64 v) ∧ w = w'))
    (K3 : Hid (∀ w, Calls Try.prog 12 #[.int .i64 n, .int .i64 1099511627776] w fun e w' => e = .returned (.int .i64 u) ∧ w = w'))
    (hk1 : 0 ≤ k) (hk2 : k < 1048576) (hk : k % 4 = 3) (hj : k / 4 % 6 = 4) (hu1 : -1099511627776 ≤ u) (hu2 : u ≤ 1099511627776) :
    Calls Try.prog 15 #[.int .i64 n, .int .i64 m] w (RatOut OkP w) := by
  have k4 := fun w => of_any u 32768 w (by omega) (by omega) (by omega)
  rcases Qm.ofR_out (n := u) (d := 32768) (by omega) with e | ⟨a, b, e, o, _⟩
  · rw [e] at k4
    have K4 := Lib.hid k4
    clear k4 e
    go_enter Try.func15, Try.ntmps15
    go_wp2_with fail
    refine (K1.out _).mono ?_
    rintro e w' ⟨rfl, rfl⟩
    go_wp2_with fail
    refine (K2.out _).mono ?_
    rintro e w' ⟨rfl, rfl⟩
    go_wp2_with fail
    refine (K3.out _).mono ?_
    rintro e w' ⟨rfl, rfl⟩
    go_wp2_with fail
    refine (K4.out _).mono ?_
    rintro e w1 ⟨rfl, hB⟩
    obtain ⟨hc0, hc1, hf0, hf1, hz⟩ := box_ro hB
    have HB1 := Lib.hid ((((Below.refl w.heap.size w).alloc (Nat.le_refl _) _).alloc (by simp) _).trans (hB.mono (by simp; omega)))
    clear hB
    unfold rve
    go_wp2
    exact bodyPost_ret (v := rv 1 1) (by simp [results, Try.results15, go_sem, hc0, hc1, hz, rv]) rfl ⟨1, 1, ok_one, rfl, ((HB1.out.setCell (p := ⟨w.heap.size, 0, none⟩) (Nat.le_refl _) _).setCell (p := ⟨w.heap.size, 1, none⟩) (Nat.le_refl _) _).alloc (by simp; omega) _⟩
  · rw [e] at k4
    have K4 := Lib.hid k4
    have HV := Lib.hid o
    clear k4 e o
    go_enter Try.func15, Try.ntmps15
    go_wp2_with fail
    refine (K1.out _).mono ?_
    rintro e w' ⟨rfl, rfl⟩
    go_wp2_with fail
    refine (K2.out _).mono ?_
    rintro e w' ⟨rfl, rfl⟩
    go_wp2_with fail
    refine (K3.out _).mono ?_
    rintro e w' ⟨rfl, rfl⟩
    go_wp2_with fail
    refine (K4.out _).mono ?_
    rintro e w1 ⟨rfl, hB⟩
    obtain ⟨hc0, hc1, hf0, hf1, hz⟩ := box_ro hB
    have HB1 := Lib.hid ((((Below.refl w.heap.size w).alloc (Nat.le_refl _) _).alloc (by simp) _).trans (hB.mono (by simp; omega)))
    clear hB
    unfold rve
    go_wp2
    exact bodyPost_ret (v := rv a b) (by simp [results, Try.results15, go_sem, hc0, hc1, hz, rv]) rfl ⟨a, b, HV.out, rfl, ((HB1.out.setCell (p := ⟨w.heap.size, 0, none⟩) (Nat.le_refl _) _).setCell (p := ⟨w.heap.size, 1, none⟩) (Nat.le_refl _) _).alloc (by simp; omega) _⟩

set_option maxHeartbeats 1000000 in
set_option maxRecDepth 100000 in
theorem ratio_big5 (n m k v u : Int) (w : World) (K1 : Hid (∀ w, Calls Try.prog 11 #[.int .i64 m, .int .i64 1048576] w fun e w' => e = .returned (.int .i64 k) ∧ w = w'))
    (K2 : Hid (∀ w, Calls Try.prog 12 #[.int .i64 n, .int .i64 30] w fun e w' => e = .returned (.int .i64 v) ∧ w = w'))
    (K3 : Hid (∀ w, Calls Try.prog 12 #[.int .i64 n, .int .i64 1099511627776] w fun e w' => e = .returned (.int .i64 u) ∧ w = w'))
    (hk1 : 0 ≤ k) (hk2 : k < 1048576) (hk : k % 4 = 3) (hj : k / 4 % 6 = 5) (hu1 : -1099511627776 ≤ u) (hu2 : u ≤ 1099511627776) :
    Calls Try.prog 15 #[.int .i64 n, .int .i64 m] w (RatOut OkP w) := by
  have k4 := fun w => of_any u 7 w (by omega) (by omega) (by omega)
  rcases Qm.ofR_out (n := u) (d := 7) (by omega) with e | ⟨a, b, e, o, _⟩
  · rw [e] at k4
    have K4 := Lib.hid k4
    clear k4 e
    go_enter Try.func15, Try.ntmps15
    go_wp2_with fail
    refine (K1.out _).mono ?_
    rintro e w' ⟨rfl, rfl⟩
    go_wp2_with fail
    refine (K2.out _).mono ?_
    rintro e w' ⟨rfl, rfl⟩
    go_wp2_with fail
    refine (K3.out _).mono ?_
    rintro e w' ⟨rfl, rfl⟩
    go_wp2_with fail
    refine (K4.out _).mono ?_
    rintro e w1 ⟨rfl, hB⟩
    obtain ⟨hc0, hc1, hf0, hf1, hz⟩ := box_ro hB
    have HB1 := Lib.hid ((((Below.refl w.heap.size w).alloc (Nat.le_refl _) _).alloc (by simp) _).trans (hB.mono (by simp; omega)))
    clear hB
    unfold rve
    go_wp2
    exact bodyPost_ret (v := rv 1 1) (by simp [results, Try.results15, go_sem, hc0, hc1, hz, rv]) rfl ⟨1, 1, ok_one, rfl, ((HB1.out.setCell (p := ⟨w.heap.size, 0, none⟩) (Nat.le_refl _) _).setCell (p := ⟨w.heap.size, 1, none⟩) (Nat.le_refl _) _).alloc (by simp; omega) _⟩
  · rw [e] at k4
    have K4 := Lib.hid k4
    have HV := Lib.hid o
    clear k4 e o
    go_enter Try.func15, Try.ntmps15
    go_wp2_with fail
    refine (K1.out _).mono ?_
    rintro e w' ⟨rfl, rfl⟩
    go_wp2_with fail
    refine (K2.out _).mono ?_
    rintro e w' ⟨rfl, rfl⟩
    go_wp2_with fail
    refine (K3.out _).mono ?_
    rintro e w' ⟨rfl, rfl⟩
    go_wp2_with fail
    refine (K4.out _).mono ?_
    rintro e w1 ⟨rfl, hB⟩
    obtain ⟨hc0, hc1, hf0, hf1, hz⟩ := box_ro hB
    have HB1 := Lib.hid ((((Below.refl w.heap.size w).alloc (Nat.le_refl _) _).alloc (by simp) _).trans (hB.mono (by simp; omega)))
    clear hB
    unfold rve
    go_wp2
    exact bodyPost_ret (v := rv a b) (by simp [results, Try.results15, go_sem, hc0, hc1, hz, rv]) rfl ⟨a, b, HV.out, rfl, ((HB1.out.setCell (p := ⟨w.heap.size, 0, none⟩) (Nat.le_refl _) _).setCell (p := ⟨w.heap.size, 1, none⟩) (Nat.le_refl _) _).alloc (by simp; omega) _⟩

theorem RatOut.weaken {P Q : Int → Int → Prop} {w w' : World} {e : Ending} (h : ∀ a b, P a b → Q a b) : RatOut P w e w' → RatOut Q w e w' := fun ⟨a, b, hp, he, hw⟩ => ⟨a, b, h a b hp, he, hw⟩

theorem ratio_any (n m : Int) (w : World) (hn : (Lit.int .i64 n).wf = true) (hm : (Lit.int .i64 m).wf = true) :
    Calls Try.prog 15 #[.int .i64 n, .int .i64 m] w (RatOut OkP w) := by
  by_cases hk : aroundI m 1048576 % 4 = 3
  · have k1 := Lib.hid fun w => around_any m 1048576 w (by omega) (by omega) hm
    have k2 := Lib.hid fun w => bound_any n 30 w (by omega) (by omega) hn
    have k3 := Lib.hid fun w => bound_any n 1099511627776 w (by omega) (by omega) hn
    obtain ⟨r1, r2⟩ := aroundI_range m 1048576 (by omega)
    obtain ⟨s1, s2⟩ := boundI_range n 1099511627776 (by omega)
    rcases ratio_dens (aroundI m 1048576) with h | h | h | h | h | h
    · exact ratio_big0 n m _ _ _ w k1 k2 k3 r1 r2 hk h s1 s2
    · exact ratio_big1 n m _ _ _ w k1 k2 k3 r1 r2 hk h s1 s2
    · exact ratio_big2 n m _ _ _ w k1 k2 k3 r1 r2 hk h s1 s2
    · exact ratio_big3 n m _ _ _ w k1 k2 k3 r1 r2 hk h s1 s2
    · exact ratio_big4 n m _ _ _ w k1 k2 k3 r1 r2 hk h s1 s2
    · exact ratio_big5 n m _ _ _ w k1 k2 k3 r1 r2 hk h s1 s2
  · exact (ratio_small n m w hn hm hk).mono fun _ _ h => h.weaken fun _ _ h => h.1

end Go.Proofs.Ytimbgjpjgbjnkaa
