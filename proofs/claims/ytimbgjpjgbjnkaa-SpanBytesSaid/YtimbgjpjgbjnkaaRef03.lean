/- Contracts of priorartref03: common, Of, New, Valid, Both, Less, Cmp, Add, Neg. -/
import Derived.Test.YtimbgjpjgbjnkaaProg
import Derived.Test.YtimbgjpjgbjnkaaKit
import Derived.Test.YtimbgjpjgbjnkaaSmall
import Derived.Test.YtimbgjpjgbjnkaaQmath
namespace Go.Proofs.Ytimbgjpjgbjnkaa
open Go.RowKit Go.Shelf

/-- A ratio, as a value. -/
def rv (n d : Int) : Value := .agg #[.int .i64 n, .int .i64 d]

/-- A ratio and an error, as a value. -/
def rve (x : Int × Int × Int) : Value := .tuple #[.agg #[.int .i64 x.1, .int .i64 x.2.1], .int .i64 x.2.2]

theorem tmod_le (a b : Int) (h : b ≠ 0) : (a.tmod b).natAbs < b.natAbs := by
  rw [Int.natAbs_tmod]
  exact Nat.mod_lt _ (by omega)

set_option maxHeartbeats 400000 in
theorem common_any (a b : Int) (w : World) (h1 : -9223372036854775807 ≤ a ∧ a ≤ 9223372036854775807) (h2 : -9223372036854775807 ≤ b ∧ b ≤ 9223372036854775807) :
    Calls Try.prog 82 #[.int .i64 a, .int .i64 b] w fun e w' => e = .returned (.int .i64 (Qm.g a b)) ∧ Below w.heap.size w w' := by
  obtain ⟨ha, ha'⟩ := h1
  obtain ⟨hb, hb'⟩ := h2
  go_enter Try.func82, Try.ntmps82
  go_wp2
  go_loopw [0, 1] (fun x y w' => ∃ p q : Int, x = .int .i64 p ∧ y = .int .i64 q ∧ Qm.g p q = Qm.g a b ∧ -9223372036854775807 ≤ p ∧ p ≤ 9223372036854775807 ∧ -9223372036854775807 ≤ q ∧ q ≤ 9223372036854775807 ∧ Below w.heap.size w w') (fun _ y _ => (intOf y).natAbs)
  case atStart => exact ⟨a, b, rfl, rfl, rfl, ha, ha', hb, hb', Below.refl _ _⟩
  case round =>
    obtain ⟨p, q, rfl, rfl, hg, hp, hp', hq, hq', hB⟩ := hrel
    have HB := Lib.hid hB
    clear hB
    by_cases h0 : q = 0
    · subst h0
      rw [Qm.g_zero] at hg
      have HG := Lib.hid hg
      clear hg
      by_cases hs : p < 0
      · go_wp2
        go_ret
        exact ⟨ret_int (by rw [← HG.out, if_pos hs]), HB.out⟩
      · go_wp2
        go_ret
        exact ⟨ret_int (by rw [← HG.out, if_neg (by omega)]), HB.out⟩
    · have hs := Lib.hid ((Qm.g_step p q).trans hg)
      have hl := tmod_le p q h0
      generalize hr : p.tmod q = r at *
      have HR := Lib.hid hr
      clear hr hg
      go_wp2
      go_quiet (fail)
      go_wp2
      go_roundw
      case rel => exact ⟨q, r, by first | rfl | (rw [HR.out]), by first | rfl | (rw [HR.out]), hs.out, by omega, by omega, by omega, by omega, below_drewN HB.out _⟩
      case measure => show (p.tmod q).natAbs < q.natAbs; rw [HR.out]; exact hl

theorem ediv_le {a b M : Int} (hb : 1 ≤ b) (h : -M ≤ a) (h' : a ≤ M) : -M ≤ a / b ∧ a / b ≤ M := by
  have hM : 0 ≤ M := by omega
  constructor
  · rw [Int.le_ediv_iff_mul_le (by omega)]
    have : M * 1 ≤ M * b := Int.mul_le_mul_of_nonneg_left hb hM
    rw [Int.neg_mul]
    omega
  · apply Int.ediv_le_of_le_mul (by omega)
    have : M * 1 ≤ M * b := Int.mul_le_mul_of_nonneg_left hb hM
    omega

theorem tdiv_of_dvd {a b : Int} (h : b ∣ a) : a.tdiv b = a / b := Int.tdiv_eq_ediv_of_dvd h

/-- Of, for a denominator above 0. -/
theorem of_end {n d N D : Int} (h : 0 < d) (hN : n / Qm.g n d = N) (hD : d / Qm.g n d = D) : Qm.ofR n d = if N > 1099511627776 ∨ N < -1099511627776 ∨ D > 1048576 then (0, 0, 5) else (N, D, 0) := by
  rw [Qm.ofR_pos h, hN, hD]

/-- What was there before a call reads as before. -/
theorem bcell {W w1 : World} (hb : Below W.heap.size W w1) : (∀ b o, b < W.heap.size → w1.cell? ⟨b, o, none⟩ = W.cell? ⟨b, o, none⟩) ∧ (∀ b o, b < W.heap.size → w1.frozen? ⟨b, o, none⟩ = W.frozen? ⟨b, o, none⟩) :=
  ⟨fun b o h => hb.cell (p := ⟨b, o, none⟩) h, fun b o h => hb.frozen (p := ⟨b, o, none⟩) h⟩

/-- The box of a result that is a ratio, after a call. -/
theorem box_r {w w1 : World} {a b : Value} {t : TypeId} (hb : Below (w.alloc (.cells #[a, b] t)).heap.size (w.alloc (.cells #[a, b] t)) w1) :
    w1.cell? ⟨w.heap.size, 0, none⟩ = some a ∧ w1.cell? ⟨w.heap.size, 1, none⟩ = some b ∧ w1.frozen? ⟨w.heap.size, 0, none⟩ = false ∧ w1.frozen? ⟨w.heap.size, 1, none⟩ = false ∧ w.heap.size < w1.heap.size := by
  have h := bcell hb
  have hs := hb.size
  simp at hs
  refine ⟨?_, ?_, ?_, ?_, by omega⟩
  · rw [h.1 _ _ (by simp)]; simp only [World.cell?, heap_new]; rfl
  · rw [h.1 _ _ (by simp)]; simp only [World.cell?, heap_new]; rfl
  · rw [h.2 _ _ (by simp)]; simp only [World.frozen?, heap_new]; rfl
  · rw [h.2 _ _ (by simp)]; simp only [World.frozen?, heap_new]; rfl

theorem cell_new2 (w : World) (a b : Value) (t : TypeId) :
    (w.alloc (.cells #[a, b] t)).cell? ⟨w.heap.size, 0, none⟩ = some a ∧ (w.alloc (.cells #[a, b] t)).cell? ⟨w.heap.size, 1, none⟩ = some b ∧ (w.alloc (.cells #[a, b] t)).frozen? ⟨w.heap.size, 0, none⟩ = false ∧ (w.alloc (.cells #[a, b] t)).frozen? ⟨w.heap.size, 1, none⟩ = false := by
  refine ⟨?_, ?_, ?_, ?_⟩
  · simp only [World.cell?, heap_new]; rfl
  · simp only [World.cell?, heap_new]; rfl
  · simp only [World.frozen?, heap_new]; rfl
  · simp only [World.frozen?, heap_new]; rfl

theorem size_alloc (w : World) (o : Obj) : (w.alloc o).heap.size = w.heap.size + 1 := by simp

/-- Two boxes of ratios. -/
abbrev two (w : World) (a b c d : Value) (t : TypeId) : World := (w.alloc (.cells #[a, b] t)).alloc (.cells #[c, d] t)

/-- Three. -/
abbrev three (w : World) (a b c d x y : Value) (t : TypeId) : World := (two w a b c d t).alloc (.cells #[x, y] t)

theorem box_2 {w w1 : World} {a b c d : Value} {t : TypeId} (hb : Below (two w a b c d t).heap.size (two w a b c d t) w1) :
    w1.cell? ⟨w.heap.size, 0, none⟩ = some a ∧ w1.cell? ⟨w.heap.size, 1, none⟩ = some b ∧ w1.cell? ⟨w.heap.size + 1, 0, none⟩ = some c ∧ w1.cell? ⟨w.heap.size + 1, 1, none⟩ = some d ∧ w.heap.size + 1 < w1.heap.size := by
  have h := bcell hb
  have hs := hb.size
  obtain ⟨a0, a1, _, _⟩ := cell_new2 w a b t
  obtain ⟨c0, c1, _, _⟩ := cell_new2 (w.alloc (.cells #[a, b] t)) c d t
  rw [size_alloc] at c0 c1
  have s2 : (two w a b c d t).heap.size = w.heap.size + 2 := by rw [size_alloc, size_alloc]
  refine ⟨?_, ?_, ?_, ?_, by omega⟩
  · rw [h.1 _ _ (by omega)]; exact cell_alloc_l _ a0
  · rw [h.1 _ _ (by omega)]; exact cell_alloc_l _ a1
  · rw [h.1 _ _ (by omega)]; exact c0
  · rw [h.1 _ _ (by omega)]; exact c1

theorem box_3 {w w1 : World} {a b c d x y : Value} {t : TypeId} (hb : Below (three w a b c d x y t).heap.size (three w a b c d x y t) w1) :
    w1.cell? ⟨w.heap.size, 0, none⟩ = some a ∧ w1.cell? ⟨w.heap.size, 1, none⟩ = some b ∧ w1.cell? ⟨w.heap.size + 1, 0, none⟩ = some c ∧ w1.cell? ⟨w.heap.size + 1, 1, none⟩ = some d ∧
    w1.cell? ⟨w.heap.size + 2, 0, none⟩ = some x ∧ w1.cell? ⟨w.heap.size + 2, 1, none⟩ = some y ∧ w1.frozen? ⟨w.heap.size + 2, 0, none⟩ = false ∧ w1.frozen? ⟨w.heap.size + 2, 1, none⟩ = false ∧ w.heap.size + 2 < w1.heap.size := by
  have s2 : (two w a b c d t).heap.size = w.heap.size + 2 := by rw [size_alloc, size_alloc]
  have s3 : (three w a b c d x y t).heap.size = w.heap.size + 3 := by rw [size_alloc, s2]
  have h := bcell hb
  have hs := hb.size
  obtain ⟨b0, b1, b2, b3, _⟩ := box_2 (Below.refl (two w a b c d t).heap.size _)
  obtain ⟨c0, c1, c2, c3⟩ := cell_new2 (two w a b c d t) x y t
  rw [s2] at c0 c1 c2 c3
  refine ⟨?_, ?_, ?_, ?_, ?_, ?_, ?_, ?_, by omega⟩
  · rw [h.1 _ _ (by omega)]; exact cell_alloc_l _ b0
  · rw [h.1 _ _ (by omega)]; exact cell_alloc_l _ b1
  · rw [h.1 _ _ (by omega)]; exact cell_alloc_l _ b2
  · rw [h.1 _ _ (by omega)]; exact cell_alloc_l _ b3
  · rw [h.1 _ _ (by omega)]; exact c0
  · rw [h.1 _ _ (by omega)]; exact c1
  · rw [h.2 _ _ (by omega)]; exact c2
  · rw [h.2 _ _ (by omega)]; exact c3

set_option maxHeartbeats 1000000 in
set_option maxRecDepth 100000 in
theorem of_any (n d : Int) (w : World) (hn : -9223372036854775807 ≤ n ∧ n ≤ 9223372036854775807) (hd : -9223372036854775807 ≤ d ∧ d ≤ 9223372036854775807) (h0 : d ≠ 0) :
    Calls Try.prog 41 #[.int .i64 n, .int .i64 d] w fun e w' => e = .returned (rve (Qm.ofR n d)) ∧ Below w.heap.size w w' := by
  obtain ⟨hn1, hn2⟩ := hn
  obtain ⟨hd1, hd2⟩ := hd
  by_cases hs : d < 0
  · have k1 := fun w => common_any (-n) (-d) w (by omega) (by omega)
    have hg1 := Qm.g_pos (a := -n) (b := -d) (by omega)
    have b1 := ediv_le (a := -n) (M := 9223372036854775807) hg1 (by omega) (by omega)
    have b2 := ediv_le (a := -d) (M := 9223372036854775807) hg1 (by omega) (by omega)
    have hE := (Qm.ofR_neg (n := n) hs).trans (of_end (n := -n) (d := -d) (by omega) rfl rfl)
    rw [← tdiv_of_dvd (Qm.g_left (-n) (-d)), Int.neg_tdiv] at b1 hE
    rw [← tdiv_of_dvd (Qm.g_right (-n) (-d)), Int.neg_tdiv] at b2 hE
    generalize hG : Qm.g (-n) (-d) = G at *
    generalize hR : Qm.ofR n d = R at *
    obtain ⟨b11, b12⟩ := b1
    obtain ⟨b21, b22⟩ := b2
    clear hG hR
    have K1 := Lib.hid k1
    clear k1
    have HB0 := Lib.hid ((Below.refl w.heap.size w).alloc (Nat.le_refl _) (Obj.cells #[.int .i64 0, .int .i64 0] 25))
    by_cases t1 : -n.tdiv G > 1099511627776 ∨ -n.tdiv G < -1099511627776 ∨ -d.tdiv G > 1048576
    · rw [if_pos t1] at hE
      have HE := Lib.hid hE
      clear hE
      go_enter Try.func41, Try.ntmps41
      go_wp2_with fail
      refine (K1.out _).mono ?_
      rintro e w1 ⟨rfl, hB⟩
      have B1 := Lib.hid hB
      have HB1 := Lib.hid (HB0.out.trans (hB.mono HB0.out.size))
      clear hB
      obtain ⟨hc0, hc1, hf0, hf1, hz⟩ := box_r B1.out
      go_wp2
      all_goals exact bodyPost_ret (v := rve (0, 0, 5)) (by simp [results, Try.results41, go_sem, hc0, hc1, rve]) rfl ⟨by rw [HE.out], (HB1.out.setCell (p := ⟨w.heap.size, 0, none⟩) (Nat.le_refl _) _).setCell (p := ⟨w.heap.size, 1, none⟩) (Nat.le_refl _) _⟩
    · rw [if_neg t1] at hE
      have HE := Lib.hid hE
      clear hE
      go_enter Try.func41, Try.ntmps41
      go_wp2_with fail
      refine (K1.out _).mono ?_
      rintro e w1 ⟨rfl, hB⟩
      have B1 := Lib.hid hB
      have HB1 := Lib.hid (HB0.out.trans (hB.mono HB0.out.size))
      clear hB
      obtain ⟨hc0, hc1, hf0, hf1, hz⟩ := box_r B1.out
      go_wp2
      all_goals exact bodyPost_ret (v := rve (-n.tdiv G, -d.tdiv G, 0)) (by simp [results, Try.results41, go_sem, hc0, hc1, rve]) rfl ⟨by rw [HE.out], (HB1.out.setCell (p := ⟨w.heap.size, 0, none⟩) (Nat.le_refl _) _).setCell (p := ⟨w.heap.size, 1, none⟩) (Nat.le_refl _) _⟩
  · have k1 := fun w => common_any n d w (by omega) (by omega)
    have hg1 := Qm.g_pos (a := n) (b := d) (by omega)
    have b1 := ediv_le (a := n) (M := 9223372036854775807) hg1 (by omega) (by omega)
    have b2 := ediv_le (a := d) (M := 9223372036854775807) hg1 (by omega) (by omega)
    have hE := of_end (n := n) (d := d) (by omega) rfl rfl
    rw [← tdiv_of_dvd (Qm.g_left n d)] at b1 hE
    rw [← tdiv_of_dvd (Qm.g_right n d)] at b2 hE
    generalize hG : Qm.g n d = G at *
    generalize hR : Qm.ofR n d = R at *
    obtain ⟨b11, b12⟩ := b1
    obtain ⟨b21, b22⟩ := b2
    clear hG hR
    have K1 := Lib.hid k1
    clear k1
    have HB0 := Lib.hid ((Below.refl w.heap.size w).alloc (Nat.le_refl _) (Obj.cells #[.int .i64 0, .int .i64 0] 25))
    by_cases t1 : n.tdiv G > 1099511627776 ∨ n.tdiv G < -1099511627776 ∨ d.tdiv G > 1048576
    · rw [if_pos t1] at hE
      have HE := Lib.hid hE
      clear hE
      go_enter Try.func41, Try.ntmps41
      go_wp2_with fail
      refine (K1.out _).mono ?_
      rintro e w1 ⟨rfl, hB⟩
      have B1 := Lib.hid hB
      have HB1 := Lib.hid (HB0.out.trans (hB.mono HB0.out.size))
      clear hB
      obtain ⟨hc0, hc1, hf0, hf1, hz⟩ := box_r B1.out
      go_wp2
      all_goals exact bodyPost_ret (v := rve (0, 0, 5)) (by simp [results, Try.results41, go_sem, hc0, hc1, rve]) rfl ⟨by rw [HE.out], (HB1.out.setCell (p := ⟨w.heap.size, 0, none⟩) (Nat.le_refl _) _).setCell (p := ⟨w.heap.size, 1, none⟩) (Nat.le_refl _) _⟩
    · rw [if_neg t1] at hE
      have HE := Lib.hid hE
      clear hE
      go_enter Try.func41, Try.ntmps41
      go_wp2_with fail
      refine (K1.out _).mono ?_
      rintro e w1 ⟨rfl, hB⟩
      have B1 := Lib.hid hB
      have HB1 := Lib.hid (HB0.out.trans (hB.mono HB0.out.size))
      clear hB
      obtain ⟨hc0, hc1, hf0, hf1, hz⟩ := box_r B1.out
      go_wp2
      all_goals exact bodyPost_ret (v := rve (n.tdiv G, d.tdiv G, 0)) (by simp [results, Try.results41, go_sem, hc0, hc1, rve]) rfl ⟨by rw [HE.out], (HB1.out.setCell (p := ⟨w.heap.size, 0, none⟩) (Nat.le_refl _) _).setCell (p := ⟨w.heap.size, 1, none⟩) (Nat.le_refl _) _⟩

end Go.Proofs.Ytimbgjpjgbjnkaa
