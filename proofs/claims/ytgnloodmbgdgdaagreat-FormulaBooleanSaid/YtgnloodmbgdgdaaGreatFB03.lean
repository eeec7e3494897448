import Derived.Test.YtgnloodmbgdgdaaGreatProg
import Derived.Test.YtgnloodmbgdgdaaGreatFB01
namespace Go.Proofs.YtgnloodmbgdgdaaGreat
open Go.RowKit Go.Shelf
def aroundI (a n : Int) : Int := if a < 0 then (-(a + 1)) % n else a % n
theorem aroundI_range (a n : Int) (h : 1 ≤ n) : 0 ≤ aroundI a n ∧ aroundI a n < n := by
 unfold aroundI
 split
 ·exact ⟨Int.emod_nonneg _ (by omega), Int.emod_lt_of_pos _ (by omega)⟩
 ·exact ⟨Int.emod_nonneg _ (by omega), Int.emod_lt_of_pos _ (by omega)⟩
set_option maxHeartbeats 400000 in
theorem around_any (a n : Int) (w : World) (h : 1 ≤ n) (hn : n ≤ 4611686018427387904) (ha : (Lit.int .i64 a).wf = true) :
  Calls Tryz.prog 38 #[.int .i64 a, .int .i64 n] w fun e w' => e = .returned (.int .i64 (aroundI a n)) ∧ w = w' := by
 have hb : -9223372036854775808 ≤ a ∧ a ≤ 9223372036854775807 := by
  simpa [Lit.wf, IntKind.min, IntKind.max, IntKind.signed, IntKind.bits] using ha
 obtain ⟨hb1, hb2⟩ := hb
 clear ha
 by_cases h0 : a < 0
 ·have e : Hid (aroundI a n = (-(a + 1)) % n) := by unfold aroundI; exact if_pos h0
  go_enter Tryz.func38, Tryz.ntmps38
  go_wp2
  go_ret
  exact ⟨ret_int (by rw [e.out, ← Int.neg_tmod, Int.tmod_eq_emod_of_nonneg (by omega)]), rfl⟩
 ·have e : Hid (aroundI a n = a % n) := by unfold aroundI; exact if_neg h0
  go_enter Tryz.func38, Tryz.ntmps38
  go_wp2
  go_ret
  exact ⟨ret_int (by rw [e.out]), rfl⟩
theorem Tryz.infoI64 : (Tryz.prog.info? 3).map (fun i => (i.zero, i.size, i.bytes)) = some (some (.int .i64 0), 1, 8) := by kernel_rfl
end Go.Proofs.YtgnloodmbgdgdaaGreat
namespace Go.Proofs.YtgnloodmbgdgdaaGreat
open Go.RowKit Go.Shelf
def rv (n d : Int) : Value := .agg #[.int .i64 n, .int .i64 d]
def rve (x : Int × Int × Int) : Value := .tuple #[.agg #[.int .i64 x.1, .int .i64 x.2.1], .int .i64 x.2.2]
theorem bcell {W w1 : World} (hb : Below W.heap.size W w1) : (∀ b o, b < W.heap.size → w1.cell? ⟨b, o, none⟩ = W.cell? ⟨b, o, none⟩) ∧ (∀ b o, b < W.heap.size → w1.frozen? ⟨b, o, none⟩ = W.frozen? ⟨b, o, none⟩) :=
 ⟨fun b o h => hb.cell (p := ⟨b, o, none⟩) h, fun b o h => hb.frozen (p := ⟨b, o, none⟩) h⟩
theorem box_r {w w1 : World} {a b : Value} {t : TypeId} (hb : Below (w.alloc (.cells #[a, b] t)).heap.size (w.alloc (.cells #[a, b] t)) w1) :
  w1.cell? ⟨w.heap.size, 0, none⟩ = some a ∧ w1.cell? ⟨w.heap.size, 1, none⟩ = some b ∧ w1.frozen? ⟨w.heap.size, 0, none⟩ = false ∧ w1.frozen? ⟨w.heap.size, 1, none⟩ = false ∧ w.heap.size < w1.heap.size := by
 have h := bcell hb
 have hs := hb.size
 simp at hs
 refine ⟨?_, ?_, ?_, ?_, by omega⟩
 ·rw [h.1 _ _ (by simp)]; simp only [World.cell?, heap_new]; rfl
 ·rw [h.1 _ _ (by simp)]; simp only [World.cell?, heap_new]; rfl
 ·rw [h.2 _ _ (by simp)]; simp only [World.frozen?, heap_new]; rfl
 ·rw [h.2 _ _ (by simp)]; simp only [World.frozen?, heap_new]; rfl
theorem cell_new2 (w : World) (a b : Value) (t : TypeId) :
  (w.alloc (.cells #[a, b] t)).cell? ⟨w.heap.size, 0, none⟩ = some a ∧ (w.alloc (.cells #[a, b] t)).cell? ⟨w.heap.size, 1, none⟩ = some b ∧ (w.alloc (.cells #[a, b] t)).frozen? ⟨w.heap.size, 0, none⟩ = false ∧ (w.alloc (.cells #[a, b] t)).frozen? ⟨w.heap.size, 1, none⟩ = false := by
 refine ⟨?_, ?_, ?_, ?_⟩
 ·simp only [World.cell?, heap_new]; rfl
 ·simp only [World.cell?, heap_new]; rfl
 ·simp only [World.frozen?, heap_new]; rfl
 ·simp only [World.frozen?, heap_new]; rfl
theorem size_alloc (w : World) (o : Obj) : (w.alloc o).heap.size = w.heap.size + 1 := by simp
abbrev two (w : World) (a b c d : Value) (t : TypeId) : World := (w.alloc (.cells #[a, b] t)).alloc (.cells #[c, d] t)
theorem box_2 {w w1 : World} {a b c d : Value} {t : TypeId} (hb : Below (two w a b c d t).heap.size (two w a b c d t) w1) :
  w1.cell? ⟨w.heap.size, 0, none⟩ = some a ∧ w1.cell? ⟨w.heap.size, 1, none⟩ = some b ∧ w1.cell? ⟨w.heap.size + 1, 0, none⟩ = some c ∧ w1.cell? ⟨w.heap.size + 1, 1, none⟩ = some d ∧ w.heap.size + 1 < w1.heap.size := by
 have h := bcell hb
 have hs := hb.size
 obtain ⟨a0, a1, _, _⟩ := cell_new2 w a b t
 obtain ⟨c0, c1, _, _⟩ := cell_new2 (w.alloc (.cells #[a, b] t)) c d t
 rw [size_alloc] at c0 c1
 have s2 : (two w a b c d t).heap.size = w.heap.size + 2 := by rw [size_alloc, size_alloc]
 refine ⟨?_, ?_, ?_, ?_, by omega⟩
 ·rw [h.1 _ _ (by omega)]; exact cell_alloc_l _ a0
 ·rw [h.1 _ _ (by omega)]; exact cell_alloc_l _ a1
 ·rw [h.1 _ _ (by omega)]; exact c0
 ·rw [h.1 _ _ (by omega)]; exact c1
end Go.Proofs.YtgnloodmbgdgdaaGreat
namespace Go.Proofs.YtgnloodmbgdgdaaGreat
open Go.RowKit Go.Shelf
def absI (n : Int) : Int := if n < 0 then -n else n
theorem absI_nonneg (n : Int) : 0 ≤ absI n := by unfold absI; split <;> omega
theorem absI_g (a b : Int) : Qm.g (absI a) (absI b) = Qm.g a b := by
 unfold absI Qm.g
 split <;> split <;> simp
theorem u64_neg {n : Int} (h : n < 0) (h1 : -9223372036854775808 ≤ n) : IntKind.u64.wrap (-IntKind.u64.wrap n) = -n := by
 rw [IntKind.wrap_u64, IntKind.wrap_u64]
 omega
set_option maxHeartbeats 400000 in
theorem size_any (n : Int) (w : World) (h1 : -9223372036854775808 ≤ n) (h2 : n ≤ 9223372036854775807) :
  Calls Tryz.prog 190 #[.int .i64 n] w fun e w' => e = .returned (.int .u64 (absI n)) ∧ w = w' := by
 by_cases h : n < 0
 ·have HE := Lib.hid (show absI n = -n by unfold absI; rw [if_pos h])
  have HU := Lib.hid (u64_neg h h1)
  go_enter Tryz.func190, Tryz.ntmps190
  go_wp2
  go_ret
  exact ⟨ret_int (by rw [HE.out, ← HU.out]), rfl⟩
 ·have HE := Lib.hid (show absI n = n by unfold absI; rw [if_neg h])
  go_enter Tryz.func190, Tryz.ntmps190
  go_wp2
  go_ret
  exact ⟨ret_int (by rw [HE.out]), rfl⟩
theorem g_zero_nonneg {a : Int} (h : 0 ≤ a) : Qm.g a 0 = a := by rw [Qm.g_zero, if_neg (by omega)]
theorem g_step_pos {p q : Int} (hp : 0 ≤ p) : Qm.g q (p % q) = Qm.g p q := by
 rw [← Int.tmod_eq_emod_of_nonneg hp]; exact Qm.g_step p q
set_option maxHeartbeats 400000 in
theorem divisor_any (a b : Int) (w : World) (h1 : 0 ≤ a ∧ a ≤ 18446744073709551615) (h2 : 0 ≤ b ∧ b ≤ 18446744073709551615) :
  Calls Tryz.prog 191 #[.int .u64 a, .int .u64 b] w fun e w' => e = .returned (.int .u64 (Qm.g a b)) ∧ Below w.heap.size w w' := by
 obtain ⟨ha, ha'⟩ := h1
 obtain ⟨hb, hb'⟩ := h2
 go_enter Tryz.func191, Tryz.ntmps191
 go_wp2
 go_loopw [0, 1] (fun x y w' => ∃ p q : Int, x = .int .u64 p ∧ y = .int .u64 q ∧ Qm.g p q = Qm.g a b ∧ 0 ≤ p ∧ p ≤ 18446744073709551615 ∧ 0 ≤ q ∧ q ≤ 18446744073709551615 ∧ Below w.heap.size w w') (fun _ y _ => (intOf y).natAbs)
 case atStart => exact ⟨a, b, rfl, rfl, rfl, ha, ha', hb, hb', Below.refl _ _⟩
 case round =>
  obtain ⟨p, q, rfl, rfl, hg, hp, hp', hq, hq', hB⟩ := hrel
  have HB := Lib.hid hB
  clear hB
  by_cases h0 : q = 0
  ·subst h0
   rw [g_zero_nonneg hp] at hg
   have HG := Lib.hid hg
   clear hg
   go_wp2
   go_ret
   exact ⟨ret_int HG.out, HB.out⟩
  ·have hs := Lib.hid ((g_step_pos (q := q) hp).trans hg)
   have hl1 : 0 ≤ p % q := Int.emod_nonneg _ h0
   have hl : p % q < q := Int.emod_lt_of_pos _ (by omega)
   generalize hr : p % q = r at *
   have HR := Lib.hid hr
   have h0' : 0 < q := by omega
   clear hr hg
   go_wp2
   go_quiet (fail)
   go_wp2
   go_roundw
   case rel => exact ⟨q, r, by first | rfl | (rw [HR.out]), by first | rfl | (rw [HR.out]), hs.out, by omega, by omega, by omega, by omega, below_drewN HB.out _⟩
   case measure => show (p % q).natAbs < q.natAbs; rw [HR.out]; omega
def negI (n : Int) : Int := wrap64 (-n)
theorem negI_of {n : Int} (h1 : -9223372036854775807 ≤ n) (h2 : n ≤ 9223372036854775807) : negI n = -n := by
 unfold negI
 exact IntWalk.wrap64_in _ (by omega)
set_option maxHeartbeats 1000000 in
set_option maxRecDepth 100000 in
theorem negative_raw (n d : Int) (w : World) :
  Calls Tryz.prog 192 #[rv n d] w fun e w' => e = .returned (rv (negI n) d) ∧ Below w.heap.size w w' := by
 unfold rv
 go_enter Tryz.func192, Tryz.ntmps192
 go_wp2
 exact bodyPost_ret (v := rv (negI n) d) (by simp [results, Tryz.results192, go_sem, rv, negI]) rfl ⟨rfl, ((Below.refl w.heap.size w).alloc (Nat.le_refl _) _).alloc (by simp) _⟩
theorem ofR_abs {n d : Int} (h : d ≠ 0) : Qm.ofR n d = if absI n / Qm.g n d > 1099511627776 ∨ absI d / Qm.g n d > 1048576 then (0, 0, 5) else (if decide (n < 0) != decide (d < 0) then -(absI n / Qm.g n d) else absI n / Qm.g n d, absI d / Qm.g n d, 0) := by
 have hg := Qm.g_pos (a := n) h
 have dl := Qm.g_left n d
 unfold Qm.ofR
 generalize Qm.g n d = G at *
 have en : (-n) / G = -(n / G) := Int.neg_ediv_of_dvd dl
 have p1 : 0 ≤ n → 0 ≤ n / G := fun h => Int.ediv_nonneg h (by omega)
 have p2 : n < 0 → 0 ≤ -(n / G) := fun h => by rw [← en]; exact Int.ediv_nonneg (by omega) (by omega)
 rw [en]
 by_cases h1 : d < 0 <;> by_cases h2 : n < 0
 ·rw [show absI n = -n from if_pos h2, show absI d = -d from if_pos h1, decide_eq_true h1, decide_eq_true h2, if_pos h1, en]
  have := p2 h2
  by_cases t : -(n / G) > 1099511627776 ∨ -d / G > 1048576
  ·rw [if_pos t, if_pos (by omega)]
  ·rw [if_neg t, if_neg (by omega)]
   simp
 ·rw [show absI n = n from if_neg h2, show absI d = -d from if_pos h1, decide_eq_true h1, decide_eq_false h2, if_pos h1]
  have := p1 (by omega)
  by_cases t : n / G > 1099511627776 ∨ -d / G > 1048576
  ·rw [if_pos t, if_pos (by omega)]
  ·rw [if_neg t, if_neg (by omega)]
   simp
 ·rw [show absI n = -n from if_pos h2, show absI d = d from if_neg h1, decide_eq_false h1, decide_eq_true h2, if_neg h1, en]
  have := p2 h2
  by_cases t : -(n / G) > 1099511627776 ∨ d / G > 1048576
  ·rw [if_pos t, if_pos (by omega)]
  ·rw [if_neg t, if_neg (by omega)]
   simp
 ·rw [show absI n = n from if_neg h2, show absI d = d from if_neg h1, decide_eq_false h1, decide_eq_false h2, if_neg h1]
  have := p1 (by omega)
  by_cases t : n / G > 1099511627776 ∨ d / G > 1048576
  ·rw [if_pos t, if_pos (by omega)]
  ·rw [if_neg t, if_neg (by omega)]
   simp
theorem absI_le {n : Int} (h1 : -9223372036854775808 ≤ n) (h2 : n ≤ 9223372036854775807) : absI n ≤ 9223372036854775808 := by unfold absI; split <;> omega
theorem absI_pos {n : Int} (h : n ≠ 0) : 1 ≤ absI n := by unfold absI; split <;> omega
end Go.Proofs.YtgnloodmbgdgdaaGreat
namespace Go.Proofs.YtgnloodmbgdgdaaGreat
open Go.RowKit Go.Shelf
set_option maxHeartbeats 1000000 in
set_option maxRecDepth 100000 in
theorem rnew_any (n d : Int) (w : World) (hn : -9223372036854775808 ≤ n ∧ n ≤ 9223372036854775807) (hd : -9223372036854775808 ≤ d ∧ d ≤ 9223372036854775807) :
  Calls Tryz.prog 181 #[.int .i64 n, .int .i64 d] w fun e w' => e = .returned (rve (Qm.newR n d)) ∧ Below w.heap.size w w' := by
 obtain ⟨hn1, hn2⟩ := hn
 obtain ⟨hd1, hd2⟩ := hd
 have HB0 := Lib.hid ((Below.refl w.heap.size w).alloc (Nat.le_refl _) (Obj.cells #[.int .i64 0, .int .i64 0] 91))
 by_cases h0 : d = 0
 ·have hE : Qm.newR n d = (0, 0, 1) := by unfold Qm.newR; rw [if_pos h0]
  have HE := Lib.hid hE
  clear hE
  generalize Qm.newR n d = R at *
  subst h0
  go_enter Tryz.func181, Tryz.ntmps181
  go_wp2
  exact bodyPost_ret (v := rve (0, 0, 1)) (by simp [results, Tryz.results181, go_sem, rve]) rfl ⟨by rw [HE.out], HB0.out⟩
 ·have hE : Qm.newR n d = Qm.ofR n d := by unfold Qm.newR; rw [if_neg h0]
  rw [hE, ofR_abs h0]
  clear hE
  have k1 := fun w => size_any n w hn1 hn2
  have k2 := fun w => size_any d w hd1 hd2
  have k3 := fun w => divisor_any (absI n) (absI d) w ⟨absI_nonneg n, by have := absI_le hn1 hn2; omega⟩ ⟨absI_nonneg d, by have := absI_le hd1 hd2; omega⟩
  rw [absI_g] at k3
  have hG := Qm.g_pos (a := n) h0
  have a1 := absI_nonneg n
  have a2 := absI_le hn1 hn2
  have b1 := absI_pos h0
  have b2 := absI_le hd1 hd2
  have x1 : 0 ≤ absI n / Qm.g n d := Int.ediv_nonneg a1 (by omega)
  have y1 : 0 ≤ absI d / Qm.g n d := Int.ediv_nonneg (by omega) (by omega)
  have x2 : absI n / Qm.g n d ≤ absI n := Int.ediv_le_self _ a1
  have y2 : absI d / Qm.g n d ≤ absI d := Int.ediv_le_self _ (by omega)
  have hd0 : (d == 0) = false := by simpa using h0
  generalize Qm.g n d = G at *
  generalize absI n = A at *
  generalize absI d = B at *
  generalize hx : A / G = x at *
  generalize hy : B / G = y at *
  have K1 := Lib.hid k1
  have K2 := Lib.hid k2
  have K3 := Lib.hid k3
  clear k1 k2 k3
  by_cases t1 : x > 1099511627776 ∨ y > 1048576
  ·rw [if_pos t1]
   go_enter Tryz.func181, Tryz.ntmps181
   go_wp2_with fail
   refine (K1.out _).mono ?_
   rintro e w' ⟨rfl, rfl⟩
   go_wp2_with fail
   refine (K2.out _).mono ?_
   rintro e w' ⟨rfl, rfl⟩
   go_wp2_with fail
   refine (K3.out _).mono ?_
   rintro e w1 ⟨rfl, hB⟩
   have B1 := Lib.hid hB
   have HB1 := Lib.hid (HB0.out.trans (hB.mono HB0.out.size))
   clear hB
   obtain ⟨hc0, hc1, hf0, hf1, hz⟩ := box_r B1.out
   go_wp2
   go_quiet (fail)
   go_wp2
   all_goals exact bodyPost_ret (v := rve (0, 0, 5)) (by simp [results, Tryz.results181, go_sem, hc0, hc1, rve]) rfl ⟨rfl, (below_drewN HB1.out _).setCell (p := ⟨w.heap.size, 0, none⟩) (Nat.le_refl _) _ |>.setCell (p := ⟨w.heap.size, 1, none⟩) (Nat.le_refl _) _⟩
  ·rw [if_neg t1]
   have t2 : x ≤ 1099511627776 := by omega
   have t3 : y ≤ 1048576 := by omega
   clear t1
   by_cases s1 : n < 0 <;> by_cases s2 : d < 0
   ·have HE := Lib.hid (show (if decide (n < 0) != decide (d < 0) then -x else x, y, (0 : Int)) = (x, y, 0) by rw [decide_eq_true s1, decide_eq_true s2]; rfl)
    generalize (if decide (n < 0) != decide (d < 0) then -x else x, y, (0 : Int)) = R at *
    have hb1 : decide (n < 0) = true := decide_eq_true s1
    have hb2 : decide (d < 0) = true := decide_eq_true s2
    clear s1 s2
    go_enter Tryz.func181, Tryz.ntmps181
    go_wp2_with fail
    refine (K1.out _).mono ?_
    rintro e w' ⟨rfl, rfl⟩
    go_wp2_with fail
    refine (K2.out _).mono ?_
    rintro e w' ⟨rfl, rfl⟩
    go_wp2_with fail
    refine (K3.out _).mono ?_
    rintro e w1 ⟨rfl, hB⟩
    have B1 := Lib.hid hB
    have HB1 := Lib.hid (HB0.out.trans (hB.mono HB0.out.size))
    clear hB
    obtain ⟨hc0, hc1, hf0, hf1, hz⟩ := box_r B1.out
    go_wp2
    go_quiet (fail)
    replace HB1 := Lib.hid (below_drewN HB1.out nq)
    replace hc0 : (w1.drewN nq).cell? ⟨w.heap.size, 0, none⟩ = some (.int .i64 0) := hc0
    replace hc1 : (w1.drewN nq).cell? ⟨w.heap.size, 1, none⟩ = some (.int .i64 0) := hc1
    replace hf0 : (w1.drewN nq).frozen? ⟨w.heap.size, 0, none⟩ = false := hf0
    replace hf1 : (w1.drewN nq).frozen? ⟨w.heap.size, 1, none⟩ = false := hf1
    replace hz : w.heap.size < (w1.drewN nq).heap.size := hz
    clear B1
    generalize w1.drewN nq = w2 at *
    go_wp2
    all_goals
     exact bodyPost_ret (v := rve (x, y, 0)) (by simp [results, Tryz.results181, go_sem, hc0, hc1, hz, rve]) rfl ⟨by rw [HE.out], ((HB1.out.setCell (p := ⟨w.heap.size, 0, none⟩) (Nat.le_refl _) _).setCell (p := ⟨w.heap.size, 1, none⟩) (Nat.le_refl _) _).alloc (by simp; omega) _⟩
   ·have HE := Lib.hid (show (if decide (n < 0) != decide (d < 0) then -x else x, y, (0 : Int)) = (-x, y, 0) by rw [decide_eq_true s1, decide_eq_false s2]; rfl)
    generalize (if decide (n < 0) != decide (d < 0) then -x else x, y, (0 : Int)) = R at *
    have k4 := fun w => negative_raw x y w
    rw [negI_of (by omega) (by omega)] at k4
    have K4 := Lib.hid k4
    clear k4
    unfold rv at K4
    have hb1 : decide (n < 0) = true := decide_eq_true s1
    have hb2 : decide (d < 0) = false := decide_eq_false s2
    clear s1 s2
    go_enter Tryz.func181, Tryz.ntmps181
    go_wp2_with fail
    refine (K1.out _).mono ?_
    rintro e w' ⟨rfl, rfl⟩
    go_wp2_with fail
    refine (K2.out _).mono ?_
    rintro e w' ⟨rfl, rfl⟩
    go_wp2_with fail
    refine (K3.out _).mono ?_
    rintro e w1 ⟨rfl, hB⟩
    have B1 := Lib.hid hB
    have HB1 := Lib.hid (HB0.out.trans (hB.mono HB0.out.size))
    clear hB
    obtain ⟨hc0, hc1, hf0, hf1, hz⟩ := box_r B1.out
    go_wp2
    go_quiet (fail)
    replace HB1 := Lib.hid (below_drewN HB1.out nq)
    replace hc0 : (w1.drewN nq).cell? ⟨w.heap.size, 0, none⟩ = some (.int .i64 0) := hc0
    replace hc1 : (w1.drewN nq).cell? ⟨w.heap.size, 1, none⟩ = some (.int .i64 0) := hc1
    replace hf0 : (w1.drewN nq).frozen? ⟨w.heap.size, 0, none⟩ = false := hf0
    replace hf1 : (w1.drewN nq).frozen? ⟨w.heap.size, 1, none⟩ = false := hf1
    replace hz : w.heap.size < (w1.drewN nq).heap.size := hz
    clear B1
    generalize w1.drewN nq = w2 at *
    go_wp2_with fail
    all_goals
     refine (K4.out _).mono ?_
     rintro e w3 ⟨rfl, hB⟩
     have r0 := (hB.cell (p := ⟨w.heap.size, 0, none⟩) (by simp; omega)).trans (cell_alloc_l _ hc0)
     have r1 := (hB.cell (p := ⟨w.heap.size, 1, none⟩) (by simp; omega)).trans (cell_alloc_l _ hc1)
     have r2 := (hB.frozen (p := ⟨w.heap.size, 0, none⟩) (by simp; omega)).trans (frozen_alloc_l _ hc0 hf0)
     have r3 := (hB.frozen (p := ⟨w.heap.size, 1, none⟩) (by simp; omega)).trans (frozen_alloc_l _ hc1 hf1)
     obtain ⟨hd0, hd1, he0, he1, hz2⟩ := box_r hB
     have HB2 := Lib.hid ((HB1.out.alloc (by omega) (Obj.cells #[.int .i64 x, .int .i64 y] 91)).trans (hB.mono (by simp; omega)))
     clear hB
     go_wp2
     all_goals
      exact bodyPost_ret (v := rve (-x, y, 0)) (by simp [results, Tryz.results181, go_sem, r0, r1, rve]) rfl ⟨by rw [HE.out], (((HB2.out.setCell (p := ⟨w2.heap.size, 0, none⟩) (by simp; omega) _).setCell (p := ⟨w2.heap.size, 1, none⟩) (by simp; omega) _).setCell (p := ⟨w.heap.size, 0, none⟩) (Nat.le_refl _) _).setCell (p := ⟨w.heap.size, 1, none⟩) (Nat.le_refl _) _⟩
   ·have HE := Lib.hid (show (if decide (n < 0) != decide (d < 0) then -x else x, y, (0 : Int)) = (-x, y, 0) by rw [decide_eq_false s1, decide_eq_true s2]; rfl)
    generalize (if decide (n < 0) != decide (d < 0) then -x else x, y, (0 : Int)) = R at *
    have k4 := fun w => negative_raw x y w
    rw [negI_of (by omega) (by omega)] at k4
    have K4 := Lib.hid k4
    clear k4
    unfold rv at K4
    have hb1 : decide (n < 0) = false := decide_eq_false s1
    have hb2 : decide (d < 0) = true := decide_eq_true s2
    clear s1 s2
    go_enter Tryz.func181, Tryz.ntmps181
    go_wp2_with fail
    refine (K1.out _).mono ?_
    rintro e w' ⟨rfl, rfl⟩
    go_wp2_with fail
    refine (K2.out _).mono ?_
    rintro e w' ⟨rfl, rfl⟩
    go_wp2_with fail
    refine (K3.out _).mono ?_
    rintro e w1 ⟨rfl, hB⟩
    have B1 := Lib.hid hB
    have HB1 := Lib.hid (HB0.out.trans (hB.mono HB0.out.size))
    clear hB
    obtain ⟨hc0, hc1, hf0, hf1, hz⟩ := box_r B1.out
    go_wp2
    go_quiet (fail)
    replace HB1 := Lib.hid (below_drewN HB1.out nq)
    replace hc0 : (w1.drewN nq).cell? ⟨w.heap.size, 0, none⟩ = some (.int .i64 0) := hc0
    replace hc1 : (w1.drewN nq).cell? ⟨w.heap.size, 1, none⟩ = some (.int .i64 0) := hc1
    replace hf0 : (w1.drewN nq).frozen? ⟨w.heap.size, 0, none⟩ = false := hf0
    replace hf1 : (w1.drewN nq).frozen? ⟨w.heap.size, 1, none⟩ = false := hf1
    replace hz : w.heap.size < (w1.drewN nq).heap.size := hz
    clear B1
    generalize w1.drewN nq = w2 at *
    go_wp2_with fail
    all_goals
     refine (K4.out _).mono ?_
     rintro e w3 ⟨rfl, hB⟩
     have r0 := (hB.cell (p := ⟨w.heap.size, 0, none⟩) (by simp; omega)).trans (cell_alloc_l _ hc0)
     have r1 := (hB.cell (p := ⟨w.heap.size, 1, none⟩) (by simp; omega)).trans (cell_alloc_l _ hc1)
     have r2 := (hB.frozen (p := ⟨w.heap.size, 0, none⟩) (by simp; omega)).trans (frozen_alloc_l _ hc0 hf0)
     have r3 := (hB.frozen (p := ⟨w.heap.size, 1, none⟩) (by simp; omega)).trans (frozen_alloc_l _ hc1 hf1)
     obtain ⟨hd0, hd1, he0, he1, hz2⟩ := box_r hB
     have HB2 := Lib.hid ((HB1.out.alloc (by omega) (Obj.cells #[.int .i64 x, .int .i64 y] 91)).trans (hB.mono (by simp; omega)))
     clear hB
     go_wp2
     all_goals
      exact bodyPost_ret (v := rve (-x, y, 0)) (by simp [results, Tryz.results181, go_sem, r0, r1, rve]) rfl ⟨by rw [HE.out], (((HB2.out.setCell (p := ⟨w2.heap.size, 0, none⟩) (by simp; omega) _).setCell (p := ⟨w2.heap.size, 1, none⟩) (by simp; omega) _).setCell (p := ⟨w.heap.size, 0, none⟩) (Nat.le_refl _) _).setCell (p := ⟨w.heap.size, 1, none⟩) (Nat.le_refl _) _⟩
   ·have HE := Lib.hid (show (if decide (n < 0) != decide (d < 0) then -x else x, y, (0 : Int)) = (x, y, 0) by rw [decide_eq_false s1, decide_eq_false s2]; rfl)
    generalize (if decide (n < 0) != decide (d < 0) then -x else x, y, (0 : Int)) = R at *
    have hb1 : decide (n < 0) = false := decide_eq_false s1
    have hb2 : decide (d < 0) = false := decide_eq_false s2
    clear s1 s2
    go_enter Tryz.func181, Tryz.ntmps181
    go_wp2_with fail
    refine (K1.out _).mono ?_
    rintro e w' ⟨rfl, rfl⟩
    go_wp2_with fail
    refine (K2.out _).mono ?_
    rintro e w' ⟨rfl, rfl⟩
    go_wp2_with fail
    refine (K3.out _).mono ?_
    rintro e w1 ⟨rfl, hB⟩
    have B1 := Lib.hid hB
    have HB1 := Lib.hid (HB0.out.trans (hB.mono HB0.out.size))
    clear hB
    obtain ⟨hc0, hc1, hf0, hf1, hz⟩ := box_r B1.out
    go_wp2
    go_quiet (fail)
    replace HB1 := Lib.hid (below_drewN HB1.out nq)
    replace hc0 : (w1.drewN nq).cell? ⟨w.heap.size, 0, none⟩ = some (.int .i64 0) := hc0
    replace hc1 : (w1.drewN nq).cell? ⟨w.heap.size, 1, none⟩ = some (.int .i64 0) := hc1
    replace hf0 : (w1.drewN nq).frozen? ⟨w.heap.size, 0, none⟩ = false := hf0
    replace hf1 : (w1.drewN nq).frozen? ⟨w.heap.size, 1, none⟩ = false := hf1
    replace hz : w.heap.size < (w1.drewN nq).heap.size := hz
    clear B1
    generalize w1.drewN nq = w2 at *
    go_wp2
    all_goals
     exact bodyPost_ret (v := rve (x, y, 0)) (by simp [results, Tryz.results181, go_sem, hc0, hc1, hz, rve]) rfl ⟨by rw [HE.out], ((HB1.out.setCell (p := ⟨w.heap.size, 0, none⟩) (Nat.le_refl _) _).setCell (p := ⟨w.heap.size, 1, none⟩) (Nat.le_refl _) _).alloc (by simp; omega) _⟩
end Go.Proofs.YtgnloodmbgdgdaaGreat
namespace Go.Proofs.YtgnloodmbgdgdaaGreat
open Go.RowKit Go.Shelf
theorem newR_cases (n d : Int) : (Qm.Ok n d ∧ Qm.newR n d = (n, d, 0)) ∨ (¬ Qm.Ok n d ∧ ∃ a b, Qm.newR n d = (a, b, 0) ∧ (a ≠ n ∨ b ≠ d)) ∨ (¬ Qm.Ok n d ∧ ∃ k, Qm.newR n d = (0, 0, k) ∧ 1 ≤ k ∧ k ≤ 5) := by
 by_cases h : Qm.Ok n d
 ·refine .inl ⟨h, ?_⟩
  unfold Qm.newR
  rw [if_neg (by have := h.1; omega), Qm.ofR_ok h]
 ·refine .inr ?_
  unfold Qm.newR
  by_cases h0 : d = 0
  ·rw [if_pos h0]
   exact .inr ⟨h, 1, rfl, by omega, by omega⟩
  ·rw [if_neg h0]
   rcases Qm.ofR_out (n := n) h0 with e | ⟨a, b, e, o, m⟩
   ·exact .inr ⟨h, 5, e, by omega, by omega⟩
   ·refine .inl ⟨h, a, b, e, ?_⟩
    by_cases ha : a = n
    ·right
     rintro rfl
     rw [ha] at o
     exact h o
    ·exact .inl ha
set_option maxHeartbeats 1000000 in
set_option maxRecDepth 100000 in
theorem rvalid_any (n d : Int) (w : World) (hn : -9223372036854775808 ≤ n ∧ n ≤ 9223372036854775807) (hd : -9223372036854775808 ≤ d ∧ d ≤ 9223372036854775807) :
  Calls Tryz.prog 155 #[rv n d] w fun e w' => e = .returned (.int .i64 (Qm.validI n d)) ∧ Below w.heap.size w w' := by
 have HB0 := Lib.hid ((Below.refl w.heap.size w).alloc (Nat.le_refl _) (Obj.cells #[.int .i64 n, .int .i64 d] 91))
 have k1 := fun w => rnew_any n d w hn hd
 rcases newR_cases n d with ⟨o, e⟩ | ⟨o, a, b, e, hab⟩ | ⟨o, k, e, hk1, hk2⟩
 ·have HE := Lib.hid (Qm.validI_ok.2 o)
  rw [e] at k1
  have K1 := Lib.hid k1
  clear k1 e o
  generalize Qm.validI n d = R at *
  unfold rv rve at *
  go_enter Tryz.func155, Tryz.ntmps155
  go_wp2_with fail
  refine (K1.out _).mono ?_
  rintro e w1 ⟨rfl, hB⟩
  have B1 := Lib.hid hB
  have HB1 := Lib.hid (HB0.out.trans (hB.mono HB0.out.size))
  clear hB
  obtain ⟨hc0, hc1, hf0, hf1, hz⟩ := box_r B1.out
  go_wp2
  all_goals
   go_ret
   exact ⟨ret_int HE.out.symm, HB1.out.alloc (by omega) _⟩
 ·have HE : Hid (Qm.validI n d = 1) := Lib.hid (by unfold Qm.validI; rw [if_neg o])
  rw [e] at k1
  have K1 := Lib.hid k1
  clear k1 e o
  generalize Qm.validI n d = R at *
  unfold rv rve at *
  go_enter Tryz.func155, Tryz.ntmps155
  go_wp2_with fail
  refine (K1.out _).mono ?_
  rintro e w1 ⟨rfl, hB⟩
  have B1 := Lib.hid hB
  have HB1 := Lib.hid (HB0.out.trans (hB.mono HB0.out.size))
  clear hB
  obtain ⟨hc0, hc1, hf0, hf1, hz⟩ := box_r B1.out
  go_wp2
  all_goals
   go_ret
   exact ⟨ret_int HE.out.symm, HB1.out.alloc (by omega) _⟩
 ·have HE : Hid (Qm.validI n d = 1) := Lib.hid (by unfold Qm.validI; rw [if_neg o])
  rw [e] at k1
  have K1 := Lib.hid k1
  have hk : (k != 0) = true := by simp; omega
  clear k1 e o
  generalize Qm.validI n d = R at *
  unfold rv rve at *
  go_enter Tryz.func155, Tryz.ntmps155
  go_wp2_with fail
  refine (K1.out _).mono ?_
  rintro e w1 ⟨rfl, hB⟩
  have B1 := Lib.hid hB
  have HB1 := Lib.hid (HB0.out.trans (hB.mono HB0.out.size))
  clear hB
  obtain ⟨hc0, hc1, hf0, hf1, hz⟩ := box_r B1.out
  go_wp2
  all_goals
   go_ret
   exact ⟨ret_int HE.out.symm, HB1.out.alloc (by omega) _⟩
def I64 (n : Int) : Prop := -9223372036854775808 ≤ n ∧ n ≤ 9223372036854775807
set_option maxHeartbeats 1000000 in
set_option maxRecDepth 100000 in
theorem rpair_any (a b c d : Int) (w : World) (ha : I64 a) (hb : I64 b) (hc : I64 c) (hd : I64 d) :
  Calls Tryz.prog 189 #[rv a b, rv c d] w fun e w' => e = .returned (.int .i64 (Qm.bothI a b c d)) ∧ Below w.heap.size w w' := by
 have HB0 := Lib.hid (((Below.refl w.heap.size w).alloc (Nat.le_refl _) (Obj.cells #[.int .i64 a, .int .i64 b] 91)).alloc (by simp) (Obj.cells #[.int .i64 c, .int .i64 d] 91))
 have HC0 := Lib.hid (Below.refl (two w (.int .i64 a) (.int .i64 b) (.int .i64 c) (.int .i64 d) 91).heap.size (two w (.int .i64 a) (.int .i64 b) (.int .i64 c) (.int .i64 d) 91))
 have k1 := fun w => rvalid_any a b w ha hb
 have k2 := fun w => rvalid_any c d w hc hd
 rcases Qm.validI_two a b with e1 | e1
 ·have HE : Hid (Qm.bothI a b c d = Qm.validI c d) := by
   unfold Qm.bothI
   rcases Qm.validI_two c d with e2 | e2
   ·rw [e1, e2, if_pos ⟨rfl, rfl⟩]; exact rfl
   ·rw [e1, e2, if_neg (by decide)]; exact rfl
  rw [e1] at k1
  have K1 := Lib.hid k1
  have K2 := Lib.hid k2
  clear k1 k2 e1
  generalize Qm.bothI a b c d = R at *
  generalize Qm.validI c d = V at *
  unfold rv at *
  go_enter Tryz.func189, Tryz.ntmps189
  go_wp2_with fail
  refine (K1.out _).mono ?_
  rintro e w1 ⟨rfl, hB⟩
  have B1 := Lib.hid hB
  have HB1 := Lib.hid (HB0.out.trans (hB.mono HB0.out.size))
  have HC1 := Lib.hid (HC0.out.trans (hB.mono HC0.out.size))
  clear hB
  obtain ⟨q1_0, q1_1, q1_2, q1_3, q1_4⟩ := box_2 HC1.out
  go_wp2_with fail
  refine (K2.out _).mono ?_
  rintro e w2 ⟨rfl, hB⟩
  have B2 := Lib.hid hB
  have HB2 := Lib.hid (HB1.out.trans (hB.mono HB1.out.size))
  have HC2 := Lib.hid (HC1.out.trans (hB.mono HC1.out.size))
  clear hB
  obtain ⟨q2_0, q2_1, q2_2, q2_3, q2_4⟩ := box_2 HC2.out
  go_wp2
  go_ret
  exact ⟨ret_int HE.out.symm, HB2.out⟩
 ·have HE : Hid (Qm.bothI a b c d = 1) := by unfold Qm.bothI; rw [e1, if_neg (fun h => absurd h.1 (by decide))]; exact rfl
  rw [e1] at k1
  have K1 := Lib.hid k1
  clear k1 k2 e1
  generalize Qm.bothI a b c d = R at *
  unfold rv at *
  go_enter Tryz.func189, Tryz.ntmps189
  go_wp2_with fail
  refine (K1.out _).mono ?_
  rintro e w1 ⟨rfl, hB⟩
  have B1 := Lib.hid hB
  have HB1 := Lib.hid (HB0.out.trans (hB.mono HB0.out.size))
  have HC1 := Lib.hid (HC0.out.trans (hB.mono HC0.out.size))
  clear hB
  obtain ⟨q1_0, q1_1, q1_2, q1_3, q1_4⟩ := box_2 HC1.out
  go_wp2
  go_ret
  exact ⟨ret_int HE.out.symm, HB1.out⟩
end Go.Proofs.YtgnloodmbgdgdaaGreat
namespace Go.Proofs.YtgnloodmbgdgdaaGreat
open Go.RowKit Go.Shelf
theorem Since.alloc {wb W : World} (h : Since wb W) (o : Obj) : Since wb (W.alloc o) := Below.alloc h h.size o
def BoxAt (N : Nat) (a b : Value) (w1 : World) : Prop := w1.cell? ⟨N, 0, none⟩ = some a ∧ w1.cell? ⟨N, 1, none⟩ = some b ∧ w1.frozen? ⟨N, 0, none⟩ = false ∧ w1.frozen? ⟨N, 1, none⟩ = false ∧ N < w1.heap.size
theorem BoxAt.new {w w1 : World} {a b : Value} {t : TypeId} (hb : Below (w.alloc (.cells #[a, b] t)).heap.size (w.alloc (.cells #[a, b] t)) w1) : BoxAt w.heap.size a b w1 := box_r hb
theorem BoxAt.keep {W w1 : World} {N : Nat} {a b : Value} (h : BoxAt N a b W) (hb : Below W.heap.size W w1) : BoxAt N a b w1 :=
 ⟨(hb.cell (p := ⟨N, 0, none⟩) h.2.2.2.2).trans h.1, (hb.cell (p := ⟨N, 1, none⟩) h.2.2.2.2).trans h.2.1, (hb.frozen (p := ⟨N, 0, none⟩) h.2.2.2.2).trans h.2.2.1, (hb.frozen (p := ⟨N, 1, none⟩) h.2.2.2.2).trans h.2.2.2.1, Nat.lt_of_lt_of_le h.2.2.2.2 hb.size⟩
theorem BoxAt.under {W : World} {N : Nat} {a b : Value} (h : BoxAt N a b W) (o : Obj) : BoxAt N a b (W.alloc o) := h.keep ((Below.refl _ _).alloc (Nat.le_refl _) o)
theorem BoxAt.made (w : World) (a b : Value) (t : TypeId) : BoxAt w.heap.size a b (w.alloc (.cells #[a, b] t)) := BoxAt.new (Below.refl _ _)
def CutR (X : World) (p q k : Int) (s8 s9 : Value) (wx : World) : Prop := ∃ N : Nat, s8 = .pointer (some ⟨N, 0, none⟩) ∧ s9 = .int .i64 k ∧ BoxAt N (.int .i64 p) (.int .i64 q) wx ∧ X.heap.size ≤ N ∧ Below X.heap.size X wx
theorem CutR.alloc {X w2 w' : World} {p q k : Int} (t : TypeId) (hX : Below X.heap.size X w2) (hB : Since w2 w') : CutR X p q k (.pointer (some ⟨w'.heap.size, 0, none⟩)) (.int .i64 k) (w'.alloc (.cells #[.int .i64 p, .int .i64 q] t)) := by
 obtain ⟨c0, c1, f0, f1⟩ := cell_new2 w' (.int .i64 p) (.int .i64 q) t
 have h := hX.trans (Below.mono hB hX.size)
 exact ⟨_, rfl, rfl, ⟨c0, c1, f0, f1, by simp⟩, h.size, h.alloc h.size _⟩
theorem CutR.store {X w2 w' : World} {p q k : Int} {N : Nat} {a b : Value} (hX : Below X.heap.size X w2) (hB : Since w2 w') (h : BoxAt N a b w') (hN : X.heap.size ≤ N) : CutR X p q k (.pointer (some ⟨N, 0, none⟩)) (.int .i64 k) ((w'.setCell ⟨N, 0, none⟩ (.int .i64 p)).setCell ⟨N, 1, none⟩ (.int .i64 q)) := by
 have h2 := hX.trans (Below.mono hB hX.size)
 obtain ⟨c0, c1, f0, f1, hz⟩ := h
 refine ⟨N, rfl, rfl, ⟨?_, ?_, ?_, ?_, ?_⟩, hN, (h2.setCell (p := ⟨N, 0, none⟩) hN _).setCell (p := ⟨N, 1, none⟩) hN _⟩
 ·exact (World.cell?_setCell_other _ ⟨N, 1, none⟩ ⟨N, 0, none⟩ _ (by simp)).trans (World.cell?_setCell_same _ _ _ c0)
 ·exact World.cell?_setCell_same _ _ _ ((World.cell?_setCell_other _ ⟨N, 0, none⟩ ⟨N, 1, none⟩ _ (by simp)).trans c1)
 ·rw [World.frozen?_setCell, World.frozen?_setCell]
  exact f0
 ·rw [World.frozen?_setCell, World.frozen?_setCell]
  exact f1
 ·exact Nat.lt_of_lt_of_le hz (((Below.refl N w').setCell (p := ⟨N, 0, none⟩) (Nat.le_refl _) _).setCell (p := ⟨N, 1, none⟩) (Nat.le_refl _) _).size
end Go.Proofs.YtgnloodmbgdgdaaGreat
namespace Go.Proofs.YtgnloodmbgdgdaaGreat
open Go.RowKit Go.Shelf
def cmpR (a b c d : Int) : Int × Int := if Qm.bothI a b c d = 0 then (Qm.cmpI a b c d, 0) else (0, 1)
end Go.Proofs.YtgnloodmbgdgdaaGreat
namespace Go.Proofs.YtgnloodmbgdgdaaGreat
open Go.RowKit Go.Shelf
set_option maxHeartbeats 1000000 in
theorem isNaN_any (x : Int) (w : World) :
  Calls Tryz.prog 140 #[.int .i64 x] w fun e w' => e = .returned (.bool false) ∧ w = w' := by
 go_enter Tryz.func140, Tryz.ntmps140
 go_wp2
 go_ret
 exact ⟨by simp, rfl⟩
set_option maxHeartbeats 1000000 in
theorem compare_any (x y : Int) (w : World) :
  Calls Tryz.prog 78 #[.int .i64 x, .int .i64 y] w fun e w' => e = .returned (.int .i64 (if x < y then -1 else if y < x then 1 else 0)) ∧ w = w' := by
 have K1 := Lib.hid (fun x w => isNaN_any x w)
 by_cases h1 : x < y
 ·rw [if_pos h1]
  go_enter Tryz.func78, Tryz.ntmps78
  go_wp2_with fail
  refine (K1.out _ _).mono ?_
  rintro e w' ⟨rfl, rfl⟩
  go_wp2_with fail
  refine (K1.out _ _).mono ?_
  rintro e w' ⟨rfl, rfl⟩
  go_wp2
  go_ret
  exact ⟨rfl, rfl⟩
 ·rw [if_neg h1]
  by_cases h2 : y < x
  ·rw [if_pos h2]
   go_enter Tryz.func78, Tryz.ntmps78
   go_wp2_with fail
   refine (K1.out _ _).mono ?_
   rintro e w' ⟨rfl, rfl⟩
   go_wp2_with fail
   refine (K1.out _ _).mono ?_
   rintro e w' ⟨rfl, rfl⟩
   go_wp2
   go_ret
   exact ⟨rfl, rfl⟩
  ·rw [if_neg h2]
   go_enter Tryz.func78, Tryz.ntmps78
   go_wp2_with fail
   refine (K1.out _ _).mono ?_
   rintro e w' ⟨rfl, rfl⟩
   go_wp2_with fail
   refine (K1.out _ _).mono ?_
   rintro e w' ⟨rfl, rfl⟩
   go_wp2
   go_ret
   exact ⟨rfl, rfl⟩
set_option maxHeartbeats 1000000 in
set_option maxRecDepth 100000 in
theorem rcmp_any (a b c d : Int) (w : World) (ha : I64 a) (hb : I64 b) (hc : I64 c) (hd : I64 d) :
  Calls Tryz.prog 180 #[rv a b, rv c d] w fun e w' => e = .returned (.tuple #[.int .i64 (cmpR a b c d).1, .int .i64 (cmpR a b c d).2]) ∧ Below w.heap.size w w' := by
 have HB0 := Lib.hid (((Below.refl w.heap.size w).alloc (Nat.le_refl _) (Obj.cells #[.int .i64 a, .int .i64 b] 91)).alloc (by simp) (Obj.cells #[.int .i64 c, .int .i64 d] 91))
 have HC0 := Lib.hid (Below.refl (two w (.int .i64 a) (.int .i64 b) (.int .i64 c) (.int .i64 d) 91).heap.size (two w (.int .i64 a) (.int .i64 b) (.int .i64 c) (.int .i64 d) 91))
 have k1 := fun w => rpair_any a b c d w ha hb hc hd
 rcases Qm.bothI_two a b c d with e1 | e1
 ·obtain ⟨o, o'⟩ := Qm.bothI_ok.1 e1
  have h1 := Qm.mul_small o.2.2.1 o.2.2.2.1 o'.1 o'.2.1
  have h2 := Qm.mul_small o'.2.2.1 o'.2.2.2.1 o.1 o.2.1
  obtain ⟨h11, h12⟩ := h1
  obtain ⟨h21, h22⟩ := h2
  have k2 := fun w => compare_any (a * d) (c * b) w
  have HE : Hid (cmpR a b c d = ((if a * d < c * b then -1 else if c * b < a * d then 1 else 0), 0)) := Lib.hid (by unfold cmpR; rw [if_pos e1]; rfl)
  rw [e1] at k1
  generalize (if a * d < c * b then (-1 : Int) else if c * b < a * d then 1 else 0) = V at *
  generalize cmpR a b c d = R at *
  have K1 := Lib.hid k1
  have K2 := Lib.hid k2
  clear k1 k2 e1 o o' ha hb hc hd
  unfold rv at *
  go_enter Tryz.func180, Tryz.ntmps180
  go_wp2_with fail
  refine (K1.out _).mono ?_
  rintro e w1 ⟨rfl, hB⟩
  have B1 := Lib.hid hB
  have HB1 := Lib.hid (HB0.out.trans (hB.mono HB0.out.size))
  have HC1 := Lib.hid (HC0.out.trans (hB.mono HC0.out.size))
  clear hB
  obtain ⟨q1_0, q1_1, q1_2, q1_3, q1_4⟩ := box_2 HC1.out
  go_wp2_with fail
  refine (K2.out _).mono ?_
  rintro e w' ⟨rfl, rfl⟩
  go_wp2
  go_ret2
  exact ⟨by rw [HE.out]; exact rfl, HB1.out⟩
 ·have hE : cmpR a b c d = (0, 1) := by unfold cmpR; rw [if_neg (by rw [e1]; decide)]
  rw [e1] at k1
  have HE := Lib.hid hE
  have K1 := Lib.hid k1
  clear k1 e1 hE
  generalize cmpR a b c d = R at *
  unfold rv at *
  go_enter Tryz.func180, Tryz.ntmps180
  go_wp2_with fail
  refine (K1.out _).mono ?_
  rintro e w1 ⟨rfl, hB⟩
  have B1 := Lib.hid hB
  have HB1 := Lib.hid (HB0.out.trans (hB.mono HB0.out.size))
  have HC1 := Lib.hid (HC0.out.trans (hB.mono HC0.out.size))
  clear hB
  obtain ⟨q1_0, q1_1, q1_2, q1_3, q1_4⟩ := box_2 HC1.out
  go_wp2
  go_ret2
  exact ⟨by rw [HE.out]; exact rfl, HB1.out⟩
end Go.Proofs.YtgnloodmbgdgdaaGreat
namespace Go.Proofs.YtgnloodmbgdgdaaGreat
open Go.RowKit Go.Shelf
def pickI (zs : List Int) (i : Nat) (most : Int) : Int := if i < zs.length then aroundI (zs[i]?.getD 0) most else 0
theorem pickI_range (zs : List Int) (i : Nat) (most : Int) (h : 1 ≤ most) : 0 ≤ pickI zs i most ∧ pickI zs i most < most := by
 unfold pickI
 split
 ·exact aroundI_range _ _ h
 ·omega
def Wfs (zs : List Int) : Prop := ∀ z ∈ zs, (Lit.int .i64 z).wf = true
set_option maxHeartbeats 1000000 in
theorem pick_any (sv : Value) (zs : List Int) (i : Nat) (most : Int) (w : World) (hl : Els .i64 w sv zs) (hw : Wfs zs) (h : 1 ≤ most) (hm : most ≤ 4611686018427387904) (hi : i ≤ 100000) :
  Calls Tryz.prog 98 #[sv, .int .i64 (i : Int), .int .i64 most] w fun e w' => e = .returned (.int .i64 (pickI zs i most)) ∧ w = w' := by
 obtain ⟨a, cap, rfl⟩ := hl.shape
 unfold pickI
 have h0 : decide ((i : Int) < 0) = false := decide_eq_false (by omega)
 by_cases hlt : i < zs.length
 ·rw [if_pos hlt]
  obtain ⟨b, off, rfl, hcl⟩ := hl.at i hlt
  have hwz : (Lit.int .i64 (zs[i]?.getD 0)).wf = true := by rw [List.getElem?_eq_getElem hlt]; exact hw _ (List.getElem_mem hlt)
  have hge : decide ((i : Int) ≥ (zs.length : Int)) = false := decide_eq_false (by omega)
  generalize zs[i]?.getD 0 = z at *
  generalize hm' : zs.length = m at *
  have k1 := Lib.hid (around_any z most w h hm hwz)
  have hil : (i : Int) < m := by omega
  clear hl hw hwz hm'
  go_enter Tryz.func98, Tryz.ntmps98
  go_wp2_with fail
  refine (k1.out).mono ?_
  rintro e w' ⟨rfl, rfl⟩
  go_wp2
  go_ret
  exact ⟨rfl, rfl⟩
 ·rw [if_neg hlt]
  have hge : decide ((i : Int) ≥ (zs.length : Int)) = true := decide_eq_true (by omega)
  generalize zs.length = m at *
  clear hl hw
  go_enter Tryz.func98, Tryz.ntmps98
  go_wp2
  go_ret
  exact ⟨rfl, rfl⟩
end Go.Proofs.YtgnloodmbgdgdaaGreat
namespace Go.Proofs.YtgnloodmbgdgdaaGreat
open Go.RowKit Go.Shelf
def firstNZ : List Int → Int | [] => 0 | x :: r => if x = 0 then firstNZ r else x
theorem firstNZ_take (zs : List Int) (k : Nat) (h : ∀ z ∈ zs.take k, z = 0) : firstNZ zs = firstNZ (zs.drop k) := by
 induction zs generalizing k with
 | nil => simp
 | cons x r ih =>
  cases k with
  | zero => rfl
  | succ k =>
   rw [List.drop_succ_cons, ← ih k (fun y hy => h y (by rw [List.take_succ_cons]; exact List.mem_cons_of_mem _ hy))]
   have := h x (by rw [List.take_succ_cons]; exact List.mem_cons_self ..)
   show (if x = 0 then firstNZ r else x) = _
   rw [if_pos this]
set_option maxHeartbeats 2000000 in
theorem or_any (a : Option Addr) (n c : Nat) (zs : List Int) (w : World) (h : Els .i64 w (.slice a n c) zs) (hl : zs.length ≤ 1000000) :
  Calls Tryz.prog 77 #[.slice a n c] w fun e w' => e = .returned (.int .i64 (firstNZ zs)) ∧ w = w' := by
 have hn := h.len
 have HE := Lib.hid h
 have HN := Lib.hid hn
 have hnl : n ≤ 1000000 := by omega
 clear h hn hl
 go_enter Tryz.func77, Tryz.ntmps77
 go_wp2
 go_loop [8] (fun x => ∃ k : Nat, k ≤ n ∧ x = .int .i64 k ∧ Hid (∀ z ∈ zs.take k, z = 0)) (fun x => n - (intOf x).toNat)
 case atStart => exact ⟨0, by omega, rfl, fun z hz => by simp at hz⟩
 case round =>
  obtain ⟨k, hk, rfl, hF⟩ := hrel
  by_cases hlt : k < n
  ·have hki : (k : Int) < n := by omega
   obtain ⟨b, off, rfl, hc⟩ := HE.out.at k hlt
   have hzk : zs[k]? = some (zs[k]?.getD 0) := by rw [List.getElem?_eq_getElem (by rw [← HN.out]; exact hlt)]; rfl
   have HZ := Lib.hid hzk
   generalize zs[k]?.getD 0 = z at *
   clear hzk
   by_cases h0 : z = 0
   ·have hF2 : Hid (∀ y ∈ zs.take (k + 1), y = 0) := fun y hy => by
     rw [List.take_add_one, HZ.out, List.mem_append] at hy
     rcases hy with hy | hy
     ·exact hF.out y hy
     ·simp at hy
      rw [hy]
      exact h0
    subst h0
    go_wp2
    go_round
    case rel => exact ⟨k + 1, by omega, by go_num, hF2⟩
    case measure => simp [intOf]; omega
   ·have hz : (z != 0) = true := by simpa using h0
    have hR : Hid (firstNZ zs = z) := Lib.hid (by
     rw [firstNZ_take zs k hF.out]
     obtain ⟨hkl, e⟩ := List.getElem?_eq_some_iff.1 HZ.out
     rw [List.drop_eq_getElem_cons hkl, e]
     show (if z = 0 then _ else z) = z
     rw [if_neg h0])
    clear h0
    go_wp2
    go_ret
    exact ⟨ret_int hR.out.symm, rfl⟩
  ·have hki : (n : Int) ≤ (k : Int) := by omega
   have hR : Hid (firstNZ zs = 0) := Lib.hid (by
    rw [firstNZ_take zs k hF.out, List.drop_of_length_le (by rw [← HN.out]; omega)]
    rfl)
   go_wp2
   go_ret
   exact ⟨ret_int hR.out.symm, rfl⟩
end Go.Proofs.YtgnloodmbgdgdaaGreat
