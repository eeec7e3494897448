/- Contracts of the reference of span: size, near. -/
import Derived.Test.YtimbgjpjgbjnkaaPkm
import Derived.Test.YtimbgjpjgbjnkaaRpl
import Derived.Test.YtimbgjpjgbjnkaaRef03bRef03h
import Derived.Test.YtimbgjpjgbjnkaaWire
namespace Go.Proofs.Ytimbgjpjgbjnkaa
open Go.RowKit Go.Shelf

theorem own_lit3 {k : IntKind} (w : World) (E : TypeId) (zs : List Int) (hl : zs.length ≤ 1000) : Own k E w.heap.size (w.alloc (.cells (zs.map (Value.int k)).toArray E)) (.slice (some ⟨w.heap.size, 0, none⟩) zs.length zs.length) zs := by
  refine ⟨by simp, .inr ⟨w.heap.size, zs.length, _, rfl, Nat.le_refl _, heap_new w _, Nat.le_refl _, by unfold maxLen; omega, by simp, ?_⟩⟩
  rw [Nat.mul_one, List.take_of_length_le (by simp)]

set_option maxHeartbeats 1000000 in
theorem rsz_any (n : Int) (w : World) (h1 : -4611686018427387904 ≤ n) (h2 : n ≤ 4611686018427387904) :
    Calls Try.prog 72 #[.int .i64 n] w fun e w' => e = .returned (.int .i64 (absZ n)) ∧ w = w' := by
  by_cases h : 0 ≤ n
  · rw [abs_pos h]
    go_enter Try.func72, Try.ntmps72
    go_wp2
    all_goals
      go_ret
      exact ⟨ret_int (by omega), rfl⟩
  · rw [abs_neg (by omega)]
    go_enter Try.func72, Try.ntmps72
    go_wp2
    all_goals
      go_ret
      exact ⟨ret_int (by omega), rfl⟩

/-- A floor between bounds. -/
theorem floor_le {a d b : Int} (h1 : -1073741824 ≤ a) (h2 : a ≤ 1073741824) (h3 : 1 ≤ d) (h4 : d ≤ 1048576) (hb : 1 ≤ b) : (-1125899906842624 ≤ a * d ∧ a * d ≤ 1125899906842624) ∧ -1125899906842624 ≤ a * d / b ∧ a * d / b ≤ 1125899906842624 := by
  have x1 : a * d ≤ 1073741824 * d := Int.mul_le_mul_of_nonneg_right h2 (by omega)
  have x2 : -1073741824 * d ≤ a * d := Int.mul_le_mul_of_nonneg_right h1 (by omega)
  exact ⟨⟨by omega, by omega⟩, ediv_le hb (by omega) (by omega)⟩

theorem good_lo4 {x : Iv} (hg : x.good = true) (hr : x.r = false) : SmallR x.a x.b := by
  rcases end_ok (show endB x.a x.b x.p x.r = true by unfold Iv.good at hg; simp only [Bool.and_eq_true] at hg; exact hg.1.1) with ⟨h1, _⟩ | ⟨_, h2⟩
  · rw [hr] at h1; cases h1
  · exact h2

theorem good_hi4 {x : Iv} (hg : x.good = true) (hs : x.s = false) : SmallR x.c x.d := by
  rcases end_ok (show endB x.c x.d x.q x.s = true by unfold Iv.good at hg; simp only [Bool.and_eq_true] at hg; exact hg.1.2) with ⟨h1, _⟩ | ⟨_, h2⟩
  · rw [hs] at h1; cases h1
  · exact h2

theorem own_low {k : IntKind} {E : TypeId} {B B' : Nat} {w : World} {sv : Value} {zs : List Int} (h : Own k E B w sv zs) (hB : B' ≤ B) : Own k E B' w sv zs := by
  obtain ⟨hl, h | ⟨g, cap, cur, e, hg, hr⟩⟩ := h
  · exact ⟨hl, .inl h⟩
  · exact ⟨hl, .inr ⟨g, cap, cur, e, Nat.le_trans hB hg, hr⟩⟩

theorem boxl_keepB {W w1 : World} {N B : Nat} {vs : List Value} (h : BoxL N vs W) (hN : N < B) (hb : Below B W w1) : BoxL N vs w1 :=
  ⟨Nat.lt_of_lt_of_le h.1 hb.size, fun i v hv => ⟨(hb.cell (p := ⟨N, i, none⟩) hN).trans (h.2 i v hv).1, (hb.frozen (p := ⟨N, i, none⟩) hN).trans (h.2 i v hv).2⟩⟩

theorem one_more {w : World} (o : Obj) : Below w.heap.size w (w.alloc o) := (Below.refl _ _).alloc (Nat.le_refl _) o

set_option maxHeartbeats 4000000 in
set_option maxRecDepth 100000 in
theorem near_tt (a b c e : Int) (p q : Bool) (d : Int) (w : World) :
    Calls Try.prog 71 #[.agg #[.int .i64 a, .int .i64 b, .int .i64 c, .int .i64 e, .bool p, .bool q, .bool true, .bool true], .int .i64 d] w (Makes .i64 3 [0, 1, -1] w) := by
  have HI0 := Lib.hid Try.infoI64
  have HB0 := Lib.hid (one_more (w := w) (.cells #[.int .i64 a, .int .i64 b, .int .i64 c, .int .i64 e, .bool p, .bool q, .bool true, .bool true] 27))
  have XA := Lib.hid (cell_new8 w (.int .i64 a) (.int .i64 b) (.int .i64 c) (.int .i64 e) (.bool p) (.bool q) (.bool true) (.bool true) 27)
  have hsz : (w.alloc (.cells #[.int .i64 a, .int .i64 b, .int .i64 c, .int .i64 e, .bool p, .bool q, .bool true, .bool true] 27)).heap.size = w.heap.size + 1 := by simp
  have hw0 : ∃ W0, W0 = w.alloc (.cells #[.int .i64 a, .int .i64 b, .int .i64 c, .int .i64 e, .bool p, .bool q, .bool true, .bool true] 27) := ⟨_, rfl⟩
  obtain ⟨W0, hw0⟩ := hw0
  rw [← hw0] at HB0 XA hsz
  have HO0 := Lib.hid (own_lit3 (k := .i64) W0 3 [0, 1, -1] (by simp))
  have hw1 : ∃ W1, W1 = W0.alloc (.cells #[.int .i64 0, .int .i64 1, .int .i64 (-1)] 3) := ⟨_, rfl⟩
  obtain ⟨W1, hw1⟩ := hw1
  have HB1 := Lib.hid (one_more (w := W0) (.cells #[.int .i64 0, .int .i64 1, .int .i64 (-1)] 3))
  have HO1 : Hid (Own .i64 3 W0.heap.size W1 (.slice (some ⟨w.heap.size + 1, 0, none⟩) 3 3) [0, 1, -1]) := Lib.hid (by rw [← hsz, hw1]; exact HO0.out)
  rw [← hw1] at HB1
  have XA1 := Lib.hid (XA.out.keep HB1.out)
  have HSZ := Lib.hid hsz
  clear hsz HO0 XA
  obtain ⟨r0, r1, r2, r3, r4, r5, r6, r7, r8⟩ := XA1.out.open8
  go_enter Try.func71, Try.ntmps71
  go_upto_region 2 with (fail)
  rw [← hw0, ← hw1]
  clear hw0 hw1
  have hs0 := HSZ.out
  go_wp2
  go_ret
  exact makes_of (own_low HO1.out HB0.out.size) (HB0.out.trans (HB1.out.mono HB0.out.size))

set_option maxHeartbeats 4000000 in
set_option maxRecDepth 100000 in
theorem near_tf (a b c e : Int) (p q : Bool) (d : Int) (w : World) (hhi : SmallR c e) (hd1 : 1 ≤ d) (hd2 : d ≤ 1048576) :
    Calls Try.prog 71 #[.agg #[.int .i64 a, .int .i64 b, .int .i64 c, .int .i64 e, .bool p, .bool q, .bool true, .bool false], .int .i64 d] w (Makes .i64 3 ([0, 1, -1] ++ [c * d / e - 1, c * d / e, c * d / e + 1]) w) := by
  have HI0 := Lib.hid Try.infoI64
  have HB0 := Lib.hid (one_more (w := w) (.cells #[.int .i64 a, .int .i64 b, .int .i64 c, .int .i64 e, .bool p, .bool q, .bool true, .bool false] 27))
  have XA := Lib.hid (cell_new8 w (.int .i64 a) (.int .i64 b) (.int .i64 c) (.int .i64 e) (.bool p) (.bool q) (.bool true) (.bool false) 27)
  obtain ⟨⟨hi1, hi2⟩, hi3, hi4⟩ := floor_le (a := c) (d := d) (b := e) hhi.2.1 hhi.2.2.1 hd1 hd2 hhi.1.1
  have KFhi := Lib.hid fun W => floor_any (c * d) e W (by omega) (by omega) hhi.1.1 (by have := hhi.1.2.1; omega)
  have whi : IntKind.i64.wrap (c * d) = c * d := IntWalk.i64_in _ (by omega)
  have hbhi : e ≠ 0 := by have := hhi.1.1; omega
  generalize c * d / e = fhi at *
  have hsz : (w.alloc (.cells #[.int .i64 a, .int .i64 b, .int .i64 c, .int .i64 e, .bool p, .bool q, .bool true, .bool false] 27)).heap.size = w.heap.size + 1 := by simp
  have hw0 : ∃ W0, W0 = w.alloc (.cells #[.int .i64 a, .int .i64 b, .int .i64 c, .int .i64 e, .bool p, .bool q, .bool true, .bool false] 27) := ⟨_, rfl⟩
  obtain ⟨W0, hw0⟩ := hw0
  rw [← hw0] at HB0 XA hsz
  have HO0 := Lib.hid (own_lit3 (k := .i64) W0 3 [0, 1, -1] (by simp))
  have hw1 : ∃ W1, W1 = W0.alloc (.cells #[.int .i64 0, .int .i64 1, .int .i64 (-1)] 3) := ⟨_, rfl⟩
  obtain ⟨W1, hw1⟩ := hw1
  have HB1 := Lib.hid (one_more (w := W0) (.cells #[.int .i64 0, .int .i64 1, .int .i64 (-1)] 3))
  have HO1 : Hid (Own .i64 3 W0.heap.size W1 (.slice (some ⟨w.heap.size + 1, 0, none⟩) 3 3) [0, 1, -1]) := Lib.hid (by rw [← hsz, hw1]; exact HO0.out)
  rw [← hw1] at HB1
  have XA1 := Lib.hid (XA.out.keep HB1.out)
  have HSZ := Lib.hid hsz
  clear hsz HO0 XA hhi
  obtain ⟨r0, r1, r2, r3, r4, r5, r6, r7, r8⟩ := XA1.out.open8
  go_enter Try.func71, Try.ntmps71
  go_upto_region 2 with (fail)
  rw [← hw0, ← hw1]
  clear hw0 hw1
  have hs0 := HSZ.out
  go_wp2_with fail
  refine (KFhi.out _).mono ?_
  rintro e' w' ⟨rfl, rfl⟩
  have v1hi : IntKind.i64.wrap (fhi - 1) = fhi - 1 := IntWalk.i64_in _ (by omega)
  have v2hi : IntKind.i64.wrap (fhi + 1) = fhi + 1 := IntWalk.i64_in _ (by omega)
  have HAhi := Lib.hid (one_more (w := W1) (.cells #[.int .i64 (fhi - 1), .int .i64 fhi, .int .i64 (fhi + 1)] 3))
  have HEhi : Hid (Els .i64 (W1.alloc (.cells #[.int .i64 (fhi - 1), .int .i64 fhi, .int .i64 (fhi + 1)] 3)) (.slice (some ⟨W1.heap.size, 0, none⟩) 3 3) [fhi - 1, fhi, fhi + 1]) := Lib.hid (Els.new .i64 W1 3 [fhi - 1, fhi, fhi + 1])
  have HOhi := Lib.hid (HO1.out.below HAhi.out)
  have HShi := Lib.hid (Nat.le_trans HB1.out.size HAhi.out.size)
  go_wp2_with (at_builtin; refine push_all rfl _ _ 22 rfl .i64 3 8 Try.underlying22 HI0.out (by decide) W0.heap.size (.slice (some ⟨w.heap.size + 1, 0, none⟩) 3 3) [0, 1, -1] (.slice (some ⟨W1.heap.size, 0, none⟩) 3 3) [fhi - 1, fhi, fhi + 1] rfl rfl HOhi.out HEhi.out HShi.out (by simp) ?_; intro ahi nhi chi whix hnhi hOhi hBhi; have XBhi := Lib.hid (boxl_keepB (XA1.out.keep HAhi.out) (show w.heap.size < W0.heap.size by have := HSZ.out; omega) hBhi.out); have HChi : Hid (Below W0.heap.size W0 whix) := Lib.hid (HB1.out.trans ((HAhi.out.mono HB1.out.size).trans hBhi.out)); obtain ⟨shi0, shi1, shi2, shi3, shi4, shi5, shi6, shi7, shi8⟩ := XBhi.out.open8)
  go_wp2
  go_ret
  exact makes_of (own_low hOhi.out HB0.out.size) (HB0.out.trans (HChi.out.mono HB0.out.size))

set_option maxHeartbeats 4000000 in
set_option maxRecDepth 100000 in
theorem near_ft (a b c e : Int) (p q : Bool) (d : Int) (w : World) (hlo : SmallR a b) (hd1 : 1 ≤ d) (hd2 : d ≤ 1048576) :
    Calls Try.prog 71 #[.agg #[.int .i64 a, .int .i64 b, .int .i64 c, .int .i64 e, .bool p, .bool q, .bool false, .bool true], .int .i64 d] w (Makes .i64 3 ([0, 1, -1] ++ [a * d / b, a * d / b + 1, a * d / b + 2]) w) := by
  have HI0 := Lib.hid Try.infoI64
  have HB0 := Lib.hid (one_more (w := w) (.cells #[.int .i64 a, .int .i64 b, .int .i64 c, .int .i64 e, .bool p, .bool q, .bool false, .bool true] 27))
  have XA := Lib.hid (cell_new8 w (.int .i64 a) (.int .i64 b) (.int .i64 c) (.int .i64 e) (.bool p) (.bool q) (.bool false) (.bool true) 27)
  obtain ⟨⟨lo1, lo2⟩, lo3, lo4⟩ := floor_le (a := a) (d := d) (b := b) hlo.2.1 hlo.2.2.1 hd1 hd2 hlo.1.1
  have KFlo := Lib.hid fun W => floor_any (a * d) b W (by omega) (by omega) hlo.1.1 (by have := hlo.1.2.1; omega)
  have wlo : IntKind.i64.wrap (a * d) = a * d := IntWalk.i64_in _ (by omega)
  have hblo : b ≠ 0 := by have := hlo.1.1; omega
  generalize a * d / b = flo at *
  have hsz : (w.alloc (.cells #[.int .i64 a, .int .i64 b, .int .i64 c, .int .i64 e, .bool p, .bool q, .bool false, .bool true] 27)).heap.size = w.heap.size + 1 := by simp
  have hw0 : ∃ W0, W0 = w.alloc (.cells #[.int .i64 a, .int .i64 b, .int .i64 c, .int .i64 e, .bool p, .bool q, .bool false, .bool true] 27) := ⟨_, rfl⟩
  obtain ⟨W0, hw0⟩ := hw0
  rw [← hw0] at HB0 XA hsz
  have HO0 := Lib.hid (own_lit3 (k := .i64) W0 3 [0, 1, -1] (by simp))
  have hw1 : ∃ W1, W1 = W0.alloc (.cells #[.int .i64 0, .int .i64 1, .int .i64 (-1)] 3) := ⟨_, rfl⟩
  obtain ⟨W1, hw1⟩ := hw1
  have HB1 := Lib.hid (one_more (w := W0) (.cells #[.int .i64 0, .int .i64 1, .int .i64 (-1)] 3))
  have HO1 : Hid (Own .i64 3 W0.heap.size W1 (.slice (some ⟨w.heap.size + 1, 0, none⟩) 3 3) [0, 1, -1]) := Lib.hid (by rw [← hsz, hw1]; exact HO0.out)
  rw [← hw1] at HB1
  have XA1 := Lib.hid (XA.out.keep HB1.out)
  have HSZ := Lib.hid hsz
  clear hsz HO0 XA hlo
  obtain ⟨r0, r1, r2, r3, r4, r5, r6, r7, r8⟩ := XA1.out.open8
  go_enter Try.func71, Try.ntmps71
  go_upto_region 2 with (fail)
  rw [← hw0, ← hw1]
  clear hw0 hw1
  have hs0 := HSZ.out
  go_wp2_with fail
  refine (KFlo.out _).mono ?_
  rintro e' w' ⟨rfl, rfl⟩
  have v1lo : IntKind.i64.wrap (flo + 1) = flo + 1 := IntWalk.i64_in _ (by omega)
  have v2lo : IntKind.i64.wrap (flo + 2) = flo + 2 := IntWalk.i64_in _ (by omega)
  have HAlo := Lib.hid (one_more (w := W1) (.cells #[.int .i64 flo, .int .i64 (flo + 1), .int .i64 (flo + 2)] 3))
  have HElo : Hid (Els .i64 (W1.alloc (.cells #[.int .i64 flo, .int .i64 (flo + 1), .int .i64 (flo + 2)] 3)) (.slice (some ⟨W1.heap.size, 0, none⟩) 3 3) [flo, flo + 1, flo + 2]) := Lib.hid (Els.new .i64 W1 3 [flo, flo + 1, flo + 2])
  have HOlo := Lib.hid (HO1.out.below HAlo.out)
  have HSlo := Lib.hid (Nat.le_trans HB1.out.size HAlo.out.size)
  go_wp2_with (at_builtin; refine push_all rfl _ _ 22 rfl .i64 3 8 Try.underlying22 HI0.out (by decide) W0.heap.size (.slice (some ⟨w.heap.size + 1, 0, none⟩) 3 3) [0, 1, -1] (.slice (some ⟨W1.heap.size, 0, none⟩) 3 3) [flo, flo + 1, flo + 2] rfl rfl HOlo.out HElo.out HSlo.out (by simp) ?_; intro alo nlo clo wlox hnlo hOlo hBlo; have XBlo := Lib.hid (boxl_keepB (XA1.out.keep HAlo.out) (show w.heap.size < W0.heap.size by have := HSZ.out; omega) hBlo.out); have HClo : Hid (Below W0.heap.size W0 wlox) := Lib.hid (HB1.out.trans ((HAlo.out.mono HB1.out.size).trans hBlo.out)); obtain ⟨slo0, slo1, slo2, slo3, slo4, slo5, slo6, slo7, slo8⟩ := XBlo.out.open8)
  go_wp2
  go_ret
  exact makes_of (own_low hOlo.out HB0.out.size) (HB0.out.trans (HClo.out.mono HB0.out.size))

set_option maxHeartbeats 4000000 in
set_option maxRecDepth 100000 in
theorem near_ff (a b c e : Int) (p q : Bool) (d : Int) (w : World) (hlo : SmallR a b) (hhi : SmallR c e) (hd1 : 1 ≤ d) (hd2 : d ≤ 1048576) :
    Calls Try.prog 71 #[.agg #[.int .i64 a, .int .i64 b, .int .i64 c, .int .i64 e, .bool p, .bool q, .bool false, .bool false], .int .i64 d] w (Makes .i64 3 (([0, 1, -1] ++ [a * d / b, a * d / b + 1, a * d / b + 2]) ++ [c * d / e - 1, c * d / e, c * d / e + 1]) w) := by
  have HI0 := Lib.hid Try.infoI64
  have HB0 := Lib.hid (one_more (w := w) (.cells #[.int .i64 a, .int .i64 b, .int .i64 c, .int .i64 e, .bool p, .bool q, .bool false, .bool false] 27))
  have XA := Lib.hid (cell_new8 w (.int .i64 a) (.int .i64 b) (.int .i64 c) (.int .i64 e) (.bool p) (.bool q) (.bool false) (.bool false) 27)
  obtain ⟨⟨lo1, lo2⟩, lo3, lo4⟩ := floor_le (a := a) (d := d) (b := b) hlo.2.1 hlo.2.2.1 hd1 hd2 hlo.1.1
  have KFlo := Lib.hid fun W => floor_any (a * d) b W (by omega) (by omega) hlo.1.1 (by have := hlo.1.2.1; omega)
  have wlo : IntKind.i64.wrap (a * d) = a * d := IntWalk.i64_in _ (by omega)
  have hblo : b ≠ 0 := by have := hlo.1.1; omega
  generalize a * d / b = flo at *
  obtain ⟨⟨hi1, hi2⟩, hi3, hi4⟩ := floor_le (a := c) (d := d) (b := e) hhi.2.1 hhi.2.2.1 hd1 hd2 hhi.1.1
  have KFhi := Lib.hid fun W => floor_any (c * d) e W (by omega) (by omega) hhi.1.1 (by have := hhi.1.2.1; omega)
  have whi : IntKind.i64.wrap (c * d) = c * d := IntWalk.i64_in _ (by omega)
  have hbhi : e ≠ 0 := by have := hhi.1.1; omega
  generalize c * d / e = fhi at *
  have hsz : (w.alloc (.cells #[.int .i64 a, .int .i64 b, .int .i64 c, .int .i64 e, .bool p, .bool q, .bool false, .bool false] 27)).heap.size = w.heap.size + 1 := by simp
  have hw0 : ∃ W0, W0 = w.alloc (.cells #[.int .i64 a, .int .i64 b, .int .i64 c, .int .i64 e, .bool p, .bool q, .bool false, .bool false] 27) := ⟨_, rfl⟩
  obtain ⟨W0, hw0⟩ := hw0
  rw [← hw0] at HB0 XA hsz
  have HO0 := Lib.hid (own_lit3 (k := .i64) W0 3 [0, 1, -1] (by simp))
  have hw1 : ∃ W1, W1 = W0.alloc (.cells #[.int .i64 0, .int .i64 1, .int .i64 (-1)] 3) := ⟨_, rfl⟩
  obtain ⟨W1, hw1⟩ := hw1
  have HB1 := Lib.hid (one_more (w := W0) (.cells #[.int .i64 0, .int .i64 1, .int .i64 (-1)] 3))
  have HO1 : Hid (Own .i64 3 W0.heap.size W1 (.slice (some ⟨w.heap.size + 1, 0, none⟩) 3 3) [0, 1, -1]) := Lib.hid (by rw [← hsz, hw1]; exact HO0.out)
  rw [← hw1] at HB1
  have XA1 := Lib.hid (XA.out.keep HB1.out)
  have HSZ := Lib.hid hsz
  clear hsz HO0 XA hlo hhi
  obtain ⟨r0, r1, r2, r3, r4, r5, r6, r7, r8⟩ := XA1.out.open8
  go_enter Try.func71, Try.ntmps71
  go_upto_region 2 with (fail)
  rw [← hw0, ← hw1]
  clear hw0 hw1
  have hs0 := HSZ.out
  go_wp2_with fail
  refine (KFlo.out _).mono ?_
  rintro e' w' ⟨rfl, rfl⟩
  have v1lo : IntKind.i64.wrap (flo + 1) = flo + 1 := IntWalk.i64_in _ (by omega)
  have v2lo : IntKind.i64.wrap (flo + 2) = flo + 2 := IntWalk.i64_in _ (by omega)
  have HAlo := Lib.hid (one_more (w := W1) (.cells #[.int .i64 flo, .int .i64 (flo + 1), .int .i64 (flo + 2)] 3))
  have HElo : Hid (Els .i64 (W1.alloc (.cells #[.int .i64 flo, .int .i64 (flo + 1), .int .i64 (flo + 2)] 3)) (.slice (some ⟨W1.heap.size, 0, none⟩) 3 3) [flo, flo + 1, flo + 2]) := Lib.hid (Els.new .i64 W1 3 [flo, flo + 1, flo + 2])
  have HOlo := Lib.hid (HO1.out.below HAlo.out)
  have HSlo := Lib.hid (Nat.le_trans HB1.out.size HAlo.out.size)
  go_wp2_with (at_builtin; refine push_all rfl _ _ 22 rfl .i64 3 8 Try.underlying22 HI0.out (by decide) W0.heap.size (.slice (some ⟨w.heap.size + 1, 0, none⟩) 3 3) [0, 1, -1] (.slice (some ⟨W1.heap.size, 0, none⟩) 3 3) [flo, flo + 1, flo + 2] rfl rfl HOlo.out HElo.out HSlo.out (by simp) ?_; intro alo nlo clo wlox hnlo hOlo hBlo; have XBlo := Lib.hid (boxl_keepB (XA1.out.keep HAlo.out) (show w.heap.size < W0.heap.size by have := HSZ.out; omega) hBlo.out); have HClo : Hid (Below W0.heap.size W0 wlox) := Lib.hid (HB1.out.trans ((HAlo.out.mono HB1.out.size).trans hBlo.out)); obtain ⟨slo0, slo1, slo2, slo3, slo4, slo5, slo6, slo7, slo8⟩ := XBlo.out.open8)
  go_wp2_with fail
  refine (KFhi.out _).mono ?_
  rintro e' w' ⟨rfl, rfl⟩
  have v1hi : IntKind.i64.wrap (fhi - 1) = fhi - 1 := IntWalk.i64_in _ (by omega)
  have v2hi : IntKind.i64.wrap (fhi + 1) = fhi + 1 := IntWalk.i64_in _ (by omega)
  have HAhi := Lib.hid (one_more (w := wlox) (.cells #[.int .i64 (fhi - 1), .int .i64 fhi, .int .i64 (fhi + 1)] 3))
  have HEhi : Hid (Els .i64 (wlox.alloc (.cells #[.int .i64 (fhi - 1), .int .i64 fhi, .int .i64 (fhi + 1)] 3)) (.slice (some ⟨wlox.heap.size, 0, none⟩) 3 3) [fhi - 1, fhi, fhi + 1]) := Lib.hid (Els.new .i64 wlox 3 [fhi - 1, fhi, fhi + 1])
  have HOhi := Lib.hid (hOlo.out.below HAhi.out)
  have HShi := Lib.hid (Nat.le_trans HClo.out.size HAhi.out.size)
  go_wp2_with (at_builtin; refine push_all rfl _ _ 22 rfl .i64 3 8 Try.underlying22 HI0.out (by decide) W0.heap.size (.slice alo nlo clo) ([0, 1, -1] ++ [flo, flo + 1, flo + 2]) (.slice (some ⟨wlox.heap.size, 0, none⟩) 3 3) [fhi - 1, fhi, fhi + 1] rfl rfl HOhi.out HEhi.out HShi.out (by simp) ?_; intro ahi nhi chi whix hnhi hOhi hBhi; have XBhi := Lib.hid (boxl_keepB (XBlo.out.keep HAhi.out) (show w.heap.size < W0.heap.size by have := HSZ.out; omega) hBhi.out); have HChi : Hid (Below W0.heap.size W0 whix) := Lib.hid (HClo.out.trans ((HAhi.out.mono HClo.out.size).trans hBhi.out)); obtain ⟨shi0, shi1, shi2, shi3, shi4, shi5, shi6, shi7, shi8⟩ := XBhi.out.open8)
  go_wp2
  go_ret
  exact makes_of (own_low hOhi.out HB0.out.size) (HB0.out.trans (HChi.out.mono HB0.out.size))

theorem near_any (x : Iv) (d : Int) (w : World) (hg : x.good = true) (hd1 : 1 ≤ d) (hd2 : d ≤ 1048576) :
    Calls Try.prog 71 #[x.v, .int .i64 d] w (Makes .i64 3 (nearL x d) w) := by
  have hlo := good_lo4 hg
  have hhi := good_hi4 hg
  unfold nearL Iv.v
  obtain ⟨a, b, c, e, p, q, r, s⟩ := x
  simp only at *
  cases r <;> cases s
  · exact near_ff a b c e p q d w (hlo rfl) (hhi rfl) hd1 hd2
  · have := near_ft a b c e p q d w (hlo rfl) hd1 hd2
    simpa using this
  · have := near_tf a b c e p q d w (hhi rfl) hd1 hd2
    simpa using this
  · have := near_tt a b c e p q d w
    simpa using this

end Go.Proofs.Ytimbgjpjgbjnkaa
