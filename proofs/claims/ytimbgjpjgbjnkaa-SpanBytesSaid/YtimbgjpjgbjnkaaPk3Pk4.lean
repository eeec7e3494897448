import Derived.Test.YtimbgjpjgbjnkaaPk1Pk2
import Derived.Test.YtimbgjpjgbjnkaaRat5Rat10
import Derived.Test.YtimbgjpjgbjnkaaSp3Sp4
import Derived.Test.YtimbgjpjgbjnkaaGbGc
/- Contracts of package span: candidates. -/
namespace Go.Proofs.Ytimbgjpjgbjnkaa
open Go.RowKit Go.Shelf

theorem BoxL.keepB {W w1 : World} {N B : Nat} {vs : List Value} (h : BoxL N vs W) (hb : Below B W w1) (hN : N < B) : BoxL N vs w1 :=
  ⟨Nat.lt_of_lt_of_le h.1 hb.size, fun i v hv => ⟨(hb.cell (p := ⟨N, i, none⟩) hN).trans (h.2 i v hv).1, (hb.frozen (p := ⟨N, i, none⟩) hN).trans (h.2 i v hv).2⟩⟩

/-- What candidates returns: R is what Between returned. -/
def candL (F T : Cut) (R : Int × Int × Int) : List (Int × Int) := (if F.a then [] else [(F.n, F.d)]) ++ ((if T.a then [(T.n, T.d)] else []) ++ (if R.2.2 = 0 then [(R.1, R.2.1)] else []))

/-- What candidates leaves. -/
def CandOut (F T : Cut) (w : World) (e : Ending) (w' : World) : Prop := ∃ R, Qm.Btw F.n F.d T.n T.d R ∧ RMakes RRat 25 (candL F T R) w e w'

theorem candOut_of {F T : Cut} {w w' : World} {e : Ending} {R : Int × Int × Int} {L : List (Int × Int)} (h1 : Qm.Btw F.n F.d T.n T.d R) (h2 : L = candL F T R) (h3 : RMakes RRat 25 L w e w') : CandOut F T w e w' := ⟨R, h1, h2 ▸ h3⟩

set_option maxHeartbeats 8000000 in
set_option maxRecDepth 100000 in
theorem cand_any (x : Iv) (w : World) (hx : x.good = true) :
    Calls Try.prog 68 #[x.v] w (CandOut x.from x.to w) := by
  have kb := Lib.hid fun W => bounds_any x W
  have o1 := ok_nums (good_parts hx).1
  have o2 := ok_nums (good_parts hx).2.1
  have kr := Lib.hid fun W => rbtw_any x.from.n x.from.d x.to.n x.to.d W o1.1 o1.2 o2.1 o2.2
  have HB0 := Lib.hid ((Below.refl w.heap.size w).alloc (Nat.le_refl _) (.cells #[.int .i64 x.a, .int .i64 x.b, .int .i64 x.c, .int .i64 x.d, .bool x.p, .bool x.q, .bool x.r, .bool x.s] 27))
  clear hx o1 o2
  generalize x.from = F at *
  generalize x.to = T at *
  obtain ⟨xa, xb, xc, xd, xp, xq, xr, xs'⟩ := x
  obtain ⟨fn, fd, fa⟩ := F
  obtain ⟨tn, td, ta⟩ := T
  unfold Iv.v Cut.v rv at *
  simp only at *
  cases fa <;> cases ta
  · go_enter Try.func68, Try.ntmps68
    go_wp2_with fail
    refine (kb.out _).mono ?_
    rintro e w1 ⟨rfl, hr⟩
    have H1 := Lib.hid (HB0.out.trans (hr.mono HB0.out.size))
    have hz1 := H1.out.size
    clear hr
    have XF0 := Lib.hid ((BoxL.made w1 #[.int .i64 fn, .int .i64 fd, .bool false] 75).under (.cells #[.int .i64 tn, .int .i64 td, .bool false] 75))
    have xt := BoxL.made (w1.alloc (.cells #[.int .i64 fn, .int .i64 fd, .bool false] 75)) #[.int .i64 tn, .int .i64 td, .bool false] 75
    rw [size_alloc] at xt
    have XT0 := Lib.hid xt
    have HA0 := Lib.hid ((H1.out.alloc hz1 (.cells #[.int .i64 fn, .int .i64 fd, .bool false] 75)).alloc (Nat.le_trans hz1 (by simp)) (.cells #[.int .i64 tn, .int .i64 td, .bool false] 75))
    have hw0 : ((w1.alloc (.cells #[.int .i64 fn, .int .i64 fd, .bool false] 75)).alloc (.cells #[.int .i64 tn, .int .i64 td, .bool false] 75)).heap.size = w1.heap.size + 1 + 1 := by simp
    have HW0 := Lib.hid hw0
    clear xt H1 hw0
    go_upto_region 3 with (fail)
    generalize (w1.alloc (.cells #[.int .i64 fn, .int .i64 fd, .bool false] 75)).alloc (.cells #[.int .i64 tn, .int .i64 td, .bool false] 75) = W0 at *
    generalize w1.heap.size = N1 at *
    generalize hB0 : W0.heap.size = B0 at *
    have hnb : N1 + 1 < B0 := by have := HW0.out; omega
    have hnb0 : N1 < B0 := by omega
    have hwb : w.heap.size ≤ B0 := by omega
    have HBZ := Lib.hid hB0
    clear hB0 hz1
    obtain ⟨f0, f1, f2, -, -, -, f3⟩ := XF0.out.open3
    obtain ⟨t0, t1, t2, -, -, -, t3⟩ := XT0.out.open3
    have HK0 : Hid (Below B0 W0 W0) := Lib.hid (Below.refl _ _)
    have hz0 : B0 ≤ W0.heap.size := by have := HK0.out.size; have := HBZ.out; omega
    have hl0 : ([] : List (Int × Int)).length + 1 ≤ 1000000000 := by simp
    go_upto_region 5 with (at_builtin; refine push_row rfl (.tmp 16) (.tmp 19) 36 rfl RRat 25 16 _ Try.underlying36 Try.infoRat rfl (by decide) B0 (.slice none 0 0) [] [(fn, fd)] _ _ rfl rfl _ 1 rfl rfl rfl (ROwn.nil RRat 25 B0 W0) hz0 hl0 ?_; intro a0 n0 c0 v0 hn0 hO0 hB0)
    have HK1 := Lib.hid (HK0.out.trans hB0.out)
    clear f0 f1 f2 f3 t0 t1 t2 t3 hB0 hz0 hl0
    obtain ⟨f0, f1, f2, -, -, -, f3⟩ := (XF0.out.keepB HK1.out hnb0).open3
    obtain ⟨t0, t1, t2, -, -, -, t3⟩ := (XT0.out.keepB HK1.out hnb).open3
    go_wp2_with fail
    refine (kr.out _).mono ?_
    rintro e w4 ⟨R, hR, rfl, hr⟩
    have hOr := Lib.hid ((show ROwn RRat 25 B0 v0 (.slice a0 n0 c0) ([] ++ [(fn, fd)]) from hO0.out).below hr)
    have HR4 := Lib.hid (HK1.out.trans (hr.mono (by have := HK1.out.size; have := HBZ.out; omega)))
    have hz4 : B0 ≤ w4.heap.size := by have := HR4.out.size; have := HBZ.out; omega
    have hl4 : (([] ++ [(fn, fd)]) : List (Int × Int)).length + 1 ≤ 1000000000 := by simp
    have HBT := Lib.hid hR
    clear hr hR f0 f1 f2 f3 t0 t1 t2 t3
    obtain ⟨rn, rd, re⟩ := R
    unfold rve
    simp only at *
    by_cases hre : re = 0
    · subst hre
      have HAR := Lib.hid (HR4.out.alloc hz4 (.cells #[.int .i64 rn, .int .i64 rd] 25))
      have hOr2 := Lib.hid (hOr.out.below ((Below.refl _ w4).alloc (Nat.le_refl _) (.cells #[.int .i64 rn, .int .i64 rd] 25)))
      have hz5 : B0 ≤ (w4.alloc (.cells #[.int .i64 rn, .int .i64 rd] 25)).heap.size := by simp; omega
      have HSZ : Hid ((w4.alloc (.cells #[.int .i64 rn, .int .i64 rd] 25)).heap.size = w4.heap.size + 1) := Lib.hid (by simp)
      go_wp2_with (at_builtin; refine push_row rfl (.tmp 38) (.tmp 40) 36 rfl RRat 25 16 _ Try.underlying36 Try.infoRat rfl (by decide) B0 (.slice a0 n0 c0) ([] ++ [(fn, fd)]) [(rn, rd)] _ _ rfl rfl (w4.heap.size + 1) 1 HSZ.out rfl rfl hOr2.out hz5 hl4 ?_; intro a9 n9 c9 v9 hn9 hO9 hB9)
      have HK9 := Lib.hid (HA0.out.trans ((HAR.out.trans hB9.out).mono hwb))
      have HO9 := Lib.hid (hO9.out.base (B' := w.heap.size) hwb)
      clear hB9 hO9 hn9
      go_wp2
      go_ret
      exact candOut_of HBT.out (by simp [candL]) (rmakes_of HO9.out HK9.out)
    · have hb : (re == 0) = false := by simpa using hre
      have hre2 := Lib.hid hre
      have HK9 := Lib.hid (HA0.out.trans ((HR4.out.alloc hz4 (.cells #[.int .i64 rn, .int .i64 rd] 25)).mono hwb))
      have HO9 := Lib.hid ((hOr.out.below ((Below.refl _ w4).alloc (Nat.le_refl _) (.cells #[.int .i64 rn, .int .i64 rd] 25))).base (B' := w.heap.size) hwb)
      clear hre
      go_wp2
      go_ret
      exact candOut_of HBT.out (by simp [candL, hre2.out]) (rmakes_of HO9.out HK9.out)
  · go_enter Try.func68, Try.ntmps68
    go_wp2_with fail
    refine (kb.out _).mono ?_
    rintro e w1 ⟨rfl, hr⟩
    have H1 := Lib.hid (HB0.out.trans (hr.mono HB0.out.size))
    have hz1 := H1.out.size
    clear hr
    have XF0 := Lib.hid ((BoxL.made w1 #[.int .i64 fn, .int .i64 fd, .bool false] 75).under (.cells #[.int .i64 tn, .int .i64 td, .bool true] 75))
    have xt := BoxL.made (w1.alloc (.cells #[.int .i64 fn, .int .i64 fd, .bool false] 75)) #[.int .i64 tn, .int .i64 td, .bool true] 75
    rw [size_alloc] at xt
    have XT0 := Lib.hid xt
    have HA0 := Lib.hid ((H1.out.alloc hz1 (.cells #[.int .i64 fn, .int .i64 fd, .bool false] 75)).alloc (Nat.le_trans hz1 (by simp)) (.cells #[.int .i64 tn, .int .i64 td, .bool true] 75))
    have hw0 : ((w1.alloc (.cells #[.int .i64 fn, .int .i64 fd, .bool false] 75)).alloc (.cells #[.int .i64 tn, .int .i64 td, .bool true] 75)).heap.size = w1.heap.size + 1 + 1 := by simp
    have HW0 := Lib.hid hw0
    clear xt H1 hw0
    go_upto_region 3 with (fail)
    generalize (w1.alloc (.cells #[.int .i64 fn, .int .i64 fd, .bool false] 75)).alloc (.cells #[.int .i64 tn, .int .i64 td, .bool true] 75) = W0 at *
    generalize w1.heap.size = N1 at *
    generalize hB0 : W0.heap.size = B0 at *
    have hnb : N1 + 1 < B0 := by have := HW0.out; omega
    have hnb0 : N1 < B0 := by omega
    have hwb : w.heap.size ≤ B0 := by omega
    have HBZ := Lib.hid hB0
    clear hB0 hz1
    obtain ⟨f0, f1, f2, -, -, -, f3⟩ := XF0.out.open3
    obtain ⟨t0, t1, t2, -, -, -, t3⟩ := XT0.out.open3
    have HK0 : Hid (Below B0 W0 W0) := Lib.hid (Below.refl _ _)
    have hz0 : B0 ≤ W0.heap.size := by have := HK0.out.size; have := HBZ.out; omega
    have hl0 : ([] : List (Int × Int)).length + 1 ≤ 1000000000 := by simp
    go_upto_region 5 with (at_builtin; refine push_row rfl (.tmp 16) (.tmp 19) 36 rfl RRat 25 16 _ Try.underlying36 Try.infoRat rfl (by decide) B0 (.slice none 0 0) [] [(fn, fd)] _ _ rfl rfl _ 1 rfl rfl rfl (ROwn.nil RRat 25 B0 W0) hz0 hl0 ?_; intro a0 n0 c0 v0 hn0 hO0 hB0)
    have HK1 := Lib.hid (HK0.out.trans hB0.out)
    clear f0 f1 f2 f3 t0 t1 t2 t3 hB0 hz0 hl0
    obtain ⟨f0, f1, f2, -, -, -, f3⟩ := (XF0.out.keepB HK1.out hnb0).open3
    obtain ⟨t0, t1, t2, -, -, -, t3⟩ := (XT0.out.keepB HK1.out hnb).open3
    have hz1 : B0 ≤ v0.heap.size := by have := HK1.out.size; have := HBZ.out; omega
    have hl1 : (([] ++ [(fn, fd)]) : List (Int × Int)).length + 1 ≤ 1000000000 := by simp
    go_upto_region 7 with (at_builtin; refine push_row rfl (.tmp 23) (.tmp 26) 36 rfl RRat 25 16 _ Try.underlying36 Try.infoRat rfl (by decide) B0 (.slice a0 n0 c0) ([] ++ [(fn, fd)]) [(tn, td)] _ _ rfl rfl _ 1 rfl rfl rfl hO0.out hz1 hl1 ?_; intro a1 n1 c1 v1 hn1 hO1 hB1)
    have HK2 := Lib.hid (HK1.out.trans hB1.out)
    clear f0 f1 f2 f3 t0 t1 t2 t3 hB1 hz1 hl1
    obtain ⟨f0, f1, f2, -, -, -, f3⟩ := (XF0.out.keepB HK2.out hnb0).open3
    obtain ⟨t0, t1, t2, -, -, -, t3⟩ := (XT0.out.keepB HK2.out hnb).open3
    go_wp2_with fail
    refine (kr.out _).mono ?_
    rintro e w4 ⟨R, hR, rfl, hr⟩
    have hOr := Lib.hid ((show ROwn RRat 25 B0 v1 (.slice a1 n1 c1) (([] ++ [(fn, fd)]) ++ [(tn, td)]) from hO1.out).below hr)
    have HR4 := Lib.hid (HK2.out.trans (hr.mono (by have := HK2.out.size; have := HBZ.out; omega)))
    have hz4 : B0 ≤ w4.heap.size := by have := HR4.out.size; have := HBZ.out; omega
    have hl4 : ((([] ++ [(fn, fd)]) ++ [(tn, td)]) : List (Int × Int)).length + 1 ≤ 1000000000 := by simp
    have HBT := Lib.hid hR
    clear hr hR f0 f1 f2 f3 t0 t1 t2 t3
    obtain ⟨rn, rd, re⟩ := R
    unfold rve
    simp only at *
    by_cases hre : re = 0
    · subst hre
      have HAR := Lib.hid (HR4.out.alloc hz4 (.cells #[.int .i64 rn, .int .i64 rd] 25))
      have hOr2 := Lib.hid (hOr.out.below ((Below.refl _ w4).alloc (Nat.le_refl _) (.cells #[.int .i64 rn, .int .i64 rd] 25)))
      have hz5 : B0 ≤ (w4.alloc (.cells #[.int .i64 rn, .int .i64 rd] 25)).heap.size := by simp; omega
      have HSZ : Hid ((w4.alloc (.cells #[.int .i64 rn, .int .i64 rd] 25)).heap.size = w4.heap.size + 1) := Lib.hid (by simp)
      go_wp2_with (at_builtin; refine push_row rfl (.tmp 38) (.tmp 40) 36 rfl RRat 25 16 _ Try.underlying36 Try.infoRat rfl (by decide) B0 (.slice a1 n1 c1) (([] ++ [(fn, fd)]) ++ [(tn, td)]) [(rn, rd)] _ _ rfl rfl (w4.heap.size + 1) 1 HSZ.out rfl rfl hOr2.out hz5 hl4 ?_; intro a9 n9 c9 v9 hn9 hO9 hB9)
      have HK9 := Lib.hid (HA0.out.trans ((HAR.out.trans hB9.out).mono hwb))
      have HO9 := Lib.hid (hO9.out.base (B' := w.heap.size) hwb)
      clear hB9 hO9 hn9
      go_wp2
      go_ret
      exact candOut_of HBT.out (by simp [candL]) (rmakes_of HO9.out HK9.out)
    · have hb : (re == 0) = false := by simpa using hre
      have hre2 := Lib.hid hre
      have HK9 := Lib.hid (HA0.out.trans ((HR4.out.alloc hz4 (.cells #[.int .i64 rn, .int .i64 rd] 25)).mono hwb))
      have HO9 := Lib.hid ((hOr.out.below ((Below.refl _ w4).alloc (Nat.le_refl _) (.cells #[.int .i64 rn, .int .i64 rd] 25))).base (B' := w.heap.size) hwb)
      clear hre
      go_wp2
      go_ret
      exact candOut_of HBT.out (by simp [candL, hre2.out]) (rmakes_of HO9.out HK9.out)
  · go_enter Try.func68, Try.ntmps68
    go_wp2_with fail
    refine (kb.out _).mono ?_
    rintro e w1 ⟨rfl, hr⟩
    have H1 := Lib.hid (HB0.out.trans (hr.mono HB0.out.size))
    have hz1 := H1.out.size
    clear hr
    have XF0 := Lib.hid ((BoxL.made w1 #[.int .i64 fn, .int .i64 fd, .bool true] 75).under (.cells #[.int .i64 tn, .int .i64 td, .bool false] 75))
    have xt := BoxL.made (w1.alloc (.cells #[.int .i64 fn, .int .i64 fd, .bool true] 75)) #[.int .i64 tn, .int .i64 td, .bool false] 75
    rw [size_alloc] at xt
    have XT0 := Lib.hid xt
    have HA0 := Lib.hid ((H1.out.alloc hz1 (.cells #[.int .i64 fn, .int .i64 fd, .bool true] 75)).alloc (Nat.le_trans hz1 (by simp)) (.cells #[.int .i64 tn, .int .i64 td, .bool false] 75))
    have hw0 : ((w1.alloc (.cells #[.int .i64 fn, .int .i64 fd, .bool true] 75)).alloc (.cells #[.int .i64 tn, .int .i64 td, .bool false] 75)).heap.size = w1.heap.size + 1 + 1 := by simp
    have HW0 := Lib.hid hw0
    clear xt H1 hw0
    go_upto_region 3 with (fail)
    generalize (w1.alloc (.cells #[.int .i64 fn, .int .i64 fd, .bool true] 75)).alloc (.cells #[.int .i64 tn, .int .i64 td, .bool false] 75) = W0 at *
    generalize w1.heap.size = N1 at *
    generalize hB0 : W0.heap.size = B0 at *
    have hnb : N1 + 1 < B0 := by have := HW0.out; omega
    have hnb0 : N1 < B0 := by omega
    have hwb : w.heap.size ≤ B0 := by omega
    have HBZ := Lib.hid hB0
    clear hB0 hz1
    obtain ⟨f0, f1, f2, -, -, -, f3⟩ := XF0.out.open3
    obtain ⟨t0, t1, t2, -, -, -, t3⟩ := XT0.out.open3
    have HK0 : Hid (Below B0 W0 W0) := Lib.hid (Below.refl _ _)
    go_wp2_with fail
    refine (kr.out _).mono ?_
    rintro e w4 ⟨R, hR, rfl, hr⟩
    have hOr := Lib.hid ((show ROwn RRat 25 B0 W0 (.slice none 0 0) [] from (ROwn.nil RRat 25 B0 W0)).below hr)
    have HR4 := Lib.hid (HK0.out.trans (hr.mono (by have := HK0.out.size; have := HBZ.out; omega)))
    have hz4 : B0 ≤ w4.heap.size := by have := HR4.out.size; have := HBZ.out; omega
    have hl4 : ([] : List (Int × Int)).length + 1 ≤ 1000000000 := by simp
    have HBT := Lib.hid hR
    clear hr hR f0 f1 f2 f3 t0 t1 t2 t3
    obtain ⟨rn, rd, re⟩ := R
    unfold rve
    simp only at *
    by_cases hre : re = 0
    · subst hre
      have HAR := Lib.hid (HR4.out.alloc hz4 (.cells #[.int .i64 rn, .int .i64 rd] 25))
      have hOr2 := Lib.hid (hOr.out.below ((Below.refl _ w4).alloc (Nat.le_refl _) (.cells #[.int .i64 rn, .int .i64 rd] 25)))
      have hz5 : B0 ≤ (w4.alloc (.cells #[.int .i64 rn, .int .i64 rd] 25)).heap.size := by simp; omega
      have HSZ : Hid ((w4.alloc (.cells #[.int .i64 rn, .int .i64 rd] 25)).heap.size = w4.heap.size + 1) := Lib.hid (by simp)
      go_wp2_with (at_builtin; refine push_row rfl (.tmp 38) (.tmp 40) 36 rfl RRat 25 16 _ Try.underlying36 Try.infoRat rfl (by decide) B0 (.slice none 0 0) [] [(rn, rd)] _ _ rfl rfl (w4.heap.size + 1) 1 HSZ.out rfl rfl hOr2.out hz5 hl4 ?_; intro a9 n9 c9 v9 hn9 hO9 hB9)
      have HK9 := Lib.hid (HA0.out.trans ((HAR.out.trans hB9.out).mono hwb))
      have HO9 := Lib.hid (hO9.out.base (B' := w.heap.size) hwb)
      clear hB9 hO9 hn9
      go_wp2
      go_ret
      exact candOut_of HBT.out (by simp [candL]) (rmakes_of HO9.out HK9.out)
    · have hb : (re == 0) = false := by simpa using hre
      have hre2 := Lib.hid hre
      have HK9 := Lib.hid (HA0.out.trans ((HR4.out.alloc hz4 (.cells #[.int .i64 rn, .int .i64 rd] 25)).mono hwb))
      have HO9 := Lib.hid ((hOr.out.below ((Below.refl _ w4).alloc (Nat.le_refl _) (.cells #[.int .i64 rn, .int .i64 rd] 25))).base (B' := w.heap.size) hwb)
      clear hre
      go_wp2
      go_ret
      exact candOut_of HBT.out (by simp [candL, hre2.out]) (rmakes_of HO9.out HK9.out)
  · go_enter Try.func68, Try.ntmps68
    go_wp2_with fail
    refine (kb.out _).mono ?_
    rintro e w1 ⟨rfl, hr⟩
    have H1 := Lib.hid (HB0.out.trans (hr.mono HB0.out.size))
    have hz1 := H1.out.size
    clear hr
    have XF0 := Lib.hid ((BoxL.made w1 #[.int .i64 fn, .int .i64 fd, .bool true] 75).under (.cells #[.int .i64 tn, .int .i64 td, .bool true] 75))
    have xt := BoxL.made (w1.alloc (.cells #[.int .i64 fn, .int .i64 fd, .bool true] 75)) #[.int .i64 tn, .int .i64 td, .bool true] 75
    rw [size_alloc] at xt
    have XT0 := Lib.hid xt
    have HA0 := Lib.hid ((H1.out.alloc hz1 (.cells #[.int .i64 fn, .int .i64 fd, .bool true] 75)).alloc (Nat.le_trans hz1 (by simp)) (.cells #[.int .i64 tn, .int .i64 td, .bool true] 75))
    have hw0 : ((w1.alloc (.cells #[.int .i64 fn, .int .i64 fd, .bool true] 75)).alloc (.cells #[.int .i64 tn, .int .i64 td, .bool true] 75)).heap.size = w1.heap.size + 1 + 1 := by simp
    have HW0 := Lib.hid hw0
    clear xt H1 hw0
    go_upto_region 3 with (fail)
    generalize (w1.alloc (.cells #[.int .i64 fn, .int .i64 fd, .bool true] 75)).alloc (.cells #[.int .i64 tn, .int .i64 td, .bool true] 75) = W0 at *
    generalize w1.heap.size = N1 at *
    generalize hB0 : W0.heap.size = B0 at *
    have hnb : N1 + 1 < B0 := by have := HW0.out; omega
    have hnb0 : N1 < B0 := by omega
    have hwb : w.heap.size ≤ B0 := by omega
    have HBZ := Lib.hid hB0
    clear hB0 hz1
    obtain ⟨f0, f1, f2, -, -, -, f3⟩ := XF0.out.open3
    obtain ⟨t0, t1, t2, -, -, -, t3⟩ := XT0.out.open3
    have HK0 : Hid (Below B0 W0 W0) := Lib.hid (Below.refl _ _)
    have hz0 : B0 ≤ W0.heap.size := by have := HK0.out.size; have := HBZ.out; omega
    have hl0 : ([] : List (Int × Int)).length + 1 ≤ 1000000000 := by simp
    go_upto_region 7 with (at_builtin; refine push_row rfl (.tmp 23) (.tmp 26) 36 rfl RRat 25 16 _ Try.underlying36 Try.infoRat rfl (by decide) B0 (.slice none 0 0) [] [(tn, td)] _ _ rfl rfl _ 1 rfl rfl rfl (ROwn.nil RRat 25 B0 W0) hz0 hl0 ?_; intro a0 n0 c0 v0 hn0 hO0 hB0)
    have HK1 := Lib.hid (HK0.out.trans hB0.out)
    clear f0 f1 f2 f3 t0 t1 t2 t3 hB0 hz0 hl0
    obtain ⟨f0, f1, f2, -, -, -, f3⟩ := (XF0.out.keepB HK1.out hnb0).open3
    obtain ⟨t0, t1, t2, -, -, -, t3⟩ := (XT0.out.keepB HK1.out hnb).open3
    go_wp2_with fail
    refine (kr.out _).mono ?_
    rintro e w4 ⟨R, hR, rfl, hr⟩
    have hOr := Lib.hid ((show ROwn RRat 25 B0 v0 (.slice a0 n0 c0) ([] ++ [(tn, td)]) from hO0.out).below hr)
    have HR4 := Lib.hid (HK1.out.trans (hr.mono (by have := HK1.out.size; have := HBZ.out; omega)))
    have hz4 : B0 ≤ w4.heap.size := by have := HR4.out.size; have := HBZ.out; omega
    have hl4 : (([] ++ [(tn, td)]) : List (Int × Int)).length + 1 ≤ 1000000000 := by simp
    have HBT := Lib.hid hR
    clear hr hR f0 f1 f2 f3 t0 t1 t2 t3
    obtain ⟨rn, rd, re⟩ := R
    unfold rve
    simp only at *
    by_cases hre : re = 0
    · subst hre
      have HAR := Lib.hid (HR4.out.alloc hz4 (.cells #[.int .i64 rn, .int .i64 rd] 25))
      have hOr2 := Lib.hid (hOr.out.below ((Below.refl _ w4).alloc (Nat.le_refl _) (.cells #[.int .i64 rn, .int .i64 rd] 25)))
      have hz5 : B0 ≤ (w4.alloc (.cells #[.int .i64 rn, .int .i64 rd] 25)).heap.size := by simp; omega
      have HSZ : Hid ((w4.alloc (.cells #[.int .i64 rn, .int .i64 rd] 25)).heap.size = w4.heap.size + 1) := Lib.hid (by simp)
      go_wp2_with (at_builtin; refine push_row rfl (.tmp 38) (.tmp 40) 36 rfl RRat 25 16 _ Try.underlying36 Try.infoRat rfl (by decide) B0 (.slice a0 n0 c0) ([] ++ [(tn, td)]) [(rn, rd)] _ _ rfl rfl (w4.heap.size + 1) 1 HSZ.out rfl rfl hOr2.out hz5 hl4 ?_; intro a9 n9 c9 v9 hn9 hO9 hB9)
      have HK9 := Lib.hid (HA0.out.trans ((HAR.out.trans hB9.out).mono hwb))
      have HO9 := Lib.hid (hO9.out.base (B' := w.heap.size) hwb)
      clear hB9 hO9 hn9
      go_wp2
      go_ret
      exact candOut_of HBT.out (by simp [candL]) (rmakes_of HO9.out HK9.out)
    · have hb : (re == 0) = false := by simpa using hre
      have hre2 := Lib.hid hre
      have HK9 := Lib.hid (HA0.out.trans ((HR4.out.alloc hz4 (.cells #[.int .i64 rn, .int .i64 rd] 25)).mono hwb))
      have HO9 := Lib.hid ((hOr.out.below ((Below.refl _ w4).alloc (Nat.le_refl _) (.cells #[.int .i64 rn, .int .i64 rd] 25))).base (B' := w.heap.size) hwb)
      clear hre
      go_wp2
      go_ret
      exact candOut_of HBT.out (by simp [candL, hre2.out]) (rmakes_of HO9.out HK9.out)

end Go.Proofs.Ytimbgjpjgbjnkaa

/- Mathematics of the simplest number of a set. -/
namespace Go.Proofs.Ytimbgjpjgbjnkaa
open Go.RowKit Go.Shelf

/-- A number of an interval that fits. -/
def InI (x : Iv) (p : Int × Int) : Prop := Qm.Ok p.1 p.2 ∧ x.from.key ≤ 2 * kP p ∧ 2 * kP p + 1 ≤ x.to.key

/-- Not less simple. -/
def SmpLe (p q : Int × Int) : Prop := p.2 < q.2 ∨ (p.2 = q.2 ∧ (absZ p.1 < absZ q.1 ∨ (absZ p.1 = absZ q.1 ∧ q.1 ≤ p.1)))

theorem cmp3_cases (x y : Int) : (x < y ∧ cmp3 x y = -1) ∨ (x = y ∧ cmp3 x y = 0) ∨ (y < x ∧ cmp3 x y = 1) := by
  unfold cmp3
  rcases Int.lt_trichotomy x y with h | h | h
  · exact .inl ⟨h, if_pos h⟩
  · exact .inr (.inl ⟨h, by rw [if_neg (by omega), if_neg (by omega)]⟩)
  · exact .inr (.inr ⟨h, by rw [if_neg (by omega), if_pos h]⟩)

theorem smpC_neg (p q : Int × Int) : smpC p q < 0 ↔ ¬ SmpLe q p := by
  unfold smpC SmpLe firstNZ firstNZ firstNZ firstNZ
  rcases cmp3_cases p.2 q.2 with ⟨h1, e1⟩ | ⟨h1, e1⟩ | ⟨h1, e1⟩
  · rw [e1, if_neg (by decide)]
    exact ⟨fun _ => by omega, fun _ => by decide⟩
  · rw [e1, if_pos rfl]
    rcases cmp3_cases (absZ p.1) (absZ q.1) with ⟨h2, e2⟩ | ⟨h2, e2⟩ | ⟨h2, e2⟩
    · rw [e2, if_neg (by decide)]
      exact ⟨fun _ => by omega, fun _ => by decide⟩
    · rw [e2, if_pos rfl]
      rcases cmp3_cases q.1 p.1 with ⟨h3, e3⟩ | ⟨h3, e3⟩ | ⟨h3, e3⟩
      · rw [e3, if_neg (by decide)]
        exact ⟨fun _ => by omega, fun _ => by decide⟩
      · rw [e3, if_pos rfl]
        exact ⟨fun h => by omega, fun h => absurd h (by omega)⟩
      · rw [e3, if_neg (by decide)]
        exact ⟨fun h => by omega, fun h => absurd h (by omega)⟩
    · rw [e2, if_neg (by decide)]
      exact ⟨fun h => by omega, fun h => absurd h (by omega)⟩
  · rw [e1, if_neg (by decide)]
    exact ⟨fun h => by omega, fun h => absurd h (by omega)⟩

theorem SmpLe.refl (p : Int × Int) : SmpLe p p := .inr ⟨rfl, .inr ⟨rfl, Int.le_refl _⟩⟩
theorem SmpLe.trans {p q r : Int × Int} (h : SmpLe p q) (k : SmpLe q r) : SmpLe p r := by unfold SmpLe at *; omega
theorem SmpLe.anti {p q : Int × Int} (h : SmpLe p q) (k : SmpLe q p) : p = q := by
  have : p.1 = q.1 ∧ p.2 = q.2 := by unfold SmpLe at *; omega
  exact Prod.ext this.1 this.2
theorem SmpLe.total {p q : Int × Int} (h : ¬ SmpLe q p) : SmpLe p q := by unfold SmpLe at *; omega

theorem minP_le (m : Int × Int) (l : List (Int × Int)) : ∀ p ∈ m :: l, SmpLe (minP m l) p := by
  induction l generalizing m with
  | nil => intro p hp; rw [List.mem_singleton.1 hp]; exact SmpLe.refl _
  | cons q r ih =>
    intro p hp
    have h1 := ih (if smpC q m < 0 then q else m)
    show SmpLe (minP (if smpC q m < 0 then q else m) r) p
    have h2 := h1 _ (List.mem_cons_self ..)
    by_cases hq : smpC q m < 0
    · rw [if_pos hq] at h1 h2 ⊢
      rcases List.mem_cons.1 hp with rfl | hp
      · exact h2.trans (SmpLe.total ((smpC_neg _ _).1 hq))
      · exact h1 p hp
    · rw [if_neg hq] at h1 h2 ⊢
      rcases List.mem_cons.1 hp with rfl | hp
      · exact h2
      · rcases List.mem_cons.1 hp with rfl | hp
        · have : SmpLe m p := Classical.byContradiction fun hh => hq ((smpC_neg _ _).2 hh)
          exact h2.trans this
        · exact h1 p (List.mem_cons_of_mem _ hp)

theorem abs_neg {n : Int} (h : n ≤ 0) : absZ n = -n := by unfold absZ; omega
theorem abs_pos {n : Int} (h : 0 ≤ n) : absZ n = n := by unfold absZ; omega

/-- What Between returns is as simple as what lies between. -/
theorem btw_simp {a b c d : Int} {R : Int × Int × Int} (h : Qm.Btw a b c d R) (o : Qm.Ok a b) (o' : Qm.Ok c d) {q : Int × Int} (hq : Qm.Ok q.1 q.2) (h1 : a * q.2 < q.1 * b) (h2 : q.1 * d < c * q.2) :
    R.2.2 = 0 ∧ SmpLe (R.1, R.2.1) q := by
  have hb := o.1
  have hd := o'.1
  have hq1 := hq.1
  rcases h with ⟨e, _⟩ | ⟨_, e, _⟩ | ⟨_, hlt, e⟩
  · have := Qm.bothI_ok.2 ⟨o, o'⟩
    omega
  · exfalso
    apply e
    have e1 : a * q.2 * d < q.1 * b * d := Int.mul_lt_mul_of_pos_right h1 (by omega)
    have e2 : q.1 * d * b < c * q.2 * b := Int.mul_lt_mul_of_pos_right h2 (by omega)
    have e3 : a * d * q.2 < c * b * q.2 := by
      have x1 : a * q.2 * d = a * d * q.2 := by rw [Int.mul_right_comm]
      have x2 : q.1 * b * d = q.1 * d * b := by rw [Int.mul_right_comm]
      have x3 : c * q.2 * b = c * b * q.2 := by rw [Int.mul_right_comm]
      omega
    exact Int.lt_of_mul_lt_mul_right e3 (by omega)
  · rcases e with ⟨_, _, rfl⟩ | ⟨ha, p', q', hs, rfl⟩ | ⟨ha, hc, p', q', hs, rfl⟩
    · refine ⟨rfl, ?_⟩
      unfold SmpLe
      simp only
      rw [abs_pos (Int.le_refl 0)]
      have : 0 ≤ absZ q.1 := by unfold absZ; omega
      by_cases e : q.2 = 1
      · refine .inr ⟨e.symm, ?_⟩
        by_cases e2 : absZ q.1 = 0
        · refine .inr ⟨e2.symm, ?_⟩
          unfold absZ at e2
          omega
        · exact .inl (by omega)
      · exact .inl (by omega)
    · have hs' := hs
      obtain ⟨hq0, _, _, hmin⟩ := hs
      have hm := hmin q.1 q.2 (by omega) h1 h2
      have hp0 := hs'.pos ha hb
      have hlow := hs'.low
      have hoo : Qm.Ok p' q' := ⟨by omega, by have := hq.2.1; omega, by omega, by have := hq.2.2.2.1; omega, hlow⟩
      rw [Qm.ofR_ok hoo]
      refine ⟨rfl, ?_⟩
      unfold SmpLe
      simp only
      rw [abs_pos (by omega), abs_pos (show 0 ≤ q.1 by omega)]
      omega
    · have hs' := hs
      obtain ⟨hq0, _, _, hmin⟩ := hs
      have hm := hmin (-q.1) q.2 (by omega) (by rw [Int.neg_mul, Int.neg_mul]; omega) (by rw [Int.neg_mul, Int.neg_mul]; omega)
      have hp0 := hs'.pos (by omega) hd
      have hlow := hs'.low
      have hoo : Qm.Ok (-p') q' := ⟨by omega, by have := hq.2.1; omega, by have := hq.2.2.1; omega, by omega, by unfold Qm.g at *; rw [Int.neg_gcd]; exact hlow⟩
      rw [Qm.ofR_ok hoo]
      refine ⟨rfl, ?_⟩
      unfold SmpLe
      simp only
      rw [abs_neg (show -p' ≤ 0 by omega), abs_neg (show q.1 ≤ 0 by omega)]
      omega

/-- What Between returns lies between. -/
theorem btw_in {a b c d : Int} {R : Int × Int × Int} (h : Qm.Btw a b c d R) (o : Qm.Ok a b) (o' : Qm.Ok c d) (hR : R.2.2 = 0) : Qm.Ok R.1 R.2.1 ∧ a * R.2.1 < R.1 * b ∧ R.1 * d < c * R.2.1 := by
  have hb := o.1
  have hd := o'.1
  rcases h with ⟨_, rfl⟩ | ⟨_, _, rfl⟩ | ⟨_, hlt, e⟩
  · simp at hR
  · simp at hR
  · rcases e with ⟨ha, hc, rfl⟩ | ⟨ha, p, q, hs, rfl⟩ | ⟨ha, hc, p, q, hs, rfl⟩
    · exact ⟨⟨by decide, by decide, by decide, by decide, by decide⟩, by simp; omega, by simp; omega⟩
    · have hq := hs.1
      rw [Qm.ofR_lowest (by omega) hs.low] at hR ⊢
      split at hR
      · simp at hR
      · next hn =>
        rw [if_neg hn]
        show Qm.Ok p q ∧ a * q < p * b ∧ p * d < c * q
        exact ⟨⟨hq, by omega, by omega, by omega, hs.low⟩, hs.2.1, hs.2.2.1⟩
    · have hq := hs.1
      have hg : Qm.g (-p) q = 1 := by have := hs.low; unfold Qm.g at *; rw [Int.neg_gcd]; exact this
      rw [Qm.ofR_lowest (by omega) hg] at hR ⊢
      split at hR
      · simp at hR
      · next hn =>
        rw [if_neg hn]
        show Qm.Ok (-p) q ∧ a * q < -p * b ∧ -p * d < c * q
        have h1 := hs.2.1
        have h2 := hs.2.2.1
        rw [Int.neg_mul] at h1 h2
        refine ⟨⟨hq, by omega, by omega, by omega, hg⟩, ?_, ?_⟩
        · show a * q < -p * b
          rw [Int.neg_mul]
          omega
        · show -p * d < c * q
          rw [Int.neg_mul]
          omega

theorem key_split (c : Cut) : c.key = 2 * kP (c.n, c.d) + if c.a then 1 else 0 := rfl

theorem cand_mem {x : Iv} (hx : x.good = true) {R : Int × Int × Int} (h : Qm.Btw x.from.n x.from.d x.to.n x.to.d R) : ∀ p ∈ candL x.from x.to R, InI x p := by
  obtain ⟨o1, o2, hk⟩ := good_parts hx
  have k1 := key_split x.from
  have k2 := key_split x.to
  intro p hp
  unfold candL at hp
  rcases List.mem_append.1 hp with hp | hp
  · cases ha : x.from.a
    · rw [ha] at hp k1
      simp at hp k1
      subst hp
      exact ⟨o1, by omega, by omega⟩
    · rw [ha] at hp
      simp at hp
  · rcases List.mem_append.1 hp with hp | hp
    · cases ha : x.to.a
      · rw [ha] at hp
        simp at hp
      · rw [ha] at hp k2
        simp at hp k2
        subst hp
        exact ⟨o2, by omega, by omega⟩
    · by_cases hR : R.2.2 = 0
      · rw [if_pos hR] at hp
        simp at hp
        subst hp
        obtain ⟨o, h1, h2⟩ := btw_in h o1 o2 hR
        have l1 : kP (x.from.n, x.from.d) < kP (R.1, R.2.1) := (kR_lt o1.1 o1.2.1 o.1 o.2.1).2 h1
        have l2 : kP (R.1, R.2.1) < kP (x.to.n, x.to.d) := (kR_lt o.1 o.2.1 o2.1 o2.2.1).2 h2
        refine ⟨o, ?_, ?_⟩
        · rw [k1]; split <;> omega
        · rw [k2]; split <;> omega
      · rw [if_neg hR] at hp
        simp at hp

theorem cand_min {x : Iv} (hx : x.good = true) {R : Int × Int × Int} (h : Qm.Btw x.from.n x.from.d x.to.n x.to.d R) (q : Int × Int) (hq : InI x q) : ∃ p ∈ candL x.from x.to R, SmpLe p q := by
  obtain ⟨o1, o2, hk⟩ := good_parts hx
  have k1 := key_split x.from
  have k2 := key_split x.to
  obtain ⟨o, h1, h2⟩ := hq
  by_cases e1 : x.from.a = false ∧ kP (x.from.n, x.from.d) = kP q
  · have := (kR_eq o1 o).1 e1.2
    refine ⟨(x.from.n, x.from.d), ?_, ?_⟩
    · unfold candL
      rw [e1.1]
      simp
    · rw [show (x.from.n, x.from.d) = q from Prod.ext this.1 this.2]
      exact SmpLe.refl q
  · by_cases e2 : x.to.a = true ∧ kP (x.to.n, x.to.d) = kP q
    · have := (kR_eq o2 o).1 e2.2
      refine ⟨(x.to.n, x.to.d), ?_, ?_⟩
      · unfold candL
        rw [e2.1]
        simp
      · rw [show (x.to.n, x.to.d) = q from Prod.ext this.1 this.2]
        exact SmpLe.refl q
    · have l1 : kP (x.from.n, x.from.d) < kP q := by
        cases ha : x.from.a
        · rw [ha] at k1 e1
          simp at k1 e1
          omega
        · rw [ha] at k1
          simp at k1
          omega
      have l2 : kP q < kP (x.to.n, x.to.d) := by
        cases ha : x.to.a
        · rw [ha] at k2
          simp at k2
          omega
        · rw [ha] at k2 e2
          simp at k2 e2
          omega
      obtain ⟨hR, hs⟩ := btw_simp h o1 o2 o ((kR_lt o1.1 o1.2.1 o.1 o.2.1).1 l1) ((kR_lt o.1 o.2.1 o2.1 o2.2.1).1 l2)
      refine ⟨(R.1, R.2.1), ?_, hs⟩
      unfold candL
      rw [if_pos hR]
      simp

theorem cand_ne {x : Iv} (hx : x.good = true) {R : Int × Int × Int} (h : Qm.Btw x.from.n x.from.d x.to.n x.to.d R) : candL x.from x.to R ≠ [] := by
  intro hn
  have hfa : x.from.a = true := by
    cases ha : x.from.a
    · unfold candL at hn; rw [ha] at hn; simp at hn
    · rfl
  have hta : x.to.a = false := by
    cases ha : x.to.a
    · rfl
    · unfold candL at hn; rw [ha] at hn; simp at hn
  have hR : R.2.2 ≠ 0 := fun hR => by unfold candL at hn; rw [if_pos hR] at hn; simp at hn
  obtain ⟨o1, o2, hk⟩ := good_parts hx
  have s1 : SmallR x.from.n x.from.d := by
    rcases (good_lo hx) with ⟨_, e⟩ | ⟨_, s, e⟩
    · rw [e] at hfa; cases hfa
    · rw [e]; exact s
  have s2 : SmallR x.to.n x.to.d := by
    rcases (good_hi hx) with ⟨_, e⟩ | ⟨_, s, e⟩
    · rw [e] at hta; cases hta
    · rw [e]; exact s
  rw [key_split, key_split, hfa, hta] at hk
  simp at hk
  have hlt : x.from.n * x.to.d < x.to.n * x.from.d := (kR_lt o1.1 o1.2.1 o2.1 o2.2.1).1 (by show kP (x.from.n, x.from.d) < kP (x.to.n, x.to.d); omega)
  have b1 := s1.2
  have b2 := s2.2
  rcases h with ⟨e, _⟩ | ⟨_, e, _⟩ | ⟨_, _, e⟩
  · have := Qm.bothI_ok.2 ⟨o1, o2⟩
    omega
  · exact e hlt
  · rcases e with ⟨_, _, rfl⟩ | ⟨ha, p, q, hs, rfl⟩ | ⟨ha, hc, p, q, hs, rfl⟩
    · exact hR rfl
    · have hl := hs.le o1.1 o2.1 hlt
      have hp := hs.pos ha o1.1
      apply hR
      rw [Qm.ofR_ok ⟨hs.1, by omega, by omega, by omega, hs.low⟩]
    · have hl := hs.le o2.1 o1.1 (by rw [Int.neg_mul, Int.neg_mul]; omega)
      have hp := hs.pos (by omega) o2.1
      have hg : Qm.g (-p) q = 1 := by have := hs.low; unfold Qm.g at *; rw [Int.neg_gcd]; exact this
      apply hR
      rw [Qm.ofR_ok ⟨hs.1, by omega, by omega, by omega, hg⟩]

/-- The simplest number of a list of intervals. -/
def IsPick (xs : List Iv) (r : Int × Int) : Prop := (∃ x ∈ xs, InI x r) ∧ ∀ q, (∃ x ∈ xs, InI x q) → SmpLe r q

theorem IsPick.one {xs : List Iv} {r s : Int × Int} (h : IsPick xs r) (k : IsPick xs s) : r = s := (h.2 s k.1).anti (k.2 r h.1)

/-- Candidates of the first intervals. -/
def CandAll (xs : List Iv) (L : List (Int × Int)) : Prop := (∀ p ∈ L, ∃ x ∈ xs, InI x p) ∧ (∀ q, (∃ x ∈ xs, InI x q) → ∃ p ∈ L, SmpLe p q) ∧ (xs ≠ [] → L ≠ [])

theorem CandAll.nil : CandAll [] [] := ⟨fun p hp => (by cases hp), fun q ⟨x, hx, _⟩ => (by cases hx), fun h => absurd rfl h⟩

theorem CandAll.snoc {xs : List Iv} {L : List (Int × Int)} {x : Iv} {R : Int × Int × Int} (h : CandAll xs L) (hx : x.good = true) (hR : Qm.Btw x.from.n x.from.d x.to.n x.to.d R) : CandAll (xs ++ [x]) (L ++ candL x.from x.to R) := by
  refine ⟨fun p hp => ?_, fun q hq => ?_, fun _ hn => ?_⟩
  · rcases List.mem_append.1 hp with hp | hp
    · obtain ⟨y, hy, h1⟩ := h.1 p hp
      exact ⟨y, List.mem_append_left _ hy, h1⟩
    · exact ⟨x, by simp, cand_mem hx hR p hp⟩
  · obtain ⟨y, hy, h1⟩ := hq
    rcases List.mem_append.1 hy with hy | hy
    · obtain ⟨p, hp, h2⟩ := h.2.1 q ⟨y, hy, h1⟩
      exact ⟨p, List.mem_append_left _ hp, h2⟩
    · rw [List.mem_singleton.1 hy] at h1
      obtain ⟨p, hp, h2⟩ := cand_min hx hR q h1
      exact ⟨p, List.mem_append_right _ hp, h2⟩
  · exact cand_ne hx hR (List.append_eq_nil_iff.1 hn).2

theorem CandAll.pick {xs : List Iv} {p0 : Int × Int} {L : List (Int × Int)} (h : CandAll xs (p0 :: L)) : IsPick xs (minP p0 L) := by
  have hm : minP p0 L ∈ p0 :: L := by
    rcases minP_mem p0 L with e | e
    · rw [e]; exact List.mem_cons_self ..
    · exact List.mem_cons_of_mem _ e
  refine ⟨h.1 _ hm, fun q hq => ?_⟩
  obtain ⟨p, hp, h2⟩ := h.2.1 q hq
  exact (minP_le p0 L p hp).trans h2

end Go.Proofs.Ytimbgjpjgbjnkaa

