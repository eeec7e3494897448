/- The law SpanNormal. -/
import Derived.Test.YtimbgjpjgbjnkaaGd
import Derived.Test.YtimbgjpjgbjnkaaNew6
namespace Go.Proofs.Ytimbgjpjgbjnkaa
open Go.RowKit Go.Shelf

set_option maxHeartbeats 16000000 in
set_option maxRecDepth 100000 in
theorem law_normal (a0 : Option Addr) (len0 cap0 : Nat) (z0 : List Int) (a1 a2 a3 a4 a5 : Int) (w : World) (w0 : Came .i64 w a0 len0 cap0 z0) (w1 : (Lit.int .i64 a1).wf = true) (w2 : (Lit.int .i64 a2).wf = true) (w3 : (Lit.int .i64 a3).wf = true) (w4 : (Lit.int .i64 a4).wf = true) (w5 : (Lit.int .i64 a5).wf = true) :
    Calls Try.prog 3 #[.slice a0 len0 cap0, .int .i64 a1, .int .i64 a2, .int .i64 a3, .int .i64 a4, .int .i64 a5] w fun e w' => e = .returned (.bool true) ∧ Below w.heap.size w w' := by
  have hE0 := w0.els
  have hZ0 := came_wfs4 w0
  have HE := Lib.hid hE0
  have HN := Lib.hid hE0.len
  have HZ := Lib.hid hZ0
  have KS := Lib.hid fun W (hB : Below w.heap.size w W) => set_any a0 len0 cap0 (z0.take len0) 7 W (hE0.below hB) hZ0 (by decide)
  have KI := Lib.hid fun (p q : Int) (hp : (Lit.int .i64 p).wf = true) (hq : (Lit.int .i64 q).wf = true) W => interval04_any p q W hp hq
  obtain ⟨m, hm⟩ : ∃ m : Nat, aroundI a3 5 = (m : Int) := ⟨(aroundI a3 5).toNat, by have := aroundI_range a3 5 (by decide); omega⟩
  have hm5 : m < 5 := by have := aroundI_range a3 5 (by decide); omega
  have KA := Lib.hid fun W => around_any a3 5 W (by decide) (by decide) w3
  rw [hm] at KA
  have hqr := boundI_range a3 50 (by decide)
  have KB := Lib.hid fun W => bound_any a3 50 W (by decide) (by decide) w3
  generalize boundI a3 50 = q at *
  have hqr2 := boundI_range a2 20 (by decide)
  have KB2 := Lib.hid fun W => bound_any a2 20 W (by decide) (by decide) w2
  generalize boundI a2 20 = q2 at *
  have hqr3 := boundI_range a4 25 (by decide)
  have KB3 := Lib.hid fun W => bound_any a4 25 W (by decide) (by decide) w4
  generalize boundI a4 25 = q3 at *
  have KW := Lib.hid fun W => whole_any q3 W
  have KR := Lib.hid fun W => ratio_any a4 a5 W w4 w5
  have KSP := Lib.hid fun (sv : Value) (L : List Iv) W (h : REls RIv W sv L) (hwf : ∀ x ∈ L, x.wf) (hl : L.length ≤ 100) => spoilt_any sv L a1 a2 W h hwf (by omega) w1 w2
  have KSQ := Lib.hid fun (sv : Value) (L : List Iv) W (h : REls RIv W sv L) (hwf : ∀ x ∈ L, x.wf) (hl : L.length ≤ 100) => spoilt_any sv L a1 q2 W h hwf (by omega) w1 (by simp [Lit.wf, IntKind.min, IntKind.max, IntKind.signed, IntKind.bits]; omega)
  obtain ⟨M, hM⟩ : ∃ M : Nat, 30 + (m : Int) = (M : Int) := ⟨30 + m, by omega⟩
  have hM34 : M ≤ 34 := by omega
  have hM30 : 0 < M := by omega
  have n1 : IntKind.i64.wrap (30 + (m : Int)) = (M : Int) := by rw [hM]; exact IntWalk.i64_in _ (by omega)
  have KM := Lib.hid fun W => many_any M q W (by omega) (by omega)
  have HWM := Lib.hid (many_wf (z := q) (n := M) (by omega) (by omega))
  have HML : Hid ((manyL q M).length = M) := Lib.hid (manyL_len _ _)
  have HNW : Hid (I64 a4 ∧ I64 a5 ∧ I64 q3) := Lib.hid (by
    have h4 : -9223372036854775808 ≤ a4 ∧ a4 ≤ 9223372036854775807 := by simpa [Lit.wf, IntKind.min, IntKind.max, IntKind.signed, IntKind.bits] using w4
    have h5 : -9223372036854775808 ≤ a5 ∧ a5 ≤ 9223372036854775807 := by simpa [Lit.wf, IntKind.min, IntKind.max, IntKind.signed, IntKind.bits] using w5
    exact ⟨⟨h4.1, h4.2⟩, ⟨h5.1, h5.2⟩, ⟨by omega, by omega⟩⟩)
  have hM' : 30 + (m : Int) = (M : Int) := hM
  clear w0 w1 w2 w3 w4 w5 hm hm5 hqr hqr2 hqr3 hM hE0 hZ0
  generalize manyL q M = Y0 at *
  go_enter Try.func3, Try.ntmps3
  go_upto_block 0 with (fail)
  go_cut [13] (fun v wx => ∃ L ao no co, v = .slice ao no co ∧ no ≤ 7 ∧ Hid (∀ x ∈ L, x.good = true) ∧ Hid (ROwn RIv 27 w.heap.size wx (.slice ao no co) L) ∧ Hid (Below w.heap.size w wx))
  case first =>
    go_wp2_with fail
    go_loopw [13, 14] (fun v x wr => ∃ i : Nat, ∃ L ao no co, i ≤ 14 ∧ i ≤ len0 + 1 ∧ i ≤ 2 * no ∧ x = .int .i64 i ∧ v = .slice ao no co ∧ no ≤ 7 ∧ 2 * no ≤ i ∧ Hid (∀ x ∈ L, x.good = true) ∧ Hid (ROwn RIv 27 w.heap.size wr (.slice ao no co) L) ∧ Hid (Below w.heap.size w wr)) (fun _ x _ => 16 - (intOf x).toNat)
    case atStart => exact ⟨0, [], none, 0, 0, by omega, by omega, by omega, rfl, rfl, by omega, by omega, fun x hx => (by cases hx), ROwn.nil _ _ _ _, Below.refl _ _⟩
    case round =>
      obtain ⟨i, L, ao, no, co, hi, hin, hi2, rfl, rfl, hno, hin2, hG, hO, hB⟩ := hrel
      by_cases hgo : i + 1 < len0 ∧ i < 14
      · obtain ⟨hlt, hlm⟩ := hgo
        have m1 : (i : Int) + 1 < len0 := by omega
        have m2 : (i : Int) < 14 := by omega
        have m3 : (i : Int) < len0 := by omega
        have m4 : 0 ≤ (i : Int) + 1 := by omega
        have m5 : ((i : Int) + 1).toNat = i + 1 := by omega
        have m6 : IntKind.i64.wrap ((i : Int) + 1) = (i : Int) + 1 := IntWalk.i64_in _ (by omega)
        obtain ⟨b, off, rfl, hc0⟩ := (HE.out.below hB.out).at i (by omega)
        obtain ⟨b', off', he, hc1⟩ := (HE.out.below hB.out).at (i + 1) hlt
        cases he
        have kI := KI.out ((z0.take len0)[i]?.getD 0) ((z0.take len0)[i + 1]?.getD 0) (by rw [List.getElem?_eq_getElem (by rw [← HN.out]; omega)]; exact HZ.out _ (List.getElem_mem _)) (by rw [List.getElem?_eq_getElem (by rw [← HN.out]; exact hlt)]; exact HZ.out _ (List.getElem_mem _))
        generalize (z0.take len0)[i]?.getD 0 = y0 at *
        generalize (z0.take len0)[i + 1]?.getD 0 = y1 at *
        have KII := Lib.hid kI
        have hln := hO.out.els.len
        have hLl : L.length + 1 ≤ 1000000000 := by omega
        have HLN := Lib.hid hln
        clear kI hln
        have hSd : Since wr wr.drew := Below.drew (Below.refl _ _)
        have hz0 := hB.out.size
        go_wp2_with fail
        go_region_law (first
          | (go_simp; go_at_call 9; refine (KII.out _).mono ?_; rintro e w3 ⟨x, hgx, rfl, hr⟩; obtain ⟨xa, xb, xc, xd, xp, xq, xr, xs'⟩ := x; unfold Iv.v; have HGX := Lib.hid hgx; have S3 : Since wr w3 := Since.step hSd hr; have HS3 := Lib.hid S3; clear hgx hr S3; dsimp only)
          | (refine step_rows rfl (.tmp 38) (.tmp 49) 23 rfl RIv 27 40 _ Try.underlying23 Try.infoIv rfl (by decide) w.heap.size (.slice ao no co) L [⟨xa, xb, xc, xd, xp, xq, xr, xs'⟩] ⟨w3.heap.size, 0, none⟩ 1 1 rfl rfl rfl (hO.out.below (Below.alloc HS3.out (Below.size HS3.out) _)) (Nat.le_trans hz0 (Below.size (Below.alloc HS3.out (Below.size HS3.out) _))) hLl (new_iv w3 _ _) ?_; intro b5 n5 c5 w5 hn5 hO5 hB5; have HB5 : Hid (Below w.heap.size w w5) := Lib.hid ((hB.out.trans (Below.mono (Below.alloc HS3.out (Below.size HS3.out) _) hB.out.size)).trans hB5.out)))
        all_goals
          have HG5 : Hid (∀ x ∈ L ++ [⟨xa, xb, xc, xd, xp, xq, xr, xs'⟩], x.good = true) := Lib.hid fun x hx => by
            rcases List.mem_append.1 hx with hx | hx
            · exact hG.out x hx
            · rw [List.mem_singleton.1 hx]; exact HGX.out
          have hi5 : i + 2 ≤ 2 * n5 := by rw [hn5.out, ← HLN.out]; omega
          have hi6 : 2 * n5 ≤ i + 2 := by rw [hn5.out, ← HLN.out]; omega
          have hno5 : n5 ≤ 7 := by omega
          clear hc0 hc1 hSd
          go_wp2
          go_roundw
          case rel => exact ⟨i + 2, _, b5, n5, c5, by omega, by omega, hi5, by go_num, rfl, hno5, hi6, HG5, hO5, HB5⟩
          case measure => simp [intOf]; omega
      · have hc2 : (len0 ≤ i + 1) ∨ (i + 1 < len0 ∧ 14 ≤ i) := by omega
        rcases hc2 with hc3 | ⟨hc3, hc4⟩
        · have m1 : ¬ (i : Int) + 1 < len0 := by omega
          have m6 : IntKind.i64.wrap ((i : Int) + 1) = (i : Int) + 1 := IntWalk.i64_in _ (by omega)
          go_wp2_with fail
          go_meet
          exact ⟨L, ao, no, co, rfl, hno, hG, hO, hB⟩
        · have m1 : (i : Int) + 1 < len0 := by omega
          have m2 : ¬ (i : Int) < 14 := by omega
          have m6 : IntKind.i64.wrap ((i : Int) + 1) = (i : Int) + 1 := IntWalk.i64_in _ (by omega)
          go_wp2_with fail
          go_meet
          exact ⟨L, ao, no, co, rfl, hno, hG, hO, hB⟩
  case rest =>
    obtain ⟨L, ao, no, co, rfl, hno, hG, hO, hB⟩ := hcut
    rename World => wr
    have hll := hO.out.els.len
    have HLL : Hid (L.length ≤ 7) := Lib.hid (by omega)
    have HLW := Lib.hid (goods_wf hG.out)
    have H0 := hB
    have RA_0 := Lib.hid hO.out.els
    clear hll hG hO hB KI
    go_wp2_with fail
    refine (KA.out _).mono ?_
    rintro e w' ⟨rfl, rfl⟩
    go_wp2_with fail
    refine (KB.out _).mono ?_
    rintro e w' ⟨rfl, rfl⟩
    go_wp2_with fail
    refine (KM.out _).mono ?_
    rintro e W1 ⟨b3, l3, c3, rfl, hO3, hr⟩
    have H1 := Lib.hid (H0.out.trans (hr.out.mono H0.out.size))
    have RA_1 := Lib.hid (RA_0.out.below hr.out)
    clear RA_0
    have RY_1 := Lib.hid hO3.out.els
    clear hr hO3 H0 KA KB KM
    go_wp2_with fail
    refine (KSP.out _ L _ RA_1.out HLW.out (by have := HLL.out; omega)).mono ?_
    rintro e W2 ⟨S1, b1, l1, c1, hl1, hw1, rfl, hO1, hr⟩
    have H2 := Lib.hid (H1.out.trans (hr.out.mono H1.out.size))
    have RA_2 := Lib.hid (RA_1.out.below hr.out)
    have RY_2 := Lib.hid (RY_1.out.below hr.out)
    clear RA_1 RY_1
    have RS_2 := Lib.hid hO1.out.els
    have HW1 := Lib.hid hw1
    have HL1 : Hid (S1.length ≤ 100) := Lib.hid (by have := HLL.out; omega)
    clear hr hO1 H1 KSP hw1 hl1
    go_wp2_with fail
    refine (KS.out _ H2.out).mono ?_
    rintro e W3 ⟨T1, b2, l2, c2, hf1, ht1, rfl, hE1, hr⟩
    have H3 := Lib.hid (H2.out.trans (hr.out.mono H2.out.size))
    have RA_3 := Lib.hid (RA_2.out.below hr.out)
    have RY_3 := Lib.hid (RY_2.out.below hr.out)
    have RS_3 := Lib.hid (RS_2.out.below hr.out)
    clear RA_2 RY_2 RS_2
    have RT_3 := hE1
    have HF1 := Lib.hid hf1
    clear hr H2 hf1 hE1
    go_wp2_with fail
    refine (KS.out _ H3.out).mono ?_
    rintro e W4 ⟨T2, b4, l4, c4, hf2, ht2, rfl, hE2, hr⟩
    have H4 := Lib.hid (H3.out.trans (hr.out.mono H3.out.size))
    have RA_4 := Lib.hid (RA_3.out.below hr.out)
    have RY_4 := Lib.hid (RY_3.out.below hr.out)
    have RS_4 := Lib.hid (RS_3.out.below hr.out)
    have RT_4 := Lib.hid (RT_3.out.below hr.out)
    clear RA_3 RY_3 RS_3 RT_3
    have RU_4 := hE2
    have HF2 := Lib.hid hf2
    clear hr H3 hf2 hE2 KS
    go_wp2_with fail
    refine (KB2.out _).mono ?_
    rintro e w' ⟨rfl, rfl⟩
    go_wp2_with fail
    refine (KSQ.out _ T2 _ RU_4.out HF2.out.wf (by omega)).mono ?_
    rintro e W5 ⟨S2, b6, l6, c6, hl6, hw6, rfl, hO6, hr⟩
    clear RU_4
    have H5 := Lib.hid (H4.out.trans (hr.out.mono H4.out.size))
    have RA_5 := Lib.hid (RA_4.out.below hr.out)
    have RY_5 := Lib.hid (RY_4.out.below hr.out)
    have RS_5 := Lib.hid (RS_4.out.below hr.out)
    have RT_5 := Lib.hid (RT_4.out.below hr.out)
    clear RA_4 RY_4 RS_4 RT_4
    have RV_5 := Lib.hid hO6.out.els
    have HW6 := Lib.hid hw6
    have HL6 : Hid (S2.length ≤ 100) := Lib.hid (by omega)
    clear hr hO6 H4 KSQ hw6 hl6 KB2
    have HF0 := Lib.hid (ROwn.fresh RIv 27 W5)
    have HA0 : Hid (Below W5.heap.size W5 (W5.alloc (.cells #[] 27))) := Lib.hid ((Below.refl _ _).alloc (Nat.le_refl _) _)
    have HLY : Hid (([] : List Iv).length + Y0.length ≤ 1000000000) := Lib.hid (by rw [HML.out]; simp; omega)
    have HLZ : Hid (Y0.length + L.length ≤ 1000000000) := Lib.hid (by rw [HML.out]; have := HLL.out; omega)
    have RYA := Lib.hid (RY_5.out.below HA0.out)
    go_wp2_with (first
      | (at_builtin; refine push_els rfl _ _ 23 rfl RIv 27 40 _ Try.underlying23 Try.infoIv rfl (by decide) W5.heap.size (.slice (some ⟨W5.heap.size, 0, none⟩) 0 0) [] Y0 (.slice b3 l3 c3) rfl rfl HF0.out RYA.out HA0.out.size HLY.out ?_; intro b7 l7 c7 W7 hl7 hO7 hr7; have HA7 := Lib.hid (HA0.out.trans hr7.out); have hO7' : ROwn RIv 27 W5.heap.size W7 (.slice b7 l7 c7) Y0 := hO7.out; have HO7 := Lib.hid hO7'; have RAA := Lib.hid (RA_5.out.below HA7.out); clear hr7 hO7 hO7' hl7)
      | (at_builtin; refine push_els rfl _ _ 23 rfl RIv 27 40 _ Try.underlying23 Try.infoIv rfl (by decide) W5.heap.size (.slice b7 l7 c7) Y0 L (.slice ao no co) rfl rfl HO7.out RAA.out HA7.out.size HLZ.out ?_; intro b8 l8 c8 W8 hl8 hO8 hr8))
    have HA8 := Lib.hid (HA7.out.trans hr8.out)
    have RC := Lib.hid hO8.out.els
    have H8 := Lib.hid (H5.out.trans (HA8.out.mono H5.out.size))
    have HWC := Lib.hid (append_wf HWM.out HLW.out)
    have HLC : Hid ((Y0 ++ L).length ≤ 100) := Lib.hid (by rw [List.length_append, HML.out]; have := HLL.out; omega)
    have hLE := LEls.new6 (RA_5.out.below HA8.out) (RS_5.out.below HA8.out) (RT_5.out.below HA8.out) (RV_5.out.below HA8.out) (RY_5.out.below HA8.out) RC.out 23
    have H9 := Lib.hid (H8.out.alloc H8.out.size (.cells #[.slice ao no co, .slice b1 l1 c1, .slice b2 l2 c2, .slice b6 l6 c6, .slice b3 l3 c3, .slice b8 l8 c8] 23))
    have HXS : Hid (∀ xs ∈ [L, S1, T1, S2, Y0, Y0 ++ L], (∀ x ∈ xs, x.wf) ∧ xs.length ≤ 100) := Lib.hid fun xs hx => by
      simp only [List.mem_cons, List.not_mem_nil, or_false] at hx
      rcases hx with rfl | rfl | rfl | rfl | rfl | rfl
      · exact ⟨HLW.out, by have := HLL.out; omega⟩
      · exact ⟨HW1.out, HL1.out⟩
      · exact ⟨HF1.out.wf, by omega⟩
      · exact ⟨HW6.out, HL6.out⟩
      · exact ⟨HWM.out, by rw [HML.out]; omega⟩
      · exact ⟨HWC.out, HLC.out⟩
    have HLE := Lib.hid hLE
    have h6 : [L, S1, T1, S2, Y0, Y0 ++ L].length = 6 := rfl
    generalize [L, S1, T1, S2, Y0, Y0 ++ L] = XS at *
    have H6 := Lib.hid h6
    have hwB : ∃ wB, wB = W8.alloc (.cells #[.slice ao no co, .slice b1 l1 c1, .slice b2 l2 c2, .slice b6 l6 c6, .slice b3 l3 c3, .slice b8 l8 c8] 23) := ⟨_, rfl⟩
    obtain ⟨wB, hwB⟩ := hwB
    rw [← hwB] at H9 HLE
    clear hr8 hO8 hl8 hLE RA_5 RS_5 RT_5 RV_5 RY_5 RC RAA RYA HO7 HA0 HA7 HA8 HF0 H5 H8 HLW HW1 HF1 HF2 HW6 HWM HWC HLL HL1 HL6 HLC HML HLY HLZ h6 ht1 ht2
    go_upto_region 8 with (fail)
    rw [← hwB]
    generalize W8.heap.size = b at *
    clear hwB
    go_wp2_with fail
    refine (KR.out _).mono ?_
    rintro e wC ⟨p0, p1, hpk, rfl, hr⟩
    unfold rv
    have hpi := ok_nums hpk
    have HPI := Lib.hid hpi
    have H10 := Lib.hid (H9.out.trans (hr.mono H9.out.size))
    have HLE2 := Lib.hid (HLE.out.below hr)
    clear hr hpk hpi H9 HLE
    go_wp2_with fail
    refine (KB3.out _).mono ?_
    rintro e w' ⟨rfl, rfl⟩
    go_wp2_with fail
    refine (KW.out _).mono ?_
    rintro e wD ⟨rfl, hr⟩
    have H11 := Lib.hid (H10.out.trans (hr.mono H10.out.size))
    have HLE3 := Lib.hid (HLE2.out.below hr)
    have hNO := ROwn.new RRat 25 wD [(p0, p1), (q3, 1), (a4, a5)] #[.int .i64 p0, .int .i64 p1, .int .i64 q3, .int .i64 1, .int .i64 a4, .int .i64 a5] rfl (by unfold maxLen; simp)
    have hNE := hNO.els
    have H12 := Lib.hid (H11.out.alloc H11.out.size (.cells #[.int .i64 p0, .int .i64 p1, .int .i64 q3, .int .i64 1, .int .i64 a4, .int .i64 a5] 25))
    have HLE4 := Lib.hid (HLE3.out.below ((Below.refl _ wD).alloc (Nat.le_refl _) (.cells #[.int .i64 p0, .int .i64 p1, .int .i64 q3, .int .i64 1, .int .i64 a4, .int .i64 a5] 25)))
    have HNI : Hid (∀ p ∈ [(p0, p1), (q3, 1), (a4, a5)], I64 p.1 ∧ I64 p.2) := Lib.hid fun p hp => by
      simp only [List.mem_cons, List.not_mem_nil, or_false] at hp
      rcases hp with rfl | rfl | rfl
      · exact HPI.out
      · exact ⟨HNW.out.2.2, (show I64 1 from ⟨by decide, by decide⟩)⟩
      · exact ⟨HNW.out.1, HNW.out.2.1⟩
    have h3 : [(p0, p1), (q3, 1), (a4, a5)].length = 3 := rfl
    rw [h3] at hNE
    have HNE := Lib.hid hNE
    have HN3 := Lib.hid h3
    generalize [(p0, p1), (q3, 1), (a4, a5)] = NL at *
    have hwA : ∃ wA, wA = wD.alloc (.cells #[.int .i64 p0, .int .i64 p1, .int .i64 q3, .int .i64 1, .int .i64 a4, .int .i64 a5] 25) := ⟨_, rfl⟩
    obtain ⟨wA, hwA⟩ := hwA
    rw [← hwA] at H12 HLE4 HNE
    clear hr hNO hNE h3 H10 H11 HLE2 HLE3 HPI HNW KR KB3 KW
    go_upto_region 9 with (fail)
    rw [← hwA]
    generalize wD.heap.size = gn at *
    clear hwA
    go_wp2
    go_loopw [18] (fun x wr => ∃ i : Nat, i ≤ 6 ∧ x = .int .i64 i ∧ Hid (Since wA wr)) (fun x _ => 7 - (intOf x).toNat)
    case atStart => exact ⟨0, by omega, rfl, Below.refl _ _⟩
    case round =>
      obtain ⟨i, hi, rfl, hS⟩ := hrel
      by_cases hlt : i < 6
      · obtain ⟨xs, hx⟩ : ∃ xs, XS[i]? = some xs := ⟨_, List.getElem?_eq_getElem (by rw [H6.out]; exact hlt)⟩
        obtain ⟨hwf, hlen⟩ := HXS.out xs (List.mem_of_getElem? hx)
        obtain ⟨vi, s1, hv⟩ := lels_at HLE4.out hx
        have SI := Lib.hid s1
        have HVA := Lib.hid hv
        have HWF := Lib.hid hwf
        have HLN := Lib.hid hlen
        have i1 : (i : Int) < 6 := by omega
        have HV := Lib.hid (hv.below hS.out)
        have kn := fun W (h : Since wr W) => normal_any vi xs W (HV.out.below h) hwf (by omega)
        have kg := fun W (h : Since wr W) => gnormal_any vi xs W (HV.out.below h) (by omega)
        have t1 := Since.cell hS.out s1
        have T1' := Lib.hid t1
        have hcs : ∃ (R : List Iv) (er : Int), normL xs = (R, er) ∧ R.length ≤ 32 ∧ ((er = 0 ∧ Fit R ∧ validL R = 0 ∧ normL R = (R, 0) ∧ ∀ n d, hasL R n d = hasL xs n d) ∨ (er == 0) = false) := by
          rcases norm_cases xs with ⟨R, hn, hf, hl, hvR, hsR, hh⟩ | ⟨er, her, hn⟩
          · exact ⟨R, 0, hn, hl, .inl ⟨rfl, hf, hvR, hsR, hh⟩⟩
          · exact ⟨[], er, hn, by simp, .inr (by rcases her with rfl | rfl <;> rfl)⟩
        obtain ⟨R, er, hn, hl, hcs⟩ := hcs
        rw [hn] at kn kg
        simp only at kn kg
        have KN := Lib.hid kn
        have KG := Lib.hid kg
        have HCS := Lib.hid hcs
        have HR32 := Lib.hid hl
        clear hn hl hcs kn kg hx hwf hlen s1 hv
        go_wp2_with fail
        refine (KN.out _ (Below.refl _ _)).mono ?_
        rintro e wb ⟨aN, nN, cN, rfl, hEN, hrN⟩
        have t1' := Since.cell (wb := wr) hrN.out t1
        go_wp2_with fail
        refine (KG.out wb hrN.out).mono ?_
        rintro e wc ⟨aC, nC, cC, rfl, hEC, hrC⟩
        have hSc := Since.step hrN.out hrC.out
        have t2 := Since.cell hSc t1
        have HEN := Lib.hid (hEN.out.below hrC.out)
        have kv1 := fun W (h : Since wc W) => (svalid_any vi xs W ((HV.out.below hSc).below h) HWF.out (by have := HLN.out; omega)).mono (R' := fun e w' => e = .returned (.int .i64 (validL xs)) ∧ Since wc w') fun e w' hq => ⟨hq.1, Since.step h hq.2⟩
        have kv2 := fun W (h : Since wc W) => (gvalid_any vi xs W ((HV.out.below hSc).below h) (by have := HLN.out; omega)).mono (R' := fun e w' => e = .returned (.int .i64 (validL xs)) ∧ Since wc w') fun e w' hq => ⟨hq.1, Since.step h hq.2⟩
        have kq := fun W (h : Since wc W) => (gequal_any (.slice aN nN cN) (.slice aC nC cC) R R W (HEN.out.below h) (hEC.out.below h) (by have := HR32.out; omega)).mono (R' := fun e w' => e = .returned (.bool true) ∧ Since wc w') fun e w' hq => ⟨hq.1.trans (ret_bool (decide_eq_true rfl)), Since.step h hq.2⟩
        generalize validL xs = V at *
        have KV1 := Lib.hid kv1
        have KV2 := Lib.hid kv2
        have KQ := Lib.hid kq
        have HSc := Lib.hid (Since.step hS.out hSc)
        clear hEN hEC hrN hrC kv1 kv2 kq t1 t1' KN KG hSc hS
        go_upto_region 14 with (fail)
        go_cut [130] (fun s wx => s = .bool false ∧ Hid (Since wc wx))
        case first =>
          have hS0 : Since wc wc := Below.refl _ _
          have hSd : Since wc wc.drew := Below.drew hS0
          go_region_held3 (fun w' => w'.cell? ⟨b, i, none⟩ = some vi ∧ Since wc w')
            (first | exact ⟨Since.cell hSd t2, hSd⟩ | exact ⟨Since.cell hB t2, hB⟩)
            ((first
              | (go_at_call 19; refine (KV1.out _ (by first | exact hB | exact hSd)).mono ?_; rintro e w' ⟨rfl, hB⟩)
              | (go_at_call 20; refine (KV2.out _ (by first | exact hB | exact hSd)).mono ?_; rintro e w' ⟨rfl, hB⟩)
              | (go_at_call 21; refine (KQ.out _ (by first | exact hB | exact hSd)).mono ?_; rintro e w' ⟨rfl, hB⟩)))
          have HBB := Lib.hid hB
          clear hB hSd hS0
          go_wp2_with fail
          go_meet
          exact ⟨rfl, HBB⟩
        case rest =>
        obtain ⟨rfl, hSD⟩ := hcut
        rename World => wd
        have HEd := Lib.hid (HEN.out.below hSD.out)
        have HSd := Lib.hid (Since.step HSc.out hSD.out)
        clear hSD HEN HSc t2 KV1 KV2 KQ
        go_upto_if 132 with (fail)
        go_cut [24] (fun _ wx => Hid (Since wd wx))
        case first =>
          rcases HCS.out with ⟨rfl, hf, hvR, hsR, -⟩ | he0
          · have KN2 := Lib.hid (by have := normal_any (.slice aN nN cN) R wd HEd.out hf.wf (by have := HR32.out; omega); rw [hsR] at this; exact this : Calls Try.prog 17 #[.slice aN nN cN] wd (Two R 0 wd))
            have HRW := Lib.hid hf.wf
            have HRV := Lib.hid hvR
            clear hf hsR hvR
            go_wp2_with fail
            refine (KN2.out).mono ?_
            rintro e we ⟨aM, nM, cM, rfl, hEM, hrM⟩
            have kx := svalid_any (.slice aN nN cN) R we (HEd.out.below hrM.out) HRW.out (by have := HR32.out; omega)
            rw [HRV.out] at kx
            have KX := Lib.hid kx
            have HEe := Lib.hid (HEd.out.below hrM.out)
            have HSe : Hid (Since wd we) := Lib.hid hrM.out
            clear kx hrM KN2
            go_wp2_with fail
            refine (KX.out).mono ?_
            rintro e wf ⟨rfl, hrf⟩
            go_wp2_with fail
            refine (equal_any (.slice aM nM cM) (.slice aN nN cN) R R wf (hEM.out.below hrf) (HEe.out.below hrf) (by have := HR32.out; omega)).mono ?_
            rintro e wg ⟨he, hrg⟩
            obtain rfl : e = .returned (.bool true) := he.trans (ret_bool (decide_eq_true rfl))
            have HSz := Lib.hid (Since.step (Since.step HSe.out hrf) hrg)
            clear he hrf hrg hEM HEe HSe KX
            go_wp2_with fail
            go_meet
            exact HSz
          · go_wp2_with fail
            go_meet
            exact Lib.hid (Below.refl _ _)
        case rest =>
        have hSZ := hcut
        rename World => wz
        have HEz := Lib.hid (HEd.out.below hSZ.out)
        have HSz := Lib.hid (Since.step HSd.out hSZ.out)
        clear hSZ hcut HEd HSd
        go_wp2
        go_loopw [25] (fun x wq => ∃ j : Nat, j ≤ 3 ∧ x = .int .i64 j ∧ Hid (Since wz wq)) (fun x _ => 4 - (intOf x).toNat)
        case atStart => exact ⟨0, by omega, rfl, Below.refl _ _⟩
        case round =>
          obtain ⟨j, hj, rfl, hS⟩ := hrel
          by_cases hlt2 : j < 3
          · obtain ⟨p, hp⟩ : ∃ p, NL[j]? = some p := ⟨_, List.getElem?_eq_getElem (by rw [HN3.out]; exact hlt2)⟩
            obtain ⟨hp1, hp2⟩ := HNI.out p (List.mem_of_getElem? hp)
            have hSA := Since.step HSz.out hS.out
            obtain ⟨g0, g1, -⟩ := rat_at (HNE.out.below hSA) hp
            have t1 := Since.cell hSA SI.out
            have j1 : (j : Int) < 3 := by omega
            have hA := HVA.out.below hSA
            have hE3 := HEz.out.below hS.out
            have k1 := fun W (h : Since wr W) => (shas_any vi xs p.1 p.2 W (hA.below h) HWF.out (by have := HLN.out; omega) hp1 hp2).mono (R' := fun e w' => e = .returned (.bool (hasL xs p.1 p.2)) ∧ Since wr w') fun e w' hq => ⟨hq.1, Since.step h hq.2⟩
            have k2 := fun W (h : Since wr W) => (ghas_any vi xs p.1 p.2 W (hA.below h) (by have := HLN.out; omega)).mono (R' := fun e w' => e = .returned (.bool (hasL xs p.1 p.2)) ∧ Since wr w') fun e w' hq => ⟨hq.1, Since.step h hq.2⟩
            have hcs : (er = 0 ∧ ∀ W, Since wr W → Calls Try.prog 23 #[.slice aN nN cN, rv p.1 p.2] W fun e w' => e = .returned (.bool (hasL xs p.1 p.2)) ∧ Since wr w') ∨ (er == 0) = false := by
              rcases HCS.out with ⟨h0, hf, -, -, hh⟩ | h1
              · exact .inl ⟨h0, fun W h => (shas_any (.slice aN nN cN) R p.1 p.2 W (hE3.below h) hf.wf (by have := HR32.out; omega) hp1 hp2).mono fun e w' hq => ⟨hq.1.trans (by rw [hh]), Since.step h hq.2⟩⟩
              · exact .inr h1
            generalize hasL xs p.1 p.2 = G at *
            obtain ⟨pn, pd⟩ := p
            unfold rv at *
            simp only at *
            have K1 := Lib.hid k1
            have K2 := Lib.hid k2
            have HG0 := Lib.hid g0
            have HG1 := Lib.hid g1
            have HT1 := Lib.hid t1
            have HCC := Lib.hid hcs
            clear k1 k2 hcs hA hp hp1 hp2 hSA hE3
            go_upto_region 23 with (fail)
            go_cut [195] (fun s wx => s = .bool false ∧ Hid (Since wr wx))
            case first =>
              have hS0 : Since wr wr := Below.refl _ _
              have hSd : Since wr wr.drew := Below.drew hS0
              rcases HCC.out with ⟨rfl, k3⟩ | hcc
              · have K3 := Lib.hid k3
                clear k3
                go_region_held3 (fun w' => w'.cell? ⟨b, i, none⟩ = some vi ∧ w'.cell? ⟨gn, j * 2, none⟩ = some (.int .i64 pn) ∧ w'.cell? ⟨gn, j * 2 + 1, none⟩ = some (.int .i64 pd) ∧ Since wr w')
                  (first | exact ⟨Since.cell hSd HT1.out, Since.cell hSd HG0.out, Since.cell hSd HG1.out, hSd⟩ | exact ⟨Since.cell hB HT1.out, Since.cell hB HG0.out, Since.cell hB HG1.out, hB⟩)
                  ((first
                    | (go_at_call_of 23 (Value.slice aN nN cN); refine (K3.out _ (by first | exact hB | exact hSd)).mono ?_; rintro e w' ⟨rfl, hB⟩)
                    | (go_at_call_of 23 vi; refine (K1.out _ (by first | exact hB | exact hSd)).mono ?_; rintro e w' ⟨rfl, hB⟩)
                    | (go_at_call 24; refine (K2.out _ (by first | exact hB | exact hSd)).mono ?_; rintro e w' ⟨rfl, hB⟩)))
                have HBB := Lib.hid hB
                clear hB hSd hS0
                go_wp2_with fail
                go_meet
                exact ⟨rfl, HBB⟩
              · have he0 := hcc
                refine wp_region_noPanic ?_
                refine wp_region_held_drew (S := fun w' => w'.cell? ⟨b, i, none⟩ = some vi ∧ w'.cell? ⟨gn, j * 2, none⟩ = some (.int .i64 pn) ∧ w'.cell? ⟨gn, j * 2 + 1, none⟩ = some (.int .i64 pd) ∧ Since wr w') (by kernel_rfl) ⟨Since.cell hSd HT1.out, Since.cell hSd HG0.out, Since.cell hSd HG1.out, hSd⟩ (fun hHeld => ?_)
                refine wpAnyH_take (i := 0) (oi := { dst := some 155, op := Op.move (Operand.tmp 16), type := 33, pos := _, after := #[], guard := none }) (v := ?_) rfl (by kernel_rfl) (by kernel_rfl) (by kernel_rfl) (fun _ _ _ h => h) (Or.inl ⟨by rfl, ?_⟩) (by assumption) ?_
                rotate_left 1
                · (intro w hSw; (try dsimp only at hSw); go_simp; first | done | with_reducible rfl)
                try simp only [Act.put, List.setIfInBounds_toArray, List.set_cons_zero, List.set_cons_succ]
                refine wpAnyH_take (i := 1) (oi := { dst := some 156, op := Op.move (Operand.tmp 18), type := 3, pos := _, after := #[], guard := none }) (v := ?_) rfl (by kernel_rfl) (by kernel_rfl) (by kernel_rfl) (fun _ _ _ h => h) (Or.inl ⟨by rfl, ?_⟩) (by assumption) ?_
                rotate_left 1
                · (intro w hSw; (try dsimp only at hSw); go_simp; first | done | with_reducible rfl)
                try simp only [Act.put, List.setIfInBounds_toArray, List.set_cons_zero, List.set_cons_succ]
                refine wpAnyH_take (i := 2) (oi := { dst := some 157, op := Op.indexAddr 33 (Operand.tmp 155) (Operand.tmp 156), type := 0, pos := _, after := #[{ on := 0, ground := Ground.data }, { on := 1, ground := Ground.data }], guard := none }) (v := ?_) rfl (by kernel_rfl) (by kernel_rfl) (by kernel_rfl) (fun _ _ _ h => h) (Or.inl ⟨by rfl, ?_⟩) (by assumption) ?_
                rotate_left 1
                · (intro w hSw; (try dsimp only at hSw); go_simp; first | done | with_reducible rfl)
                try simp only [Act.put, List.setIfInBounds_toArray, List.set_cons_zero, List.set_cons_succ]
                refine wpAnyH_take (i := 3) (oi := { dst := some 158, op := Op.load 23 (Operand.tmp 157), type := 23, pos := _, after := #[{ on := 2, ground := Ground.data }], guard := none }) (v := ?_) rfl (by kernel_rfl) (by kernel_rfl) (by kernel_rfl) (fun _ _ _ h => h) (Or.inl ⟨by rfl, ?_⟩) (by assumption) ?_
                rotate_left 1
                · (intro w hSw; (try dsimp only at hSw); go_simp; first | done | with_reducible rfl)
                try simp only [Act.put, List.setIfInBounds_toArray, List.set_cons_zero, List.set_cons_succ]
                refine wpAnyH_take (i := 4) (oi := { dst := some 159, op := Op.move (Operand.tmp 17), type := 36, pos := _, after := #[], guard := none }) (v := ?_) rfl (by kernel_rfl) (by kernel_rfl) (by kernel_rfl) (fun _ _ _ h => h) (Or.inl ⟨by rfl, ?_⟩) (by assumption) ?_
                rotate_left 1
                · (intro w hSw; (try dsimp only at hSw); go_simp; first | done | with_reducible rfl)
                try simp only [Act.put, List.setIfInBounds_toArray, List.set_cons_zero, List.set_cons_succ]
                refine wpAnyH_take (i := 5) (oi := { dst := some 160, op := Op.move (Operand.tmp 25), type := 3, pos := _, after := #[], guard := none }) (v := ?_) rfl (by kernel_rfl) (by kernel_rfl) (by kernel_rfl) (fun _ _ _ h => h) (Or.inl ⟨by rfl, ?_⟩) (by assumption) ?_
                rotate_left 1
                · (intro w hSw; (try dsimp only at hSw); go_simp; first | done | with_reducible rfl)
                try simp only [Act.put, List.setIfInBounds_toArray, List.set_cons_zero, List.set_cons_succ]
                refine wpAnyH_take (i := 6) (oi := { dst := some 161, op := Op.indexAddr 36 (Operand.tmp 159) (Operand.tmp 160), type := 0, pos := _, after := #[{ on := 4, ground := Ground.data }, { on := 5, ground := Ground.data }], guard := none }) (v := ?_) rfl (by kernel_rfl) (by kernel_rfl) (by kernel_rfl) (fun _ _ _ h => h) (Or.inl ⟨by rfl, ?_⟩) (by assumption) ?_
                rotate_left 1
                · (intro w hSw; (try dsimp only at hSw); go_simp; first | done | with_reducible rfl)
                try simp only [Act.put, List.setIfInBounds_toArray, List.set_cons_zero, List.set_cons_succ]
                refine wpAnyH_take (i := 7) (oi := { dst := some 162, op := Op.load 25 (Operand.tmp 161), type := 25, pos := _, after := #[{ on := 6, ground := Ground.data }], guard := none }) (v := ?_) rfl (by kernel_rfl) (by kernel_rfl) (by kernel_rfl) (fun _ _ _ h => h) (Or.inl ⟨by rfl, ?_⟩) (by assumption) ?_
                rotate_left 1
                · (intro w hSw; (try dsimp only at hSw); go_simp; first | done | with_reducible rfl)
                try simp only [Act.put, List.setIfInBounds_toArray, List.set_cons_zero, List.set_cons_succ]
                refine wpAnyH_take (i := 9) (oi := { dst := some 164, op := Op.move (Operand.tmp 16), type := 33, pos := _, after := #[], guard := none }) (v := ?_) rfl (by kernel_rfl) (by kernel_rfl) (by kernel_rfl) (fun _ _ _ h => h) (Or.inl ⟨by rfl, ?_⟩) (by assumption) ?_
                rotate_left 1
                · (intro w hSw; (try dsimp only at hSw); go_simp; first | done | with_reducible rfl)
                try simp only [Act.put, List.setIfInBounds_toArray, List.set_cons_zero, List.set_cons_succ]
                refine wpAnyH_take (i := 10) (oi := { dst := some 165, op := Op.move (Operand.tmp 18), type := 3, pos := _, after := #[], guard := none }) (v := ?_) rfl (by kernel_rfl) (by kernel_rfl) (by kernel_rfl) (fun _ _ _ h => h) (Or.inl ⟨by rfl, ?_⟩) (by assumption) ?_
                rotate_left 1
                · (intro w hSw; (try dsimp only at hSw); go_simp; first | done | with_reducible rfl)
                try simp only [Act.put, List.setIfInBounds_toArray, List.set_cons_zero, List.set_cons_succ]
                refine wpAnyH_take (i := 11) (oi := { dst := some 166, op := Op.indexAddr 33 (Operand.tmp 164) (Operand.tmp 165), type := 0, pos := _, after := #[{ on := 9, ground := Ground.data }, { on := 10, ground := Ground.data }], guard := none }) (v := ?_) rfl (by kernel_rfl) (by kernel_rfl) (by kernel_rfl) (fun _ _ _ h => h) (Or.inl ⟨by rfl, ?_⟩) (by assumption) ?_
                rotate_left 1
                · (intro w hSw; (try dsimp only at hSw); go_simp; first | done | with_reducible rfl)
                try simp only [Act.put, List.setIfInBounds_toArray, List.set_cons_zero, List.set_cons_succ]
                refine wpAnyH_take (i := 12) (oi := { dst := some 167, op := Op.load 23 (Operand.tmp 166), type := 23, pos := _, after := #[{ on := 11, ground := Ground.data }], guard := none }) (v := ?_) rfl (by kernel_rfl) (by kernel_rfl) (by kernel_rfl) (fun _ _ _ h => h) (Or.inl ⟨by rfl, ?_⟩) (by assumption) ?_
                rotate_left 1
                · (intro w hSw; (try dsimp only at hSw); go_simp; first | done | with_reducible rfl)
                try simp only [Act.put, List.setIfInBounds_toArray, List.set_cons_zero, List.set_cons_succ]
                refine wpAnyH_take (i := 13) (oi := { dst := some 168, op := Op.move (Operand.tmp 17), type := 36, pos := _, after := #[], guard := none }) (v := ?_) rfl (by kernel_rfl) (by kernel_rfl) (by kernel_rfl) (fun _ _ _ h => h) (Or.inl ⟨by rfl, ?_⟩) (by assumption) ?_
                rotate_left 1
                · (intro w hSw; (try dsimp only at hSw); go_simp; first | done | with_reducible rfl)
                try simp only [Act.put, List.setIfInBounds_toArray, List.set_cons_zero, List.set_cons_succ]
                refine wpAnyH_take (i := 14) (oi := { dst := some 169, op := Op.move (Operand.tmp 25), type := 3, pos := _, after := #[], guard := none }) (v := ?_) rfl (by kernel_rfl) (by kernel_rfl) (by kernel_rfl) (fun _ _ _ h => h) (Or.inl ⟨by rfl, ?_⟩) (by assumption) ?_
                rotate_left 1
                · (intro w hSw; (try dsimp only at hSw); go_simp; first | done | with_reducible rfl)
                try simp only [Act.put, List.setIfInBounds_toArray, List.set_cons_zero, List.set_cons_succ]
                refine wpAnyH_take (i := 15) (oi := { dst := some 170, op := Op.indexAddr 36 (Operand.tmp 168) (Operand.tmp 169), type := 0, pos := _, after := #[{ on := 13, ground := Ground.data }, { on := 14, ground := Ground.data }], guard := none }) (v := ?_) rfl (by kernel_rfl) (by kernel_rfl) (by kernel_rfl) (fun _ _ _ h => h) (Or.inl ⟨by rfl, ?_⟩) (by assumption) ?_
                rotate_left 1
                · (intro w hSw; (try dsimp only at hSw); go_simp; first | done | with_reducible rfl)
                try simp only [Act.put, List.setIfInBounds_toArray, List.set_cons_zero, List.set_cons_succ]
                refine wpAnyH_take (i := 16) (oi := { dst := some 171, op := Op.load 25 (Operand.tmp 170), type := 25, pos := _, after := #[{ on := 15, ground := Ground.data }], guard := none }) (v := ?_) rfl (by kernel_rfl) (by kernel_rfl) (by kernel_rfl) (fun _ _ _ h => h) (Or.inl ⟨by rfl, ?_⟩) (by assumption) ?_
                rotate_left 1
                · (intro w hSw; (try dsimp only at hSw); go_simp; first | done | with_reducible rfl)
                try simp only [Act.put, List.setIfInBounds_toArray, List.set_cons_zero, List.set_cons_succ]
                refine wpAnyH_ready (rs := [8]) (by kernel_rfl) (by simp) ?_
                refine AllReadyH.cons (o := { dst := some 163, op := Op.call { callee := Callee.value (Operand.func 23), args := #[Operand.tmp 158, Operand.tmp 162], argTypes := #[23, 25] }, type := 4, pos := _, after := #[{ on := 3, ground := Ground.data }, { on := 7, ground := Ground.data }], guard := none }) rfl (fun K hK => ?_) AllReadyH.nil
                go_simp
                go_at_call 23
                refine (K1.out _ hSd).mono ?_
                rintro e W1 ⟨rfl, hB1⟩
                go_wp2_with fail
                refine hK.out _ _ ?_ (fun hHeld => ?_)
                · exact ⟨Since.cell hB1 HT1.out, Since.cell hB1 HG0.out, Since.cell hB1 HG1.out, hB1⟩
                clear hK K
                try simp only [Act.put, List.setIfInBounds_toArray, List.set_cons_zero, List.set_cons_succ]
                refine wpAnyH_ready (rs := [17]) (by kernel_rfl) (by simp) ?_
                refine AllReadyH.cons (o := { dst := some 172, op := Op.call { callee := Callee.value (Operand.func 24), args := #[Operand.tmp 167, Operand.tmp 171], argTypes := #[23, 25] }, type := 4, pos := _, after := #[{ on := 12, ground := Ground.data }, { on := 16, ground := Ground.data }, { on := 8, ground := Ground.chain }], guard := none }) rfl (fun K hK => ?_) AllReadyH.nil
                go_simp
                go_at_call 24
                refine (K2.out _ hB1).mono ?_
                rintro e W2 ⟨rfl, hB⟩
                go_wp2_with fail
                refine hK.out _ _ ?_ (fun hHeld => ?_)
                · exact ⟨Since.cell hB HT1.out, Since.cell hB HG0.out, Since.cell hB HG1.out, hB⟩
                clear hK K hB1
                try simp only [Act.put, List.setIfInBounds_toArray, List.set_cons_zero, List.set_cons_succ]
                refine wpAnyH_take (i := 18) (oi := { dst := some 173, op := Op.binOp BinOp.neq 4 (Operand.tmp 163) (Operand.tmp 172) 4, type := 4, pos := _, after := #[{ on := 8, ground := Ground.data }, { on := 17, ground := Ground.data }], guard := none }) (v := ?_) rfl (by kernel_rfl) (by kernel_rfl) (by kernel_rfl) (fun _ _ _ h => h) (Or.inl ⟨by rfl, ?_⟩) (by assumption) ?_
                rotate_left 1
                · (intro w hSw; (try dsimp only at hSw); go_simp; first | done | with_reducible rfl)
                try simp only [Act.put, List.setIfInBounds_toArray, List.set_cons_zero, List.set_cons_succ]
                refine wpAnyH_take (i := 19) (oi := { dst := some 174, op := Op.move (Operand.tmp 173), type := 4, pos := _, after := #[{ on := 18, ground := Ground.data }, { on := 17, ground := Ground.chain }], guard := none }) (v := ?_) rfl (by kernel_rfl) (by kernel_rfl) (by kernel_rfl) (fun _ _ _ h => h) (Or.inl ⟨by rfl, ?_⟩) (by assumption) ?_
                rotate_left 1
                · (intro w hSw; (try dsimp only at hSw); go_simp; first | done | with_reducible rfl)
                try simp only [Act.put, List.setIfInBounds_toArray, List.set_cons_zero, List.set_cons_succ]
                refine wpAnyH_take (i := 20) (oi := { dst := some 175, op := Op.move (Operand.tmp 20), type := 37, pos := _, after := #[{ on := 19, ground := Ground.guard }], guard := some (19, false) }) (v := ?_) rfl (by kernel_rfl) (by kernel_rfl) (by kernel_rfl) (fun _ _ _ h => h) (Or.inl ⟨by rfl, ?_⟩) (by assumption) ?_
                rotate_left 1
                · (intro w hSw; (try dsimp only at hSw); go_simp; first | done | with_reducible rfl)
                try simp only [Act.put, List.setIfInBounds_toArray, List.set_cons_zero, List.set_cons_succ]
                refine wpAnyH_take (i := 21) (oi := { dst := some 176, op := Op.binOp BinOp.eql 37 (Operand.tmp 175) (Operand.const (Value.int IntKind.i64 0)) 37, type := 4, pos := _, after := #[{ on := 20, ground := Ground.data }, { on := 19, ground := Ground.guard }], guard := some (19, false) }) (v := ?_) rfl (by kernel_rfl) (by kernel_rfl) (by kernel_rfl) (fun _ _ _ h => h) (Or.inl ⟨by rfl, ?_⟩) (by assumption) ?_
                rotate_left 1
                · (intro w hSw; (try dsimp only at hSw); go_simp; first | done | with_reducible rfl)
                try simp only [Act.put, List.setIfInBounds_toArray, List.set_cons_zero, List.set_cons_succ]
                refine wpAnyH_take (i := 22) (oi := { dst := some 177, op := Op.move (Operand.tmp 176), type := 4, pos := _, after := #[{ on := 21, ground := Ground.data }, { on := 19, ground := Ground.chain }, { on := 19, ground := Ground.guard }], guard := some (19, false) }) (v := ?_) rfl (by kernel_rfl) (by kernel_rfl) (by kernel_rfl) (fun _ _ _ h => h) (Or.inl ⟨by rfl, ?_⟩) (by assumption) ?_
                rotate_left 1
                · (intro w hSw; (try dsimp only at hSw); go_simp; first | done | with_reducible rfl)
                try simp only [Act.put, List.setIfInBounds_toArray, List.set_cons_zero, List.set_cons_succ]
                refine wpAnyH_take (i := 23) (oi := { dst := some 178, op := Op.move (Operand.tmp 19), type := 23, pos := _, after := #[{ on := 22, ground := Ground.guard }], guard := some (22, true) }) (v := undef) rfl (by kernel_rfl) (by kernel_rfl) (by kernel_rfl) (fun _ _ _ h => h) (Or.inr ⟨by rfl, rfl⟩) (by assumption) ?_
                try simp only [Act.put, List.setIfInBounds_toArray, List.set_cons_zero, List.set_cons_succ]
                refine wpAnyH_take (i := 24) (oi := { dst := some 179, op := Op.move (Operand.tmp 17), type := 36, pos := _, after := #[{ on := 22, ground := Ground.guard }], guard := some (22, true) }) (v := undef) rfl (by kernel_rfl) (by kernel_rfl) (by kernel_rfl) (fun _ _ _ h => h) (Or.inr ⟨by rfl, rfl⟩) (by assumption) ?_
                try simp only [Act.put, List.setIfInBounds_toArray, List.set_cons_zero, List.set_cons_succ]
                refine wpAnyH_take (i := 25) (oi := { dst := some 180, op := Op.move (Operand.tmp 25), type := 3, pos := _, after := #[{ on := 22, ground := Ground.guard }], guard := some (22, true) }) (v := undef) rfl (by kernel_rfl) (by kernel_rfl) (by kernel_rfl) (fun _ _ _ h => h) (Or.inr ⟨by rfl, rfl⟩) (by assumption) ?_
                try simp only [Act.put, List.setIfInBounds_toArray, List.set_cons_zero, List.set_cons_succ]
                refine wpAnyH_take (i := 26) (oi := { dst := some 181, op := Op.indexAddr 36 (Operand.tmp 179) (Operand.tmp 180), type := 0, pos := _, after := #[{ on := 24, ground := Ground.data }, { on := 25, ground := Ground.data }, { on := 22, ground := Ground.guard }], guard := some (22, true) }) (v := undef) rfl (by kernel_rfl) (by kernel_rfl) (by kernel_rfl) (fun _ _ _ h => h) (Or.inr ⟨by rfl, rfl⟩) (by assumption) ?_
                try simp only [Act.put, List.setIfInBounds_toArray, List.set_cons_zero, List.set_cons_succ]
                refine wpAnyH_take (i := 27) (oi := { dst := some 182, op := Op.load 25 (Operand.tmp 181), type := 25, pos := _, after := #[{ on := 26, ground := Ground.data }, { on := 22, ground := Ground.guard }], guard := some (22, true) }) (v := undef) rfl (by kernel_rfl) (by kernel_rfl) (by kernel_rfl) (fun _ _ _ h => h) (Or.inr ⟨by rfl, rfl⟩) (by assumption) ?_
                try simp only [Act.put, List.setIfInBounds_toArray, List.set_cons_zero, List.set_cons_succ]
                refine wpAnyH_take (i := 28) (oi := { dst := some 183, op := Op.call { callee := Callee.value (Operand.func 23), args := #[Operand.tmp 178, Operand.tmp 182], argTypes := #[23, 25] }, type := 4, pos := _, after := #[{ on := 23, ground := Ground.data }, { on := 27, ground := Ground.data }, { on := 22, ground := Ground.chain }, { on := 22, ground := Ground.guard }], guard := some (22, true) }) (v := undef) rfl (by kernel_rfl) (by kernel_rfl) (by kernel_rfl) (fun _ _ _ h => h) (Or.inr ⟨by rfl, rfl⟩) (by assumption) ?_
                try simp only [Act.put, List.setIfInBounds_toArray, List.set_cons_zero, List.set_cons_succ]
                refine wpAnyH_take (i := 29) (oi := { dst := some 184, op := Op.move (Operand.tmp 16), type := 33, pos := _, after := #[{ on := 22, ground := Ground.guard }], guard := some (22, true) }) (v := undef) rfl (by kernel_rfl) (by kernel_rfl) (by kernel_rfl) (fun _ _ _ h => h) (Or.inr ⟨by rfl, rfl⟩) (by assumption) ?_
                try simp only [Act.put, List.setIfInBounds_toArray, List.set_cons_zero, List.set_cons_succ]
                refine wpAnyH_take (i := 30) (oi := { dst := some 185, op := Op.move (Operand.tmp 18), type := 3, pos := _, after := #[{ on := 22, ground := Ground.guard }], guard := some (22, true) }) (v := undef) rfl (by kernel_rfl) (by kernel_rfl) (by kernel_rfl) (fun _ _ _ h => h) (Or.inr ⟨by rfl, rfl⟩) (by assumption) ?_
                try simp only [Act.put, List.setIfInBounds_toArray, List.set_cons_zero, List.set_cons_succ]
                refine wpAnyH_take (i := 31) (oi := { dst := some 186, op := Op.indexAddr 33 (Operand.tmp 184) (Operand.tmp 185), type := 0, pos := _, after := #[{ on := 29, ground := Ground.data }, { on := 30, ground := Ground.data }, { on := 22, ground := Ground.guard }], guard := some (22, true) }) (v := undef) rfl (by kernel_rfl) (by kernel_rfl) (by kernel_rfl) (fun _ _ _ h => h) (Or.inr ⟨by rfl, rfl⟩) (by assumption) ?_
                try simp only [Act.put, List.setIfInBounds_toArray, List.set_cons_zero, List.set_cons_succ]
                refine wpAnyH_take (i := 32) (oi := { dst := some 187, op := Op.load 23 (Operand.tmp 186), type := 23, pos := _, after := #[{ on := 31, ground := Ground.data }, { on := 22, ground := Ground.guard }], guard := some (22, true) }) (v := undef) rfl (by kernel_rfl) (by kernel_rfl) (by kernel_rfl) (fun _ _ _ h => h) (Or.inr ⟨by rfl, rfl⟩) (by assumption) ?_
                try simp only [Act.put, List.setIfInBounds_toArray, List.set_cons_zero, List.set_cons_succ]
                refine wpAnyH_take (i := 33) (oi := { dst := some 188, op := Op.move (Operand.tmp 17), type := 36, pos := _, after := #[{ on := 22, ground := Ground.guard }], guard := some (22, true) }) (v := undef) rfl (by kernel_rfl) (by kernel_rfl) (by kernel_rfl) (fun _ _ _ h => h) (Or.inr ⟨by rfl, rfl⟩) (by assumption) ?_
                try simp only [Act.put, List.setIfInBounds_toArray, List.set_cons_zero, List.set_cons_succ]
                refine wpAnyH_take (i := 34) (oi := { dst := some 189, op := Op.move (Operand.tmp 25), type := 3, pos := _, after := #[{ on := 22, ground := Ground.guard }], guard := some (22, true) }) (v := undef) rfl (by kernel_rfl) (by kernel_rfl) (by kernel_rfl) (fun _ _ _ h => h) (Or.inr ⟨by rfl, rfl⟩) (by assumption) ?_
                try simp only [Act.put, List.setIfInBounds_toArray, List.set_cons_zero, List.set_cons_succ]
                refine wpAnyH_take (i := 35) (oi := { dst := some 190, op := Op.indexAddr 36 (Operand.tmp 188) (Operand.tmp 189), type := 0, pos := _, after := #[{ on := 33, ground := Ground.data }, { on := 34, ground := Ground.data }, { on := 22, ground := Ground.guard }], guard := some (22, true) }) (v := undef) rfl (by kernel_rfl) (by kernel_rfl) (by kernel_rfl) (fun _ _ _ h => h) (Or.inr ⟨by rfl, rfl⟩) (by assumption) ?_
                try simp only [Act.put, List.setIfInBounds_toArray, List.set_cons_zero, List.set_cons_succ]
                refine wpAnyH_take (i := 36) (oi := { dst := some 191, op := Op.load 25 (Operand.tmp 190), type := 25, pos := _, after := #[{ on := 35, ground := Ground.data }, { on := 22, ground := Ground.guard }], guard := some (22, true) }) (v := undef) rfl (by kernel_rfl) (by kernel_rfl) (by kernel_rfl) (fun _ _ _ h => h) (Or.inr ⟨by rfl, rfl⟩) (by assumption) ?_
                try simp only [Act.put, List.setIfInBounds_toArray, List.set_cons_zero, List.set_cons_succ]
                refine wpAnyH_take (i := 37) (oi := { dst := some 192, op := Op.call { callee := Callee.value (Operand.func 23), args := #[Operand.tmp 187, Operand.tmp 191], argTypes := #[23, 25] }, type := 4, pos := _, after := #[{ on := 32, ground := Ground.data }, { on := 36, ground := Ground.data }, { on := 28, ground := Ground.chain }, { on := 22, ground := Ground.guard }], guard := some (22, true) }) (v := undef) rfl (by kernel_rfl) (by kernel_rfl) (by kernel_rfl) (fun _ _ _ h => h) (Or.inr ⟨by rfl, rfl⟩) (by assumption) ?_
                try simp only [Act.put, List.setIfInBounds_toArray, List.set_cons_zero, List.set_cons_succ]
                refine wpAnyH_take (i := 38) (oi := { dst := some 193, op := Op.binOp BinOp.neq 4 (Operand.tmp 183) (Operand.tmp 192) 4, type := 4, pos := _, after := #[{ on := 28, ground := Ground.data }, { on := 37, ground := Ground.data }, { on := 22, ground := Ground.guard }], guard := some (22, true) }) (v := undef) rfl (by kernel_rfl) (by kernel_rfl) (by kernel_rfl) (fun _ _ _ h => h) (Or.inr ⟨by rfl, rfl⟩) (by assumption) ?_
                try simp only [Act.put, List.setIfInBounds_toArray, List.set_cons_zero, List.set_cons_succ]
                refine wpAnyH_take (i := 39) (oi := { dst := some 194, op := Op.pick (Operand.tmp 177) (Operand.tmp 193) (Operand.const (Value.bool false)), type := 4, pos := _, after := #[{ on := 22, ground := Ground.data }, { on := 38, ground := Ground.data }, { on := 19, ground := Ground.guard }], guard := some (19, false) }) (v := ?_) rfl (by kernel_rfl) (by kernel_rfl) (by kernel_rfl) (fun _ _ _ h => h) (Or.inl ⟨by rfl, ?_⟩) (by assumption) ?_
                rotate_left 1
                · (intro w hSw; (try dsimp only at hSw); go_simp; first | done | with_reducible rfl)
                try simp only [Act.put, List.setIfInBounds_toArray, List.set_cons_zero, List.set_cons_succ]
                refine wpAnyH_take (i := 40) (oi := { dst := some 195, op := Op.pick (Operand.tmp 174) (Operand.const (Value.bool true)) (Operand.tmp 194), type := 4, pos := _, after := #[{ on := 19, ground := Ground.data }, { on := 39, ground := Ground.data }], guard := none }) (v := ?_) rfl (by kernel_rfl) (by kernel_rfl) (by kernel_rfl) (fun _ _ _ h => h) (Or.inl ⟨by rfl, ?_⟩) (by assumption) ?_
                rotate_left 1
                · (intro w hSw; (try dsimp only at hSw); go_simp; first | done | with_reducible rfl)
                try simp only [Act.put, List.setIfInBounds_toArray, List.set_cons_zero, List.set_cons_succ]
                refine wpAnyH_done (by kernel_rfl) ?_ _
                refine NoPanic.normal ?_
                have HBB := Lib.hid hB
                clear hB hSd hS0
                go_wp2_with fail
                go_meet
                exact ⟨rfl, HBB⟩
            case rest =>
            obtain ⟨rfl, hSD⟩ := hcut
            have HSB := Lib.hid (Since.step hS.out hSD.out)
            clear hSD hS
            go_wp2
            go_roundw
            case rel => exact ⟨j + 1, by omega, by go_num, HSB⟩
            case measure => simp [intOf]; omega
          · have j3 : ¬ (j : Int) < 3 := by omega
            have HSq := Lib.hid (Since.step HSz.out hS.out)
            clear hS HSz
            rename World => wq0
            go_wp2
            go_loopw [26] (fun x wq => ∃ j : Nat, j ≤ 6 ∧ x = .int .i64 j ∧ Hid (Since wA wq)) (fun x _ => 7 - (intOf x).toNat)
            case atStart => exact ⟨0, by omega, rfl, HSq⟩
            case round =>
              obtain ⟨j, hj, rfl, hS⟩ := hrel
              by_cases hlt2 : j < 6
              · obtain ⟨ys, hy⟩ : ∃ ys, XS[j]? = some ys := ⟨_, List.getElem?_eq_getElem (by rw [H6.out]; exact hlt2)⟩
                obtain ⟨-, hlen2⟩ := HXS.out ys (List.mem_of_getElem? hy)
                obtain ⟨vj, s2, hv2⟩ := lels_at HLE4.out hy
                have t1 := Lib.hid (Since.cell hS.out SI.out)
                have t2 := Lib.hid (Since.cell hS.out s2)
                have hA := HVA.out.below hS.out
                have hB2 := hv2.below hS.out
                have j1 : (j : Int) < 6 := by omega
                have k1 := fun W (h : Since wr W) => (equal_any vi vj xs ys W (hA.below h) (hB2.below h) (by have := HLN.out; omega)).mono (R' := fun e w' => e = .returned (.bool (decide (xs = ys))) ∧ Since wr w') fun e w' hq => ⟨hq.1, Since.step h hq.2⟩
                have k2 := fun W (h : Since wr W) => (gequal_any vi vj xs ys W (hA.below h) (hB2.below h) (by have := HLN.out; omega)).mono (R' := fun e w' => e = .returned (.bool (decide (xs = ys))) ∧ Since wr w') fun e w' hq => ⟨hq.1, Since.step h hq.2⟩
                generalize decide (xs = ys) = G at *
                have K1 := Lib.hid k1
                have K2 := Lib.hid k2
                have hS0 : Since wr wr := Below.refl _ _
                have hSd : Since wr wr.drew := Below.drew hS0
                clear k1 k2 hA hB2 hy s2 hv2 hlen2
                go_wp2
                go_region_held3 (fun w' => w'.cell? ⟨b, i, none⟩ = some vi ∧ w'.cell? ⟨b, j, none⟩ = some vj ∧ Since wr w')
                  (first | exact ⟨Since.cell hSd t1.out, Since.cell hSd t2.out, hSd⟩ | exact ⟨Since.cell hB t1.out, Since.cell hB t2.out, hB⟩)
                  ((first
                    | (go_at_call 22; refine (K1.out _ (by first | exact hB | exact hSd)).mono ?_; rintro e w' ⟨rfl, hB⟩)
                    | (go_at_call 21; refine (K2.out _ (by first | exact hB | exact hSd)).mono ?_; rintro e w' ⟨rfl, hB⟩)))
                have HSB := Lib.hid (Since.step hS.out hB)
                clear hB hSd hS0 hS
                go_wp2
                go_roundw
                case rel => exact ⟨j + 1, by omega, by go_num, HSB⟩
                case measure => simp [intOf]; omega
              · have j6 : ¬ (j : Int) < 6 := by omega
                go_wp2
                go_roundw
                case rel => exact ⟨i + 1, by omega, by go_num, hS⟩
                case measure => simp [intOf]; omega
      · have hi6 : ¬ (i : Int) < 6 := by omega
        have HBF := Lib.hid (H12.out.trans (hS.out.mono H12.out.size))
        go_wp2_with fail
        refine (lives04_any _).mono ?_
        rintro e wz ⟨rfl, hrz⟩
        have HBZ := Lib.hid (HBF.out.trans (hrz.mono HBF.out.size))
        go_wp2
        go_ret
        exact ⟨rfl, HBZ.out⟩

end Go.Proofs.Ytimbgjpjgbjnkaa
