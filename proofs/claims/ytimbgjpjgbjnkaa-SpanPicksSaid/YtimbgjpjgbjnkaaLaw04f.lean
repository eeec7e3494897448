/- The law SpanPicks. -/
import Derived.Test.YtimbgjpjgbjnkaaPks
import Derived.Test.YtimbgjpjgbjnkaaNew6
namespace Go.Proofs.Ytimbgjpjgbjnkaa
open Go.RowKit Go.Shelf

/-- What Pick says of a list: error, none, or the simplest number. -/
def Pk (xs : List Iv) (rn rd : Int) (q : Bool) (er : Int) : Prop :=
  ((er = 1 ∨ er = 4) ∧ q = false ∧ rn = 0 ∧ rd = 0) ∨ (er = 0 ∧ q = false ∧ xs = [] ∧ rn = 0 ∧ rd = 0) ∨ (er = 0 ∧ q = true ∧ 0 < xs.length ∧ I64 rn ∧ I64 rd ∧ hasL xs rn rd = true)

theorem pick_has {xs : List Iv} (hg : ∀ x ∈ xs, x.good = true) {r : Int × Int} (h : IsPick xs r) : hasL xs r.1 r.2 = true := by
  obtain ⟨o, hi⟩ := pick_in h
  exact (hasL_iff hg o).2 hi

theorem pick_fix (xs : List Iv) : ∃ (rn rd : Int) (q : Bool) (er : Int), (∀ w e w', PickOut xs w e w' → e = .returned (.tuple #[.agg #[.int .i64 rn, .int .i64 rd], .bool q, .int .i64 er]) ∧ Below w.heap.size w w') ∧ Pk xs rn rd q er := by
  by_cases hv : validL xs = 0
  · have hf := (validL_fit hv).1
    by_cases h0 : xs = []
    · refine ⟨0, 0, false, 0, fun w e w' h => ⟨?_, h.1⟩, .inr (.inl ⟨rfl, rfl, h0, rfl, rfl⟩)⟩
      rcases h.2 with ⟨h1, _⟩ | ⟨_, _, he⟩ | ⟨_, h1, _⟩
      · exact absurd hv h1
      · exact he
      · exact absurd h0 h1
    · obtain ⟨r, hr⟩ := pick_exists (fit_goods hf) h0
      have hn := ok_nums (pick_in hr).1
      refine ⟨r.1, r.2, true, 0, fun w e w' h => ⟨?_, h.1⟩, .inr (.inr ⟨rfl, rfl, List.length_pos_iff.2 h0, hn.1, hn.2, pick_has (fit_goods hf) hr⟩)⟩
      rcases h.2 with ⟨h1, _⟩ | ⟨_, h1, _⟩ | ⟨_, _, s, hs, he⟩
      · exact absurd hv h1
      · exact absurd h1 h0
      · rw [he, hs.one hr]
        rfl
  · refine ⟨0, 0, false, validL xs, fun w e w' h => ⟨?_, h.1⟩, .inl ⟨?_, rfl, rfl, rfl⟩⟩
    · rcases h.2 with ⟨_, he⟩ | ⟨h1, _⟩ | ⟨h1, _⟩
      · exact he
      · exact absurd h1 hv
      · exact absurd h1 hv
    · unfold validL at hv ⊢
      split
      · next hf =>
        rw [if_pos hf] at hv
        split
        · exact .inr rfl
        · next hl => rw [if_neg hl] at hv; exact absurd rfl hv
      · exact .inl rfl

set_option maxHeartbeats 16000000 in
set_option maxRecDepth 100000 in
theorem law_picks (a0 : Option Addr) (len0 cap0 : Nat) (z0 : List Int) (a1 a2 a3 : Int) (w : World) (w0 : Came .i64 w a0 len0 cap0 z0) (w1 : (Lit.int .i64 a1).wf = true) (w2 : (Lit.int .i64 a2).wf = true) (w3 : (Lit.int .i64 a3).wf = true) :
    Calls Try.prog 7 #[.slice a0 len0 cap0, .int .i64 a1, .int .i64 a2, .int .i64 a3] w fun e w' => e = .returned (.bool true) ∧ Below w.heap.size w w' := by
  have KS := Lib.hid fun W (hB : Below w.heap.size w W) => set_any a0 len0 cap0 (z0.take len0) 5 W (w0.els.below hB) (came_wfs4 w0) (by decide)
  obtain ⟨m, hm⟩ : ∃ m : Nat, aroundI a3 34 = (m : Int) := ⟨(aroundI a3 34).toNat, by have := aroundI_range a3 34 (by decide); omega⟩
  have hm34 : m < 34 := by have := aroundI_range a3 34 (by decide); omega
  have KA := Lib.hid fun W => around_any a3 34 W (by decide) (by decide) w3
  rw [hm] at KA
  have hqr := boundI_range a2 1073741824 (by decide)
  have KB := Lib.hid fun W => bound_any a2 1073741824 W (by decide) (by decide) w2
  generalize boundI a2 1073741824 = q at *
  have hqr2 := boundI_range a2 30 (by decide)
  have KB2 := Lib.hid fun W => bound_any a2 30 W (by decide) (by decide) w2
  generalize boundI a2 30 = q2 at *
  have hqr3 := boundI_range a3 40 (by decide)
  have KB3 := Lib.hid fun W => bound_any a3 40 W (by decide) (by decide) w3
  generalize boundI a3 40 = q3 at *
  have KW := Lib.hid fun W => whole_any q W
  have KSQ := Lib.hid fun (sv : Value) (L : List Iv) W (h : REls RIv W sv L) (hwf : ∀ x ∈ L, x.wf) (hl : L.length ≤ 100) => spoilt_any sv L a1 q2 W h hwf (by omega) w1 (by simp [Lit.wf, IntKind.min, IntKind.max, IntKind.signed, IntKind.bits]; omega)
  obtain ⟨M, hM⟩ : ∃ M : Nat, 1 + (m : Int) = (M : Int) := ⟨1 + m, by omega⟩
  have hM34 : M ≤ 34 := by omega
  have n1 : IntKind.i64.wrap (1 + (m : Int)) = (M : Int) := by rw [hM]; exact IntWalk.i64_in _ (by omega)
  have KM := Lib.hid fun W => many_any M q3 W (by omega) (by omega)
  have HWM := Lib.hid (many_wf (z := q3) (n := M) (by omega) (by omega))
  have HML : Hid ((manyL q3 M).length = M) := Lib.hid (manyL_len _ _)
  have HWQ : Hid (∀ x ∈ [(⟨q, 1, 0, 0, true, false, false, true⟩ : Iv)], x.wf) := Lib.hid fun x hx => by
    rw [List.mem_singleton.1 hx]
    have o1 : I64 1 := ⟨by decide, by decide⟩
    have oz : I64 0 := ⟨by decide, by decide⟩
    have oq : I64 q := ⟨by omega, by omega⟩
    exact ⟨oq, o1, oz, oz⟩
  have HB0 : Hid (Below w.heap.size w w) := Lib.hid (Below.refl _ _)
  have hM' : 1 + (m : Int) = (M : Int) := hM
  clear w0 w1 w2 w3 hm hm34 hqr hqr2 hqr3 hM
  generalize manyL q3 M = Y0 at *
  go_enter Try.func7, Try.ntmps7
  go_wp2_with fail
  refine (KS.out _ HB0.out).mono ?_
  rintro e W1 ⟨L, al, nl, cl, hf, hl, rfl, hE, hr⟩
  have H1 := Lib.hid (HB0.out.trans (hr.out.mono HB0.out.size))
  have RA_1 := hE
  obtain ⟨NL, hfn, -, hln, hnl⟩ := op_not hf (by omega)
  have kc := fun W (h : Since W1 W) => gcombine_any (.slice al nl cl) (.slice none 0 0) L [] 2 (fun x _ => !x) W (.inr (.inr ⟨rfl, rfl⟩)) (RA_1.out.below h) (.inl ⟨.inl rfl, rfl⟩) (by omega) (by simp)
  simp only [comb_not] at kc
  rw [hnl] at kc
  have KC := Lib.hid kc
  have HFL := Lib.hid hf
  have HFN := Lib.hid hfn
  have HL5 := Lib.hid hl
  have HL6 : Hid (NL.length ≤ 100) := Lib.hid (by omega)
  clear hr hE hf hl HB0 hfn hln hnl kc KS
  go_wp2_with fail
  refine (KC.out W1 (Below.refl _ _)).mono ?_
  rintro e W2 ⟨an, nn, cn, rfl, hEN, hr⟩
  have H2 := Lib.hid (H1.out.trans (hr.mono H1.out.size))
  have RA_2 := Lib.hid (RA_1.out.below hr)
  have RN_2 := Lib.hid hEN
  clear hr RA_1 H1 hEN KC
  go_wp2_with fail
  refine (KB.out _).mono ?_
  rintro e w' ⟨rfl, rfl⟩
  go_wp2_with fail
  refine (KW.out _).mono ?_
  rintro e W3 ⟨rfl, hr⟩
  have hFO := ROwn.new RIv 27 W3 [⟨q, 1, 0, 0, true, false, false, true⟩] #[.int .i64 q, .int .i64 1, .int .i64 0, .int .i64 0, .bool true, .bool false, .bool false, .bool true] rfl (by unfold maxLen; simp)
  have h4 : Below W2.heap.size W2 (W3.alloc (.cells #[.int .i64 q, .int .i64 1, .int .i64 0, .int .i64 0, .bool true, .bool false, .bool false, .bool true] 27)) := hr.alloc hr.size _
  have hFE := hFO.els
  have hW4 : ∃ W4, W4 = W3.alloc (.cells #[.int .i64 q, .int .i64 1, .int .i64 0, .int .i64 0, .bool true, .bool false, .bool false, .bool true] 27) := ⟨_, rfl⟩
  obtain ⟨W4, hW4⟩ := hW4
  rw [← hW4] at h4 hFE
  have H4 := Lib.hid (H2.out.trans (h4.mono H2.out.size))
  have RA_4 := Lib.hid (RA_2.out.below h4)
  have RN_4 := Lib.hid (RN_2.out.below h4)
  have RF_4 : Hid (REls RIv W4 (.slice (some ⟨W3.heap.size, 0, none⟩) 1 1) [⟨q, 1, 0, 0, true, false, false, true⟩]) := Lib.hid hFE
  clear hr h4 hFE hFO RA_2 RN_2 H2 KB KW
  generalize [(⟨q, 1, 0, 0, true, false, false, true⟩ : Iv)] = FL at *
  have HF1 := Lib.hid RF_4.out.len
  go_upto_region 4 with (fail)
  rw [← hW4]
  generalize W3.heap.size = fb at *
  clear hW4
  go_wp2_with fail
  refine (KB2.out _).mono ?_
  rintro e w' ⟨rfl, rfl⟩
  go_wp2_with fail
  refine (KSQ.out _ L _ RA_4.out HFL.out.wf (by have := HL5.out; omega)).mono ?_
  rintro e W5 ⟨S1, b1, l1, c1, hl1, hw1, rfl, hO1, hr⟩
  have H5 := Lib.hid (H4.out.trans (hr.out.mono H4.out.size))
  have RA_5 := Lib.hid (RA_4.out.below hr.out)
  have RN_5 := Lib.hid (RN_4.out.below hr.out)
  have RF_5 := Lib.hid (RF_4.out.below hr.out)
  have RS_5 := Lib.hid hO1.out.els
  have HW1 := Lib.hid hw1
  have HL1 : Hid (S1.length ≤ 100) := Lib.hid (by have := HL5.out; omega)
  clear hr hO1 hl1 hw1 RA_4 RN_4 RF_4 H4 KSQ KB2
  go_wp2_with fail
  refine (KA.out _).mono ?_
  rintro e w' ⟨rfl, rfl⟩
  go_wp2_with fail
  refine (KB3.out _).mono ?_
  rintro e w' ⟨rfl, rfl⟩
  go_wp2_with fail
  refine (KM.out _).mono ?_
  rintro e W6 ⟨b3, l3, c3, rfl, hO3, hr⟩
  have H6 := Lib.hid (H5.out.trans (hr.out.mono H5.out.size))
  have hLE := LEls.new6 (RA_5.out.below hr.out) (RS_5.out.below hr.out) (RN_5.out.below hr.out) hO3.out.els (RF_5.out.below hr.out) (show REls RIv W6 (.slice none 0 0) [] from .inl ⟨.inl rfl, rfl⟩) 23
  have H7 := Lib.hid (H6.out.alloc H6.out.size (.cells #[.slice al nl cl, .slice b1 l1 c1, .slice an nn cn, .slice b3 l3 c3, .slice (some ⟨fb, 0, none⟩) 1 1, .slice none 0 0] 23))
  have HXS : Hid (∀ xs ∈ [L, S1, NL, Y0, FL, []], (∀ x ∈ xs, x.wf) ∧ xs.length ≤ 100) := Lib.hid fun xs hx => by
    simp only [List.mem_cons, List.not_mem_nil, or_false] at hx
    rcases hx with rfl | rfl | rfl | rfl | rfl | rfl
    · exact ⟨HFL.out.wf, by have := HL5.out; omega⟩
    · exact ⟨HW1.out, HL1.out⟩
    · exact ⟨HFN.out.wf, HL6.out⟩
    · exact ⟨HWM.out, by rw [HML.out]; omega⟩
    · exact ⟨HWQ.out, by rw [← HF1.out]; omega⟩
    · exact ⟨fun x hx => (by cases hx), by simp⟩
  have HLE := Lib.hid hLE
  have h6 : [L, S1, NL, Y0, FL, []].length = 6 := rfl
  generalize [L, S1, NL, Y0, FL, []] = XS at *
  have H6L := Lib.hid h6
  have hwA : ∃ wA, wA = W6.alloc (.cells #[.slice al nl cl, .slice b1 l1 c1, .slice an nn cn, .slice b3 l3 c3, .slice (some ⟨fb, 0, none⟩) 1 1, .slice none 0 0] 23) := ⟨_, rfl⟩
  obtain ⟨wA, hwA⟩ := hwA
  rw [← hwA] at H7 HLE
  clear hr hO3 hLE RA_5 RN_5 RF_5 RS_5 H5 H6 HFL HW1 HFN HWM HWQ HML HL1 HL5 HL6 HF1 h6 KA KB3 KM
  go_upto_region 5 with (fail)
  rw [← hwA]
  generalize W6.heap.size = b at *
  clear hwA
  go_wp2
  go_loopw [14] (fun x wr => ∃ i : Nat, i ≤ 6 ∧ x = .int .i64 i ∧ Hid (Since wA wr)) (fun x _ => 7 - (intOf x).toNat)
  case atStart => exact ⟨0, by omega, rfl, Below.refl _ _⟩
  case round =>
    obtain ⟨i, hi, rfl, hS⟩ := hrel
    by_cases hlt : i < 6
    · obtain ⟨xs, hx⟩ : ∃ xs, XS[i]? = some xs := ⟨_, List.getElem?_eq_getElem (by rw [H6L.out]; exact hlt)⟩
      obtain ⟨hwf, hlen⟩ := HXS.out xs (List.mem_of_getElem? hx)
      obtain ⟨vi, s1, hv⟩ := lels_at HLE.out hx
      have t1 := Since.cell hS.out s1
      have hV := hv.below hS.out
      obtain ⟨rn, rd, pq, er, hfix, hpk⟩ := pick_fix xs
      have k1 := (pick_any vi xs wr hV hwf (by omega)).mono fun e w' h => hfix _ e w' h
      have k2 := fun W (h : Since wr W) => (gpick_any vi xs W (hV.below h) (by omega)).mono fun e w' h => hfix _ e w' h
      have k3 := fun W (h : Since wr W) (h1 : I64 rn) (h2 : I64 rd) => shas_any vi xs rn rd W (hV.below h) hwf (by omega) h1 h2
      obtain ⟨av, cv, rfl⟩ := hV.shape
      have i1 : (i : Int) < 6 := by omega
      have K1 := Lib.hid k1
      have K2 := Lib.hid k2
      have K3 := Lib.hid k3
      have HPK := Lib.hid hpk
      have HT1 := Lib.hid t1
      clear hfix hpk k1 k2 k3 hv hV hx hwf hlen s1 t1
      have t1 := HT1.out
      go_wp2_with fail
      refine (K1.out).mono ?_
      rintro e wb ⟨rfl, hr1⟩
      have hb1 : Since wr (wb.alloc (.cells #[.int .i64 rn, .int .i64 rd] 25)) := hr1.alloc hr1.size _
      have t2 := Since.cell hb1 t1
      have XB1 := Lib.hid (BoxL.made wb #[.int .i64 rn, .int .i64 rd] 25)
      have HB1 := Lib.hid hb1
      clear hr1 hb1
      go_wp2_with fail
      refine (K2.out _ HB1.out).mono ?_
      rintro e wc ⟨rfl, hr2⟩
      have hb2 := Since.step HB1.out hr2
      have XB1c := Lib.hid (XB1.out.keep hr2)
      have XB2 := Lib.hid (BoxL.made wc #[.int .i64 rn, .int .i64 rd] 25)
      have XB1d := Lib.hid (XB1c.out.under (.cells #[.int .i64 rn, .int .i64 rd] 25))
      have hb3 : Since wr (wc.alloc (.cells #[.int .i64 rn, .int .i64 rd] 25)) := Below.alloc hb2 (Below.size hb2) _
      have HB3 := Lib.hid hb3
      have hwd : ∃ wd, wd = wc.alloc (.cells #[.int .i64 rn, .int .i64 rd] 25) := ⟨_, rfl⟩
      obtain ⟨wd, hwd⟩ := hwd
      rw [← hwd] at XB2 XB1d HB3
      have HSD := Lib.hid (Since.step hS.out HB3.out)
      clear hr2 hb2 hb3 XB1 XB1c HB1 t2 t1
      go_upto_region 10 with (fail)
      rw [← hwd]
      generalize wc.heap.size = N2 at *
      generalize wb.heap.size = N1 at *
      clear hwd
      have t3 := Since.cell HB3.out HT1.out
      obtain ⟨p0, p1, -, -, p2⟩ := XB1d.out.open2
      obtain ⟨q0, q1, -, -, q2'⟩ := XB2.out.open2
      go_cut [110] (fun s wx => s = .bool false ∧ Hid (Since wd wx))
      case first =>
        have hS0 : Since wd wd := Below.refl _ _
        have hSd : Since wd wd.drew := Below.drew hS0
        have HS0 := Lib.hid hS0
        rcases HPK.out with ⟨her, rfl, rfl, rfl⟩ | ⟨rfl, rfl, rfl, rfl, rfl⟩ | ⟨rfl, rfl, hpos, hi1, hi2, hh⟩
        · rcases her with rfl | rfl
          all_goals
            go_quiet (fail)
            all_goals
              go_wp2_with fail
              go_meet
              exact ⟨rfl, Lib.hid (below_drewN HS0.out _)⟩
        · go_quiet (fail)
          all_goals
            go_wp2_with fail
            go_meet
            exact ⟨rfl, Lib.hid (below_drewN HS0.out _)⟩
        · have k3 := fun W (h : Since wd W) => (K3.out W (Since.step HB3.out h) hi1 hi2).mono (R' := fun e w' => e = .returned (.bool true) ∧ Since wd w') fun e w' hq => ⟨hq.1.trans (ret_bool hh), Since.step h hq.2⟩
          unfold rv at k3
          have K4 := Lib.hid k3
          generalize xs.length = nx at *
          have hp1 : (nx : Int) > 0 := by omega
          clear k3 K3 K1 K2 hh
          go_region_held3 (fun w' => w'.cell? ⟨b, i, none⟩ = some (.slice av nx cv) ∧ w'.cell? ⟨N1, 0, none⟩ = some (.int .i64 rn) ∧ w'.cell? ⟨N1, 1, none⟩ = some (.int .i64 rd) ∧ w'.cell? ⟨N2, 0, none⟩ = some (.int .i64 rn) ∧ w'.cell? ⟨N2, 1, none⟩ = some (.int .i64 rd) ∧ Since wd w')
            (first | exact ⟨Since.cell hSd t3, Since.cell hSd p0, Since.cell hSd p1, Since.cell hSd q0, Since.cell hSd q1, hSd⟩ | exact ⟨Since.cell hB t3, Since.cell hB p0, Since.cell hB p1, Since.cell hB q0, Since.cell hB q1, hB⟩)
            ((go_at_call 23; refine (K4.out _ hSd).mono ?_; rintro e w' ⟨rfl, hB⟩))
          have HBB := Lib.hid hB
          clear hB hSd hS0
          go_wp2_with fail
          go_meet
          exact ⟨rfl, HBB⟩
      case rest =>
      obtain ⟨rfl, hSE⟩ := hcut
      have HSE := Lib.hid (Since.step HSD.out hSE.out)
      clear hSE
      go_wp2
      go_roundw
      case rel => exact ⟨i + 1, by omega, by go_num, HSE⟩
      case measure => simp [intOf]; omega
    · have hi6 : ¬ (i : Int) < 6 := by omega
      have HBF := Lib.hid (H7.out.trans (hS.out.mono H7.out.size))
      go_wp2_with fail
      refine (lives04_any _).mono ?_
      rintro e wz ⟨rfl, hrz⟩
      have HBZ := Lib.hid (HBF.out.trans (hrz.mono HBF.out.size))
      go_wp2
      go_ret
      exact ⟨rfl, HBZ.out⟩

end Go.Proofs.Ytimbgjpjgbjnkaa
