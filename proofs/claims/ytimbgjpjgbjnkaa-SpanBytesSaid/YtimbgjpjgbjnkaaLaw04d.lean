/- The law SpanCombine. -/
import Derived.Test.YtimbgjpjgbjnkaaLaw04c
import Derived.Test.YtimbgjpjgbjnkaaMnySpo
import Derived.Test.YtimbgjpjgbjnkaaRoqRor
namespace Go.Proofs.Ytimbgjpjgbjnkaa
open Go.RowKit Go.Shelf

/-- A new slice of five slices. -/
theorem LEls.new5 {w : World} {v0 v1 v2 v3 v4 : Value} {x0 x1 x2 x3 x4 : List Iv} (h0 : REls RIv w v0 x0) (h1 : REls RIv w v1 x1) (h2 : REls RIv w v2 x2) (h3 : REls RIv w v3 x3) (h4 : REls RIv w v4 x4) (T : TypeId) :
    LEls (w.alloc (.cells #[v0, v1, v2, v3, v4] T)) (.slice (some ⟨w.heap.size, 0, none⟩) 5 5) [x0, x1, x2, x3, x4] := by
  have hX := BoxL.made w #[v0, v1, v2, v3, v4] T
  have hB : Below w.heap.size w (w.alloc (.cells #[v0, v1, v2, v3, v4] T)) := (Below.refl _ _).alloc (Nat.le_refl _) _
  refine ⟨w.heap.size, 5, rfl, Nat.le_refl _, by simp, fun j zs hj => ?_⟩
  match j with
  | 0 =>
    simp at hj
    subst hj
    exact ⟨v0, (hX.2 0 v0 rfl).1, h0.below hB⟩
  | 1 =>
    simp at hj
    subst hj
    exact ⟨v1, (hX.2 1 v1 rfl).1, h1.below hB⟩
  | 2 =>
    simp at hj
    subst hj
    exact ⟨v2, (hX.2 2 v2 rfl).1, h2.below hB⟩
  | 3 =>
    simp at hj
    subst hj
    exact ⟨v3, (hX.2 3 v3 rfl).1, h3.below hB⟩
  | 4 =>
    simp at hj
    subst hj
    exact ⟨v4, (hX.2 4 v4 rfl).1, h4.below hB⟩
  | j + 5 => simp at hj

theorem lels_at {w : World} {b n c : Nat} {XS : List (List Iv)} (h : LEls w (.slice (some ⟨b, 0, none⟩) n c) XS) {j : Nat} {xs : List Iv} (hx : XS[j]? = some xs) : ∃ v, w.cell? ⟨b, j, none⟩ = some v ∧ REls RIv w v xs := by
  obtain ⟨b', c', e, _, _, hat⟩ := h
  have e1 : b = b' := by
    injection e with e1 _ _
    injection e1 with e1
    injection e1
  subst e1
  exact hat j xs hx

theorem limL_len (L : List Iv) : (limL L).1.length ≤ 1000 := by
  unfold limL
  split
  · exact Nat.zero_le _
  · show L.length ≤ 1000
    omega

theorem opL_len (S : Int → Prop) (a b : List Iv) : (opL S a b).1.length ≤ 1000 := by
  unfold opL
  split
  · exact Nat.zero_le _
  · split
    · exact Nat.zero_le _
    · exact limL_len _

theorem notL_len (a : List Iv) : (notL a).1.length ≤ 1000 := by
  unfold notL
  split
  · exact Nat.zero_le _
  · exact limL_len _

theorem many_wf {z : Int} {n : Nat} (hz : -1000000000 ≤ z ∧ z ≤ 1000000000) (hn : n ≤ 1000) : ∀ x ∈ manyL z n, x.wf := by
  intro x hx
  unfold manyL at hx
  obtain ⟨k, hk, rfl⟩ := List.mem_map.1 hx
  have := List.mem_range.1 hk
  have h1 : I64 (z + (k : Int)) := ⟨by omega, by omega⟩
  have h2 : I64 1 := ⟨by decide, by decide⟩
  exact ⟨h1, h2, h1, h2⟩

set_option maxHeartbeats 16000000 in
set_option maxRecDepth 100000 in
theorem law_combine (a0 : Option Addr) (len0 cap0 : Nat) (z0 : List Int) (a1 : Option Addr) (len1 cap1 : Nat) (z1 : List Int) (a2 a3 a4 : Int) (w : World) (w0 : Came .i64 w a0 len0 cap0 z0) (w1 : Came .i64 w a1 len1 cap1 z1) (w2 : (Lit.int .i64 a2).wf = true) (w3 : (Lit.int .i64 a3).wf = true) (w4 : (Lit.int .i64 a4).wf = true) :
    Calls Try.prog 4 #[.slice a0 len0 cap0, .slice a1 len1 cap1, .int .i64 a2, .int .i64 a3, .int .i64 a4] w fun e w' => e = .returned (.bool true) ∧ Below w.heap.size w w' := by
  have KS0 := Lib.hid fun W (hB : Below w.heap.size w W) => set_any a0 len0 cap0 (z0.take len0) 6 W (w0.els.below hB) (came_wfs4 w0) (by decide)
  have KS1 := Lib.hid fun W (hB : Below w.heap.size w W) => set_any a1 len1 cap1 (z1.take len1) 6 W (w1.els.below hB) (came_wfs4 w1) (by decide)
  obtain ⟨m, hm⟩ : ∃ m : Nat, aroundI a4 18 = (m : Int) := ⟨(aroundI a4 18).toNat, by have := aroundI_range a4 18 (by decide); omega⟩
  have hm18 : m < 18 := by have := aroundI_range a4 18 (by decide); omega
  have KA := Lib.hid fun W => around_any a4 18 W (by decide) (by decide) w4
  rw [hm] at KA
  have hqr := boundI_range a3 30 (by decide)
  have KB := Lib.hid fun W => bound_any a3 30 W (by decide) (by decide) w3
  generalize boundI a3 30 = q at *
  have KSP := Lib.hid fun (sv : Value) (L : List Iv) W (h : REls RIv W sv L) (hwf : ∀ x ∈ L, x.wf) (hl : L.length ≤ 6) => spoilt_any sv L a2 q W h hwf (by omega) w2 (by simp [Lit.wf, IntKind.min, IntKind.max, IntKind.signed, IntKind.bits]; omega)
  obtain ⟨M, hM⟩ : ∃ M : Nat, 15 + (m : Int) = (M : Int) := ⟨15 + m, by omega⟩
  have hM32 : M ≤ 32 := by omega
  have n1 : IntKind.i64.wrap (15 + (m : Int)) = (M : Int) := by rw [hM]; exact IntWalk.i64_in _ (by omega)
  have n2 : IntKind.i64.wrap ((M : Int) + 3) = (M : Int) + 3 := IntWalk.i64_in _ (by omega)
  have KM0 := Lib.hid fun W => many_any M 0 W (by omega) (by decide)
  have KM1 := Lib.hid fun W => many_any M ((M : Int) + 3) W (by omega) (by omega)
  have HW0 := Lib.hid (many_wf (z := 0) (n := M) (by decide) (by omega))
  have HW1 := Lib.hid (many_wf (z := (M : Int) + 3) (n := M) (by omega) (by omega))
  have HM0 : Hid ((manyL 0 M).length ≤ 100) := Lib.hid (by rw [manyL_len]; omega)
  have HM1 : Hid ((manyL ((M : Int) + 3) M).length ≤ 100) := Lib.hid (by rw [manyL_len]; omega)
  have HB0 : Hid (Below w.heap.size w w) := Lib.hid (Below.refl _ _)
  have hm' : 15 + (m : Int) = (M : Int) := hM
  clear w0 w1 w2 w3 w4 hm hm18 hqr hM
  generalize manyL 0 M = Y0 at *
  generalize manyL ((M : Int) + 3) M = Y1 at *
  go_enter Try.func4, Try.ntmps4
  go_wp2_with fail
  refine (KS0.out _ HB0.out).mono ?_
  rintro e w5 ⟨L0, b0, l0, c0, hf0, hl0, rfl, hE0, hr0⟩
  have HB1 := Lib.hid (HB0.out.trans (hr0.out.mono HB0.out.size))
  have HF0 := Lib.hid hf0
  clear hr0 hf0 HB0
  go_wp2_with fail
  refine (KS1.out _ HB1.out).mono ?_
  rintro e w6 ⟨L1, b1, l1, c1, hf1, hl1, rfl, hE1, hr1⟩
  have HB2 := Lib.hid (HB1.out.trans (hr1.out.mono HB1.out.size))
  have HE0 := Lib.hid (hE0.out.below hr1.out)
  have HF1 := Lib.hid hf1
  clear hr1 hf1 hE0 HB1
  go_wp2_with fail
  refine (KA.out _).mono ?_
  rintro e w7 ⟨rfl, rfl⟩
  go_wp2_with fail
  refine (KB.out _).mono ?_
  rintro e w7 ⟨rfl, rfl⟩
  go_wp2_with fail
  refine (KSP.out _ L1 _ hE1.out HF1.out.wf hl1).mono ?_
  rintro e w7 ⟨L2, b2, l2, c2, hl2, hwf2, rfl, hO2, hr2⟩
  have HB3 := Lib.hid (HB2.out.trans (hr2.out.mono HB2.out.size))
  have HE01 := Lib.hid (HE0.out.below hr2.out)
  have HE11 := Lib.hid (hE1.out.below hr2.out)
  have HE21 := Lib.hid hO2.out.els
  have HW2 := Lib.hid hwf2
  clear hr2 hwf2 hO2 hE1 HE0 HB2
  go_wp2_with fail
  refine (KM0.out _).mono ?_
  rintro e w8 ⟨b3, l3, c3, rfl, hO3, hr3⟩
  have HB4 := Lib.hid (HB3.out.trans (hr3.out.mono HB3.out.size))
  have HE02 := Lib.hid (HE01.out.below hr3.out)
  have HE12 := Lib.hid (HE11.out.below hr3.out)
  have HE22 := Lib.hid (HE21.out.below hr3.out)
  have HE32 := Lib.hid hO3.out.els
  clear hr3 hO3 HE01 HE11 HE21 HB3
  go_wp2_with fail
  refine (KM1.out _).mono ?_
  rintro e w9 ⟨b4, l4, c4, rfl, hO4, hr4⟩
  have HB5 := Lib.hid (HB4.out.trans (hr4.out.mono HB4.out.size))
  have hLE := LEls.new5 (HE02.out.below hr4.out) (HE12.out.below hr4.out) (HE22.out.below hr4.out) (HE32.out.below hr4.out) hO4.out.els 23
  have HB6 := Lib.hid (HB5.out.alloc HB5.out.size (.cells #[.slice b0 l0 c0, .slice b1 l1 c1, .slice b2 l2 c2, .slice b3 l3 c3, .slice b4 l4 c4] 23))
  have HXS : Hid (∀ xs ∈ [L0, L1, L2, Y0, Y1], (∀ x ∈ xs, x.wf) ∧ xs.length ≤ 100) := Lib.hid fun xs hx => by
    simp only [List.mem_cons, List.not_mem_nil, or_false] at hx
    rcases hx with rfl | rfl | rfl | rfl | rfl
    · exact ⟨HF0.out.wf, by omega⟩
    · exact ⟨HF1.out.wf, by omega⟩
    · exact ⟨HW2.out, by omega⟩
    · exact ⟨HW0.out, HM0.out⟩
    · exact ⟨HW1.out, HM1.out⟩
  have HLE := Lib.hid hLE
  have h5 : [L0, L1, L2, Y0, Y1].length = 5 := rfl
  generalize [L0, L1, L2, Y0, Y1] = XS at *
  have H5 := Lib.hid h5
  clear hr4 hO4 HE02 HE12 HE22 HE32 HB4 HB5 hLE HF0 HF1 HW2 HW0 HW1 HM0 HM1 h5 KS0 KS1 KA KB KSP KM0 KM1 hl0 hl1 hl2
  have hwA : ∃ wA, wA = w9.alloc (.cells #[.slice b0 l0 c0, .slice b1 l1 c1, .slice b2 l2 c2, .slice b3 l3 c3, .slice b4 l4 c4] 23) := ⟨_, rfl⟩
  obtain ⟨wA, hwA⟩ := hwA
  rw [← hwA] at HB6 HLE
  go_upto_region 6 with (fail)
  rw [← hwA]
  generalize w9.heap.size = b at *
  clear hwA
  go_loopw [15] (fun x wr => ∃ i : Nat, i ≤ 5 ∧ x = .int .i64 i ∧ Hid (Since wA wr)) (fun x _ => 6 - (intOf x).toNat)
  case atStart => exact ⟨0, by omega, rfl, Below.refl _ _⟩
  case round =>
    obtain ⟨i, hi, rfl, hS⟩ := hrel
    by_cases hlt : i < 5
    · obtain ⟨xs, hx⟩ : ∃ xs, XS[i]? = some xs := ⟨_, List.getElem?_eq_getElem (by rw [H5.out]; exact hlt)⟩
      obtain ⟨hwf, hlen⟩ := HXS.out xs (List.mem_of_getElem? hx)
      obtain ⟨vi, s1, hv⟩ := lels_at HLE.out hx
      have SI := Lib.hid s1
      have t1 := Since.cell hS.out s1
      have HV := Lib.hid (hv.below hS.out)
      have HVA := Lib.hid hv
      have HWF := Lib.hid hwf
      have HLN := Lib.hid hlen
      have KN := not_any vi xs wr HV.out hwf (by omega)
      have KC := fun W (h : Since wr W) => gcombine_any vi (.slice none 0 0) xs [] 2 (fun x _ => !x) W (.inr (.inr ⟨rfl, rfl⟩)) (HV.out.below h) (.inl ⟨.inl rfl, rfl⟩) (by omega) (by simp)
      simp only [comb_not] at KC
      have hnl := notL_len xs
      generalize notL xs = R at *
      obtain ⟨R1, R2⟩ := R
      simp only at KN KC hnl
      have KN := Lib.hid KN
      have KC := Lib.hid KC
      have HNL := Lib.hid hnl
      have i1 : (i : Int) < 5 := by omega
      clear hx hwf hlen s1 hv hnl
      go_wp2_with fail
      refine (KN.out).mono ?_
      rintro e wb ⟨aN, nN, cN, rfl, hEN, hrN⟩
      have t1' := Since.cell (wb := wr) hrN.out t1
      go_wp2_with fail
      refine (KC.out wb hrN.out).mono ?_
      rintro e wc ⟨aC, nC, cC, rfl, hEC, hrC⟩
      go_wp2_with fail
      refine (gequal_any _ _ R1 R1 wc (hEN.out.below hrC.out) hEC.out (by have := HNL.out; omega)).mono ?_
      rintro e wd ⟨he, hrD⟩
      obtain rfl : e = .returned (.bool true) := he.trans (ret_bool (decide_eq_true rfl))
      have HSD := Lib.hid (Since.step (Since.step (Since.step hS.out hrN.out) hrC.out) hrD)
      clear he hrD hrC hrN hEN hEC KN KC t1 t1' HNL HV hS
      go_wp2
      go_loopw [20] (fun x wr => ∃ j : Nat, j ≤ 5 ∧ x = .int .i64 j ∧ Hid (Since wA wr)) (fun x _ => 6 - (intOf x).toNat)
      case atStart => exact ⟨0, by omega, rfl, HSD⟩
      case round =>
        obtain ⟨j, hj, rfl, hS⟩ := hrel
        by_cases hlt2 : j < 5
        · obtain ⟨ys, hy⟩ : ∃ ys, XS[j]? = some ys := ⟨_, List.getElem?_eq_getElem (by rw [H5.out]; exact hlt2)⟩
          obtain ⟨hwf2, hlen2⟩ := HXS.out ys (List.mem_of_getElem? hy)
          obtain ⟨vj, s2, hv2⟩ := lels_at HLE.out hy
          have t1 := Since.cell hS.out SI.out
          have t2 := Since.cell hS.out s2
          have hA := HVA.out.below hS.out
          have hB2 := hv2.below hS.out
          have hla := HLN.out
          have hwa := HWF.out
          have k1 := fun W (h : Since wr W) => union_any vi vj xs ys W (hA.below h) (hB2.below h) hwa hwf2 (by omega) (by omega)
          have k2 := fun W (h : Since wr W) => gcombine_any vi vj xs ys 0 (fun x y => x || y) W (.inl ⟨rfl, rfl⟩) (hA.below h) (hB2.below h) (by omega) (by omega)
          have k3 := fun W (h : Since wr W) => meet_any vi vj xs ys W (hA.below h) (hB2.below h) hwa hwf2 (by omega) (by omega)
          have k4 := fun W (h : Since wr W) => gcombine_any vi vj xs ys 1 (fun x y => x && y) W (.inr (.inl ⟨rfl, rfl⟩)) (hA.below h) (hB2.below h) (by omega) (by omega)
          have k5 := fun W (h : Since wr W) => within_any vi vj xs ys W (hA.below h) (hB2.below h) hwa hwf2 (by omega) (by omega)
          have k6 := fun W (h : Since wr W) => gwithin_any vi vj xs ys W (hA.below h) (hB2.below h) (by omega) (by omega)
          simp only [comb_union] at k2
          simp only [comb_meet] at k4
          have hu := opL_len (unionS xs ys) xs ys
          have hm := opL_len (meetS xs ys) xs ys
          generalize opL (unionS xs ys) xs ys = U at *
          generalize opL (meetS xs ys) xs ys = V at *
          generalize withinL xs ys = T at *
          obtain ⟨U1, U2⟩ := U
          obtain ⟨V1, V2⟩ := V
          obtain ⟨T1, T2⟩ := T
          simp only at k1 k2 k3 k4 k5 k6 hu hm
          have K1 := Lib.hid k1
          have K2 := Lib.hid k2
          have K3 := Lib.hid k3
          have K4 := Lib.hid k4
          have K5 := Lib.hid k5
          have K6 := Lib.hid k6
          have HU := Lib.hid hu
          have HM := Lib.hid hm
          have T1' := Lib.hid t1
          have T2' := Lib.hid t2
          have i2 : (j : Int) < 5 := by omega
          have HS0 : Hid (Since wr wr) := Lib.hid (Below.refl _ _)
          clear k1 k2 k3 k4 k5 k6 hu hm hy hwf2 hlen2 s2 hv2 hA hB2 hla hwa t1 t2
          have hSd : Since wr wr.drew := Below.drew HS0.out
          go_wp2
          go_region_held3 (fun w' => w'.cell? ⟨b, i, none⟩ = some vi ∧ w'.cell? ⟨b, j, none⟩ = some vj ∧ Since wr w')
            (first | exact ⟨Since.cell hSd T1'.out, Since.cell hSd T2'.out, hSd⟩ | exact ⟨Since.cell hB T1'.out, Since.cell hB T2'.out, hB⟩)
            ((go_at_call 28; refine (K1.out _ hSd).mono ?_; rintro e W1 ⟨A1, N1, C1, rfl, hE, hr⟩; have hP := Below.trans (Below.drew (Below.refl wr.heap.size wr)) hr.out; have hB := Since.step hSd hr.out; clear hr))
          have E1 := hE
          clear hE
          have HS1 := Lib.hid hB
          clear hB hSd hP
          have hSd : Since wr W1.drew := Below.drew HS1.out
          go_wp2
          go_region_held3 (fun w' => w'.cell? ⟨b, i, none⟩ = some vi ∧ w'.cell? ⟨b, j, none⟩ = some vj ∧ Since wr w')
            (first | exact ⟨Since.cell hSd T1'.out, Since.cell hSd T2'.out, hSd⟩ | exact ⟨Since.cell hB T1'.out, Since.cell hB T2'.out, hB⟩)
            ((go_at_call 27; refine (K2.out _ hSd).mono ?_; rintro e W2 ⟨A2, N2, C2, rfl, hE, hr⟩; have hP := Below.trans (Below.drew (Below.refl W1.heap.size W1)) hr.out; have hB := Since.step hSd hr.out; clear hr))
          replace E1 := Lib.hid (E1.out.below hP)
          have E2 := hE
          clear hE
          have HS2 := Lib.hid hB
          clear hB hSd hP
          have hSd : Since wr W2.drew := Below.drew HS2.out
          go_wp2
          go_region_held3 (fun w' => w'.cell? ⟨b, i, none⟩ = some vi ∧ w'.cell? ⟨b, j, none⟩ = some vj ∧ Since wr w')
            (first | exact ⟨Since.cell hSd T1'.out, Since.cell hSd T2'.out, hSd⟩ | exact ⟨Since.cell hB T1'.out, Since.cell hB T2'.out, hB⟩)
            ((go_at_call 29; refine (K3.out _ hSd).mono ?_; rintro e W3 ⟨A3, N3, C3, rfl, hE, hr⟩; have hP := Below.trans (Below.drew (Below.refl W2.heap.size W2)) hr.out; have hB := Since.step hSd hr.out; clear hr))
          replace E1 := Lib.hid (E1.out.below hP)
          replace E2 := Lib.hid (E2.out.below hP)
          have E3 := hE
          clear hE
          have HS3 := Lib.hid hB
          clear hB hSd hP
          have hSd : Since wr W3.drew := Below.drew HS3.out
          go_wp2
          go_region_held3 (fun w' => w'.cell? ⟨b, i, none⟩ = some vi ∧ w'.cell? ⟨b, j, none⟩ = some vj ∧ Since wr w')
            (first | exact ⟨Since.cell hSd T1'.out, Since.cell hSd T2'.out, hSd⟩ | exact ⟨Since.cell hB T1'.out, Since.cell hB T2'.out, hB⟩)
            ((go_at_call 27; refine (K4.out _ hSd).mono ?_; rintro e W4 ⟨A4, N4, C4, rfl, hE, hr⟩; have hP := Below.trans (Below.drew (Below.refl W3.heap.size W3)) hr.out; have hB := Since.step hSd hr.out; clear hr))
          replace E1 := Lib.hid (E1.out.below hP)
          replace E2 := Lib.hid (E2.out.below hP)
          replace E3 := Lib.hid (E3.out.below hP)
          have E4 := hE
          clear hE
          have HS4 := Lib.hid hB
          clear hB hSd hP
          have hSd : Since wr W4.drew := Below.drew HS4.out
          go_wp2
          go_region_held3 (fun w' => w'.cell? ⟨b, i, none⟩ = some vi ∧ w'.cell? ⟨b, j, none⟩ = some vj ∧ Since wr w')
            (first | exact ⟨Since.cell hSd T1'.out, Since.cell hSd T2'.out, hSd⟩ | exact ⟨Since.cell hB T1'.out, Since.cell hB T2'.out, hB⟩)
            ((go_at_call 30; refine (K5.out _ hSd).mono ?_; rintro e W5 ⟨rfl, hr⟩; have hP := Below.trans (Below.drew (Below.refl W4.heap.size W4)) hr; have hB := Since.step hSd hr; clear hr))
          replace E1 := Lib.hid (E1.out.below hP)
          replace E2 := Lib.hid (E2.out.below hP)
          replace E3 := Lib.hid (E3.out.below hP)
          replace E4 := Lib.hid (E4.out.below hP)
          have HS5 := Lib.hid hB
          clear hB hSd hP
          have hSd : Since wr W5.drew := Below.drew HS5.out
          go_wp2
          go_region_held3 (fun w' => w'.cell? ⟨b, i, none⟩ = some vi ∧ w'.cell? ⟨b, j, none⟩ = some vj ∧ Since wr w')
            (first | exact ⟨Since.cell hSd T1'.out, Since.cell hSd T2'.out, hSd⟩ | exact ⟨Since.cell hB T1'.out, Since.cell hB T2'.out, hB⟩)
            ((go_at_call 31; refine (K6.out _ hSd).mono ?_; rintro e W6 ⟨rfl, hr⟩; have hP := Below.trans (Below.drew (Below.refl W5.heap.size W5)) hr; have hB := Since.step hSd hr; clear hr))
          replace E1 := Lib.hid (E1.out.below hP)
          replace E2 := Lib.hid (E2.out.below hP)
          replace E3 := Lib.hid (E3.out.below hP)
          replace E4 := Lib.hid (E4.out.below hP)
          have HS6 := Lib.hid hB
          clear hB hSd hP
          have HS6' := Lib.hid (Since.step hS.out HS6.out)
          go_wp2_with fail
          refine (gequal_any _ _ U1 U1 W6 E1.out E2.out (by have := HU.out; omega)).mono ?_
          rintro e W7 ⟨he, hr7⟩
          obtain rfl : e = .returned (.bool true) := he.trans (ret_bool (decide_eq_true rfl))
          go_wp2_with fail
          refine (gequal_any _ _ V1 V1 W7 (E3.out.below hr7) (E4.out.below hr7) (by have := HM.out; omega)).mono ?_
          rintro e W8 ⟨he, hr8⟩
          obtain rfl : e = .returned (.bool true) := he.trans (ret_bool (decide_eq_true rfl))
          have HS8 := Lib.hid (Since.step (Since.step HS6'.out hr7) hr8)
          clear hr7 hr8
          go_wp2
          go_roundw
          case rel => exact ⟨j + 1, by omega, by go_num, HS8⟩
          case measure => simp [intOf]; omega
        · have hj5 : ¬ (j : Int) < 5 := by omega
          go_wp2
          go_roundw
          case rel => exact ⟨i + 1, by omega, by go_num, hS⟩
          case measure => simp [intOf]; omega
    · have hi5 : ¬ (i : Int) < 5 := by omega
      have HBF := Lib.hid (HB6.out.trans (hS.out.mono HB6.out.size))
      go_wp2_with fail
      refine (lives04_any _).mono ?_
      rintro e wz ⟨rfl, hrz⟩
      have HBZ := Lib.hid (HBF.out.trans (hrz.mono HBF.out.size))
      go_wp2
      go_ret
      exact ⟨rfl, HBZ.out⟩

end Go.Proofs.Ytimbgjpjgbjnkaa
