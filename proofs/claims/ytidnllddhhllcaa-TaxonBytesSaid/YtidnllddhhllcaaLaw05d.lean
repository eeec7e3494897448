/- The law TaxonClosure. -/
import Derived.Test.YtidnllddhhllcaaTi
namespace Go.Proofs.Ytidnllddhhllcaa
open Go.RowKit Go.Shelf

theorem noneE_two (n : Nat) (zs : List Int) : noneE n zs = 0 ∨ noneE n zs = 7 := by
  unfold noneE
  split
  · exact .inl rfl
  · exact .inr rfl

theorem noneE_zero {n : Nat} {zs : List Int} (h : noneE n zs = 0) : allB n zs = true := by
  unfold noneE at h
  split at h
  · assumption
  · cases h

theorem downL_len (P : List (List Int)) (c : Int) : (downL P c).length ≤ 64 := by
  unfold downL
  split
  · exact ones_len _ _
  · simp

set_option maxHeartbeats 8000000 in
set_option maxRecDepth 100000 in
theorem law_closure (a0 : Option Addr) (len0 cap0 : Nat) (z0 : List Int) (a1 : Option Addr) (len1 cap1 : Nat) (z1 : List Int) (a2 : Option Addr) (len2 cap2 : Nat) (z2 : List Int) (w : World) (w0 : Came .i64 w a0 len0 cap0 z0) (w1 : Came .i64 w a1 len1 cap1 z1) (w2 : Came .i64 w a2 len2 cap2 z2) :
    Calls Try.prog 7 #[.slice a0 len0 cap0, .slice a1 len1 cap1, .slice a2 len2 cap2] w fun e w' => e = .returned (.bool true) ∧ Below w.heap.size w w' := by
  have k1 := Lib.hid (parents_any _ _ 9 w w0.els (came_wfs w0) (by decide) (by decide))
  have ksm := fun (n : Nat) (c : Nat) (P : List (List Int)) (pa : Option Addr) (W : World) (hB : Below w.heap.size w W) (hL : LE W (.slice pa n c) P) (h1 : 1 ≤ P.length) (h2 : P.length ≤ 64) => some_eq _ _ P _ W hL (w1.els.below hB) (came_wfs w1) h1 h2
  have ksk := fun (n : Nat) (c : Nat) (P : List (List Int)) (pa : Option Addr) (W : World) (hB : Below w.heap.size w W) (hL : LE W (.slice pa n c) P) (h1 : 1 ≤ P.length) (h2 : P.length ≤ 64) => some_eq _ _ P _ W hL (w2.els.below hB) (came_wfs w2) h1 h2
  have KSM := Lib.hid ksm
  have KSK := Lib.hid ksk
  have HI0 := Lib.hid Try.infoI64
  have KL := Lib.hid lives05
  generalize z1.take len1 = y1 at *
  generalize z2.take len2 = y2 at *
  clear w0 w1 w2 ksm ksk
  go_enter Try.func7, Try.ntmps7
  go_wp2_with fail
  refine (k1.out).mono ?_
  rintro e w1 ⟨P, a3, n3, c3, rfl, hG, HN3, O3, B3⟩
  have hLE := O3.out.lin.le
  have k2 := Lib.hid (new_ok _ P w1 hLE (by have := hG.le; omega) (fun l hl => by have := hG.short l hl; omega) hG.good)
  have HLE := Lib.hid hLE
  have hp1 := Lib.hid hG.pos
  have hp2 : Hid (P.length ≤ 64) := hG.good.len
  have HG := Lib.hid hG.good
  have hn9 : n3 ≤ 9 := by rw [HN3.out]; exact hG.le
  clear k1 O3 hG hLE
  go_wp2_with fail
  refine (k2.out).mono ?_
  rintro e w2 ⟨N, rfl, X2, B4⟩
  have HB2 := Lib.hid (Since.step B3.out B4.out)
  have HL2 := Lib.hid (LE.below B4.out HLE.out)
  have k3 := KSM.out _ _ P _ w2 HB2.out HL2.out hp1.out hp2.out
  have hx6 := someL_len P.length y1
  have hy6 := someL_len P.length y2
  have KSM2 := Lib.hid fun W hB hL => KSM.out n3 c3 P a3 W hB hL hp1.out hp2.out
  have KSK2 := Lib.hid fun W hB hL => KSK.out n3 c3 P a3 W hB hL hp1.out hp2.out
  generalize someL P.length y1 = xs at *
  generalize someL P.length y2 = ys at *
  have K3 := Lib.hid k3
  clear k2 k3 B3 B4 HLE KSM KSK
  go_wp2_with fail
  refine (K3.out).mono ?_
  rintro e w3 ⟨a4, n4, c4, rfl, HN4, O4, B4⟩
  have HB3 := Lib.hid (Since.step HB2.out B4.out)
  have X3 := Lib.hid (X2.out.below B4.out)
  have HL3 := Lib.hid (LE.below B4.out HL2.out)
  have k4 := Lib.hid (tup_any N P _ xs w3 X3.out O4.out.els (by omega))
  clear K3 O4 B4 X2 HL2 HB2
  go_wp2_with fail
  refine (k4.out).mono ?_
  rintro e w4 ⟨a5, n5, c5, rfl, HN5, O5, B5⟩
  have HB4 := Lib.hid (Since.step HB3.out B5.out)
  have X4 := Lib.hid (X3.out.below B5.out)
  have HL4 := Lib.hid (LE.below B5.out HL3.out)
  have E5 := Lib.hid O5.out.els
  clear k4 O5 B5 X3 HL3 HB3
  go_wp2_with fail
  refine (KSK2.out w4 HB4.out HL4.out).mono ?_
  rintro e w5 ⟨a6, n6, c6, rfl, HN6, O6, B6⟩
  have HB5 := Lib.hid (Since.step HB4.out B6.out)
  have X5 := Lib.hid (X4.out.below B6.out)
  have HL5 := Lib.hid (LE.below B6.out HL4.out)
  have E55 := Lib.hid (E5.out.below B6.out)
  have k5 := Lib.hid (tup_any N P _ ys w5 X5.out O6.out.els (by omega))
  clear O6 B6 X4 HL4 HB4 E5
  go_wp2_with fail
  refine (k5.out).mono ?_
  rintro e w6 ⟨a7, n7, c7, rfl, HN7, O7, B7⟩
  have HB6 := Lib.hid (Since.step HB5.out B7.out)
  have X6 := Lib.hid (X5.out.below B7.out)
  have HL6 := Lib.hid (LE.below B7.out HL5.out)
  have E56 := Lib.hid (E55.out.below B7.out)
  have E76 := Lib.hid O7.out.els
  clear k5 O7 B7 X5 HL5 HB5 E55
  rcases noneE_two P.length xs with h1 | h1
  · rcases noneE_two P.length ys with h2 | h2
    · rw [h1, h2]
      have hax := noneE_zero h1
      have hay := noneE_zero h2
      have hul := upL_len P xs
      have hbo := fun c hc => has_both hax hay (c := c) hc
      have hdo := fun c d hc hd => has_down hp2.out (c := c) (d := d) hc hd
      have hz3 : noneE P.length (xs ++ ys) = 0 := if_pos (allB_append hax hay)
      have hz4 : noneE P.length (upL P xs) = 0 := if_pos (up_all HG.out hax)
      have hid := upL_idem HG.out hax
      have hlb := upL_len P (xs ++ ys)
      have k6 := fun W (hW : Since w6 W) => tup_any N P _ (upL P xs) W (X6.out.below hW) (E56.out.below hW) (by omega)
      have k7 := fun sv W (hW : Since w6 W) (hE : Els .i64 W sv (xs ++ ys)) => tup_any N P sv (xs ++ ys) W (X6.out.below hW) hE (by rw [List.length_append]; omega)
      rw [hz4, hid] at k6
      rw [hz3] at k7
      have K6 := Lib.hid k6
      have K7 := Lib.hid k7
      have HBO := Lib.hid hbo
      have HDO := Lib.hid hdo
      have HUX := Lib.hid hul
      have HUB := Lib.hid hlb
      have HUY := Lib.hid (upL_len P ys)
      clear h1 h2 hax hay hul hbo hdo hz3 hz4 hid hlb k6 k7
      go_wp2_with fail
      refine (K6.out w6 (Below.refl _ _)).mono ?_
      rintro e w7 ⟨a8, n8, c8, rfl, HN8, O8, B8⟩
      have H7 := Lib.hid (Since.step HB6.out B8.out)
      have HS7 := Lib.hid B8.out
      have E87 := Lib.hid O8.out.els
      have hbx := (Below.refl _ w7).alloc (Nat.le_refl _) (.cells #[] 3)
      have HBX := Lib.hid hbx
      have HO0 := Lib.hid (show Own .i64 3 w7.heap.size (w7.alloc (.cells #[] 3)) (.slice (some ⟨w7.heap.size, 0, none⟩) 0 0) [] from World.ownsRow_made w7 #[] 0 (Nat.le_refl _) (Nat.zero_le _) rfl)
      have ks1 := KSM2.out (w7.alloc (.cells #[] 3)) (Since.step H7.out hbx) (LE.below hbx (LE.below HS7.out HL6.out))
      have KS1 := Lib.hid ks1
      clear O8 B8 hbx ks1
      go_wp2_with fail
      refine (KS1.out).mono ?_
      rintro e w8 ⟨a9, n9, c9, rfl, HN9, O9, B9⟩
      have HB8 := Lib.hid (Since.step HBX.out B9.out)
      have HO1 := Lib.hid (HO0.out.below B9.out)
      have E98 := Lib.hid O9.out.els
      clear O9 B9 HO0
      go_wp2_with (at_builtin; refine push_all rfl _ _ 22 rfl .i64 3 8 Try.underlying22 HI0.out (by decide) w7.heap.size _ [] _ xs rfl rfl HO1.out E98.out HB8.out.size (by simp; omega) ?_; intro a10 n10 c10 w9 hn10 hO10 hB10)
      have HS9 := Lib.hid (Since.step HS7.out (HB8.out.trans hB10.out))
      have HB9 := Lib.hid (HB8.out.trans hB10.out)
      have H9 := Lib.hid (Since.step H7.out HB9.out)
      have ks2 := KSK2.out w9 H9.out (LE.below HS9.out HL6.out)
      have KS2 := Lib.hid ks2
      clear ks2 HO1 E98 HB8
      go_wp2_with fail
      refine (KS2.out).mono ?_
      rintro e w10 ⟨a11, n11, c11, rfl, HN11, O11, B11⟩
      have HB10 := Lib.hid (Since.step HB9.out B11.out)
      have HO2 := Lib.hid (hO10.out.below B11.out)
      have E11 := Lib.hid O11.out.els
      have HN10 := Lib.hid hn10.out
      clear O11 hO10 hB10
      go_wp2_with (at_builtin; refine push_all rfl _ _ 22 rfl .i64 3 8 Try.underlying22 HI0.out (by decide) w7.heap.size _ ([] ++ xs) _ ys rfl rfl HO2.out E11.out HB10.out.size (by simp; omega) ?_; intro a12 n12 c12 w11 hn12 hO12 hB12)
      have HB11 := Lib.hid (HB10.out.trans hB12.out)
      have HS11 := Lib.hid (Since.step HS7.out HB11.out)
      have H11 := Lib.hid (Since.step H7.out HB11.out)
      have hE12 := hO12.out.els
      rw [List.nil_append] at hE12
      have k8 := Lib.hid (K7.out _ w11 HS11.out hE12)
      have E812 := Lib.hid (E87.out.below HB11.out)
      have E512 := Lib.hid ((E56.out.below HS7.out).below HB11.out)
      have E712 := Lib.hid ((E76.out.below HS7.out).below HB11.out)
      clear hE12 HO2 E11 hO12 hB12 B11
      go_wp2_with fail
      refine (k8.out).mono ?_
      rintro e w12 ⟨a13, n13, c13, rfl, HN13, O13, B13⟩
      have HS12 := Lib.hid (Since.step HS11.out B13.out)
      have E13 := Lib.hid O13.out.els
      have k9 := Lib.hid (sameInts_make _ _ _ _ w12 (E512.out.below B13.out) (E812.out.below B13.out) (by have := HUX.out; omega) true (decide_eq_true rfl))
      have E5a := Lib.hid (E512.out.below B13.out)
      have E7a := Lib.hid (E712.out.below B13.out)
      clear O13 k8
      go_wp2_with fail
      refine (k9.out).mono ?_
      rintro e w13 ⟨rfl, B14⟩
      have HS13 := Lib.hid (Since.step HS12.out B14)
      have X13 := Lib.hid (X6.out.below HS13.out)
      have F5 := Lib.hid (E5a.out.below B14)
      have F7 := Lib.hid (E7a.out.below B14)
      have F13 := Lib.hid (E13.out.below B14)
      have H13 := Lib.hid (Since.step HB6.out HS13.out)
      clear k9 B13 B14 E5a E7a E13 E512 E712 E812 HS12 HS11 H11
      generalize hUX : upL P xs = UX at *
      generalize hUY : upL P ys = UY at *
      generalize hUB : upL P (xs ++ ys) = UB at *
      clear hUX hUY hUB
      go_wp2
      go_loopw [18] (fun i wr => ∃ c : Nat, c ≤ n3 ∧ i = .int .i64 c ∧ Hid (Since w13 wr)) (fun i _ => n3 - (intOf i).toNat)
      case atStart => exact ⟨0, Nat.zero_le _, rfl, Lib.hid (Below.refl _ _)⟩
      case round =>
        obtain ⟨c, hc, rfl, hS⟩ := hrel
        by_cases hlt : c < n3
        · have hci : (c : Int) < n3 := by omega
          have hcP : c < P.length := by rw [← HN3.out]; exact hlt
          have X14 := Lib.hid (X13.out.below hS.out)
          have k10 := tdown_any N P (c : Int) wr X14.out
          rw [show downE P.length (c : Int) = 0 from if_pos (clsB_nat hcP)] at k10
          have K10 := Lib.hid k10
          have kb := fun W (hW : Since wr W) => has_any _ UB (c : Int) W ((F13.out.below hS.out).below hW) (by have := HUB.out; omega)
          have kx := fun W (hW : Since wr W) => has_any _ UX (c : Int) W ((F5.out.below hS.out).below hW) (by have := HUX.out; omega)
          have ky := fun W (hW : Since wr W) => has_any _ UY (c : Int) W ((F7.out.below hS.out).below hW) (by have := HUY.out; omega)
          rw [HBO.out c (by omega)] at kb
          generalize hasB UX (c : Int) = IX at *
          generalize hasB UY (c : Int) = IY at *
          have KB := Lib.hid kb
          have KX := Lib.hid kx
          have KY := Lib.hid ky
          have HDC := Lib.hid fun d hd => HDO.out c d hcP hd
          have HDL := Lib.hid (downL_len P (c : Int))
          generalize downL P (c : Int) = DL at *
          clear k10 kb kx ky hcP
          rename World => wo
          go_wp2_with fail
          refine (K10.out).mono ?_
          rintro e w14 ⟨a14, n14, c14, rfl, HN14, O14, B15⟩
          have HD := Lib.hid O14.out.els
          have HBw := Lib.hid B15.out
          clear O14 B15
          go_wp2_with fail
          refine (KB.out _ HBw.out).mono ?_
          rintro e w' ⟨rfl, rfl⟩
          go_wp2_with fail
          refine (KX.out _ HBw.out).mono ?_
          rintro e w' ⟨rfl, rfl⟩
          cases IX
          case false =>
            go_wp2_with fail
            refine (KY.out _ HBw.out).mono ?_
            rintro e w' ⟨rfl, rfl⟩
            have hii : (IY != IY) = false := by cases IY <;> rfl
            go_upto_region 20 with (fail)
            go_loopw [21] (fun i wr => ∃ d : Nat, d ≤ n3 ∧ i = .int .i64 d ∧ Hid (Since w14 wr)) (fun i _ => n3 - (intOf i).toNat)
            case atStart => exact ⟨0, Nat.zero_le _, rfl, Lib.hid (Below.refl _ _)⟩
            case round =>
              obtain ⟨d, hd, rfl, hT⟩ := hrel
              by_cases hlt2 : d < n3
              · have hdi : (d : Int) < n3 := by omega
                have hdP : d < P.length := by rw [← HN3.out]; exact hlt2
                have hbl := (Below.refl wr.heap.size wr).alloc (Nat.le_refl _) (.cells #[.int .i64 (d : Int)] 3)
                have X15 := Lib.hid ((X14.out.below HBw.out).below hT.out)
                have k11 := tup_any N P _ [(d : Int)] _ (X15.out.below hbl) (lit_ints wr [(d : Int)] _ _ rfl rfl) (by simp)
                rw [show noneE P.length [(d : Int)] = 0 from if_pos (allB_one hdP)] at k11
                have K11 := Lib.hid k11
                have HBL := Lib.hid hbl
                have hq := HDC.out d hdP
                have hull := upL_len P [(d : Int)]
                generalize upL P [(d : Int)] = UD at *
                have kd := fun W (hW : Since wr W) => has_any _ DL (d : Int) W ((HD.out.below hT.out).below hW) (by have := HDL.out; omega)
                rw [hq] at kd
                have ku := fun sv W (hE : Els .i64 W sv UD) => has_any sv UD (c : Int) W hE (by omega)
                generalize hasB UD (c : Int) = ID at *
                have KD := Lib.hid kd
                have KU := Lib.hid ku
                have hid2 : (ID != ID) = false := by cases ID <;> rfl
                clear k11 hbl hq kd ku hdP
                go_wp2_with fail
                refine (K11.out).mono ?_
                rintro e w15 ⟨a15, n15, c15, rfl, HN15, O15, B16⟩
                have HBz := Lib.hid (Since.step HBL.out B16.out)
                have EU := Lib.hid O15.out.els
                clear O15 B16
                go_wp2_with fail
                refine (KD.out _ HBz.out).mono ?_
                rintro e w' ⟨rfl, rfl⟩
                go_wp2_with fail
                refine (KU.out _ _ EU.out).mono ?_
                rintro e w' ⟨rfl, rfl⟩
                go_wp2
                go_roundw
                case rel => exact ⟨d + 1, by omega, by go_num, Lib.hid (Since.step hT.out HBz.out)⟩
                case measure => simp [intOf]; omega
              · have hdi : ¬ (d : Int) < n3 := by omega
                go_wp2
                go_roundw
                case rel => exact ⟨c + 1, by omega, by go_num, Lib.hid (Since.step (Since.step hS.out HBw.out) hT.out)⟩
                case measure => simp [intOf]; omega
          case true =>
            go_upto_region 20 with (fail)
            go_loopw [21] (fun i wr => ∃ d : Nat, d ≤ n3 ∧ i = .int .i64 d ∧ Hid (Since w14 wr)) (fun i _ => n3 - (intOf i).toNat)
            case atStart => exact ⟨0, Nat.zero_le _, rfl, Lib.hid (Below.refl _ _)⟩
            case round =>
              obtain ⟨d, hd, rfl, hT⟩ := hrel
              by_cases hlt2 : d < n3
              · have hdi : (d : Int) < n3 := by omega
                have hdP : d < P.length := by rw [← HN3.out]; exact hlt2
                have hbl := (Below.refl wr.heap.size wr).alloc (Nat.le_refl _) (.cells #[.int .i64 (d : Int)] 3)
                have X15 := Lib.hid ((X14.out.below HBw.out).below hT.out)
                have k11 := tup_any N P _ [(d : Int)] _ (X15.out.below hbl) (lit_ints wr [(d : Int)] _ _ rfl rfl) (by simp)
                rw [show noneE P.length [(d : Int)] = 0 from if_pos (allB_one hdP)] at k11
                have K11 := Lib.hid k11
                have HBL := Lib.hid hbl
                have hq := HDC.out d hdP
                have hull := upL_len P [(d : Int)]
                generalize upL P [(d : Int)] = UD at *
                have kd := fun W (hW : Since wr W) => has_any _ DL (d : Int) W ((HD.out.below hT.out).below hW) (by have := HDL.out; omega)
                rw [hq] at kd
                have ku := fun sv W (hE : Els .i64 W sv UD) => has_any sv UD (c : Int) W hE (by omega)
                generalize hasB UD (c : Int) = ID at *
                have KD := Lib.hid kd
                have KU := Lib.hid ku
                have hid2 : (ID != ID) = false := by cases ID <;> rfl
                clear k11 hbl hq kd ku hdP
                go_wp2_with fail
                refine (K11.out).mono ?_
                rintro e w15 ⟨a15, n15, c15, rfl, HN15, O15, B16⟩
                have HBz := Lib.hid (Since.step HBL.out B16.out)
                have EU := Lib.hid O15.out.els
                clear O15 B16
                go_wp2_with fail
                refine (KD.out _ HBz.out).mono ?_
                rintro e w' ⟨rfl, rfl⟩
                go_wp2_with fail
                refine (KU.out _ _ EU.out).mono ?_
                rintro e w' ⟨rfl, rfl⟩
                go_wp2
                go_roundw
                case rel => exact ⟨d + 1, by omega, by go_num, Lib.hid (Since.step hT.out HBz.out)⟩
                case measure => simp [intOf]; omega
              · have hdi : ¬ (d : Int) < n3 := by omega
                go_wp2
                go_roundw
                case rel => exact ⟨c + 1, by omega, by go_num, Lib.hid (Since.step (Since.step hS.out HBw.out) hT.out)⟩
                case measure => simp [intOf]; omega
        · have hci : ¬ (c : Int) < n3 := by omega
          go_wp2_with fail
          refine (KL.out wr).mono ?_
          rintro e w15 ⟨rfl, B15⟩
          go_wp2
          go_ret
          exact ⟨rfl, Since.step (Since.step H13.out hS.out) B15⟩
    · rw [h1, h2]
      clear h1 h2
      go_wp2_with fail
      refine (KL.out w6).mono ?_
      rintro e w7 ⟨rfl, B8⟩
      go_wp2
      go_ret
      exact ⟨rfl, Since.step HB6.out B8⟩
  · rcases noneE_two P.length ys with h2 | h2
    all_goals
      rw [h1, h2]
      clear h1 h2
      go_wp2_with fail
      refine (KL.out w6).mono ?_
      rintro e w7 ⟨rfl, B8⟩
      go_wp2
      go_ret
      exact ⟨rfl, Since.step HB6.out B8⟩

end Go.Proofs.Ytidnllddhhllcaa
