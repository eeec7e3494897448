/- The law TaxonLeast. -/
import Derived.Test.YtidnllddhhllcaaTg
namespace Go.Proofs.Ytidnllddhhllcaa
open Go.RowKit Go.Shelf

theorem sameInts_make (sv sv2 : Value) (zs ys : List Int) (w : World) (h1 : Els .i64 w sv zs) (h2 : Els .i64 w sv2 ys) (hl : zs.length ≤ 1000) (b : Bool) (hb : decide (zs = ys) = b) :
    Calls Try.prog 23 #[sv, sv2] w fun e w' => e = .returned (.bool b) ∧ Below w.heap.size w w' := by
  rw [← hb]; exact sameInts_any sv sv2 zs ys w h1 h2 hl

theorem upL_len (P : List (List Int)) (zs : List Int) : (upL P zs).length ≤ 64 := by
  unfold upL
  split
  · exact ones_len _ _
  · simp

theorem leastL_len (P : List (List Int)) (zs : List Int) : (leastL P zs).length ≤ 64 := by
  unfold leastL
  split
  · exact ones_len _ _
  · simp

set_option maxHeartbeats 8000000 in
set_option maxRecDepth 100000 in
theorem law_least (a0 : Option Addr) (len0 cap0 : Nat) (z0 : List Int) (a1 : Option Addr) (len1 cap1 : Nat) (z1 : List Int) (w : World) (w0 : Came .i64 w a0 len0 cap0 z0) (w1 : Came .i64 w a1 len1 cap1 z1) :
    Calls Try.prog 8 #[.slice a0 len0 cap0, .slice a1 len1 cap1] w fun e w' => e = .returned (.bool true) ∧ Below w.heap.size w w' := by
  have k1 := Lib.hid (parents_any _ _ 9 w w0.els (came_wfs w0) (by decide) (by decide))
  have hm1 := Lib.hid w1.els
  have hmw := Lib.hid (came_wfs w1)
  generalize z1.take len1 = y1 at *
  clear w0 w1
  go_enter Try.func8, Try.ntmps8
  go_wp2_with fail
  refine (k1.out).mono ?_
  rintro e w1 ⟨P, a2, n2, c2, rfl, hG, HN2, O2, B2⟩
  have HGP := Lib.hid hG
  have hLE := O2.out.lin.le
  have k2 := Lib.hid (new_ok _ P w1 hLE (by have := hG.le; omega) (fun l hl => by have := hG.short l hl; omega) hG.good)
  have HLE := Lib.hid hLE
  have hn9 : n2 ≤ 9 := by rw [HN2.out]; exact hG.le
  have HG := Lib.hid hG.good
  clear k1 O2 hG hLE
  go_wp2_with fail
  refine (k2.out).mono ?_
  rintro e w2 ⟨N, rfl, X2, B3⟩
  have HB2 := Lib.hid (Since.step B2.out B3.out)
  have k3 := Lib.hid (some_any _ _ P y1 w2 (LE.below B3.out HLE.out) (hm1.out.below HB2.out) hmw.out HGP.out.pos (by have := HGP.out.le; omega))
  clear k2 B2 B3 HLE
  go_wp2_with fail
  refine (k3.out).mono ?_
  rintro e w3 ⟨zs, hz6, a3, n3, c3, rfl, HN3, O3, B3⟩
  have HB3 := Lib.hid (Since.step HB2.out B3.out)
  have X3 := Lib.hid (X2.out.below B3.out)
  have E3 := Lib.hid O3.out.els
  have k4 := Lib.hid (tup_any N P _ zs w3 X3.out E3.out (by omega))
  clear k3 O3 B3 X2 HB2 hm1 hmw
  go_wp2_with fail
  refine (k4.out).mono ?_
  rintro e w4 ⟨a4, n4, c4, rfl, HN4, O4, B4⟩
  have HB4 := Lib.hid (Since.step HB3.out B4.out)
  have X4 := Lib.hid (X3.out.below B4.out)
  have E34 := Lib.hid (E3.out.below B4.out)
  have E4 := Lib.hid O4.out.els
  have k5 := tleast_any N P _ zs w4 X4.out E34.out (by omega)
  have KL := Lib.hid lives05
  clear k4 O4 B4 X3 HB3 E3
  by_cases hall : allB P.length zs = true
  · have hne : noneE P.length zs = 0 := by unfold noneE; exact if_pos hall
    rw [hne] at k5
    rw [hne]
    have K5 := Lib.hid k5
    clear k5
    have HAL := Lib.hid hall
    have hup := upL_len P zs
    have hle := leastL_len P zs
    rw [← HN4.out] at hup
    clear hall hne
    go_wp2_with fail
    refine (K5.out).mono ?_
    rintro e w5 ⟨a5, n5, c5, rfl, HN5, O5, B5⟩
    have HB5 := Lib.hid (Since.step HB4.out B5.out)
    have X5 := Lib.hid (X4.out.below B5.out)
    have E45 := Lib.hid (E4.out.below B5.out)
    have E5 := Lib.hid O5.out.els
    rw [← HN5.out] at hle
    have k6 := tup_any N P _ (leastL P zs) w5 X5.out E5.out (by have := HN5.out; omega)
    rw [least_up HG.out HAL.out, show noneE P.length (leastL P zs) = 0 from if_pos (least_all HG.out HAL.out)] at k6
    have K6 := Lib.hid k6
    clear K5 k6 O5 B5 X4 HB4 E4 E34
    go_wp2_with fail
    refine (K6.out).mono ?_
    rintro e w6 ⟨a6, n6, c6, rfl, HN6, O6, B6⟩
    have HB6 := Lib.hid (Since.step HB5.out B6.out)
    have X6 := Lib.hid (X5.out.below B6.out)
    have E46 := Lib.hid (E45.out.below B6.out)
    have E56 := Lib.hid (E5.out.below B6.out)
    have E6 := Lib.hid O6.out.els
    have k7 := Lib.hid (sameInts_make _ _ _ _ w6 E46.out E6.out (by have := upL_len P zs; omega) true (decide_eq_true rfl))
    clear K6 O6 B6 X5 HB5 E45 E5
    go_wp2_with fail
    refine (k7.out).mono ?_
    rintro e w7 ⟨rfl, B7⟩
    have HB7 := Lib.hid (Since.step HB6.out B7)
    have X7 := Lib.hid (X6.out.below B7)
    have E47 := Lib.hid (E46.out.below B7)
    have E57 := Lib.hid (E56.out.below B7)
    clear k7 B7 X6 HB6 E46 E56 E6
    go_wp2
    have hap := fun i k hi hk hne => least_apart HG.out HAL.out (i := i) (k := k) hi hk hne
    have hwo := fun y hy => least_without HG.out HAL.out (y := y) hy
    have HLL := Lib.hid (least_all HG.out HAL.out)
    have HI0 := Lib.hid Try.infoI64
    generalize hU : upL P zs = U at *
    generalize hL : leastL P zs = L at *
    have HAP := Lib.hid hap
    have HWO := Lib.hid hwo
    clear hap hwo hU hL
    go_loopw [15] (fun i wr => ∃ x : Nat, x ≤ n5 ∧ i = .int .i64 x ∧ Hid (Since w7 wr)) (fun i _ => n5 - (intOf i).toNat)
    case atStart => exact ⟨0, Nat.zero_le _, rfl, Lib.hid (Below.refl _ _)⟩
    case round =>
      obtain ⟨x, hx, rfl, hS⟩ := hrel
      by_cases hlt : x < n5
      · have hxi : (x : Int) < n5 := by omega
        have X8 := Lib.hid (X7.out.below hS.out)
        have E48 := Lib.hid (E47.out.below hS.out)
        have E58 := Lib.hid (E57.out.below hS.out)
        have H8 := Lib.hid (Since.step HB7.out hS.out)
        go_wp2
        rename World => wo
        go_loopw [16] (fun i wr => ∃ k : Nat, k ≤ n5 ∧ i = .int .i64 k ∧ Hid (Since wo wr)) (fun i _ => n5 - (intOf i).toNat)
        case atStart => exact ⟨0, Nat.zero_le _, rfl, Lib.hid (Below.refl _ _)⟩
        case round =>
          obtain ⟨k, hk, rfl, hT⟩ := hrel
          by_cases hlt2 : k < n5
          · have hki : (k : Int) < n5 := by omega
            by_cases hxk : x = k
            · have hne : ((x : Int) != (k : Int)) = false := by subst hxk; simp
              clear hxk
              go_wp2
              go_quiet (fail)
              go_wp2
              go_roundw
              case rel => exact ⟨k + 1, by omega, by go_num, Lib.hid (below_drewN hT.out nq)⟩
              case measure => simp [intOf]; omega
            · have hne : ((x : Int) != (k : Int)) = true := by rw [bne_iff_ne]; omega
              have hf := HAP.out x k (by rw [← HN5.out]; exact hlt) (by rw [← HN5.out]; exact hlt2) hxk
              obtain ⟨b, off, he1, hcx⟩ := (E58.out.below hT.out).at x hlt
              obtain ⟨b', off', he2, hck⟩ := (E58.out.below hT.out).at k hlt2
              rw [he1] at he2
              cases he2
              subst he1
              have kq : ∀ n, Calls Try.prog 19 #[.pointer (some ⟨N, 0, none⟩), .int .i64 (L[x]?.getD 0), .int .i64 (L[k]?.getD 0)] (wr.drewN n) fun e w' => e = .returned (.bool false) ∧ w' = wr.drewN n := fun n =>
                (tis_any N P _ _ _ ((X8.out.below hT.out).below (below_drewN (Below.refl _ _) n))).mono fun e w' h => ⟨by rw [h.1, hf], h.2.symm⟩
              generalize L[x]?.getD 0 = c at *
              generalize L[k]?.getD 0 = d at *
              have KQ := Lib.hid kq
              clear kq hf hxk
              go_wp2
              go_quiet ((go_at_call 19; exact Calls.quiet_of_same (KQ.out _)))
              go_wp2
              go_roundw
              case rel => exact ⟨k + 1, by omega, by go_num, Lib.hid (below_drewN hT.out nq)⟩
              case measure => simp [intOf]; omega
          · have hki : ¬ (k : Int) < n5 := by omega
            go_wp2
            have hymem : L[x]?.getD 0 ∈ L := by rw [List.getElem?_eq_getElem (by rw [← HN5.out]; exact hlt)]; exact List.getElem_mem _
            have hww := HWO.out _ hymem
            have hcy := fun W (hB : Since wr W) => (((E58.out.below hT.out).below hB).at x hlt)
            obtain ⟨b0, off0, he0, hc0⟩ := (E58.out.below hT.out).at x hlt
            subst he0
            generalize L[x]?.getD 0 = y at *
            have HWW := Lib.hid hww
            have HCY := Lib.hid hc0
            have E49 := Lib.hid (E48.out.below hT.out)
            have X9 := Lib.hid (X8.out.below hT.out)
            have H9 := Lib.hid (Since.step hS.out hT.out)
            clear hymem hww hcy hc0
            rename World => wq
            go_loopw [17, 18] (fun v i wr => ∃ k : Nat, k ≤ n4 ∧ i = .int .i64 k ∧ ∃ ao no co, v = .slice ao no co ∧ Hid (no = ((U.take k).filter fun u => u != y).length) ∧ Hid (Own .i64 3 wq.heap.size wr (.slice ao no co) ((U.take k).filter fun u => u != y)) ∧ Hid (Since wq wr)) (fun _ i _ => n4 - (intOf i).toNat)
            case atStart => exact ⟨0, Nat.zero_le _, rfl, none, 0, 0, rfl, rfl, Lib.hid (World.ownsRow_nil _ _ _ _), Lib.hid (Below.refl _ _)⟩
            case round =>
              obtain ⟨k, hk, rfl, ao, no, co, rfl, hno, hO, hQ⟩ := hrel
              by_cases hlt3 : k < n4
              · have hki : (k : Int) < n4 := by omega
                obtain ⟨b1, off1, he1, hc1⟩ := (E49.out.below hQ.out).at k hlt3
                subst he1
                have hcy := Since.cell hQ.out HCY.out
                have hgk : U[k]? = some (U[k]?.getD 0) := by rw [List.getElem?_eq_getElem (by rw [← HN4.out]; exact hlt3)]; rfl
                have hfl : (U.take (k + 1)).filter (fun u => u != y) = (U.take k).filter (fun u => u != y) ++ (if (U[k]?.getD 0 != y) = true then [U[k]?.getD 0] else []) := by
                  rw [List.take_add_one, hgk, List.filter_append]
                  simp [List.filter_cons]
                generalize U[k]?.getD 0 = u at *
                have HFL := Lib.hid hfl
                have hll : ((U.take k).filter fun u => u != y).length ≤ 64 := Nat.le_trans (List.length_filter_le _ _) (by rw [List.length_take]; omega)
                generalize (U.take k).filter (fun u => u != y) = R at *
                have hxi2 : (x : Int) < n5 := by omega
                clear hgk hfl
                by_cases hu : (u != y) = true
                · have HU := Lib.hid hu
                  go_wp2
                  go_quiet (fail)
                  have HO2 := Lib.hid (hO.out.below (below_drewN (Below.refl wr.heap.size wr) nq))
                  have HQ2 := Lib.hid (below_drewN hQ.out nq)
                  have hc2 := Since.cell (below_drewN (Below.refl wr.heap.size wr) nq) hc1
                  generalize wr.drewN nq = wz at *
                  go_wp2_with (at_builtin; refine push_own rfl _ _ 22 rfl .i64 3 8 Try.underlying22 HI0.out (by decide) wq.heap.size (.slice ao no co) R _ _ rfl rfl HO2.out HQ2.out.size (by omega) ?_; intro a8 n8 c8 w8 hn8 hO8 hB8)
                  go_roundw
                  case rel => exact ⟨k + 1, by omega, by go_num, a8, n8, c8, rfl, Lib.hid (by rw [HFL.out, if_pos HU.out, List.length_append]; exact hn8.out), Lib.hid (by rw [HFL.out, if_pos HU.out]; exact hO8.out), Lib.hid (HQ2.out.trans hB8.out)⟩
                  case measure => simp [intOf]; omega
                · have hu' : (u != y) = false := by simpa using hu
                  have HU := Lib.hid hu
                  clear hu
                  go_wp2
                  go_quiet (fail)
                  have HO2 := Lib.hid (hO.out.below (below_drewN (Below.refl wr.heap.size wr) nq))
                  go_wp2
                  go_roundw
                  case rel => exact ⟨k + 1, by omega, by go_num, ao, no, co, rfl, Lib.hid (by rw [HFL.out, if_neg HU.out, List.append_nil]; exact hno.out), Lib.hid (by rw [HFL.out, if_neg HU.out, List.append_nil]; exact HO2.out), Lib.hid (below_drewN hQ.out nq)⟩
                  case measure => simp [intOf]; omega
              · have hki : ¬ (k : Int) < n4 := by omega
                have hkn : U.take k = U := List.take_of_length_le (by rw [← HN4.out]; omega)
                rw [hkn] at hno hO
                obtain ⟨hw1, hw2⟩ := HWW.out
                have hlf : (U.filter fun u => u != y).length ≤ 64 := Nat.le_trans (List.length_filter_le _ _) (by rw [← HN4.out]; exact hup)
                have k8 := tup_any N P _ (U.filter fun u => u != y) wr (X9.out.below hQ.out) hO.out.els (by omega)
                rw [show noneE P.length (U.filter fun u => u != y) = 0 from if_pos hw1] at k8
                have hul := upL_len P (U.filter fun u => u != y)
                have E4a := E49.out.below hQ.out
                generalize hV : upL P (U.filter fun u => u != y) = V at *
                generalize (U.filter fun u => u != y) = R at *
                have K8 := Lib.hid k8
                have HW2 := Lib.hid hw2
                have E4A := Lib.hid E4a
                clear hkn hw1 hw2 k8 hV E4a
                go_wp2_with fail
                refine (K8.out).mono ?_
                rintro e w8 ⟨a8, n8, c8, rfl, HN8, O8, B8⟩
                have k9 := Lib.hid (sameInts_make _ _ _ _ w8 O8.out.els (E4A.out.below B8.out) (by omega) false (decide_eq_false HW2.out))
                go_wp2_with fail
                refine (k9.out).mono ?_
                rintro e w9 ⟨rfl, B9⟩
                have HZ := Lib.hid (Since.step (Since.step (Since.step H9.out hQ.out) B8.out) B9)
                clear B9
                go_wp2
                go_roundw
                case rel => exact ⟨x + 1, by omega, by go_num, HZ⟩
                case measure => simp [intOf]; omega
      · have hxi : ¬ (x : Int) < n5 := by omega
        go_wp2_with fail
        refine (KL.out wr).mono ?_
        rintro e w8 ⟨rfl, B8⟩
        go_wp2
        go_ret
        exact ⟨rfl, Since.step (Since.step HB7.out hS.out) B8⟩
  · have hall' : allB P.length zs = false := by simpa using hall
    have hne : noneE P.length zs = 7 := by unfold noneE; exact if_neg hall
    rw [hne] at k5
    rw [hne]
    have K5 := Lib.hid k5
    clear k5
    clear hall hall' hne
    go_wp2_with fail
    refine (K5.out).mono ?_
    rintro e w5 ⟨a5, n5, c5, rfl, HN5, O5, B5⟩
    have HB5 := Lib.hid (Since.step HB4.out B5.out)
    go_wp2_with fail
    refine (KL.out w5).mono ?_
    rintro e w6 ⟨rfl, B6⟩
    go_wp2
    go_ret
    exact ⟨rfl, Since.step HB5.out B6⟩

end Go.Proofs.Ytidnllddhhllcaa
