/- The law RatioBetween. -/
import Derived.Test.YtloddocibfbkpaaLaw03g
import Derived.Test.YtloddocibfbkpaaLaw03h
import Derived.Test.YtloddocibfbkpaaLaw03i
namespace Go.Proofs.Ytloddocibfbkpaa
open Go.RowKit Go.Shelf

set_option maxHeartbeats 400000000 in
set_option maxRecDepth 100000 in
theorem law_between (a0 a1 a2 a3 a4 a5 : Int) (w : World) (w0 : (Lit.int .i64 a0).wf = true) (w1 : (Lit.int .i64 a1).wf = true) (w2 : (Lit.int .i64 a2).wf = true) (w3 : (Lit.int .i64 a3).wf = true) (w4 : (Lit.int .i64 a4).wf = true) (w5 : (Lit.int .i64 a5).wf = true) (KL : Lives) :
    Calls Try.prog 6 #[.int .i64 a0, .int .i64 a1, .int .i64 a2, .int .i64 a3, .int .i64 a4, .int .i64 a5] w fun e w' => e = .returned (.bool true) ∧ Below w.heap.size w w' := by
  have KL' := Lib.hid KL
  unfold Lives at KL'
  have KR0 := Lib.hid (fun w => ratio_any a0 a1 w w0 w1)
  have KR1 := Lib.hid (fun w => ratio_any a2 a3 w w2 w3)
  have hn := Lib.hid (show I64 a4 from i64_of_wf w4)
  have hd := Lib.hid (show I64 a5 from i64_of_wf w5)
  clear KL w0 w1 w2 w3 w4 w5
  go_enter Try.func6, Try.ntmps6
  go_wp2_with fail
  refine (KR0.out _).mono ?_
  rintro e W1 ⟨a1', a2', hA, rfl, hB1⟩
  unfold rv
  go_wp2_with fail
  refine (KR1.out _).mono ?_
  rintro e W2 ⟨b1', b2', hBB, rfl, hB2⟩
  unfold rv
  have X_a := Lib.hid (BoxAt.new hB2)
  have H2 := Lib.hid ((hB1.alloc hB1.size _).trans (hB2.mono (Nat.le_trans hB1.size (by simp))))
  clear hB1 hB2
  have ga1 := hA.1
  have ga2 := hA.2.1
  have ga3 := hA.2.2.1
  have ga4 := hA.2.2.2.1
  have hP := Lib.hid (btw_i64 (ok_i64 hA).1 (ok_i64 hBB).1 hn.out (show I64 (a1' * 7 + 1) from ⟨by omega, by omega⟩))
  have hQ := Lib.hid (btw_i64' (ok_i64 hA).2 (ok_i64 hBB).2 hd.out (show I64 (a2' * 7) from ⟨by omega, by omega⟩))
  clear hA hBB
  obtain ⟨xa0, xa1, -, -, xa2⟩ := X_a.out
  go_wp2
  clear ga1 ga2 ga3 ga4
  have T0 := btw_tab ((W2.alloc (.cells #[.int .i64 b1', .int .i64 b2'] 26)).alloc (.cells #[.int .i64 (a1' * 7 + 1), .int .i64 (a2' * 7)] 26)) a1' a2' b1' b2' a4 a5 (a1' * 7 + 1) (a2' * 7) 26
  rw [size_alloc, size_alloc] at T0
  have HT := Lib.hid T0
  have Hb := Lib.hid (((H2.out.alloc H2.out.size (.cells #[.int .i64 b1', .int .i64 b2'] 26)).alloc (Nat.le_trans H2.out.size (by simp)) (.cells #[.int .i64 (a1' * 7 + 1), .int .i64 (a2' * 7)] 26)).alloc (Nat.le_trans H2.out.size (by simp; omega)) (.cells #[.int .i64 a1', .int .i64 a2', .int .i64 b1', .int .i64 b2', .int .i64 a4, .int .i64 a5, .int .i64 0, .int .i64 1, .int .i64 (a1' * 7 + 1), .int .i64 (a2' * 7)] 26))
  clear T0 X_a xa0 xa1 xa2 H2 KR0 KR1
  generalize btwP a1' b1' a4 (a1' * 7 + 1) = P at *
  generalize btwQ a2' b2' a5 (a2' * 7) = Q at *
  generalize ((W2.alloc (.cells #[.int .i64 b1', .int .i64 b2'] 26)).alloc (.cells #[.int .i64 (a1' * 7 + 1), .int .i64 (a2' * 7)] 26)).alloc (.cells #[.int .i64 a1', .int .i64 a2', .int .i64 b1', .int .i64 b2', .int .i64 a4, .int .i64 a5, .int .i64 0, .int .i64 1, .int .i64 (a1' * 7 + 1), .int .i64 (a2' * 7)] 26) = wb at *
  generalize W2.heap.size + 1 + 1 = G at *
  go_loopw [17] (fun x wr => ∃ k : Nat, k ≤ 5 ∧ x = .int .i64 k ∧ Hid (Since wb wr)) (fun x _ => 5 - (intOf x).toNat)
  case atStart => exact ⟨0, by omega, rfl, Below.refl _ _⟩
  case round =>
    obtain ⟨k, hk, rfl, hS⟩ := hrel
    rename World => wo
    by_cases hlt : k < 5
    · have hki : (k : Int) < 5 := by omega
      go_wp2
      go_loopw [18] (fun x wr => ∃ m : Nat, m ≤ 5 ∧ x = .int .i64 m ∧ Hid (Since wb wr)) (fun x _ => 5 - (intOf x).toNat)
      case atStart => exact ⟨0, by omega, rfl, hS.out⟩
      case round =>
        clear hS
        obtain ⟨m, hm, rfl, hS⟩ := hrel
        by_cases hlt2 : m < 5
        · have hmi : (m : Int) < 5 := by omega
          have HT2 := Lib.hid (HT.out.keep hS.out)
          obtain ⟨t1, t2⟩ := HT2.out.2 k hlt
          obtain ⟨t3, t4⟩ := HT2.out.2 m hlt2
          have hG := HT2.out.1
          have ia := hP.out k
          have ib := hQ.out k
          have ic := hP.out m
          have id' := hQ.out m
          have HG : ∀ {W : World}, TabAt G 5 P Q W → G < W.heap.size ∧ W.cell? ⟨G, k * 2, none⟩ = some (.int .i64 (P k)) ∧ W.cell? ⟨G, k * 2 + 1, none⟩ = some (.int .i64 (Q k)) ∧ W.cell? ⟨G, m * 2, none⟩ = some (.int .i64 (P m)) ∧ W.cell? ⟨G, m * 2 + 1, none⟩ = some (.int .i64 (Q m)) := fun h => ⟨h.1, (h.2 k hlt).1, (h.2 k hlt).2, (h.2 m hlt2).1, (h.2 m hlt2).2⟩
          generalize P k = a at *
          generalize Q k = b at *
          generalize P m = c at *
          generalize Q m = d at *
          have HGG := Lib.hid (fun (W : World) (h : TabAt G 5 P Q W) => HG h)
          clear HG
          have k_r := fun w => rbtw_any a b c d w ia ib ic id'
          have k_s := fun w => sbtw_any a b c d w
          have k_b := fun w => both_any a b c d w
          have K_r := Lib.hid k_r
          have K_s := Lib.hid k_s
          have K_b := Lib.hid k_b
          clear k_r k_s k_b
          unfold rv at K_r K_s K_b
          go_upto_region 11 with (fail)
          go_cut [19, 20] (fun s1 s2 wx => ∃ R, Qm.Btw a b c d R ∧ CutB wr R.1 R.2.1 R.2.2 s1 s2 wx)
          case first =>
            focus
              exact leaf11 hlt hki hlt2 hmi hG t1 t2 t3 t4 ia ib ic id' (by assumption) (by assumption)
          case rest =>
            obtain ⟨R, hR, N1, rfl, rfl, X1, S1⟩ := hcut
            have HT3 := Lib.hid (HT2.out.keep S1)
            have HS1 := Lib.hid (Since.step hS.out S1)
            have HX1 := Lib.hid X1
            have HBT := Lib.hid hR
            clear t1 t2 t3 t4 hG HT2 hS X1 S1 hR
            obtain ⟨hG, t1, t2, t3, t4⟩ := HGG.out _ HT3.out
            rename World => wd
            go_upto_region 12 with (fail)
            go_cut [21, 22] (fun s1 s2 wx => ∃ R, Qm.Btw a b c d R ∧ CutB wd R.1 R.2.1 R.2.2 s1 s2 wx)
            case first =>
              focus
                exact leaf12 hlt hki hlt2 hmi hG t1 t2 t3 t4 (by assumption) (by assumption)
            case rest =>
              obtain ⟨R2, hR2, N2, rfl, rfl, X2, S2⟩ := hcut
              obtain rfl := HBT.out.one hR2
              obtain ⟨R1, R2, R3⟩ := R
              have HT4 := Lib.hid (HT3.out.keep S2)
              have HS2 := Lib.hid (Since.step HS1.out S2)
              have HX2 := Lib.hid X2
              replace HX1 := Lib.hid (HX1.out.keep S2)
              clear t1 t2 t3 t4 hG HT3 HS1 X2 S2 hR2
              obtain ⟨hG, t1, t2, t3, t4⟩ := HGG.out _ HT4.out
              obtain ⟨p0, p1, -, -, p2⟩ := HX1.out
              obtain ⟨q0, q1, -, -, q2⟩ := HX2.out
              rename World => we
              have na1 : ∃ na, wrap64 (-a) = na ∧ IntKind.i64.wrap (-a) = na := ⟨_, rfl, IntWalk.i64_left _⟩
              have nc1 : ∃ nc, wrap64 (-c) = nc ∧ IntKind.i64.wrap (-c) = nc := ⟨_, rfl, IntWalk.i64_left _⟩
              obtain ⟨na, hna, hna'⟩ := na1
              obtain ⟨nc, hnc, hnc'⟩ := nc1
              have HNA := Lib.hid hna
              have HNC := Lib.hid hnc
              have hmx := fun (w : World) (ts : Array TypeId) (t : TypeId) => run_max4 (P := Try.prog) w ts t a na c nc
              generalize hM : mx4 a na c nc = M at *
              have HM := Lib.hid hM
              have HMX := Lib.hid hmx
              clear hM hmx
              go_wp2
              have hmx := HMX.out
              go_quiet (fail)
              have hD : Below we.heap.size we (we.drewN nq) := below_drewN (Below.refl _ _) nq
              have HT5 := Lib.hid (HT4.out.keep hD)
              have HS3 := Lib.hid (Since.step HS2.out hD)
              replace HX1 := Lib.hid (HX1.out.keep hD)
              clear hD HT4 HS2 HX2 t1 t2 t3 t4 hG p0 p1 p2 q0 q1 q2 hmx HMX hna hna' hnc hnc'
              generalize we.drewN nq = wf at *
              obtain ⟨hG, t1, t2, t3, t4⟩ := HGG.out _ HT5.out
              obtain ⟨p0, p1, -, -, p2⟩ := HX1.out
              go_upto_region 16 with (fail)
              generalize hfar : decide (1073741824 < M) = far at *
              have HFAR := Lib.hid hfar
              clear hfar
              go_cut [147] (fun s wx => CutQ (Qm.bothI a b c d) b d M wf s wx)
              case first =>
                exact leaf16 hlt hki hlt2 hmi hG t1 t2 t3 t4 p0 p1 HFAR (by assumption) (by assumption)
              case rest =>
                obtain ⟨q, rfl, hq, S5⟩ := hcut
                have HT6 := Lib.hid (HT5.out.keep S5)
                have HS4 := Lib.hid (Since.step HS3.out S5)
                replace HX1 := Lib.hid (HX1.out.keep S5)
                clear t1 t2 t3 t4 hG p0 p1 p2 HT5 HS3 S5
                obtain ⟨hG, t1, t2, t3, t4⟩ := HGG.out _ HT6.out
                obtain ⟨p0, p1, -, -, p2⟩ := HX1.out
                rename World => wg
                cases q
                case true =>
                  clear hq
                  go_wp2
                  go_roundw
                  case rel => exact ⟨m + 1, by omega, by go_num, HS4⟩
                  case measure => simp [intOf]; omega
                case false =>
                  obtain ⟨h1, h2, h3, h4⟩ := hq rfl
                  obtain ⟨o, o'⟩ := Qm.bothI_ok.1 h1
                  rw [← HM.out] at h4
                  obtain ⟨f1, f2, f3, f4⟩ := mx4_le h4
                  have g1 := o.2.2.1; have g2 := o.2.2.2.1; have g3 := o'.2.2.1; have g4 := o'.2.2.2.1
                  rw [← HNA.out, IntWalk.wrap64_in _ (by omega)] at f2
                  rw [← HNC.out, IntWalk.wrap64_in _ (by omega)] at f4
                  obtain ⟨s1, s2⟩ := btw_small HBT.out o o' h2 h3 (by omega) f1 (by omega) f3
                  have k_l := fun w => less_any a b c d w o o'
                  have hO := Lib.hid o
                  have hO' := Lib.hid o'
                  have hb1 := o.1
                  have hd1 := o'.1
                  clear f1 f2 f3 f4 g1 g2 g3 g4 h1 h4 hq o o' K_r K_s K_b HBT HM HNA HNC
                  unfold rv at k_l
                  by_cases hlt : a * d < c * b
                  · obtain ⟨x, y, e, ox, hy, c1, c2⟩ := s2 hlt
                    simp only [Prod.mk.injEq] at e
                    obtain ⟨rfl, rfl, rfl⟩ := e
                    rw [decide_eq_true hlt] at k_l
                    have K_l := Lib.hid k_l
                    have k_c1 := fun w => rcmp_any a b R1 R2 w (ok_i64 hO.out).1 (ok_i64 hO.out).2 (ok_i64 ox).1 (ok_i64 ox).2
                    have k_c2 := fun w => rcmp_any R1 R2 c d w (ok_i64 ox).1 (ok_i64 ox).2 (ok_i64 hO'.out).1 (ok_i64 hO'.out).2
                    rw [cmpR_ok hO.out ox, c1] at k_c1
                    rw [cmpR_ok ox hO'.out, c2] at k_c2
                    have K_c1 := Lib.hid k_c1
                    have K_c2 := Lib.hid k_c2
                    clear k_c1 k_c2 k_l c1 c2 ox s1 s2 hlt hO hO'
                    unfold rv at K_c1 K_c2
                    focus
                      have hSd : Since wg wg.drew := Below.drew (Below.refl _ _)
                      go_wp2
                      go_region_held3 (fun w' => w'.cell? ⟨G, k * 2, none⟩ = some (.int .i64 a) ∧ w'.cell? ⟨G, k * 2 + 1, none⟩ = some (.int .i64 b) ∧ w'.cell? ⟨G, m * 2, none⟩ = some (.int .i64 c) ∧ w'.cell? ⟨G, m * 2 + 1, none⟩ = some (.int .i64 d) ∧ w'.cell? ⟨N1, 0, none⟩ = some (.int .i64 R1) ∧ w'.cell? ⟨N1, 1, none⟩ = some (.int .i64 R2) ∧ Since wg w')
                        (first | exact ⟨t1, t2, t3, t4, p0, p1, hSd⟩ | exact ⟨Since.cell hB t1, Since.cell hB t2, Since.cell hB t3, Since.cell hB t4, Since.cell hB p0, Since.cell hB p1, hB⟩)
                        ((go_at_call 33; refine (K_l.out _).mono ?_; rintro e w' ⟨rfl, hr⟩; (first | (have hB := Since.step hSd hr) | (have hB := Since.step hB hr)); clear hr))
                      have hD : Below wg.heap.size wg w' := hB
                      clear hB hSd
                      have HT7 := Lib.hid (HT6.out.keep hD)
                      have HS5 := Lib.hid (Since.step HS4.out hD)
                      replace HX1 := Lib.hid (HX1.out.keep hD)
                      clear hD t1 t2 t3 t4 hG p0 p1 p2 HT6 HS4
                      obtain ⟨hG, t1, t2, t3, t4⟩ := HGG.out _ HT7.out
                      obtain ⟨p0, p1, -, -, p2⟩ := HX1.out
                      rename World => wh
                      have hd1x : decide (b + d < R2) = false := decide_eq_false (by omega)
                      have hd2x : IntKind.i64.wrap (b + d) = b + d := IntWalk.i64_in _ (by omega)
                      have hd3x : 0 ≤ b + d := by omega
                      go_wp2
                      go_quiet (fail)
                      clear hd1x hd2x hd3x
                      have hD := below_drewN (Below.refl wh.heap.size wh) nq
                      have HT8 := Lib.hid (HT7.out.keep hD)
                      have HS6 := Lib.hid (Since.step HS5.out hD)
                      replace HX1 := Lib.hid (HX1.out.keep hD)
                      clear hD t1 t2 t3 t4 hG p0 p1 p2 HT7 HS5
                      generalize wh.drewN nq = wi at *
                      obtain ⟨hG, t1, t2, t3, t4⟩ := HGG.out _ HT8.out
                      obtain ⟨p0, p1, -, -, p2⟩ := HX1.out
                      have hSd : Since wi wi.drew := Below.drew (Below.refl _ _)
                      go_wp2
                      go_region_held3 (fun w' => w'.cell? ⟨G, k * 2, none⟩ = some (.int .i64 a) ∧ w'.cell? ⟨G, k * 2 + 1, none⟩ = some (.int .i64 b) ∧ w'.cell? ⟨G, m * 2, none⟩ = some (.int .i64 c) ∧ w'.cell? ⟨G, m * 2 + 1, none⟩ = some (.int .i64 d) ∧ w'.cell? ⟨N1, 0, none⟩ = some (.int .i64 R1) ∧ w'.cell? ⟨N1, 1, none⟩ = some (.int .i64 R2) ∧ Since wi w')
                        (first | exact ⟨t1, t2, t3, t4, p0, p1, hSd⟩ | exact ⟨Since.cell hB t1, Since.cell hB t2, Since.cell hB t3, Since.cell hB t4, Since.cell hB p0, Since.cell hB p1, hB⟩)
                        ((go_at_call 20; refine (K_c1.out _).mono ?_; rintro e w' ⟨rfl, hr⟩; (first | (have hB := Since.step hSd hr) | (have hB := Since.step hB hr)); clear hr))
                      have hD : Below wi.heap.size wi w' := hB
                      clear hB hSd
                      have HT9 := Lib.hid (HT8.out.keep hD)
                      have HS7 := Lib.hid (Since.step HS6.out hD)
                      replace HX1 := Lib.hid (HX1.out.keep hD)
                      clear hD t1 t2 t3 t4 hG p0 p1 p2 HT8 HS6
                      obtain ⟨hG, t1, t2, t3, t4⟩ := HGG.out _ HT9.out
                      obtain ⟨p0, p1, -, -, p2⟩ := HX1.out
                      rename World => wj
                      have hSd : Since wj wj.drew := Below.drew (Below.refl _ _)
                      go_wp2
                      go_region_held3 (fun w' => w'.cell? ⟨G, k * 2, none⟩ = some (.int .i64 a) ∧ w'.cell? ⟨G, k * 2 + 1, none⟩ = some (.int .i64 b) ∧ w'.cell? ⟨G, m * 2, none⟩ = some (.int .i64 c) ∧ w'.cell? ⟨G, m * 2 + 1, none⟩ = some (.int .i64 d) ∧ w'.cell? ⟨N1, 0, none⟩ = some (.int .i64 R1) ∧ w'.cell? ⟨N1, 1, none⟩ = some (.int .i64 R2) ∧ Since wj w')
                        (first | exact ⟨t1, t2, t3, t4, p0, p1, hSd⟩ | exact ⟨Since.cell hB t1, Since.cell hB t2, Since.cell hB t3, Since.cell hB t4, Since.cell hB p0, Since.cell hB p1, hB⟩)
                        ((go_at_call 20; refine (K_c2.out _).mono ?_; rintro e w' ⟨rfl, hr⟩; (first | (have hB := Since.step hSd hr) | (have hB := Since.step hB hr)); clear hr))
                      have hD : Below wj.heap.size wj w' := hB
                      clear hB hSd
                      have HT10 := Lib.hid (HT9.out.keep hD)
                      have HS8 := Lib.hid (Since.step HS7.out hD)
                      replace HX1 := Lib.hid (HX1.out.keep hD)
                      clear hD t1 t2 t3 t4 hG p0 p1 p2 HT9 HS7
                      obtain ⟨hG, t1, t2, t3, t4⟩ := HGG.out _ HT10.out
                      obtain ⟨p0, p1, -, -, p2⟩ := HX1.out
                      rename World => wk
                      go_wp2
                      go_roundw
                      case rel => exact ⟨m + 1, by omega, by go_num, HS8⟩
                      case measure => simp [intOf]; omega
                  · have e := s1 hlt
                    simp only [Prod.mk.injEq] at e
                    obtain ⟨rfl, rfl, rfl⟩ := e
                    rw [decide_eq_false hlt] at k_l
                    have K_l := Lib.hid k_l
                    clear k_l s1 s2 hlt hO hO'
                    focus
                      have hSd : Since wg wg.drew := Below.drew (Below.refl _ _)
                      go_wp2
                      go_region_held3 (fun w' => w'.cell? ⟨G, k * 2, none⟩ = some (.int .i64 a) ∧ w'.cell? ⟨G, k * 2 + 1, none⟩ = some (.int .i64 b) ∧ w'.cell? ⟨G, m * 2, none⟩ = some (.int .i64 c) ∧ w'.cell? ⟨G, m * 2 + 1, none⟩ = some (.int .i64 d) ∧ w'.cell? ⟨N1, 0, none⟩ = some (.int .i64 0) ∧ w'.cell? ⟨N1, 1, none⟩ = some (.int .i64 0) ∧ Since wg w')
                        (first | exact ⟨t1, t2, t3, t4, p0, p1, hSd⟩ | exact ⟨Since.cell hB t1, Since.cell hB t2, Since.cell hB t3, Since.cell hB t4, Since.cell hB p0, Since.cell hB p1, hB⟩)
                        ((go_at_call 33; refine (K_l.out _).mono ?_; rintro e w' ⟨rfl, hr⟩; (first | (have hB := Since.step hSd hr) | (have hB := Since.step hB hr)); clear hr))
                      have hD : Below wg.heap.size wg w' := hB
                      clear hB hSd
                      have HT7 := Lib.hid (HT6.out.keep hD)
                      have HS5 := Lib.hid (Since.step HS4.out hD)
                      replace HX1 := Lib.hid (HX1.out.keep hD)
                      clear hD t1 t2 t3 t4 hG p0 p1 p2 HT6 HS4
                      obtain ⟨hG, t1, t2, t3, t4⟩ := HGG.out _ HT7.out
                      obtain ⟨p0, p1, -, -, p2⟩ := HX1.out
                      rename World => wh
                      go_wp2
                      go_quiet (fail)
                      have hD := below_drewN (Below.refl wh.heap.size wh) nq
                      have HS6 := Lib.hid (Since.step HS5.out hD)
                      clear hD
                      go_wp2
                      go_roundw
                      case rel => exact ⟨m + 1, by omega, by go_num, HS6⟩
                      case measure => simp [intOf]; omega
        · have hmi : 5 ≤ (m : Int) := by omega
          go_wp2
          go_roundw
          case rel => exact ⟨k + 1, by omega, by go_num, hS.out⟩
          case measure => simp [intOf]; omega
    · have hki : 5 ≤ (k : Int) := by omega
      have H5 := Lib.hid (Hb.out.trans (Below.mono hS.out Hb.out.size))
      go_wp2_with fail
      refine (KL'.out _).mono ?_
      rintro e WZ ⟨rfl, hB⟩
      have HZZ := Lib.hid (H5.out.trans (hB.mono H5.out.size))
      clear hB
      go_wp2
      go_ret
      exact ⟨rfl, HZZ.out⟩

end Go.Proofs.Ytloddocibfbkpaa
