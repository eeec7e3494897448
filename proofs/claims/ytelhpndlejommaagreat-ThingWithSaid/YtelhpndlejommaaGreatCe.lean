/- The reference's Compare and Same. -/
import Derived.Test.YtelhpndlejommaaGreatCaCc
namespace Go.Proofs.YtelhpndlejommaaGreat
open Go.RowKit Go.Shelf

def RCmpK (m : Nat) : Prop := ∀ (t : Th), t.size ≤ m → CmpOk t → ∀ (u : Th), CmpOk u → ∀ (a b c a' b' c' : Value) (W : World), TAt W.heap.size W t a b c → TAt W.heap.size W u a' b' c' →
  Calls Tryz.prog 22 #[.agg #[a, b, c], .agg #[a', b', c']] W fun e w' => e = .returned (.int .i64 (Th.cmp t u)) ∧ Below W.heap.size W w'

set_option maxHeartbeats 8000000 in
set_option maxRecDepth 100000 in
theorem rcmp_step (M : Nat) (KT : Hid (RCmpK M)) : RCmpK (M + 1) := by
  intro t ht hto u huo a b c a' b' c' w hT hU
  have hpt := cmp_parts t u
  obtain ⟨a1, c1, a2, c2, a3, c3, rfl, rfl, rfl, hC, hV, hP, -, -⟩ := hT.shape
  obtain ⟨a4, c4, a5, c5, a6, c6, rfl, rfl, rfl, hC', hV', hP', -, -⟩ := hU.shape
  obtain ⟨l1, l2, l3⟩ := hto.len
  obtain ⟨l4, l5, l6⟩ := huo.len
  have hsz := t.size_eq
  have K1 := Lib.hid fun W (hB : Below w.heap.size w W) => rints_any' a1 _ c1 a4 _ c4 _ _ W (hC.below hB) (hC'.below hB) (by omega) (by omega)
  have KA := Lib.hid fun W (hB : Below w.heap.size w W) => rnumbers_any a2 _ c2 _ W (hV.below hB) (by omega)
  have KB := Lib.hid fun W (hB : Below w.heap.size w W) => rnumbers_any a5 _ c5 _ W (hV'.below hB) (by omega)
  have hn1 : (numsL t.vs).length ≤ 1000000000 := by rw [numsL_len]; omega
  have hn2 : (numsL u.vs).length ≤ 1000000000 := by rw [numsL_len]; omega
  have K2 := Lib.hid fun (x y : Option Addr) (n c m d : Nat) W (h1 : Els .i64 W (.slice x n c) (numsL t.vs)) (h2 : Els .i64 W (.slice y m d) (numsL u.vs)) => rints_any' x n c y m d _ _ W h1 h2 (by rw [h1.len]; exact hn1) (by rw [h2.len]; exact hn2)
  rw [numsL_lex] at K2
  have KS := Lib.hid fun (x : Th) (hx : x ∈ t.ps) (y : Th) (hy : y ∈ u.ps) a b c a' b' c' W h1 h2 => KT.out x (by have := Th.sizes_mem hx; omega) (hto.kid hx) y (huo.kid hy) a b c a' b' c' W h1 h2
  have KO := Lib.hid fun (x y : Int) W => order_any x y W
  have HP := Lib.hid fun W (hB : Below w.heap.size w W) => hP.below hB
  have HQ := Lib.hid fun W (hB : Below w.heap.size w W) => hP'.below hB
  obtain ⟨W1, hW1⟩ : ∃ W1, W1 = (w.alloc (.cells #[.slice a1 t.cs.length c1, .slice a2 t.vs.length c2, .slice a3 t.ps.length c3] 27)).alloc (.cells #[.slice a4 u.cs.length c4, .slice a5 u.vs.length c5, .slice a6 u.ps.length c6] 27) := ⟨_, rfl⟩
  have hX : BoxL w.heap.size [.slice a1 t.cs.length c1, .slice a2 t.vs.length c2, .slice a3 t.ps.length c3] W1 := by rw [hW1]; exact (BoxL.made w _ _).under _
  have hY : BoxL (w.heap.size + 1) [.slice a4 u.cs.length c4, .slice a5 u.vs.length c5, .slice a6 u.ps.length c6] W1 := by
    rw [hW1]
    have := BoxL.made (w.alloc (.cells #[.slice a1 t.cs.length c1, .slice a2 t.vs.length c2, .slice a3 t.ps.length c3] 27)) #[.slice a4 u.cs.length c4, .slice a5 u.vs.length c5, .slice a6 u.ps.length c6] 27
    rwa [World.size_alloc] at this
  have hB : Below w.heap.size w W1 := by rw [hW1]; exact ((Below.refl _ _).alloc (Nat.le_refl _) _).alloc (by simp) _
  have HB1 := Lib.hid hB
  have HX1 := Lib.hid hX
  have HY1 := Lib.hid hY
  have hst : lexL Th.cmp (t.ps.drop 0) (u.ps.drop 0) = lexL Th.cmp t.ps u.ps := rfl
  generalize t.cs.length = n1 at *
  generalize t.vs.length = n2 at *
  generalize u.cs.length = n4 at *
  generalize u.vs.length = n5 at *
  generalize Th.cmp t u = R at *
  generalize lexL cmpI t.cs u.cs = R1 at *
  generalize lexL vcmp t.vs u.vs = R2 at *
  generalize lexL Th.cmp t.ps u.ps = R3 at *
  generalize t.ps = ps at *
  generalize u.ps = qs at *
  generalize numsL t.vs = V1 at *
  generalize numsL u.vs = V2 at *
  have hk3 : ps.length ≤ 1000000 := l3
  have hk6 : qs.length ≤ 1000000 := l6
  generalize hc3 : ps.length = n3 at *
  generalize hc6 : qs.length = n6 at *
  have HN3 := Lib.hid hc3
  have HN6 := Lib.hid hc6
  have HST := Lib.hid hst
  obtain ⟨x0, x1, x2, -⟩ := hX.open3
  obtain ⟨y0, y1, y2, -⟩ := hY.open3
  clear hC hV hP hC' hV' hP' hT hU hX hY hB hto huo hsz l1 l2 l3 l4 l5 l6 ht KT hst hc3 hc6 hn1 hn2
  go_enter Tryz.func22, Tryz.ntmps22
  go_upto_region 1 with (fail)
  rw [← hW1]
  generalize w.heap.size + 1 = N1 at *
  clear hW1
  go_wp2_with fail
  refine (K1.out _ HB1.out).mono ?_
  rintro e w2 ⟨rfl, hr⟩
  have HB2 := Lib.hid (HB1.out.trans (hr.mono HB1.out.size))
  have HX2 := Lib.hid (HX1.out.keep hr)
  have HY2 := Lib.hid (HY1.out.keep hr)
  clear hr x0 x1 x2 y0 y1 y2 HX1 HY1
  by_cases h1 : R1 = 0
  · obtain ⟨x0, x1, x2, -⟩ := HX2.out.open3
    obtain ⟨y0, y1, y2, -⟩ := HY2.out.open3
    have hpt2 := hpt.2.1 h1
    have hpt3 := hpt.2.2 h1
    subst h1
    clear hpt
    go_upto_region 4 with (fail)
    have hSd : Since w2 w2.drew := Since.drew (Since.refl _)
    go_region_held3 (fun w' => w'.cell? ⟨w.heap.size, 1, none⟩ = some (.slice a2 n2 c2) ∧ w'.cell? ⟨N1, 1, none⟩ = some (.slice a5 n5 c5) ∧ Since w2 w')
      (first | exact ⟨x1, y1, hSd⟩ | exact ⟨Since.cell hB3 x1, Since.cell hB3 y1, hB3⟩ | exact ⟨Since.cell hB2 x1, Since.cell hB2 y1, hB2⟩ | exact ⟨Since.cell hB1 x1, Since.cell hB1 y1, hB1⟩)
      ((first
        | (go_at_call_of 46 (Value.slice a2 n2 c2); refine (KA.out _ (HB2.out.trans (Below.mono hSd HB2.out.size))).mono ?_; rintro e w' ⟨ak, nk, ck, rfl, hn1, hO1, hr1⟩; have hB1 : Since w2 w' := Since.step hSd hr1.out)
        | (go_at_call_of 46 (Value.slice a5 n5 c5); refine (KB.out _ (HB2.out.trans (Below.mono hB1 HB2.out.size))).mono ?_; rintro e w' ⟨al, nl, cl, rfl, hn2, hO2, hr2⟩; have hB2 : Since w2 w' := Since.step hB1 hr2.out; have hE1 := hO1.out.els.below hr2.out)
        | (go_at_call 45; refine (K2.out _ _ _ _ _ _ _ hE1 hO2.out.els).mono ?_; rintro e w' ⟨rfl, hr3⟩; have hB3 : Since w2 w' := Since.step hB2 hr3)))
    have HS3 := Lib.hid hB3
    clear hB3 hE1 hB2 hr2 hO2 hn2 hB1 hr1 hO1 hn1 hSd x0 x1 x2 y0 y1 y2 hr3
    rename World => w3
    have HB3 := Lib.hid (HB2.out.trans (Below.mono HS3.out HB2.out.size))
    have HX3 := Lib.hid (HX2.out.keep HS3.out)
    have HY3 := Lib.hid (HY2.out.keep HS3.out)
    clear HX2 HY2 HS3
    by_cases h2 : R2 = 0
    · have HR := Lib.hid (hpt3 h2)
      subst h2
      clear hpt2 hpt3
      go_wp2_with fail
      go_loopw [7] (fun x wr => ∃ k : Nat, k ≤ n3 ∧ k ≤ n6 ∧ x = .int .i64 k ∧ Hid (lexL Th.cmp (ps.drop k) (qs.drop k) = R3) ∧ Hid (BoxL w.heap.size [.slice a1 n1 c1, .slice a2 n2 c2, .slice a3 n3 c3] wr) ∧ Hid (BoxL N1 [.slice a4 n4 c4, .slice a5 n5 c5, .slice a6 n6 c6] wr) ∧ Hid (Below w.heap.size w wr)) (fun x _ => n3 - (intOf x).toNat)
      case atStart => exact ⟨0, by omega, by omega, rfl, HST, HX3, HY3, HB3⟩
      case round =>
        obtain ⟨k, hk, hk2, rfl, hV, hX, hY, hB⟩ := hrel
        clear HX3 HY3 HB3
        obtain ⟨x0, x1, x2, -⟩ := hX.out.open3
        obtain ⟨y0, y1, y2, -⟩ := hY.out.open3
        have i8 : IntKind.i64.wrap ((k : Int) + 1) = (k : Int) + 1 := IntWalk.i64_in _ (by omega)
        by_cases hl1 : k < n3
        · have i4 : (k : Int) < n3 := by omega
          by_cases hl2 : k < n6
          · have i5 : (k : Int) < n6 := by omega
            obtain ⟨g1, x, rfl, -, -, -, hx, v1, v2, v3, p0, p1, p2, hTx⟩ := (HP.out wr hB.out).get hl1
            obtain ⟨g2, y, rfl, -, -, -, hy, v4, v5, v6, r0, r1, r2, hTy⟩ := (HQ.out wr hB.out).get hl2
            have hstep := lexL_step Th.cmp hx hy
            have hSd : Since wr wr.drew := Since.drew (Since.refl _)
            have KQ := Lib.hid (KS.out x (List.mem_of_getElem? hx) y (List.mem_of_getElem? hy) _ _ _ _ _ _ wr.drew (TAt.below hSd hTx) (TAt.below hSd hTy))
            generalize Th.cmp x y = v at *
            rw [hV.out] at hstep
            obtain ⟨⟨b1, m1, d1, b2, m2, d2, b3, m3, d3⟩, rfl, rfl, rfl, -⟩ := (TAt.ts x hTx).shape
            obtain ⟨⟨b4, m4, d4, b5, m5, d5, b6, m6, d6⟩, rfl, rfl, rfl, -⟩ := (TAt.ts y hTy).shape
            simp only at p0 p1 p2 r0 r1 r2 KQ
            clear hx hy hV hTx hTy
            by_cases hv : v = 0
            · subst hv
              rw [if_pos rfl] at hstep
              have HV := Lib.hid hstep.symm
              clear hstep
              go_upto_region 10 with (fail)
              go_region_held3 (fun w' => w'.cell? ⟨w.heap.size, 2, none⟩ = some (.slice (some ⟨g1, 0, none⟩) n3 c3) ∧ w'.cell? ⟨N1, 2, none⟩ = some (.slice (some ⟨g2, 0, none⟩) n6 c6) ∧ w'.cell? ⟨g1, k * 3, none⟩ = some (.slice b1 m1 d1) ∧ w'.cell? ⟨g1, k * 3 + 1, none⟩ = some (.slice b2 m2 d2) ∧ w'.cell? ⟨g1, k * 3 + 2, none⟩ = some (.slice b3 m3 d3) ∧ w'.cell? ⟨g2, k * 3, none⟩ = some (.slice b4 m4 d4) ∧ w'.cell? ⟨g2, k * 3 + 1, none⟩ = some (.slice b5 m5 d5) ∧ w'.cell? ⟨g2, k * 3 + 2, none⟩ = some (.slice b6 m6 d6) ∧ Since wr w')
                (first | exact ⟨x2, y2, p0, p1, p2, r0, r1, r2, hSd⟩ | exact ⟨Since.cell hB2 x2, Since.cell hB2 y2, Since.cell hB2 p0, Since.cell hB2 p1, Since.cell hB2 p2, Since.cell hB2 r0, Since.cell hB2 r1, Since.cell hB2 r2, hB2⟩)
                ((go_at_call 22; refine KQ.out.mono ?_; rintro e w' ⟨rfl, hr⟩; have hB2 : Since wr w' := Since.step hSd hr; clear hr))
              have HX2 := Lib.hid (hX.out.keep hB2)
              have HY2 := Lib.hid (hY.out.keep hB2)
              have HBn := Lib.hid (hB.out.trans (Below.mono hB2 hB.out.size))
              clear hB2 hSd p0 p1 p2 r0 r1 r2 hX hY hB x0 x1 x2 y0 y1 y2
              go_wp2
              go_roundw
              case rel => exact ⟨k + 1, by omega, by omega, by go_num, HV, HX2, HY2, HBn⟩
              case measure => simp [intOf]; omega
            · rw [if_neg hv] at hstep
              have HV := Lib.hid hstep
              have hv2 : (v != 0) = true := bne_iff_ne.2 hv
              clear hstep hv
              go_upto_region 10 with (fail)
              go_region_held3 (fun w' => w'.cell? ⟨w.heap.size, 2, none⟩ = some (.slice (some ⟨g1, 0, none⟩) n3 c3) ∧ w'.cell? ⟨N1, 2, none⟩ = some (.slice (some ⟨g2, 0, none⟩) n6 c6) ∧ w'.cell? ⟨g1, k * 3, none⟩ = some (.slice b1 m1 d1) ∧ w'.cell? ⟨g1, k * 3 + 1, none⟩ = some (.slice b2 m2 d2) ∧ w'.cell? ⟨g1, k * 3 + 2, none⟩ = some (.slice b3 m3 d3) ∧ w'.cell? ⟨g2, k * 3, none⟩ = some (.slice b4 m4 d4) ∧ w'.cell? ⟨g2, k * 3 + 1, none⟩ = some (.slice b5 m5 d5) ∧ w'.cell? ⟨g2, k * 3 + 2, none⟩ = some (.slice b6 m6 d6) ∧ Since wr w')
                (first | exact ⟨x2, y2, p0, p1, p2, r0, r1, r2, hSd⟩ | exact ⟨Since.cell hB2 x2, Since.cell hB2 y2, Since.cell hB2 p0, Since.cell hB2 p1, Since.cell hB2 p2, Since.cell hB2 r0, Since.cell hB2 r1, Since.cell hB2 r2, hB2⟩)
                ((go_at_call 22; refine KQ.out.mono ?_; rintro e w' ⟨rfl, hr⟩; have hB2 : Since wr w' := Since.step hSd hr; clear hr))
              have HBn := Lib.hid (hB.out.trans (Below.mono hB2 hB.out.size))
              clear hB2 hSd p0 p1 p2 r0 r1 r2 hX hY hB x0 x1 x2 y0 y1 y2
              go_wp2
              go_ret
              exact ⟨ret_int (HV.out.symm.trans HR.out.symm), HBn.out⟩
          · have i5 : ¬ (k : Int) < n6 := by omega
            have hend := lexL_stop Th.cmp (la := ps) (bs := qs) (k := k) (by have := HN3.out; omega) (by have := HN6.out; omega) (by have := HN3.out; have := HN6.out; omega)
            rw [HN3.out, HN6.out, hV.out] at hend
            have HV := Lib.hid hend
            have KE := Lib.hid fun W => KO.out (n3 : Int) (n6 : Int) W
            clear hend hV
            go_wp2_with fail
            refine (KE.out _).mono ?_
            rintro e w4 ⟨rfl, rfl⟩
            go_wp2
            go_ret
            exact ⟨ret_int (HV.out.symm.trans HR.out.symm), hB.out⟩
        · have i4 : ¬ (k : Int) < n3 := by omega
          have hend := lexL_stop Th.cmp (la := ps) (bs := qs) (k := k) (by have := HN3.out; omega) (by have := HN6.out; omega) (by have := HN3.out; have := HN6.out; omega)
          rw [HN3.out, HN6.out, hV.out] at hend
          have HV := Lib.hid hend
          have KE := Lib.hid fun W => KO.out (n3 : Int) (n6 : Int) W
          clear hend hV
          go_wp2_with fail
          refine (KE.out _).mono ?_
          rintro e w4 ⟨rfl, rfl⟩
          go_wp2
          go_ret
          exact ⟨ret_int (HV.out.symm.trans HR.out.symm), hB.out⟩
    · have HR := Lib.hid (hpt2 h2)
      have hv2 : (R2 != 0) = true := bne_iff_ne.2 h2
      clear hpt2 hpt3 h2
      go_wp2
      go_ret
      exact ⟨ret_int HR.out.symm, HB3.out⟩
  · have HR := Lib.hid (hpt.1 h1)
    have hv2 : (R1 != 0) = true := bne_iff_ne.2 h1
    clear hpt h1
    go_wp2
    go_ret
    exact ⟨ret_int HR.out.symm, HB2.out⟩

theorem rcmp_all : ∀ M : Nat, RCmpK M
  | 0 => fun u hu => by have := u.size_pos; omega
  | M + 1 => rcmp_step M (Lib.hid (rcmp_all M))

set_option maxHeartbeats 1000000 in
set_option maxRecDepth 100000 in
open Classical in
theorem rsame_any (t u : Th) (ht : CmpOk t) (hu : CmpOk u) (a b c a' b' c' : Value) (w : World) (hT : TAt w.heap.size w t a b c) (hU : TAt w.heap.size w u a' b' c') :
    Calls Tryz.prog 9 #[.agg #[a, b, c], .agg #[a', b', c']] w fun e w' => e = .returned (.bool (decide (t = u))) ∧ Below w.heap.size w w' := by
  have k1 := fun W (hB : Below w.heap.size w W) => rcmp_all t.size t (Nat.le_refl _) ht u hu _ _ _ _ _ _ W (hT.below hB) (hU.below hB)
  have h0 : decide (t = u) = (Th.cmp t u == 0) := by
    by_cases h : t = u
    · rw [decide_eq_true h, h, Th.cmp_self _ u (Nat.le_refl _)]; rfl
    · rw [decide_eq_false h]
      exact (beq_eq_false_iff_ne.2 fun hc => h (Th.cmp_zero _ t (Nat.le_refl _) u hc)).symm
  obtain ⟨⟨a1, n1, c1, a2, n2, c2, a3, n3, c3⟩, rfl, rfl, rfl, -⟩ := (TAt.ts t hT).shape
  obtain ⟨⟨a4, n4, c4, a5, n5, c5, a6, n6, c6⟩, rfl, rfl, rfl, -⟩ := (TAt.ts u hU).shape
  simp only at k1
  rw [h0]
  generalize Th.cmp t u = R at *
  have K1 := Lib.hid k1
  obtain ⟨W1, hW1⟩ : ∃ W1, W1 = (w.alloc (.cells #[.slice a1 n1 c1, .slice a2 n2 c2, .slice a3 n3 c3] 27)).alloc (.cells #[.slice a4 n4 c4, .slice a5 n5 c5, .slice a6 n6 c6] 27) := ⟨_, rfl⟩
  have hX : BoxL w.heap.size [.slice a1 n1 c1, .slice a2 n2 c2, .slice a3 n3 c3] W1 := by rw [hW1]; exact (BoxL.made w _ _).under _
  have hY : BoxL (w.heap.size + 1) [.slice a4 n4 c4, .slice a5 n5 c5, .slice a6 n6 c6] W1 := by
    rw [hW1]
    have := BoxL.made (w.alloc (.cells #[.slice a1 n1 c1, .slice a2 n2 c2, .slice a3 n3 c3] 27)) #[.slice a4 n4 c4, .slice a5 n5 c5, .slice a6 n6 c6] 27
    rwa [World.size_alloc] at this
  have hB : Below w.heap.size w W1 := by rw [hW1]; exact ((Below.refl _ _).alloc (Nat.le_refl _) _).alloc (by simp) _
  have HB1 := Lib.hid hB
  obtain ⟨x0, x1, x2, -⟩ := hX.open3
  obtain ⟨y0, y1, y2, -⟩ := hY.open3
  clear hX hY hB hT hU ht hu k1 h0
  go_enter Tryz.func9, Tryz.ntmps9
  go_upto_region 1 with (fail)
  rw [← hW1]
  generalize w.heap.size + 1 = N1 at *
  clear hW1
  go_wp2_with fail
  refine (K1.out _ HB1.out).mono ?_
  rintro e w2 ⟨rfl, hr⟩
  have HB2 := Lib.hid (HB1.out.trans (hr.mono HB1.out.size))
  clear hr x0 x1 x2 y0 y1 y2
  go_wp2
  go_ret
  exact ⟨rfl, HB2.out⟩

end Go.Proofs.YtelhpndlejommaaGreat
