import Derived.Test.YtgnloodmbgdgdaaGreatFM40
import Derived.Test.YtgnloodmbgdgdaaGreatFM41
import Derived.Test.YtgnloodmbgdgdaaGreatFM27
namespace Go.Proofs.YtgnloodmbgdgdaaGreat
open Go.RowKit Go.Shelf
structure MeanF (P : List (List Int)) (f : Fo) (t : Th) : Prop where
 h : holdsR P f t = (f.hold P t, 0)
 s : simpR f = (simpleF f, 0)
 hs : holdsR P (simpleF f) t = (f.hold P t, 0)
 p : pushR f = (pushG false f, 0) ∧ holdsR P (pushG false f) t = (f.hold P t, 0) ∧ negG (pushG false f) = true ∨ pushR f = (.mk 0 0 [] [], 4)
 zs : (simpleF f).size ≤ 100000
 ws : (simpleF f).wf
theorem holdsR_ok {P : List (List Int)} {f : Fo} {t : Th} (h1 : validF f = 0) (h2 : validT t = 0) (h3 : f.cls P.length = true) (h4 : t.cls P.length = true) : holdsR P f t = (f.hold P t, 0) := by
 unfold holdsR
 rw [if_neg (by rw [h1]; decide), if_neg (by rw [h2]; decide), if_pos ⟨h3, h4⟩]
mutual
theorem pushG_cls (m : Int) : ∀ (f : Fo) (b : Bool), f.cls m = true → (pushG b f).cls m = true
 | .mk op n is ks, b, h => by
  rw [Fo.cls, Bool.and_eq_true] at h
  have h1 := pushG1_cls m ks (!b) h.2
  have h2 := pushGs_cls m ks false h.2
  have h3 := pushGs_cls m ks true h.2
  rw [pushG]
  split
  ·exact h1
  split
  ·rw [Fo.cls, h2, h.1]; rfl
  split
  ·simp [Fo.cls, Fo.clss]
  split
  ·simp [Fo.cls, Fo.clss]
  split
  ·rw [Fo.cls, h3]; simp
  split
  ·rw [Fo.cls, h3]; simp
  ·rw [Fo.cls, Fo.clss, Fo.clss, Fo.cls, h2, h.1]; simp
theorem pushG1_cls (m : Int) : ∀ (ks : List Fo) (b : Bool), Fo.clss m ks = true → (pushG1 b ks).cls m = true
 | [], b, _ => by rw [pushG1]; simp [Fo.cls, Fo.clss]
 | k :: ks, b, h => by rw [Fo.clss, Bool.and_eq_true] at h; rw [pushG1]; exact pushG_cls m k b h.1
theorem pushGs_cls (m : Int) : ∀ (ks : List Fo) (b : Bool), Fo.clss m ks = true → Fo.clss m (pushGs b ks) = true
 | [], b, _ => by rw [pushGs, Fo.clss]
 | k :: ks, b, h => by
  rw [Fo.clss, Bool.and_eq_true] at h
  rw [pushGs, Fo.clss, pushG_cls m k b h.1, pushGs_cls m ks b h.2]
  rfl
end
theorem mean_of {P : List (List Int)} {f : Fo} {t : Th} (hg : f.good = true) (hs : f.size ≤ 96) (hd : f.deep ≤ 8) (hw : f.wf) (hc : f.cls P.length = true) (ht : validT t = 0) (htc : t.cls P.length = true) : MeanF P f t := by
 have hv : validF f = 0 := vF hs hd hg
 have hft := simple_fit P.length f.size f (Nat.le_refl _) hg hw hc
 have hvs : validF (simpleF f) = 0 := vF (Nat.le_trans hft.size hs) (Nat.le_trans hft.deep hd) hft.good
 refine ⟨holdsR_ok hv ht hc htc, ?_, ?_, ?_, by have := hft.size; omega, hft.wf⟩
 ·unfold simpR
  rw [if_pos hv]
 ·rw [holdsR_ok hvs ht hft.cls htc, simple_hold P f.size f (Nat.le_refl _) hg hw]
 ·unfold pushR
  rw [if_pos hv]
  by_cases hp : validF (pushG false f) = 0
  ·rw [if_pos hp]
   refine .inl ⟨rfl, ?_, neg_push f.size f (Nat.le_refl _) hg false⟩
   rw [holdsR_ok hp ht (pushG_cls _ f false hc) htc, push_hold P f.size f (Nat.le_refl _) hg, Bool.xor_false]
  ·rw [if_neg hp]
   exact .inr rfl
theorem validT_of {m d : Nat} {t : Th} (h : GdT m d t) (hd : d ≤ 4) : validT t = 0 := by
 have h1 := h.size
 have h2 := h.deep
 have h3 : sn d ≤ 40 := by
  match d, hd with
  | 0, _ => decide
  | 1, _ => decide
  | 2, _ => decide
  | 3, _ => decide
  | 4, _ => decide
 unfold validT
 rw [if_neg (by omega), if_pos (Th.goodB_t h.good)]
theorem thing_at {S0 : Nat → Prop} {V : World} {t : Th} {r : Tr} (h : TSr (fun k => S0 k ∧ k < V.heap.size) V t r) : TAt V.heap.size V t (.slice r.a1 r.n1 r.c1) (.slice r.a2 r.n2 r.c2) (.slice r.a3 r.n3 r.c3) := TS.tat (fun _ hb => hb.2) _ h
set_option maxHeartbeats 16000000 in
set_option maxRecDepth 100000 in
theorem law_mean7 (a0 : Option Addr) (len0 cap0 : Nat) (z0 : List Int) (a1 : Option Addr) (len1 cap1 : Nat) (z1 : List Int) (a2 : Option Addr) (len2 cap2 : Nat) (z2 : List Int) (w : World) (w0 : Came .i64 w a0 len0 cap0 z0) (w1 : Came .i64 w a1 len1 cap1 z1) (w2 : Came .i64 w a2 len2 cap2 z2) :
  Calls Tryz.prog 7 #[.slice a0 len0 cap0, .slice a1 len1 cap1, .slice a2 len2 cap2] w fun e w' => e = .returned (.bool true) ∧ Below w.heap.size w w' := by
 have HW0 : Hid (Wfs (z0.take len0)) := Lib.hid fun z hz => w0.wf z (List.mem_of_mem_take hz)
 have HW1 : Hid (Wfs (z1.take len1)) := Lib.hid fun z hz => w1.wf z (List.mem_of_mem_take hz)
 have HE0 := Lib.hid w0.els
 have HE1 := Lib.hid w1.els
 have KW := Lib.hid (world_any _ _ w w2.els fun z hz => w2.wf z (List.mem_of_mem_take hz))
 have KL := Lib.hid fun W => lives07_any W
 clear w0 w1 w2
 generalize z0.take len0 = zs0 at *
 generalize z1.take len1 = zs1 at *
 go_enter Tryz.func7, Tryz.ntmps7
 go_wp2_with fail
 refine KW.out.mono ?_
 rintro e w3 ⟨N, P, ap, np, cp, rfl, hG, hnp, hTx, hLE, hB⟩
 have hn1 := hG.pos
 have hn2 := hG.le
 have HNP : Hid ((np : Int) = (P.length : Int)) := Lib.hid (by rw [hnp.out])
 have hq1 : 1 ≤ np := by rw [hnp.out]; exact hn1
 have hq2 : np ≤ 6 := by rw [hnp.out]; exact hn2
 have HS3 := Lib.hid (show Since w w3 from hB.out)
 have HTX := Lib.hid hTx.out
 have KF := Lib.hid (someF_any zs0 HW0.out (np : Int) (by omega) (by omega) 16 (by decide) (by decide) 6 (by decide) _ w3 (HE0.out.below hB.out))
 obtain ⟨g1, g2, g3, g4, -, g6⟩ := someG_ok zs0 (np : Int) (by omega) (by omega) 16 6 (by decide)
 have hgs : (someG zs0 (np : Int) 16 6).size ≤ 31 := by omega
 generalize hf : someG zs0 (np : Int) 16 6 = f at *
 have HG : Hid (f.good = true ∧ f.cls (np : Int) = true ∧ f.wf ∧ f.deep ≤ 6 ∧ f.size ≤ 31) := Lib.hid ⟨g1, g2, g3, g4, hgs⟩
 clear hnp hB hG KW hLE hTx hn1 hn2 g1 g2 g3 g4 g6 hgs hf
 go_wp2_with fail
 refine KF.out.mono ?_
 rintro e w4 hq
 obtain ⟨⟨o4, n4, p4, m4, c4, q4, l4, d4⟩, rfl, hF4, hB⟩ := AtOut.of hq
 clear hq KF
 have HS4 := Lib.hid (Since.step HS3.out hB.out)
 replace HTX := Lib.hid (HTX.out.below hB.out)
 clear hB
 obtain ⟨w5, hw5⟩ : ∃ v, v = World.alloc w4 (.cells #[.int .i64 o4, .int .i64 n4, .slice p4 m4 c4, .slice q4 l4 d4] 29) := ⟨_, rfl⟩
 have hs5 : Since w4 w5 := by rw [hw5]; exact Since.alloc (since_r _) _
 have hb5 : BoxL w4.heap.size [.int .i64 o4, .int .i64 n4, .slice p4 m4 c4, .slice q4 l4 d4] w5 := by rw [hw5]; exact BoxL.made w4 _ _
 have HS5 := Lib.hid (Since.step HS4.out hs5)
 replace hF4 := Lib.hid (hF4.out.since hs5)
 replace HTX := Lib.hid (HTX.out.below hs5)
 have HX5 := Lib.hid hb5
 clear hb5 hs5
 go_upto_region 5 with (fail)
 rw [← hw5]
 clear hw5
 generalize w4.heap.size = M5 at *
 have KT := Lib.hid (Some_anyT zs1 4 np _ w5 (by decide) (HE1.out.below HS5.out) HW1.out (by omega))
 go_wp2_with fail
 refine KT.out.mono ?_
 rintro e w6 ⟨t, ⟨b1, k1, j1, b2, k2, j2, b3, k3, j3⟩, rfl, hT, hP, hB⟩
 have HTT := Lib.hid (thing_at hT.out)
 have hM : MeanF P f t := mean_of HG.out.1 (by have := HG.out.2.2.2.2; omega) (by have := HG.out.2.2.2.1; omega) HG.out.2.2.1 (by rw [← HNP.out]; exact HG.out.2.1) (validT_of hP.out.2.2 (by decide)) (by rw [← HNP.out]; exact hP.out.2.2.cls)
 have HM := Lib.hid hM
 have HT1 : Hid (t.size ≤ 1000000 ∧ t.wf) := Lib.hid ⟨by have := hP.out.2.2.size; have : sn 4 = 40 := rfl; omega, hP.out.1⟩
 have hF4 := hF4
 clear KT hT hP hM
 have HS6 := Lib.hid (Since.step HS5.out hB.out)
 replace hF4 := Lib.hid (hF4.out.since hB.out)
 replace HX5 := Lib.hid (HX5.out.keep hB.out)
 replace HTX := Lib.hid (HTX.out.below hB.out)
 clear hB
 obtain ⟨w7, hw7⟩ : ∃ v, v = World.alloc w6 (.cells #[.slice b1 k1 j1, .slice b2 k2 j2, .slice b3 k3 j3] 41) := ⟨_, rfl⟩
 have hs7 : Since w6 w7 := by rw [hw7]; exact Since.alloc (since_r _) _
 have hb7 : BoxL w6.heap.size [.slice b1 k1 j1, .slice b2 k2 j2, .slice b3 k3 j3] w7 := by rw [hw7]; exact BoxL.made w6 _ _
 have HS7 := Lib.hid (Since.step HS6.out hs7)
 replace hF4 := Lib.hid (hF4.out.since hs7)
 replace HX5 := Lib.hid (HX5.out.keep hs7)
 replace HTX := Lib.hid (HTX.out.below hs7)
 replace HTT := Lib.hid (HTT.out.below hs7)
 have HX7 := Lib.hid hb7
 clear hb7 hs7
 go_upto_region 6 with (fail)
 rw [← hw7]
 clear hw7
 generalize w6.heap.size = M7 at *
 generalize hv : f.hold P t = v at *
 have hvv : (v == v) = true := by simp
 have hvn : (v != v) = false := by simp
 have HV := Lib.hid hv
 clear hv
 have KH := Lib.hid (holds_at N P (f) ⟨o4, n4, p4, m4, c4, q4, l4, d4⟩ t _ _ _ w7 HTX.out hF4.out HTT.out (by have := HG.out.2.2.2.2; omega) (HG.out.2.2.1) HT1.out.1 HT1.out.2)
 rw [show holdsR P f t = (v, 0) by rw [HM.out.h, HV.out]] at KH
 simp only at KH
 obtain ⟨x5_0, x5_1, x5_2, x5_3, -⟩ := HX5.out.open4
 obtain ⟨x7_0, x7_1, x7_2, -⟩ := HX7.out.open3
 go_wp2_with fail
 refine KH.out.mono ?_
 rintro e w8 ⟨rfl, hB⟩
 clear KH
 clear x5_0 x5_1 x5_2 x5_3
 clear x7_0 x7_1 x7_2
 have HS8 := Lib.hid (Since.step HS7.out hB)
 replace hF4 := Lib.hid (hF4.out.since hB)
 replace HX5 := Lib.hid (HX5.out.keep hB)
 replace HX7 := Lib.hid (HX7.out.keep hB)
 replace HTX := Lib.hid (HTX.out.below hB)
 replace HTT := Lib.hid (HTT.out.below hB)
 clear hB
 have KP := Lib.hid (push_at f ⟨o4, n4, p4, m4, c4, q4, l4, d4⟩ w8 hF4.out (by have := HG.out.2.2.2.2; omega) HG.out.2.2.1)
 rcases HM.out.p with ⟨hp1, hp2, hp3⟩ | hp1
 ·rw [hp1] at KP
  simp only at KP
  obtain ⟨x5_0, x5_1, x5_2, x5_3, -⟩ := HX5.out.open4
  go_wp2_with fail
  (with_reducible refine KP.out.mono ?_)
  rintro e w9 ⟨⟨o9, n9, p9, m9, c9, q9, l9, d9⟩, rfl, hF9, hB⟩
  simp only at hF9
  clear KP
  clear x5_0 x5_1 x5_2 x5_3
  have HS9 := Lib.hid (Since.step HS8.out hB.out)
  replace hF4 := Lib.hid (hF4.out.since hB.out)
  replace HX5 := Lib.hid (HX5.out.keep hB.out)
  replace HX7 := Lib.hid (HX7.out.keep hB.out)
  replace HTX := Lib.hid (HTX.out.below hB.out)
  replace HTT := Lib.hid (HTT.out.below hB.out)
  clear hB
  obtain ⟨w10, hw10⟩ : ∃ v, v = World.alloc w9 (.cells #[.int .i64 o9, .int .i64 n9, .slice p9 m9 c9, .slice q9 l9 d9] 29) := ⟨_, rfl⟩
  have hs10 : Since w9 w10 := by rw [hw10]; exact Since.alloc (since_r _) _
  have hb10 : BoxL w9.heap.size [.int .i64 o9, .int .i64 n9, .slice p9 m9 c9, .slice q9 l9 d9] w10 := by rw [hw10]; exact BoxL.made w9 _ _
  have HS10 := Lib.hid (Since.step HS9.out hs10)
  replace hF4 := Lib.hid (hF4.out.since hs10)
  replace hF9 := Lib.hid (hF9.out.since hs10)
  replace HX5 := Lib.hid (HX5.out.keep hs10)
  replace HX7 := Lib.hid (HX7.out.keep hs10)
  replace HTX := Lib.hid (HTX.out.below hs10)
  replace HTT := Lib.hid (HTT.out.below hs10)
  have HX10 := Lib.hid hb10
  clear hb10 hs10
  go_upto_region 8 with (fail)
  rw [← hw10]
  clear hw10
  generalize w9.heap.size = M10 at *
  have KS := Lib.hid (simp_at f ⟨o4, n4, p4, m4, c4, q4, l4, d4⟩ w10 hF4.out (by have := HG.out.2.2.2.2; omega) HG.out.2.2.1)
  rw [HM.out.s] at KS
  simp only at KS
  obtain ⟨x5_0, x5_1, x5_2, x5_3, -⟩ := HX5.out.open4
  go_wp2_with fail
  (with_reducible refine KS.out.mono ?_)
  rintro e w11 ⟨⟨o11, n11, p11, m11, c11, q11, l11, d11⟩, rfl, hF11, hB⟩
  simp only at hF11
  clear KS
  clear x5_0 x5_1 x5_2 x5_3
  have HS11 := Lib.hid (Since.step HS10.out hB.out)
  replace hF4 := Lib.hid (hF4.out.since hB.out)
  replace hF9 := Lib.hid (hF9.out.since hB.out)
  replace HX5 := Lib.hid (HX5.out.keep hB.out)
  replace HX7 := Lib.hid (HX7.out.keep hB.out)
  replace HX10 := Lib.hid (HX10.out.keep hB.out)
  replace HTX := Lib.hid (HTX.out.below hB.out)
  replace HTT := Lib.hid (HTT.out.below hB.out)
  clear hB
  obtain ⟨w12, hw12⟩ : ∃ v, v = World.alloc w11 (.cells #[.int .i64 o11, .int .i64 n11, .slice p11 m11 c11, .slice q11 l11 d11] 29) := ⟨_, rfl⟩
  have hs12 : Since w11 w12 := by rw [hw12]; exact Since.alloc (since_r _) _
  have hb12 : BoxL w11.heap.size [.int .i64 o11, .int .i64 n11, .slice p11 m11 c11, .slice q11 l11 d11] w12 := by rw [hw12]; exact BoxL.made w11 _ _
  have HS12 := Lib.hid (Since.step HS11.out hs12)
  replace hF4 := Lib.hid (hF4.out.since hs12)
  replace hF9 := Lib.hid (hF9.out.since hs12)
  replace hF11 := Lib.hid (hF11.out.since hs12)
  replace HX5 := Lib.hid (HX5.out.keep hs12)
  replace HX7 := Lib.hid (HX7.out.keep hs12)
  replace HX10 := Lib.hid (HX10.out.keep hs12)
  replace HTX := Lib.hid (HTX.out.below hs12)
  replace HTT := Lib.hid (HTT.out.below hs12)
  have HX12 := Lib.hid hb12
  clear hb12 hs12
  go_upto_region 9 with (fail)
  rw [← hw12]
  clear hw12
  generalize w11.heap.size = M12 at *
  have KH := Lib.hid (holds_at N P (simpleF f) ⟨o11, n11, p11, m11, c11, q11, l11, d11⟩ t _ _ _ w12 HTX.out hF11.out HTT.out (Nat.le_trans HM.out.zs (by omega)) (HM.out.ws) HT1.out.1 HT1.out.2)
  rw [show holdsR P (simpleF f) t = (v, 0) by rw [HM.out.hs, HV.out]] at KH
  simp only at KH
  obtain ⟨x7_0, x7_1, x7_2, -⟩ := HX7.out.open3
  obtain ⟨x12_0, x12_1, x12_2, x12_3, -⟩ := HX12.out.open4
  go_wp2_with fail
  refine KH.out.mono ?_
  rintro e w13 ⟨rfl, hB⟩
  clear KH
  clear x7_0 x7_1 x7_2
  clear x12_0 x12_1 x12_2 x12_3
  have HS13 := Lib.hid (Since.step HS12.out hB)
  replace hF4 := Lib.hid (hF4.out.since hB)
  replace hF9 := Lib.hid (hF9.out.since hB)
  replace hF11 := Lib.hid (hF11.out.since hB)
  replace HX5 := Lib.hid (HX5.out.keep hB)
  replace HX7 := Lib.hid (HX7.out.keep hB)
  replace HX10 := Lib.hid (HX10.out.keep hB)
  replace HX12 := Lib.hid (HX12.out.keep hB)
  replace HTX := Lib.hid (HTX.out.below hB)
  replace HTT := Lib.hid (HTT.out.below hB)
  clear hB
  have hpw := pushG_wf f false HG.out.2.2.1
  have hpz : (pushG false f).size ≤ 1000000 := by have := pushG_size f false; have := HG.out.2.2.2.2; omega
  have KH := Lib.hid (holds_at N P (pushG false f) ⟨o9, n9, p9, m9, c9, q9, l9, d9⟩ t _ _ _ w13 HTX.out hF9.out HTT.out (hpz) (hpw) HT1.out.1 HT1.out.2)
  rw [show holdsR P (pushG false f) t = (v, 0) by rw [hp2, HV.out]] at KH
  simp only at KH
  obtain ⟨x7_0, x7_1, x7_2, -⟩ := HX7.out.open3
  obtain ⟨x10_0, x10_1, x10_2, x10_3, -⟩ := HX10.out.open4
  go_wp2_with fail
  refine KH.out.mono ?_
  rintro e w14 ⟨rfl, hB⟩
  clear KH
  clear x7_0 x7_1 x7_2
  clear x10_0 x10_1 x10_2 x10_3
  have HS14 := Lib.hid (Since.step HS13.out hB)
  replace hF4 := Lib.hid (hF4.out.since hB)
  replace hF9 := Lib.hid (hF9.out.since hB)
  replace hF11 := Lib.hid (hF11.out.since hB)
  replace HX5 := Lib.hid (HX5.out.keep hB)
  replace HX7 := Lib.hid (HX7.out.keep hB)
  replace HX10 := Lib.hid (HX10.out.keep hB)
  replace HX12 := Lib.hid (HX12.out.keep hB)
  replace HTX := Lib.hid (HTX.out.below hB)
  replace HTT := Lib.hid (HTT.out.below hB)
  clear hB
  obtain ⟨x10_0, x10_1, x10_2, x10_3, -⟩ := HX10.out.open4
  have KN := Lib.hid (ng_all (pushG false f).size hpz (pushG false f) (Nat.le_refl _) hp3 _ _ w14 hF9.out.fat)
  rw [hF9.out.1, hF9.out.2.1] at KN
  simp only at KN
  go_wp2_with fail
  refine KN.out.mono ?_
  rintro e w15 ⟨rfl, hB⟩
  clear KN
  clear x10_0 x10_1 x10_2 x10_3
  have HS15 := Lib.hid (Since.step HS14.out hB)
  replace hF4 := Lib.hid (hF4.out.since hB)
  replace hF9 := Lib.hid (hF9.out.since hB)
  replace hF11 := Lib.hid (hF11.out.since hB)
  replace HX5 := Lib.hid (HX5.out.keep hB)
  replace HX7 := Lib.hid (HX7.out.keep hB)
  replace HX10 := Lib.hid (HX10.out.keep hB)
  replace HX12 := Lib.hid (HX12.out.keep hB)
  replace HTX := Lib.hid (HTX.out.below hB)
  replace HTT := Lib.hid (HTT.out.below hB)
  clear hB
  have KQ := Lib.hid (KL.out w15)
  go_wp2_with fail
  refine KQ.out.mono ?_
  rintro e w20 ⟨rfl, hB⟩
  have HE := Lib.hid (Since.step HS15.out hB)
  clear hB
  go_wp2
  go_ret
  exact ⟨rfl, HE.out⟩
 ·rw [hp1] at KP
  simp only at KP
  obtain ⟨x5_0, x5_1, x5_2, x5_3, -⟩ := HX5.out.open4
  go_wp2_with fail
  (with_reducible refine KP.out.mono ?_)
  rintro e w9 ⟨⟨o9, n9, p9, m9, c9, q9, l9, d9⟩, rfl, hF9, hB⟩
  simp only at hF9
  clear KP
  clear x5_0 x5_1 x5_2 x5_3
  have HS9 := Lib.hid (Since.step HS8.out hB.out)
  replace hF4 := Lib.hid (hF4.out.since hB.out)
  replace HX5 := Lib.hid (HX5.out.keep hB.out)
  replace HX7 := Lib.hid (HX7.out.keep hB.out)
  replace HTX := Lib.hid (HTX.out.below hB.out)
  replace HTT := Lib.hid (HTT.out.below hB.out)
  clear hB
  obtain ⟨w10, hw10⟩ : ∃ v, v = World.alloc w9 (.cells #[.int .i64 o9, .int .i64 n9, .slice p9 m9 c9, .slice q9 l9 d9] 29) := ⟨_, rfl⟩
  have hs10 : Since w9 w10 := by rw [hw10]; exact Since.alloc (since_r _) _
  have hb10 : BoxL w9.heap.size [.int .i64 o9, .int .i64 n9, .slice p9 m9 c9, .slice q9 l9 d9] w10 := by rw [hw10]; exact BoxL.made w9 _ _
  have HS10 := Lib.hid (Since.step HS9.out hs10)
  replace hF4 := Lib.hid (hF4.out.since hs10)
  replace hF9 := Lib.hid (hF9.out.since hs10)
  replace HX5 := Lib.hid (HX5.out.keep hs10)
  replace HX7 := Lib.hid (HX7.out.keep hs10)
  replace HTX := Lib.hid (HTX.out.below hs10)
  replace HTT := Lib.hid (HTT.out.below hs10)
  have HX10 := Lib.hid hb10
  clear hb10 hs10
  go_upto_region 8 with (fail)
  rw [← hw10]
  clear hw10
  generalize w9.heap.size = M10 at *
  have KS := Lib.hid (simp_at f ⟨o4, n4, p4, m4, c4, q4, l4, d4⟩ w10 hF4.out (by have := HG.out.2.2.2.2; omega) HG.out.2.2.1)
  rw [HM.out.s] at KS
  simp only at KS
  obtain ⟨x5_0, x5_1, x5_2, x5_3, -⟩ := HX5.out.open4
  go_wp2_with fail
  (with_reducible refine KS.out.mono ?_)
  rintro e w11 ⟨⟨o11, n11, p11, m11, c11, q11, l11, d11⟩, rfl, hF11, hB⟩
  simp only at hF11
  clear KS
  clear x5_0 x5_1 x5_2 x5_3
  have HS11 := Lib.hid (Since.step HS10.out hB.out)
  replace hF4 := Lib.hid (hF4.out.since hB.out)
  replace hF9 := Lib.hid (hF9.out.since hB.out)
  replace HX5 := Lib.hid (HX5.out.keep hB.out)
  replace HX7 := Lib.hid (HX7.out.keep hB.out)
  replace HX10 := Lib.hid (HX10.out.keep hB.out)
  replace HTX := Lib.hid (HTX.out.below hB.out)
  replace HTT := Lib.hid (HTT.out.below hB.out)
  clear hB
  obtain ⟨w12, hw12⟩ : ∃ v, v = World.alloc w11 (.cells #[.int .i64 o11, .int .i64 n11, .slice p11 m11 c11, .slice q11 l11 d11] 29) := ⟨_, rfl⟩
  have hs12 : Since w11 w12 := by rw [hw12]; exact Since.alloc (since_r _) _
  have hb12 : BoxL w11.heap.size [.int .i64 o11, .int .i64 n11, .slice p11 m11 c11, .slice q11 l11 d11] w12 := by rw [hw12]; exact BoxL.made w11 _ _
  have HS12 := Lib.hid (Since.step HS11.out hs12)
  replace hF4 := Lib.hid (hF4.out.since hs12)
  replace hF9 := Lib.hid (hF9.out.since hs12)
  replace hF11 := Lib.hid (hF11.out.since hs12)
  replace HX5 := Lib.hid (HX5.out.keep hs12)
  replace HX7 := Lib.hid (HX7.out.keep hs12)
  replace HX10 := Lib.hid (HX10.out.keep hs12)
  replace HTX := Lib.hid (HTX.out.below hs12)
  replace HTT := Lib.hid (HTT.out.below hs12)
  have HX12 := Lib.hid hb12
  clear hb12 hs12
  go_upto_region 9 with (fail)
  rw [← hw12]
  clear hw12
  generalize w11.heap.size = M12 at *
  have KH := Lib.hid (holds_at N P (simpleF f) ⟨o11, n11, p11, m11, c11, q11, l11, d11⟩ t _ _ _ w12 HTX.out hF11.out HTT.out (Nat.le_trans HM.out.zs (by omega)) (HM.out.ws) HT1.out.1 HT1.out.2)
  rw [show holdsR P (simpleF f) t = (v, 0) by rw [HM.out.hs, HV.out]] at KH
  simp only at KH
  obtain ⟨x7_0, x7_1, x7_2, -⟩ := HX7.out.open3
  obtain ⟨x12_0, x12_1, x12_2, x12_3, -⟩ := HX12.out.open4
  go_wp2_with fail
  refine KH.out.mono ?_
  rintro e w13 ⟨rfl, hB⟩
  clear KH
  clear x7_0 x7_1 x7_2
  clear x12_0 x12_1 x12_2 x12_3
  have HS13 := Lib.hid (Since.step HS12.out hB)
  replace hF4 := Lib.hid (hF4.out.since hB)
  replace hF9 := Lib.hid (hF9.out.since hB)
  replace hF11 := Lib.hid (hF11.out.since hB)
  replace HX5 := Lib.hid (HX5.out.keep hB)
  replace HX7 := Lib.hid (HX7.out.keep hB)
  replace HX10 := Lib.hid (HX10.out.keep hB)
  replace HX12 := Lib.hid (HX12.out.keep hB)
  replace HTX := Lib.hid (HTX.out.below hB)
  replace HTT := Lib.hid (HTT.out.below hB)
  clear hB
  have KQ := Lib.hid (KL.out w13)
  go_wp2_with fail
  refine KQ.out.mono ?_
  rintro e w20 ⟨rfl, hB⟩
  have HE := Lib.hid (Since.step HS13.out hB)
  clear hB
  go_wp2
  go_ret
  exact ⟨rfl, HE.out⟩
end Go.Proofs.YtgnloodmbgdgdaaGreat
