import Derived.Test.YtgnloodmbgdgdaaGreatFM31
namespace Go.Proofs.YtgnloodmbgdgdaaGreat
open Go.RowKit Go.Shelf
theorem zipL_cons {a b : Int} {la bs : List Int} {k : Nat} (ha : la[k]? = some a) (hb : bs[k]? = some b) : zipL cmpI (la.drop k) (bs.drop k) = if cmpI a b = 0 then zipL cmpI (la.drop (k + 1)) (bs.drop (k + 1)) else cmpI a b := zipL_step cmpI ha hb
theorem zipL_end {la bs : List Int} {k : Nat} (h : bs.length ≤ k) : zipL cmpI (la.drop k) (bs.drop k) = 0 := by
 rw [List.drop_of_length_le h]
 cases la.drop k with
 | nil => unfold zipL; rfl
 | cons a l => rfl
def RCmpK (m : Nat) : Prop := ∀ (f g : Fo), f.size ≤ m → g.size ≤ 1000000 → f.wf → g.wf → ∀ (c d c' d' : Value) (W : World), FAt W.heap.size W f c d → FAt W.heap.size W g c' d' →
 Calls Tryz.prog 43 #[.agg #[.int .i64 f.op, .int .i64 f.n, c, d], .agg #[.int .i64 g.op, .int .i64 g.n, c', d']] W fun e w' => e = .returned (.int .i64 (fcmp f g)) ∧ Below W.heap.size W w'
set_option maxHeartbeats 8000000 in
set_option maxRecDepth 100000 in
theorem rcmp_step {m : Nat} (hm : m ≤ 1000000) (K : Hid (RCmpK m)) : RCmpK (m + 1) := by
 intro f g hfs hgs hfw hgw c d c' d' w hF hG
 have hff := (Fo.wf_eq f).1 hfw
 have hgg := (Fo.wf_eq g).1 hgw
 have hs1 := f.size_eq
 have hs2 := g.size_eq
 have hl1 := Fo.sizes_len f.ks
 have hl2 := Fo.sizes_len g.ks
 have hfc := fcmp_ordL f g
 have hkl := fun h => ordL_kids (f := f) (g := g) h
 have hOL1 : (ordL f).length ≤ 20000000 := by unfold ordL; simp only [List.length_append, rank_len, List.length_cons, List.length_nil]; omega
 have hOL2 : (ordL g).length ≤ 20000000 := by unfold ordL; simp only [List.length_append, rank_len, List.length_cons, List.length_nil]; omega
 obtain ⟨W1, hW1⟩ : ∃ W1, W1 = w.alloc (.cells #[.int .i64 f.op, .int .i64 f.n, c, d] 29) := ⟨_, rfl⟩
 have hS1 : Since w W1 := by rw [hW1]; exact Since.alloc (since_r _) _
 have hz1 : W1.heap.size = w.heap.size + 1 := by rw [hW1, World.size_alloc]
 have hX1 : BoxL w.heap.size [.int .i64 f.op, .int .i64 f.n, c, d] W1 := by rw [hW1]; exact BoxL.made w _ _
 obtain ⟨W2, hW2⟩ : ∃ W2, W2 = W1.alloc (.cells #[.int .i64 g.op, .int .i64 g.n, c', d'] 29) := ⟨_, rfl⟩
 have hS2 : Since W1 W2 := by rw [hW2]; exact Since.alloc (since_r _) _
 have hX := hX1.keep hS2
 have hY : BoxL (w.heap.size + 1) [.int .i64 g.op, .int .i64 g.n, c', d'] W2 := by rw [hW2, ← hz1]; exact BoxL.made W1 _ _
 have hS := Since.step hS1 hS2
 have hF2 := FAt.below hS hF
 have hG2 := FAt.below hS hG
 have KO1 := Lib.hid (order_any f (by omega) c d W2 hF2)
 have KO2 := Lib.hid fun W (hs : Since W2 W) => order_any g (by omega) c' d' W (FAt.below hs hG2)
 obtain ⟨a1, c1, a2, c2, rfl, rfl, hI1, hK1, -⟩ := hF2.shape
 obtain ⟨a3, c3, a4, c4, rfl, rfl, hI2, hK2, -⟩ := hG2.shape
 have KC := Lib.hid fun (x : Fo) (hx : x ∈ f.ks) (y : Fo) (hy : y ∈ g.ks) (c d c' d' : Value) W hTx hTy => K.out x y (by have := Fo.sizes_mem hx; omega) (by have := Fo.sizes_mem hy; omega) (hff.2 x hx) (hgg.2 y hy) c d c' d' W hTx hTy
 have HX := Lib.hid hX
 have HY := Lib.hid hY
 have HS := Lib.hid hS
 have HK1 := Lib.hid hK1
 have HK2 := Lib.hid hK2
 obtain ⟨x0, x1, x2, x3, -⟩ := hX.open4
 obtain ⟨y0, y1, y2, y3, -⟩ := hY.open4
 have hn1 : f.ks.length ≤ 1000000 := by omega
 generalize fcmp f g = R at *
 have HFC := Lib.hid hfc
 have HKL := Lib.hid hkl
 have HOL1 := Lib.hid hOL1
 have HOL2 := Lib.hid hOL2
 generalize f.op = o1 at *
 generalize f.n = o2 at *
 generalize g.op = o3 at *
 generalize g.n = o4 at *
 generalize f.is.length = l1 at *
 generalize g.is.length = l3 at *
 clear hX1 hX hY hS1 hS2 hS hz1 hF2 hG2 hF hG hI1 hI2 hK1 hK2 hff hgg hs1 hs2 hl1 hl2 hfs hgs hfw hgw K hm hfc hkl hOL1 hOL2
 go_enter Tryz.func43, Tryz.ntmps43
 go_upto_region 1 with (fail)
 rw [← hW1, ← hW2]
 clear hW1 hW2
 go_wp2_with fail
 refine KO1.out.mono ?_
 rintro e w3 ⟨b1, m1, k1, rfl, hE1, hB3⟩
 have hS3 : Since W2 w3 := hB3.out
 obtain ⟨y0, y1, y2, y3, -⟩ := (HY.out.keep hS3).open4
 have KO3 := Lib.hid (KO2.out w3 hS3)
 have HS3 := Lib.hid hS3
 clear hS3 hB3 x0 x1 x2 x3 KO1 KO2
 go_wp2_with fail
 refine KO3.out.mono ?_
 rintro e w4 ⟨b2, m2, k2, rfl, hE2, hB4⟩
 have HE1 := Lib.hid (hE1.out.below hB4.out)
 have HS4 := Lib.hid (Since.step HS3.out hB4.out)
 have HM1 : Hid (m1 = (ordL f).length) := Lib.hid hE1.out.len
 have HM2 : Hid (m2 = (ordL g).length) := Lib.hid hE2.out.len
 have hm1 : m1 ≤ 20000000 := by rw [HM1.out]; exact HOL1.out
 have hm2 : m2 ≤ 20000000 := by rw [HM2.out]; exact HOL2.out
 have HST : Hid (zipL cmpI ((ordL f).drop 0) ((ordL g).drop 0) = zipL cmpI (ordL f) (ordL g)) := Lib.hid rfl
 obtain ⟨Z, hZ⟩ : ∃ Z, Z = zipL cmpI (ordL f) (ordL g) := ⟨_, rfl⟩
 rw [← hZ] at HFC HKL HST
 generalize ordL f = ox at *
 generalize ordL g = oy at *
 clear hZ hB4 hE1 y0 y1 y2 y3 KO3 HS3
 have HS0 : Hid (Since w4 w4) := Lib.hid (since_r _)
 go_wp2
 go_loopw [7] (fun v wr => ∃ k : Nat, k ≤ m1 ∧ k ≤ m2 ∧ v = .int .i64 k ∧ Hid (zipL cmpI (ox.drop k) (oy.drop k) = Z) ∧ Hid (Since w4 wr)) (fun v _ => m1 - (intOf v).toNat)
 case atStart => exact ⟨0, by omega, by omega, rfl, HST, HS0⟩
 case round =>
  obtain ⟨k, hk1, hk2, rfl, hV, hSr⟩ := hrel
  clear HST HS0
  by_cases hlt : k < m1 ∧ k < m2
  ·have j1 : (k : Int) < m1 := by omega
   have j2 : (k : Int) < m2 := by omega
   have j0 : (0 : Int) ≤ (k : Int) := by omega
   have j3 : k < m1 := hlt.1
   have j4 : k < m2 := hlt.2
   have jd : decide ((k : Int) < m1) = true := decide_eq_true j1
   obtain ⟨g1, p1, rfl, q1⟩ := (HE1.out.below hSr.out).at k hlt.1
   obtain ⟨g2, p2, rfl, q2⟩ := (hE2.out.below hSr.out).at k hlt.2
   have hx : ox[k]? = some (ox[k]?.getD 0) := by rw [List.getElem?_eq_getElem (by rw [← HM1.out]; exact hlt.1)]; rfl
   have hy : oy[k]? = some (oy[k]?.getD 0) := by rw [List.getElem?_eq_getElem (by rw [← HM2.out]; exact hlt.2)]; rfl
   generalize ox[k]?.getD 0 = x at *
   generalize oy[k]?.getD 0 = y at *
   have hstep := zipL_cons hx hy
   rw [hV.out] at hstep
   clear hx hy hV hlt
   by_cases h1 : x < y
   ·have hc : cmpI x y = -1 := by unfold cmpI; rw [if_pos h1]
    have hZ1 : Z = -1 := by rw [hstep, hc]; rfl
    have HR1 := Lib.hid (show R = -1 by rw [HFC.out, if_neg (by omega)]; exact hZ1)
    clear hstep hc hZ1
    go_wp2_with fail
    go_quiet (fail)
    have HS7 := Lib.hid (Since.step HS4.out (Since.step hSr.out (below_drewN (Below.refl _ _) nq)))
    go_wp2
    go_ret
    exact ⟨fret_int HR1.out.symm, HS.out.trans (Below.mono HS7.out HS.out.size)⟩
   ·by_cases h2 : y < x
    ·have hc : cmpI x y = 1 := by unfold cmpI; rw [if_neg h1, if_pos h2]
     have hZ1 : Z = 1 := by rw [hstep, hc]; rfl
     have HR1 := Lib.hid (show R = 1 by rw [HFC.out, if_neg (by omega)]; exact hZ1)
     clear hstep hc hZ1
     go_wp2_with fail
     go_quiet (fail)
     have hd6 : Since wr (wr.drewN nq) := below_drewN (Below.refl _ _) nq
     have HS6 := Lib.hid (Since.step hSr.out hd6)
     have q1 := Since.cell hd6 q1
     have q2 := Since.cell hd6 q2
     clear hd6
     generalize wr.drewN nq = w6 at *
     go_upto_region 8 with (fail)
     go_quiet (fail)
     have HS7 := Lib.hid (Since.step HS6.out (below_drewN (Below.refl w6.heap.size w6) nq))
     have HS8 := Lib.hid (Since.step HS4.out HS7.out)
     go_wp2
     go_ret
     exact ⟨fret_int HR1.out.symm, HS.out.trans (Below.mono HS8.out HS.out.size)⟩
    ·have hc : cmpI x y = 0 := by unfold cmpI; rw [if_neg h1, if_neg h2]
     rw [hc, if_pos rfl] at hstep
     have HV := Lib.hid hstep.symm
     clear hstep hc
     go_wp2_with fail
     go_quiet (fail)
     have hd6 : Since wr (wr.drewN nq) := below_drewN (Below.refl _ _) nq
     have HS6 := Lib.hid (Since.step hSr.out hd6)
     have q1 := Since.cell hd6 q1
     have q2 := Since.cell hd6 q2
     clear hd6
     generalize wr.drewN nq = w6 at *
     go_upto_region 8 with (fail)
     go_quiet (fail)
     have HS7 := Lib.hid (Since.step HS6.out (below_drewN (Below.refl w6.heap.size w6) nq))
     have HS8 := Lib.hid (Since.step HS4.out HS7.out)
     go_wp2
     go_roundw
     case rel => exact ⟨k + 1, by omega, by omega, by go_num, HV, HS7⟩
     case measure => simp [intOf]; omega
  ·have hZ0 : Z = 0 := by
    rw [← hV.out]
    by_cases h1 : k < m1
    ·exact zipL_end (by rw [← HM2.out]; omega)
    ·exact zipL_stop cmpI (by rw [← HM1.out]; omega)
   have HR0 := Lib.hid (show R = zipL fcmp f.ks g.ks by rw [HFC.out, if_pos hZ0])
   have HL0 := Lib.hid (HKL.out hZ0)
   have hj : ((k : Int) < m1 ∧ ¬ (k : Int) < m2 ∧ decide ((k : Int) < m1) = true) ∨ (¬ (k : Int) < m1 ∧ decide ((k : Int) < m1) = false) := by
    by_cases h1 : k < m1
    ·exact .inl ⟨by omega, by omega, decide_eq_true (by omega)⟩
    ·exact .inr ⟨by omega, decide_eq_false (by omega)⟩
   have HS9 := Lib.hid (Since.step HS4.out hSr.out)
   have HST : Hid (zipL fcmp (f.ks.drop 0) (g.ks.drop 0) = R) := Lib.hid HR0.out.symm
   have HSR : Hid (Since wr wr) := Lib.hid (since_r _)
   clear hZ0 hlt hV hSr HFC HKL HOL1 HOL2 HM1 HM2 HE1 hE2 HS4 HR0
   rename World => w8
   obtain ⟨x0, x1, x2, x3, -⟩ := (HX.out.keep HS9.out).open4
   have HLA : Hid (f.ks.length = f.ks.length) := Lib.hid rfl
   generalize hn7 : f.ks.length = n7 at *
   have HN7 := Lib.hid hn7
   clear hn7 HLA
   generalize g.ks.length = n8 at *
   rcases hj with ⟨i1, i2, i3⟩ | ⟨i1, i3⟩
   all_goals
    go_wp2
    go_loopw [8] (fun v wr => ∃ k : Nat, k ≤ n7 ∧ v = .int .i64 k ∧ Hid (zipL fcmp (f.ks.drop k) (g.ks.drop k) = R) ∧ Hid (Since w8 wr)) (fun v _ => n7 - (intOf v).toNat)
    case atStart => exact ⟨0, by omega, rfl, HST, HSR⟩
    case round =>
     obtain ⟨k, hk, rfl, hV, hS⟩ := hrel
     clear HST HSR x0 x1 x2 x3
     have hS9 := Since.step HS9.out hS.out
     obtain ⟨-, -, -, xx, -⟩ := (HX.out.keep hS9).open4
     obtain ⟨-, -, -, yy, -⟩ := (HY.out.keep hS9).open4
     by_cases hlt : k < n7
     ·have j1 : (k : Int) < n7 := by omega
      have j0 : (0 : Int) ≤ (k : Int) := by omega
      have j2 : k < n8 := by have := HL0.out; omega
      have j3 : (k : Int) < n8 := by omega
      obtain ⟨g1, x, rfl, -, -, -, hx, vc, vd, p0, p1, p2, p3, hTx⟩ := (Fs.below hS9 HK1.out).get (j := k) hlt
      obtain ⟨g2, y, rfl, -, -, -, hy, uc, ud, q0, q1, q2, q3, hTy⟩ := (Fs.below hS9 HK2.out).get (j := k) j2
      have hstep := zipL_step fcmp hx hy
      have hSd : Since wr wr.drew := since_d (since_r _)
      have KQ := Lib.hid (KC.out x (List.mem_of_getElem? hx) y (List.mem_of_getElem? hy) vc vd uc ud wr.drew (FAt.below hSd hTx) (FAt.below hSd hTy))
      obtain ⟨b1, d1, b2, d2, rfl, rfl, -⟩ := hTx.shape
      obtain ⟨b3, d3, b4, d4, rfl, rfl, -⟩ := hTy.shape
      generalize fcmp x y = v at *
      rw [hV.out] at hstep
      generalize x.op = x1 at *
      generalize x.n = x2 at *
      generalize x.is.length = x3 at *
      generalize x.ks.length = x4 at *
      generalize y.op = y1 at *
      generalize y.n = y2 at *
      generalize y.is.length = y3 at *
      generalize y.ks.length = y4 at *
      clear hTx hTy hS9
      by_cases hv : v = 0
      ·subst hv
       rw [if_pos rfl] at hstep
       have HV := Lib.hid hstep.symm
       clear hstep hx hy hV
       go_wp2_with fail
       go_region_held3 (fun w' => w'.cell? ⟨w.heap.size, 3, none⟩ = some (.slice (some ⟨g1, 0, none⟩) n7 c2) ∧ w'.cell? ⟨w.heap.size + 1, 3, none⟩ = some (.slice (some ⟨g2, 0, none⟩) n8 c4) ∧ w'.cell? ⟨g1, k * 4, none⟩ = some (.int .i64 x1) ∧ w'.cell? ⟨g1, k * 4 + 1, none⟩ = some (.int .i64 x2) ∧ w'.cell? ⟨g1, k * 4 + 2, none⟩ = some (.slice b1 x3 d1) ∧ w'.cell? ⟨g1, k * 4 + 3, none⟩ = some (.slice b2 x4 d2) ∧ w'.cell? ⟨g2, k * 4, none⟩ = some (.int .i64 y1) ∧ w'.cell? ⟨g2, k * 4 + 1, none⟩ = some (.int .i64 y2) ∧ w'.cell? ⟨g2, k * 4 + 2, none⟩ = some (.slice b3 y3 d3) ∧ w'.cell? ⟨g2, k * 4 + 3, none⟩ = some (.slice b4 y4 d4) ∧ Since wr w')
        ((with_reducible refine ⟨Since.cell ?_ xx, Since.cell ?_ yy, Since.cell ?_ p0, Since.cell ?_ p1, Since.cell ?_ p2, Since.cell ?_ p3, Since.cell ?_ q0, Since.cell ?_ q1, Since.cell ?_ q2, Since.cell ?_ q3, ?_⟩) <;> (repeat (first | with_reducible assumption | with_reducible exact since_r _ | with_reducible refine Since.alloc ?_ _ | with_reducible refine since_d ?_)))
        ((go_at_call 43; refine KQ.out.mono ?_; rintro e w' ⟨rfl, hr⟩; have hB4 : Since wr w' := Since.step hSd hr))
       have HB4 := Lib.hid (Since.step hS.out hB4)
       clear hB4 hr hSd p0 p1 p2 p3 q0 q1 q2 q3 xx yy
       go_wp2
       go_roundw
       case rel => exact ⟨k + 1, by omega, by go_num, HV, HB4⟩
       case measure => simp [intOf]; omega
      ·rw [if_neg hv] at hstep
       have HV := Lib.hid hstep
       have hv2 : (v != 0) = true := bne_iff_ne.2 hv
       clear hstep hx hy hV hv
       go_wp2_with fail
       go_region_held3 (fun w' => w'.cell? ⟨w.heap.size, 3, none⟩ = some (.slice (some ⟨g1, 0, none⟩) n7 c2) ∧ w'.cell? ⟨w.heap.size + 1, 3, none⟩ = some (.slice (some ⟨g2, 0, none⟩) n8 c4) ∧ w'.cell? ⟨g1, k * 4, none⟩ = some (.int .i64 x1) ∧ w'.cell? ⟨g1, k * 4 + 1, none⟩ = some (.int .i64 x2) ∧ w'.cell? ⟨g1, k * 4 + 2, none⟩ = some (.slice b1 x3 d1) ∧ w'.cell? ⟨g1, k * 4 + 3, none⟩ = some (.slice b2 x4 d2) ∧ w'.cell? ⟨g2, k * 4, none⟩ = some (.int .i64 y1) ∧ w'.cell? ⟨g2, k * 4 + 1, none⟩ = some (.int .i64 y2) ∧ w'.cell? ⟨g2, k * 4 + 2, none⟩ = some (.slice b3 y3 d3) ∧ w'.cell? ⟨g2, k * 4 + 3, none⟩ = some (.slice b4 y4 d4) ∧ Since wr w')
        ((with_reducible refine ⟨Since.cell ?_ xx, Since.cell ?_ yy, Since.cell ?_ p0, Since.cell ?_ p1, Since.cell ?_ p2, Since.cell ?_ p3, Since.cell ?_ q0, Since.cell ?_ q1, Since.cell ?_ q2, Since.cell ?_ q3, ?_⟩) <;> (repeat (first | with_reducible assumption | with_reducible exact since_r _ | with_reducible refine Since.alloc ?_ _ | with_reducible refine since_d ?_)))
        ((go_at_call 43; refine KQ.out.mono ?_; rintro e w' ⟨rfl, hr⟩; have hB4 : Since wr w' := Since.step hSd hr))
       have HB4 := Lib.hid (Since.step hS.out hB4)
       clear hB4 hr hSd p0 p1 p2 p3 q0 q1 q2 q3 xx yy
       go_wp2
       go_ret
       exact ⟨fret_int HV.out.symm, HS.out.trans (Below.mono (Since.step HS9.out HB4.out) HS.out.size)⟩
     ·have j1 : ¬ (k : Int) < n7 := by omega
      have hend := zipL_stop fcmp (la := f.ks) (bs := g.ks) (k := k) (by rw [HN7.out]; omega)
      rw [hV.out] at hend
      have HV := Lib.hid hend
      have HB := Lib.hid hS9
      clear hend hV hS9
      go_wp2
      go_ret
      exact ⟨fret_int HV.out.symm, HS.out.trans (Below.mono HB.out HS.out.size)⟩
theorem rcmp_all : ∀ m : Nat, m ≤ 1000000 → RCmpK m
 | 0, _ => fun f g hf => by
  have := f.size_pos
  omega
 | m + 1, h => rcmp_step (by omega) (Lib.hid (rcmp_all m (by omega)))
set_option maxHeartbeats 4000000 in
set_option maxRecDepth 100000 in
theorem rsame_any (f g : Fo) (hf : f.size ≤ 1000000) (hg : g.size ≤ 1000000) (hfw : f.wf) (hgw : g.wf) (c d c' d' : Value) (W : World) (hF : FAt W.heap.size W f c d) (hG : FAt W.heap.size W g c' d') :
  Calls Tryz.prog 29 #[.agg #[.int .i64 f.op, .int .i64 f.n, c, d], .agg #[.int .i64 g.op, .int .i64 g.n, c', d']] W fun e w' => e = .returned (.bool (fcmp f g == 0)) ∧ Below W.heap.size W w' := by
 obtain ⟨W1, hW1⟩ : ∃ W1, W1 = W.alloc (.cells #[.int .i64 f.op, .int .i64 f.n, c, d] 29) := ⟨_, rfl⟩
 have hS1 : Since W W1 := by rw [hW1]; exact Since.alloc (since_r _) _
 have hz1 : W1.heap.size = W.heap.size + 1 := by rw [hW1, World.size_alloc]
 have hX1 : BoxL W.heap.size [.int .i64 f.op, .int .i64 f.n, c, d] W1 := by rw [hW1]; exact BoxL.made W _ _
 obtain ⟨W2, hW2⟩ : ∃ W2, W2 = W1.alloc (.cells #[.int .i64 g.op, .int .i64 g.n, c', d'] 29) := ⟨_, rfl⟩
 have hS2 : Since W1 W2 := by rw [hW2]; exact Since.alloc (since_r _) _
 have hX := hX1.keep hS2
 have hY : BoxL (W.heap.size + 1) [.int .i64 g.op, .int .i64 g.n, c', d'] W2 := by rw [hW2, ← hz1]; exact BoxL.made W1 _ _
 have hS := Since.step hS1 hS2
 have hF2 := FAt.below hS hF
 have hG2 := FAt.below hS hG
 have KQ := Lib.hid (rcmp_all f.size hf f g (Nat.le_refl _) hg hfw hgw c d c' d' W2 hF2 hG2)
 obtain ⟨a1, c1, a2, c2, rfl, rfl, -⟩ := hF2.shape
 obtain ⟨a3, c3, a4, c4, rfl, rfl, -⟩ := hG2.shape
 obtain ⟨x0, x1, x2, x3, -⟩ := hX.open4
 obtain ⟨y0, y1, y2, y3, -⟩ := hY.open4
 have HS := Lib.hid hS
 generalize fcmp f g = v at *
 generalize f.op = o1 at *
 generalize f.n = o2 at *
 generalize g.op = o3 at *
 generalize g.n = o4 at *
 generalize f.is.length = l1 at *
 generalize f.ks.length = l2 at *
 generalize g.is.length = l3 at *
 generalize g.ks.length = l4 at *
 clear hX1 hX hY hS1 hS2 hS hz1 hF2 hG2 hF hG hf hg hfw hgw
 go_enter Tryz.func29, Tryz.ntmps29
 go_upto_region 1 with (fail)
 rw [← hW1, ← hW2]
 clear hW1 hW2
 go_wp2_with fail
 refine KQ.out.mono ?_
 rintro e w3 ⟨rfl, hr⟩
 have HB := Lib.hid (Since.step HS.out hr)
 clear hr x0 x1 x2 x3 y0 y1 y2 y3
 go_wp2
 go_ret
 exact ⟨rfl, HB.out⟩
end Go.Proofs.YtgnloodmbgdgdaaGreat
