import Derived.Test.YtgnloodmbgdgdaaGreatFB15
import Derived.BigQuiet
namespace Go.Proofs.YtgnloodmbgdgdaaGreat
open Go.RowKit Go.Shelf
theorem since_r (w : World) : Since w w := Below.refl _ _
theorem since_d {wb w : World} (h : Since wb w) : Since wb w.drew := Below.drew h
theorem But.below {M B : Nat} {W X X' : World} (h : But M W X) (hB : Below B X X') (hl : W.heap.size ≤ B) : But M W X' :=
 ⟨Nat.le_trans h.1 hB.size, fun b hb hl2 => (hB.block b (by omega)).trans (h.2 b hb hl2), hB.os.trans h.st.1, hB.tape.trans h.st.2.1, hB.output.trans h.st.2.2⟩
theorem BoxL.low {B N : Nat} {vs : List Value} {w w' : World} (h : BoxL N vs w) (hN : N < B) (hB : Below B w w') : BoxL N vs w' :=
 ⟨Nat.lt_of_lt_of_le h.1 hB.size, fun i v hv => ⟨(hB.cell (p := ⟨N, i, none⟩) hN).trans (h.2 i v hv).1, (hB.frozen (p := ⟨N, i, none⟩) hN).trans (h.2 i v hv).2⟩⟩
theorem Mk.re {M : Nat} {sv : Value} {zs : List Int} {i : Nat} {cl l : Int} {W X : World} (hE : Els .i64 W sv zs) (hf : InS (fun k => k ≠ M) sv) (hB : But M W X) (h : BoxL M [sv, .int .i64 i, .int .i64 cl, .int .i64 l] X) : Mk M sv zs i cl l X := ⟨h, hE.keepS hf hB.ks, hf⟩
theorem OF.but {S : Nat → Prop} {B N M : Nat} {w w' : World} {op n : Int} {vi vk : Value} {is : List Iv} {rs : List Fr} {ks : List Fo} (h : OF S B N w op n vi vk is rs ks) (hM : M < B) (hS : ∀ k, S k → k ≠ M) (hB : But M w w') : OF S B N w' op n vi vk is rs ks := by
 have hN := h.hB
 exact { h with box := hB.box h.box (by omega), oi := h.oi.keepS fun g e hl => hB.2 g (by have := (h.oi.lt g e).1; omega) hl, ok := h.ok.keepS fun g e hl => hB.2 g (by have := (h.ok.lt g e).1; omega) hl, lie := h.lie.keep ⟨hB.1, fun b hb hl => hB.2 b (hS b hb.1) hl⟩ fun _ _ h => h }
theorem OF.kid {S : Nat → Prop} {B N M : Nat} {w V w' : World} {op n : Int} {vi vk : Value} {is : List Iv} {rs : List Fr} {ks : List Fo} (h : OF S B N w op n vi vk is rs ks) (hM : M < B) (hS : ∀ k, S k → k ≠ M) (hS2 : ∀ k, B ≤ k → S k) (hV : Since w V) (hB : But M V w') {t : Fo} {r : Fr} (hT : FSr (fun k => V.heap.size ≤ k ∧ k < w'.heap.size) w' t r) (o : Obj) :
  OF S B N (w'.alloc o) op n vi vk is rs ks ∧ LieF (FreeF S N vi vk) (w'.alloc o) (rs ++ [r]) (ks ++ [t]) := by
 have h1 : OF S B N (w'.alloc o) op n vi vk is rs ks := ((h.frame hV).but hM hS hB).frame (Since.alloc (Below.refl _ _) o)
 have hs := hV.size
 have hbx := h.box.1
 have hbn := h.hB
 refine ⟨h1, h1.lie.snoc ?_⟩
 have h2 := h.part (w' := w') (S0 := fun k => V.heap.size ≤ k ∧ k < w'.heap.size) (fun k _ hk => ⟨hS2 k (by omega), .inr (by omega)⟩) hT
 exact FSr.keep (S' := FreeF S N vi vk) h2 ⟨by simp, fun b _ hl => Below.heap_alloc _ _ _ hl⟩ fun _ _ h => h.1
theorem But.box0 {M N : Nat} {vs : List Value} {wr V v9 : World} (hX : BoxL N vs wr) (hV : Since wr V) (hB : But M V v9) (hM : M < N) : BoxL N vs v9 := hB.box (hX.keep hV) (by omega)
theorem gen_one {M N : Nat} {sv : Value} {zs : List Int} {t : Fo} {i : Nat} {cl l : Int} {W w1 : World} (hN : W.heap.size = N) (hMN : M < N) (hE : Els .i64 W sv zs) (hM : Mk M sv zs i cl l w1) (hB : But M W w1) (hNl : N < w1.heap.size) (r : Fr) (hF : FSr (fun k => N < k ∧ k < w1.heap.size) w1 t r) (op : Int) (T : TypeId) :
  GenOut M sv zs (.mk op 0 [] [t]) i cl l W (.returned (.agg #[.int .i64 op, .int .i64 0, .slice none 0 0, .slice (some ⟨w1.heap.size, 0, none⟩) 1 1])) ((put4 w1 N (.int .i64 op) (.int .i64 0) (.slice none 0 0) (.slice (some ⟨w1.heap.size, 0, none⟩) 1 1)).alloc (.cells #[.int .i64 r.op, .int .i64 r.n, .slice r.a2 r.n2 r.c2, .slice r.a3 r.n3 r.c3] T)) := by
 obtain ⟨w2, hw2⟩ : ∃ w2, w2 = put4 w1 N (.int .i64 op) (.int .i64 0) (.slice none 0 0) (.slice (some ⟨w1.heap.size, 0, none⟩) 1 1) := ⟨_, rfl⟩
 have hz : w2.heap.size = w1.heap.size := by rw [hw2]; unfold put4; simp only [World.size_setCell]
 have hk : KeepS (fun k => k ≠ N) w1 w2 := by rw [hw2]; exact put4_keep _ _ _ _ _ _ fun _ h => h
 have hF2 : FSr (fun k => N < k ∧ k < w2.heap.size) w2 t r := FSr.keep (S' := fun k => N < k) hF (hk.imp fun k h => by omega) fun b _ h => h.1
 have hF3 := one_kid (S' := fun k => W.heap.size ≤ k) hF2 op 0 T (fun b _ h => by omega) (by omega)
 have hst : w2.os = w1.os ∧ w2.tape = w1.tape ∧ w2.output = w1.output := by rw [hw2]; exact put4_st _ _ _ _ _ _
 have hB2 : But M W w2 := ⟨Nat.le_trans hB.1 hk.1, fun b hb hl => (hk.2 b (by omega) (Nat.lt_of_lt_of_le hl hB.1)).trans (hB.2 b hb hl), hst.1.trans hB.st.1, hst.2.1.trans hB.st.2.1, hst.2.2.trans hB.st.2.2⟩
 have hX2 : BoxL M [sv, .int .i64 i, .int .i64 cl, .int .i64 l] w2 := hk.box hM.box (by omega)
 rw [← hw2, ← hz]
 have hS := Since.alloc (since_r w2) (.cells #[.int .i64 r.op, .int .i64 r.n, .slice r.a2 r.n2 r.c2, .slice r.a3 r.n3 r.c3] T)
 exact ⟨_, rfl, Lib.hid hF3, Lib.hid ((Mk.re hE hM.far hB2 hX2).since hS), Lib.hid (hB2.trans (But.since hS))⟩
mutual
theorem FS.mono {S S' : Nat → Prop} {w : World} (hs : ∀ b, S b → S' b) : ∀ (t : Fo) {c d : Value}, FS S w t c d → FS S' w t c d
 | .mk op n is ks, c, d, h => by
  obtain ⟨⟨h2, l2⟩, h3⟩ := h.parts
  refine FS.of h2 (l2.mono hs) ?_
  rcases h3 with h3 | ⟨g, cap, hg, hgs, e, hl, hp⟩
  ·exact .inl h3
  ·exact .inr ⟨g, cap, hs g hg, hgs, e, hl, FL.mono hs ks hp⟩
theorem FL.mono {S S' : Nat → Prop} {w : World} (hs : ∀ b, S b → S' b) : ∀ (ts : List Fo) {g o : Nat}, FL S w ts g o → FL S' w ts g o
 | [], _, _, _ => trivial
 | t :: ts, g, o, h => by
  obtain ⟨⟨c, d, h0, h1, h2, h3, h4⟩, h5⟩ := h
  exact ⟨⟨c, d, h0, h1, h2, h3, FS.mono hs t h4⟩, FL.mono hs ts h5⟩
end
def TreeK (zs : List Int) (cl : Int) (d : Nat) : Prop := ∀ (M : Nat) (sv : Value) (i : Nat) (l : Int) (W : World), Mk M sv zs i cl l W → i + 4 * mm d ≤ 90000 → -100000 + (mm d : Int) ≤ l → l ≤ 100000 →
 Calls Tryz.prog 56 #[.pointer (some ⟨M, 0, none⟩), .int .i64 (d : Int)] W (GenOut M sv zs (treeG zs cl d i l).1 (treeG zs cl d i l).2.1 cl (treeG zs cl d i l).2.2 W)
def Lf (zs : List Int) (d i : Nat) (l p : Int) : Prop := d ≤ 1 ∨ l - 1 < 3 ∨ zs.length < i + 1 ∨ p < 3
theorem treeG_leaf {zs : List Int} {cl : Int} {d i : Nat} {l : Int} (h : Lf zs d i l (pickI zs i 14)) : treeG zs cl d i l = ((leafG zs cl (i + 1)).1, (leafG zs cl (i + 1)).2, l - 1) := by
 cases d with
 | zero => rw [treeG]
 | succ d => rw [treeG, if_pos]; unfold Lf at h; omega
theorem treeG_one {zs : List Int} {cl : Int} {d i : Nat} {l : Int} (h : ¬ Lf zs (d + 1) i l (pickI zs i 14)) : treeG zs cl (d + 1) i l = if pickI zs i 14 < 5 then (.mk 3 0 [] [(treeG zs cl d (i + 1) (l - 1)).1], (treeG zs cl d (i + 1) (l - 1)).2)
  else if pickI zs i 14 < 7 then (.mk 6 0 [] [(treeG zs cl d (i + 1) (l - 1)).1], (treeG zs cl d (i + 1) (l - 1)).2)
  else (.mk (4 + pickI zs i 14 % 2) 0 [] (kidsG (treeG zs cl d) (manyG (pickI zs (i + 1) 6)) (i + 2) (l - 1)).1, (kidsG (treeG zs cl d) (manyG (pickI zs (i + 1) 6)) (i + 2) (l - 1)).2) := by
 rw [treeG, if_neg]
 unfold Lf at h
 omega
theorem many_of {p : Int} (h0 : 0 ≤ p) (h1 : p < 6) : (p = 0 ∧ manyG p = 2) ∨ (p = 1 ∧ manyG p = 2) ∨ (p = 2 ∧ manyG p = 2) ∨ (p = 3 ∧ manyG p = 3) ∨ (p = 4 ∧ manyG p = 1) ∨ (p = 5 ∧ manyG p = 0) := by
 have : p = 0 ∨ p = 1 ∨ p = 2 ∨ p = 3 ∨ p = 4 ∨ p = 5 := by omega
 rcases this with rfl | rfl | rfl | rfl | rfl | rfl <;> decide
set_option maxHeartbeats 8000000 in
set_option maxRecDepth 100000 in
theorem tree_step (zs : List Int) (hw : Wfs zs) (cl : Int) (hc1 : 1 ≤ cl) (hc2 : cl ≤ 64) (d : Nat) (hd : d ≤ 10) (K : ∀ e, e + 1 = d → TreeK zs cl e) : TreeK zs cl d := by
 intro M sv i l W h hi hl1 hl2
 have hmp := mm_pos d
 obtain ⟨a, c, rfl⟩ := h.els.shape
 obtain ⟨W1, hW1⟩ : ∃ W1, W1 = W.alloc (.cells #[.int .i64 0, .int .i64 0, .slice none 0 0, .slice none 0 0] 29) := ⟨_, rfl⟩
 have hS1 : Since W W1 := by rw [hW1]; exact Since.alloc (Below.refl _ _) _
 have hX1 : BoxL W.heap.size [.int .i64 0, .int .i64 0, .slice none 0 0, .slice none 0 0] W1 := by rw [hW1]; exact BoxL.made W _ _
 have hMN : M < W.heap.size := h.box.1
 have hM1 := h.since hS1
 obtain ⟨W2, hW2⟩ : ∃ W2, W2 = W1.setCell ⟨M, 3, none⟩ (.int .i64 (l - 1)) := ⟨_, rfl⟩
 have hM2 : Mk M (.slice a zs.length c) zs i cl (l - 1) W2 := by rw [hW2]; exact hM1.set 3 _ (by decide) rfl
 have hB2 : But M W1 W2 := by rw [hW2]; exact But.set _ _ _
 have hX2 := hB2.box hX1 (by omega)
 have K1 := Lib.hid (next_any zs hw M _ i cl (l - 1) 14 W2 hM2 (by decide) (by decide) (by omega))
 have KN := Lib.hid fun (j : Nat) (n l : Int) (w1 : World) (hm : Mk M (.slice a zs.length c) zs j cl l w1) (h1 : 1 ≤ n) (h2 : n ≤ 1048576) (hi : j ≤ 99999) => next_any zs hw M _ j cl l n w1 hm h1 h2 hi
 have HE := Lib.hid h.els
 have HFAR := Lib.hid h.far
 have HB2 := Lib.hid ((But.since hS1).trans hB2)
 have HX2 := Lib.hid hX2
 have HR : Hid (∀ R, treeG zs cl d i l = R → treeG zs cl d i l = R) := Lib.hid fun R h => h
 obtain ⟨x0, x1, x2, x3, xz⟩ := hM1.box.open4
 have f3 := (hM1.box.2 3 _ rfl).2
 have hp := pickI_range zs i 14 (by decide)
 have hTL := treeG_leaf (zs := zs) (cl := cl) (d := d) (i := i) (l := l)
 have hTO : ∀ e, e + 1 = d → _ := fun e (he : e + 1 = d) => he ▸ treeG_one (zs := zs) (cl := cl) (d := e) (i := i) (l := l)
 have HTL := Lib.hid hTL
 have HTO := Lib.hid hTO
 generalize treeG zs cl d i l = R at *
 generalize pickI zs i 14 = p at *
 obtain ⟨hp0, hp1⟩ := hp
 have HK := Lib.hid K
 clear hX1 hX2 hB2 hM1 hM2 hS1 hTL hTO K h HR
 go_enter Tryz.func56, Tryz.ntmps56
 go_upto_region 1 with (fail)
 rw [← hW1]
 clear hW1
 go_upto_region 2 with (fail)
 rw [← hW2]
 clear hW2 x0 x1 x2 x3 f3 xz
 generalize hN : W.heap.size = N at *
 have HN := Lib.hid hN
 clear hN
 go_wp2_with fail
 refine K1.out.mono ?_
 rintro e w3 ⟨rfl, hM3, hB3⟩
 have HM3 := Lib.hid hM3
 have HB3 := Lib.hid (HB2.out.trans hB3)
 have HX3 := Lib.hid (hB3.box HX2.out (by omega))
 clear hM3 hB3 K1 HX2 HB2
 go_upto_region 3 with (fail)
 go_cut [42] (fun s wx => ∃ b : Bool, s = .bool b ∧ Hid (b = true ↔ Lf zs d i l p) ∧ Hid (Since w3 wx))
 case first =>
  obtain ⟨x0, x1, x2, x3, xz⟩ := HM3.out.box.open4
  have hlf : Hid (∀ b : Bool, (b = true ↔ (d ≤ 1 ∨ l - 1 < 3 ∨ zs.length < i + 1 ∨ p < 3)) → Hid (b = true ↔ Lf zs d i l p)) := Lib.hid fun b h => Lib.hid h
  clear HM3 HB3 HX3 KN HTL HTO HK HE HFAR HN
  generalize zs.length = m at *
  generalize i + 1 = j at *
  by_cases hA : d ≤ 1
  ·have d1 : (d : Int) ≤ 1 := by omega
   have e1 : decide ((d : Int) ≤ 1) = true := decide_eq_true d1
   go_quiet (fail)
   go_wp2_with fail
   go_meet
   exact ⟨_, rfl, hlf.out _ (by simp [hA]), Lib.hid (below_drewN (Below.refl _ _) nq)⟩
  ·have d1 : ¬ (d : Int) ≤ 1 := by omega
   have e1 : decide ((d : Int) ≤ 1) = false := decide_eq_false d1
   by_cases hB : l - 1 < 3
   ·have e2 : decide (l - 1 < 3) = true := decide_eq_true hB
    go_quiet (fail)
    go_wp2_with fail
    go_meet
    exact ⟨_, rfl, hlf.out _ (by simp [hB]), Lib.hid (below_drewN (Below.refl _ _) nq)⟩
   ·have e2 : decide (l - 1 < 3) = false := decide_eq_false hB
    by_cases hC : m < j
    ·have e3 : decide (m < j) = true := decide_eq_true hC
     have e4 : decide ((j : Int) > (m : Int)) = true := decide_eq_true (by omega)
     go_quiet (fail)
     go_wp2_with fail
     go_meet
     exact ⟨_, rfl, hlf.out _ (by simp [hC]), Lib.hid (below_drewN (Below.refl _ _) nq)⟩
    ·have e3 : decide (m < j) = false := decide_eq_false hC
     have e4 : decide ((j : Int) > (m : Int)) = false := decide_eq_false (by omega)
     by_cases hD : p < 3
     ·have e5 : decide (p < 3) = true := decide_eq_true hD
      go_quiet (fail)
      go_wp2_with fail
      go_meet
      exact ⟨_, rfl, hlf.out _ (by simp [hD]), Lib.hid (below_drewN (Below.refl _ _) nq)⟩
     ·have e5 : decide (p < 3) = false := decide_eq_false hD
      go_quiet (fail)
      go_wp2_with fail
      go_meet
      exact ⟨_, rfl, hlf.out _ (by simp [hA, hB, hC, hD]), Lib.hid (below_drewN (Below.refl _ _) nq)⟩
 case rest =>
 obtain ⟨b, rfl, hb, hS⟩ := hcut
 rename World => wx
 have HMx := Lib.hid (HM3.out.since hS.out)
 have HXx := Lib.hid (HX3.out.keep hS.out)
 have HBx := Lib.hid (HB3.out.trans (But.since hS.out))
 have hNx : N < wx.heap.size := HXx.out.1
 clear HM3 HX3 HB3 hS
 cases b with
 | true =>
  have hR := HTL.out (hb.out.1 rfl)
  subst hR
  clear HTL HTO hb HK KN
  go_wp2_with fail
  refine (leaf_any zs hw M _ (i + 1) cl (l - 1) wx HMx.out hc1 hc2 (by omega)).mono ?_
  rintro e w4 ⟨⟨fop, fn, fa2, fn2, fc2, fa3, fn3, fc3⟩, rfl, hF4, hM4, hB4⟩
  obtain ⟨x0, x1, x2, x3, f0, f1, f2, f3, -⟩ := (hB4.out.box HXx.out (by omega)).all4
  have hF : FSr (fun k => N < k ∧ k < w4.heap.size) w4 (leafG zs cl (i + 1)).1 ⟨fop, fn, fa2, fn2, fc2, fa3, fn3, fc3⟩ := FSr.keep (S' := fun k => N < k) hF4.out ⟨Nat.le_refl _, fun _ _ _ => rfl⟩ fun b _ h => by omega
  have hfin := gen_end HN.out hMN HE.out hM4.out (HBx.out.trans hB4.out) _ hF _ _ rfl rfl
  have HF := Lib.hid hfin
  unfold put4 at HF
  clear hfin hF hF4 hM4 hB4 HXx HMx HBx
  generalize (leafG zs cl (i + 1)).1 = lf1 at *
  generalize (leafG zs cl (i + 1)).2 = lf2 at *
  go_wp2
  exact bodyPost_ret (v := .agg #[.int .i64 fop, .int .i64 fn, .slice fa2 fn2 fc2, .slice fa3 fn3 fc3]) (by simp [results, Tryz.results56, go_sem, x0, x1, x2, x3]) rfl HF.out
 | false =>
  have hnl : ¬ Lf zs d i l p := fun h => by have := hb.out.2 h; cases this
  have hd1 : ¬ d ≤ 1 := fun h => hnl (.inl h)
  have hl3 : ¬ l - 1 < 3 := fun h => hnl (.inr (.inl h))
  obtain ⟨e', he'⟩ : ∃ e', e' + 1 = d := ⟨d - 1, by omega⟩
  have hRR := HTO.out e' he' (he' ▸ hnl)
  have HKE := Lib.hid (HK.out e' he')
  have hmd : mm d = 1 + 3 * mm e' := by rw [← he']; rfl
  have hme := mm_pos e'
  have hdi : IntKind.i64.wrap ((d : Int) - 1) = (e' : Int) := by rw [IntWalk.i64_in _ (by omega)]; omega
  have hd2 : (d : Int) - 1 = (e' : Int) := by omega
  have HRR := Lib.hid hRR
  have HDI := Lib.hid hdi
  have HD2 := Lib.hid hd2
  clear HTL HTO hb HK hnl hRR hdi hd2 hd1
  by_cases c5 : p < 5
  ·have hR : R = (.mk 3 0 [] [(treeG zs cl e' (i + 1) (l - 1)).1], (treeG zs cl e' (i + 1) (l - 1)).2) := by rw [HRR.out, if_pos c5]
   subst hR
   clear HRR
   have KT := HKE.out M _ (i + 1) (l - 1) wx HMx.out (by omega) (by omega) (by omega)
   have HKT := Lib.hid KT
   clear KT KN HKE
   go_wp2_with fail
   first | rw [HDI.out] | rw [HD2.out] | skip
   refine HKT.out.mono ?_
   rintro e w4 ⟨⟨fop, fn, fa2, fn2, fc2, fa3, fn3, fc3⟩, rfl, hF4, hM4, hB4⟩
   have hX4 := hB4.out.box HXx.out (by omega)
   obtain ⟨x0, x1, x2, x3, f0, f1, f2, f3, hlt⟩ := hX4.all4
   have hF : FSr (fun k => N < k ∧ k < w4.heap.size) w4 (treeG zs cl e' (i + 1) (l - 1)).1 ⟨fop, fn, fa2, fn2, fc2, fa3, fn3, fc3⟩ := FSr.keep (S' := fun k => N < k) hF4.out ⟨Nat.le_refl _, fun _ _ _ => rfl⟩ fun b _ h => by omega
   have hfin := gen_one HN.out hMN HE.out hM4.out (HBx.out.trans hB4.out) hlt _ hF 3 29
   have HF := Lib.hid hfin
   unfold put4 at HF
   clear hfin hF hF4 hM4 hB4 HXx HMx HBx hX4 HKT HDI HD2
   generalize (treeG zs cl e' (i + 1) (l - 1)).1 = lf1 at *
   generalize (treeG zs cl e' (i + 1) (l - 1)).2 = lf2 at *
   go_wp2
   exact bodyPost_ret (v := .agg #[.int .i64 3, .int .i64 0, .slice none 0 0, .slice (some ⟨w4.heap.size, 0, none⟩) 1 1]) (by simp [results, Tryz.results56, go_sem, World.cell?_alloc_past, World.size_setCell, hlt, x0, x1, x2, x3]) rfl HF.out
  ·by_cases c7 : p < 7
   ·have hR : R = (.mk 6 0 [] [(treeG zs cl e' (i + 1) (l - 1)).1], (treeG zs cl e' (i + 1) (l - 1)).2) := by rw [HRR.out, if_neg c5, if_pos c7]
    subst hR
    clear HRR
    have KT := HKE.out M _ (i + 1) (l - 1) wx HMx.out (by omega) (by omega) (by omega)
    have HKT := Lib.hid KT
    clear KT KN HKE
    go_wp2_with fail
    first | rw [HDI.out] | rw [HD2.out] | skip
    refine HKT.out.mono ?_
    rintro e w4 ⟨⟨fop, fn, fa2, fn2, fc2, fa3, fn3, fc3⟩, rfl, hF4, hM4, hB4⟩
    have hX4 := hB4.out.box HXx.out (by omega)
    have hF : FSr (fun k => N < k) w4 (treeG zs cl e' (i + 1) (l - 1)).1 ⟨fop, fn, fa2, fn2, fc2, fa3, fn3, fc3⟩ := ⟨hF4.out.1, hF4.out.2.1, FS.mono (fun b h => by omega) _ hF4.out.2.2⟩
    have KR := Lib.hid (rnot_any _ _ w4 hF)
    have HM4 := Lib.hid hM4.out
    have HB4 := Lib.hid (HBx.out.trans hB4.out)
    have HX4 := Lib.hid hX4
    clear hF hF4 hM4 hB4 HXx HMx HBx hX4 HKT HDI HD2
    simp only at KR
    go_wp2_with fail
    refine KR.out.mono ?_
    rintro e w5 ⟨⟨gop, gn, ga2, gn2, gc2, ga3, gn3, gc3⟩, rfl, hF5, hB5⟩
    obtain ⟨x0, x1, x2, x3, f0, f1, f2, f3, hlt⟩ := (HX4.out.keep hB5.out).all4
    have h4 := HX4.out.1
    have hF6 := FSr.keep (S' := fun k => N < k) hF5.out ⟨Nat.le_refl _, fun _ _ _ => rfl⟩ fun b _ h => by omega
    have hfin := gen_end HN.out hMN HE.out (HM4.out.since hB5.out) (HB4.out.trans (But.since hB5.out)) _ hF6 _ _ rfl rfl
    have HF := Lib.hid hfin
    unfold put4 at HF
    clear hfin hF6 hF5 hB5 HM4 HB4 HX4 KR
    generalize (treeG zs cl e' (i + 1) (l - 1)).1 = lf1 at *
    generalize (treeG zs cl e' (i + 1) (l - 1)).2 = lf2 at *
    go_wp2
    exact bodyPost_ret (v := .agg #[.int .i64 gop, .int .i64 gn, .slice ga2 gn2 gc2, .slice ga3 gn3 gc3]) (by simp [results, Tryz.results56, go_sem, x0, x1, x2, x3]) rfl HF.out
   ·obtain ⟨op, hop2⟩ : ∃ op, op = 4 + p % 2 := ⟨_, rfl⟩
    obtain ⟨nn, hnn⟩ : ∃ nn, nn = manyG (pickI zs (i + 1) 6) := ⟨_, rfl⟩
    have hR : R = (.mk op 0 [] (kidsG (treeG zs cl e') nn (i + 2) (l - 1)).1, (kidsG (treeG zs cl e') nn (i + 2) (l - 1)).2) := by rw [HRR.out, if_neg c5, if_neg c7, hop2, hnn]
    have HNN := Lib.hid hnn
    clear hnn
    subst hR
    clear HRR
    have hop : op = 4 ∨ op = 5 := by omega
    obtain ⟨N2, hN2⟩ : ∃ N2, N2 = wx.heap.size := ⟨_, rfl⟩
    obtain ⟨w4, hw4⟩ : ∃ w4, w4 = wx.alloc (.cells #[.int .i64 op, .int .i64 0, .slice none 0 0, .slice none 0 0] 29) := ⟨_, rfl⟩
    have hS4 : Since wx w4 := by rw [hw4]; exact Since.alloc (since_r _) _
    have hO4 : OF (fun k => N < k) N2 N2 w4 op 0 (.slice none 0 0) (.slice none 0 0) [] [] [] := by rw [hw4, hN2]; exact OF.new _ _ _ _ _ (Nat.le_refl _)
    have hMN2 : M < N2 := by omega
    have hNN2 : N < N2 := by omega
    have HM4 := Lib.hid (HMx.out.since hS4)
    have HB4 := Lib.hid (HBx.out.trans (But.since hS4))
    have HX4 := Lib.hid (HXx.out.keep hS4)
    have HO4 := Lib.hid hO4
    have K6 := Lib.hid (KN.out (i + 1) 6 (l - 1))
    clear HMx HBx HXx hS4 hO4 KN
    go_upto_region 10 with (fail)
    rw [← hop2, ← hw4, ← hN2]
    clear hw4 hop2
    have HN2 := Lib.hid hN2
    clear hN2
    go_cut [7] (fun s wy => ∃ n : Nat, s = .int .i64 (n : Int) ∧ n ≤ 3 ∧ Hid (n = manyG (pickI zs (i + 1) 6)) ∧ Hid (Mk M (.slice a zs.length c) zs (i + 2) cl (l - 1) wy) ∧ Hid (But M W wy) ∧ Hid (But M w4 wy))
    case first =>
     have hbx := BoxL.made w4 #[.int .i64 2, .int .i64 2, .int .i64 2, .int .i64 3, .int .i64 1, .int .i64 0] 3
     have hs5 := Since.alloc (since_r w4) (.cells #[.int .i64 2, .int .i64 2, .int .i64 2, .int .i64 3, .int .i64 1, .int .i64 0] 3)
     have K7 := Lib.hid (K6.out _ (HM4.out.since hs5) (by decide) (by decide) (by omega))
     have h4 := HO4.out.box.1
     have hb5 := Lib.hid (HB4.out.trans (But.since hs5))
     have hb6 := Lib.hid (But.since (M := M) hs5)
     have hq := pickI_range zs (i + 1) 6 (by decide)
     generalize pickI zs (i + 1) 6 = q at *
     clear K6 hs5 HKE HDI HD2 HX4 HO4
     go_wp2_with fail
     refine K7.out.mono ?_
     rintro e w6 ⟨rfl, hM6, hB6⟩
     have hbx6 := hB6.box hbx (by omega)
     have HM6 := Lib.hid hM6
     have HB6 := Lib.hid (hb5.out.trans hB6)
     have HC6 := Lib.hid (hb6.out.trans hB6)
     have y0 := (hbx6.2 0 _ rfl).1
     have y1 := (hbx6.2 1 _ rfl).1
     have y2 := (hbx6.2 2 _ rfl).1
     have y3 := (hbx6.2 3 _ rfl).1
     have y4 := (hbx6.2 4 _ rfl).1
     have y5 := (hbx6.2 5 _ rfl).1
     clear hbx hbx6 hM6 hB6 K7 hb5 hb6
     rcases many_of hq.1 hq.2 with ⟨rfl, hm⟩ | ⟨rfl, hm⟩ | ⟨rfl, hm⟩ | ⟨rfl, hm⟩ | ⟨rfl, hm⟩ | ⟨rfl, hm⟩
     all_goals
      have HM := Lib.hid hm
      clear hm
      go_wp2
      go_meet
     ·exact ⟨2, rfl, by decide, Lib.hid HM.out.symm, HM6, HB6, HC6⟩
     ·exact ⟨2, rfl, by decide, Lib.hid HM.out.symm, HM6, HB6, HC6⟩
     ·exact ⟨2, rfl, by decide, Lib.hid HM.out.symm, HM6, HB6, HC6⟩
     ·exact ⟨3, rfl, by decide, Lib.hid HM.out.symm, HM6, HB6, HC6⟩
     ·exact ⟨1, rfl, by decide, Lib.hid HM.out.symm, HM6, HB6, HC6⟩
     ·exact ⟨0, rfl, by decide, Lib.hid HM.out.symm, HM6, HB6, HC6⟩
    case rest =>
    obtain ⟨n, rfl, hn3, hn, hM6, hB6, hC6⟩ := hcut
    rename World => wy
    have hN2y : N2 < wy.heap.size := Nat.lt_of_lt_of_le HO4.out.box.1 hC6.out.1
    have hKO := kids_ok (tree_ok zs cl hc1 hc2 e')
    have HKO := Lib.hid hKO
    have HOy := Lib.hid (HO4.out.but hMN2 (fun k h => by omega) hC6.out)
    have HXy := Lib.hid (hC6.out.box HX4.out (by omega))
    have HMy := Lib.hid hM6.out.box
    have HBy := Lib.hid hB6.out
    have hSne : ∀ k, N < k → k ≠ M := fun k h => by omega
    have hSge : ∀ k, N2 ≤ k → N < k := fun k h => by omega
    obtain rfl : n = nn := hn.out.trans HNN.out.symm
    have hmn : n * mm e' ≤ 3 * mm e' := Nat.mul_le_mul_right _ hn3
    clear HM4 HB4 HX4 HO4 K6 hM6 hB6 hC6 hKO hn
    go_wp2
    go_loopw [8] (fun v wr => ∃ (k : Nat) (a3 : Option Addr) (n3 c3 : Nat) (rs : List Fr), k ≤ n ∧ v = .int .i64 k ∧ Hid (OF (fun k => N < k) N2 N2 wr op 0 (.slice none 0 0) (.slice a3 n3 c3) [] rs (kidsG (treeG zs cl e') k (i + 2) (l - 1)).1) ∧ Hid (BoxL M [.slice a zs.length c, .int .i64 (kidsG (treeG zs cl e') k (i + 2) (l - 1)).2.1, .int .i64 cl, .int .i64 (kidsG (treeG zs cl e') k (i + 2) (l - 1)).2.2] wr) ∧ Hid (But M W wr) ∧ Hid (BoxL N [.int .i64 0, .int .i64 0, .slice none 0 0, .slice none 0 0] wr)) (fun v _ => n - (intOf v).toNat)
    case atStart => exact ⟨0, none, 0, 0, [], by omega, rfl, HOy, HMy, HBy, HXy⟩
    case round =>
     obtain ⟨k, a3, n3, c3, rs, hk, rfl, hOF, HMr, HBr, HXr⟩ := hrel
     clear HOy HMy HBy HXy
     obtain ⟨k1, -, -, -, -, k6, k7, k8, k9, k10⟩ := HKO.out k (i + 2) (l - 1)
     by_cases hlt : k < n
     ·have j1 : (k : Int) < n := by omega
      have hkm : k * mm e' + mm e' ≤ 3 * mm e' := by rw [← Nat.succ_mul]; exact Nat.mul_le_mul_right _ (by omega)
      obtain ⟨ik, hik⟩ : ∃ ik, ik = (kidsG (treeG zs cl e') k (i + 2) (l - 1)).2.1 := ⟨_, rfl⟩
      obtain ⟨lk, hlk⟩ : ∃ lk, lk = (kidsG (treeG zs cl e') k (i + 2) (l - 1)).2.2 := ⟨_, rfl⟩
      have HSTEP : Hid (kidsG (treeG zs cl e') (k + 1) (i + 2) (l - 1) = ((kidsG (treeG zs cl e') k (i + 2) (l - 1)).1 ++ [(treeG zs cl e' ik lk).1], (treeG zs cl e' ik lk).2)) := Lib.hid (by rw [hik, hlk]; rfl)
      have hlr : rs.length + 1 ≤ 1000000000 := by have := hOF.out.lie.1; omega
      rw [← hik] at k7 k8
      rw [← hlk] at k9 k10
      have HMr2 : Hid (BoxL M [.slice a zs.length c, .int .i64 ik, .int .i64 cl, .int .i64 lk] wr) := Lib.hid (by rw [hik, hlk]; exact HMr.out)
      have HKR : Hid (∀ V, Since wr V → Calls Tryz.prog 56 #[.pointer (some ⟨M, 0, none⟩), .int .i64 (e' : Int)] V (GenOut M (.slice a zs.length c) zs (treeG zs cl e' ik lk).1 (treeG zs cl e' ik lk).2.1 cl (treeG zs cl e' ik lk).2.2 V)) := Lib.hid fun V hV => HKE.out M _ ik lk V (Mk.re HE.out HFAR.out (HBr.out.trans (But.since hV)) (HMr2.out.keep hV)) (by omega) (by omega) (by omega)
      have KTR := HKR
      have hdi := HDI.out
      have i2 : IntKind.i64.wrap ((k : Int) + 1) = ((k + 1 : Nat) : Int) := by rw [IntWalk.i64_in _ (by omega)]; omega
      obtain ⟨x0, x1, x2, x3, f0, f1, f2, f3, -⟩ := hOF.out.box.all4
      clear HKR HKE HMr HMr2 hik hlk k6 k7 k8 k9 k10
      go_upto_region 14 with (fail)
      refine wp_region_noPanic ?_
      refine wp_region_held_drew (S := fun _ => True) (by kernel_rfl) (by trivial) (fun hHeld => ?_)
      refine wpAnyH_take (i := 0) (oi := ⟨some 74, Op.fieldAddr 29 (Operand.tmp 6) 3, 0, _, _, none⟩) (v := ?_) rfl (by kernel_rfl) (by kernel_rfl) (by kernel_rfl) (fun _ _ _ h => h) (Or.inl ⟨by rfl, ?_⟩) (by assumption) ?_
      rotate_left 1
      ·(intro w hSw; (try dsimp only at hSw); go_simp; first | done | with_reducible rfl)
      try simp only [Act.put, List.setIfInBounds_toArray, List.set_cons_zero, List.set_cons_succ]
      refine wpAnyH_take (i := 2) (oi := ⟨some 76, Op.move (Operand.tmp 0), 85, _, _, none⟩) (v := ?_) rfl (by kernel_rfl) (by kernel_rfl) (by kernel_rfl) (fun _ _ _ h => h) (Or.inl ⟨by rfl, ?_⟩) (by assumption) ?_
      rotate_left 1
      ·(intro w hSw; (try dsimp only at hSw); go_simp; first | done | with_reducible rfl)
      try simp only [Act.put, List.setIfInBounds_toArray, List.set_cons_zero, List.set_cons_succ]
      refine wpAnyH_take (i := 3) (oi := ⟨some 77, Op.move (Operand.tmp 1), 3, _, _, none⟩) (v := ?_) rfl (by kernel_rfl) (by kernel_rfl) (by kernel_rfl) (fun _ _ _ h => h) (Or.inl ⟨by rfl, ?_⟩) (by assumption) ?_
      rotate_left 1
      ·(intro w hSw; (try dsimp only at hSw); go_simp; first | done | with_reducible rfl)
      try simp only [Act.put, List.setIfInBounds_toArray, List.set_cons_zero, List.set_cons_succ]
      refine wpAnyH_take (i := 4) (oi := ⟨some 78, Op.binOp BinOp.sub 3 (Operand.tmp 77) (Operand.const (Value.int IntKind.i64 1)) 3, 3, _, _, none⟩) (v := ?_) rfl (by kernel_rfl) (by kernel_rfl) (by kernel_rfl) (fun _ _ _ h => h) (Or.inl ⟨by rfl, ?_⟩) (by assumption) ?_
      rotate_left 1
      ·(intro w hSw; (try dsimp only at hSw); go_simp; first | done | with_reducible rfl)
      try simp only [Act.put, List.setIfInBounds_toArray, List.set_cons_zero, List.set_cons_succ]
      refine wpAnyH_ready (rs := [1, 5]) (by kernel_rfl) (by simp) ?_
      refine AllReadyH.cons (o := ⟨some 75, Op.load 23 (Operand.tmp 74), 23, _, _, none⟩) rfl (fun K hK => ?_) (AllReadyH.cons (o := ⟨some 79, Op.call { callee := Callee.value (Operand.func 56), args := #[Operand.tmp 76, Operand.tmp 78], argTypes := #[85, 3] }, 29, _, _, none⟩) rfl (fun K hK => ?_) AllReadyH.nil)
      ·go_simp
       try go_wp2_with fail
       refine hK.out _ _ ?_ (fun hHeld => ?_)
       ·trivial
       clear hK K
       try simp only [Act.put, List.setIfInBounds_toArray, List.set_cons_zero, List.set_cons_succ]
       refine wpAnyH_ready (rs := [5]) (by kernel_rfl) (by simp) ?_
       refine AllReadyH.cons (o := ⟨some 79, Op.call { callee := Callee.value (Operand.func 56), args := #[Operand.tmp 76, Operand.tmp 78], argTypes := #[85, 3] }, 29, _, _, none⟩) rfl (fun K hK => ?_) AllReadyH.nil
       go_simp
       refine (KTR.out _ (by first | exact since_r _ | exact since_d (since_r _))).mono ?_
       rintro e v9 ⟨⟨fop, fn, fa2, fn2, fc2, fa3, fn3, fc3⟩, rfl, hT9, hM9, hB9⟩
       try simp only
       have hV9 : ∃ V, Since wr V ∧ But M V v9 ∧ FSr (fun k => V.heap.size ≤ k ∧ k < v9.heap.size) v9 (treeG zs cl e' ik lk).1 ⟨fop, fn, fa2, fn2, fc2, fa3, fn3, fc3⟩ := ⟨_, by first | exact since_r _ | exact since_d (since_r _), hB9.out, hT9.out⟩
       obtain ⟨V, hV1, hV2, hV3⟩ := hV9
       have hkid := OF.kid hOF.out hMN2 hSne hSge hV1 hV2 hV3 (.cells #[.int .i64 fop, .int .i64 fn, .slice fa2 fn2 fc2, .slice fa3 fn3 fc3] 29)
       have HO9 := Lib.hid hkid.1
       have HL9 := Lib.hid hkid.2
       have hb9 : But M W v9 := (HBr.out.trans (But.since hV1)).trans hV2
       have HX9 := Lib.hid ((But.box0 HXr.out hV1 hV2 hMN).under (.cells #[.int .i64 fop, .int .i64 fn, .slice fa2 fn2 fc2, .slice fa3 fn3 fc3] 29))
       have HBA := Lib.hid (hb9.trans (But.since (Since.alloc (since_r v9) (.cells #[.int .i64 fop, .int .i64 fn, .slice fa2 fn2 fc2, .slice fa3 fn3 fc3] 29))))
       have HMA := Lib.hid (hM9.out.box.under (.cells #[.int .i64 fop, .int .i64 fn, .slice fa2 fn2 fc2, .slice fa3 fn3 fc3] 29))
       have HCL := Lib.hid (one_cells RFo v9 ⟨fop, fn, fa2, fn2, fc2, fa3, fn3, fc3⟩ #[.int .i64 fop, .int .i64 fn, .slice fa2 fn2 fc2, .slice fa3 fn3 fc3] 29 rfl)
       have hzB : N2 ≤ (v9.alloc (.cells #[.int .i64 fop, .int .i64 fn, .slice fa2 fn2 fc2, .slice fa3 fn3 fc3] 29)).heap.size := by have := HO9.out.box.1; omega
       obtain ⟨t0, t1, t2, t3, -, -, -, ht3, -⟩ := (((hOF.out.frame hV1).but hMN2 hSne hV2).box).all4
       obtain ⟨s0, s1, s2, s3, -, -, -, hs3, -⟩ := HO9.out.box.all4
       clear hT9 hM9 hB9 hkid hb9 hV1 hV2 hV3
       try go_wp2_with fail
       refine hK.out _ _ ?_ (fun hHeld => ?_)
       ·trivial
       clear hK K
       try simp only [Act.put, List.setIfInBounds_toArray, List.set_cons_zero, List.set_cons_succ]
       refine wpAnyH_ready (rs := [6]) (by kernel_rfl) (by simp) ?_
       refine AllReadyH.cons (o := ⟨some 80, Op.buildSlice 23 1 #[(0, Operand.tmp 79)], 23, _, _, none⟩) rfl (fun K hK => ?_) AllReadyH.nil
       go_simp
       try go_wp2_with fail
       refine hK.out _ _ ?_ (fun hHeld => ?_)
       ·trivial
       clear hK K
       try simp only [Act.put, List.setIfInBounds_toArray, List.set_cons_zero, List.set_cons_succ]
       refine wpAnyH_ready (rs := [7]) (by kernel_rfl) (by simp) ?_
       refine AllReadyH.cons (o := ⟨some 81, Op.call { callee := Callee.builtin Builtin.append, args := #[Operand.tmp 75, Operand.tmp 80], argTypes := #[23, 23] }, 23, _, _, none⟩) rfl (fun K hK => ?_) AllReadyH.nil
       refine wp_row1_f (.tmp 75) (.tmp 80) 23 rfl RFo 29 64 _ Tryz.underlying23 Tryz.infoFo rfl (by decide) N2 (.slice a3 n3 c3) rs [⟨fop, fn, fa2, fn2, fc2, fa3, fn3, fc3⟩] v9.heap.size 1 1 rfl rfl rfl HCL.out HO9.out.ok hzB hlr ?_
       intro ak lk' ck wn hnn hOn hBn hPn
       obtain ⟨y0, y1, y2, y3, g0, g1, g2, g3, -⟩ := (HO9.out.thereK hPn.out).all4
       refine hK.out _ _ ?_ (fun hHeld => ?_)
       ·trivial
       clear hK K
       try simp only [Act.put, List.setIfInBounds_toArray, List.set_cons_zero, List.set_cons_succ]
       refine wpAnyH_take (i := 8) (oi := ⟨some 82, Op.fieldAddr 29 (Operand.tmp 6) 3, 0, _, _, none⟩) (v := ?_) rfl (by kernel_rfl) (by kernel_rfl) (by kernel_rfl) (fun _ _ _ h => h) (Or.inl ⟨by rfl, ?_⟩) (by assumption) ?_
       rotate_left 1
       ·(intro w hSw; (try dsimp only at hSw); go_simp; first | done | with_reducible rfl)
       try simp only [Act.put, List.setIfInBounds_toArray, List.set_cons_zero, List.set_cons_succ]
       refine wpAnyH_ready (rs := [9]) (by kernel_rfl) (by simp) ?_
       refine AllReadyH.cons (o := ⟨none, Op.store 23 (Operand.tmp 82) (Operand.tmp 81), 0, _, _, none⟩) rfl (fun K hK => ?_) AllReadyH.nil
       go_simp
       go_wp2_with fail
       refine hK.out _ _ ?_ (fun hHeld => ?_)
       ·trivial
       clear hK K
       try simp only [Act.put, List.setIfInBounds_toArray, List.set_cons_zero, List.set_cons_succ]
       refine wpAnyH_done (by kernel_rfl) ?_ _
       refine NoPanic.normal ?_
       have hO7 := HO9.out.setK hPn.out hOn.out HL9.out
       have hBN : Below N2 (v9.alloc (.cells #[.int .i64 fop, .int .i64 fn, .slice fa2 fn2 fc2, .slice fa3 fn3 fc3] 29)) (wn.setCell ⟨N2, 3, none⟩ (.slice ak lk' ck)) := hBn.out.setCell (p := ⟨N2, 3, none⟩) (Nat.le_refl _) _
       have HO7 : Hid (OF (fun k => N < k) N2 N2 (wn.setCell ⟨N2, 3, none⟩ (.slice ak lk' ck)) op 0 (.slice none 0 0) (.slice ak lk' ck) [] (rs ++ [⟨fop, fn, fa2, fn2, fc2, fa3, fn3, fc3⟩]) (kidsG (treeG zs cl e') (k + 1) (i + 2) (l - 1)).1) := Lib.hid (by rw [HSTEP.out]; exact hO7)
       have HM7 : Hid (BoxL M [.slice a zs.length c, .int .i64 (kidsG (treeG zs cl e') (k + 1) (i + 2) (l - 1)).2.1, .int .i64 cl, .int .i64 (kidsG (treeG zs cl e') (k + 1) (i + 2) (l - 1)).2.2] (wn.setCell ⟨N2, 3, none⟩ (.slice ak lk' ck))) := Lib.hid (by rw [HSTEP.out]; exact HMA.out.low hMN2 hBN)
       have HB7 := Lib.hid (HBA.out.below hBN (by have := HN.out; omega))
       have HX7 := Lib.hid (HX9.out.low (by omega : N < N2) hBN)
       go_wp2
       go_roundw
       case rel => exact ⟨k + 1, ak, lk', ck, _, by omega, by go_num, HO7, HM7, HB7, HX7⟩
       case measure => simp [intOf] <;> omega
      ·go_simp
       refine (KTR.out _ (by first | exact since_r _ | exact since_d (since_r _))).mono ?_
       rintro e v9 ⟨⟨fop, fn, fa2, fn2, fc2, fa3, fn3, fc3⟩, rfl, hT9, hM9, hB9⟩
       try simp only
       have hV9 : ∃ V, Since wr V ∧ But M V v9 ∧ FSr (fun k => V.heap.size ≤ k ∧ k < v9.heap.size) v9 (treeG zs cl e' ik lk).1 ⟨fop, fn, fa2, fn2, fc2, fa3, fn3, fc3⟩ := ⟨_, by first | exact since_r _ | exact since_d (since_r _), hB9.out, hT9.out⟩
       obtain ⟨V, hV1, hV2, hV3⟩ := hV9
       have hkid := OF.kid hOF.out hMN2 hSne hSge hV1 hV2 hV3 (.cells #[.int .i64 fop, .int .i64 fn, .slice fa2 fn2 fc2, .slice fa3 fn3 fc3] 29)
       have HO9 := Lib.hid hkid.1
       have HL9 := Lib.hid hkid.2
       have hb9 : But M W v9 := (HBr.out.trans (But.since hV1)).trans hV2
       have HX9 := Lib.hid ((But.box0 HXr.out hV1 hV2 hMN).under (.cells #[.int .i64 fop, .int .i64 fn, .slice fa2 fn2 fc2, .slice fa3 fn3 fc3] 29))
       have HBA := Lib.hid (hb9.trans (But.since (Since.alloc (since_r v9) (.cells #[.int .i64 fop, .int .i64 fn, .slice fa2 fn2 fc2, .slice fa3 fn3 fc3] 29))))
       have HMA := Lib.hid (hM9.out.box.under (.cells #[.int .i64 fop, .int .i64 fn, .slice fa2 fn2 fc2, .slice fa3 fn3 fc3] 29))
       have HCL := Lib.hid (one_cells RFo v9 ⟨fop, fn, fa2, fn2, fc2, fa3, fn3, fc3⟩ #[.int .i64 fop, .int .i64 fn, .slice fa2 fn2 fc2, .slice fa3 fn3 fc3] 29 rfl)
       have hzB : N2 ≤ (v9.alloc (.cells #[.int .i64 fop, .int .i64 fn, .slice fa2 fn2 fc2, .slice fa3 fn3 fc3] 29)).heap.size := by have := HO9.out.box.1; omega
       obtain ⟨t0, t1, t2, t3, -, -, -, ht3, -⟩ := (((hOF.out.frame hV1).but hMN2 hSne hV2).box).all4
       obtain ⟨s0, s1, s2, s3, -, -, -, hs3, -⟩ := HO9.out.box.all4
       clear hT9 hM9 hB9 hkid hb9 hV1 hV2 hV3
       try go_wp2_with fail
       refine hK.out _ _ ?_ (fun hHeld => ?_)
       ·trivial
       clear hK K
       try simp only [Act.put, List.setIfInBounds_toArray, List.set_cons_zero, List.set_cons_succ]
       refine wpAnyH_ready (rs := [1, 6]) (by kernel_rfl) (by simp) ?_
       refine AllReadyH.cons (o := ⟨some 75, Op.load 23 (Operand.tmp 74), 23, _, _, none⟩) rfl (fun K hK => ?_) (AllReadyH.cons (o := ⟨some 80, Op.buildSlice 23 1 #[(0, Operand.tmp 79)], 23, _, _, none⟩) rfl (fun K hK => ?_) AllReadyH.nil)
       ·go_simp
        try go_wp2_with fail
        refine hK.out _ _ ?_ (fun hHeld => ?_)
        ·trivial
        clear hK K
        try simp only [Act.put, List.setIfInBounds_toArray, List.set_cons_zero, List.set_cons_succ]
        refine wpAnyH_ready (rs := [6]) (by kernel_rfl) (by simp) ?_
        refine AllReadyH.cons (o := ⟨some 80, Op.buildSlice 23 1 #[(0, Operand.tmp 79)], 23, _, _, none⟩) rfl (fun K hK => ?_) AllReadyH.nil
        go_simp
        try go_wp2_with fail
        refine hK.out _ _ ?_ (fun hHeld => ?_)
        ·trivial
        clear hK K
        try simp only [Act.put, List.setIfInBounds_toArray, List.set_cons_zero, List.set_cons_succ]
        refine wpAnyH_ready (rs := [7]) (by kernel_rfl) (by simp) ?_
        refine AllReadyH.cons (o := ⟨some 81, Op.call { callee := Callee.builtin Builtin.append, args := #[Operand.tmp 75, Operand.tmp 80], argTypes := #[23, 23] }, 23, _, _, none⟩) rfl (fun K hK => ?_) AllReadyH.nil
        refine wp_row1_f (.tmp 75) (.tmp 80) 23 rfl RFo 29 64 _ Tryz.underlying23 Tryz.infoFo rfl (by decide) N2 (.slice a3 n3 c3) rs [⟨fop, fn, fa2, fn2, fc2, fa3, fn3, fc3⟩] v9.heap.size 1 1 rfl rfl rfl HCL.out HO9.out.ok hzB hlr ?_
        intro ak lk' ck wn hnn hOn hBn hPn
        obtain ⟨y0, y1, y2, y3, g0, g1, g2, g3, -⟩ := (HO9.out.thereK hPn.out).all4
        refine hK.out _ _ ?_ (fun hHeld => ?_)
        ·trivial
        clear hK K
        try simp only [Act.put, List.setIfInBounds_toArray, List.set_cons_zero, List.set_cons_succ]
        refine wpAnyH_take (i := 8) (oi := ⟨some 82, Op.fieldAddr 29 (Operand.tmp 6) 3, 0, _, _, none⟩) (v := ?_) rfl (by kernel_rfl) (by kernel_rfl) (by kernel_rfl) (fun _ _ _ h => h) (Or.inl ⟨by rfl, ?_⟩) (by assumption) ?_
        rotate_left 1
        ·(intro w hSw; (try dsimp only at hSw); go_simp; first | done | with_reducible rfl)
        try simp only [Act.put, List.setIfInBounds_toArray, List.set_cons_zero, List.set_cons_succ]
        refine wpAnyH_ready (rs := [9]) (by kernel_rfl) (by simp) ?_
        refine AllReadyH.cons (o := ⟨none, Op.store 23 (Operand.tmp 82) (Operand.tmp 81), 0, _, _, none⟩) rfl (fun K hK => ?_) AllReadyH.nil
        go_simp
        go_wp2_with fail
        refine hK.out _ _ ?_ (fun hHeld => ?_)
        ·trivial
        clear hK K
        try simp only [Act.put, List.setIfInBounds_toArray, List.set_cons_zero, List.set_cons_succ]
        refine wpAnyH_done (by kernel_rfl) ?_ _
        refine NoPanic.normal ?_
        have hO7 := HO9.out.setK hPn.out hOn.out HL9.out
        have hBN : Below N2 (v9.alloc (.cells #[.int .i64 fop, .int .i64 fn, .slice fa2 fn2 fc2, .slice fa3 fn3 fc3] 29)) (wn.setCell ⟨N2, 3, none⟩ (.slice ak lk' ck)) := hBn.out.setCell (p := ⟨N2, 3, none⟩) (Nat.le_refl _) _
        have HO7 : Hid (OF (fun k => N < k) N2 N2 (wn.setCell ⟨N2, 3, none⟩ (.slice ak lk' ck)) op 0 (.slice none 0 0) (.slice ak lk' ck) [] (rs ++ [⟨fop, fn, fa2, fn2, fc2, fa3, fn3, fc3⟩]) (kidsG (treeG zs cl e') (k + 1) (i + 2) (l - 1)).1) := Lib.hid (by rw [HSTEP.out]; exact hO7)
        have HM7 : Hid (BoxL M [.slice a zs.length c, .int .i64 (kidsG (treeG zs cl e') (k + 1) (i + 2) (l - 1)).2.1, .int .i64 cl, .int .i64 (kidsG (treeG zs cl e') (k + 1) (i + 2) (l - 1)).2.2] (wn.setCell ⟨N2, 3, none⟩ (.slice ak lk' ck))) := Lib.hid (by rw [HSTEP.out]; exact HMA.out.low hMN2 hBN)
        have HB7 := Lib.hid (HBA.out.below hBN (by have := HN.out; omega))
        have HX7 := Lib.hid (HX9.out.low (by omega : N < N2) hBN)
        go_wp2
        go_roundw
        case rel => exact ⟨k + 1, ak, lk', ck, _, by omega, by go_num, HO7, HM7, HB7, HX7⟩
        case measure => simp [intOf] <;> omega
       ·go_simp
        try go_wp2_with fail
        refine hK.out _ _ ?_ (fun hHeld => ?_)
        ·trivial
        clear hK K
        try simp only [Act.put, List.setIfInBounds_toArray, List.set_cons_zero, List.set_cons_succ]
        refine wpAnyH_ready (rs := [1]) (by kernel_rfl) (by simp) ?_
        refine AllReadyH.cons (o := ⟨some 75, Op.load 23 (Operand.tmp 74), 23, _, _, none⟩) rfl (fun K hK => ?_) AllReadyH.nil
        go_simp
        try go_wp2_with fail
        refine hK.out _ _ ?_ (fun hHeld => ?_)
        ·trivial
        clear hK K
        try simp only [Act.put, List.setIfInBounds_toArray, List.set_cons_zero, List.set_cons_succ]
        refine wpAnyH_ready (rs := [7]) (by kernel_rfl) (by simp) ?_
        refine AllReadyH.cons (o := ⟨some 81, Op.call { callee := Callee.builtin Builtin.append, args := #[Operand.tmp 75, Operand.tmp 80], argTypes := #[23, 23] }, 23, _, _, none⟩) rfl (fun K hK => ?_) AllReadyH.nil
        refine wp_row1_f (.tmp 75) (.tmp 80) 23 rfl RFo 29 64 _ Tryz.underlying23 Tryz.infoFo rfl (by decide) N2 (.slice a3 n3 c3) rs [⟨fop, fn, fa2, fn2, fc2, fa3, fn3, fc3⟩] v9.heap.size 1 1 rfl rfl rfl HCL.out HO9.out.ok hzB hlr ?_
        intro ak lk' ck wn hnn hOn hBn hPn
        obtain ⟨y0, y1, y2, y3, g0, g1, g2, g3, -⟩ := (HO9.out.thereK hPn.out).all4
        refine hK.out _ _ ?_ (fun hHeld => ?_)
        ·trivial
        clear hK K
        try simp only [Act.put, List.setIfInBounds_toArray, List.set_cons_zero, List.set_cons_succ]
        refine wpAnyH_take (i := 8) (oi := ⟨some 82, Op.fieldAddr 29 (Operand.tmp 6) 3, 0, _, _, none⟩) (v := ?_) rfl (by kernel_rfl) (by kernel_rfl) (by kernel_rfl) (fun _ _ _ h => h) (Or.inl ⟨by rfl, ?_⟩) (by assumption) ?_
        rotate_left 1
        ·(intro w hSw; (try dsimp only at hSw); go_simp; first | done | with_reducible rfl)
        try simp only [Act.put, List.setIfInBounds_toArray, List.set_cons_zero, List.set_cons_succ]
        refine wpAnyH_ready (rs := [9]) (by kernel_rfl) (by simp) ?_
        refine AllReadyH.cons (o := ⟨none, Op.store 23 (Operand.tmp 82) (Operand.tmp 81), 0, _, _, none⟩) rfl (fun K hK => ?_) AllReadyH.nil
        go_simp
        go_wp2_with fail
        refine hK.out _ _ ?_ (fun hHeld => ?_)
        ·trivial
        clear hK K
        try simp only [Act.put, List.setIfInBounds_toArray, List.set_cons_zero, List.set_cons_succ]
        refine wpAnyH_done (by kernel_rfl) ?_ _
        refine NoPanic.normal ?_
        have hO7 := HO9.out.setK hPn.out hOn.out HL9.out
        have hBN : Below N2 (v9.alloc (.cells #[.int .i64 fop, .int .i64 fn, .slice fa2 fn2 fc2, .slice fa3 fn3 fc3] 29)) (wn.setCell ⟨N2, 3, none⟩ (.slice ak lk' ck)) := hBn.out.setCell (p := ⟨N2, 3, none⟩) (Nat.le_refl _) _
        have HO7 : Hid (OF (fun k => N < k) N2 N2 (wn.setCell ⟨N2, 3, none⟩ (.slice ak lk' ck)) op 0 (.slice none 0 0) (.slice ak lk' ck) [] (rs ++ [⟨fop, fn, fa2, fn2, fc2, fa3, fn3, fc3⟩]) (kidsG (treeG zs cl e') (k + 1) (i + 2) (l - 1)).1) := Lib.hid (by rw [HSTEP.out]; exact hO7)
        have HM7 : Hid (BoxL M [.slice a zs.length c, .int .i64 (kidsG (treeG zs cl e') (k + 1) (i + 2) (l - 1)).2.1, .int .i64 cl, .int .i64 (kidsG (treeG zs cl e') (k + 1) (i + 2) (l - 1)).2.2] (wn.setCell ⟨N2, 3, none⟩ (.slice ak lk' ck))) := Lib.hid (by rw [HSTEP.out]; exact HMA.out.low hMN2 hBN)
        have HB7 := Lib.hid (HBA.out.below hBN (by have := HN.out; omega))
        have HX7 := Lib.hid (HX9.out.low (by omega : N < N2) hBN)
        go_wp2
        go_roundw
        case rel => exact ⟨k + 1, ak, lk', ck, _, by omega, by go_num, HO7, HM7, HB7, HX7⟩
        case measure => simp [intOf] <;> omega
     ·have j1 : ¬ (k : Int) < n := by omega
      have hkn : k = n := by omega
      subst hkn
      obtain ⟨x0, x1, x2, x3, f0, f1, f2, f3, hlt⟩ := hOF.out.box.all4
      obtain ⟨z0, z1, z2, z3, e0, e1, e2, e3, -⟩ := HXr.out.all4
      have hdn := hOF.out.done (fun k h => by omega)
      have hfin := gen_end HN.out hMN HE.out (Mk.re HE.out HFAR.out HBr.out HMr.out) HBr.out ⟨op, 0, none, 0, 0, a3, n3, c3⟩ ⟨rfl, rfl, hdn⟩ _ _ rfl rfl
      have HF := Lib.hid hfin
      unfold put4 at HF
      clear hfin hdn hOF HMr HBr HXr HKO HKE HDI HD2 k1 k6 k7 k8 k9 k10
      generalize (kidsG (treeG zs cl e') k (i + 2) (l - 1)).1 = kf1 at *
      generalize (kidsG (treeG zs cl e') k (i + 2) (l - 1)).2 = kf2 at *
      go_wp2
      exact bodyPost_ret (v := .agg #[.int .i64 op, .int .i64 0, .slice none 0 0, .slice a3 n3 c3]) (by simp [results, Tryz.results56, go_sem, z0, z1, z2, z3]) rfl HF.out
end Go.Proofs.YtgnloodmbgdgdaaGreat
