import Derived.Test.YtgnloodmbgdgdaaGreatFB39
namespace Go.Proofs.YtgnloodmbgdgdaaGreat
open Go.RowKit Go.Shelf
theorem fsl_since {V V' : World} {v : Value} {ks : List Fo} (h : FSl (fun k => k < V.heap.size) V v ks) (hs : Since V V') : FSl (fun k => k < V'.heap.size) V' v ks := by
 obtain ⟨rs, h1, h2, h3, h4⟩ := FSl.rows h
 refine FSl.of (h1.below hs) (h2.mono fun b hb => Nat.lt_of_lt_of_le hb hs.size) h3 fun j r t hr ht => ?_
 obtain ⟨r', hr', hF⟩ := h4 j t ht
 rw [hr] at hr'
 cases hr'
 exact (show AtF V t r from hF).since hs
def RBo : RowOf Bool where
 cells b := [.bool b]
 k := 1
 len _ := rfl
 one x v h := by simp at h; subst h; rfl
 pos := by decide
def boolL (a b : Fo) : List Fo := [a, b, notF a, .mk 4 0 [] [a, b], .mk 5 0 [] [a, b], .mk 3 0 [] [.mk 5 0 [] [a, b]], .mk 5 0 [] [.mk 3 0 [] [a], .mk 3 0 [] [b]]]
def boolH (x y z : Bool) : List Bool := [x, y, !x, x && y, x || y, z, z]
theorem bool_at {P : List (List Int)} {a b : Fo} {t : Th} {q : Int} (hq : q = P.length) (ga : a.good = true) (gb : b.good = true) (ca : a.cls q = true) (cb : b.cls q = true) (wa : a.wf) (wb : b.wf) (da : a.deep ≤ 5) (db : b.deep ≤ 5) (sa : a.size ≤ 30) (sb : b.size ≤ 30) (ht : validT t = 0) (htc : t.cls P.length = true)
  {j : Nat} {f : Fo} (hf : (boolL a b)[j]? = some f) : f.size ≤ 100000 ∧ f.wf ∧ ∃ h, (boolH (a.hold P t) (b.hold P t) (t.ps.any fun p => a.hold P p || b.hold P p))[j]? = some h ∧ holdsR P f t = (h, 0) := by
 subst hq
 have pa : Fo.deep (.mk 3 0 [] [a]) ≤ 6 := by simp only [Fo.deep, Fo.deeps]; omega
 have gg : ∀ (op : Int) (ks : List Fo), (op = 4 ∨ op = 5) → Fo.goods ks = true → (Fo.mk op 0 [] ks).good = true := fun op ks ho hk => by
  rw [Fo.good, hk, Bool.and_true]
  rcases ho with rfl | rfl <;> simp [properB]
 have g1 : ∀ (op : Int) (k : Fo), (op = 3 ∨ op = 6) → k.good = true → (Fo.mk op 0 [] [k]).good = true := fun op k ho hk => by
  rw [Fo.good, Fo.goods, Fo.goods, hk]
  rcases ho with rfl | rfl <;> simp [properB]
 have gab : Fo.goods [a, b] = true := by rw [Fo.goods, Fo.goods, Fo.goods, ga, gb]; rfl
 have key : ∀ (f : Fo) (h : Bool), f.good = true → f.cls P.length = true → f.wf → f.size ≤ 96 → f.deep ≤ 8 → f.hold P t = h → f.size ≤ 100000 ∧ f.wf ∧ holdsR P f t = (h, 0) := fun f h k1 k2 k3 k4 k5 k6 => ⟨by omega, k3, by rw [holdsR_ok (vF k4 k5 k1) ht k2 htc, k6]⟩
 have fin : ∀ {f : Fo} {h : Bool} {j : Nat} {l : List Bool}, l[j]? = some h → (f.size ≤ 100000 ∧ f.wf ∧ holdsR P f t = (h, 0)) → f.size ≤ 100000 ∧ f.wf ∧ ∃ h, l[j]? = some h ∧ holdsR P f t = (h, 0) := fun e k => ⟨k.1, k.2.1, _, e, k.2.2⟩
 match j with
 | 0 => cases hf; exact fin rfl (key _ _ ga ca wa (by omega) (by omega) rfl)
 | 1 => cases hf; exact fin rfl (key _ _ gb cb wb (by omega) (by omega) rfl)
 | 2 =>
  cases hf
  exact fin rfl (key _ _ (g1 6 a (.inr rfl) ga) (by simp [notF, Fo.cls, Fo.clss, ca]) (by simp [notF, Fo.wf, Fo.wfs, wa]) (by simp only [notF, Fo.size, Fo.sizes]; omega) (by simp only [notF, Fo.deep, Fo.deeps]; omega) (by rw [notF, hold_not]))
 | 3 =>
  cases hf
  exact fin rfl (key _ _ (gg 4 _ (.inl rfl) gab) (by simp [Fo.cls, Fo.clss, ca, cb]) (by simp [Fo.wf, Fo.wfs, wa, wb]) (by simp only [Fo.size, Fo.sizes]; omega) (by simp only [Fo.deep, Fo.deeps]; omega) (by rw [hold_and]; simp))
 | 4 =>
  cases hf
  exact fin rfl (key _ _ (gg 5 _ (.inr rfl) gab) (by simp [Fo.cls, Fo.clss, ca, cb]) (by simp [Fo.wf, Fo.wfs, wa, wb]) (by simp only [Fo.size, Fo.sizes]; omega) (by simp only [Fo.deep, Fo.deeps]; omega) (by rw [hold_or]; simp))
 | 5 =>
  cases hf
  exact fin rfl (key _ _ (g1 3 _ (.inl rfl) (gg 5 _ (.inr rfl) gab)) (by simp [Fo.cls, Fo.clss, ca, cb]) (by simp [Fo.wf, Fo.wfs, wa, wb]) (by simp only [Fo.size, Fo.sizes]; omega) (by simp only [Fo.deep, Fo.deeps]; omega) (by
   rw [hold_part]
   congr 1
   funext p
   rw [hold_or]; simp))
 | 6 =>
  cases hf
  have g2 : Fo.goods [.mk 3 0 [] [a], .mk 3 0 [] [b]] = true := by rw [Fo.goods, Fo.goods, Fo.goods, g1 3 a (.inl rfl) ga, g1 3 b (.inl rfl) gb]; rfl
  exact fin rfl (key _ _ (gg 5 _ (.inr rfl) g2) (by simp [Fo.cls, Fo.clss, ca, cb]) (by simp [Fo.wf, Fo.wfs, wa, wb]) (by simp only [Fo.size, Fo.sizes]; omega) (by simp only [Fo.deep, Fo.deeps]; omega) (by
   rw [hold_or, List.any_cons, List.any_cons, List.any_nil, hold_part, hold_part, Bool.or_false]
   induction t.ps with
   | nil => rfl
   | cons p ps ih =>
    rw [List.any_cons, List.any_cons, List.any_cons, ← ih]
    cases a.hold P p <;> cases b.hold P p <;> simp))
 | j + 7 => simp [boolL] at hf
set_option maxHeartbeats 16000000 in
set_option maxRecDepth 100000 in
theorem law_bool7 (a0 : Option Addr) (len0 cap0 : Nat) (z0 : List Int) (a1 : Option Addr) (len1 cap1 : Nat) (z1 : List Int) (a2 : Option Addr) (len2 cap2 : Nat) (z2 : List Int) (a3 : Option Addr) (len3 cap3 : Nat) (z3 : List Int) (w : World) (w0 : Came .i64 w a0 len0 cap0 z0) (w1 : Came .i64 w a1 len1 cap1 z1) (w2 : Came .i64 w a2 len2 cap2 z2) (w3 : Came .i64 w a3 len3 cap3 z3) :
  Calls Tryz.prog 8 #[.slice a0 len0 cap0, .slice a1 len1 cap1, .slice a2 len2 cap2, .slice a3 len3 cap3] w fun e w' => e = .returned (.bool true) ∧ Below w.heap.size w w' := by
 have HW0 : Hid (Wfs (z0.take len0)) := Lib.hid fun z hz => w0.wf z (List.mem_of_mem_take hz)
 have HW1 : Hid (Wfs (z1.take len1)) := Lib.hid fun z hz => w1.wf z (List.mem_of_mem_take hz)
 have HW2 : Hid (Wfs (z2.take len2)) := Lib.hid fun z hz => w2.wf z (List.mem_of_mem_take hz)
 have HE0 := Lib.hid w0.els
 have HE1 := Lib.hid w1.els
 have HE2 := Lib.hid w2.els
 have KW := Lib.hid (world_any _ _ w w3.els fun z hz => w3.wf z (List.mem_of_mem_take hz))
 have KL := Lib.hid fun W => lives07_any W
 have HIB : Hid ((Tryz.prog.info? 4).map (fun i => (i.zero, i.size, i.bytes)) = some (some (.bool false), 1, 1)) := Lib.hid (by kernel_rfl)
 clear w0 w1 w2 w3
 generalize z0.take len0 = zs0 at *
 generalize z1.take len1 = zs1 at *
 generalize z2.take len2 = zs2 at *
 go_enter Tryz.func8, Tryz.ntmps8
 go_wp2_with fail
 refine KW.out.mono ?_
 rintro e w3 ⟨N, P, ap, np, cp, rfl, hG, hnp, hTx, hLE, hB⟩
 have hn1 := hG.pos
 have hn2 := hG.le
 have HNP : Hid ((np : Int) = (P.length : Int)) := Lib.hid (by rw [hnp.out])
 have hq1 : 1 ≤ np := by rw [hnp.out]; exact hn1
 have hq2 : np ≤ 6 := by rw [hnp.out]; exact hn2
 have HS3 := Lib.hid (show Since w w3 from hB.out)
 have HTX := Lib.hid hTx.out
 have hgen : ∀ zs : List Int, (someG zs (np : Int) 12 5).good = true ∧ (someG zs (np : Int) 12 5).cls (np : Int) = true ∧ (someG zs (np : Int) 12 5).wf ∧ (someG zs (np : Int) 12 5).deep ≤ 5 ∧ (someG zs (np : Int) 12 5).size ≤ 24 := fun zs => by
  obtain ⟨g1, g2, g3, g4, -, g6⟩ := someG_ok zs (np : Int) (by omega) (by omega) 12 5 (by decide)
  exact ⟨g1, g2, g3, g4, by omega⟩
 have KF := Lib.hid (someF_any zs0 HW0.out (np : Int) (by omega) (by omega) 12 (by decide) (by decide) 5 (by decide) _ w3 (HE0.out.below hB.out))
 have KG := Lib.hid fun W (h : Since w W) => someF_any zs1 HW1.out (np : Int) (by omega) (by omega) 12 (by decide) (by decide) 5 (by decide) _ W (HE1.out.below h)
 have HGA := Lib.hid (hgen zs0)
 have HGB := Lib.hid (hgen zs1)
 generalize someG zs0 (np : Int) 12 5 = fa at *
 generalize someG zs1 (np : Int) 12 5 = fb at *
 clear hnp hB hG KW hLE hTx hn1 hn2 hgen
 go_wp2_with fail
 refine KF.out.mono ?_
 rintro e w4 hq
 obtain ⟨⟨o4, n4, p4, m4, c4, q4, l4, d4⟩, rfl, hF4, hB⟩ := AtOut.of hq
 clear hq KF
 have HS4 := Lib.hid (Since.step HS3.out hB.out)
 replace HTX := Lib.hid (HTX.out.below hB.out)
 clear hB
 obtain ⟨w5, hw5⟩ : ∃ v, v = World.alloc w4 (.cells #[.int .i64 o4, .int .i64 n4, .slice p4 m4 c4, .slice q4 l4 d4] 29) := ⟨_, rfl⟩
 have hs5 : Since w4 w5 := by rw [hw5]; exact Since.alloc (since_r _) _
 have hb5 : BoxL w4.heap.size [.int .i64 o4, .int .i64 n4, .slice p4 m4 c4, .slice q4 l4 d4] w5 := by rw [hw5]; exact BoxL.made w4 _ _
 have HS5 := Lib.hid (Since.step HS4.out hs5)
 replace hF4 := Lib.hid (hF4.out.since hs5)
 replace HTX := Lib.hid (HTX.out.below hs5)
 have HX5 := Lib.hid hb5
 clear hb5 hs5
 go_upto_region 5 with (fail)
 rw [← hw5]
 clear hw5
 generalize w4.heap.size = M5 at *
 have KF := Lib.hid (KG.out w5 HS5.out)
 go_wp2_with fail
 refine KF.out.mono ?_
 rintro e w6 hq
 obtain ⟨⟨o6, n6, p6, m6, c6, q6, l6, d6⟩, rfl, hF6, hB⟩ := AtOut.of hq
 clear hq KF KG
 have HS6 := Lib.hid (Since.step HS5.out hB.out)
 replace hF4 := Lib.hid (hF4.out.since hB.out)
 replace HX5 := Lib.hid (HX5.out.keep hB.out)
 replace HTX := Lib.hid (HTX.out.below hB.out)
 clear hB
 obtain ⟨w7, hw7⟩ : ∃ v, v = World.alloc w6 (.cells #[.int .i64 o6, .int .i64 n6, .slice p6 m6 c6, .slice q6 l6 d6] 29) := ⟨_, rfl⟩
 have hs7 : Since w6 w7 := by rw [hw7]; exact Since.alloc (since_r _) _
 have hb7 : BoxL w6.heap.size [.int .i64 o6, .int .i64 n6, .slice p6 m6 c6, .slice q6 l6 d6] w7 := by rw [hw7]; exact BoxL.made w6 _ _
 have HS7 := Lib.hid (Since.step HS6.out hs7)
 replace hF4 := Lib.hid (hF4.out.since hs7)
 replace hF6 := Lib.hid (hF6.out.since hs7)
 replace HX5 := Lib.hid (HX5.out.keep hs7)
 replace HTX := Lib.hid (HTX.out.below hs7)
 have HX7 := Lib.hid hb7
 clear hb7 hs7
 go_upto_region 6 with (fail)
 rw [← hw7]
 clear hw7
 generalize w6.heap.size = M7 at *
 obtain ⟨x5_0, x5_1, x5_2, x5_3, -⟩ := HX5.out.open4
 obtain ⟨x7_0, x7_1, x7_2, x7_3, -⟩ := HX7.out.open4
 obtain ⟨w8, hw8⟩ : ∃ v, v = World.alloc w7 (.cells #[.int .i64 o4, .int .i64 n4, .slice p4 m4 c4, .slice q4 l4 d4, .int .i64 o6, .int .i64 n6, .slice p6 m6 c6, .slice q6 l6 d6] 29) := ⟨_, rfl⟩
 have hR8 := row_at (W := w7) [⟨o4, n4, p4, m4, c4, q4, l4, d4⟩, ⟨o6, n6, p6, m6, c6, q6, l6, d6⟩] [fa, fb] #[.int .i64 o4, .int .i64 n4, .slice p4 m4 c4, .slice q4 l4 d4, .int .i64 o6, .int .i64 n6, .slice p6 m6 c6, .slice q6 l6 d6] 29 rfl rfl (by simp) (fun j r t hr ht => by
  match j with
  | 0 => cases hr; cases ht; exact hF4.out
  | 1 => cases hr; cases ht; exact hF6.out
  | j + 2 => simp at hr)
 rw [← hw8] at hR8
 simp only [List.length_cons, List.length_nil, Nat.zero_add, Nat.reduceAdd] at hR8
 have hs8 : Since w7 w8 := by rw [hw8]; exact Since.alloc (since_r _) _
 have HS8 := Lib.hid (Since.step HS7.out hs8)
 replace hF4 := Lib.hid (hF4.out.since hs8)
 replace hF6 := Lib.hid (hF6.out.since hs8)
 replace HX5 := Lib.hid (HX5.out.keep hs8)
 replace HX7 := Lib.hid (HX7.out.keep hs8)
 replace HTX := Lib.hid (HTX.out.below hs8)
 have HR8 := Lib.hid hR8
 clear hR8 hs8
 go_upto_region 7 with (fail)
 rw [← hw8]
 clear hw8
 generalize w7.heap.size = G8 at *
 clear x5_0 x5_1 x5_2 x5_3
 clear x7_0 x7_1 x7_2 x7_3
 have KT := Lib.hid (Some_anyT zs2 4 np _ w8 (by decide) (HE2.out.below HS8.out) HW2.out (by omega))
 go_wp2_with fail
 refine KT.out.mono ?_
 rintro e w9 ⟨t, ⟨b1, k1, j1, b2, k2, j2, b3, k3, j3⟩, rfl, hT, hP, hB⟩
 have HTT := Lib.hid (thing_at hT.out)
 have HTAB := Lib.hid fun (j : Nat) (f : Fo) (hf : (boolL fa fb)[j]? = some f) => bool_at (t := t) HNP.out HGA.out.1 HGB.out.1 HGA.out.2.1 HGB.out.2.1 HGA.out.2.2.1 HGB.out.2.2.1 HGA.out.2.2.2.1 HGB.out.2.2.2.1 (by have := HGA.out.2.2.2.2; omega) (by have := HGB.out.2.2.2.2; omega) (validT_of hP.out.2.2 (by decide)) (by rw [← HNP.out]; exact hP.out.2.2.cls) hf
 have HT1 : Hid (t.size ≤ 1000000 ∧ t.wf) := Lib.hid ⟨by have := hP.out.2.2.size; have : sn 4 = 40 := rfl; omega, hP.out.1⟩
 clear KT hT hP
 have HS9 := Lib.hid (Since.step HS8.out hB.out)
 replace hF4 := Lib.hid (hF4.out.since hB.out)
 replace hF6 := Lib.hid (hF6.out.since hB.out)
 replace HX5 := Lib.hid (HX5.out.keep hB.out)
 replace HX7 := Lib.hid (HX7.out.keep hB.out)
 replace HTX := Lib.hid (HTX.out.below hB.out)
 replace HR8 := Lib.hid (fsl_since HR8.out hB.out)
 clear hB
 obtain ⟨w10, hw10⟩ : ∃ v, v = World.alloc w9 (.cells #[.slice b1 k1 j1, .slice b2 k2 j2, .slice b3 k3 j3] 41) := ⟨_, rfl⟩
 have hs10 : Since w9 w10 := by rw [hw10]; exact Since.alloc (since_r _) _
 have hb10 : BoxL w9.heap.size [.slice b1 k1 j1, .slice b2 k2 j2, .slice b3 k3 j3] w10 := by rw [hw10]; exact BoxL.made w9 _ _
 have HS10 := Lib.hid (Since.step HS9.out hs10)
 replace hF4 := Lib.hid (hF4.out.since hs10)
 replace hF6 := Lib.hid (hF6.out.since hs10)
 replace HX5 := Lib.hid (HX5.out.keep hs10)
 replace HX7 := Lib.hid (HX7.out.keep hs10)
 replace HTX := Lib.hid (HTX.out.below hs10)
 replace HTT := Lib.hid (HTT.out.below hs10)
 replace HR8 := Lib.hid (fsl_since HR8.out hs10)
 have HX10 := Lib.hid hb10
 clear hb10 hs10
 go_upto_region 8 with (fail)
 rw [← hw10]
 clear hw10
 generalize w9.heap.size = M10 at *
 go_cut [15] (fun s wx => ∃ g, s = .slice (some ⟨g, 0, none⟩) 2 2 ∧ Hid (FSl (fun k => k < wx.heap.size) wx (.slice (some ⟨g, 0, none⟩) 2 2) [.mk 3 0 [] [fa], .mk 3 0 [] [fb]]) ∧ Hid (Since w10 wx))
 case first =>
  obtain ⟨x5_0, x5_1, x5_2, x5_3, -⟩ := HX5.out.open4
  obtain ⟨x7_0, x7_1, x7_2, x7_3, -⟩ := HX7.out.open4
  have hd10 : Since w10 w10.drew := since_d (since_r _)
  have hsw10 : Since w10 w10 := since_r _
  refine wp_region_noPanic ?_
  refine wp_region_held_drew (S := fun w' => w'.cell? ⟨M5, 0, none⟩ = some (.int .i64 o4) ∧ w'.cell? ⟨M5, 1, none⟩ = some (.int .i64 n4) ∧ w'.cell? ⟨M5, 2, none⟩ = some (.slice p4 m4 c4) ∧ w'.cell? ⟨M5, 3, none⟩ = some (.slice q4 l4 d4) ∧ w'.cell? ⟨M7, 0, none⟩ = some (.int .i64 o6) ∧ w'.cell? ⟨M7, 1, none⟩ = some (.int .i64 n6) ∧ w'.cell? ⟨M7, 2, none⟩ = some (.slice p6 m6 c6) ∧ w'.cell? ⟨M7, 3, none⟩ = some (.slice q6 l6 d6)) (by kernel_rfl) ⟨hd10.cell x5_0, hd10.cell x5_1, hd10.cell x5_2, hd10.cell x5_3, hd10.cell x7_0, hd10.cell x7_1, hd10.cell x7_2, hd10.cell x7_3⟩ (fun hHeld => ?_)
  refine wpAnyH_take (i := 0) (oi := ⟨some 43, Op.load 29 (Operand.tmp 11), 29, _, _, none⟩) (v := ?_) rfl (by kernel_rfl) (by kernel_rfl) (by kernel_rfl) (fun _ _ _ h => h) (Or.inl ⟨by rfl, ?_⟩) (by assumption) ?_
  rotate_left 1
  ·(intro w hSw; (try dsimp only at hSw); go_simp; first | done | with_reducible rfl)
  try simp only [Act.put, List.setIfInBounds_toArray, List.set_cons_zero, List.set_cons_succ]
  refine wpAnyH_take (i := 3) (oi := ⟨some 46, Op.load 29 (Operand.tmp 12), 29, _, _, none⟩) (v := ?_) rfl (by kernel_rfl) (by kernel_rfl) (by kernel_rfl) (fun _ _ _ h => h) (Or.inl ⟨by rfl, ?_⟩) (by assumption) ?_
  rotate_left 1
  ·(intro w hSw; (try dsimp only at hSw); go_simp; first | done | with_reducible rfl)
  try simp only [Act.put, List.setIfInBounds_toArray, List.set_cons_zero, List.set_cons_succ]
  refine wpAnyH_ready (rs := [1, 4]) (by kernel_rfl) (by simp) ?_
  refine AllReadyH.cons (o := ⟨some 44, Op.buildSlice 23 1 #[(0, Operand.tmp 43)], 23, _, _, none⟩) rfl (fun K hK => ?_) (AllReadyH.cons (o := ⟨some 47, Op.buildSlice 23 1 #[(0, Operand.tmp 46)], 23, _, _, none⟩) rfl (fun K hK => ?_) AllReadyH.nil)
  ·go_simp
   try go_wp2_with fail
   have hAt : AtF w10 fa ⟨o4, n4, p4, m4, c4, q4, l4, d4⟩ := hF4.out.since hsw10
   obtain ⟨z, hz⟩ : ∃ v, v = World.alloc w10 (.cells #[.int .i64 o4, .int .i64 n4, .slice p4 m4 c4, .slice q4 l4 d4] 29) := ⟨_, rfl⟩
   obtain ⟨u, hu⟩ : ∃ v, v = World.alloc (World.drew w10) (.cells #[.int .i64 o4, .int .i64 n4, .slice p4 m4 c4, .slice q4 l4 d4] 29) := ⟨_, rfl⟩
   have hz1 := row_at (W := w10) [⟨o4, n4, p4, m4, c4, q4, l4, d4⟩] [fa] #[.int .i64 o4, .int .i64 n4, .slice p4 m4 c4, .slice q4 l4 d4] 29 rfl rfl (by simp) (fun j r t hr ht => by
    match j with
    | 0 => cases hr; cases ht; exact (hAt).since (by first | exact since_r _ | exact since_d (since_r _))
    | j + 1 => simp at hr)
   rw [← hz] at hz1
   have hu1 := row_at (W := (World.drew w10)) [⟨o4, n4, p4, m4, c4, q4, l4, d4⟩] [fa] #[.int .i64 o4, .int .i64 n4, .slice p4 m4 c4, .slice q4 l4 d4] 29 rfl rfl (by simp) (fun j r t hr ht => by
    match j with
    | 0 => cases hr; cases ht; exact (hAt).since (by first | exact since_r _ | exact since_d (since_r _))
    | j + 1 => simp at hr)
   rw [← hu] at hu1
   have hz2 : Since w10 z := by rw [hz]; exact Since.alloc (since_r _) _
   have hu2 : Since w10 u := by rw [hu]; exact Since.alloc (since_d (since_r _)) _
   first | (rw [← hz]; clear hu hu1 hu2 u; have hq1 := hz1; have hq2 := hz2; clear hz1 hz2 hz; generalize z = v31 at *) | (rw [← hu]; clear hz hz1 hz2 z; have hq1 := hu1; have hq2 := hu2; clear hu1 hu2 hu; generalize u = v31 at *)
   have hsv31 : Since w10 v31 := Since.step hsw10 hq2
   have hstw10v31 := hq2
   have hq4 := hq2
   clear hq2
   have hRAv31 := hq1
   clear hq1 hAt
   simp only [List.length_cons, List.length_nil, Nat.zero_add] at hRAv31
   refine hK.out _ _ ?_ (fun hHeld => ?_)
   ·exact ⟨hsv31.cell x5_0, hsv31.cell x5_1, hsv31.cell x5_2, hsv31.cell x5_3, hsv31.cell x7_0, hsv31.cell x7_1, hsv31.cell x7_2, hsv31.cell x7_3⟩
   clear hK K
   try simp only [Act.put, List.setIfInBounds_toArray, List.set_cons_zero, List.set_cons_succ]
   refine wpAnyH_ready (rs := [2, 4]) (by kernel_rfl) (by simp) ?_
   refine AllReadyH.cons (o := ⟨some 45, Op.call { callee := Callee.value (Operand.func 40), args := #[Operand.const (Value.int IntKind.i64 3), Operand.tmp 44], argTypes := #[3, 23] }, 29, _, _, none⟩) rfl (fun K hK => ?_) (AllReadyH.cons (o := ⟨some 47, Op.buildSlice 23 1 #[(0, Operand.tmp 46)], 23, _, _, none⟩) rfl (fun K hK => ?_) AllReadyH.nil)
   ·go_simp
    have hRl := fsl_since hRAv31 (show Since v31 v31 from since_r _)
    go_at_call 40
    refine (of_at 3 _ 1 1 [fa] _ (fsl_since hRl (by first | exact since_r _ | exact since_d (since_r _)))).mono ?_
    rintro e v32 ⟨⟨o32, n32, p32, m32, c32, q32, l32, d32⟩, rfl, hF32, hB32⟩
    clear hRl
    have hp32 : Since v31 v32 := (by first | exact hB32.out | exact Since.step (since_d (since_r _)) hB32.out)
    have hsv32 : Since w10 v32 := Since.step hsv31 hp32
    try go_wp2_with fail
    refine hK.out _ _ ?_ (fun hHeld => ?_)
    ·exact ⟨hsv32.cell x5_0, hsv32.cell x5_1, hsv32.cell x5_2, hsv32.cell x5_3, hsv32.cell x7_0, hsv32.cell x7_1, hsv32.cell x7_2, hsv32.cell x7_3⟩
    clear hK K
    try simp only [Act.put, List.setIfInBounds_toArray, List.set_cons_zero, List.set_cons_succ]
    refine wpAnyH_ready (rs := [4]) (by kernel_rfl) (by simp) ?_
    refine AllReadyH.cons (o := ⟨some 47, Op.buildSlice 23 1 #[(0, Operand.tmp 46)], 23, _, _, none⟩) rfl (fun K hK => ?_) AllReadyH.nil
    go_simp
    have hq4_ := since_r v32
    try go_wp2_with fail
    have hAt : AtF v32 fb ⟨o6, n6, p6, m6, c6, q6, l6, d6⟩ := hF6.out.since hsv32
    obtain ⟨z, hz⟩ : ∃ v, v = World.alloc v32 (.cells #[.int .i64 o6, .int .i64 n6, .slice p6 m6 c6, .slice q6 l6 d6] 29) := ⟨_, rfl⟩
    obtain ⟨u, hu⟩ : ∃ v, v = World.alloc (World.drew v32) (.cells #[.int .i64 o6, .int .i64 n6, .slice p6 m6 c6, .slice q6 l6 d6] 29) := ⟨_, rfl⟩
    have hz1 := row_at (W := v32) [⟨o6, n6, p6, m6, c6, q6, l6, d6⟩] [fb] #[.int .i64 o6, .int .i64 n6, .slice p6 m6 c6, .slice q6 l6 d6] 29 rfl rfl (by simp) (fun j r t hr ht => by
     match j with
     | 0 => cases hr; cases ht; exact (hAt).since (by first | exact since_r _ | exact since_d (since_r _))
     | j + 1 => simp at hr)
    rw [← hz] at hz1
    have hu1 := row_at (W := (World.drew v32)) [⟨o6, n6, p6, m6, c6, q6, l6, d6⟩] [fb] #[.int .i64 o6, .int .i64 n6, .slice p6 m6 c6, .slice q6 l6 d6] 29 rfl rfl (by simp) (fun j r t hr ht => by
     match j with
     | 0 => cases hr; cases ht; exact (hAt).since (by first | exact since_r _ | exact since_d (since_r _))
     | j + 1 => simp at hr)
    rw [← hu] at hu1
    have hz2 : Since v32 z := by rw [hz]; exact Since.alloc (since_r _) _
    have hu2 : Since v32 u := by rw [hu]; exact Since.alloc (since_d (since_r _)) _
    first | (rw [← hz]; clear hu hu1 hu2 u; have hq1 := hz1; have hq2 := hz2; clear hz1 hz2 hz; generalize z = v33 at *) | (rw [← hu]; clear hz hz1 hz2 z; have hq1 := hu1; have hq2 := hu2; clear hu1 hu2 hu; generalize u = v33 at *)
    have hsv33 : Since w10 v33 := Since.step hsv32 hq2
    have hstv32v33 := hq2
    have hq4 := hq2
    clear hq2
    have hRBv33 := hq1
    clear hq1 hAt
    simp only [List.length_cons, List.length_nil, Nat.zero_add] at hRBv33
    refine hK.out _ _ ?_ (fun hHeld => ?_)
    ·exact ⟨hsv33.cell x5_0, hsv33.cell x5_1, hsv33.cell x5_2, hsv33.cell x5_3, hsv33.cell x7_0, hsv33.cell x7_1, hsv33.cell x7_2, hsv33.cell x7_3⟩
    clear hK K
    try simp only [Act.put, List.setIfInBounds_toArray, List.set_cons_zero, List.set_cons_succ]
    refine wpAnyH_ready (rs := [5]) (by kernel_rfl) (by simp) ?_
    refine AllReadyH.cons (o := ⟨some 48, Op.call { callee := Callee.value (Operand.func 40), args := #[Operand.const (Value.int IntKind.i64 3), Operand.tmp 47], argTypes := #[3, 23] }, 29, _, _, none⟩) rfl (fun K hK => ?_) AllReadyH.nil
    go_simp
    have hRl := fsl_since hRBv33 (show Since v33 v33 from since_r _)
    go_at_call 40
    refine (of_at 3 _ 1 1 [fb] _ (fsl_since hRl (by first | exact since_r _ | exact since_d (since_r _)))).mono ?_
    rintro e v34 ⟨⟨o34, n34, p34, m34, c34, q34, l34, d34⟩, rfl, hF34, hB34⟩
    clear hRl
    have hp34 : Since v33 v34 := (by first | exact hB34.out | exact Since.step (since_d (since_r _)) hB34.out)
    have hsv34 : Since w10 v34 := Since.step hsv33 hp34
    try go_wp2_with fail
    refine hK.out _ _ ?_ (fun hHeld => ?_)
    ·exact ⟨hsv34.cell x5_0, hsv34.cell x5_1, hsv34.cell x5_2, hsv34.cell x5_3, hsv34.cell x7_0, hsv34.cell x7_1, hsv34.cell x7_2, hsv34.cell x7_3⟩
    clear hK K
    try simp only [Act.put, List.setIfInBounds_toArray, List.set_cons_zero, List.set_cons_succ]
    refine wpAnyH_ready (rs := [6]) (by kernel_rfl) (by simp) ?_
    refine AllReadyH.cons (o := ⟨some 49, Op.buildSlice 23 2 #[(0, Operand.tmp 45), (1, Operand.tmp 48)], 23, _, _, none⟩) rfl (fun K hK => ?_) AllReadyH.nil
    go_simp
    have hch : Since v32 v34 := Since.step hq4 hp34
    try go_wp2_with fail
    have hAa : AtF v34 (.mk 3 0 [] [fa]) ⟨o32, n32, p32, m32, c32, q32, l32, d32⟩ := hF32.out.since (show Since v32 v34 from hch)
    have hAb : AtF v34 (.mk 3 0 [] [fb]) ⟨o34, n34, p34, m34, c34, q34, l34, d34⟩ := hF34.out
    obtain ⟨z, hz⟩ : ∃ v, v = World.alloc v34 (.cells #[.int .i64 o32, .int .i64 n32, .slice p32 m32 c32, .slice q32 l32 d32, .int .i64 o34, .int .i64 n34, .slice p34 m34 c34, .slice q34 l34 d34] 29) := ⟨_, rfl⟩
    obtain ⟨u, hu⟩ : ∃ v, v = World.alloc (World.drew v34) (.cells #[.int .i64 o32, .int .i64 n32, .slice p32 m32 c32, .slice q32 l32 d32, .int .i64 o34, .int .i64 n34, .slice p34 m34 c34, .slice q34 l34 d34] 29) := ⟨_, rfl⟩
    have hz1 := row_at (W := v34) [⟨o32, n32, p32, m32, c32, q32, l32, d32⟩, ⟨o34, n34, p34, m34, c34, q34, l34, d34⟩] [.mk 3 0 [] [fa], .mk 3 0 [] [fb]] #[.int .i64 o32, .int .i64 n32, .slice p32 m32 c32, .slice q32 l32 d32, .int .i64 o34, .int .i64 n34, .slice p34 m34 c34, .slice q34 l34 d34] 29 rfl rfl (by simp) (fun j r t hr ht => by
     match j with
     | 0 => cases hr; cases ht; exact (hAa).since (by first | exact since_r _ | exact since_d (since_r _))
     | 1 => cases hr; cases ht; exact (hAb).since (by first | exact since_r _ | exact since_d (since_r _))
     | j + 2 => simp at hr)
    rw [← hz] at hz1
    have hu1 := row_at (W := (World.drew v34)) [⟨o32, n32, p32, m32, c32, q32, l32, d32⟩, ⟨o34, n34, p34, m34, c34, q34, l34, d34⟩] [.mk 3 0 [] [fa], .mk 3 0 [] [fb]] #[.int .i64 o32, .int .i64 n32, .slice p32 m32 c32, .slice q32 l32 d32, .int .i64 o34, .int .i64 n34, .slice p34 m34 c34, .slice q34 l34 d34] 29 rfl rfl (by simp) (fun j r t hr ht => by
     match j with
     | 0 => cases hr; cases ht; exact (hAa).since (by first | exact since_r _ | exact since_d (since_r _))
     | 1 => cases hr; cases ht; exact (hAb).since (by first | exact since_r _ | exact since_d (since_r _))
     | j + 2 => simp at hr)
    rw [← hu] at hu1
    have hz2 : Since v34 z := by rw [hz]; exact Since.alloc (since_r _) _
    have hu2 : Since v34 u := by rw [hu]; exact Since.alloc (since_d (since_r _)) _
    first | (rw [← hz]; clear hu hu1 hu2 u; have hq1 := hz1; have hq2 := hz2; clear hz1 hz2 hz; generalize z = v35 at *) | (rw [← hu]; clear hz hz1 hz2 z; have hq1 := hu1; have hq2 := hu2; clear hu1 hu2 hu; generalize u = v35 at *)
    have hsv35 : Since w10 v35 := Since.step hsv34 hq2
    have hstv34v35 := hq2
    have hq4 := hq2
    clear hq2
    have hRR := hq1
    clear hq1
    simp only [List.length_cons, List.length_nil, Nat.zero_add, Nat.reduceAdd] at hRR
    refine hK.out _ _ ?_ (fun hHeld => ?_)
    ·exact ⟨hsv35.cell x5_0, hsv35.cell x5_1, hsv35.cell x5_2, hsv35.cell x5_3, hsv35.cell x7_0, hsv35.cell x7_1, hsv35.cell x7_2, hsv35.cell x7_3⟩
    clear hK K
    try simp only [Act.put, List.setIfInBounds_toArray, List.set_cons_zero, List.set_cons_succ]
    refine wpAnyH_take (i := 7) (oi := ⟨some 15, Op.assign (Operand.tmp 49), 23, _, _, none⟩) (v := ?_) rfl (by kernel_rfl) (by kernel_rfl) (by kernel_rfl) (fun _ _ _ h => h) (Or.inl ⟨by rfl, ?_⟩) (by assumption) ?_
    rotate_left 1
    ·(intro w hSw; (try dsimp only at hSw); go_simp; first | done | with_reducible rfl)
    try simp only [Act.put, List.setIfInBounds_toArray, List.set_cons_zero, List.set_cons_succ]
    refine wpAnyH_done (by kernel_rfl) ?_ _
    refine NoPanic.normal ?_
    go_wp2_with fail
    go_meet
    exact ⟨_, rfl, Lib.hid (fsl_since hRR (by first | exact since_r _ | exact since_d (since_r _))), Lib.hid (by first | exact hsv35 | exact since_d hsv35)⟩
   ·go_simp
    try go_wp2_with fail
    have hAt : AtF v31 fb ⟨o6, n6, p6, m6, c6, q6, l6, d6⟩ := hF6.out.since hsv31
    obtain ⟨z, hz⟩ : ∃ v, v = World.alloc v31 (.cells #[.int .i64 o6, .int .i64 n6, .slice p6 m6 c6, .slice q6 l6 d6] 29) := ⟨_, rfl⟩
    obtain ⟨u, hu⟩ : ∃ v, v = World.alloc (World.drew v31) (.cells #[.int .i64 o6, .int .i64 n6, .slice p6 m6 c6, .slice q6 l6 d6] 29) := ⟨_, rfl⟩
    have hz1 := row_at (W := v31) [⟨o6, n6, p6, m6, c6, q6, l6, d6⟩] [fb] #[.int .i64 o6, .int .i64 n6, .slice p6 m6 c6, .slice q6 l6 d6] 29 rfl rfl (by simp) (fun j r t hr ht => by
     match j with
     | 0 => cases hr; cases ht; exact (hAt).since (by first | exact since_r _ | exact since_d (since_r _))
     | j + 1 => simp at hr)
    rw [← hz] at hz1
    have hu1 := row_at (W := (World.drew v31)) [⟨o6, n6, p6, m6, c6, q6, l6, d6⟩] [fb] #[.int .i64 o6, .int .i64 n6, .slice p6 m6 c6, .slice q6 l6 d6] 29 rfl rfl (by simp) (fun j r t hr ht => by
     match j with
     | 0 => cases hr; cases ht; exact (hAt).since (by first | exact since_r _ | exact since_d (since_r _))
     | j + 1 => simp at hr)
    rw [← hu] at hu1
    have hz2 : Since v31 z := by rw [hz]; exact Since.alloc (since_r _) _
    have hu2 : Since v31 u := by rw [hu]; exact Since.alloc (since_d (since_r _)) _
    first | (rw [← hz]; clear hu hu1 hu2 u; have hq1 := hz1; have hq2 := hz2; clear hz1 hz2 hz; generalize z = v36 at *) | (rw [← hu]; clear hz hz1 hz2 z; have hq1 := hu1; have hq2 := hu2; clear hu1 hu2 hu; generalize u = v36 at *)
    have hsv36 : Since w10 v36 := Since.step hsv31 hq2
    have hstv31v36 := hq2
    have hq4 := hq2
    clear hq2
    have hRBv36 := hq1
    clear hq1 hAt
    simp only [List.length_cons, List.length_nil, Nat.zero_add] at hRBv36
    refine hK.out _ _ ?_ (fun hHeld => ?_)
    ·exact ⟨hsv36.cell x5_0, hsv36.cell x5_1, hsv36.cell x5_2, hsv36.cell x5_3, hsv36.cell x7_0, hsv36.cell x7_1, hsv36.cell x7_2, hsv36.cell x7_3⟩
    clear hK K
    try simp only [Act.put, List.setIfInBounds_toArray, List.set_cons_zero, List.set_cons_succ]
    refine wpAnyH_ready (rs := [2]) (by kernel_rfl) (by simp) ?_
    refine AllReadyH.cons (o := ⟨some 45, Op.call { callee := Callee.value (Operand.func 40), args := #[Operand.const (Value.int IntKind.i64 3), Operand.tmp 44], argTypes := #[3, 23] }, 29, _, _, none⟩) rfl (fun K hK => ?_) AllReadyH.nil
    go_simp
    have hRl := fsl_since hRAv31 (show Since v31 v36 from hstv31v36)
    go_at_call 40
    refine (of_at 3 _ 1 1 [fa] _ (fsl_since hRl (by first | exact since_r _ | exact since_d (since_r _)))).mono ?_
    rintro e v37 ⟨⟨o37, n37, p37, m37, c37, q37, l37, d37⟩, rfl, hF37, hB37⟩
    clear hRl
    have hp37 : Since v36 v37 := (by first | exact hB37.out | exact Since.step (since_d (since_r _)) hB37.out)
    have hsv37 : Since w10 v37 := Since.step hsv36 hp37
    try go_wp2_with fail
    have hstv36v37 : Since v36 v37 := hp37
    refine hK.out _ _ ?_ (fun hHeld => ?_)
    ·exact ⟨hsv37.cell x5_0, hsv37.cell x5_1, hsv37.cell x5_2, hsv37.cell x5_3, hsv37.cell x7_0, hsv37.cell x7_1, hsv37.cell x7_2, hsv37.cell x7_3⟩
    clear hK K
    try simp only [Act.put, List.setIfInBounds_toArray, List.set_cons_zero, List.set_cons_succ]
    refine wpAnyH_ready (rs := [5]) (by kernel_rfl) (by simp) ?_
    refine AllReadyH.cons (o := ⟨some 48, Op.call { callee := Callee.value (Operand.func 40), args := #[Operand.const (Value.int IntKind.i64 3), Operand.tmp 47], argTypes := #[3, 23] }, 29, _, _, none⟩) rfl (fun K hK => ?_) AllReadyH.nil
    go_simp
    have hRl := fsl_since hRBv36 (show Since v36 v37 from hstv36v37)
    go_at_call 40
    refine (of_at 3 _ 1 1 [fb] _ (fsl_since hRl (by first | exact since_r _ | exact since_d (since_r _)))).mono ?_
    rintro e v38 ⟨⟨o38, n38, p38, m38, c38, q38, l38, d38⟩, rfl, hF38, hB38⟩
    clear hRl
    have hp38 : Since v37 v38 := (by first | exact hB38.out | exact Since.step (since_d (since_r _)) hB38.out)
    have hsv38 : Since w10 v38 := Since.step hsv37 hp38
    try go_wp2_with fail
    refine hK.out _ _ ?_ (fun hHeld => ?_)
    ·exact ⟨hsv38.cell x5_0, hsv38.cell x5_1, hsv38.cell x5_2, hsv38.cell x5_3, hsv38.cell x7_0, hsv38.cell x7_1, hsv38.cell x7_2, hsv38.cell x7_3⟩
    clear hK K
    try simp only [Act.put, List.setIfInBounds_toArray, List.set_cons_zero, List.set_cons_succ]
    refine wpAnyH_ready (rs := [6]) (by kernel_rfl) (by simp) ?_
    refine AllReadyH.cons (o := ⟨some 49, Op.buildSlice 23 2 #[(0, Operand.tmp 45), (1, Operand.tmp 48)], 23, _, _, none⟩) rfl (fun K hK => ?_) AllReadyH.nil
    go_simp
    have hch : Since v37 v38 := hp38
    try go_wp2_with fail
    have hAa : AtF v38 (.mk 3 0 [] [fa]) ⟨o37, n37, p37, m37, c37, q37, l37, d37⟩ := hF37.out.since (show Since v37 v38 from hch)
    have hAb : AtF v38 (.mk 3 0 [] [fb]) ⟨o38, n38, p38, m38, c38, q38, l38, d38⟩ := hF38.out
    obtain ⟨z, hz⟩ : ∃ v, v = World.alloc v38 (.cells #[.int .i64 o37, .int .i64 n37, .slice p37 m37 c37, .slice q37 l37 d37, .int .i64 o38, .int .i64 n38, .slice p38 m38 c38, .slice q38 l38 d38] 29) := ⟨_, rfl⟩
    obtain ⟨u, hu⟩ : ∃ v, v = World.alloc (World.drew v38) (.cells #[.int .i64 o37, .int .i64 n37, .slice p37 m37 c37, .slice q37 l37 d37, .int .i64 o38, .int .i64 n38, .slice p38 m38 c38, .slice q38 l38 d38] 29) := ⟨_, rfl⟩
    have hz1 := row_at (W := v38) [⟨o37, n37, p37, m37, c37, q37, l37, d37⟩, ⟨o38, n38, p38, m38, c38, q38, l38, d38⟩] [.mk 3 0 [] [fa], .mk 3 0 [] [fb]] #[.int .i64 o37, .int .i64 n37, .slice p37 m37 c37, .slice q37 l37 d37, .int .i64 o38, .int .i64 n38, .slice p38 m38 c38, .slice q38 l38 d38] 29 rfl rfl (by simp) (fun j r t hr ht => by
     match j with
     | 0 => cases hr; cases ht; exact (hAa).since (by first | exact since_r _ | exact since_d (since_r _))
     | 1 => cases hr; cases ht; exact (hAb).since (by first | exact since_r _ | exact since_d (since_r _))
     | j + 2 => simp at hr)
    rw [← hz] at hz1
    have hu1 := row_at (W := (World.drew v38)) [⟨o37, n37, p37, m37, c37, q37, l37, d37⟩, ⟨o38, n38, p38, m38, c38, q38, l38, d38⟩] [.mk 3 0 [] [fa], .mk 3 0 [] [fb]] #[.int .i64 o37, .int .i64 n37, .slice p37 m37 c37, .slice q37 l37 d37, .int .i64 o38, .int .i64 n38, .slice p38 m38 c38, .slice q38 l38 d38] 29 rfl rfl (by simp) (fun j r t hr ht => by
     match j with
     | 0 => cases hr; cases ht; exact (hAa).since (by first | exact since_r _ | exact since_d (since_r _))
     | 1 => cases hr; cases ht; exact (hAb).since (by first | exact since_r _ | exact since_d (since_r _))
     | j + 2 => simp at hr)
    rw [← hu] at hu1
    have hz2 : Since v38 z := by rw [hz]; exact Since.alloc (since_r _) _
    have hu2 : Since v38 u := by rw [hu]; exact Since.alloc (since_d (since_r _)) _
    first | (rw [← hz]; clear hu hu1 hu2 u; have hq1 := hz1; have hq2 := hz2; clear hz1 hz2 hz; generalize z = v39 at *) | (rw [← hu]; clear hz hz1 hz2 z; have hq1 := hu1; have hq2 := hu2; clear hu1 hu2 hu; generalize u = v39 at *)
    have hsv39 : Since w10 v39 := Since.step hsv38 hq2
    have hstv38v39 := hq2
    have hq4 := hq2
    clear hq2
    have hRR := hq1
    clear hq1
    simp only [List.length_cons, List.length_nil, Nat.zero_add, Nat.reduceAdd] at hRR
    refine hK.out _ _ ?_ (fun hHeld => ?_)
    ·exact ⟨hsv39.cell x5_0, hsv39.cell x5_1, hsv39.cell x5_2, hsv39.cell x5_3, hsv39.cell x7_0, hsv39.cell x7_1, hsv39.cell x7_2, hsv39.cell x7_3⟩
    clear hK K
    try simp only [Act.put, List.setIfInBounds_toArray, List.set_cons_zero, List.set_cons_succ]
    refine wpAnyH_take (i := 7) (oi := ⟨some 15, Op.assign (Operand.tmp 49), 23, _, _, none⟩) (v := ?_) rfl (by kernel_rfl) (by kernel_rfl) (by kernel_rfl) (fun _ _ _ h => h) (Or.inl ⟨by rfl, ?_⟩) (by assumption) ?_
    rotate_left 1
    ·(intro w hSw; (try dsimp only at hSw); go_simp; first | done | with_reducible rfl)
    try simp only [Act.put, List.setIfInBounds_toArray, List.set_cons_zero, List.set_cons_succ]
    refine wpAnyH_done (by kernel_rfl) ?_ _
    refine NoPanic.normal ?_
    go_wp2_with fail
    go_meet
    exact ⟨_, rfl, Lib.hid (fsl_since hRR (by first | exact since_r _ | exact since_d (since_r _))), Lib.hid (by first | exact hsv39 | exact since_d hsv39)⟩
  ·go_simp
   try go_wp2_with fail
   have hAt : AtF w10 fb ⟨o6, n6, p6, m6, c6, q6, l6, d6⟩ := hF6.out.since hsw10
   obtain ⟨z, hz⟩ : ∃ v, v = World.alloc w10 (.cells #[.int .i64 o6, .int .i64 n6, .slice p6 m6 c6, .slice q6 l6 d6] 29) := ⟨_, rfl⟩
   obtain ⟨u, hu⟩ : ∃ v, v = World.alloc (World.drew w10) (.cells #[.int .i64 o6, .int .i64 n6, .slice p6 m6 c6, .slice q6 l6 d6] 29) := ⟨_, rfl⟩
   have hz1 := row_at (W := w10) [⟨o6, n6, p6, m6, c6, q6, l6, d6⟩] [fb] #[.int .i64 o6, .int .i64 n6, .slice p6 m6 c6, .slice q6 l6 d6] 29 rfl rfl (by simp) (fun j r t hr ht => by
    match j with
    | 0 => cases hr; cases ht; exact (hAt).since (by first | exact since_r _ | exact since_d (since_r _))
    | j + 1 => simp at hr)
   rw [← hz] at hz1
   have hu1 := row_at (W := (World.drew w10)) [⟨o6, n6, p6, m6, c6, q6, l6, d6⟩] [fb] #[.int .i64 o6, .int .i64 n6, .slice p6 m6 c6, .slice q6 l6 d6] 29 rfl rfl (by simp) (fun j r t hr ht => by
    match j with
    | 0 => cases hr; cases ht; exact (hAt).since (by first | exact since_r _ | exact since_d (since_r _))
    | j + 1 => simp at hr)
   rw [← hu] at hu1
   have hz2 : Since w10 z := by rw [hz]; exact Since.alloc (since_r _) _
   have hu2 : Since w10 u := by rw [hu]; exact Since.alloc (since_d (since_r _)) _
   first | (rw [← hz]; clear hu hu1 hu2 u; have hq1 := hz1; have hq2 := hz2; clear hz1 hz2 hz; generalize z = v40 at *) | (rw [← hu]; clear hz hz1 hz2 z; have hq1 := hu1; have hq2 := hu2; clear hu1 hu2 hu; generalize u = v40 at *)
   have hsv40 : Since w10 v40 := Since.step hsw10 hq2
   have hstw10v40 := hq2
   have hq4 := hq2
   clear hq2
   have hRBv40 := hq1
   clear hq1 hAt
   simp only [List.length_cons, List.length_nil, Nat.zero_add] at hRBv40
   refine hK.out _ _ ?_ (fun hHeld => ?_)
   ·exact ⟨hsv40.cell x5_0, hsv40.cell x5_1, hsv40.cell x5_2, hsv40.cell x5_3, hsv40.cell x7_0, hsv40.cell x7_1, hsv40.cell x7_2, hsv40.cell x7_3⟩
   clear hK K
   try simp only [Act.put, List.setIfInBounds_toArray, List.set_cons_zero, List.set_cons_succ]
   refine wpAnyH_ready (rs := [1]) (by kernel_rfl) (by simp) ?_
   refine AllReadyH.cons (o := ⟨some 44, Op.buildSlice 23 1 #[(0, Operand.tmp 43)], 23, _, _, none⟩) rfl (fun K hK => ?_) AllReadyH.nil
   go_simp
   try go_wp2_with fail
   have hAt : AtF v40 fa ⟨o4, n4, p4, m4, c4, q4, l4, d4⟩ := hF4.out.since hsv40
   obtain ⟨z, hz⟩ : ∃ v, v = World.alloc v40 (.cells #[.int .i64 o4, .int .i64 n4, .slice p4 m4 c4, .slice q4 l4 d4] 29) := ⟨_, rfl⟩
   obtain ⟨u, hu⟩ : ∃ v, v = World.alloc (World.drew v40) (.cells #[.int .i64 o4, .int .i64 n4, .slice p4 m4 c4, .slice q4 l4 d4] 29) := ⟨_, rfl⟩
   have hz1 := row_at (W := v40) [⟨o4, n4, p4, m4, c4, q4, l4, d4⟩] [fa] #[.int .i64 o4, .int .i64 n4, .slice p4 m4 c4, .slice q4 l4 d4] 29 rfl rfl (by simp) (fun j r t hr ht => by
    match j with
    | 0 => cases hr; cases ht; exact (hAt).since (by first | exact since_r _ | exact since_d (since_r _))
    | j + 1 => simp at hr)
   rw [← hz] at hz1
   have hu1 := row_at (W := (World.drew v40)) [⟨o4, n4, p4, m4, c4, q4, l4, d4⟩] [fa] #[.int .i64 o4, .int .i64 n4, .slice p4 m4 c4, .slice q4 l4 d4] 29 rfl rfl (by simp) (fun j r t hr ht => by
    match j with
    | 0 => cases hr; cases ht; exact (hAt).since (by first | exact since_r _ | exact since_d (since_r _))
    | j + 1 => simp at hr)
   rw [← hu] at hu1
   have hz2 : Since v40 z := by rw [hz]; exact Since.alloc (since_r _) _
   have hu2 : Since v40 u := by rw [hu]; exact Since.alloc (since_d (since_r _)) _
   first | (rw [← hz]; clear hu hu1 hu2 u; have hq1 := hz1; have hq2 := hz2; clear hz1 hz2 hz; generalize z = v41 at *) | (rw [← hu]; clear hz hz1 hz2 z; have hq1 := hu1; have hq2 := hu2; clear hu1 hu2 hu; generalize u = v41 at *)
   have hsv41 : Since w10 v41 := Since.step hsv40 hq2
   have hstv40v41 := hq2
   have hq4 := hq2
   clear hq2
   have hRAv41 := hq1
   clear hq1 hAt
   simp only [List.length_cons, List.length_nil, Nat.zero_add] at hRAv41
   refine hK.out _ _ ?_ (fun hHeld => ?_)
   ·exact ⟨hsv41.cell x5_0, hsv41.cell x5_1, hsv41.cell x5_2, hsv41.cell x5_3, hsv41.cell x7_0, hsv41.cell x7_1, hsv41.cell x7_2, hsv41.cell x7_3⟩
   clear hK K
   try simp only [Act.put, List.setIfInBounds_toArray, List.set_cons_zero, List.set_cons_succ]
   refine wpAnyH_ready (rs := [2]) (by kernel_rfl) (by simp) ?_
   refine AllReadyH.cons (o := ⟨some 45, Op.call { callee := Callee.value (Operand.func 40), args := #[Operand.const (Value.int IntKind.i64 3), Operand.tmp 44], argTypes := #[3, 23] }, 29, _, _, none⟩) rfl (fun K hK => ?_) AllReadyH.nil
   go_simp
   have hRl := fsl_since hRAv41 (show Since v41 v41 from since_r _)
   go_at_call 40
   refine (of_at 3 _ 1 1 [fa] _ (fsl_since hRl (by first | exact since_r _ | exact since_d (since_r _)))).mono ?_
   rintro e v42 ⟨⟨o42, n42, p42, m42, c42, q42, l42, d42⟩, rfl, hF42, hB42⟩
   clear hRl
   have hp42 : Since v41 v42 := (by first | exact hB42.out | exact Since.step (since_d (since_r _)) hB42.out)
   have hsv42 : Since w10 v42 := Since.step hsv41 hp42
   try go_wp2_with fail
   have hstv40v42 : Since v40 v42 := Since.step hstv40v41 hp42
   refine hK.out _ _ ?_ (fun hHeld => ?_)
   ·exact ⟨hsv42.cell x5_0, hsv42.cell x5_1, hsv42.cell x5_2, hsv42.cell x5_3, hsv42.cell x7_0, hsv42.cell x7_1, hsv42.cell x7_2, hsv42.cell x7_3⟩
   clear hK K
   try simp only [Act.put, List.setIfInBounds_toArray, List.set_cons_zero, List.set_cons_succ]
   refine wpAnyH_ready (rs := [5]) (by kernel_rfl) (by simp) ?_
   refine AllReadyH.cons (o := ⟨some 48, Op.call { callee := Callee.value (Operand.func 40), args := #[Operand.const (Value.int IntKind.i64 3), Operand.tmp 47], argTypes := #[3, 23] }, 29, _, _, none⟩) rfl (fun K hK => ?_) AllReadyH.nil
   go_simp
   have hRl := fsl_since hRBv40 (show Since v40 v42 from hstv40v42)
   go_at_call 40
   refine (of_at 3 _ 1 1 [fb] _ (fsl_since hRl (by first | exact since_r _ | exact since_d (since_r _)))).mono ?_
   rintro e v43 ⟨⟨o43, n43, p43, m43, c43, q43, l43, d43⟩, rfl, hF43, hB43⟩
   clear hRl
   have hp43 : Since v42 v43 := (by first | exact hB43.out | exact Since.step (since_d (since_r _)) hB43.out)
   have hsv43 : Since w10 v43 := Since.step hsv42 hp43
   try go_wp2_with fail
   refine hK.out _ _ ?_ (fun hHeld => ?_)
   ·exact ⟨hsv43.cell x5_0, hsv43.cell x5_1, hsv43.cell x5_2, hsv43.cell x5_3, hsv43.cell x7_0, hsv43.cell x7_1, hsv43.cell x7_2, hsv43.cell x7_3⟩
   clear hK K
   try simp only [Act.put, List.setIfInBounds_toArray, List.set_cons_zero, List.set_cons_succ]
   refine wpAnyH_ready (rs := [6]) (by kernel_rfl) (by simp) ?_
   refine AllReadyH.cons (o := ⟨some 49, Op.buildSlice 23 2 #[(0, Operand.tmp 45), (1, Operand.tmp 48)], 23, _, _, none⟩) rfl (fun K hK => ?_) AllReadyH.nil
   go_simp
   have hch : Since v42 v43 := hp43
   try go_wp2_with fail
   have hAa : AtF v43 (.mk 3 0 [] [fa]) ⟨o42, n42, p42, m42, c42, q42, l42, d42⟩ := hF42.out.since (show Since v42 v43 from hch)
   have hAb : AtF v43 (.mk 3 0 [] [fb]) ⟨o43, n43, p43, m43, c43, q43, l43, d43⟩ := hF43.out
   obtain ⟨z, hz⟩ : ∃ v, v = World.alloc v43 (.cells #[.int .i64 o42, .int .i64 n42, .slice p42 m42 c42, .slice q42 l42 d42, .int .i64 o43, .int .i64 n43, .slice p43 m43 c43, .slice q43 l43 d43] 29) := ⟨_, rfl⟩
   obtain ⟨u, hu⟩ : ∃ v, v = World.alloc (World.drew v43) (.cells #[.int .i64 o42, .int .i64 n42, .slice p42 m42 c42, .slice q42 l42 d42, .int .i64 o43, .int .i64 n43, .slice p43 m43 c43, .slice q43 l43 d43] 29) := ⟨_, rfl⟩
   have hz1 := row_at (W := v43) [⟨o42, n42, p42, m42, c42, q42, l42, d42⟩, ⟨o43, n43, p43, m43, c43, q43, l43, d43⟩] [.mk 3 0 [] [fa], .mk 3 0 [] [fb]] #[.int .i64 o42, .int .i64 n42, .slice p42 m42 c42, .slice q42 l42 d42, .int .i64 o43, .int .i64 n43, .slice p43 m43 c43, .slice q43 l43 d43] 29 rfl rfl (by simp) (fun j r t hr ht => by
    match j with
    | 0 => cases hr; cases ht; exact (hAa).since (by first | exact since_r _ | exact since_d (since_r _))
    | 1 => cases hr; cases ht; exact (hAb).since (by first | exact since_r _ | exact since_d (since_r _))
    | j + 2 => simp at hr)
   rw [← hz] at hz1
   have hu1 := row_at (W := (World.drew v43)) [⟨o42, n42, p42, m42, c42, q42, l42, d42⟩, ⟨o43, n43, p43, m43, c43, q43, l43, d43⟩] [.mk 3 0 [] [fa], .mk 3 0 [] [fb]] #[.int .i64 o42, .int .i64 n42, .slice p42 m42 c42, .slice q42 l42 d42, .int .i64 o43, .int .i64 n43, .slice p43 m43 c43, .slice q43 l43 d43] 29 rfl rfl (by simp) (fun j r t hr ht => by
    match j with
    | 0 => cases hr; cases ht; exact (hAa).since (by first | exact since_r _ | exact since_d (since_r _))
    | 1 => cases hr; cases ht; exact (hAb).since (by first | exact since_r _ | exact since_d (since_r _))
    | j + 2 => simp at hr)
   rw [← hu] at hu1
   have hz2 : Since v43 z := by rw [hz]; exact Since.alloc (since_r _) _
   have hu2 : Since v43 u := by rw [hu]; exact Since.alloc (since_d (since_r _)) _
   first | (rw [← hz]; clear hu hu1 hu2 u; have hq1 := hz1; have hq2 := hz2; clear hz1 hz2 hz; generalize z = v44 at *) | (rw [← hu]; clear hz hz1 hz2 z; have hq1 := hu1; have hq2 := hu2; clear hu1 hu2 hu; generalize u = v44 at *)
   have hsv44 : Since w10 v44 := Since.step hsv43 hq2
   have hstv43v44 := hq2
   have hq4 := hq2
   clear hq2
   have hRR := hq1
   clear hq1
   simp only [List.length_cons, List.length_nil, Nat.zero_add, Nat.reduceAdd] at hRR
   refine hK.out _ _ ?_ (fun hHeld => ?_)
   ·exact ⟨hsv44.cell x5_0, hsv44.cell x5_1, hsv44.cell x5_2, hsv44.cell x5_3, hsv44.cell x7_0, hsv44.cell x7_1, hsv44.cell x7_2, hsv44.cell x7_3⟩
   clear hK K
   try simp only [Act.put, List.setIfInBounds_toArray, List.set_cons_zero, List.set_cons_succ]
   refine wpAnyH_take (i := 7) (oi := ⟨some 15, Op.assign (Operand.tmp 49), 23, _, _, none⟩) (v := ?_) rfl (by kernel_rfl) (by kernel_rfl) (by kernel_rfl) (fun _ _ _ h => h) (Or.inl ⟨by rfl, ?_⟩) (by assumption) ?_
   rotate_left 1
   ·(intro w hSw; (try dsimp only at hSw); go_simp; first | done | with_reducible rfl)
   try simp only [Act.put, List.setIfInBounds_toArray, List.set_cons_zero, List.set_cons_succ]
   refine wpAnyH_done (by kernel_rfl) ?_ _
   refine NoPanic.normal ?_
   go_wp2_with fail
   go_meet
   exact ⟨_, rfl, Lib.hid (fsl_since hRR (by first | exact since_r _ | exact since_d (since_r _))), Lib.hid (by first | exact hsv44 | exact since_d hsv44)⟩
 case rest =>
 obtain ⟨G15, rfl, hR11, hs11⟩ := hcut
 rename World => w11
 replace hs11 := hs11.out
 have HS11 := Lib.hid (Since.step HS10.out hs11)
 replace hF4 := Lib.hid (hF4.out.since hs11)
 replace hF6 := Lib.hid (hF6.out.since hs11)
 replace HX5 := Lib.hid (HX5.out.keep hs11)
 replace HX7 := Lib.hid (HX7.out.keep hs11)
 replace HX10 := Lib.hid (HX10.out.keep hs11)
 replace HTX := Lib.hid (HTX.out.below hs11)
 replace HTT := Lib.hid (HTT.out.below hs11)
 replace HR8 := Lib.hid (fsl_since HR8.out hs11)
 have HR11 := hR11
 clear hR11 hs11
 go_upto_region 9 with (fail)
 obtain ⟨x5_0, x5_1, x5_2, x5_3, -⟩ := HX5.out.open4
 obtain ⟨x7_0, x7_1, x7_2, x7_3, -⟩ := HX7.out.open4
 have hd11 : Since w11 w11.drew := since_d (since_r _)
 have hrw11 : Since w11 w11 := since_r _
 have hA4 := hF4.out
 have hA6 := hF6.out
 have hL8 := HR8.out
 have hL11 := HR11.out
 refine wp_region_noPanic ?_
 refine wp_region_held_drew (S := fun w' => w'.cell? ⟨M5, 0, none⟩ = some (.int .i64 o4) ∧ w'.cell? ⟨M5, 1, none⟩ = some (.int .i64 n4) ∧ w'.cell? ⟨M5, 2, none⟩ = some (.slice p4 m4 c4) ∧ w'.cell? ⟨M5, 3, none⟩ = some (.slice q4 l4 d4) ∧ w'.cell? ⟨M7, 0, none⟩ = some (.int .i64 o6) ∧ w'.cell? ⟨M7, 1, none⟩ = some (.int .i64 n6) ∧ w'.cell? ⟨M7, 2, none⟩ = some (.slice p6 m6 c6) ∧ w'.cell? ⟨M7, 3, none⟩ = some (.slice q6 l6 d6)) (by kernel_rfl) ⟨hd11.cell x5_0, hd11.cell x5_1, hd11.cell x5_2, hd11.cell x5_3, hd11.cell x7_0, hd11.cell x7_1, hd11.cell x7_2, hd11.cell x7_3⟩ (fun hHeld => ?_)
 refine wpAnyH_take (i := 0) (oi := ⟨some 50, Op.load 29 (Operand.tmp 11), 29, _, _, none⟩) (v := ?_) rfl (by kernel_rfl) (by kernel_rfl) (by kernel_rfl) (fun _ _ _ h => h) (Or.inl ⟨by rfl, ?_⟩) (by assumption) ?_
 rotate_left 1
 ·(intro w hSw; (try dsimp only at hSw); go_simp; first | done | with_reducible rfl)
 try simp only [Act.put, List.setIfInBounds_toArray, List.set_cons_zero, List.set_cons_succ]
 refine wpAnyH_take (i := 1) (oi := ⟨some 51, Op.load 29 (Operand.tmp 12), 29, _, _, none⟩) (v := ?_) rfl (by kernel_rfl) (by kernel_rfl) (by kernel_rfl) (fun _ _ _ h => h) (Or.inl ⟨by rfl, ?_⟩) (by assumption) ?_
 rotate_left 1
 ·(intro w hSw; (try dsimp only at hSw); go_simp; first | done | with_reducible rfl)
 try simp only [Act.put, List.setIfInBounds_toArray, List.set_cons_zero, List.set_cons_succ]
 refine wpAnyH_take (i := 2) (oi := ⟨some 52, Op.load 29 (Operand.tmp 11), 29, _, _, none⟩) (v := ?_) rfl (by kernel_rfl) (by kernel_rfl) (by kernel_rfl) (fun _ _ _ h => h) (Or.inl ⟨by rfl, ?_⟩) (by assumption) ?_
 rotate_left 1
 ·(intro w hSw; (try dsimp only at hSw); go_simp; first | done | with_reducible rfl)
 try simp only [Act.put, List.setIfInBounds_toArray, List.set_cons_zero, List.set_cons_succ]
 refine wpAnyH_take (i := 4) (oi := ⟨some 54, Op.move (Operand.tmp 13), 23, _, _, none⟩) (v := ?_) rfl (by kernel_rfl) (by kernel_rfl) (by kernel_rfl) (fun _ _ _ h => h) (Or.inl ⟨by rfl, ?_⟩) (by assumption) ?_
 rotate_left 1
 ·(intro w hSw; (try dsimp only at hSw); go_simp; first | done | with_reducible rfl)
 try simp only [Act.put, List.setIfInBounds_toArray, List.set_cons_zero, List.set_cons_succ]
 refine wpAnyH_take (i := 6) (oi := ⟨some 56, Op.move (Operand.tmp 13), 23, _, _, none⟩) (v := ?_) rfl (by kernel_rfl) (by kernel_rfl) (by kernel_rfl) (fun _ _ _ h => h) (Or.inl ⟨by rfl, ?_⟩) (by assumption) ?_
 rotate_left 1
 ·(intro w hSw; (try dsimp only at hSw); go_simp; first | done | with_reducible rfl)
 try simp only [Act.put, List.setIfInBounds_toArray, List.set_cons_zero, List.set_cons_succ]
 refine wpAnyH_take (i := 8) (oi := ⟨some 58, Op.move (Operand.tmp 13), 23, _, _, none⟩) (v := ?_) rfl (by kernel_rfl) (by kernel_rfl) (by kernel_rfl) (fun _ _ _ h => h) (Or.inl ⟨by rfl, ?_⟩) (by assumption) ?_
 rotate_left 1
 ·(intro w hSw; (try dsimp only at hSw); go_simp; first | done | with_reducible rfl)
 try simp only [Act.put, List.setIfInBounds_toArray, List.set_cons_zero, List.set_cons_succ]
 refine wpAnyH_take (i := 12) (oi := ⟨some 62, Op.move (Operand.tmp 15), 23, _, _, none⟩) (v := ?_) rfl (by kernel_rfl) (by kernel_rfl) (by kernel_rfl) (fun _ _ _ h => h) (Or.inl ⟨by rfl, ?_⟩) (by assumption) ?_
 rotate_left 1
 ·(intro w hSw; (try dsimp only at hSw); go_simp; first | done | with_reducible rfl)
 try simp only [Act.put, List.setIfInBounds_toArray, List.set_cons_zero, List.set_cons_succ]
 refine wpAnyH_ready (rs := [3]) (by kernel_rfl) (by simp) ?_
 refine AllReadyH.cons (o := ⟨some 53, Op.call { callee := Callee.value (Operand.func 41), args := #[Operand.tmp 52], argTypes := #[29] }, 29, _, _, none⟩) rfl (fun K hK => ?_) AllReadyH.nil
 go_simp
 go_at_call 41
 refine (not_at fa ⟨o4, n4, p4, m4, c4, q4, l4, d4⟩ _ (hA4.since (by first | exact since_r _ | exact since_d (since_r _)))).mono ?_
 rintro e v53 ⟨⟨o53, n53, p53, m53, c53, q53, l53, d53⟩, rfl, hF53, hB53⟩
 have hp : Since w11 v53 := (by first | exact hB53.out | exact Since.step (since_d (since_r _)) hB53.out)
 replace hA4 := hA4.since hp
 replace hA6 := hA6.since hp
 replace hL8 := fsl_since hL8 hp
 replace hL11 := fsl_since hL11 hp
 have hA53 := hF53.out
 have hrv53 : Since w11 v53 := Since.step hrw11 hp
 clear hp hF53 hB53
 try go_wp2_with fail
 refine hK.out _ _ ?_ (fun hHeld => ?_)
 ·exact ⟨hrv53.cell x5_0, hrv53.cell x5_1, hrv53.cell x5_2, hrv53.cell x5_3, hrv53.cell x7_0, hrv53.cell x7_1, hrv53.cell x7_2, hrv53.cell x7_3⟩
 clear hK K
 try simp only [Act.put, List.setIfInBounds_toArray, List.set_cons_zero, List.set_cons_succ]
 refine wpAnyH_ready (rs := [5]) (by kernel_rfl) (by simp) ?_
 refine AllReadyH.cons (o := ⟨some 55, Op.call { callee := Callee.value (Operand.func 40), args := #[Operand.const (Value.int IntKind.i64 4), Operand.tmp 54], argTypes := #[3, 23] }, 29, _, _, none⟩) rfl (fun K hK => ?_) AllReadyH.nil
 go_simp
 go_at_call 40
 refine (of_at 4 _ 2 2 [fa, fb] _ (fsl_since hL8 (by first | exact since_r _ | exact since_d (since_r _)))).mono ?_
 rintro e v55 ⟨⟨o55, n55, p55, m55, c55, q55, l55, d55⟩, rfl, hF55, hB55⟩
 have hp : Since v53 v55 := (by first | exact hB55.out | exact Since.step (since_d (since_r _)) hB55.out)
 replace hA4 := hA4.since hp
 replace hA6 := hA6.since hp
 replace hA53 := hA53.since hp
 replace hL8 := fsl_since hL8 hp
 replace hL11 := fsl_since hL11 hp
 have hA55 := hF55.out
 have hrv55 : Since w11 v55 := Since.step hrv53 hp
 clear hp hF55 hB55
 try go_wp2_with fail
 refine hK.out _ _ ?_ (fun hHeld => ?_)
 ·exact ⟨hrv55.cell x5_0, hrv55.cell x5_1, hrv55.cell x5_2, hrv55.cell x5_3, hrv55.cell x7_0, hrv55.cell x7_1, hrv55.cell x7_2, hrv55.cell x7_3⟩
 clear hK K
 try simp only [Act.put, List.setIfInBounds_toArray, List.set_cons_zero, List.set_cons_succ]
 refine wpAnyH_ready (rs := [7]) (by kernel_rfl) (by simp) ?_
 refine AllReadyH.cons (o := ⟨some 57, Op.call { callee := Callee.value (Operand.func 40), args := #[Operand.const (Value.int IntKind.i64 5), Operand.tmp 56], argTypes := #[3, 23] }, 29, _, _, none⟩) rfl (fun K hK => ?_) AllReadyH.nil
 go_simp
 go_at_call 40
 refine (of_at 5 _ 2 2 [fa, fb] _ (fsl_since hL8 (by first | exact since_r _ | exact since_d (since_r _)))).mono ?_
 rintro e v57 ⟨⟨o57, n57, p57, m57, c57, q57, l57, d57⟩, rfl, hF57, hB57⟩
 have hp : Since v55 v57 := (by first | exact hB57.out | exact Since.step (since_d (since_r _)) hB57.out)
 replace hA4 := hA4.since hp
 replace hA6 := hA6.since hp
 replace hA53 := hA53.since hp
 replace hA55 := hA55.since hp
 replace hL8 := fsl_since hL8 hp
 replace hL11 := fsl_since hL11 hp
 have hA57 := hF57.out
 have hrv57 : Since w11 v57 := Since.step hrv55 hp
 clear hp hF57 hB57
 try go_wp2_with fail
 refine hK.out _ _ ?_ (fun hHeld => ?_)
 ·exact ⟨hrv57.cell x5_0, hrv57.cell x5_1, hrv57.cell x5_2, hrv57.cell x5_3, hrv57.cell x7_0, hrv57.cell x7_1, hrv57.cell x7_2, hrv57.cell x7_3⟩
 clear hK K
 try simp only [Act.put, List.setIfInBounds_toArray, List.set_cons_zero, List.set_cons_succ]
 refine wpAnyH_ready (rs := [9]) (by kernel_rfl) (by simp) ?_
 refine AllReadyH.cons (o := ⟨some 59, Op.call { callee := Callee.value (Operand.func 40), args := #[Operand.const (Value.int IntKind.i64 5), Operand.tmp 58], argTypes := #[3, 23] }, 29, _, _, none⟩) rfl (fun K hK => ?_) AllReadyH.nil
 go_simp
 go_at_call 40
 refine (of_at 5 _ 2 2 [fa, fb] _ (fsl_since hL8 (by first | exact since_r _ | exact since_d (since_r _)))).mono ?_
 rintro e v59 ⟨⟨o59, n59, p59, m59, c59, q59, l59, d59⟩, rfl, hF59, hB59⟩
 have hp : Since v57 v59 := (by first | exact hB59.out | exact Since.step (since_d (since_r _)) hB59.out)
 replace hA4 := hA4.since hp
 replace hA6 := hA6.since hp
 replace hA53 := hA53.since hp
 replace hA55 := hA55.since hp
 replace hA57 := hA57.since hp
 replace hL8 := fsl_since hL8 hp
 replace hL11 := fsl_since hL11 hp
 have hA59 := hF59.out
 have hrv59 : Since w11 v59 := Since.step hrv57 hp
 clear hp hF59 hB59
 try go_wp2_with fail
 refine hK.out _ _ ?_ (fun hHeld => ?_)
 ·exact ⟨hrv59.cell x5_0, hrv59.cell x5_1, hrv59.cell x5_2, hrv59.cell x5_3, hrv59.cell x7_0, hrv59.cell x7_1, hrv59.cell x7_2, hrv59.cell x7_3⟩
 clear hK K
 try simp only [Act.put, List.setIfInBounds_toArray, List.set_cons_zero, List.set_cons_succ]
 refine wpAnyH_ready (rs := [10]) (by kernel_rfl) (by simp) ?_
 refine AllReadyH.cons (o := ⟨some 60, Op.buildSlice 23 1 #[(0, Operand.tmp 59)], 23, _, _, none⟩) rfl (fun K hK => ?_) AllReadyH.nil
 go_simp
 try go_wp2_with fail
 obtain ⟨z, hz⟩ : ∃ v, v = World.alloc v59 (.cells #[.int .i64 o59, .int .i64 n59, .slice p59 m59 c59, .slice q59 l59 d59] 29) := ⟨_, rfl⟩
 have hz1 := row_at (W := v59) [⟨o59, n59, p59, m59, c59, q59, l59, d59⟩] [.mk 5 0 [] [fa, fb]] #[.int .i64 o59, .int .i64 n59, .slice p59 m59 c59, .slice q59 l59 d59] 29 rfl rfl (by simp) (fun j r t hr ht => by
  match j with
  | 0 => cases hr; cases ht; exact (hA59).since (by first | exact since_r _ | exact since_d (since_r _))
  | j + 1 => simp at hr)
 rw [← hz] at hz1
 have hz2 : Since v59 z := by rw [hz]; exact Since.alloc (since_r _) _
 rw [← hz]
 clear hz
 generalize z = v45 at *
 replace hA4 := hA4.since hz2
 replace hA6 := hA6.since hz2
 replace hA53 := hA53.since hz2
 replace hA55 := hA55.since hz2
 replace hA57 := hA57.since hz2
 replace hA59 := hA59.since hz2
 replace hL8 := fsl_since hL8 hz2
 replace hL11 := fsl_since hL11 hz2
 have hL60 := hz1
 clear hz1
 simp only [List.length_cons, List.length_nil, Nat.zero_add] at hL60
 have hrv45 : Since w11 v45 := Since.step hrv59 hz2
 clear hz2
 refine hK.out _ _ ?_ (fun hHeld => ?_)
 ·exact ⟨hrv45.cell x5_0, hrv45.cell x5_1, hrv45.cell x5_2, hrv45.cell x5_3, hrv45.cell x7_0, hrv45.cell x7_1, hrv45.cell x7_2, hrv45.cell x7_3⟩
 clear hK K
 try simp only [Act.put, List.setIfInBounds_toArray, List.set_cons_zero, List.set_cons_succ]
 refine wpAnyH_ready (rs := [11]) (by kernel_rfl) (by simp) ?_
 refine AllReadyH.cons (o := ⟨some 61, Op.call { callee := Callee.value (Operand.func 40), args := #[Operand.const (Value.int IntKind.i64 3), Operand.tmp 60], argTypes := #[3, 23] }, 29, _, _, none⟩) rfl (fun K hK => ?_) AllReadyH.nil
 go_simp
 go_at_call 40
 refine (of_at 3 _ 1 1 [.mk 5 0 [] [fa, fb]] _ (fsl_since hL60 (by first | exact since_r _ | exact since_d (since_r _)))).mono ?_
 rintro e v61 ⟨⟨o61, n61, p61, m61, c61, q61, l61, d61⟩, rfl, hF61, hB61⟩
 have hp : Since v45 v61 := (by first | exact hB61.out | exact Since.step (since_d (since_r _)) hB61.out)
 replace hA4 := hA4.since hp
 replace hA6 := hA6.since hp
 replace hA53 := hA53.since hp
 replace hA55 := hA55.since hp
 replace hA57 := hA57.since hp
 replace hA59 := hA59.since hp
 replace hL8 := fsl_since hL8 hp
 replace hL11 := fsl_since hL11 hp
 replace hL60 := fsl_since hL60 hp
 have hA61 := hF61.out
 have hrv61 : Since w11 v61 := Since.step hrv45 hp
 clear hp hF61 hB61
 try go_wp2_with fail
 refine hK.out _ _ ?_ (fun hHeld => ?_)
 ·exact ⟨hrv61.cell x5_0, hrv61.cell x5_1, hrv61.cell x5_2, hrv61.cell x5_3, hrv61.cell x7_0, hrv61.cell x7_1, hrv61.cell x7_2, hrv61.cell x7_3⟩
 clear hK K
 try simp only [Act.put, List.setIfInBounds_toArray, List.set_cons_zero, List.set_cons_succ]
 refine wpAnyH_ready (rs := [13]) (by kernel_rfl) (by simp) ?_
 refine AllReadyH.cons (o := ⟨some 63, Op.call { callee := Callee.value (Operand.func 40), args := #[Operand.const (Value.int IntKind.i64 5), Operand.tmp 62], argTypes := #[3, 23] }, 29, _, _, none⟩) rfl (fun K hK => ?_) AllReadyH.nil
 go_simp
 go_at_call 40
 refine (of_at 5 _ 2 2 [.mk 3 0 [] [fa], .mk 3 0 [] [fb]] _ (fsl_since hL11 (by first | exact since_r _ | exact since_d (since_r _)))).mono ?_
 rintro e v63 ⟨⟨o63, n63, p63, m63, c63, q63, l63, d63⟩, rfl, hF63, hB63⟩
 have hp : Since v61 v63 := (by first | exact hB63.out | exact Since.step (since_d (since_r _)) hB63.out)
 replace hA4 := hA4.since hp
 replace hA6 := hA6.since hp
 replace hA53 := hA53.since hp
 replace hA55 := hA55.since hp
 replace hA57 := hA57.since hp
 replace hA59 := hA59.since hp
 replace hA61 := hA61.since hp
 replace hL8 := fsl_since hL8 hp
 replace hL11 := fsl_since hL11 hp
 replace hL60 := fsl_since hL60 hp
 have hA63 := hF63.out
 have hrv63 : Since w11 v63 := Since.step hrv61 hp
 clear hp hF63 hB63
 try go_wp2_with fail
 refine hK.out _ _ ?_ (fun hHeld => ?_)
 ·exact ⟨hrv63.cell x5_0, hrv63.cell x5_1, hrv63.cell x5_2, hrv63.cell x5_3, hrv63.cell x7_0, hrv63.cell x7_1, hrv63.cell x7_2, hrv63.cell x7_3⟩
 clear hK K
 try simp only [Act.put, List.setIfInBounds_toArray, List.set_cons_zero, List.set_cons_succ]
 refine wpAnyH_ready (rs := [14]) (by kernel_rfl) (by simp) ?_
 refine AllReadyH.cons (o := ⟨some 64, Op.buildSlice 23 7 #[(0, Operand.tmp 50), (1, Operand.tmp 51), (2, Operand.tmp 53), (3, Operand.tmp 55), (4, Operand.tmp 57), (5, Operand.tmp 61), (6, Operand.tmp 63)], 23, _, _, none⟩) rfl (fun K hK => ?_) AllReadyH.nil
 go_simp
 try go_wp2_with fail
 obtain ⟨z, hz⟩ : ∃ v, v = World.alloc v63 (.cells #[.int .i64 o4, .int .i64 n4, .slice p4 m4 c4, .slice q4 l4 d4, .int .i64 o6, .int .i64 n6, .slice p6 m6 c6, .slice q6 l6 d6, .int .i64 o53, .int .i64 n53, .slice p53 m53 c53, .slice q53 l53 d53, .int .i64 o55, .int .i64 n55, .slice p55 m55 c55, .slice q55 l55 d55, .int .i64 o57, .int .i64 n57, .slice p57 m57 c57, .slice q57 l57 d57, .int .i64 o61, .int .i64 n61, .slice p61 m61 c61, .slice q61 l61 d61, .int .i64 o63, .int .i64 n63, .slice p63 m63 c63, .slice q63 l63 d63] 29) := ⟨_, rfl⟩
 have hz1 := row_at (W := v63) [⟨o4, n4, p4, m4, c4, q4, l4, d4⟩, ⟨o6, n6, p6, m6, c6, q6, l6, d6⟩, ⟨o53, n53, p53, m53, c53, q53, l53, d53⟩, ⟨o55, n55, p55, m55, c55, q55, l55, d55⟩, ⟨o57, n57, p57, m57, c57, q57, l57, d57⟩, ⟨o61, n61, p61, m61, c61, q61, l61, d61⟩, ⟨o63, n63, p63, m63, c63, q63, l63, d63⟩] [fa, fb, notF fa, .mk 4 0 [] [fa, fb], .mk 5 0 [] [fa, fb], .mk 3 0 [] [.mk 5 0 [] [fa, fb]], .mk 5 0 [] [.mk 3 0 [] [fa], .mk 3 0 [] [fb]]] #[.int .i64 o4, .int .i64 n4, .slice p4 m4 c4, .slice q4 l4 d4, .int .i64 o6, .int .i64 n6, .slice p6 m6 c6, .slice q6 l6 d6, .int .i64 o53, .int .i64 n53, .slice p53 m53 c53, .slice q53 l53 d53, .int .i64 o55, .int .i64 n55, .slice p55 m55 c55, .slice q55 l55 d55, .int .i64 o57, .int .i64 n57, .slice p57 m57 c57, .slice q57 l57 d57, .int .i64 o61, .int .i64 n61, .slice p61 m61 c61, .slice q61 l61 d61, .int .i64 o63, .int .i64 n63, .slice p63 m63 c63, .slice q63 l63 d63] 29 rfl rfl (by simp) (fun j r t hr ht => by
  match j with
  | 0 => cases hr; cases ht; exact (hA4).since (by first | exact since_r _ | exact since_d (since_r _))
  | 1 => cases hr; cases ht; exact (hA6).since (by first | exact since_r _ | exact since_d (since_r _))
  | 2 => cases hr; cases ht; exact (hA53).since (by first | exact since_r _ | exact since_d (since_r _))
  | 3 => cases hr; cases ht; exact (hA55).since (by first | exact since_r _ | exact since_d (since_r _))
  | 4 => cases hr; cases ht; exact (hA57).since (by first | exact since_r _ | exact since_d (since_r _))
  | 5 => cases hr; cases ht; exact (hA61).since (by first | exact since_r _ | exact since_d (since_r _))
  | 6 => cases hr; cases ht; exact (hA63).since (by first | exact since_r _ | exact since_d (since_r _))
  | j + 7 => simp at hr)
 rw [← hz] at hz1
 have hz2 : Since v63 z := by rw [hz]; exact Since.alloc (since_r _) _
 rw [← hz]
 clear hz
 generalize z = v46 at *
 replace hA4 := hA4.since hz2
 replace hA6 := hA6.since hz2
 replace hA53 := hA53.since hz2
 replace hA55 := hA55.since hz2
 replace hA57 := hA57.since hz2
 replace hA59 := hA59.since hz2
 replace hA61 := hA61.since hz2
 replace hA63 := hA63.since hz2
 replace hL8 := fsl_since hL8 hz2
 replace hL11 := fsl_since hL11 hz2
 replace hL60 := fsl_since hL60 hz2
 have hL64 := hz1
 clear hz1
 simp only [List.length_cons, List.length_nil, Nat.zero_add, Nat.reduceAdd] at hL64
 have hrv46 : Since w11 v46 := Since.step hrv63 hz2
 clear hz2
 refine hK.out _ _ ?_ (fun hHeld => ?_)
 ·exact ⟨hrv46.cell x5_0, hrv46.cell x5_1, hrv46.cell x5_2, hrv46.cell x5_3, hrv46.cell x7_0, hrv46.cell x7_1, hrv46.cell x7_2, hrv46.cell x7_3⟩
 clear hK K
 try simp only [Act.put, List.setIfInBounds_toArray, List.set_cons_zero, List.set_cons_succ]
 refine wpAnyH_take (i := 15) (oi := ⟨some 16, Op.assign (Operand.tmp 64), 23, _, _, none⟩) (v := ?_) rfl (by kernel_rfl) (by kernel_rfl) (by kernel_rfl) (fun _ _ _ h => h) (Or.inl ⟨by rfl, ?_⟩) (by assumption) ?_
 rotate_left 1
 ·(intro w hSw; (try dsimp only at hSw); go_simp; first | done | with_reducible rfl)
 try simp only [Act.put, List.setIfInBounds_toArray, List.set_cons_zero, List.set_cons_succ]
 refine wpAnyH_done (by kernel_rfl) ?_ _
 refine NoPanic.normal ?_
 generalize (World.heap v63).size = G64 at *
 have hw12 : ∃ w12, w12 = v46 := ⟨_, rfl⟩
 obtain ⟨w12, hw12⟩ := hw12
 rw [← hw12] at hL64 hrv46 ⊢
 have HL := Lib.hid (show FSl (fun k => k < w12.heap.size) w12 _ (boolL fa fb) from hL64)
 replace HS11 := Lib.hid (Since.step HS11.out hrv46)
 replace HTX := Lib.hid (HTX.out.below hrv46)
 replace HTT := Lib.hid (HTT.out.below hrv46)
 replace HX10 := Lib.hid (HX10.out.keep hrv46)
 clear hA4 hA6 hA53 hA55 hA57 hA59 hA61 hA63 hL8 hL11 hL60 hL64 hw12 HR8 HR11 hF4 hF6 HX5 HX7 x5_0 x5_1 x5_2 x5_3 x7_0 x7_1 x7_2 x7_3
 generalize hlb : boolL fa fb = LB at *
 generalize hhb : boolH (fa.hold P t) (fb.hold P t) (t.ps.any fun p => fa.hold P p || fb.hold P p) = LH at *
 have HLH : Hid (∃ x y z : Bool, LH = boolH x y z) := Lib.hid ⟨_, _, _, hhb.symm⟩
 clear hhb hlb HGA HGB
 have HO0 : Hid (ROwn RBo 4 w12.heap.size w12 (.slice none 0 0) (LH.take 0)) := Lib.hid (ROwn.nil _ _ _ _)
 have HSR : Hid (Since w12 w12) := Lib.hid (since_r _)
 go_wp2
 go_loopw [17, 18] (fun l v wr => ∃ (k : Nat) (a : Option Addr) (m c : Nat), k ≤ 7 ∧ l = .slice a m c ∧ v = .int .i64 k ∧ Hid (ROwn RBo 4 w12.heap.size wr (.slice a m c) (LH.take k)) ∧ Hid (Since w12 wr)) (fun _ v _ => 7 - (intOf v).toNat)
 case atStart => exact ⟨0, none, 0, 0, by omega, rfl, rfl, HO0, HSR⟩
 case round =>
  obtain ⟨k, a, m, c, hk, rfl, rfl, hO, hS⟩ := hrel
  clear HO0 HSR
  by_cases hlt : k < 7
  ·have jl1 : (k : Int) < 7 := by omega
   have jl0 : (0 : Int) ≤ (k : Int) := by omega
   have i8 : IntKind.i64.wrap ((k : Int) + 1) = ((k + 1 : Nat) : Int) := by rw [IntWalk.i64_in _ (by omega)]; omega
   obtain ⟨g, u, ua, um, ud, va, vm, vd, hge, hgS, hg3, hcap, hu, u0, u1, u2, u3, hFu⟩ := kid_at HL.out (j := k) hlt
   injection hge with hge
   injection hge with hge _ _
   subst hge
   obtain ⟨hsz, hwf, h, hh, hR⟩ := HTAB.out k u hu
   have hS9 := hS.out
   have p0 := hS9.cell u0
   have p1 := hS9.cell u1
   have p2 := hS9.cell u2
   have p3 := hS9.cell u3
   obtain ⟨t0, t1, t2, -⟩ := (HX10.out.keep hS9).open3
   have hd : Since wr wr.drew := since_d (since_r _)
   have hAu : AtF wr.drew u ⟨u.op, u.n, ua, um, ud, va, vm, vd⟩ := (show AtF w12 u ⟨u.op, u.n, ua, um, ud, va, vm, vd⟩ from ⟨rfl, rfl, hFu⟩).since (Since.step hS9 hd)
   have KH := Lib.hid (holds_at N P u ⟨u.op, u.n, ua, um, ud, va, vm, vd⟩ t _ _ _ wr.drew (HTX.out.below (Since.step hS9 hd)) hAu (HTT.out.below (Since.step hS9 hd)) (by omega) hwf HT1.out.1 HT1.out.2)
   rw [hR] at KH
   simp only at KH
   have HH : Hid (LH.take (k + 1) = LH.take k ++ [h]) := Lib.hid (by rw [List.take_add_one, hh]; rfl)
   have hlen : (LH.take k).length + 1 ≤ 1000000000 := by rw [List.length_take]; omega
   clear hu hsz hwf hh hR hAu hFu u0 u1 u2 u3 hgS hg3 hcap
   generalize u.op = uo at *
   generalize u.n = un at *
   go_upto_region 14 with (fail)
   refine wp_region_noPanic ?_
   refine wp_region_held_drew (S := fun w' => w'.cell? ⟨G64, k * 4, none⟩ = some (.int .i64 uo) ∧ w'.cell? ⟨G64, k * 4 + 1, none⟩ = some (.int .i64 un) ∧ w'.cell? ⟨G64, k * 4 + 2, none⟩ = some (.slice ua um ud) ∧ w'.cell? ⟨G64, k * 4 + 3, none⟩ = some (.slice va vm vd) ∧ w'.cell? ⟨M10, 0, none⟩ = some (.slice b1 k1 j1) ∧ w'.cell? ⟨M10, 1, none⟩ = some (.slice b2 k2 j2) ∧ w'.cell? ⟨M10, 2, none⟩ = some (.slice b3 k3 j3)) (by kernel_rfl) ⟨hd.cell p0, hd.cell p1, hd.cell p2, hd.cell p3, hd.cell t0, hd.cell t1, hd.cell t2⟩ (fun hHeld => ?_)
   refine wpAnyH_take (i := 0) (oi := ⟨some 72, Op.move (Operand.tmp 9), 33, _, _, none⟩) (v := ?_) rfl (by kernel_rfl) (by kernel_rfl) (by kernel_rfl) (fun _ _ _ h => h) (Or.inl ⟨by rfl, ?_⟩) (by assumption) ?_
   rotate_left 1
   ·(intro w hSw; (try dsimp only at hSw); go_simp; first | done | with_reducible rfl)
   try simp only [Act.put, List.setIfInBounds_toArray, List.set_cons_zero, List.set_cons_succ]
   refine wpAnyH_take (i := 1) (oi := ⟨some 73, Op.move (Operand.tmp 16), 23, _, _, none⟩) (v := ?_) rfl (by kernel_rfl) (by kernel_rfl) (by kernel_rfl) (fun _ _ _ h => h) (Or.inl ⟨by rfl, ?_⟩) (by assumption) ?_
   rotate_left 1
   ·(intro w hSw; (try dsimp only at hSw); go_simp; first | done | with_reducible rfl)
   try simp only [Act.put, List.setIfInBounds_toArray, List.set_cons_zero, List.set_cons_succ]
   refine wpAnyH_take (i := 2) (oi := ⟨some 74, Op.move (Operand.tmp 18), 3, _, _, none⟩) (v := ?_) rfl (by kernel_rfl) (by kernel_rfl) (by kernel_rfl) (fun _ _ _ h => h) (Or.inl ⟨by rfl, ?_⟩) (by assumption) ?_
   rotate_left 1
   ·(intro w hSw; (try dsimp only at hSw); go_simp; first | done | with_reducible rfl)
   try simp only [Act.put, List.setIfInBounds_toArray, List.set_cons_zero, List.set_cons_succ]
   refine wpAnyH_take (i := 3) (oi := ⟨some 75, Op.indexAddr 23 (Operand.tmp 73) (Operand.tmp 74), 0, _, _, none⟩) (v := ?_) rfl (by kernel_rfl) (by kernel_rfl) (by kernel_rfl) (fun _ _ _ h => h) (Or.inl ⟨by rfl, ?_⟩) (by assumption) ?_
   rotate_left 1
   ·(intro w hSw; (try dsimp only at hSw); go_simp; first | done | with_reducible rfl)
   try simp only [Act.put, List.setIfInBounds_toArray, List.set_cons_zero, List.set_cons_succ]
   refine wpAnyH_take (i := 4) (oi := ⟨some 76, Op.load 29 (Operand.tmp 75), 29, _, _, none⟩) (v := ?_) rfl (by kernel_rfl) (by kernel_rfl) (by kernel_rfl) (fun _ _ _ h => h) (Or.inl ⟨by rfl, ?_⟩) (by assumption) ?_
   rotate_left 1
   ·(intro w hSw; (try dsimp only at hSw); go_simp; first | done | with_reducible rfl)
   try simp only [Act.put, List.setIfInBounds_toArray, List.set_cons_zero, List.set_cons_succ]
   refine wpAnyH_take (i := 5) (oi := ⟨some 77, Op.load 41 (Operand.tmp 14), 41, _, _, none⟩) (v := ?_) rfl (by kernel_rfl) (by kernel_rfl) (by kernel_rfl) (fun _ _ _ h => h) (Or.inl ⟨by rfl, ?_⟩) (by assumption) ?_
   rotate_left 1
   ·(intro w hSw; (try dsimp only at hSw); go_simp; first | done | with_reducible rfl)
   try simp only [Act.put, List.setIfInBounds_toArray, List.set_cons_zero, List.set_cons_succ]
   refine wpAnyH_ready (rs := [6]) (by kernel_rfl) (by simp) ?_
   refine AllReadyH.cons (o := { dst := some 78, op := Op.call { callee := Callee.value (Operand.func 23), args := #[Operand.tmp 72, Operand.tmp 76, Operand.tmp 77], argTypes := #[33, 29, 41] }, type := 44, pos := _, after := #[{ on := 0, ground := Ground.data }, { on := 4, ground := Ground.data }, { on := 5, ground := Ground.data }], guard := none }) rfl (fun K hK => ?_) AllReadyH.nil
   go_simp
   go_at_call 23
   refine KH.out.mono ?_
   rintro e v99 ⟨rfl, hB⟩
   have hr : Since wr v99 := Since.step hd hB
   try go_wp2_with fail
   refine hK.out _ _ ?_ (fun hHeld => ?_)
   ·exact ⟨hr.cell p0, hr.cell p1, hr.cell p2, hr.cell p3, hr.cell t0, hr.cell t1, hr.cell t2⟩
   clear hK K
   try simp only [Act.put, List.setIfInBounds_toArray, List.set_cons_zero, List.set_cons_succ]
   refine wpAnyH_take (i := 7) (oi := { dst := some 71, op := Op.move (Operand.tmp 78), type := 44, pos := _, after := #[{ on := 6, ground := Ground.data }], guard := none }) (v := ?_) rfl (by kernel_rfl) (by kernel_rfl) (by kernel_rfl) (fun _ _ _ h => h) (Or.inl ⟨by rfl, ?_⟩) (by assumption) ?_
   rotate_left 1
   ·(intro w hSw; (try dsimp only at hSw); go_simp; first | done | with_reducible rfl)
   try simp only [Act.put, List.setIfInBounds_toArray, List.set_cons_zero, List.set_cons_succ]
   refine wpAnyH_take (i := 8) (oi := ⟨some 79, Op.extract (Operand.tmp 71) 0, 4, _, _, none⟩) (v := ?_) rfl (by kernel_rfl) (by kernel_rfl) (by kernel_rfl) (fun _ _ _ h => h) (Or.inl ⟨by rfl, ?_⟩) (by assumption) ?_
   rotate_left 1
   ·(intro w hSw; (try dsimp only at hSw); go_simp; first | done | with_reducible rfl)
   try simp only [Act.put, List.setIfInBounds_toArray, List.set_cons_zero, List.set_cons_succ]
   refine wpAnyH_take (i := 9) (oi := ⟨some 80, Op.extract (Operand.tmp 71) 1, 25, _, _, none⟩) (v := ?_) rfl (by kernel_rfl) (by kernel_rfl) (by kernel_rfl) (fun _ _ _ h => h) (Or.inl ⟨by rfl, ?_⟩) (by assumption) ?_
   rotate_left 1
   ·(intro w hSw; (try dsimp only at hSw); go_simp; first | done | with_reducible rfl)
   try simp only [Act.put, List.setIfInBounds_toArray, List.set_cons_zero, List.set_cons_succ]
   refine wpAnyH_take (i := 10) (oi := ⟨some 19, Op.assign (Operand.tmp 79), 4, _, _, none⟩) (v := ?_) rfl (by kernel_rfl) (by kernel_rfl) (by kernel_rfl) (fun _ _ _ h => h) (Or.inl ⟨by rfl, ?_⟩) (by assumption) ?_
   rotate_left 1
   ·(intro w hSw; (try dsimp only at hSw); go_simp; first | done | with_reducible rfl)
   try simp only [Act.put, List.setIfInBounds_toArray, List.set_cons_zero, List.set_cons_succ]
   refine wpAnyH_take (i := 11) (oi := ⟨some 20, Op.assign (Operand.tmp 80), 25, _, _, none⟩) (v := ?_) rfl (by kernel_rfl) (by kernel_rfl) (by kernel_rfl) (fun _ _ _ h => h) (Or.inl ⟨by rfl, ?_⟩) (by assumption) ?_
   rotate_left 1
   ·(intro w hSw; (try dsimp only at hSw); go_simp; first | done | with_reducible rfl)
   try simp only [Act.put, List.setIfInBounds_toArray, List.set_cons_zero, List.set_cons_succ]
   refine wpAnyH_done (by kernel_rfl) ?_ _
   refine NoPanic.normal ?_
   have HS9 := Lib.hid (Since.step hS9 hr)
   have HO9 := Lib.hid (ROwn.below hO.out hr)
   have hzB : w12.heap.size ≤ v99.heap.size := HS9.out.size
   clear hd KH hB hr p0 p1 p2 p3 t0 t1 t2 hO hS hS9
   go_wp2_with (at_builtin; refine push_row_f rfl _ _ 68 rfl RBo 4 1 _ Tryz.underlying68 HIB.out rfl (by decide) w12.heap.size (.slice a m c) (LH.take k) [h] _ _ rfl rfl _ 1 rfl rfl rfl HO9.out hzB hlen ?_; intro aq lq cq wn hnn hOn hBn hPn)
   have HO7 : Hid (ROwn RBo 4 w12.heap.size wn (.slice aq lq cq) (LH.take (k + 1))) := Lib.hid (by rw [HH.out]; exact hOn.out)
   have HS7 : Hid (Since w12 wn) := Lib.hid (Below.trans HS9.out hBn.out)
   go_roundw
   case rel => exact ⟨k + 1, aq, lq, cq, by omega, rfl, by go_num, HO7, HS7⟩
   case measure => simp [intOf] <;> omega
  ·have jl1 : ¬ (k : Int) < 7 := by omega
   have hk7 : k = 7 := by omega
   subst hk7
   obtain ⟨x, y, z, hxyz⟩ := HLH.out
   have hO7 := hO.out
   rw [hxyz] at hO7
   have hm7 : m = 7 := hO7.els.len
   obtain ⟨b, e, hb, hcap, hat⟩ := hO7.els.get (j := 0) (by omega)
   subst e hm7
   have c0 : wr.cell? ⟨b, 0, none⟩ = some (.bool x) := hat 0 _ rfl 0 _ rfl
   have c1 : wr.cell? ⟨b, 1, none⟩ = some (.bool y) := hat 1 _ rfl 0 _ rfl
   have c2 : wr.cell? ⟨b, 2, none⟩ = some (.bool (!x)) := hat 2 _ rfl 0 _ rfl
   have c3 : wr.cell? ⟨b, 3, none⟩ = some (.bool (x && y)) := hat 3 _ rfl 0 _ rfl
   have c4 : wr.cell? ⟨b, 4, none⟩ = some (.bool (x || y)) := hat 4 _ rfl 0 _ rfl
   have c5 : wr.cell? ⟨b, 5, none⟩ = some (.bool z) := hat 5 _ rfl 0 _ rfl
   have c6 : wr.cell? ⟨b, 6, none⟩ = some (.bool z) := hat 6 _ rfl 0 _ rfl
   have KQ := Lib.hid fun W => KL.out W
   have HSE := Lib.hid (Since.step HS11.out hS.out)
   have hd : Since wr wr.drew := since_d (since_r _)
   clear hat hb hcap hO hS hO7 hxyz HLH KL HTAB HTX HTT HX10 HT1 HL
   go_upto_region 18 with (fail)
   have hrw : Since wr wr := since_r _
   rcases Bool.eq_false_or_eq_true x with rfl | rfl
   ·replace c0 : wr.cell? ⟨b, 0, none⟩ = some (.bool true) := c0
    replace c2 : wr.cell? ⟨b, 2, none⟩ = some (.bool false) := c2
    replace c3 : wr.cell? ⟨b, 3, none⟩ = some (.bool y) := c3
    replace c4 : wr.cell? ⟨b, 4, none⟩ = some (.bool true) := c4
    refine wp_region_noPanic ?_
    refine wp_region_held_drew (S := fun w' => w'.cell? ⟨b, 0, none⟩ = some (.bool true) ∧ w'.cell? ⟨b, 1, none⟩ = some (.bool y) ∧ w'.cell? ⟨b, 2, none⟩ = some (.bool false) ∧ w'.cell? ⟨b, 3, none⟩ = some (.bool y) ∧ w'.cell? ⟨b, 4, none⟩ = some (.bool true) ∧ w'.cell? ⟨b, 5, none⟩ = some (.bool z) ∧ w'.cell? ⟨b, 6, none⟩ = some (.bool z)) (by kernel_rfl) ⟨hd.cell c0, hd.cell c1, hd.cell c2, hd.cell c3, hd.cell c4, hd.cell c5, hd.cell c6⟩ (fun hHeld => ?_)
    refine wpAnyH_take (i := 0) (oi := ⟨some 87, Op.move (Operand.tmp 17), 68, _, _, none⟩) (v := ?_) rfl (by kernel_rfl) (by kernel_rfl) (by kernel_rfl) (fun _ _ _ h => h) (Or.inl ⟨by rfl, ?_⟩) (by assumption) ?_
    rotate_left 1
    ·(intro w hSw; (try dsimp only at hSw); go_simp; first | done | with_reducible rfl)
    try simp only [Act.put, List.setIfInBounds_toArray, List.set_cons_zero, List.set_cons_succ]
    refine wpAnyH_take (i := 1) (oi := ⟨some 88, Op.indexAddr 68 (Operand.tmp 87) (Operand.const (Value.int IntKind.i64 2)), 0, _, _, none⟩) (v := ?_) rfl (by kernel_rfl) (by kernel_rfl) (by kernel_rfl) (fun _ _ _ h => h) (Or.inl ⟨by rfl, ?_⟩) (by assumption) ?_
    rotate_left 1
    ·(intro w hSw; (try dsimp only at hSw); go_simp; first | done | with_reducible rfl)
    try simp only [Act.put, List.setIfInBounds_toArray, List.set_cons_zero, List.set_cons_succ]
    refine wpAnyH_take (i := 2) (oi := ⟨some 89, Op.load 4 (Operand.tmp 88), 4, _, _, none⟩) (v := ?_) rfl (by kernel_rfl) (by kernel_rfl) (by kernel_rfl) (fun _ _ _ h => h) (Or.inl ⟨by rfl, ?_⟩) (by assumption) ?_
    rotate_left 1
    ·(intro w hSw; (try dsimp only at hSw); go_simp; first | done | with_reducible rfl)
    try simp only [Act.put, List.setIfInBounds_toArray, List.set_cons_zero, List.set_cons_succ]
    refine wpAnyH_take (i := 3) (oi := ⟨some 90, Op.move (Operand.tmp 17), 68, _, _, none⟩) (v := ?_) rfl (by kernel_rfl) (by kernel_rfl) (by kernel_rfl) (fun _ _ _ h => h) (Or.inl ⟨by rfl, ?_⟩) (by assumption) ?_
    rotate_left 1
    ·(intro w hSw; (try dsimp only at hSw); go_simp; first | done | with_reducible rfl)
    try simp only [Act.put, List.setIfInBounds_toArray, List.set_cons_zero, List.set_cons_succ]
    refine wpAnyH_take (i := 4) (oi := ⟨some 91, Op.indexAddr 68 (Operand.tmp 90) (Operand.const (Value.int IntKind.i64 0)), 0, _, _, none⟩) (v := ?_) rfl (by kernel_rfl) (by kernel_rfl) (by kernel_rfl) (fun _ _ _ h => h) (Or.inl ⟨by rfl, ?_⟩) (by assumption) ?_
    rotate_left 1
    ·(intro w hSw; (try dsimp only at hSw); go_simp; first | done | with_reducible rfl)
    try simp only [Act.put, List.setIfInBounds_toArray, List.set_cons_zero, List.set_cons_succ]
    refine wpAnyH_take (i := 5) (oi := ⟨some 92, Op.load 4 (Operand.tmp 91), 4, _, _, none⟩) (v := ?_) rfl (by kernel_rfl) (by kernel_rfl) (by kernel_rfl) (fun _ _ _ h => h) (Or.inl ⟨by rfl, ?_⟩) (by assumption) ?_
    rotate_left 1
    ·(intro w hSw; (try dsimp only at hSw); go_simp; first | done | with_reducible rfl)
    try simp only [Act.put, List.setIfInBounds_toArray, List.set_cons_zero, List.set_cons_succ]
    refine wpAnyH_take (i := 6) (oi := ⟨some 93, Op.unOp UnOp.not 4 (Operand.tmp 92), 4, _, _, none⟩) (v := ?_) rfl (by kernel_rfl) (by kernel_rfl) (by kernel_rfl) (fun _ _ _ h => h) (Or.inl ⟨by rfl, ?_⟩) (by assumption) ?_
    rotate_left 1
    ·(intro w hSw; (try dsimp only at hSw); go_simp; first | done | with_reducible rfl)
    try simp only [Act.put, List.setIfInBounds_toArray, List.set_cons_zero, List.set_cons_succ]
    refine wpAnyH_take (i := 7) (oi := ⟨some 94, Op.binOp BinOp.eql 4 (Operand.tmp 89) (Operand.tmp 93) 4, 4, _, _, none⟩) (v := ?_) rfl (by kernel_rfl) (by kernel_rfl) (by kernel_rfl) (fun _ _ _ h => h) (Or.inl ⟨by rfl, ?_⟩) (by assumption) ?_
    rotate_left 1
    ·(intro w hSw; (try dsimp only at hSw); go_simp; first | done | with_reducible rfl)
    try simp only [Act.put, List.setIfInBounds_toArray, List.set_cons_zero, List.set_cons_succ]
    refine wpAnyH_take (i := 8) (oi := ⟨some 95, Op.move (Operand.tmp 94), 4, _, _, none⟩) (v := ?_) rfl (by kernel_rfl) (by kernel_rfl) (by kernel_rfl) (fun _ _ _ h => h) (Or.inl ⟨by rfl, ?_⟩) (by assumption) ?_
    rotate_left 1
    ·(intro w hSw; (try dsimp only at hSw); go_simp; first | done | with_reducible rfl)
    try simp only [Act.put, List.setIfInBounds_toArray, List.set_cons_zero, List.set_cons_succ]
    refine wpAnyH_take (i := 9) (oi := ⟨some 96, Op.move (Operand.tmp 17), 68, _, _, some (8, true)⟩) (v := ?_) rfl (by kernel_rfl) (by kernel_rfl) (by kernel_rfl) (fun _ _ _ h => h) (Or.inl ⟨by rfl, ?_⟩) (by assumption) ?_
    rotate_left 1
    ·(intro w hSw; (try dsimp only at hSw); go_simp; first | done | with_reducible rfl)
    try simp only [Act.put, List.setIfInBounds_toArray, List.set_cons_zero, List.set_cons_succ]
    refine wpAnyH_take (i := 10) (oi := ⟨some 97, Op.indexAddr 68 (Operand.tmp 96) (Operand.const (Value.int IntKind.i64 3)), 0, _, _, some (8, true)⟩) (v := ?_) rfl (by kernel_rfl) (by kernel_rfl) (by kernel_rfl) (fun _ _ _ h => h) (Or.inl ⟨by rfl, ?_⟩) (by assumption) ?_
    rotate_left 1
    ·(intro w hSw; (try dsimp only at hSw); go_simp; first | done | with_reducible rfl)
    try simp only [Act.put, List.setIfInBounds_toArray, List.set_cons_zero, List.set_cons_succ]
    refine wpAnyH_take (i := 11) (oi := ⟨some 98, Op.load 4 (Operand.tmp 97), 4, _, _, some (8, true)⟩) (v := ?_) rfl (by kernel_rfl) (by kernel_rfl) (by kernel_rfl) (fun _ _ _ h => h) (Or.inl ⟨by rfl, ?_⟩) (by assumption) ?_
    rotate_left 1
    ·(intro w hSw; (try dsimp only at hSw); go_simp; first | done | with_reducible rfl)
    try simp only [Act.put, List.setIfInBounds_toArray, List.set_cons_zero, List.set_cons_succ]
    refine wpAnyH_take (i := 12) (oi := ⟨some 99, Op.move (Operand.tmp 17), 68, _, _, some (8, true)⟩) (v := ?_) rfl (by kernel_rfl) (by kernel_rfl) (by kernel_rfl) (fun _ _ _ h => h) (Or.inl ⟨by rfl, ?_⟩) (by assumption) ?_
    rotate_left 1
    ·(intro w hSw; (try dsimp only at hSw); go_simp; first | done | with_reducible rfl)
    try simp only [Act.put, List.setIfInBounds_toArray, List.set_cons_zero, List.set_cons_succ]
    refine wpAnyH_take (i := 13) (oi := ⟨some 100, Op.indexAddr 68 (Operand.tmp 99) (Operand.const (Value.int IntKind.i64 0)), 0, _, _, some (8, true)⟩) (v := ?_) rfl (by kernel_rfl) (by kernel_rfl) (by kernel_rfl) (fun _ _ _ h => h) (Or.inl ⟨by rfl, ?_⟩) (by assumption) ?_
    rotate_left 1
    ·(intro w hSw; (try dsimp only at hSw); go_simp; first | done | with_reducible rfl)
    try simp only [Act.put, List.setIfInBounds_toArray, List.set_cons_zero, List.set_cons_succ]
    refine wpAnyH_take (i := 14) (oi := ⟨some 101, Op.load 4 (Operand.tmp 100), 4, _, _, some (8, true)⟩) (v := ?_) rfl (by kernel_rfl) (by kernel_rfl) (by kernel_rfl) (fun _ _ _ h => h) (Or.inl ⟨by rfl, ?_⟩) (by assumption) ?_
    rotate_left 1
    ·(intro w hSw; (try dsimp only at hSw); go_simp; first | done | with_reducible rfl)
    try simp only [Act.put, List.setIfInBounds_toArray, List.set_cons_zero, List.set_cons_succ]
    refine wpAnyH_take (i := 15) (oi := ⟨some 102, Op.move (Operand.tmp 101), 4, _, _, some (8, true)⟩) (v := ?_) rfl (by kernel_rfl) (by kernel_rfl) (by kernel_rfl) (fun _ _ _ h => h) (Or.inl ⟨by rfl, ?_⟩) (by assumption) ?_
    rotate_left 1
    ·(intro w hSw; (try dsimp only at hSw); go_simp; first | done | with_reducible rfl)
    try simp only [Act.put, List.setIfInBounds_toArray, List.set_cons_zero, List.set_cons_succ]
    refine wpAnyH_take (i := 16) (oi := ⟨some 103, Op.move (Operand.tmp 17), 68, _, _, some (15, true)⟩) (v := ?_) rfl (by kernel_rfl) (by kernel_rfl) (by kernel_rfl) (fun _ _ _ h => h) (Or.inl ⟨by rfl, ?_⟩) (by assumption) ?_
    rotate_left 1
    ·(intro w hSw; (try dsimp only at hSw); go_simp; first | done | with_reducible rfl)
    try simp only [Act.put, List.setIfInBounds_toArray, List.set_cons_zero, List.set_cons_succ]
    refine wpAnyH_take (i := 17) (oi := ⟨some 104, Op.indexAddr 68 (Operand.tmp 103) (Operand.const (Value.int IntKind.i64 1)), 0, _, _, some (15, true)⟩) (v := ?_) rfl (by kernel_rfl) (by kernel_rfl) (by kernel_rfl) (fun _ _ _ h => h) (Or.inl ⟨by rfl, ?_⟩) (by assumption) ?_
    rotate_left 1
    ·(intro w hSw; (try dsimp only at hSw); go_simp; first | done | with_reducible rfl)
    try simp only [Act.put, List.setIfInBounds_toArray, List.set_cons_zero, List.set_cons_succ]
    refine wpAnyH_take (i := 18) (oi := ⟨some 105, Op.load 4 (Operand.tmp 104), 4, _, _, some (15, true)⟩) (v := ?_) rfl (by kernel_rfl) (by kernel_rfl) (by kernel_rfl) (fun _ _ _ h => h) (Or.inl ⟨by rfl, ?_⟩) (by assumption) ?_
    rotate_left 1
    ·(intro w hSw; (try dsimp only at hSw); go_simp; first | done | with_reducible rfl)
    try simp only [Act.put, List.setIfInBounds_toArray, List.set_cons_zero, List.set_cons_succ]
    refine wpAnyH_take (i := 19) (oi := ⟨some 106, Op.pick (Operand.tmp 102) (Operand.tmp 105) (Operand.const (Value.bool false)), 4, _, _, some (8, true)⟩) (v := ?_) rfl (by kernel_rfl) (by kernel_rfl) (by kernel_rfl) (fun _ _ _ h => h) (Or.inl ⟨by rfl, ?_⟩) (by assumption) ?_
    rotate_left 1
    ·(intro w hSw; (try dsimp only at hSw); go_simp; first | done | with_reducible rfl)
    try simp only [Act.put, List.setIfInBounds_toArray, List.set_cons_zero, List.set_cons_succ]
    refine wpAnyH_take (i := 20) (oi := ⟨some 107, Op.binOp BinOp.eql 4 (Operand.tmp 98) (Operand.tmp 106) 4, 4, _, _, some (8, true)⟩) (v := ?_) rfl (by kernel_rfl) (by kernel_rfl) (by kernel_rfl) (fun _ _ _ h => h) (Or.inl ⟨by rfl, ?_⟩) (by assumption) ?_
    rotate_left 1
    ·(intro w hSw; (try dsimp only at hSw); go_simp; first | done | with_reducible rfl)
    try simp only [Act.put, List.setIfInBounds_toArray, List.set_cons_zero, List.set_cons_succ]
    refine wpAnyH_take (i := 21) (oi := ⟨some 108, Op.pick (Operand.tmp 95) (Operand.tmp 107) (Operand.const (Value.bool false)), 4, _, _, none⟩) (v := ?_) rfl (by kernel_rfl) (by kernel_rfl) (by kernel_rfl) (fun _ _ _ h => h) (Or.inl ⟨by rfl, ?_⟩) (by assumption) ?_
    rotate_left 1
    ·(intro w hSw; (try dsimp only at hSw); go_simp; first | done | with_reducible rfl)
    try simp only [Act.put, List.setIfInBounds_toArray, List.set_cons_zero, List.set_cons_succ]
    refine wpAnyH_take (i := 22) (oi := ⟨some 109, Op.move (Operand.tmp 108), 4, _, _, none⟩) (v := ?_) rfl (by kernel_rfl) (by kernel_rfl) (by kernel_rfl) (fun _ _ _ h => h) (Or.inl ⟨by rfl, ?_⟩) (by assumption) ?_
    rotate_left 1
    ·(intro w hSw; (try dsimp only at hSw); go_simp; first | done | with_reducible rfl)
    try simp only [Act.put, List.setIfInBounds_toArray, List.set_cons_zero, List.set_cons_succ]
    refine wpAnyH_take (i := 23) (oi := ⟨some 110, Op.move (Operand.tmp 17), 68, _, _, some (22, true)⟩) (v := ?_) rfl (by kernel_rfl) (by kernel_rfl) (by kernel_rfl) (fun _ _ _ h => h) (Or.inl ⟨by rfl, ?_⟩) (by assumption) ?_
    rotate_left 1
    ·(intro w hSw; (try dsimp only at hSw); go_simp; first | done | with_reducible rfl)
    try simp only [Act.put, List.setIfInBounds_toArray, List.set_cons_zero, List.set_cons_succ]
    refine wpAnyH_take (i := 24) (oi := ⟨some 111, Op.indexAddr 68 (Operand.tmp 110) (Operand.const (Value.int IntKind.i64 4)), 0, _, _, some (22, true)⟩) (v := ?_) rfl (by kernel_rfl) (by kernel_rfl) (by kernel_rfl) (fun _ _ _ h => h) (Or.inl ⟨by rfl, ?_⟩) (by assumption) ?_
    rotate_left 1
    ·(intro w hSw; (try dsimp only at hSw); go_simp; first | done | with_reducible rfl)
    try simp only [Act.put, List.setIfInBounds_toArray, List.set_cons_zero, List.set_cons_succ]
    refine wpAnyH_take (i := 25) (oi := ⟨some 112, Op.load 4 (Operand.tmp 111), 4, _, _, some (22, true)⟩) (v := ?_) rfl (by kernel_rfl) (by kernel_rfl) (by kernel_rfl) (fun _ _ _ h => h) (Or.inl ⟨by rfl, ?_⟩) (by assumption) ?_
    rotate_left 1
    ·(intro w hSw; (try dsimp only at hSw); go_simp; first | done | with_reducible rfl)
    try simp only [Act.put, List.setIfInBounds_toArray, List.set_cons_zero, List.set_cons_succ]
    refine wpAnyH_take (i := 26) (oi := ⟨some 113, Op.move (Operand.tmp 17), 68, _, _, some (22, true)⟩) (v := ?_) rfl (by kernel_rfl) (by kernel_rfl) (by kernel_rfl) (fun _ _ _ h => h) (Or.inl ⟨by rfl, ?_⟩) (by assumption) ?_
    rotate_left 1
    ·(intro w hSw; (try dsimp only at hSw); go_simp; first | done | with_reducible rfl)
    try simp only [Act.put, List.setIfInBounds_toArray, List.set_cons_zero, List.set_cons_succ]
    refine wpAnyH_take (i := 27) (oi := ⟨some 114, Op.indexAddr 68 (Operand.tmp 113) (Operand.const (Value.int IntKind.i64 0)), 0, _, _, some (22, true)⟩) (v := ?_) rfl (by kernel_rfl) (by kernel_rfl) (by kernel_rfl) (fun _ _ _ h => h) (Or.inl ⟨by rfl, ?_⟩) (by assumption) ?_
    rotate_left 1
    ·(intro w hSw; (try dsimp only at hSw); go_simp; first | done | with_reducible rfl)
    try simp only [Act.put, List.setIfInBounds_toArray, List.set_cons_zero, List.set_cons_succ]
    refine wpAnyH_take (i := 28) (oi := ⟨some 115, Op.load 4 (Operand.tmp 114), 4, _, _, some (22, true)⟩) (v := ?_) rfl (by kernel_rfl) (by kernel_rfl) (by kernel_rfl) (fun _ _ _ h => h) (Or.inl ⟨by rfl, ?_⟩) (by assumption) ?_
    rotate_left 1
    ·(intro w hSw; (try dsimp only at hSw); go_simp; first | done | with_reducible rfl)
    try simp only [Act.put, List.setIfInBounds_toArray, List.set_cons_zero, List.set_cons_succ]
    refine wpAnyH_take (i := 29) (oi := ⟨some 116, Op.move (Operand.tmp 115), 4, _, _, some (22, true)⟩) (v := ?_) rfl (by kernel_rfl) (by kernel_rfl) (by kernel_rfl) (fun _ _ _ h => h) (Or.inl ⟨by rfl, ?_⟩) (by assumption) ?_
    rotate_left 1
    ·(intro w hSw; (try dsimp only at hSw); go_simp; first | done | with_reducible rfl)
    try simp only [Act.put, List.setIfInBounds_toArray, List.set_cons_zero, List.set_cons_succ]
    refine wpAnyH_take (i := 30) (oi := ⟨some 117, Op.move (Operand.tmp 17), 68, _, _, some (29, false)⟩) (v := undef) rfl (by kernel_rfl) (by kernel_rfl) (by kernel_rfl) (fun _ _ _ h => h) (Or.inr ⟨by rfl, rfl⟩) (by assumption) ?_
    try simp only [Act.put, List.setIfInBounds_toArray, List.set_cons_zero, List.set_cons_succ]
    refine wpAnyH_take (i := 31) (oi := ⟨some 118, Op.indexAddr 68 (Operand.tmp 117) (Operand.const (Value.int IntKind.i64 1)), 0, _, _, some (29, false)⟩) (v := undef) rfl (by kernel_rfl) (by kernel_rfl) (by kernel_rfl) (fun _ _ _ h => h) (Or.inr ⟨by rfl, rfl⟩) (by assumption) ?_
    try simp only [Act.put, List.setIfInBounds_toArray, List.set_cons_zero, List.set_cons_succ]
    refine wpAnyH_take (i := 32) (oi := ⟨some 119, Op.load 4 (Operand.tmp 118), 4, _, _, some (29, false)⟩) (v := undef) rfl (by kernel_rfl) (by kernel_rfl) (by kernel_rfl) (fun _ _ _ h => h) (Or.inr ⟨by rfl, rfl⟩) (by assumption) ?_
    try simp only [Act.put, List.setIfInBounds_toArray, List.set_cons_zero, List.set_cons_succ]
    refine wpAnyH_take (i := 33) (oi := ⟨some 120, Op.pick (Operand.tmp 116) (Operand.const (Value.bool true)) (Operand.tmp 119), 4, _, _, some (22, true)⟩) (v := ?_) rfl (by kernel_rfl) (by kernel_rfl) (by kernel_rfl) (fun _ _ _ h => h) (Or.inl ⟨by rfl, ?_⟩) (by assumption) ?_
    rotate_left 1
    ·(intro w hSw; (try dsimp only at hSw); go_simp; first | done | with_reducible rfl)
    try simp only [Act.put, List.setIfInBounds_toArray, List.set_cons_zero, List.set_cons_succ]
    refine wpAnyH_take (i := 34) (oi := ⟨some 121, Op.binOp BinOp.eql 4 (Operand.tmp 112) (Operand.tmp 120) 4, 4, _, _, some (22, true)⟩) (v := ?_) rfl (by kernel_rfl) (by kernel_rfl) (by kernel_rfl) (fun _ _ _ h => h) (Or.inl ⟨by rfl, ?_⟩) (by assumption) ?_
    rotate_left 1
    ·(intro w hSw; (try dsimp only at hSw); go_simp; first | done | with_reducible rfl)
    try simp only [Act.put, List.setIfInBounds_toArray, List.set_cons_zero, List.set_cons_succ]
    refine wpAnyH_take (i := 35) (oi := ⟨some 122, Op.pick (Operand.tmp 109) (Operand.tmp 121) (Operand.const (Value.bool false)), 4, _, _, none⟩) (v := ?_) rfl (by kernel_rfl) (by kernel_rfl) (by kernel_rfl) (fun _ _ _ h => h) (Or.inl ⟨by rfl, ?_⟩) (by assumption) ?_
    rotate_left 1
    ·(intro w hSw; (try dsimp only at hSw); go_simp; first | done | with_reducible rfl)
    try simp only [Act.put, List.setIfInBounds_toArray, List.set_cons_zero, List.set_cons_succ]
    refine wpAnyH_take (i := 36) (oi := ⟨some 123, Op.move (Operand.tmp 122), 4, _, _, none⟩) (v := ?_) rfl (by kernel_rfl) (by kernel_rfl) (by kernel_rfl) (fun _ _ _ h => h) (Or.inl ⟨by rfl, ?_⟩) (by assumption) ?_
    rotate_left 1
    ·(intro w hSw; (try dsimp only at hSw); go_simp; first | done | with_reducible rfl)
    try simp only [Act.put, List.setIfInBounds_toArray, List.set_cons_zero, List.set_cons_succ]
    refine wpAnyH_take (i := 37) (oi := ⟨some 124, Op.move (Operand.tmp 17), 68, _, _, some (36, true)⟩) (v := ?_) rfl (by kernel_rfl) (by kernel_rfl) (by kernel_rfl) (fun _ _ _ h => h) (Or.inl ⟨by rfl, ?_⟩) (by assumption) ?_
    rotate_left 1
    ·(intro w hSw; (try dsimp only at hSw); go_simp; first | done | with_reducible rfl)
    try simp only [Act.put, List.setIfInBounds_toArray, List.set_cons_zero, List.set_cons_succ]
    refine wpAnyH_take (i := 38) (oi := ⟨some 125, Op.indexAddr 68 (Operand.tmp 124) (Operand.const (Value.int IntKind.i64 5)), 0, _, _, some (36, true)⟩) (v := ?_) rfl (by kernel_rfl) (by kernel_rfl) (by kernel_rfl) (fun _ _ _ h => h) (Or.inl ⟨by rfl, ?_⟩) (by assumption) ?_
    rotate_left 1
    ·(intro w hSw; (try dsimp only at hSw); go_simp; first | done | with_reducible rfl)
    try simp only [Act.put, List.setIfInBounds_toArray, List.set_cons_zero, List.set_cons_succ]
    refine wpAnyH_take (i := 39) (oi := ⟨some 126, Op.load 4 (Operand.tmp 125), 4, _, _, some (36, true)⟩) (v := ?_) rfl (by kernel_rfl) (by kernel_rfl) (by kernel_rfl) (fun _ _ _ h => h) (Or.inl ⟨by rfl, ?_⟩) (by assumption) ?_
    rotate_left 1
    ·(intro w hSw; (try dsimp only at hSw); go_simp; first | done | with_reducible rfl)
    try simp only [Act.put, List.setIfInBounds_toArray, List.set_cons_zero, List.set_cons_succ]
    refine wpAnyH_take (i := 40) (oi := ⟨some 127, Op.move (Operand.tmp 17), 68, _, _, some (36, true)⟩) (v := ?_) rfl (by kernel_rfl) (by kernel_rfl) (by kernel_rfl) (fun _ _ _ h => h) (Or.inl ⟨by rfl, ?_⟩) (by assumption) ?_
    rotate_left 1
    ·(intro w hSw; (try dsimp only at hSw); go_simp; first | done | with_reducible rfl)
    try simp only [Act.put, List.setIfInBounds_toArray, List.set_cons_zero, List.set_cons_succ]
    refine wpAnyH_take (i := 41) (oi := ⟨some 128, Op.indexAddr 68 (Operand.tmp 127) (Operand.const (Value.int IntKind.i64 6)), 0, _, _, some (36, true)⟩) (v := ?_) rfl (by kernel_rfl) (by kernel_rfl) (by kernel_rfl) (fun _ _ _ h => h) (Or.inl ⟨by rfl, ?_⟩) (by assumption) ?_
    rotate_left 1
    ·(intro w hSw; (try dsimp only at hSw); go_simp; first | done | with_reducible rfl)
    try simp only [Act.put, List.setIfInBounds_toArray, List.set_cons_zero, List.set_cons_succ]
    refine wpAnyH_take (i := 42) (oi := ⟨some 129, Op.load 4 (Operand.tmp 128), 4, _, _, some (36, true)⟩) (v := ?_) rfl (by kernel_rfl) (by kernel_rfl) (by kernel_rfl) (fun _ _ _ h => h) (Or.inl ⟨by rfl, ?_⟩) (by assumption) ?_
    rotate_left 1
    ·(intro w hSw; (try dsimp only at hSw); go_simp; first | done | with_reducible rfl)
    try simp only [Act.put, List.setIfInBounds_toArray, List.set_cons_zero, List.set_cons_succ]
    refine wpAnyH_take (i := 43) (oi := ⟨some 130, Op.binOp BinOp.eql 4 (Operand.tmp 126) (Operand.tmp 129) 4, 4, _, _, some (36, true)⟩) (v := ?_) rfl (by kernel_rfl) (by kernel_rfl) (by kernel_rfl) (fun _ _ _ h => h) (Or.inl ⟨by rfl, ?_⟩) (by assumption) ?_
    rotate_left 1
    ·(intro w hSw; (try dsimp only at hSw); go_simp; first | done | with_reducible rfl)
    try simp only [Act.put, List.setIfInBounds_toArray, List.set_cons_zero, List.set_cons_succ]
    refine wpAnyH_take (i := 44) (oi := ⟨some 131, Op.pick (Operand.tmp 123) (Operand.tmp 130) (Operand.const (Value.bool false)), 4, _, _, none⟩) (v := ?_) rfl (by kernel_rfl) (by kernel_rfl) (by kernel_rfl) (fun _ _ _ h => h) (Or.inl ⟨by rfl, ?_⟩) (by assumption) ?_
    rotate_left 1
    ·(intro w hSw; (try dsimp only at hSw); go_simp; first | done | with_reducible rfl)
    try simp only [Act.put, List.setIfInBounds_toArray, List.set_cons_zero, List.set_cons_succ]
    refine wpAnyH_take (i := 45) (oi := ⟨some 132, Op.move (Operand.tmp 131), 4, _, _, none⟩) (v := ?_) rfl (by kernel_rfl) (by kernel_rfl) (by kernel_rfl) (fun _ _ _ h => h) (Or.inl ⟨by rfl, ?_⟩) (by assumption) ?_
    rotate_left 1
    ·(intro w hSw; (try dsimp only at hSw); go_simp; first | done | with_reducible rfl)
    try simp only [Act.put, List.setIfInBounds_toArray, List.set_cons_zero, List.set_cons_succ]
    refine wpAnyH_ready (rs := [46]) (by kernel_rfl) (by simp) ?_
    refine AllReadyH.cons (o := ⟨some 133, Op.call { callee := Callee.value (Operand.func 18), args := #[], argTypes := #[] }, 4, _, _, some (45, true)⟩) rfl (fun K hK => ?_) AllReadyH.nil
    go_simp
    go_at_call 18
    refine (KQ.out _).mono ?_
    rintro e v98 ⟨rfl, hB⟩
    have hr : Since wr v98 := Since.step hd hB
    try go_wp2_with fail
    refine hK.out _ _ ?_ (fun hHeld => ?_)
    ·exact ⟨hr.cell c0, hr.cell c1, hr.cell c2, hr.cell c3, hr.cell c4, hr.cell c5, hr.cell c6⟩
    clear hK K
    try simp only [Act.put, List.setIfInBounds_toArray, List.set_cons_zero, List.set_cons_succ]
    refine wpAnyH_take (i := 47) (oi := ⟨some 134, Op.pick (Operand.tmp 132) (Operand.tmp 133) (Operand.const (Value.bool false)), 4, _, _, none⟩) (v := ?_) rfl (by kernel_rfl) (by kernel_rfl) (by kernel_rfl) (fun _ _ _ h => h) (Or.inl ⟨by rfl, ?_⟩) (by assumption) ?_
    rotate_left 1
    ·(intro w hSw; (try dsimp only at hSw); go_simp; first | done | with_reducible rfl)
    try simp only [Act.put, List.setIfInBounds_toArray, List.set_cons_zero, List.set_cons_succ]
    refine wpAnyH_take (i := 48) (oi := ⟨some 8, Op.assign (Operand.tmp 134), 4, _, _, none⟩) (v := ?_) rfl (by kernel_rfl) (by kernel_rfl) (by kernel_rfl) (fun _ _ _ h => h) (Or.inl ⟨by rfl, ?_⟩) (by assumption) ?_
    rotate_left 1
    ·(intro w hSw; (try dsimp only at hSw); go_simp; first | done | with_reducible rfl)
    try simp only [Act.put, List.setIfInBounds_toArray, List.set_cons_zero, List.set_cons_succ]
    refine wpAnyH_done (by kernel_rfl) ?_ _
    refine NoPanic.normal ?_
    go_wp2
    go_ret
    exact ⟨rfl, Since.step HSE.out hr⟩
   ·replace c0 : wr.cell? ⟨b, 0, none⟩ = some (.bool false) := c0
    replace c2 : wr.cell? ⟨b, 2, none⟩ = some (.bool true) := c2
    replace c3 : wr.cell? ⟨b, 3, none⟩ = some (.bool false) := c3
    replace c4 : wr.cell? ⟨b, 4, none⟩ = some (.bool y) := c4
    refine wp_region_noPanic ?_
    refine wp_region_held_drew (S := fun w' => w'.cell? ⟨b, 0, none⟩ = some (.bool false) ∧ w'.cell? ⟨b, 1, none⟩ = some (.bool y) ∧ w'.cell? ⟨b, 2, none⟩ = some (.bool true) ∧ w'.cell? ⟨b, 3, none⟩ = some (.bool false) ∧ w'.cell? ⟨b, 4, none⟩ = some (.bool y) ∧ w'.cell? ⟨b, 5, none⟩ = some (.bool z) ∧ w'.cell? ⟨b, 6, none⟩ = some (.bool z)) (by kernel_rfl) ⟨hd.cell c0, hd.cell c1, hd.cell c2, hd.cell c3, hd.cell c4, hd.cell c5, hd.cell c6⟩ (fun hHeld => ?_)
    refine wpAnyH_take (i := 0) (oi := ⟨some 87, Op.move (Operand.tmp 17), 68, _, _, none⟩) (v := ?_) rfl (by kernel_rfl) (by kernel_rfl) (by kernel_rfl) (fun _ _ _ h => h) (Or.inl ⟨by rfl, ?_⟩) (by assumption) ?_
    rotate_left 1
    ·(intro w hSw; (try dsimp only at hSw); go_simp; first | done | with_reducible rfl)
    try simp only [Act.put, List.setIfInBounds_toArray, List.set_cons_zero, List.set_cons_succ]
    refine wpAnyH_take (i := 1) (oi := ⟨some 88, Op.indexAddr 68 (Operand.tmp 87) (Operand.const (Value.int IntKind.i64 2)), 0, _, _, none⟩) (v := ?_) rfl (by kernel_rfl) (by kernel_rfl) (by kernel_rfl) (fun _ _ _ h => h) (Or.inl ⟨by rfl, ?_⟩) (by assumption) ?_
    rotate_left 1
    ·(intro w hSw; (try dsimp only at hSw); go_simp; first | done | with_reducible rfl)
    try simp only [Act.put, List.setIfInBounds_toArray, List.set_cons_zero, List.set_cons_succ]
    refine wpAnyH_take (i := 2) (oi := ⟨some 89, Op.load 4 (Operand.tmp 88), 4, _, _, none⟩) (v := ?_) rfl (by kernel_rfl) (by kernel_rfl) (by kernel_rfl) (fun _ _ _ h => h) (Or.inl ⟨by rfl, ?_⟩) (by assumption) ?_
    rotate_left 1
    ·(intro w hSw; (try dsimp only at hSw); go_simp; first | done | with_reducible rfl)
    try simp only [Act.put, List.setIfInBounds_toArray, List.set_cons_zero, List.set_cons_succ]
    refine wpAnyH_take (i := 3) (oi := ⟨some 90, Op.move (Operand.tmp 17), 68, _, _, none⟩) (v := ?_) rfl (by kernel_rfl) (by kernel_rfl) (by kernel_rfl) (fun _ _ _ h => h) (Or.inl ⟨by rfl, ?_⟩) (by assumption) ?_
    rotate_left 1
    ·(intro w hSw; (try dsimp only at hSw); go_simp; first | done | with_reducible rfl)
    try simp only [Act.put, List.setIfInBounds_toArray, List.set_cons_zero, List.set_cons_succ]
    refine wpAnyH_take (i := 4) (oi := ⟨some 91, Op.indexAddr 68 (Operand.tmp 90) (Operand.const (Value.int IntKind.i64 0)), 0, _, _, none⟩) (v := ?_) rfl (by kernel_rfl) (by kernel_rfl) (by kernel_rfl) (fun _ _ _ h => h) (Or.inl ⟨by rfl, ?_⟩) (by assumption) ?_
    rotate_left 1
    ·(intro w hSw; (try dsimp only at hSw); go_simp; first | done | with_reducible rfl)
    try simp only [Act.put, List.setIfInBounds_toArray, List.set_cons_zero, List.set_cons_succ]
    refine wpAnyH_take (i := 5) (oi := ⟨some 92, Op.load 4 (Operand.tmp 91), 4, _, _, none⟩) (v := ?_) rfl (by kernel_rfl) (by kernel_rfl) (by kernel_rfl) (fun _ _ _ h => h) (Or.inl ⟨by rfl, ?_⟩) (by assumption) ?_
    rotate_left 1
    ·(intro w hSw; (try dsimp only at hSw); go_simp; first | done | with_reducible rfl)
    try simp only [Act.put, List.setIfInBounds_toArray, List.set_cons_zero, List.set_cons_succ]
    refine wpAnyH_take (i := 6) (oi := ⟨some 93, Op.unOp UnOp.not 4 (Operand.tmp 92), 4, _, _, none⟩) (v := ?_) rfl (by kernel_rfl) (by kernel_rfl) (by kernel_rfl) (fun _ _ _ h => h) (Or.inl ⟨by rfl, ?_⟩) (by assumption) ?_
    rotate_left 1
    ·(intro w hSw; (try dsimp only at hSw); go_simp; first | done | with_reducible rfl)
    try simp only [Act.put, List.setIfInBounds_toArray, List.set_cons_zero, List.set_cons_succ]
    refine wpAnyH_take (i := 7) (oi := ⟨some 94, Op.binOp BinOp.eql 4 (Operand.tmp 89) (Operand.tmp 93) 4, 4, _, _, none⟩) (v := ?_) rfl (by kernel_rfl) (by kernel_rfl) (by kernel_rfl) (fun _ _ _ h => h) (Or.inl ⟨by rfl, ?_⟩) (by assumption) ?_
    rotate_left 1
    ·(intro w hSw; (try dsimp only at hSw); go_simp; first | done | with_reducible rfl)
    try simp only [Act.put, List.setIfInBounds_toArray, List.set_cons_zero, List.set_cons_succ]
    refine wpAnyH_take (i := 8) (oi := ⟨some 95, Op.move (Operand.tmp 94), 4, _, _, none⟩) (v := ?_) rfl (by kernel_rfl) (by kernel_rfl) (by kernel_rfl) (fun _ _ _ h => h) (Or.inl ⟨by rfl, ?_⟩) (by assumption) ?_
    rotate_left 1
    ·(intro w hSw; (try dsimp only at hSw); go_simp; first | done | with_reducible rfl)
    try simp only [Act.put, List.setIfInBounds_toArray, List.set_cons_zero, List.set_cons_succ]
    refine wpAnyH_take (i := 9) (oi := ⟨some 96, Op.move (Operand.tmp 17), 68, _, _, some (8, true)⟩) (v := ?_) rfl (by kernel_rfl) (by kernel_rfl) (by kernel_rfl) (fun _ _ _ h => h) (Or.inl ⟨by rfl, ?_⟩) (by assumption) ?_
    rotate_left 1
    ·(intro w hSw; (try dsimp only at hSw); go_simp; first | done | with_reducible rfl)
    try simp only [Act.put, List.setIfInBounds_toArray, List.set_cons_zero, List.set_cons_succ]
    refine wpAnyH_take (i := 10) (oi := ⟨some 97, Op.indexAddr 68 (Operand.tmp 96) (Operand.const (Value.int IntKind.i64 3)), 0, _, _, some (8, true)⟩) (v := ?_) rfl (by kernel_rfl) (by kernel_rfl) (by kernel_rfl) (fun _ _ _ h => h) (Or.inl ⟨by rfl, ?_⟩) (by assumption) ?_
    rotate_left 1
    ·(intro w hSw; (try dsimp only at hSw); go_simp; first | done | with_reducible rfl)
    try simp only [Act.put, List.setIfInBounds_toArray, List.set_cons_zero, List.set_cons_succ]
    refine wpAnyH_take (i := 11) (oi := ⟨some 98, Op.load 4 (Operand.tmp 97), 4, _, _, some (8, true)⟩) (v := ?_) rfl (by kernel_rfl) (by kernel_rfl) (by kernel_rfl) (fun _ _ _ h => h) (Or.inl ⟨by rfl, ?_⟩) (by assumption) ?_
    rotate_left 1
    ·(intro w hSw; (try dsimp only at hSw); go_simp; first | done | with_reducible rfl)
    try simp only [Act.put, List.setIfInBounds_toArray, List.set_cons_zero, List.set_cons_succ]
    refine wpAnyH_take (i := 12) (oi := ⟨some 99, Op.move (Operand.tmp 17), 68, _, _, some (8, true)⟩) (v := ?_) rfl (by kernel_rfl) (by kernel_rfl) (by kernel_rfl) (fun _ _ _ h => h) (Or.inl ⟨by rfl, ?_⟩) (by assumption) ?_
    rotate_left 1
    ·(intro w hSw; (try dsimp only at hSw); go_simp; first | done | with_reducible rfl)
    try simp only [Act.put, List.setIfInBounds_toArray, List.set_cons_zero, List.set_cons_succ]
    refine wpAnyH_take (i := 13) (oi := ⟨some 100, Op.indexAddr 68 (Operand.tmp 99) (Operand.const (Value.int IntKind.i64 0)), 0, _, _, some (8, true)⟩) (v := ?_) rfl (by kernel_rfl) (by kernel_rfl) (by kernel_rfl) (fun _ _ _ h => h) (Or.inl ⟨by rfl, ?_⟩) (by assumption) ?_
    rotate_left 1
    ·(intro w hSw; (try dsimp only at hSw); go_simp; first | done | with_reducible rfl)
    try simp only [Act.put, List.setIfInBounds_toArray, List.set_cons_zero, List.set_cons_succ]
    refine wpAnyH_take (i := 14) (oi := ⟨some 101, Op.load 4 (Operand.tmp 100), 4, _, _, some (8, true)⟩) (v := ?_) rfl (by kernel_rfl) (by kernel_rfl) (by kernel_rfl) (fun _ _ _ h => h) (Or.inl ⟨by rfl, ?_⟩) (by assumption) ?_
    rotate_left 1
    ·(intro w hSw; (try dsimp only at hSw); go_simp; first | done | with_reducible rfl)
    try simp only [Act.put, List.setIfInBounds_toArray, List.set_cons_zero, List.set_cons_succ]
    refine wpAnyH_take (i := 15) (oi := ⟨some 102, Op.move (Operand.tmp 101), 4, _, _, some (8, true)⟩) (v := ?_) rfl (by kernel_rfl) (by kernel_rfl) (by kernel_rfl) (fun _ _ _ h => h) (Or.inl ⟨by rfl, ?_⟩) (by assumption) ?_
    rotate_left 1
    ·(intro w hSw; (try dsimp only at hSw); go_simp; first | done | with_reducible rfl)
    try simp only [Act.put, List.setIfInBounds_toArray, List.set_cons_zero, List.set_cons_succ]
    refine wpAnyH_take (i := 16) (oi := ⟨some 103, Op.move (Operand.tmp 17), 68, _, _, some (15, true)⟩) (v := undef) rfl (by kernel_rfl) (by kernel_rfl) (by kernel_rfl) (fun _ _ _ h => h) (Or.inr ⟨by rfl, rfl⟩) (by assumption) ?_
    try simp only [Act.put, List.setIfInBounds_toArray, List.set_cons_zero, List.set_cons_succ]
    refine wpAnyH_take (i := 17) (oi := ⟨some 104, Op.indexAddr 68 (Operand.tmp 103) (Operand.const (Value.int IntKind.i64 1)), 0, _, _, some (15, true)⟩) (v := undef) rfl (by kernel_rfl) (by kernel_rfl) (by kernel_rfl) (fun _ _ _ h => h) (Or.inr ⟨by rfl, rfl⟩) (by assumption) ?_
    try simp only [Act.put, List.setIfInBounds_toArray, List.set_cons_zero, List.set_cons_succ]
    refine wpAnyH_take (i := 18) (oi := ⟨some 105, Op.load 4 (Operand.tmp 104), 4, _, _, some (15, true)⟩) (v := undef) rfl (by kernel_rfl) (by kernel_rfl) (by kernel_rfl) (fun _ _ _ h => h) (Or.inr ⟨by rfl, rfl⟩) (by assumption) ?_
    try simp only [Act.put, List.setIfInBounds_toArray, List.set_cons_zero, List.set_cons_succ]
    refine wpAnyH_take (i := 19) (oi := ⟨some 106, Op.pick (Operand.tmp 102) (Operand.tmp 105) (Operand.const (Value.bool false)), 4, _, _, some (8, true)⟩) (v := ?_) rfl (by kernel_rfl) (by kernel_rfl) (by kernel_rfl) (fun _ _ _ h => h) (Or.inl ⟨by rfl, ?_⟩) (by assumption) ?_
    rotate_left 1
    ·(intro w hSw; (try dsimp only at hSw); go_simp; first | done | with_reducible rfl)
    try simp only [Act.put, List.setIfInBounds_toArray, List.set_cons_zero, List.set_cons_succ]
    refine wpAnyH_take (i := 20) (oi := ⟨some 107, Op.binOp BinOp.eql 4 (Operand.tmp 98) (Operand.tmp 106) 4, 4, _, _, some (8, true)⟩) (v := ?_) rfl (by kernel_rfl) (by kernel_rfl) (by kernel_rfl) (fun _ _ _ h => h) (Or.inl ⟨by rfl, ?_⟩) (by assumption) ?_
    rotate_left 1
    ·(intro w hSw; (try dsimp only at hSw); go_simp; first | done | with_reducible rfl)
    try simp only [Act.put, List.setIfInBounds_toArray, List.set_cons_zero, List.set_cons_succ]
    refine wpAnyH_take (i := 21) (oi := ⟨some 108, Op.pick (Operand.tmp 95) (Operand.tmp 107) (Operand.const (Value.bool false)), 4, _, _, none⟩) (v := ?_) rfl (by kernel_rfl) (by kernel_rfl) (by kernel_rfl) (fun _ _ _ h => h) (Or.inl ⟨by rfl, ?_⟩) (by assumption) ?_
    rotate_left 1
    ·(intro w hSw; (try dsimp only at hSw); go_simp; first | done | with_reducible rfl)
    try simp only [Act.put, List.setIfInBounds_toArray, List.set_cons_zero, List.set_cons_succ]
    refine wpAnyH_take (i := 22) (oi := ⟨some 109, Op.move (Operand.tmp 108), 4, _, _, none⟩) (v := ?_) rfl (by kernel_rfl) (by kernel_rfl) (by kernel_rfl) (fun _ _ _ h => h) (Or.inl ⟨by rfl, ?_⟩) (by assumption) ?_
    rotate_left 1
    ·(intro w hSw; (try dsimp only at hSw); go_simp; first | done | with_reducible rfl)
    try simp only [Act.put, List.setIfInBounds_toArray, List.set_cons_zero, List.set_cons_succ]
    refine wpAnyH_take (i := 23) (oi := ⟨some 110, Op.move (Operand.tmp 17), 68, _, _, some (22, true)⟩) (v := ?_) rfl (by kernel_rfl) (by kernel_rfl) (by kernel_rfl) (fun _ _ _ h => h) (Or.inl ⟨by rfl, ?_⟩) (by assumption) ?_
    rotate_left 1
    ·(intro w hSw; (try dsimp only at hSw); go_simp; first | done | with_reducible rfl)
    try simp only [Act.put, List.setIfInBounds_toArray, List.set_cons_zero, List.set_cons_succ]
    refine wpAnyH_take (i := 24) (oi := ⟨some 111, Op.indexAddr 68 (Operand.tmp 110) (Operand.const (Value.int IntKind.i64 4)), 0, _, _, some (22, true)⟩) (v := ?_) rfl (by kernel_rfl) (by kernel_rfl) (by kernel_rfl) (fun _ _ _ h => h) (Or.inl ⟨by rfl, ?_⟩) (by assumption) ?_
    rotate_left 1
    ·(intro w hSw; (try dsimp only at hSw); go_simp; first | done | with_reducible rfl)
    try simp only [Act.put, List.setIfInBounds_toArray, List.set_cons_zero, List.set_cons_succ]
    refine wpAnyH_take (i := 25) (oi := ⟨some 112, Op.load 4 (Operand.tmp 111), 4, _, _, some (22, true)⟩) (v := ?_) rfl (by kernel_rfl) (by kernel_rfl) (by kernel_rfl) (fun _ _ _ h => h) (Or.inl ⟨by rfl, ?_⟩) (by assumption) ?_
    rotate_left 1
    ·(intro w hSw; (try dsimp only at hSw); go_simp; first | done | with_reducible rfl)
    try simp only [Act.put, List.setIfInBounds_toArray, List.set_cons_zero, List.set_cons_succ]
    refine wpAnyH_take (i := 26) (oi := ⟨some 113, Op.move (Operand.tmp 17), 68, _, _, some (22, true)⟩) (v := ?_) rfl (by kernel_rfl) (by kernel_rfl) (by kernel_rfl) (fun _ _ _ h => h) (Or.inl ⟨by rfl, ?_⟩) (by assumption) ?_
    rotate_left 1
    ·(intro w hSw; (try dsimp only at hSw); go_simp; first | done | with_reducible rfl)
    try simp only [Act.put, List.setIfInBounds_toArray, List.set_cons_zero, List.set_cons_succ]
    refine wpAnyH_take (i := 27) (oi := ⟨some 114, Op.indexAddr 68 (Operand.tmp 113) (Operand.const (Value.int IntKind.i64 0)), 0, _, _, some (22, true)⟩) (v := ?_) rfl (by kernel_rfl) (by kernel_rfl) (by kernel_rfl) (fun _ _ _ h => h) (Or.inl ⟨by rfl, ?_⟩) (by assumption) ?_
    rotate_left 1
    ·(intro w hSw; (try dsimp only at hSw); go_simp; first | done | with_reducible rfl)
    try simp only [Act.put, List.setIfInBounds_toArray, List.set_cons_zero, List.set_cons_succ]
    refine wpAnyH_take (i := 28) (oi := ⟨some 115, Op.load 4 (Operand.tmp 114), 4, _, _, some (22, true)⟩) (v := ?_) rfl (by kernel_rfl) (by kernel_rfl) (by kernel_rfl) (fun _ _ _ h => h) (Or.inl ⟨by rfl, ?_⟩) (by assumption) ?_
    rotate_left 1
    ·(intro w hSw; (try dsimp only at hSw); go_simp; first | done | with_reducible rfl)
    try simp only [Act.put, List.setIfInBounds_toArray, List.set_cons_zero, List.set_cons_succ]
    refine wpAnyH_take (i := 29) (oi := ⟨some 116, Op.move (Operand.tmp 115), 4, _, _, some (22, true)⟩) (v := ?_) rfl (by kernel_rfl) (by kernel_rfl) (by kernel_rfl) (fun _ _ _ h => h) (Or.inl ⟨by rfl, ?_⟩) (by assumption) ?_
    rotate_left 1
    ·(intro w hSw; (try dsimp only at hSw); go_simp; first | done | with_reducible rfl)
    try simp only [Act.put, List.setIfInBounds_toArray, List.set_cons_zero, List.set_cons_succ]
    refine wpAnyH_take (i := 30) (oi := ⟨some 117, Op.move (Operand.tmp 17), 68, _, _, some (29, false)⟩) (v := ?_) rfl (by kernel_rfl) (by kernel_rfl) (by kernel_rfl) (fun _ _ _ h => h) (Or.inl ⟨by rfl, ?_⟩) (by assumption) ?_
    rotate_left 1
    ·(intro w hSw; (try dsimp only at hSw); go_simp; first | done | with_reducible rfl)
    try simp only [Act.put, List.setIfInBounds_toArray, List.set_cons_zero, List.set_cons_succ]
    refine wpAnyH_take (i := 31) (oi := ⟨some 118, Op.indexAddr 68 (Operand.tmp 117) (Operand.const (Value.int IntKind.i64 1)), 0, _, _, some (29, false)⟩) (v := ?_) rfl (by kernel_rfl) (by kernel_rfl) (by kernel_rfl) (fun _ _ _ h => h) (Or.inl ⟨by rfl, ?_⟩) (by assumption) ?_
    rotate_left 1
    ·(intro w hSw; (try dsimp only at hSw); go_simp; first | done | with_reducible rfl)
    try simp only [Act.put, List.setIfInBounds_toArray, List.set_cons_zero, List.set_cons_succ]
    refine wpAnyH_take (i := 32) (oi := ⟨some 119, Op.load 4 (Operand.tmp 118), 4, _, _, some (29, false)⟩) (v := ?_) rfl (by kernel_rfl) (by kernel_rfl) (by kernel_rfl) (fun _ _ _ h => h) (Or.inl ⟨by rfl, ?_⟩) (by assumption) ?_
    rotate_left 1
    ·(intro w hSw; (try dsimp only at hSw); go_simp; first | done | with_reducible rfl)
    try simp only [Act.put, List.setIfInBounds_toArray, List.set_cons_zero, List.set_cons_succ]
    refine wpAnyH_take (i := 33) (oi := ⟨some 120, Op.pick (Operand.tmp 116) (Operand.const (Value.bool true)) (Operand.tmp 119), 4, _, _, some (22, true)⟩) (v := ?_) rfl (by kernel_rfl) (by kernel_rfl) (by kernel_rfl) (fun _ _ _ h => h) (Or.inl ⟨by rfl, ?_⟩) (by assumption) ?_
    rotate_left 1
    ·(intro w hSw; (try dsimp only at hSw); go_simp; first | done | with_reducible rfl)
    try simp only [Act.put, List.setIfInBounds_toArray, List.set_cons_zero, List.set_cons_succ]
    refine wpAnyH_take (i := 34) (oi := ⟨some 121, Op.binOp BinOp.eql 4 (Operand.tmp 112) (Operand.tmp 120) 4, 4, _, _, some (22, true)⟩) (v := ?_) rfl (by kernel_rfl) (by kernel_rfl) (by kernel_rfl) (fun _ _ _ h => h) (Or.inl ⟨by rfl, ?_⟩) (by assumption) ?_
    rotate_left 1
    ·(intro w hSw; (try dsimp only at hSw); go_simp; first | done | with_reducible rfl)
    try simp only [Act.put, List.setIfInBounds_toArray, List.set_cons_zero, List.set_cons_succ]
    refine wpAnyH_take (i := 35) (oi := ⟨some 122, Op.pick (Operand.tmp 109) (Operand.tmp 121) (Operand.const (Value.bool false)), 4, _, _, none⟩) (v := ?_) rfl (by kernel_rfl) (by kernel_rfl) (by kernel_rfl) (fun _ _ _ h => h) (Or.inl ⟨by rfl, ?_⟩) (by assumption) ?_
    rotate_left 1
    ·(intro w hSw; (try dsimp only at hSw); go_simp; first | done | with_reducible rfl)
    try simp only [Act.put, List.setIfInBounds_toArray, List.set_cons_zero, List.set_cons_succ]
    refine wpAnyH_take (i := 36) (oi := ⟨some 123, Op.move (Operand.tmp 122), 4, _, _, none⟩) (v := ?_) rfl (by kernel_rfl) (by kernel_rfl) (by kernel_rfl) (fun _ _ _ h => h) (Or.inl ⟨by rfl, ?_⟩) (by assumption) ?_
    rotate_left 1
    ·(intro w hSw; (try dsimp only at hSw); go_simp; first | done | with_reducible rfl)
    try simp only [Act.put, List.setIfInBounds_toArray, List.set_cons_zero, List.set_cons_succ]
    refine wpAnyH_take (i := 37) (oi := ⟨some 124, Op.move (Operand.tmp 17), 68, _, _, some (36, true)⟩) (v := ?_) rfl (by kernel_rfl) (by kernel_rfl) (by kernel_rfl) (fun _ _ _ h => h) (Or.inl ⟨by rfl, ?_⟩) (by assumption) ?_
    rotate_left 1
    ·(intro w hSw; (try dsimp only at hSw); go_simp; first | done | with_reducible rfl)
    try simp only [Act.put, List.setIfInBounds_toArray, List.set_cons_zero, List.set_cons_succ]
    refine wpAnyH_take (i := 38) (oi := ⟨some 125, Op.indexAddr 68 (Operand.tmp 124) (Operand.const (Value.int IntKind.i64 5)), 0, _, _, some (36, true)⟩) (v := ?_) rfl (by kernel_rfl) (by kernel_rfl) (by kernel_rfl) (fun _ _ _ h => h) (Or.inl ⟨by rfl, ?_⟩) (by assumption) ?_
    rotate_left 1
    ·(intro w hSw; (try dsimp only at hSw); go_simp; first | done | with_reducible rfl)
    try simp only [Act.put, List.setIfInBounds_toArray, List.set_cons_zero, List.set_cons_succ]
    refine wpAnyH_take (i := 39) (oi := ⟨some 126, Op.load 4 (Operand.tmp 125), 4, _, _, some (36, true)⟩) (v := ?_) rfl (by kernel_rfl) (by kernel_rfl) (by kernel_rfl) (fun _ _ _ h => h) (Or.inl ⟨by rfl, ?_⟩) (by assumption) ?_
    rotate_left 1
    ·(intro w hSw; (try dsimp only at hSw); go_simp; first | done | with_reducible rfl)
    try simp only [Act.put, List.setIfInBounds_toArray, List.set_cons_zero, List.set_cons_succ]
    refine wpAnyH_take (i := 40) (oi := ⟨some 127, Op.move (Operand.tmp 17), 68, _, _, some (36, true)⟩) (v := ?_) rfl (by kernel_rfl) (by kernel_rfl) (by kernel_rfl) (fun _ _ _ h => h) (Or.inl ⟨by rfl, ?_⟩) (by assumption) ?_
    rotate_left 1
    ·(intro w hSw; (try dsimp only at hSw); go_simp; first | done | with_reducible rfl)
    try simp only [Act.put, List.setIfInBounds_toArray, List.set_cons_zero, List.set_cons_succ]
    refine wpAnyH_take (i := 41) (oi := ⟨some 128, Op.indexAddr 68 (Operand.tmp 127) (Operand.const (Value.int IntKind.i64 6)), 0, _, _, some (36, true)⟩) (v := ?_) rfl (by kernel_rfl) (by kernel_rfl) (by kernel_rfl) (fun _ _ _ h => h) (Or.inl ⟨by rfl, ?_⟩) (by assumption) ?_
    rotate_left 1
    ·(intro w hSw; (try dsimp only at hSw); go_simp; first | done | with_reducible rfl)
    try simp only [Act.put, List.setIfInBounds_toArray, List.set_cons_zero, List.set_cons_succ]
    refine wpAnyH_take (i := 42) (oi := ⟨some 129, Op.load 4 (Operand.tmp 128), 4, _, _, some (36, true)⟩) (v := ?_) rfl (by kernel_rfl) (by kernel_rfl) (by kernel_rfl) (fun _ _ _ h => h) (Or.inl ⟨by rfl, ?_⟩) (by assumption) ?_
    rotate_left 1
    ·(intro w hSw; (try dsimp only at hSw); go_simp; first | done | with_reducible rfl)
    try simp only [Act.put, List.setIfInBounds_toArray, List.set_cons_zero, List.set_cons_succ]
    refine wpAnyH_take (i := 43) (oi := ⟨some 130, Op.binOp BinOp.eql 4 (Operand.tmp 126) (Operand.tmp 129) 4, 4, _, _, some (36, true)⟩) (v := ?_) rfl (by kernel_rfl) (by kernel_rfl) (by kernel_rfl) (fun _ _ _ h => h) (Or.inl ⟨by rfl, ?_⟩) (by assumption) ?_
    rotate_left 1
    ·(intro w hSw; (try dsimp only at hSw); go_simp; first | done | with_reducible rfl)
    try simp only [Act.put, List.setIfInBounds_toArray, List.set_cons_zero, List.set_cons_succ]
    refine wpAnyH_take (i := 44) (oi := ⟨some 131, Op.pick (Operand.tmp 123) (Operand.tmp 130) (Operand.const (Value.bool false)), 4, _, _, none⟩) (v := ?_) rfl (by kernel_rfl) (by kernel_rfl) (by kernel_rfl) (fun _ _ _ h => h) (Or.inl ⟨by rfl, ?_⟩) (by assumption) ?_
    rotate_left 1
    ·(intro w hSw; (try dsimp only at hSw); go_simp; first | done | with_reducible rfl)
    try simp only [Act.put, List.setIfInBounds_toArray, List.set_cons_zero, List.set_cons_succ]
    refine wpAnyH_take (i := 45) (oi := ⟨some 132, Op.move (Operand.tmp 131), 4, _, _, none⟩) (v := ?_) rfl (by kernel_rfl) (by kernel_rfl) (by kernel_rfl) (fun _ _ _ h => h) (Or.inl ⟨by rfl, ?_⟩) (by assumption) ?_
    rotate_left 1
    ·(intro w hSw; (try dsimp only at hSw); go_simp; first | done | with_reducible rfl)
    try simp only [Act.put, List.setIfInBounds_toArray, List.set_cons_zero, List.set_cons_succ]
    refine wpAnyH_ready (rs := [46]) (by kernel_rfl) (by simp) ?_
    refine AllReadyH.cons (o := ⟨some 133, Op.call { callee := Callee.value (Operand.func 18), args := #[], argTypes := #[] }, 4, _, _, some (45, true)⟩) rfl (fun K hK => ?_) AllReadyH.nil
    go_simp
    go_at_call 18
    refine (KQ.out _).mono ?_
    rintro e v98 ⟨rfl, hB⟩
    have hr : Since wr v98 := Since.step hd hB
    try go_wp2_with fail
    refine hK.out _ _ ?_ (fun hHeld => ?_)
    ·exact ⟨hr.cell c0, hr.cell c1, hr.cell c2, hr.cell c3, hr.cell c4, hr.cell c5, hr.cell c6⟩
    clear hK K
    try simp only [Act.put, List.setIfInBounds_toArray, List.set_cons_zero, List.set_cons_succ]
    refine wpAnyH_take (i := 47) (oi := ⟨some 134, Op.pick (Operand.tmp 132) (Operand.tmp 133) (Operand.const (Value.bool false)), 4, _, _, none⟩) (v := ?_) rfl (by kernel_rfl) (by kernel_rfl) (by kernel_rfl) (fun _ _ _ h => h) (Or.inl ⟨by rfl, ?_⟩) (by assumption) ?_
    rotate_left 1
    ·(intro w hSw; (try dsimp only at hSw); go_simp; first | done | with_reducible rfl)
    try simp only [Act.put, List.setIfInBounds_toArray, List.set_cons_zero, List.set_cons_succ]
    refine wpAnyH_take (i := 48) (oi := ⟨some 8, Op.assign (Operand.tmp 134), 4, _, _, none⟩) (v := ?_) rfl (by kernel_rfl) (by kernel_rfl) (by kernel_rfl) (fun _ _ _ h => h) (Or.inl ⟨by rfl, ?_⟩) (by assumption) ?_
    rotate_left 1
    ·(intro w hSw; (try dsimp only at hSw); go_simp; first | done | with_reducible rfl)
    try simp only [Act.put, List.setIfInBounds_toArray, List.set_cons_zero, List.set_cons_succ]
    refine wpAnyH_done (by kernel_rfl) ?_ _
    refine NoPanic.normal ?_
    go_wp2
    go_ret
    exact ⟨rfl, Since.step HSE.out hr⟩
end Go.Proofs.YtgnloodmbgdgdaaGreat
