import Derived.Test.YtgnloodmbgdgdaaGreatFV20
namespace Go.Proofs.YtgnloodmbgdgdaaGreat
open Go.RowKit Go.Shelf
theorem Tryz.infoIvF : (Tryz.prog.info? 112).map (fun i => (i.zero, i.size, i.bytes)) = some (some (.agg #[.int .i64 0, .int .i64 0, .int .i64 0, .int .i64 0, .bool false, .bool false, .bool false, .bool false]), 8, 40) := by kernel_rfl
theorem i64F {a : Int} (h : I64 a) : (Lit.int .i64 a).wf = true := by
 have h1 := h.1
 have h2 := h.2
 simp [Lit.wf, IntKind.min, IntKind.max, IntKind.signed, IntKind.bits]
 omega
def SpoilFK (m : Nat) : Prop := ∀ (f : Fo), f.size ≤ m → f.wfm 100000 → ∀ (x y z : Int), I64 x → I64 y → I64 z → ∀ (S0 : Nat → Prop) (c d : Value) (W : World), (∀ k, S0 k → k < W.heap.size) → FS S0 W f c d →
 Calls Tryz.prog 48 #[.agg #[.int .i64 f.op, .int .i64 f.n, c, d], .int .i64 x, .int .i64 y, .int .i64 z] W (FoOut S0 (spoilF m f x y z) W)
set_option maxHeartbeats 16000000 in
set_option maxRecDepth 100000 in
theorem spoilF_step (m : Nat) (hm : m ≤ 100000) (K : Hid (SpoilFK m)) : SpoilFK (m + 1) := by
 intro f hfs hwf x y z hx hy hz S0 c d W hS0 hT
 have hfw := (Fo.wfm_eq f).1 hwf
 have hsz := f.size_eq
 have hkl := Fo.sizes_len f.ks
 have hFr := hT.shape
 obtain ⟨op, n, is, ks⟩ := f
 simp only [Fo.op, Fo.n, Fo.is, Fo.ks] at *
 obtain ⟨⟨hE2, hL2⟩, hK⟩ := hT.parts
 obtain ⟨a2, c2, rfl⟩ := hE2.shape
 obtain ⟨rs, hr1, hr2, hr3, hr4⟩ := hK.rows
 obtain ⟨a3, c3, rfl⟩ := hr1.shape
 obtain ⟨W2, hW2⟩ : ∃ W2, W2 = (W.alloc (.cells #[.int .i64 op, .int .i64 n, .slice a2 is.length c2, .slice a3 rs.length c3] 29)).alloc (.cells #[.int .i64 0, .int .i64 0, .slice none 0 0, .slice none 0 0] 29) := ⟨_, rfl⟩
 have hB2 : Below W.heap.size W W2 := by rw [hW2]; exact ((Below.refl _ _).alloc (Nat.le_refl _) _).alloc (by simp) _
 have hX2 : BoxL W.heap.size [.int .i64 op, .int .i64 n, .slice a2 is.length c2, .slice a3 rs.length c3] W2 := by rw [hW2]; exact (BoxL.made W _ _).under _
 have hR2 : BoxL (W.heap.size + 1) [.int .i64 0, .int .i64 0, .slice none 0 0, .slice none 0 0] W2 := by
  rw [hW2]
  have := BoxL.made (W.alloc (.cells #[.int .i64 op, .int .i64 n, .slice a2 is.length c2, .slice a3 rs.length c3] 29)) #[.int .i64 0, .int .i64 0, .slice none 0 0, .slice none 0 0] 29
  rwa [World.size_alloc] at this
 have hz2 : W2.heap.size = W.heap.size + 2 := by rw [hW2, World.size_alloc, World.size_alloc]
 obtain ⟨W3, hW3⟩ : ∃ W3, W3 = W2.alloc (.cells #[] 29) := ⟨_, rfl⟩
 have hS3 : Since W2 W3 := by rw [hW3]; exact Since.alloc (since_r _) _
 have hO3 : ROwn RFo 29 (W.heap.size + 2) W3 (.slice (some ⟨W2.heap.size, 0, none⟩) 0 0) [] := by
  have := ROwn.new RFo 29 W2 [] #[] rfl (by unfold maxLen; simp)
  rw [← hW3] at this
  exact this.base (by omega)
 have hB3 : Below W.heap.size W W3 := hB2.trans (Below.mono hS3 hB2.size)
 have hX3 := hX2.keep hS3
 have hR3 := hR2.keep hS3
 have HRF := Lib.hid (hr1.low (hr2.low hS0) hB3).rfl'
 have HEI := Lib.hid fun (w : World) (h : Below W.heap.size W w) => (hE2.low (hL2.low hS0) h).rfl'
 have HR4 := Lib.hid hr4
 have HR3 := Lib.hid hr3
 have HS0 := Lib.hid hS0
 have HFW := Lib.hid hfw
 have HO3 := Lib.hid hO3
 have HB3 := Lib.hid hB3
 have HX3 := Lib.hid hX3
 have HRX3 := Lib.hid hR3
 have hz3 : W3.heap.size = W.heap.size + 3 := by rw [hW3, World.size_alloc, hz2]
 have hil : is.length ≤ 100000 := hfw.1.2
 have hrl : rs.length ≤ 100000 := by omega
 have hks1 : Fo.sizes ks ≤ m := by omega
 obtain ⟨p0, p1, p2, p3, pf0, pf1, pf2, pf3, hltp⟩ := hX2.all4
 have hne2 : W2.heap.size ≠ W.heap.size := by omega
 have hne3 : W2.heap.size ≠ W.heap.size + 1 := by omega
 have hz3' : W.heap.size + 2 ≤ W3.heap.size := by omega
 have hl1 : 0 + rs.length ≤ 1000000000 := by omega
 have HZ2 := Lib.hid hz2
 clear hX2 hR2 hX3 hR3 hB2 hB3 hS3 hO3 hr1 hr2 hr3 hr4 hE2 hL2 hK hT hFr hwf hfw hS0 hsz hfs hkl hz2 hz3
 have hx1 := hx.1; have hx2 := hx.2; have hy1 := hy.1; have hy2 := hy.2; have hz1 := hz.1; have hz22 := hz.2
 clear hx hy hz
 go_enter Tryz.func48, Tryz.ntmps48
 go_upto_region 1 with (fail)
 rw [← hW2]
 clear hW2
 go_upto_region 2 with (at_builtin; (try rw [← hW3]); refine push_rows_f rfl _ _ 23 rfl RFo 29 64 _ Tryz.underlying23 Tryz.infoFo rfl (by decide) (W.heap.size + 2) (.slice (some ⟨W2.heap.size, 0, none⟩) 0 0) [] rs _ rfl rfl HO3.out HRF.out hz3' hl1 ?_; intro ak lk ck wn hnn hOn hBn hPn; obtain ⟨y0, y1, y2, y3, g0, g1, g2, g3, -⟩ := (BoxL.far HX3.out (by simp [Value.ownBlock, hne2]) hPn.out).all4)
 obtain ⟨W4, hW4⟩ : ∃ W4, W4 = wn.setCell ⟨W.heap.size, 3, none⟩ (.slice ak lk ck) := ⟨_, rfl⟩
 have hok4 : ROwn RFo 29 (W.heap.size + 2) W4 (.slice ak lk ck) rs := by
  rw [hW4]
  have := hOn.out
  rw [List.nil_append] at this
  exact this.keepS fun g e _ => Below.heap_setCell _ _ _ _ (fun (e2 : g = W.heap.size) => by have := (this.lt g e).1; omega)
 have hX4 : BoxL W.heap.size [.int .i64 op, .int .i64 n, .slice a2 is.length c2, .slice ak lk ck] W4 := by rw [hW4]; exact (BoxL.far HX3.out (by simp [Value.ownBlock, hne2]) hPn.out).set1 3 _ (by simp)
 have hR4 : BoxL (W.heap.size + 1) [.int .i64 0, .int .i64 0, .slice none 0 0, .slice none 0 0] W4 := by rw [hW4]; exact (BoxL.far HRX3.out (by simp [Value.ownBlock, hne3]) hPn.out).other _ (by omega)
 have hB4 : Below W.heap.size W W4 := by rw [hW4]; exact (HB3.out.trans (hBn.out.mono (by omega))).setCell (p := ⟨W.heap.size, 3, none⟩) (Nat.le_refl _) _
 have hlk : lk = rs.length := by have := hnn.out; simpa using this
 rw [← hW4]
 clear y0 y1 y2 y3 g0 g1 g2 g3 p0 p1 p2 p3 pf0 pf1 pf2 pf3 hW4 hOn hPn hBn hnn HX3 HRX3 HB3 HO3 HRF hW3 hz3' hl1 hltp hne2 hne3
 have hz4 : W.heap.size + 2 ≤ W4.heap.size := by have := hR4.1; omega
 obtain ⟨W5, hW5⟩ : ∃ W5, W5 = W4.alloc (.cells #[] 112) := ⟨_, rfl⟩
 have hS5 : Since W4 W5 := by rw [hW5]; exact Since.alloc (since_r _) _
 have hz5 : W5.heap.size = W4.heap.size + 1 := by rw [hW5, World.size_alloc]
 have hO5 : ROwn RIv 112 (W.heap.size + 2) W5 (.slice (some ⟨W4.heap.size, 0, none⟩) 0 0) [] := by
  have := ROwn.new RIv 112 W4 [] #[] rfl (by unfold maxLen; simp)
  rw [← hW5] at this
  exact this.base hz4
 have hB5 : Below W.heap.size W W5 := hB4.trans (Below.mono hS5 hB4.size)
 have HO5 := Lib.hid hO5
 have HB5 := Lib.hid hB5
 have HX5 := Lib.hid (hX4.keep hS5)
 have HR5 := Lib.hid (hR4.keep hS5)
 have HK5 := Lib.hid (hok4.below hS5)
 have HKL := Lib.hid fun g e => (hok4.lt g e).2
 have HIF := Lib.hid (HEI.out _ hB5)
 have HLK0 := Lib.hid hlk
 have HZ5 := Lib.hid hz5
 obtain ⟨p0, p1, p2, p3, pf0, pf1, pf2, pf3, hltp⟩ := hX4.all4
 have hne4 : W4.heap.size ≠ W.heap.size := by omega
 have hne5 : W4.heap.size ≠ W.heap.size + 1 := by omega
 have hz5' : W.heap.size + 2 ≤ W5.heap.size := by omega
 have hl1 : 0 + is.length ≤ 1000000000 := by omega
 clear hok4 hX4 hR4 hB4 hlk hO5 hB5 hS5 HEI hz5
 go_upto_region 3 with (at_builtin; (try rw [← hW5]); refine push_rows_f rfl _ _ 27 rfl RIv 112 40 _ Tryz.underlying27 Tryz.infoIvF rfl (by decide) (W.heap.size + 2) (.slice (some ⟨W4.heap.size, 0, none⟩) 0 0) [] is _ rfl rfl HO5.out HIF.out hz5' hl1 ?_; intro ai li ci wn hnn hOn hBn hPn; obtain ⟨y0, y1, y2, y3, g0, g1, g2, g3, -⟩ := (BoxL.far HX5.out (by simp [Value.ownBlock, hne4]) hPn.out).all4)
 obtain ⟨W6, hW6⟩ : ∃ W6, W6 = wn.setCell ⟨W.heap.size, 2, none⟩ (.slice ai li ci) := ⟨_, rfl⟩
 have hSO : SO S0 W W6 op n (.slice ai li ci) (.slice ak lk ck) is rs ks := by
  have hoi : ROwn RIv 112 (W.heap.size + 2) wn (.slice ai li ci) is := by have := hOn.out; rwa [List.nil_append] at this
  have hok : ROwn RFo 29 (W.heap.size + 2) wn (.slice ak lk ck) rs := HK5.out.keepS fun g e hl => hPn.out.1.2 g (by simp only [Value.ownBlock, ne_eq, Option.some.injEq]; have := HKL.out g e; omega) hl
  have hns : ∀ g, g ≠ W.heap.size → W6.heap[g]? = wn.heap[g]? := fun g hg => by rw [hW6]; exact Below.heap_setCell _ _ _ _ hg
  refine SO.start ?_ (hoi.keepS fun g e _ => hns g (by have := (hoi.lt g e).1; omega)) (hok.keepS fun g e _ => hns g (by have := (hok.lt g e).1; omega)) (fun g e1 e2 => ?_) ?_ ?_ HS0.out HR3.out HR4.out
  ·rw [hW6]; exact (BoxL.far HX5.out (by simp [Value.ownBlock, hne4]) hPn.out).set1 2 _ (by simp)
  ·have h1 := HKL.out g e2
   rcases hPn.out.2 g e1 with h2 | h2
   ·simp [Value.ownBlock] at h2; omega
   ·have := HZ5.out; omega
  ·rw [hW6]; exact (BoxL.far HR5.out (by simp [Value.ownBlock, hne5]) hPn.out).other _ (by omega)
  ·rw [hW6]; exact (HB5.out.trans (hBn.out.mono (by omega))).setCell (p := ⟨W.heap.size, 2, none⟩) (Nat.le_refl _) _
 have HSO := Lib.hid hSO
 have HLK : Hid (lk = ks.length) := Lib.hid (HLK0.out.trans HR3.out)
 have HRK : Hid (rs.length = ks.length) := Lib.hid HR3.out
 rw [← hW6]
 clear y0 y1 y2 y3 g0 g1 g2 g3 p0 p1 p2 p3 pf0 pf1 pf2 pf3 hW6 hOn hPn hBn hnn HX5 HR5 HB5 HO5 HIF hW5 hz5' hl1 hltp hne4 hne5 HKL HK5 HZ5 hSO HR3 HR4 hz4 HLK0
 have KA := Lib.hid fun (v q : Int) (W' : World) (h1 : I64 v) (h2 : 1 ≤ q) (h3 : q ≤ 1000000) => around_any v q W' h2 (by omega) (i64F h1)
 obtain ⟨x0, x1, x2, x3, f0, f1, f2, f3, -⟩ := HSO.out.of.box.all4
 have hlk5 : lk ≤ 100000 := by have := HLK.out; have := HRK.out; omega
 go_cut [31] (fun s wx => ∃ b : Bool, s = .bool b ∧ Hid (b = true ↔ (0 < lk ∧ 0 < aroundI x 3)) ∧ W6 = wx)
 case first =>
  obtain ⟨ar, har⟩ : ∃ ar, ar = aroundI x 3 := ⟨_, rfl⟩
  have ka := KA.out x 3 W6 ⟨hx1, hx2⟩ (by decide) (by decide)
  rw [← har] at ka
  have HAR := Lib.hid har
  have KA3 := Lib.hid ka
  clear ka har
  by_cases h0 : 0 < lk
  ·have j0 : (lk : Int) > 0 := by omega
   go_wp2_with fail
   refine KA3.out.mono ?_
   rintro e _ ⟨rfl, rfl⟩
   go_wp2
   go_meet
   exact ⟨_, rfl, Lib.hid (by rw [← HAR.out]; simp [h0]), rfl⟩
  ·have j0 : ¬ (lk : Int) > 0 := by omega
   go_wp2
   go_meet
   exact ⟨_, rfl, Lib.hid (by rw [← HAR.out]; simp [h0]), rfl⟩
 case rest =>
 obtain ⟨b, rfl, hb, rfl⟩ := hcut
 have hspt : Hid (spoilF (m + 1) (.mk op n is ks) x y z = if 0 < ks.length ∧ 0 < aroundI x 3 then .mk op n is (ks.set (aroundI (IntKind.i64.wrap (x.tdiv 3)) ks.length).toNat (spoilF m (ks[(aroundI (IntKind.i64.wrap (x.tdiv 3)) ks.length).toNat]?.getD zeroF) (IntKind.i64.wrap (x.tdiv 9)) y z)) else spoilH (.mk op n is ks) (aroundI y 8) z) := Lib.hid rfl
 generalize spoilF (m + 1) (.mk op n is ks) x y z = res at *
 cases b
 case true =>
  obtain ⟨h0, ha3⟩ := hb.out.1 rfl
  clear hb
  have hres : res = .mk op n is (ks.set (aroundI (IntKind.i64.wrap (x.tdiv 3)) ks.length).toNat (spoilF m (ks[(aroundI (IntKind.i64.wrap (x.tdiv 3)) ks.length).toNat]?.getD zeroF) (IntKind.i64.wrap (x.tdiv 9)) y z)) := by rw [hspt.out, if_pos ⟨by have := HLK.out; omega, ha3⟩]
  obtain ⟨q3, hq3⟩ : ∃ q, q = IntKind.i64.wrap (x.tdiv 3) := ⟨_, rfl⟩
  obtain ⟨q9, hq9⟩ : ∃ q, q = IntKind.i64.wrap (x.tdiv 9) := ⟨_, rfl⟩
  have hi3 : I64 q3 := by rw [hq3, IntKind.wrap_i64]; exact ⟨by omega, by omega⟩
  have hi9 : I64 q9 := by rw [hq9, IntKind.wrap_i64]; exact ⟨by omega, by omega⟩
  rw [← hq3, ← hq9] at hres
  obtain ⟨k, hk, hkl⟩ := around_nat q3 lk h0
  have hk2 : (aroundI q3 ks.length).toNat = k := by rw [← HLK.out, hk]; rfl
  rw [hk2] at hres
  have ka := KA.out q3 lk W6 hi3 (by omega) (by omega)
  rw [hk] at ka
  have KA4 := Lib.hid ka
  have hq3' := hq3.symm
  have hq9' := hq9.symm
  clear hq3 hq9 ka hk hk2 ha3 hspt
  obtain ⟨g3, rfl, hg3, hcap3, hrow⟩ := HSO.out.of.ok.els.get hkl
  have hkr : k < rs.length := by have := HLK.out; have := HRK.out; omega
  obtain ⟨r, hr⟩ : ∃ r, rs[k]? = some r := ⟨_, List.getElem?_eq_getElem hkr⟩
  obtain ⟨u, hu⟩ : ∃ u, ks[k]? = some u := ⟨_, List.getElem?_eq_getElem (by have := HRK.out; omega)⟩
  rw [hu, Option.getD_some] at hres
  have hTu := HSO.out.of.lie.2 k r u hr hu
  have u0 := hrow k r hr 0 _ rfl
  have u1 := hrow k r hr 1 _ rfl
  have u2 := hrow k r hr 2 _ rfl
  have u3 := hrow k r hr 3 _ rfl
  obtain ⟨eo, en, ba, ma, da, bb, mb, db⟩ := r
  simp only at hTu u0 u1 u2 u3
  have u0 : W6.cell? ⟨g3, k * 4, none⟩ = some (.int .i64 eo) := u0
  have u1 : W6.cell? ⟨g3, k * 4 + 1, none⟩ = some (.int .i64 en) := u1
  have u2 : W6.cell? ⟨g3, k * 4 + 2, none⟩ = some (.slice ba ma da) := u2
  have u3 : W6.cell? ⟨g3, k * 4 + 3, none⟩ = some (.slice bb mb db) := u3
  have hmem := List.mem_of_getElem? hu
  have hus := Fo.sizes_mem hmem
  have hueo : u.op = eo := hTu.1
  have huen : u.n = en := hTu.2.1
  have kq := fun (W' : World) (h : Since W6 W') => K.out u (by omega) (HFW.out.2 u hmem) q9 y z hi9 ⟨hy1, hy2⟩ ⟨hz1, hz22⟩ (fun k => FreeF (SP S0 W) W.heap.size (.slice ai li ci) (.slice (some ⟨g3, 0, none⟩) lk ck) k ∧ k < W'.heap.size) _ _ W' (fun k hk => hk.2) (FSr.keep (S' := FreeF (SP S0 W) W.heap.size (.slice ai li ci) (.slice (some ⟨g3, 0, none⟩) lk ck)) hTu ⟨Below.size h, fun b _ hl => Below.block h b hl⟩ (fun b _ hb => hb.1)).2.2
  rw [hueo, huen] at kq
  have KQ := Lib.hid kq
  have HRES := Lib.hid hres
  have HU := Lib.hid hu
  clear kq hTu hrow hueo huen hres hu hr hmem hus
  go_upto_region 5 with (refine KA4.out.mono ?_; rintro e _ ⟨rfl, rfl⟩)
  have hSd : Since W6 W6.drew := Below.drew (Below.refl _ _)
  have v0 := Since.cell hSd u0
  have v1 := Since.cell hSd u1
  have v2 := Since.cell hSd u2
  have v3 := Since.cell hSd u3
  refine wp_region_noPanic ?_
  refine wp_region_held_drew (S := fun w' => w'.cell? ⟨W.heap.size, 3, none⟩ = some (.slice (some ⟨g3, 0, none⟩) lk ck)) (by kernel_rfl) (Since.cell hSd x3) (fun hHeld => ?_)
  refine wpAnyH_take (i := 0) (oi := ⟨some 38, Op.fieldAddr 29 (Operand.tmp 4) 3, 0, _, _, none⟩) (v := ?_) rfl (by kernel_rfl) (by kernel_rfl) (by kernel_rfl) (fun _ _ _ h => h) (Or.inl ⟨by rfl, ?_⟩) (by assumption) ?_
  rotate_left 1
  ·(intro w hSw; (try dsimp only at hSw); go_simp; first | done | with_reducible rfl)
  try simp only [Act.put, List.setIfInBounds_toArray, List.set_cons_zero, List.set_cons_succ]
  refine wpAnyH_take (i := 1) (oi := ⟨some 39, Op.load 23 (Operand.tmp 38), 23, _, _, none⟩) (v := ?_) rfl (by kernel_rfl) (by kernel_rfl) (by kernel_rfl) (fun _ _ _ h => h) (Or.inl ⟨by rfl, ?_⟩) (by assumption) ?_
  rotate_left 1
  ·(intro w hSw; (try dsimp only at hSw); go_simp; first | done | with_reducible rfl)
  try simp only [Act.put, List.setIfInBounds_toArray, List.set_cons_zero, List.set_cons_succ]
  refine wpAnyH_take (i := 2) (oi := ⟨some 40, Op.move (Operand.tmp 9), 3, _, _, none⟩) (v := ?_) rfl (by kernel_rfl) (by kernel_rfl) (by kernel_rfl) (fun _ _ _ h => h) (Or.inl ⟨by rfl, ?_⟩) (by assumption) ?_
  rotate_left 1
  ·(intro w hSw; (try dsimp only at hSw); go_simp; first | done | with_reducible rfl)
  try simp only [Act.put, List.setIfInBounds_toArray, List.set_cons_zero, List.set_cons_succ]
  refine wpAnyH_take (i := 3) (oi := ⟨some 41, Op.fieldAddr 29 (Operand.tmp 4) 3, 0, _, _, none⟩) (v := ?_) rfl (by kernel_rfl) (by kernel_rfl) (by kernel_rfl) (fun _ _ _ h => h) (Or.inl ⟨by rfl, ?_⟩) (by assumption) ?_
  rotate_left 1
  ·(intro w hSw; (try dsimp only at hSw); go_simp; first | done | with_reducible rfl)
  try simp only [Act.put, List.setIfInBounds_toArray, List.set_cons_zero, List.set_cons_succ]
  refine wpAnyH_take (i := 4) (oi := ⟨some 42, Op.load 23 (Operand.tmp 41), 23, _, _, none⟩) (v := ?_) rfl (by kernel_rfl) (by kernel_rfl) (by kernel_rfl) (fun _ _ _ h => h) (Or.inl ⟨by rfl, ?_⟩) (by assumption) ?_
  rotate_left 1
  ·(intro w hSw; (try dsimp only at hSw); go_simp; first | done | with_reducible rfl)
  try simp only [Act.put, List.setIfInBounds_toArray, List.set_cons_zero, List.set_cons_succ]
  refine wpAnyH_take (i := 5) (oi := ⟨some 43, Op.move (Operand.tmp 9), 3, _, _, none⟩) (v := ?_) rfl (by kernel_rfl) (by kernel_rfl) (by kernel_rfl) (fun _ _ _ h => h) (Or.inl ⟨by rfl, ?_⟩) (by assumption) ?_
  rotate_left 1
  ·(intro w hSw; (try dsimp only at hSw); go_simp; first | done | with_reducible rfl)
  try simp only [Act.put, List.setIfInBounds_toArray, List.set_cons_zero, List.set_cons_succ]
  refine wpAnyH_take (i := 6) (oi := ⟨some 44, Op.indexAddr 23 (Operand.tmp 42) (Operand.tmp 43), 0, _, _, none⟩) (v := ?_) rfl (by kernel_rfl) (by kernel_rfl) (by kernel_rfl) (fun _ _ _ h => h) (Or.inl ⟨by rfl, ?_⟩) (by assumption) ?_
  rotate_left 1
  ·(intro w hSw; (try dsimp only at hSw); go_simp; first | done | with_reducible rfl)
  try simp only [Act.put, List.setIfInBounds_toArray, List.set_cons_zero, List.set_cons_succ]
  refine wpAnyH_take (i := 8) (oi := ⟨some 46, Op.move (Operand.tmp 1), 3, _, _, none⟩) (v := ?_) rfl (by kernel_rfl) (by kernel_rfl) (by kernel_rfl) (fun _ _ _ h => h) (Or.inl ⟨by rfl, ?_⟩) (by assumption) ?_
  rotate_left 1
  ·(intro w hSw; (try dsimp only at hSw); go_simp; first | done | with_reducible rfl)
  try simp only [Act.put, List.setIfInBounds_toArray, List.set_cons_zero, List.set_cons_succ]
  refine wpAnyH_take (i := 9) (oi := ⟨some 47, Op.binOp BinOp.quo 3 (Operand.tmp 46) (Operand.const (Value.int IntKind.i64 9)) 3, 3, _, _, none⟩) (v := ?_) rfl (by kernel_rfl) (by kernel_rfl) (by kernel_rfl) (fun _ _ _ h => h) (Or.inl ⟨by rfl, ?_⟩) (by assumption) ?_
  rotate_left 1
  ·(intro w hSw; (try dsimp only at hSw); go_simp; first | done | with_reducible rfl)
  try simp only [Act.put, List.setIfInBounds_toArray, List.set_cons_zero, List.set_cons_succ]
  refine wpAnyH_take (i := 10) (oi := ⟨some 48, Op.move (Operand.tmp 2), 3, _, _, none⟩) (v := ?_) rfl (by kernel_rfl) (by kernel_rfl) (by kernel_rfl) (fun _ _ _ h => h) (Or.inl ⟨by rfl, ?_⟩) (by assumption) ?_
  rotate_left 1
  ·(intro w hSw; (try dsimp only at hSw); go_simp; first | done | with_reducible rfl)
  try simp only [Act.put, List.setIfInBounds_toArray, List.set_cons_zero, List.set_cons_succ]
  refine wpAnyH_take (i := 11) (oi := ⟨some 49, Op.move (Operand.tmp 3), 3, _, _, none⟩) (v := ?_) rfl (by kernel_rfl) (by kernel_rfl) (by kernel_rfl) (fun _ _ _ h => h) (Or.inl ⟨by rfl, ?_⟩) (by assumption) ?_
  rotate_left 1
  ·(intro w hSw; (try dsimp only at hSw); go_simp; first | done | with_reducible rfl)
  try simp only [Act.put, List.setIfInBounds_toArray, List.set_cons_zero, List.set_cons_succ]
  refine wpAnyH_ready (rs := [7]) (by kernel_rfl) (by simp) ?_
  refine AllReadyH.cons (o := ⟨some 45, Op.load 29 (Operand.tmp 44), 29, _, _, none⟩) rfl (fun K hK => ?_) AllReadyH.nil
  go_simp
  go_wp2_with fail
  refine hK.out _ _ ?_ (fun hHeld => ?_)
  ·exact Since.cell hSd x3
  clear hK K
  try simp only [Act.put, List.setIfInBounds_toArray, List.set_cons_zero, List.set_cons_succ]
  refine wpAnyH_ready (rs := [12]) (by kernel_rfl) (by simp) ?_
  refine AllReadyH.cons (o := ⟨some 50, Op.call { callee := Callee.value (Operand.func 48), args := #[Operand.tmp 45, Operand.tmp 47, Operand.tmp 48, Operand.tmp 49], argTypes := #[29, 3, 3, 3] }, 29, _, _, none⟩) rfl (fun K hK => ?_) AllReadyH.nil
  go_simp
  go_at_call 48
  refine (KQ.out _ hSd).mono ?_
  rintro e w7 ⟨⟨fo', fn', ba', ma', da', bb', mb', db'⟩, rfl, hT7, hB7⟩
  have hS7 := Since.step hSd hB7.out
  go_wp2_with fail
  refine hK.out _ _ ?_ (fun hHeld => ?_)
  ·exact Since.cell hS7 x3
  clear hK K
  try simp only [Act.put, List.setIfInBounds_toArray, List.set_cons_zero, List.set_cons_succ]
  have hO7 := HSO.out.frame hS7
  have v0' := Since.cell hS7 u0
  have v1' := Since.cell hS7 u1
  have v2' := Since.cell hS7 u2
  have v3' := Since.cell hS7 u3
  have fz0 := hO7.of.ok.frozenF (k * 4)
  have fz1 := hO7.of.ok.frozenF (k * 4 + 1)
  have fz2 := hO7.of.ok.frozenF (k * 4 + 2)
  have fz3 := hO7.of.ok.frozenF (k * 4 + 3)
  have hp7 := HSO.out.part (w' := w7) (fun k hk h => h.1.imp (fun h => h.1) (fun h => Nat.le_trans hSd.size h)) hT7.out
  have hg : W.heap.size ≤ g3 := (HSO.out.of.ok.lt g3 rfl).1
  have hU := hO7.updK (PF.put4 w7 g3 (k * 4) (k * 4 + 1) (k * 4 + 2) (k * 4 + 3) lk ck _ _ _ _) (hO7.of.ok.set4 k hkr ⟨fo', fn', ba', ma', da', bb', mb', db'⟩) (hO7.of.lie.set hp7 k) (((((Below.refl _ _).setCell (p := ⟨g3, k * 4, none⟩) hg _).setCell (p := ⟨g3, k * 4 + 1, none⟩) hg _).setCell (p := ⟨g3, k * 4 + 2, none⟩) hg _).setCell (p := ⟨g3, k * 4 + 3, none⟩) hg _)
  obtain ⟨y0, y1, y2, y3, -⟩ := hU.of.box.all4
  refine wpAnyH_take (i := 13) (oi := ⟨some 51, Op.indexAddr 23 (Operand.tmp 39) (Operand.tmp 40), 0, _, _, none⟩) (v := ?_) rfl (by kernel_rfl) (by kernel_rfl) (by kernel_rfl) (fun _ _ _ h => h) (Or.inl ⟨by rfl, ?_⟩) (by assumption) ?_
  rotate_left 1
  ·(intro w hSw; (try dsimp only at hSw); go_simp; first | done | with_reducible rfl)
  try simp only [Act.put, List.setIfInBounds_toArray, List.set_cons_zero, List.set_cons_succ]
  refine wpAnyH_ready (rs := [14]) (by kernel_rfl) (by simp) ?_
  refine AllReadyH.cons (o := ⟨none, Op.store 29 (Operand.tmp 51) (Operand.tmp 50), 0, _, _, none⟩) rfl (fun K hK => ?_) AllReadyH.nil
  go_simp
  go_wp2_with fail
  refine hK.out _ _ ?_ (fun hHeld => ?_)
  ·exact y3
  clear hK K
  try simp only [Act.put, List.setIfInBounds_toArray, List.set_cons_zero, List.set_cons_succ]
  refine wpAnyH_done (by kernel_rfl) ?_ _
  refine NoPanic.normal ?_
  obtain ⟨z0, z1, z2, z3, zf0, zf1, zf2, zf3, -⟩ := hU.bx.all4
  have hfin := hU.fin HS0.out HRES.out
  unfold put4 at hfin
  have HFI := Lib.hid hfin
  clear hfin
  go_wp2
  exact bodyPost_ret (v := .agg #[.int .i64 op, .int .i64 n, .slice ai li ci, .slice (some ⟨g3, 0, none⟩) lk ck]) (by simp [results, Tryz.results48, go_sem, z0, z1, z2, z3]) rfl HFI.out
 case false =>
  have hnb : ¬ (0 < ks.length ∧ 0 < aroundI x 3) := fun h => by have := hb.out.2 ⟨by have := HLK.out; omega, h.2⟩; cases this
  have hres : res = spoilH (.mk op n is ks) (aroundI y 8) z := by rw [hspt.out, if_neg hnb]
  clear hnb hb hspt
  obtain ⟨r, hr⟩ : ∃ r, r = aroundI y 8 := ⟨_, rfl⟩
  have hr8 := aroundI_range y 8 (by decide)
  have ka := KA.out y 8 W6 ⟨hy1, hy2⟩ (by decide) (by decide)
  rw [← hr] at ka hr8 hres
  clear hr
  have hr8 : r = 0 ∨ r = 1 ∨ r = 2 ∨ r = 3 ∨ r = 4 ∨ r = 5 ∨ r = 6 ∨ r = 7 := by omega
  have KA3 := Lib.hid ka
  have HRES := Lib.hid hres
  clear ka hres
  have hzB : W.heap.size ≤ W6.heap.size := HSO.out.bl.size
  have KS := Lib.hid fun (q : Int) (W' : World) (h2 : 1 ≤ q) (h3 : q ≤ 1000000) => (KA.out z q W' ⟨hz1, hz22⟩ h2 h3).mono fun e w' h => (⟨h.1, by rw [← h.2]; exact since_r _⟩ : e = .returned (.int .i64 (aroundI z q)) ∧ Since W' w')
  go_upto_region 8 with (refine KA3.out.mono ?_; rintro e _ ⟨rfl, rfl⟩)
  rcases hr8 with rfl | rfl | rfl | rfl | rfl | rfl | rfl | rfl
  ·
   have hbx := BoxL.made W6 #[.int .i64 z, .int .i64 (-1), .int .i64 7, .int .i64 0, .int .i64 4, .int .i64 6] 3
   have hs7 := Since.alloc (since_r W6) (.cells #[.int .i64 z, .int .i64 (-1), .int .i64 7, .int .i64 0, .int .i64 4, .int .i64 6] 3)
   have K7 := Lib.hid (KS.out 6 (W6.alloc (.cells #[.int .i64 z, .int .i64 (-1), .int .i64 7, .int .i64 0, .int .i64 4, .int .i64 6] 3)) (by decide) (by decide))
   have hq := aroundI_range z 6 (by decide)
   have hta : tabA z = if aroundI z 6 = 0 then z else if aroundI z 6 = 1 then -1 else if aroundI z 6 = 2 then 7 else if aroundI z 6 = 3 then 0 else if aroundI z 6 = 4 then 4 else 6 := rfl
   have HR2 : Hid (res = .mk (tabA z) n is ks) := Lib.hid (by rw [HRES.out]; rfl)
   generalize aroundI z 6 = q at *
   have HTA := Lib.hid hta
   have hq6 : q = 0 ∨ q = 1 ∨ q = 2 ∨ q = 3 ∨ q = 4 ∨ q = 5 := by omega
   clear KA KA3 hta HRES K hq x0 x1 x2 x3 f0 f1 f2 f3
   go_wp2_with fail
   refine K7.out.mono ?_
   rintro e w7 ⟨rfl, hS7⟩
   have hO7 := HSO.out.frame (Since.step hs7 hS7)
   have hbx7 := hbx.keep hS7
   have y0 := (hbx7.2 0 _ rfl).1
   have y1 := (hbx7.2 1 _ rfl).1
   have y2 := (hbx7.2 2 _ rfl).1
   have y3 := (hbx7.2 3 _ rfl).1
   have y4 := (hbx7.2 4 _ rfl).1
   have y5 := (hbx7.2 5 _ rfl).1
   have hU : ∀ v, tabA z = v → Hid (SO S0 W (w7.setCell ⟨W.heap.size, 0, none⟩ (.int .i64 v)) v n (.slice ai li ci) (.slice ak lk ck) is rs ks ∧ res = .mk v n is ks) := fun v hv => Lib.hid ⟨hO7.cell 0 (.int .i64 v) (by decide) rfl, by rw [HR2.out, hv]⟩
   have HU := Lib.hid hU
   obtain ⟨x0, x1, x2, x3, f0, f1, f2, f3, -⟩ := hO7.of.box.all4
   obtain ⟨z0, z1, z2, z3, zf0, zf1, zf2, zf3, -⟩ := hO7.bx.all4
   clear hU hO7 hbx7 hbx hs7 hS7 K7 HR2 HSO KS
   rcases hq6 with rfl | rfl | rfl | rfl | rfl | rfl
   all_goals
    have hu := (HU.out _ HTA.out).out
    simp only [Int.reduceEq, if_true, if_false] at hu
    have hfin := hu.1.fin HS0.out hu.2
    unfold put4 at hfin
    have HFI := Lib.hid hfin
    clear hu hfin HU HTA
    go_wp2
    exact bodyPost_ret (v := .agg #[.int .i64 _, .int .i64 n, .slice ai li ci, .slice ak lk ck]) (by simp [results, Tryz.results48, go_sem, z0, z1, z2, z3]) rfl HFI.out
  ·
   have hbx := BoxL.made W6 #[.int .i64 z, .int .i64 (-1), .int .i64 0, .int .i64 31, .int .i64 32, .int .i64 63, .int .i64 64] 3
   have hs7 := Since.alloc (since_r W6) (.cells #[.int .i64 z, .int .i64 (-1), .int .i64 0, .int .i64 31, .int .i64 32, .int .i64 63, .int .i64 64] 3)
   have K7 := Lib.hid (KS.out 7 (W6.alloc (.cells #[.int .i64 z, .int .i64 (-1), .int .i64 0, .int .i64 31, .int .i64 32, .int .i64 63, .int .i64 64] 3)) (by decide) (by decide))
   have hq := aroundI_range z 7 (by decide)
   have hta : tabB z = if aroundI z 7 = 0 then z else if aroundI z 7 = 1 then -1 else if aroundI z 7 = 2 then 0 else if aroundI z 7 = 3 then 31 else if aroundI z 7 = 4 then 32 else if aroundI z 7 = 5 then 63 else 64 := rfl
   have HR2 : Hid (res = .mk op (tabB z) is ks) := Lib.hid (by rw [HRES.out]; rfl)
   generalize aroundI z 7 = q at *
   have HTA := Lib.hid hta
   have hq6 : q = 0 ∨ q = 1 ∨ q = 2 ∨ q = 3 ∨ q = 4 ∨ q = 5 ∨ q = 6 := by omega
   clear KA KA3 hta HRES K hq x0 x1 x2 x3 f0 f1 f2 f3
   go_wp2_with fail
   refine K7.out.mono ?_
   rintro e w7 ⟨rfl, hS7⟩
   have hO7 := HSO.out.frame (Since.step hs7 hS7)
   have hbx7 := hbx.keep hS7
   have y0 := (hbx7.2 0 _ rfl).1
   have y1 := (hbx7.2 1 _ rfl).1
   have y2 := (hbx7.2 2 _ rfl).1
   have y3 := (hbx7.2 3 _ rfl).1
   have y4 := (hbx7.2 4 _ rfl).1
   have y5 := (hbx7.2 5 _ rfl).1
   have y6 := (hbx7.2 6 _ rfl).1
   have hU : ∀ v, tabB z = v → Hid (SO S0 W (w7.setCell ⟨W.heap.size, 1, none⟩ (.int .i64 v)) op v (.slice ai li ci) (.slice ak lk ck) is rs ks ∧ res = .mk op v is ks) := fun v hv => Lib.hid ⟨hO7.cell 1 (.int .i64 v) (by decide) rfl, by rw [HR2.out, hv]⟩
   have HU := Lib.hid hU
   obtain ⟨x0, x1, x2, x3, f0, f1, f2, f3, -⟩ := hO7.of.box.all4
   obtain ⟨z0, z1, z2, z3, zf0, zf1, zf2, zf3, -⟩ := hO7.bx.all4
   clear hU hO7 hbx7 hbx hs7 hS7 K7 HR2 HSO KS
   rcases hq6 with rfl | rfl | rfl | rfl | rfl | rfl | rfl
   all_goals
    have hu := (HU.out _ HTA.out).out
    simp only [Int.reduceEq, if_true, if_false] at hu
    have hfin := hu.1.fin HS0.out hu.2
    unfold put4 at hfin
    have HFI := Lib.hid hfin
    clear hu hfin HU HTA
    go_wp2
    exact bodyPost_ret (v := .agg #[.int .i64 op, .int .i64 _, .slice ai li ci, .slice ak lk ck]) (by simp [results, Tryz.results48, go_sem, z0, z1, z2, z3]) rfl HFI.out
  ·
   have HR2 : Hid (res = .mk op n (is ++ [⟨z, 1, 5, 1, false, false, false, false⟩]) ks) := Lib.hid (by rw [HRES.out]; rfl)
   have hl2 : is.length + 1 ≤ 1000000000 := by omega
   go_upto_region 32 with (at_builtin; refine push_row_f rfl _ _ 27 rfl RIv 112 40 _ Tryz.underlying27 Tryz.infoIvF rfl (by decide) W.heap.size (.slice ai li ci) is [⟨z, 1, 5, 1, false, false, false, false⟩] _ _ rfl rfl _ 1 rfl rfl rfl HSO.out.of.oi hzB hl2 ?_; intro a5 l5 c5 wn hnn hOn hBn hPn; obtain ⟨y0, y1, y2, y3, g0, g1, g2, g3, -⟩ := (HSO.out.of.thereI hPn.out).all4)
   have hU := HSO.out.setI hPn.out hOn.out hBn.out
   generalize wn.setCell ⟨W.heap.size, 2, none⟩ (.slice a5 l5 c5) = W7 at *
   clear x0 x1 x2 x3 f0 f1 f2 f3 y0 y1 y2 y3 g0 g1 g2 g3
   obtain ⟨x0, x1, x2, x3, f0, f1, f2, f3, -⟩ := hU.of.box.all4
   obtain ⟨z0, z1, z2, z3, zf0, zf1, zf2, zf3, -⟩ := hU.bx.all4
   have hfin := hU.fin HS0.out HR2.out
   unfold put4 at hfin
   have HFI := Lib.hid hfin
   clear hfin
   go_wp2
   exact bodyPost_ret (v := .agg #[.int .i64 op, .int .i64 n, .slice a5 l5 c5, .slice ak lk ck]) (by simp [results, Tryz.results48, go_sem, z0, z1, z2, z3]) rfl HFI.out
  ·
   have HR2 : Hid (res = .mk op n (is ++ is) ks) := Lib.hid (by rw [HRES.out]; rfl)
   have hl2 : is.length + is.length ≤ 1000000000 := by omega
   go_upto_region 32 with (at_builtin; refine push_rows_f rfl _ _ 27 rfl RIv 112 40 _ Tryz.underlying27 Tryz.infoIvF rfl (by decide) W.heap.size (.slice ai li ci) is is _ rfl rfl HSO.out.of.oi HSO.out.of.oi.els.rfl' hzB hl2 ?_; intro a5 l5 c5 wn hnn hOn hBn hPn; obtain ⟨y0, y1, y2, y3, g0, g1, g2, g3, -⟩ := (HSO.out.of.thereI hPn.out).all4)
   have hU := HSO.out.setI hPn.out hOn.out hBn.out
   generalize wn.setCell ⟨W.heap.size, 2, none⟩ (.slice a5 l5 c5) = W7 at *
   clear x0 x1 x2 x3 f0 f1 f2 f3 y0 y1 y2 y3 g0 g1 g2 g3
   obtain ⟨x0, x1, x2, x3, f0, f1, f2, f3, -⟩ := hU.of.box.all4
   obtain ⟨z0, z1, z2, z3, zf0, zf1, zf2, zf3, -⟩ := hU.bx.all4
   have hfin := hU.fin HS0.out HR2.out
   unfold put4 at hfin
   have HFI := Lib.hid hfin
   clear hfin
   go_wp2
   exact bodyPost_ret (v := .agg #[.int .i64 op, .int .i64 n, .slice a5 l5 c5, .slice ak lk ck]) (by simp [results, Tryz.results48, go_sem, z0, z1, z2, z3]) rfl HFI.out
  ·
   have HR2 : Hid (res = .mk op n is (ks ++ [zeroF])) := Lib.hid (by rw [HRES.out]; rfl)
   have hl2 : rs.length + 1 ≤ 1000000000 := by omega
   go_upto_region 32 with (at_builtin; refine push_row_f rfl _ _ 23 rfl RFo 29 64 _ Tryz.underlying23 Tryz.infoFo rfl (by decide) W.heap.size (.slice ak lk ck) rs [⟨0, 0, none, 0, 0, none, 0, 0⟩] _ _ rfl rfl _ 1 rfl rfl rfl HSO.out.of.ok hzB hl2 ?_; intro a5 l5 c5 wn hnn hOn hBn hPn; obtain ⟨y0, y1, y2, y3, g0, g1, g2, g3, -⟩ := (HSO.out.of.thereK hPn.out).all4)
   have hU := HSO.out.setK hPn.out hOn.out (HSO.out.of.lie.snoc (fsr_zero _ _)) hBn.out
   generalize wn.setCell ⟨W.heap.size, 3, none⟩ (.slice a5 l5 c5) = W7 at *
   clear x0 x1 x2 x3 f0 f1 f2 f3 y0 y1 y2 y3 g0 g1 g2 g3
   obtain ⟨x0, x1, x2, x3, f0, f1, f2, f3, -⟩ := hU.of.box.all4
   obtain ⟨z0, z1, z2, z3, zf0, zf1, zf2, zf3, -⟩ := hU.bx.all4
   have hfin := hU.fin HS0.out HR2.out
   unfold put4 at hfin
   have HFI := Lib.hid hfin
   clear hfin
   go_wp2
   exact bodyPost_ret (v := .agg #[.int .i64 op, .int .i64 n, .slice ai li ci, .slice a5 l5 c5]) (by simp [results, Tryz.results48, go_sem, z0, z1, z2, z3]) rfl HFI.out
  ·
   have HR2 : Hid (res = .mk op n is []) := Lib.hid (by rw [HRES.out]; rfl)
   have hU := HSO.out.setK (pf_nil (.slice ak lk ck) W6) (ROwn.nil _ _ _ _) (LieF.nil _ _) (Below.refl _ _)
   obtain ⟨W7, hW7⟩ : ∃ W7, W7 = W6.setCell ⟨W.heap.size, 3, none⟩ (.slice none 0 0) := ⟨_, rfl⟩
   rw [← hW7] at hU
   go_upto_region 32 with (fail)
   rw [← hW7]
   clear x0 x1 x2 x3 f0 f1 f2 f3 hW7
   obtain ⟨x0, x1, x2, x3, f0, f1, f2, f3, -⟩ := hU.of.box.all4
   obtain ⟨z0, z1, z2, z3, zf0, zf1, zf2, zf3, -⟩ := hU.bx.all4
   have hfin := hU.fin HS0.out HR2.out
   unfold put4 at hfin
   have HFI := Lib.hid hfin
   clear hfin
   go_wp2
   exact bodyPost_ret (v := .agg #[.int .i64 op, .int .i64 n, .slice ai li ci, .slice none 0 0]) (by simp [results, Tryz.results48, go_sem, z0, z1, z2, z3]) rfl HFI.out
  ·
   obtain ⟨k9, hk9, hk99⟩ := around_nat z 10 (by decide)
   have hk9' : aroundI z 10 = (k9 : Int) := hk9
   have HR2 : Hid (res = .mk 5 0 [] [.mk op n is ks, .mk 4 0 [] (List.replicate (85 + k9) zeroF)]) := Lib.hid (by rw [HRES.out]; show Fo.mk 5 0 [] [_, Fo.mk 4 0 [] (List.replicate (85 + (aroundI z 10).toNat) zeroF)] = _; rw [hk9', Int.toNat_natCast])
   have kb := fun W' => KA.out z 10 W' ⟨hz1, hz22⟩ (by decide) (by decide)
   rw [hk9'] at kb
   have KB := Lib.hid kb
   clear kb hk9 hk9' KA3 HRES KS KA K x0 x1 x2 x3 f0 f1 f2 f3
   obtain ⟨W7, hW7⟩ : ∃ W7, W7 = W6.alloc (.cells #[.int .i64 4, .int .i64 0, .slice none 0 0, .slice none 0 0] 29) := ⟨_, rfl⟩
   have hS7 : Since W6 W7 := by rw [hW7]; exact Since.alloc (since_r _) _
   have hM2 : W.heap.size + 2 ≤ W6.heap.size := by have := HSO.out.bx.1; omega
   have hO7 : OF (fun k => W.heap.size + 2 ≤ k) W6.heap.size W6.heap.size W7 4 0 (.slice none 0 0) (.slice none 0 0) [] [] [] := by rw [hW7]; exact OF.new _ _ _ _ _ (Nat.le_refl _)
   have HS7 := Lib.hid hS7
   have HO7 := Lib.hid hO7
   clear hS7 hO7
   go_upto_region 22 with (fail)
   rw [← hW7]
   clear hW7
   generalize hMM : W6.heap.size = M at *
   have HMM := Lib.hid hMM
   clear hMM
   go_wp2
   go_loopw [11] (fun v wr => ∃ (j : Nat) (b3 : Option Addr) (m3 d3 : Nat) (rs' : List Fr), j ≤ 85 + k9 ∧ v = .int .i64 j ∧ Hid (OF (fun k => W.heap.size + 2 ≤ k) M M wr 4 0 (.slice none 0 0) (.slice b3 m3 d3) [] rs' (List.replicate j zeroF)) ∧ Hid (Since W6 wr)) (fun v _ => 85 + k9 - (intOf v).toNat)
   case atStart => exact ⟨0, _, _, _, [], by omega, rfl, HO7, HS7⟩
   case round =>
    obtain ⟨j, b3, m3, d3, rs', hj, rfl, hO, hS⟩ := hrel
    clear HO7 HS7
    obtain ⟨x0, x1, x2, x3, f0, f1, f2, f3, -⟩ := hO.out.box.all4
    have hzB : M ≤ wr.heap.size := by have := hO.out.box.1; omega
    have hl1 : rs'.length + 1 ≤ 1000000000 := by have := hO.out.lie.1; rw [List.length_replicate] at this; omega
    have i9 : IntKind.i64.wrap (85 + (k9 : Int)) = 85 + (k9 : Int) := IntWalk.i64_in _ (by omega)
    by_cases hlt : j < 85 + k9
    ·have j1 : (j : Int) < 85 + (k9 : Int) := by omega
     go_wp2_with (first | (go_at_call 38; refine (KB.out _).mono ?_; rintro e _ ⟨rfl, rfl⟩) | (at_builtin; refine push_row_f rfl _ _ 23 rfl RFo 29 64 _ Tryz.underlying23 Tryz.infoFo rfl (by decide) M (.slice b3 m3 d3) rs' [⟨0, 0, none, 0, 0, none, 0, 0⟩] _ _ rfl rfl _ 1 rfl rfl rfl hO.out.ok hzB hl1 ?_; intro an' ln' cn' wn hnn hOn hBn hPn; obtain ⟨y0, y1, y2, y3, g0, g1, g2, g3, -⟩ := (hO.out.thereK hPn.out).all4))
     have hU := hO.out.setK hPn.out hOn.out (hO.out.lie.snoc (fsr_zero _ _))
     rw [← List.replicate_succ'] at hU
     have HU := Lib.hid hU
     have HSU : Hid (Since W6 (wn.setCell ⟨M, 3, none⟩ (.slice an' ln' cn'))) := Lib.hid ((Below.trans hS.out (hBn.out.mono (by rw [HMM.out]; exact Nat.le_refl _))).setCell (p := ⟨M, 3, none⟩) (by rw [HMM.out]; exact Nat.le_refl _) _)
     clear hU
     go_roundw
     case rel => exact ⟨j + 1, an', ln', cn', _, by omega, by go_num, HU, HSU⟩
     case measure => simp [intOf]; omega
    ·have j1 : ¬ (j : Int) < 85 + (k9 : Int) := by omega
     have hjk : j = 85 + k9 := by omega
     subst hjk
     have hSO' := HSO.out.frame hS.out
     go_upto_region 26 with (refine (KB.out _).mono ?_; rintro e _ ⟨rfl, rfl⟩)
     obtain ⟨p0, p1, p2, p3, pf0, pf1, pf2, pf3, -⟩ := hSO'.of.box.all4
     obtain ⟨z0, z1, z2, z3, zf0, zf1, zf2, zf3, hlt2⟩ := hSO'.bx.all4
     have hd1 : FSr (SP S0 W) wr (.mk op n is ks) ⟨op, n, ai, li, ci, ak, lk, ck⟩ := ⟨rfl, rfl, FS.mono (fun _ h => h.1) _ hSO'.done⟩
     have hd2 : FSr (SP S0 W) wr (.mk 4 0 [] (List.replicate (85 + k9) zeroF)) ⟨4, 0, none, 0, 0, b3, m3, d3⟩ := ⟨rfl, rfl, FS.mono (fun k h => ⟨.inr (by omega), by omega⟩) _ (hO.out.done (fun k h => by omega))⟩
     have hfin := two_fin hSO'.bl hlt2 hd1 hd2 29
     rw [← HR2.out] at hfin
     unfold put4 at hfin
     have HFI := Lib.hid hfin
     clear hfin hd1 hd2 hSO' hO hS
     go_wp2
     exact bodyPost_ret (v := .agg #[.int .i64 5, .int .i64 0, .slice none 0 0, .slice (some ⟨wr.heap.size, 0, none⟩) 2 2]) (by simp [results, Tryz.results48, go_sem, World.cell?_alloc_past, World.size_setCell, hlt2, z0, z1, z2, z3]) rfl HFI.out
  ·
   obtain ⟨k9, hk9, hk99⟩ := around_nat z 7 (by decide)
   have hk9' : aroundI z 7 = (k9 : Int) := hk9
   have HR2 : Hid (res = notN (1 + k9) (.mk op n is ks)) := Lib.hid (by rw [HRES.out]; show notN (1 + (aroundI z 7).toNat) _ = _; rw [hk9', Int.toNat_natCast])
   have kb := fun W' => KA.out z 7 W' ⟨hz1, hz22⟩ (by decide) (by decide)
   rw [hk9'] at kb
   have KB := Lib.hid kb
   have HD0 : Hid (FSr (fun k => (SP S0 W k ∧ k ≠ W.heap.size) ∧ k < W6.heap.size) W6 (notN 0 (.mk op n is ks)) ⟨op, n, ai, li, ci, ak, lk, ck⟩) := Lib.hid ⟨rfl, rfl, HSO.out.done2⟩
   have HX0 : Hid (BoxL W.heap.size [.int .i64 op, .int .i64 n, .slice ai li ci, .slice ak lk ck] W6) := Lib.hid HSO.out.of.box
   have HZ0 := Lib.hid HSO.out.bx
   have HB0 := Lib.hid HSO.out.bl
   clear kb hk9 hk9' KA3 HRES KS KA K x0 x1 x2 x3 f0 f1 f2 f3 HSO
   go_wp2
   go_loopw [12] (fun v wr => ∃ (j : Nat) (eo en : Int) (b2 b3 : Option Addr) (m2 d2 m3 d3 : Nat), j ≤ 1 + k9 ∧ v = .int .i64 j ∧ Hid (FSr (fun k => (SP S0 W k ∧ k ≠ W.heap.size) ∧ k < wr.heap.size) wr (notN j (.mk op n is ks)) ⟨eo, en, b2, m2, d2, b3, m3, d3⟩) ∧ Hid (BoxL W.heap.size [.int .i64 eo, .int .i64 en, .slice b2 m2 d2, .slice b3 m3 d3] wr) ∧ Hid (BoxL (W.heap.size + 1) [.int .i64 0, .int .i64 0, .slice none 0 0, .slice none 0 0] wr) ∧ Hid (Below W.heap.size W wr)) (fun v _ => 1 + k9 - (intOf v).toNat)
   case atStart => exact ⟨0, op, n, ai, ak, li, ci, lk, ck, by omega, rfl, HD0, HX0, HZ0, HB0⟩
   case round =>
    obtain ⟨j, eo, en, b2, b3, m2, d2, m3, d3, hj, rfl, hD, hX, hZ, hB⟩ := hrel
    clear HD0 HX0 HZ0 HB0
    obtain ⟨x0, x1, x2, x3, f0, f1, f2, f3, -⟩ := hX.out.all4
    obtain ⟨z0, z1, z2, z3, zf0, zf1, zf2, zf3, hlt2⟩ := hZ.out.all4
    have i9 : IntKind.i64.wrap (1 + (k9 : Int)) = 1 + (k9 : Int) := IntWalk.i64_in _ (by omega)
    by_cases hlt : j < 1 + k9
    ·have j1 : (j : Int) < 1 + (k9 : Int) := by omega
     have i2 : IntKind.i64.wrap ((j : Int) + 1) = ((j + 1 : Nat) : Int) := by rw [IntWalk.i64_in _ (by omega)]; omega
     have KR := Lib.hid (rnot_any _ _ wr hD.out)
     simp only at KR
     go_upto_region 31 with (refine (KB.out _).mono ?_; rintro e _ ⟨rfl, rfl⟩)
     go_wp2_with fail
     refine KR.out.mono ?_
     rintro e w5 ⟨⟨gop, gn, ga2, gn2, gc2, ga3, gn3, gc3⟩, rfl, hF5, hB5⟩
     have hX5 := hX.out.keep hB5.out
     have hZ5 := hZ.out.keep hB5.out
     obtain ⟨y0, y1, y2, y3, yf0, yf1, yf2, yf3, -⟩ := hX5.all4
     have hF6 := FSr.keep (S' := fun k => SP S0 W k ∧ k ≠ W.heap.size) hF5.out (put4_keep w5 W.heap.size (.int .i64 gop) (.int .i64 gn) (.slice ga2 gn2 gc2) (.slice ga3 gn3 gc3) fun k h => by rcases h.1 with h | h; (exact h.1.2); (have := hX.out.1; omega)) fun k _ h => by
      rcases h.1 with h | h
      ·exact h.1
      ·exact ⟨⟨.inr (by omega), by omega⟩, by omega⟩
     have HF6 : Hid (FSr (fun k => (SP S0 W k ∧ k ≠ W.heap.size) ∧ k < (put4 w5 W.heap.size (.int .i64 gop) (.int .i64 gn) (.slice ga2 gn2 gc2) (.slice ga3 gn3 gc3)).heap.size) (put4 w5 W.heap.size (.int .i64 gop) (.int .i64 gn) (.slice ga2 gn2 gc2) (.slice ga3 gn3 gc3)) (notN (j + 1) (.mk op n is ks)) ⟨gop, gn, ga2, gn2, gc2, ga3, gn3, gc3⟩) := Lib.hid hF6
     have HX6 := Lib.hid (box4_put (a' := .int .i64 gop) (b' := .int .i64 gn) (c' := .slice ga2 gn2 gc2) (d' := .slice ga3 gn3 gc3) hX5)
     have HZ6 := Lib.hid (put4_box (M := W.heap.size) hZ5 (by omega) (.int .i64 gop) (.int .i64 gn) (.slice ga2 gn2 gc2) (.slice ga3 gn3 gc3))
     have HB6 := Lib.hid (put4_below (hB.out.trans (Below.mono hB5.out hB.out.size)) (Nat.le_refl _) (.int .i64 gop) (.int .i64 gn) (.slice ga2 gn2 gc2) (.slice ga3 gn3 gc3))
     unfold put4 at HF6 HX6 HZ6 HB6
     clear hF6 hX5 hZ5 hF5 hB5 KR hD hX hZ hB
     go_wp2
     go_roundw
     case rel => exact ⟨j + 1, gop, gn, ga2, ga3, gn2, gc2, gn3, gc3, by omega, by go_num, HF6, HX6, HZ6, HB6⟩
     case measure => simp [intOf]; omega
    ·have j1 : ¬ (j : Int) < 1 + (k9 : Int) := by omega
     have hjk : j = 1 + k9 := by omega
     subst hjk
     go_upto_region 32 with (refine (KB.out _).mono ?_; rintro e _ ⟨rfl, rfl⟩)
     have hfin := put4_end (S0 := S0) (N := W.heap.size + 1) hB.out (by omega) ⟨eo, en, b2, m2, d2, b3, m3, d3⟩ ⟨hD.out.1, hD.out.2.1, FS.mono (fun k hk => ⟨by
      rcases hk.1.1.1 with h1 | h1
      ·exact .inl ⟨h1, HS0.out k h1⟩
      ·exact .inr ⟨h1, hk.1.1.2⟩, hk.2⟩) _ hD.out.2.2⟩ _ _ rfl rfl
     rw [← HR2.out] at hfin
     unfold put4 at hfin
     have HFI := Lib.hid hfin
     clear hfin hD hX hZ hB
     go_wp2
     exact bodyPost_ret (v := .agg #[.int .i64 eo, .int .i64 en, .slice b2 m2 d2, .slice b3 m3 d3]) (by simp [results, Tryz.results48, go_sem, z0, z1, z2, z3]) rfl HFI.out
theorem spoilF_all : ∀ m : Nat, m ≤ 100000 → SpoilFK m
 | 0, _ => fun f hf => by
  have := f.size_pos
  omega
 | m + 1, h => spoilF_step m (by omega) (Lib.hid (spoilF_all m (by omega)))
end Go.Proofs.YtgnloodmbgdgdaaGreat
