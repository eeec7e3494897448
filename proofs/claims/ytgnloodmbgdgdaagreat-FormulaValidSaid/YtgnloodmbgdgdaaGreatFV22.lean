import Derived.Test.YtgnloodmbgdgdaaGreatFV21
import Derived.Test.YtgnloodmbgdgdaaGreatFV17
import Derived.Test.YtgnloodmbgdgdaaGreatFV13
import Derived.Deep.DeepCutAuto
namespace Go.Proofs.YtgnloodmbgdgdaaGreat
open Go.RowKit Go.Shelf
theorem leafG_wfm (zs : List Int) (cl : Int) (i : Nat) : (leafG zs cl i).1.wfm 2 := by
 unfold leafG
 split
 ·rw [Fo.wfm]; exact ⟨⟨fun x h => by simp at h, by simp⟩, by rw [Fo.wfms]; trivial⟩
 ·split
  ·rw [Fo.wfm]; exact ⟨⟨fun x h => by simp at h, by simp⟩, by rw [Fo.wfms]; trivial⟩
  ·obtain ⟨-, f2, f3⟩ := range_facts (pickI zs (i + 2) 1048576).toNat
   rw [Fo.wfm]
   exact ⟨⟨f3, f2⟩, by rw [Fo.wfms]; trivial⟩
theorem kidsG_wfm {T : Nat → Int → Fo × Nat × Int} (hT : ∀ i l, (T i l).1.wfm 2) : ∀ (n i : Nat) (l : Int), ∀ u ∈ (kidsG T n i l).1, u.wfm 2
 | 0, i, l => fun u h => by simp [kidsG] at h
 | n + 1, i, l => fun u h => by
  simp only [kidsG] at h
  rcases List.mem_append.1 h with h | h
  ·exact kidsG_wfm hT n i l u h
  ·rw [List.mem_singleton.1 h]; exact hT _ _
theorem treeG_wfm (zs : List Int) (cl : Int) : ∀ (d i : Nat) (l : Int), (treeG zs cl d i l).1.wfm 2
 | 0, i, l => by simp only [treeG]; exact leafG_wfm _ _ _
 | d + 1, i, l => by
  have hT := treeG_wfm zs cl d
  simp only [treeG]
  split
  ·exact leafG_wfm _ _ _
  ·split
   ·rw [Fo.wfm]; exact ⟨⟨fun x h => by simp at h, by simp⟩, by rw [Fo.wfms, Fo.wfms]; exact ⟨hT _ _, trivial⟩⟩
   ·split
    ·rw [Fo.wfm]; exact ⟨⟨fun x h => by simp at h, by simp⟩, by rw [Fo.wfms, Fo.wfms]; exact ⟨hT _ _, trivial⟩⟩
    ·rw [Fo.wfm]; exact ⟨⟨fun x h => by simp at h, by simp⟩, Fo.wfms_all.2 (kidsG_wfm hT _ _ _)⟩
def some1 (zs : List Int) (cl : Int) : Fo := someG zs cl 14 6
def some2 (zs : List Int) (cl x y z : Int) : Fo := spoilF 100000 (some1 zs cl) x y z
def some3 (zs : List Int) (cl x y z : Int) : Fo := spoilF 100000 (some2 zs cl x y z) y x (IntKind.i64.wrap (z.tdiv 3))
structure SomeOk (cl : Int) (t1 t2 t3 : Fo) : Prop where
 good : t1.good = true
 cls : t1.cls cl = true
 deep : t1.deep ≤ 6
 left : t1.size ≤ 30
 m1 : t1.wfm 8
 m2 : t2.wfm 8
 m3 : t3.wfm 8
 s1 : t1.size ≤ 2000
 s2 : t2.size ≤ 2000
 s3 : t3.size ≤ 2000
theorem some_ok (zs : List Int) (cl x y z : Int) (h1 : 1 ≤ cl) (h2 : cl ≤ 64) (hz : I64 z) : SomeOk cl (some1 zs cl) (some2 zs cl x y z) (some3 zs cl x y z) := by
 obtain ⟨k1, k2, k3, k4, k5, k6⟩ := someG_ok zs cl h1 h2 14 6 (by decide)
 have hm := mm_le 6 (by decide)
 have w1 : (some1 zs cl).wfm 2 := treeG_wfm zs cl 6 0 14
 have hs1 : (some1 zs cl).size ≤ 1093 := Nat.le_trans k5 hm
 obtain ⟨w2, s2⟩ := spoilF_ok (m := 2) (by decide) 100000 (some1 zs cl) w1 x y z hz
 have hz3 : I64 (IntKind.i64.wrap (z.tdiv 3)) := by
  obtain ⟨ha, hb⟩ := hz
  rw [IntKind.wrap_i64]; exact ⟨by omega, by omega⟩
 obtain ⟨w3, s3⟩ := spoilF_ok (m := 2 * 2) (by decide) 100000 (some2 zs cl x y z) w2 y x _ hz3
 have hl : (some1 zs cl).size ≤ 30 := by
  show (someG zs cl 14 6).size ≤ 30
  omega
 exact ⟨k1, k2, k4, hl, Fo.wfm_mono (by decide) _ w1, Fo.wfm_mono (by decide) _ w2, w3, by omega, by unfold some2; omega, by unfold some3; unfold some2 at *; omega⟩
theorem FoOut.fat {S0 : Nat → Prop} {w' : World} {W : World} {t : Fo} {r : Fr} (h : FSr (fun k => (S0 k ∨ W.heap.size ≤ k) ∧ k < w'.heap.size) w' t r) : FAt w'.heap.size w' t (.slice r.a2 r.n2 r.c2) (.slice r.a3 r.n3 r.c3) := FS.fat (fun _ h => h.2) t h.2.2
def LsOut (t1 t2 t3 : Fo) (w : World) (e : Ending) (w' : World) : Prop :=
 ∃ g : Nat, e = .returned (.slice (some ⟨g, 0, none⟩) 3 3) ∧ Hid (w.heap.size ≤ g) ∧ Hid (g < w'.heap.size) ∧ Hid (FRow g w' [t1, t2, t3] g 0) ∧ Hid (Since w w')
set_option maxHeartbeats 8000000 in
set_option maxRecDepth 100000 in
theorem lsome_any (zs : List Int) (hw : Wfs zs) (cl : Int) (hc1 : 1 ≤ cl) (hc2 : cl ≤ 64) (x y z : Int) (sv : Value) (w : World) (hE : Els .i64 w sv zs) (hx : I64 x) (hy : I64 y) (hz : I64 z) :
  Calls Tryz.prog 11 #[sv, .int .i64 cl, .int .i64 x, .int .i64 y, .int .i64 z] w (LsOut (some1 zs cl) (some2 zs cl x y z) (some3 zs cl x y z) w) := by
 have K1 := Lib.hid (someF_any zs hw cl hc1 hc2 14 (by decide) (by decide) 6 (by decide) sv w hE)
 obtain ⟨k1, k2, k3, k4, m1, m2, m3, s1, s2, s3⟩ := some_ok zs cl x y z hc1 hc2 hz
 have hz3 : I64 (IntKind.i64.wrap (z.tdiv 3)) := by
  obtain ⟨ha, hb⟩ := hz
  rw [IntKind.wrap_i64]; exact ⟨by omega, by omega⟩
 have KS2 := Lib.hid fun (c d : Value) W (hT : FAt W.heap.size W (some1 zs cl) c d) => spoilF_all 100000 (Nat.le_refl _) (some1 zs cl) (by omega) (Fo.wfm_mono (by decide) _ m1) x y z hx hy hz (· < W.heap.size) c d W (fun k h => h) (FAt.fs _ hT)
 have KS3 := Lib.hid fun (c d : Value) W (hT : FAt W.heap.size W (some2 zs cl x y z) c d) => spoilF_all 100000 (Nat.le_refl _) (some2 zs cl x y z) (by omega) (Fo.wfm_mono (by decide) _ m2) y x (IntKind.i64.wrap (z.tdiv 3)) hy hx hz3 (· < W.heap.size) c d W (fun k h => h) (FAt.fs _ hT)
 have e1 : someG zs cl 14 6 = some1 zs cl := rfl
 have e2 : spoilF 100000 (some1 zs cl) x y z = some2 zs cl x y z := rfl
 have e3 : spoilF 100000 (some2 zs cl x y z) y x (IntKind.i64.wrap (z.tdiv 3)) = some3 zs cl x y z := rfl
 rw [e1] at K1
 rw [e2] at KS2
 rw [e3] at KS3
 obtain ⟨al, cz, rfl⟩ := hE.shape
 generalize some3 zs cl x y z = t3 at *
 generalize some2 zs cl x y z = t2 at *
 generalize some1 zs cl = t1 at *
 generalize hz9 : IntKind.i64.wrap (z.tdiv 3) = z9 at *
 generalize zs.length = nl at *
 clear e1 e2 e3 k1 k2 k3 k4 m1 m2 m3 s1 s2 s3 hw hE hx hy hz hz3
 go_enter Tryz.func11, Tryz.ntmps11
 go_wp2_with fail
 refine K1.out.mono ?_
 rintro e W1 ⟨⟨o1, n1, a1, l1, c1, b1, p1, d1⟩, rfl, hT, hB⟩
 simp only
 have hX := BoxL.made W1 #[.int .i64 o1, .int .i64 n1, .slice a1 l1 c1, .slice b1 p1 d1] 29
 have hF := FoOut.fat hT.out
 have hq := hT.out.1
 have hr := hT.out.2.1
 simp only at hF hq hr
 subst hq hr
 obtain ⟨V1, hV⟩ : ∃ V, V = World.alloc W1 (.cells #[.int .i64 t1.op, .int .i64 t1.n, .slice a1 l1 c1, .slice b1 p1 d1] 29) := ⟨_, rfl⟩
 have hS : Since W1 V1 := by rw [hV]; exact Since.alloc (since_r _) _
 rw [← hV] at hX
 have HF1 := Lib.hid (FAt.below hS hF)
 have HX1 := Lib.hid hX
 have HB1 : Hid (Since w V1) := Lib.hid (Since.step hB.out hS)
 skip
 clear hT hF hB hX hS
 go_upto_region 2 with (fail)
 rw [← hV]
 generalize W1.heap.size = N1 at *
 clear hV
 obtain ⟨x0, x1, x2, x3, -⟩ := HX1.out.open4
 have K2 := Lib.hid (KS2.out _ _ V1 HF1.out)
 go_wp2_with fail
 refine K2.out.mono ?_
 clear x0 x1 x2 x3
 rintro e W2 ⟨⟨o2, n2, a2, l2, c2, b2, p2, d2⟩, rfl, hT, hB⟩
 simp only
 have hX := BoxL.made W2 #[.int .i64 o2, .int .i64 n2, .slice a2 l2 c2, .slice b2 p2 d2] 29
 have hF := FoOut.fat hT.out
 have hq := hT.out.1
 have hr := hT.out.2.1
 simp only at hF hq hr
 subst hq hr
 obtain ⟨V2, hV⟩ : ∃ V, V = World.alloc W2 (.cells #[.int .i64 t2.op, .int .i64 t2.n, .slice a2 l2 c2, .slice b2 p2 d2] 29) := ⟨_, rfl⟩
 have hS : Since W2 V2 := by rw [hV]; exact Since.alloc (since_r _) _
 rw [← hV] at hX
 have hSS : Since V1 V2 := Since.step hB.out hS
 have HF2 := Lib.hid (FAt.below hS hF)
 have HX2 := Lib.hid hX
 have HB2 : Hid (Since w V2) := Lib.hid (Since.step HB1.out hSS)
 have HG1 := Lib.hid (FAt.below hSS HF1.out)
 have HY1 := Lib.hid (HX1.out.keep hSS)
 skip
 clear hT hF hB hX hS hSS K2 HF1 HX1 HB1
 go_upto_region 3 with (fail)
 rw [← hV]
 generalize W2.heap.size = N2 at *
 clear hV
 obtain ⟨x0, x1, x2, x3, -⟩ := HY1.out.open4
 obtain ⟨y0, y1, y2, y3, -⟩ := HX2.out.open4
 have hSd : Since V2 V2.drew := since_d (since_r _)
 have K3 := Lib.hid (KS3.out _ _ V2.drew (FAt.below hSd HF2.out))
 go_region_held3 (fun w' => w'.cell? ⟨N1, 0, none⟩ = some (.int .i64 t1.op) ∧ w'.cell? ⟨N1, 1, none⟩ = some (.int .i64 t1.n) ∧ w'.cell? ⟨N1, 2, none⟩ = some (.slice a1 l1 c1) ∧ w'.cell? ⟨N1, 3, none⟩ = some (.slice b1 p1 d1) ∧ w'.cell? ⟨N2, 0, none⟩ = some (.int .i64 t2.op) ∧ w'.cell? ⟨N2, 1, none⟩ = some (.int .i64 t2.n) ∧ w'.cell? ⟨N2, 2, none⟩ = some (.slice a2 l2 c2) ∧ w'.cell? ⟨N2, 3, none⟩ = some (.slice b2 p2 d2) ∧ Since V2 w')
  ((with_reducible refine ⟨Since.cell ?_ x0, Since.cell ?_ x1, Since.cell ?_ x2, Since.cell ?_ x3, Since.cell ?_ y0, Since.cell ?_ y1, Since.cell ?_ y2, Since.cell ?_ y3, ?_⟩) <;> (repeat (first | with_reducible assumption | with_reducible exact since_r _ | with_reducible refine Since.alloc ?_ _ | with_reducible refine since_d ?_)))
  ((go_at_call 48; refine K3.out.mono ?_; rintro e w' ⟨⟨o3, n3, a3, l3, c3, b3, p3, d3⟩, rfl, hT3, hB3⟩; (try simp only); have hB4 : Since V2 w' := Since.step hSd hB3.out))
 rename World => V3
 have hr3 := hT3.out.1
 have hq3 := hT3.out.2.1
 simp only at hr3 hq3
 subst hr3 hq3
 have hF3 := FoOut.fat hT3.out
 have hS4 : Since V3 (V3.alloc (.cells #[.int .i64 t1.op, .int .i64 t1.n, .slice a1 l1 c1, .slice b1 p1 d1, .int .i64 t2.op, .int .i64 t2.n, .slice a2 l2 c2, .slice b2 p2 d2, .int .i64 t3.op, .int .i64 t3.n, .slice a3 l3 c3, .slice b3 p3 d3] 29)) := Since.alloc (since_r _) _
 have hF1 := FAt.low hS4 t1 (FAt.below hB4 HG1.out)
 have hF2 := FAt.low hS4 t2 (FAt.below hB4 HF2.out)
 have hF4 := FAt.low hS4 t3 hF3
 have hS34 := Since.step hB4 hS4
 have hBF := Lib.hid (Since.step HB2.out hS34)
 have hwz := HB2.out.size
 have hwy := hB4.size
 have hfin : LsOut t1 t2 t3 w (.returned (.slice (some ⟨V3.heap.size, 0, none⟩) 3 3)) (V3.alloc (.cells #[.int .i64 t1.op, .int .i64 t1.n, .slice a1 l1 c1, .slice b1 p1 d1, .int .i64 t2.op, .int .i64 t2.n, .slice a2 l2 c2, .slice b2 p2 d2, .int .i64 t3.op, .int .i64 t3.n, .slice a3 l3 c3, .slice b3 p3 d3] 29)) := by
  refine ⟨V3.heap.size, rfl, Lib.hid (by omega), Lib.hid (by rw [World.size_alloc]; omega), Lib.hid ⟨⟨_, _, ?_, ?_, ?_, ?_, hF1⟩, ⟨_, _, ?_, ?_, ?_, ?_, hF2⟩, ⟨_, _, ?_, ?_, ?_, ?_, hF4⟩, trivial⟩, hBF⟩ <;> simp [World.cell?_alloc_new]
 have HFI := Lib.hid hfin
 clear hfin hF1 hF2 hF4 hS4 hS34 hwz hwy hBF hT3 hB3 hB4 hSd x0 x1 x2 x3 y0 y1 y2 y3
 go_wp2
 go_ret
 exact HFI.out
end Go.Proofs.YtgnloodmbgdgdaaGreat
namespace Go.Proofs.YtgnloodmbgdgdaaGreat
open Go.RowKit Go.Shelf
noncomputable def validF (f : Fo) : Int := if 96 < f.size ∨ 8 < f.deep then 4 else if f.good = true then 0 else 1
set_option maxHeartbeats 4000000 in
set_option maxRecDepth 100000 in
theorem fvalid_any (f : Fo) (hf : f.size ≤ 1000000) (hw : f.wf) (c d : Value) (w : World) (hT : FAt w.heap.size w f c d) :
  Calls Tryz.prog 12 #[.agg #[.int .i64 f.op, .int .i64 f.n, c, d]] w fun e w' => e = .returned (.int .i64 (validF f)) ∧ Below w.heap.size w w' := by
 obtain ⟨a2, c2, a3, c3, rfl, rfl, -⟩ := hT.shape
 obtain ⟨W1, hW1⟩ : ∃ W1, W1 = w.alloc (.cells #[.int .i64 f.op, .int .i64 f.n, .slice a2 f.is.length c2, .slice a3 f.ks.length c3] 29) := ⟨_, rfl⟩
 have hB1 : Below w.heap.size w W1 := by rw [hW1]; exact (Below.refl _ _).alloc (Nat.le_refl _) _
 have hX : BoxL w.heap.size [.int .i64 f.op, .int .i64 f.n, .slice a2 f.is.length c2, .slice a3 f.ks.length c3] W1 := by rw [hW1]; exact BoxL.made _ _ _
 have K1 := Lib.hid (fsize_any f.size f (Nat.le_refl _) hf _ _ W1 (FAt.below hB1 hT))
 have K2 := Lib.hid fun W (h : Below w.heap.size w W) => fdeep_any f.size f (Nat.le_refl _) hf _ _ W (FAt.below h hT)
 have K3 := Lib.hid fun W (h : Below w.heap.size w W) => whole_all f.size hf f (Nat.le_refl _) hw _ _ W (FAt.below h hT)
 have HV : Hid (validF f = if 96 < f.size ∨ 8 < f.deep then 4 else if f.good = true then 0 else 1) := Lib.hid rfl
 have HX1 := Lib.hid hX
 have HB1 := Lib.hid hB1
 generalize validF f = v at *
 generalize f.size = sz at *
 generalize f.deep = dp at *
 generalize f.good = gd at *
 generalize f.ks.length = n3 at *
 generalize f.is.length = n2 at *
 generalize f.op = op at *
 generalize f.n = nn at *
 obtain ⟨o0, o1, o2, o3, -⟩ := hX.open4
 clear hX hT hB1 hw hf
 go_enter Tryz.func12, Tryz.ntmps12
 go_upto_region 1 with (fail)
 rw [← hW1]
 clear hW1
 go_wp2_with fail
 refine K1.out.mono ?_
 rintro e w2 ⟨rfl, hr⟩
 have HB2 := Lib.hid (HB1.out.trans (Below.mono hr HB1.out.size))
 have HX2 := Lib.hid (HX1.out.keep hr)
 clear hr o0 o1 o2 o3 HX1 HB1 K1
 obtain ⟨o0, o1, o2, o3, -⟩ := HX2.out.open4
 by_cases h1 : 96 < sz
 ·have j1 : (sz : Int) > 96 := by omega
  have HE : Hid (v = 4) := Lib.hid (by rw [HV.out, if_pos (.inl h1)])
  clear HV h1
  go_wp2
  go_ret
  exact ⟨by rw [HE.out]; rfl, HB2.out⟩
 ·have j1 : ¬ (sz : Int) > 96 := by omega
  have b1 : decide ((sz : Int) > 96) = false := decide_eq_false j1
  go_wp2_with fail
  refine (K2.out w2 HB2.out).mono ?_
  rintro e w3 ⟨rfl, hr⟩
  have HB3 := Lib.hid (HB2.out.trans (Below.mono hr HB2.out.size))
  have HX3 := Lib.hid (HX2.out.keep hr)
  clear hr o0 o1 o2 o3 HX2 HB2 K2
  obtain ⟨o0, o1, o2, o3, -⟩ := HX3.out.open4
  by_cases h2 : 8 < dp
  ·have j2 : (dp : Int) > 8 := by omega
   have HE : Hid (v = 4) := Lib.hid (by rw [HV.out, if_pos (.inr h2)])
   clear HV h1 h2
   go_wp2
   go_ret
   exact ⟨by rw [HE.out]; rfl, HB3.out⟩
  ·have j2 : ¬ (dp : Int) > 8 := by omega
   have b2 : decide ((dp : Int) > 8) = false := decide_eq_false j2
   have HE : Hid (v = if gd = true then 0 else 1) := Lib.hid (by rw [HV.out, if_neg (by omega)])
   clear HV h1 h2
   go_wp2_with fail
   refine (K3.out w3 HB3.out).mono ?_
   rintro e w4 ⟨rfl, hr⟩
   have HB4 := Lib.hid (HB3.out.trans (Below.mono hr HB3.out.size))
   clear hr o0 o1 o2 o3 HX3 HB3 K3
   cases gd with
   | true =>
    go_wp2
    go_ret
    exact ⟨by rw [HE.out]; rfl, HB4.out⟩
   | false =>
    go_wp2
    go_ret
    exact ⟨by rw [HE.out]; rfl, HB4.out⟩
end Go.Proofs.YtgnloodmbgdgdaaGreat
namespace Go.Proofs.YtgnloodmbgdgdaaGreat
open Go.RowKit Go.Shelf
structure VisEnv (n₀ n₁ By Bv l N : Nat) (wb w0 : World) (J Jx : List Nd → World → Prop) : Prop where
 ja : ∀ pre W o, J pre W → J pre (World.alloc W o)
 hn : n₀ ≤ n₁
 hb : KC n₀ n₁ wb w0
 hBy : n₁ ≤ By
 hBv : n₁ ≤ Bv
 hw : n₁ ≤ w0.heap.size
 cy : w0.cell? ⟨By, 0, none⟩ = some (.func (.yield l) #[] #[])
 cv : w0.cell? ⟨Bv, 0, none⟩ = some (.func (.func 91) #[] #[.pointer (some ⟨By, 0, none⟩), .pointer (some ⟨Bv, 0, none⟩)])
 hy : ∀ (m : Nat) (pre : List Nd) (x : Nd) (W : World), J pre W → KC n₀ n₁ w0 W → pre.length < N → FAt n₀ wb x.f x.c x.d → x.f.wf → YieldAt Fence.wide m Tryz.prog l x.encs W fun e W' => (e = .returned (.bool true) ∧ J (pre ++ [x]) W' ∧ KC n₀ n₁ W W') ∨ (e = .returned (.bool false) ∧ Jx (pre ++ [x]) W')
section
variable {n₀ n₁ By Bv l N : Nat} {wb w0 : World} {J Jx : List Nd → World → Prop}
def VisitK (n₀ n₁ By Bv N : Nat) (wb w0 : World) (J Jx : List Nd → World → Prop) (m : Nat) : Prop := ∀ (f : Fo), f.size ≤ m → ∀ (lev : Nat) (pre : List Nd) (c d : Value) (W : World), lev + f.size ≤ 2000000 → FAt n₀ wb f c d → f.wf → KC n₀ n₁ w0 W → J pre W → pre.length + f.size ≤ N →
 Calls Tryz.prog 91 #[.int .i64 (lev : Int), .agg #[.int .i64 f.op, .int .i64 f.n, c, d], .pointer (some ⟨By, 0, none⟩), .pointer (some ⟨Bv, 0, none⟩)] W (VisOut J Jx n₀ n₁ pre (ndT wb f c d lev) W)
def KidOut (J Jx : List Nd → World → Prop) (n₀ n₁ : Nat) (pre l : List Nd) (W : World) (e : Ending) (W' : World) : Prop :=
 (e = .returned (.bool false) ∧ Hid (J (pre ++ l) W') ∧ Hid (KC n₀ n₁ W W')) ∨ (e = .returned (.bool true) ∧ ∃ q, Hid (q <+: l) ∧ Hid (Jx (pre ++ q) W'))
set_option maxHeartbeats 4000000 in
set_option maxRecDepth 100000 in
theorem kid_any (E : VisEnv n₀ n₁ By Bv l N wb w0 J Jx) {m : Nat} (K : Hid (VisitK n₀ n₁ By Bv N wb w0 J Jx m)) (f : Fo) (hf : f.size ≤ m) (lev : Nat) (pre : List Nd) (c d : Value) (Bl : Nat) (W : World) (hl : lev + 1 + f.size ≤ 2000000) (hT : FAt n₀ wb f c d) (hw : f.wf) (hk : KC n₀ n₁ w0 W) (hJ : J pre W) (hN : pre.length + f.size ≤ N) (hB : n₁ ≤ Bl) (hL : W.cell? ⟨Bl, 0, none⟩ = some (.int .i64 (lev : Int))) :
  Calls Tryz.prog 93 #[.agg #[.int .i64 f.op, .int .i64 f.n, c, d], .pointer (some ⟨Bv, 0, none⟩), .pointer (some ⟨Bl, 0, none⟩)] W (KidOut J Jx n₀ n₁ pre (ndT wb f c d (lev + 1)) W) := by
 obtain ⟨W1, hW1⟩ : ∃ W1, W1 = W.alloc (.cells #[.int .i64 f.op, .int .i64 f.n, c, d] 29) := ⟨_, rfl⟩
 have hK1 : KC n₀ n₁ W W1 := by rw [hW1]; exact (KC.refl _ _ _).alloc _
 have hX : BoxL W.heap.size [.int .i64 f.op, .int .i64 f.n, c, d] W1 := by rw [hW1]; exact BoxL.made W _ _
 have hJ1 : J pre W1 := by rw [hW1]; exact E.ja _ _ _ hJ
 have KV := Lib.hid (K.out f hf (lev + 1) pre c d W1 hl hT hw (hk.trans hK1) hJ1 hN)
 have hv := (hk.trans hK1).cell (p := ⟨Bv, 0, none⟩) (.inr E.hBv) E.cv
 have hL1 := hK1.cell (p := ⟨Bl, 0, none⟩) (.inr hB) hL
 have i1 : IntKind.i64.wrap ((lev : Int) + 1) = (lev : Int) + 1 := IntWalk.i64_in _ (by omega)
 have i2 : ((lev + 1 : Nat) : Int) = (lev : Int) + 1 := by omega
 rw [i2] at KV
 have HK1 := Lib.hid hK1
 obtain ⟨⟨a2, m2, c2, rfl⟩, ⟨a3, m3, c3, rfl⟩⟩ : (∃ a n x, c = .slice a n x) ∧ ∃ a n x, d = .slice a n x := by
  obtain ⟨a2, c2, a3, c3, e1, e2, -⟩ := hT.shape
  exact ⟨⟨_, _, _, e1⟩, ⟨_, _, _, e2⟩⟩
 obtain ⟨o0, o1, o2, o3, -⟩ := hX.open4
 generalize ndT wb f _ _ (lev + 1) = nl at *
 generalize f.op = op at *
 generalize f.n = nn at *
 clear hX hT hk hJ hJ1 hK1 i2 hN hL hf K hw
 go_enter Tryz.func93, Tryz.ntmps93
 go_upto_region 1 with (fail)
 rw [← hW1]
 clear hW1
 go_wp2_with fail
 refine KV.out.mono ?_
 rintro e w2 (⟨rfl, h1, h2⟩ | ⟨rfl, q, h1, h2⟩)
 ·have HK2 := Lib.hid (HK1.out.trans h2.out)
  clear o0 o1 o2 o3 hv hL1 h2
  go_wp2
  go_ret
  exact .inl ⟨rfl, h1, HK2⟩
 ·clear o0 o1 o2 o3 hv hL1
  go_wp2
  go_ret
  exact .inr ⟨rfl, q, h1, h2⟩
def KidsOut (J Jx : List Nd → World → Prop) (n₀ n₁ : Nat) (pre l : List Nd) (W : World) (e : Ending) (W' : World) : Prop :=
 (e = .returned (.int .i64 (-1)) ∧ Hid (J (pre ++ l) W') ∧ Hid (KC n₀ n₁ W W')) ∨ (∃ j : Nat, e = .returned (.int .i64 (j : Int)) ∧ ∃ q, Hid (q <+: l) ∧ Hid (Jx (pre ++ q) W'))
theorem pre_app {α : Type} {a b : List α} (q : List α) (h : q <+: b) : a ++ q <+: a ++ b := by
 obtain ⟨r, rfl⟩ := h
 exact ⟨r, by simp⟩
set_option maxHeartbeats 4000000 in
set_option maxRecDepth 100000 in
theorem kids_any (E : VisEnv n₀ n₁ By Bv l N wb w0 J Jx) {m : Nat} (K : Hid (VisitK n₀ n₁ By Bv N wb w0 J Jx m)) (ks : List Fo) (hks : Fo.sizes ks ≤ m) (lev : Nat) (pre : List Nd) (d : Value) (Bl : Nat) (W : World) (hl : lev + 1 + Fo.sizes ks ≤ 2000000) (hT : Fs n₀ wb d ks) (hw : ∀ u ∈ ks, u.wf) (hk : KC n₀ n₁ w0 W) (hJ : J pre W) (hN : pre.length + Fo.sizes ks ≤ N) (hB : n₁ ≤ Bl) (hL : W.cell? ⟨Bl, 0, none⟩ = some (.int .i64 (lev : Int))) :
  Calls Tryz.prog 145 #[d, .func (.func 93) #[] #[.pointer (some ⟨Bv, 0, none⟩), .pointer (some ⟨Bl, 0, none⟩)]] W (KidsOut J Jx n₀ n₁ pre (ndR wb ks (rowB d) 0 (lev + 1)) W) := by
 obtain ⟨a0, c0, rfl⟩ := hT.shape
 have HT := Lib.hid hT
 have HWF := Lib.hid hw
 have hlen := Fo.sizes_len ks
 have hnl := fun k => ndR_len wb (ks.take k) (rowB (.slice a0 ks.length c0)) 0 (lev + 1)
 have HNL := Lib.hid hnl
 have HTK := Lib.hid fun k => Fo.sizes_take ks k
 have HSN := Lib.hid fun (k : Nat) (u : Fo) (h : ks[k]? = some u) => Fo.sizes_snoc h
 have HNS := Lib.hid fun (k : Nat) (u : Fo) (c d : Value) h hc hd => ndR_snoc (w := wb) (lev := lev + 1) (g := rowB (.slice a0 ks.length c0)) (k := k) (ks := ks) (t := u) (c := c) (d := d) h hc hd
 have HJ0 : Hid (J (pre ++ ndR wb (ks.take 0) (rowB (.slice a0 ks.length c0)) 0 (lev + 1)) W) := Lib.hid (by show J (pre ++ ndR wb [] _ 0 (lev + 1)) W; rw [ndR, List.append_nil]; exact hJ)
 have HK0 := Lib.hid (KC.refl n₀ n₁ W)
 have HL := Lib.hid hL
 have HKW := Lib.hid hk
 have HPF := Lib.hid fun (k : Nat) => (show ndR wb (ks.take k) (rowB (.slice a0 ks.length c0)) 0 (lev + 1) <+: ndR wb ks (rowB (.slice a0 ks.length c0)) 0 (lev + 1) from by
  have h := ndR_append wb (lev + 1) (rowB (.slice a0 ks.length c0)) (ks.drop k) (ks.take k) 0
  rw [List.take_append_drop] at h
  rw [h]
  exact ⟨_, rfl⟩)
 have HALL := Lib.hid (show ks.take ks.length = ks from List.take_length)
 have hb : ks.length ≤ 2000000 := by omega
 have KU := Lib.hid fun (f : Fo) (hf : f.size ≤ m) (lv : Nat) (pr : List Nd) (c d : Value) W h1 h2 hw h3 h4 h5 h6 => kid_any E K f hf lv pr c d Bl W h1 h2 hw h3 h4 h5 hB h6
 generalize hm : ks.length = n at *
 have HM := Lib.hid hm
 clear hT hJ hL hk hm hnl hlen hw
 go_enter Tryz.func145, Tryz.ntmps145
 go_wp2
 go_loopw [8] (fun v wr => ∃ k : Nat, k ≤ n ∧ v = .int .i64 k ∧ Hid (J (pre ++ ndR wb (ks.take k) (rowB (.slice a0 n c0)) 0 (lev + 1)) wr) ∧ Hid (KC n₀ n₁ W wr)) (fun v _ => n - (intOf v).toNat)
 case atStart => exact ⟨0, by omega, rfl, HJ0, HK0⟩
 case round =>
  clear HJ0 HK0
  obtain ⟨k, hk, rfl, hJ, hK⟩ := hrel
  by_cases hlt : k < n
  ·have i1 : (k : Int) < n := by omega
   have i4 : ((k : Int)).toNat = k := by omega
   obtain ⟨g, u, rfl, hg, -, -, hu, c, d, e0, e1, e2, e3, hTu⟩ := HT.out.get hlt
   have hum := Fo.sizes_mem (List.mem_of_getElem? hu)
   have hsn := HSN.out k u hu
   have hst := HTK.out (k + 1)
   have hns := HNS.out k u c d hu e2 e3
   have hKw := HKW.out.trans hK.out
   have HJN := Lib.hid hns
   have hnl := HNL.out k
   have ku := KU.out u (by omega) lev (pre ++ ndR wb (ks.take k) (rowB (.slice (some ⟨g, 0, none⟩) n c0)) 0 (lev + 1)) c d wr (by omega) hTu (HWF.out u (List.mem_of_getElem? hu)) hKw hJ.out (by rw [List.length_append, hnl]; omega) (hK.out.cell (p := ⟨Bl, 0, none⟩) (.inr hB) HL.out)
   have e0 := (E.hb.trans hKw).cell (p := ⟨g, k * 4, none⟩) (.inl hg) e0
   have e1 := (E.hb.trans hKw).cell (p := ⟨g, k * 4 + 1, none⟩) (.inl hg) e1
   have e2 := (E.hb.trans hKw).cell (p := ⟨g, k * 4 + 2, none⟩) (.inl hg) e2
   have e3 := (E.hb.trans hKw).cell (p := ⟨g, k * 4 + 3, none⟩) (.inl hg) e3
   have KQ := Lib.hid ku
   have HPK := Lib.hid (HPF.out (k + 1))
   obtain ⟨⟨a2, m2, c2, rfl⟩, ⟨a3, m3, c3, rfl⟩⟩ : (∃ a n x, c = .slice a n x) ∧ ∃ a n x, d = .slice a n x := by
    obtain ⟨a2, c2, a3, c3, e1, e2, -⟩ := hTu.shape
    exact ⟨⟨_, _, _, e1⟩, ⟨_, _, _, e2⟩⟩
   generalize u.op = op at *
   generalize u.n = nn at *
   clear ku hum hsn hst hns hKw hnl hTu hu
   go_wp2_with fail
   refine KQ.out.mono ?_
   rintro e w2 (⟨rfl, h1, h2⟩ | ⟨rfl, q, h1, h2⟩)
   ·have HJ2 : Hid (J (pre ++ ndR wb (ks.take (k + 1)) (rowB (.slice (some ⟨g, 0, none⟩) n c0)) 0 (lev + 1)) w2) := Lib.hid (by rw [HJN.out, ← List.append_assoc]; exact h1.out)
    have HK2 := Lib.hid (hK.out.trans h2.out)
    clear h1 h2 e0 e1 e2 e3
    go_wp2
    go_roundw
    case rel => exact ⟨k + 1, by omega, by go_num, HJ2, HK2⟩
    case measure => simp [intOf]; omega
   ·have HQ : Hid (ndR wb (ks.take k) (rowB (.slice (some ⟨g, 0, none⟩) n c0)) 0 (lev + 1) ++ q <+: ndR wb ks (rowB (.slice (some ⟨g, 0, none⟩) n c0)) 0 (lev + 1)) := Lib.hid ((pre_app q h1.out).trans (by rw [← HJN.out]; exact HPK.out))
    have HX := Lib.hid h2.out
    rw [List.append_assoc] at HX
    clear h1 h2 e0 e1 e2 e3
    go_wp2
    go_ret
    exact .inr ⟨k, rfl, _, HQ, HX⟩
  ·have i1 : ¬ (k : Int) < n := by omega
   have hkn : k = n := by omega
   have HJ2 := Lib.hid hJ.out
   rw [hkn, HALL.out] at HJ2
   clear hJ hkn
   go_wp2
   go_ret
   exact .inl ⟨rfl, HJ2, hK⟩
set_option maxHeartbeats 4000000 in
set_option maxRecDepth 100000 in
theorem has_kid (E : VisEnv n₀ n₁ By Bv l N wb w0 J Jx) {m : Nat} (K : Hid (VisitK n₀ n₁ By Bv N wb w0 J Jx m)) (ks : List Fo) (hks : Fo.sizes ks ≤ m) (lev : Nat) (pre : List Nd) (d : Value) (Bl : Nat) (W : World) (hl : lev + 1 + Fo.sizes ks ≤ 2000000) (hT : Fs n₀ wb d ks) (hw : ∀ u ∈ ks, u.wf) (hk : KC n₀ n₁ w0 W) (hJ : J pre W) (hN : pre.length + Fo.sizes ks ≤ N) (hB : n₁ ≤ Bl) (hL : W.cell? ⟨Bl, 0, none⟩ = some (.int .i64 (lev : Int))) :
  Calls Tryz.prog 92 #[d, .func (.func 93) #[] #[.pointer (some ⟨Bv, 0, none⟩), .pointer (some ⟨Bl, 0, none⟩)]] W (KidOut J Jx n₀ n₁ pre (ndR wb ks (rowB d) 0 (lev + 1)) W) := by
 have KI := Lib.hid (kids_any E K ks hks lev pre d Bl W hl hT hw hk hJ hN hB hL)
 clear hks hl hT hk hJ hN hL K hw
 generalize ndR wb ks (rowB d) 0 (lev + 1) = nl at *
 go_enter Tryz.func92, Tryz.ntmps92
 go_wp2_with fail
 refine KI.out.mono ?_
 rintro e w2 (⟨rfl, h1, h2⟩ | ⟨j, rfl, q, h1, h2⟩)
 ·go_wp2
  go_ret
  exact .inl ⟨rfl, h1, h2⟩
 ·have i1 : (0 : Int) ≤ (j : Int) := by omega
  go_wp2
  go_ret
  exact .inr ⟨by simp, q, h1, h2⟩
end
end Go.Proofs.YtgnloodmbgdgdaaGreat
namespace Go.Proofs.YtgnloodmbgdgdaaGreat
open Go.RowKit Go.Shelf
attribute [local go_sem] Oper.semAt_some
section
variable {n₀ n₁ By Bv l N : Nat} {wb w0 : World} {J Jx : List Nd → World → Prop}
theorem cells_last (W : World) (cs : Array Value) (t : TypeId) (i : Nat) (v : Value) (h : cs[i]? = some v) : (W.alloc (.cells cs t)).cell? ⟨W.heap.size, i, none⟩ = some v := by
 have := (BoxL.made W cs t).2 i v (by rw [Array.getElem?_toList]; exact h)
 exact this.1
set_option maxHeartbeats 4000000 in
set_option maxRecDepth 100000 in
theorem visit_step (E : VisEnv n₀ n₁ By Bv l N wb w0 J Jx) {m : Nat} (K : Hid (VisitK n₀ n₁ By Bv N wb w0 J Jx m)) : VisitK n₀ n₁ By Bv N wb w0 J Jx (m + 1) := by
 intro f hf lev pre c d W hl hT hw hk hJ hN
 have hse := f.size_eq
 obtain ⟨a2, c2, a3, c3, rfl, rfl, -, hS, -⟩ := hT.shape
 have hB1 : n₁ ≤ W.heap.size := Nat.le_trans E.hw hk.1
 have hK2 : KC n₀ n₁ W ((W.alloc (.cells #[.int .i64 (lev : Int)] 3)).alloc (.cells #[.int .i64 f.op, .int .i64 f.n, .slice a2 f.is.length c2, .slice a3 f.ks.length c3] 29)) := ((KC.refl _ _ _).alloc _).alloc _
 have hJ2 := E.ja _ _ (.cells #[.int .i64 f.op, .int .i64 f.n, .slice a2 f.is.length c2, .slice a3 f.ks.length c3] 29) (E.ja _ _ (.cells #[.int .i64 (lev : Int)] 3) hJ)
 have b0 : (W.alloc (.cells #[.int .i64 (lev : Int)] 3)).cell? ⟨W.heap.size, 0, none⟩ = some (.int .i64 (lev : Int)) := cells_last _ _ _ 0 _ rfl
 have b1 := ((KC.refl n₀ n₁ (W.alloc (.cells #[.int .i64 (lev : Int)] 3))).alloc (.cells #[.int .i64 f.op, .int .i64 f.n, .slice a2 f.is.length c2, .slice a3 f.ks.length c3] 29)).cell (p := ⟨W.heap.size, 0, none⟩) (.inr hB1) b0
 have hz : (W.alloc (.cells #[.int .i64 (lev : Int)] 3)).heap.size = W.heap.size + 1 := World.size_alloc _ _
 have g0 := cells_last (W.alloc (.cells #[.int .i64 (lev : Int)] 3)) #[.int .i64 f.op, .int .i64 f.n, .slice a2 f.is.length c2, .slice a3 f.ks.length c3] 29 0 _ rfl
 have g1 := cells_last (W.alloc (.cells #[.int .i64 (lev : Int)] 3)) #[.int .i64 f.op, .int .i64 f.n, .slice a2 f.is.length c2, .slice a3 f.ks.length c3] 29 1 _ rfl
 have g2 := cells_last (W.alloc (.cells #[.int .i64 (lev : Int)] 3)) #[.int .i64 f.op, .int .i64 f.n, .slice a2 f.is.length c2, .slice a3 f.ks.length c3] 29 2 _ rfl
 have g3 := cells_last (W.alloc (.cells #[.int .i64 (lev : Int)] 3)) #[.int .i64 f.op, .int .i64 f.n, .slice a2 f.is.length c2, .slice a3 f.ks.length c3] 29 3 _ rfl
 rw [hz] at g0 g1 g2 g3
 have cy := (hk.trans hK2).cell (p := ⟨By, 0, none⟩) (.inr E.hBy) E.cy
 have hY := YieldAt.mono (E.hy 3 pre ⟨lev, f, .slice a2 f.is.length c2, .slice a3 f.ks.length c3⟩ _ hJ2 (hk.trans hK2) (by omega) hT hw) (R' := fun e W3 =>
   (e = .returned (.bool true) ∧ W3.cell? ⟨W.heap.size + 1, 3, none⟩ = some (.slice a3 f.ks.length c3) ∧ Hid (KC n₀ n₁ W W3) ∧ Hid (Calls Tryz.prog 92 #[.slice a3 f.ks.length c3, .func (.func 93) #[] #[.pointer (some ⟨Bv, 0, none⟩), .pointer (some ⟨W.heap.size, 0, none⟩)]] W3 (KidOut J Jx n₀ n₁ (pre ++ [⟨lev, f, .slice a2 f.is.length c2, .slice a3 f.ks.length c3⟩]) (ndR wb f.ks (rowB (.slice a3 f.ks.length c3)) 0 (lev + 1)) W3))) ∨ (e = .returned (.bool false) ∧ Hid (Jx (pre ++ [⟨lev, f, .slice a2 f.is.length c2, .slice a3 f.ks.length c3⟩]) W3)))
  (fun e W3 h => h.elim (fun ⟨he, hj, hk3⟩ => .inl ⟨he, hk3.cell (p := ⟨W.heap.size + 1, 3, none⟩) (.inr (by show n₁ ≤ W.heap.size + 1; omega)) g3, Lib.hid (hK2.trans hk3), Lib.hid (has_kid E K f.ks (by omega) lev _ _ W.heap.size W3 (by omega) hS ((Fo.wf_eq f).1 hw).2 (hk.trans (hK2.trans hk3)) hj (by rw [List.length_append, List.length_singleton]; omega) hB1 (hk3.cell (p := ⟨W.heap.size, 0, none⟩) (.inr hB1) b1))⟩) fun ⟨he, hj⟩ => .inr ⟨he, Lib.hid hj⟩)
 have HND := Lib.hid (ndT_eq wb f (.slice a2 f.is.length c2) (.slice a3 f.ks.length c3) lev)
 obtain ⟨fn, tmps, assign, body, hy, hR⟩ := hY
 dsimp only [Nd.encs, Fo.v] at hy
 have hdd : ∀ k : Nat, (Fence.wide.depth.isSome = true → 1 ≤ k) := fun k h => by cases h
 clear hK2 hJ2 b0 hz hk hJ hN hT hS hl hse hf K hw
 refine (callsIn_wide (n := 4)).1 (callsIn_of_wp Tryz.func91 rfl trivial ?_ rfl)
 simp only [Tryz.ntmps91, List.size_toArray, List.length_cons, List.length_nil, Nat.reduceAdd, Nat.reduceSub, Array.replicate_succ, Array.replicate_zero, List.push_toArray, List.append_toArray, List.nil_append, List.cons_append]
 gi_wp2_with (first
  | ((try refine ⟨hdd _, ?_⟩); refine hR.mono ?_; clear hR; rintro e W3 (⟨rfl, g3', hK3, hC⟩ | ⟨rfl, hx⟩))
  | (refine ⟨trivial, ?_⟩; gi_at_call 92; refine (callsIn_wide.2 hC.out).mono ?_; clear hC; rintro e W4 (⟨rfl, hj4, hk4⟩ | ⟨rfl, q, hq, hx⟩)))
 ·go_ret
  exact .inl ⟨rfl, Lib.hid (by rw [HND.out]; have := hj4.out; rwa [List.append_assoc] at this), Lib.hid (hK3.out.trans hk4.out)⟩
 ·go_ret
  exact .inr ⟨rfl, _ :: q, Lib.hid (by rw [HND.out]; exact (List.prefix_cons_inj _).2 hq.out), Lib.hid (by have := hx.out; rwa [List.append_assoc] at this)⟩
 ·go_ret
  exact .inr ⟨rfl, [_], Lib.hid (by rw [HND.out]; exact ⟨_, rfl⟩), hx⟩
theorem visit_all (E : VisEnv n₀ n₁ By Bv l N wb w0 J Jx) : ∀ m : Nat, VisitK n₀ n₁ By Bv N wb w0 J Jx m
 | 0 => fun f hf => by
  have := f.size_pos
  omega
 | m + 1 => visit_step E (Lib.hid (visit_all E m))
end
end Go.Proofs.YtgnloodmbgdgdaaGreat
namespace Go.Proofs.YtgnloodmbgdgdaaGreat
open Go.RowKit Go.Shelf
attribute [local go_sem] Oper.semAt_some
theorem yield_depth {F : Fence} (hd : F.depth = none) {m : Nat} (m' : Nat) {P : Program} {l : Nat} {args : Array Value} {W : World} {R : Ending → World → Prop} (h : YieldAt F m P l args W R) : YieldAt F m' P l args W R := by
 obtain ⟨fn, tmps, assign, body, hy, hR⟩ := h
 exact ⟨fn, tmps, assign, body, hy, hR.1, fun c cs _ => hR.2 c cs fun d h => by rw [hd] at h; cases h⟩
theorem KC.of_below {n₀ : Nat} {w W : World} (h : Below w.heap.size w W) : KC n₀ w.heap.size w W := ⟨h.size, fun k _ _ ho _ => (h.block k (Array.getElem?_eq_some_iff.1 ho).1).trans ho⟩
set_option maxHeartbeats 4000000 in
set_option maxRecDepth 100000 in
theorem nodes_core (n : Nat) (f : Fo) (hf : f.size ≤ 1000000) (hw : f.wf) (Bf n₀ : Nat) (c d : Value) (w : World) (hn : n₀ ≤ w.heap.size) (hT : FAt n₀ w f c d) (hX : BoxL Bf [.int .i64 f.op, .int .i64 f.n, c, d] w)
  (l : Nat) (J Jx : List Nd → World → Prop) (W : World) (hW : Below w.heap.size w W) (hja : ∀ pre W o, J pre W → J pre (World.alloc W o))
  (hY : ∀ (m : Nat) (pre : List Nd) (x : Nd) (W1 : World), J pre W1 → pre.length < f.size → FAt n₀ w x.f x.c x.d → x.f.wf → YieldAt Fence.wide m Tryz.prog l x.encs W1 fun e W' => (e = .returned (.bool true) ∧ J (pre ++ [x]) W' ∧ KC n₀ w.heap.size W1 W') ∨ (e = .returned (.bool false) ∧ Jx (pre ++ [x]) W'))
  (h0 : J [] W) : CallsIn Fence.wide n Tryz.prog 90 (#[.func (.yield l) #[] #[]] ++ #[.pointer (some ⟨Bf, 0, none⟩)]) W fun e W' => (∃ v, e = .returned v) ∧ ((∃ xs, xs = ndT w f c d 1 ∧ J xs W') ∨ (∃ pre, pre <+: ndT w f c d 1 ∧ Jx pre W')) := by
 obtain ⟨W2, hW2⟩ : ∃ W2, W2 = (W.alloc (.cells #[.func (.yield l) #[] #[]] 133)).alloc (.cells #[.func (.func 91) #[] #[.pointer (some ⟨W.heap.size, 0, none⟩), .pointer (some ⟨W.heap.size + 1, 0, none⟩)]] 133) := ⟨_, rfl⟩
 have hz : (W.alloc (.cells #[.func (.yield l) #[] #[]] 133)).heap.size = W.heap.size + 1 := World.size_alloc _ _
 have hB2 : Below W.heap.size W W2 := by rw [hW2]; exact ((Below.refl _ _).alloc (Nat.le_refl _) _).alloc (by simp) _
 have hJ2 : J [] W2 := by rw [hW2]; exact hja _ _ _ (hja _ _ _ h0)
 have hBW := KC.of_below (n₀ := n₀) (hW.trans (hB2.mono hW.size))
 have cy : W2.cell? ⟨W.heap.size, 0, none⟩ = some (.func (.yield l) #[] #[]) := by
  rw [hW2]
  exact ((BoxL.made W #[.func (.yield l) #[] #[]] 133).under _).2 0 _ rfl |>.1
 have cv : W2.cell? ⟨W.heap.size + 1, 0, none⟩ = some (.func (.func 91) #[] #[.pointer (some ⟨W.heap.size, 0, none⟩), .pointer (some ⟨W.heap.size + 1, 0, none⟩)]) := by
  have := cells_last (W.alloc (.cells #[.func (.yield l) #[] #[]] 133)) #[.func (.func 91) #[] #[.pointer (some ⟨W.heap.size, 0, none⟩), .pointer (some ⟨W.heap.size + 1, 0, none⟩)]] 133 0 _ rfl
  rw [hz] at this
  rw [hW2]
  exact this
 have hsn : ((W.alloc (.cells #[.func (.yield l) #[] #[]] 133)).alloc (.cells #[.nilFunc] 133)).setCell ⟨W.heap.size + 1, 0, none⟩ (.func (.func 91) #[] #[.pointer (some ⟨W.heap.size, 0, none⟩), .pointer (some ⟨W.heap.size + 1, 0, none⟩)]) = (W.alloc (.cells #[.func (.yield l) #[] #[]] 133)).alloc (.cells #[.func (.func 91) #[] #[.pointer (some ⟨W.heap.size, 0, none⟩), .pointer (some ⟨W.heap.size + 1, 0, none⟩)]] 133) := by
  have := World.setCell_alloc_new (w := W.alloc (.cells #[.func (.yield l) #[] #[]] 133)) #[.nilFunc] 133 0 (.func (.func 91) #[] #[.pointer (some ⟨W.heap.size, 0, none⟩), .pointer (some ⟨W.heap.size + 1, 0, none⟩)])
  rw [hz] at this
  exact this
 have hnb := (BoxL.made (W.alloc (.cells #[.func (.yield l) #[] #[]] 133)) #[.nilFunc] 133).2 0 _ rfl
 rw [hz] at hnb
 obtain ⟨nb0, nb1⟩ := hnb
 have hst : ∀ m, (store ⟨W.heap.size + 1, 0, none⟩ (.func (.func 91) #[] #[.pointer (some ⟨W.heap.size, 0, none⟩), .pointer (some ⟨W.heap.size + 1, 0, none⟩)]) m).run Tryz.prog ((W.alloc (.cells #[.func (.yield l) #[] #[]] 133)).alloc (.cells #[.nilFunc] 133)) = .ok () ((W.alloc (.cells #[.func (.yield l) #[] #[]] 133)).alloc (.cells #[(.func (.func 91) #[] #[.pointer (some ⟨W.heap.size, 0, none⟩), .pointer (some ⟨W.heap.size + 1, 0, none⟩)])] 133)) := fun m => by
  rw [run_store _ _ _ _ m rfl, nb0]
  simp only [nb1, hsn, Bool.false_eq_true, if_false]
 have E : VisEnv n₀ w.heap.size W.heap.size (W.heap.size + 1) l f.size w W2 J Jx := ⟨hja, hn, hBW, hW.size, Nat.le_succ_of_le hW.size, Nat.le_trans hW.size hB2.size, cy, cv, fun m pre x W1 h1 _ h3 h4 h5 => hY m pre x W1 h1 h3 h4 h5⟩
 have KV := Lib.hid (visit_all E f.size f (Nat.le_refl _) 1 [] c d W2 (by omega) hT hw (KC.refl _ _ _) hJ2 (by simp))
 rw [show ((1 : Nat) : Int) = 1 from rfl] at KV
 obtain ⟨o0, o1, o2, o3, -⟩ := hX.keep (hW.trans (hB2.mono hW.size)) |>.open4
 obtain ⟨⟨a2, m2, c2, rfl⟩, ⟨a3, m3, c3, rfl⟩⟩ : (∃ a n x, c = .slice a n x) ∧ ∃ a n x, d = .slice a n x := by
  obtain ⟨a2, c2, a3, c3, e1, e2, -⟩ := hT.shape
  exact ⟨⟨_, _, _, e1⟩, ⟨_, _, _, e2⟩⟩
 generalize ndT w f _ _ 1 = nl at *
 generalize f.op = op at *
 generalize f.n = nn at *
 rw [hW2] at o0 o1 o2 o3 KV cv
 have hdd : ∀ k : Nat, (Fence.wide.depth.isSome = true → 1 ≤ k) := fun k h => by cases h
 clear E hY hT hX hja hJ2 h0 hBW hB2 hW hW2 hz cy hn hf hw
 refine callsIn_of_wp Tryz.func90 rfl trivial ?_ rfl
 simp only [Tryz.ntmps90, List.size_toArray, List.length_cons, List.length_nil, Nat.reduceAdd, Nat.reduceSub, Array.replicate_succ, Array.replicate_zero, List.push_toArray, List.append_toArray, List.nil_append, List.cons_append]
 gi_wp2_with (refine ⟨trivial, hdd _, ?_⟩; gi_at_call 91; refine (callsIn_wide.2 KV.out).mono ?_; clear KV; rintro e W4 (⟨rfl, hj4, hk4⟩ | ⟨rfl, q, hq, hx⟩))
 ·go_end0
  exact ⟨⟨_, rfl⟩, .inl ⟨_, rfl, hj4.out⟩⟩
 ·go_end0
  exact ⟨⟨_, rfl⟩, .inr ⟨q, hq.out, hx.out⟩⟩
theorem nodes_stops (n : Nat) (f : Fo) (hf : f.size ≤ 1000000) (hw : f.wf) (Bf n₀ : Nat) (c d : Value) (w : World) (hn : n₀ ≤ w.heap.size) (hT : FAt n₀ w f c d) (hX : BoxL Bf [.int .i64 f.op, .int .i64 f.n, c, d] w) :
  SeqStopsK Fence.wide n Tryz.prog 90 #[.pointer (some ⟨Bf, 0, none⟩)] Nd.encs (KC n₀ w.heap.size) (fun xs => xs = ndT w f c d 1) (fun pre => pre <+: ndT w f c d 1) f.size w := fun l J Jx W hW hJ _ hY h0 =>
 nodes_core n f hf hw Bf n₀ c d w hn hT hX l J Jx W hW (fun pre W o h => hJ pre W _ none h (World.grownBy_alloc W o none) (fun r e => by cases e)) (fun m pre x W1 h1 h3 _ _ => yield_depth rfl m (hY pre x W1 h1 h3)) h0
theorem nodes_stopsP (n : Nat) (f : Fo) (hf : f.size ≤ 1000000) (hw : f.wf) (Bf n₀ : Nat) (c d : Value) (w : World) (hn : n₀ ≤ w.heap.size) (hT : FAt n₀ w f c d) (hX : BoxL Bf [.int .i64 f.op, .int .i64 f.n, c, d] w) :
  SeqStopsK Fence.wide n Tryz.prog 90 #[.pointer (some ⟨Bf, 0, none⟩)] (fun x : { x : Nd // FAt n₀ w x.f x.c x.d ∧ x.f.wf } => x.1.encs) (KC n₀ w.heap.size) (fun xs => xs.map (·.1) = ndT w f c d 1) (fun pre => pre.map (·.1) <+: ndT w f c d 1) f.size w := fun l J Jx W hW hJ _ hY h0 =>
 (nodes_core n f hf hw Bf n₀ c d w hn hT hX l (fun pre W => ∃ xs, xs.map (·.1) = pre ∧ J xs W) (fun pre W => ∃ xs, xs.map (·.1) = pre ∧ Jx xs W) W hW (fun pre W o h => by obtain ⟨xs, e, h⟩ := h; exact ⟨xs, e, hJ xs W _ none h (World.grownBy_alloc W o none) (fun r e => by cases e)⟩)
  (fun m pre x W1 ⟨xs, e, h1⟩ h3 h4 h5 => yield_depth rfl m (YieldAt.mono (hY xs ⟨x, h4, h5⟩ W1 h1 (by rw [← e, List.length_map] at h3; exact h3)) fun e' W' h => h.elim (fun ⟨a, b, c⟩ => .inl ⟨a, ⟨_, by rw [List.map_append, e]; rfl, b⟩, c⟩) fun ⟨a, b⟩ => .inr ⟨a, ⟨_, by rw [List.map_append, e]; rfl, b⟩⟩)) ⟨[], rfl, h0⟩).mono
  fun _ _ ⟨hv, h⟩ => ⟨hv, h.elim (fun ⟨_, e1, xs, e2, hj⟩ => .inl ⟨xs, e2.trans e1, hj⟩) fun ⟨_, e1, xs, e2, hj⟩ => .inr ⟨xs, by show xs.map (·.1) <+: _; rw [e2]; exact e1, hj⟩⟩
end Go.Proofs.YtgnloodmbgdgdaaGreat
