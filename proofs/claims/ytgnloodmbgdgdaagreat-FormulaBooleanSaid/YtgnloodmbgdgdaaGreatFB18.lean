import Derived.Test.YtgnloodmbgdgdaaGreatFB17
import Derived.Test.YtgnloodmbgdgdaaGreatFB15
import Derived.Test.YtgnloodmbgdgdaaGreatFB12
import Derived.Test.YtgnloodmbgdgdaaGreatFB14
namespace Go.Proofs.YtgnloodmbgdgdaaGreat
open Go.RowKit Go.Shelf
attribute [local go_sem] Oper.semAt_some
theorem maxL_pre {a b : List Nd} (h : a <+: b) : maxL a ≤ maxL b := by
 obtain ⟨r, rfl⟩ := h
 rw [maxL_app]
 omega
def Fo.fit (f : Fo) : Prop := f.size ≤ 96 ∧ f.deep ≤ 8
instance (f : Fo) : Decidable f.fit := by unfold Fo.fit; infer_instance
set_option maxHeartbeats 4000000 in
set_option maxRecDepth 100000 in
theorem gfits_any (f : Fo) (hf : f.size ≤ 1000000) (hw : f.wf) (c d : Value) (w : World) (hT : FAt w.heap.size w f c d) : Calls Tryz.prog 50 #[.agg #[.int .i64 f.op, .int .i64 f.n, c, d]] w fun e w' => e = .returned (.bool (decide f.fit)) ∧ Below w.heap.size w w' := by
 obtain ⟨a2, c2, a3, c3, rfl, rfl, -⟩ := hT.shape
 have hX := BoxL.made w #[.int .i64 f.op, .int .i64 f.n, .slice a2 f.is.length c2, .slice a3 f.ks.length c3] 29
 have hX2 := (hX.under (.cells #[.bool false] 4)).under (.cells #[.int .i64 0] 3)
 obtain ⟨o0, o1, o2, o3, -⟩ := hX2.open4
 have KN := Lib.hid fun W => nodes_any f (.slice a2 f.is.length c2) (.slice a3 f.ks.length c3) W ⟨_, _, _, _, _, _, rfl, rfl⟩
 refine (callsIn_wide (n := 5)).1 (callsIn_of_wp_marks Tryz.func50 rfl trivial ?_ rfl)
 simp only [Tryz.ntmps50, List.size_toArray, List.length_cons, List.length_nil, Nat.reduceAdd, Nat.reduceSub, Array.replicate_succ, Array.replicate_zero, List.push_toArray, List.append_toArray, List.nil_append, List.cons_append]
 gi_wp2_with (refine ⟨trivial, ?_⟩; gi_at_call 51; refine (callsIn_wide.2 (KN.out _)).mono ?_; clear KN; rintro e w' ⟨rfl, rfl⟩)
 obtain ⟨W0, hW0⟩ : ∃ W0, (((w.alloc (.cells #[.int .i64 f.op, .int .i64 f.n, .slice a2 f.is.length c2, .slice a3 f.ks.length c3] 29)).alloc (.cells #[.bool false] 4)).alloc (.cells #[.int .i64 0] 3)).alloc (.cells #[.int .i64 f.op, .int .i64 f.n, .slice a2 f.is.length c2, .slice a3 f.ks.length c3] 29) = W0 := ⟨_, rfl⟩
 have hz1 : (w.alloc (.cells #[.int .i64 f.op, .int .i64 f.n, .slice a2 f.is.length c2, .slice a3 f.ks.length c3] 29)).heap.size = w.heap.size + 1 := World.size_alloc _ _
 have hz2 : ((w.alloc (.cells #[.int .i64 f.op, .int .i64 f.n, .slice a2 f.is.length c2, .slice a3 f.ks.length c3] 29)).alloc (.cells #[.bool false] 4)).heap.size = w.heap.size + 1 + 1 := by rw [World.size_alloc, hz1]
 have hz3 : (((w.alloc (.cells #[.int .i64 f.op, .int .i64 f.n, .slice a2 f.is.length c2, .slice a3 f.ks.length c3] 29)).alloc (.cells #[.bool false] 4)).alloc (.cells #[.int .i64 0] 3)).heap.size = w.heap.size + 1 + 1 + 1 := by rw [World.size_alloc, hz2]
 have hz4 : W0.heap.size = w.heap.size + 1 + 1 + 1 + 1 := by rw [← hW0, World.size_alloc, hz3]
 have hB0 : Below w.heap.size w W0 := by rw [← hW0]; exact ((((Below.refl _ _).alloc (Nat.le_refl _) _).alloc (by rw [hz1]; omega) _).alloc (by rw [hz2]; omega) _).alloc (by rw [hz3]; omega) _
 have hXf : BoxL (w.heap.size + 1 + 1 + 1) [.int .i64 f.op, .int .i64 f.n, .slice a2 f.is.length c2, .slice a3 f.ks.length c3] W0 := by
  have := BoxL.made (((w.alloc (.cells #[.int .i64 f.op, .int .i64 f.n, .slice a2 f.is.length c2, .slice a3 f.ks.length c3] 29)).alloc (.cells #[.bool false] 4)).alloc (.cells #[.int .i64 0] 3)) #[.int .i64 f.op, .int .i64 f.n, .slice a2 f.is.length c2, .slice a3 f.ks.length c3] 29
  rw [hz3] at this
  rw [← hW0]
  exact this
 have hXs : BoxL (w.heap.size + 1 + 1) [.int .i64 0] W0 := by
  have := (BoxL.made ((w.alloc (.cells #[.int .i64 f.op, .int .i64 f.n, .slice a2 f.is.length c2, .slice a3 f.ks.length c3] 29)).alloc (.cells #[.bool false] 4)) #[.int .i64 0] 3).under (.cells #[.int .i64 f.op, .int .i64 f.n, .slice a2 f.is.length c2, .slice a3 f.ks.length c3] 29)
  rw [hz2] at this
  rw [← hW0]
  exact this
 have hXr : BoxL (w.heap.size + 1) [.bool false] W0 := by
  have := ((BoxL.made (w.alloc (.cells #[.int .i64 f.op, .int .i64 f.n, .slice a2 f.is.length c2, .slice a3 f.ks.length c3] 29)) #[.bool false] 4).under (.cells #[.int .i64 0] 3)).under (.cells #[.int .i64 f.op, .int .i64 f.n, .slice a2 f.is.length c2, .slice a3 f.ks.length c3] 29)
  rw [hz1] at this
  rw [← hW0]
  exact this
 have hs0 := hXs.2 0 _ rfl
 have hr0 := hXr.2 0 _ rfl
 have hm1 : maxL (ndT W0 f (.slice a2 f.is.length c2) (.slice a3 f.ks.length c3) 1) = f.deep := by rw [maxL_T W0 f _ _ 1 (Nat.le_refl _), Nat.add_comm, Nat.add_sub_cancel]
 have hm2 := ndT_len W0 f (.slice a2 f.is.length c2) (.slice a3 f.ks.length c3) 1
 rw [hW0]
 refine wpIn_rangeFunc_ownF rfl (by omega) (gf := 90) (lb := #[.pointer (some ⟨w.heap.size + 1 + 1 + 1, 0, none⟩)]) (by simp [go_sem]) trivial (enters_of Tryz.func90 (by kernel_rfl) rfl)
  (nodes_stops _ f hf hw (w.heap.size + 1 + 1 + 1) w.heap.size _ _ W0 hB0.size (hT.low hB0) hXf) KC.trans (fun W l o o' _ h hc _ => KC.put W l o o' h hc) (Below.refl _ _) (fun _ => rfl)
  (fun pre W => (W.cell? ⟨w.heap.size + 1 + 1, 0, none⟩ = some (.int .i64 (pre.length : Int)) ∧ W.frozen? ⟨w.heap.size + 1 + 1, 0, none⟩ = false ∧ W.cell? ⟨w.heap.size + 1, 0, none⟩ = some (.bool false) ∧ W.frozen? ⟨w.heap.size + 1, 0, none⟩ = false ∧ (pre.length ≤ 96 ∧ maxL pre ≤ 8)) ∧ Below w.heap.size w W)
  (fun c pre W => (c = .ret ∧ W.cell? ⟨w.heap.size + 1, 0, none⟩ = some (.bool false) ∧ (96 < pre.length ∨ 8 < maxL pre)) ∧ Below w.heap.size w W)
  (OwnFrom.and (Own.from (fun s A B row hs hg hr => ⟨cell_kept hs.1 hg hr, (frozen_kept hs.1 hg hr).trans hs.2.1, cell_kept hs.2.2.1 hg hr, (frozen_kept hs.2.2.1 hg hr).trans hs.2.2.2.1, hs.2.2.2.2⟩) _) (ownFrom_below (Nat.le_refl _) hB0.size))
  (fun c => OwnFrom.and (Own.from (fun s A B row hs hg hr => ⟨hs.1, cell_kept hs.2.1 hg hr, hs.2.2⟩) _) (ownFrom_below (Nat.le_refl _) hB0.size))
  ⟨⟨hs0.1, hs0.2, hr0.1, hr0.2, Nat.zero_le _, Nat.zero_le _⟩, hB0⟩
  (fun x => { tmps := #[.agg #[.int .i64 f.op, .int .i64 f.n, .slice a2 f.is.length c2, .slice a3 f.ks.length c3], .pointer (some ⟨w.heap.size, 0, none⟩), .pointer (some ⟨w.heap.size + 1, 0, none⟩), .pointer (some ⟨w.heap.size + 1 + 1, 0, none⟩), .int .i64 x.lev, .agg #[.int .i64 f.op, .int .i64 f.n, .slice a2 f.is.length c2, .slice a3 f.ks.length c3], .func (.func 90) #[] #[.pointer (some ⟨w.heap.size + 1 + 1 + 1, 0, none⟩)], .int .i64 x.lev, x.f.v x.c x.d, undef, undef, undef, undef, undef, undef, undef, undef], defers := [] }) ?assign ?body ?done ?stop
 case assign =>
  intro l x W K hK
  simp only [Nd.encs]
  gi_wp2
  simpa using hK
 case body =>
  rintro l pre x W ⟨⟨hc, hf2, hr, hf3, hle, hlm⟩, hB⟩ hlen
  have hm := maxL_snoc pre x
  have i1 : IntKind.i64.wrap ((pre.length : Int) + 1) = (pre.length : Int) + 1 := IntWalk.i64_in _ (by omega)
  have hl : (((pre ++ [x]).length : Nat) : Int) = (pre.length : Int) + 1 := by simp
  have hl2 : (pre ++ [x]).length = pre.length + 1 := by simp
  have hk := World.cell?_setCell_same' W ⟨w.heap.size + 1 + 1, 0, none⟩ (.int .i64 ((pre.length : Int) + 1)) (by rw [hc]; rfl)
  have hne : (w.heap.size + 1 : Nat) ≠ w.heap.size + 1 + 1 := by omega
  have hr2 : (W.setCell ⟨w.heap.size + 1 + 1, 0, none⟩ (.int .i64 ((pre.length : Int) + 1))).cell? ⟨w.heap.size + 1, 0, none⟩ = some (.bool false) := (cell_of_block (Below.heap_setCell _ _ _ _ hne) 0).trans hr
  have hB2 := hB.setCell (p := ⟨w.heap.size + 1 + 1, 0, none⟩) (by show w.heap.size ≤ w.heap.size + 1 + 1; omega) (.int .i64 ((pre.length : Int) + 1))
  have hr3 := World.cell?_setCell_same' (W.setCell ⟨w.heap.size + 1 + 1, 0, none⟩ (.int .i64 ((pre.length : Int) + 1))) ⟨w.heap.size + 1, 0, none⟩ (.bool false) (by rw [hr2]; rfl)
  have hB3 := hB2.setCell (p := ⟨w.heap.size + 1, 0, none⟩) (by show w.heap.size ≤ w.heap.size + 1; omega) (.bool false)
  have hf4 : (W.setCell ⟨w.heap.size + 1 + 1, 0, none⟩ (.int .i64 ((pre.length : Int) + 1))).frozen? ⟨w.heap.size + 1, 0, none⟩ = false := by rw [World.frozen?_setCell]; exact hf3
  by_cases h1 : 96 < pre.length + 1
  ·have j1 : (pre.length : Int) + 1 > 96 := by omega
   gi_wp2
   exact ⟨(KeepsOthers.setCell _ _ _).trans (KeepsOthers.setCell _ _ _), ⟨rfl, hr3, .inl (by omega)⟩, hB3⟩
  ·have j1 : ¬ (pre.length : Int) + 1 > 96 := by omega
   by_cases h2 : 8 < x.lev
   ·have j2 : (x.lev : Int) > 8 := by omega
    gi_wp2
    exact ⟨(KeepsOthers.setCell _ _ _).trans (KeepsOthers.setCell _ _ _), ⟨rfl, hr3, .inr (by omega)⟩, hB3⟩
   ·have j2 : ¬ (x.lev : Int) > 8 := by omega
    gi_wp2
    exact ⟨KeepsOthers.setCell _ _ _, KC.setOwn (by omega) (by omega) _, ⟨by rw [hl]; exact hk, by rw [World.frozen?_setCell]; exact hf2, hr2, hf4, by omega, by omega⟩, hB2⟩
 case done =>
  rintro D ys W hD rfl ⟨⟨hc, hf2, hr, hf3, hle, hlm⟩, hB⟩ hK
  rw [hm2] at hle
  rw [hm1] at hlm
  have hd : decide f.fit = true := decide_eq_true ⟨hle, hlm⟩
  have hr3 := World.cell?_setCell_same' W ⟨w.heap.size + 1, 0, none⟩ (.bool true) (by rw [hr]; rfl)
  have hB3 := hB.setCell (p := ⟨w.heap.size + 1, 0, none⟩) (by show w.heap.size ≤ w.heap.size + 1; omega) (.bool true)
  have hK3 := (KeepsOthers.setCell W ⟨w.heap.size + 1, 0, none⟩ (.bool true)).same D _ hK rfl
  gi_wp2
  refine ⟨by simp, .inl ⟨_, _, rfl, run_takeDeferred hK3, ?_⟩⟩
  have hcell := cell_kept hr3 (grownBy_putObj' _ D (.deferred none)) (fun r e => by cases e; exact ⟨_, hK3, rfl⟩)
  exact ⟨.bool true, by simp [results, Tryz.results50, go_sem, hcell], by rw [hd], hB3.trans (belowK_b (w := w) (Nat.le_refl _) _ D _ _ (by have := hB0.size; omega) hK3 rfl rfl)⟩
 case stop =>
  rintro D c pre W hD hp ⟨⟨rfl, hr, hx⟩, hB⟩ hK
  have h1 := hp.length_le
  have h2 := maxL_pre hp
  rw [hm2] at h1
  rw [hm1] at h2
  have hd : decide f.fit = false := decide_eq_false (fun h => by have := h.1; have := h.2; omega)
  gi_wp2
  refine ⟨by simp, .inl ⟨_, _, rfl, run_takeDeferred hK, ?_⟩⟩
  have hcell := cell_kept hr (grownBy_putObj' _ D (.deferred none)) (fun r e => by cases e; exact ⟨_, hK, rfl⟩)
  exact ⟨.bool false, by simp [results, Tryz.results50, go_sem, hcell], by rw [hd], hB.trans (belowK_b (w := w) (Nat.le_refl _) _ D _ _ (by have := hB0.size; omega) hK rfl rfl)⟩
end Go.Proofs.YtgnloodmbgdgdaaGreat
namespace Go.Proofs.YtgnloodmbgdgdaaGreat
open Go.RowKit Go.Shelf
attribute [local go_sem] Oper.semAt_some
noncomputable def Nd.ok (x : Nd) : Bool := properB x.f.op x.f.n x.f.is.length x.f.ks.length (validL x.f.is)
mutual
theorem okT (w : World) : ∀ (f : Fo) (c d : Value) (lev : Nat), (ndT w f c d lev).all Nd.ok = f.good
 | .mk op n is ks, c, d, lev => by
  rw [ndT, List.all_cons, okR w ks, Fo.good]
  rfl
theorem okR (w : World) : ∀ (ks : List Fo) (g o lev : Nat), (ndR w ks g o lev).all Nd.ok = Fo.goods ks
 | [], _, _, _ => by rw [ndR, Fo.goods]; rfl
 | t :: ts, g, o, lev => by rw [ndR, List.all_append, okT w t, okR w ts, Fo.goods]
end
theorem all_pre {α : Type} {p : α → Bool} {a b : List α} (h : a <+: b) (ha : a.all p = false) : b.all p = false := by
 obtain ⟨r, rfl⟩ := h
 rw [List.all_append, ha, Bool.false_and]
theorem KC.of_since {n₀ n₁ : Nat} {W W' : World} (h : Below W.heap.size W W') : KC n₀ n₁ W W' := ⟨h.size, fun k _ _ ho _ => (h.block k (Array.getElem?_eq_some_iff.1 ho).1).trans ho⟩
theorem keepsOthers_of {W W' : World} (h : Below W.heap.size W W') : KeepsOthers W W' := ⟨h.size, fun k _ ho _ => (h.block k (Array.getElem?_eq_some_iff.1 ho).1).trans ho⟩
set_option maxHeartbeats 4000000 in
set_option maxRecDepth 100000 in
theorem gvalidF_any (f : Fo) (hf : f.size ≤ 1000000) (hw : f.wf) (c d : Value) (w : World) (hT : FAt w.heap.size w f c d) : Calls Tryz.prog 13 #[.agg #[.int .i64 f.op, .int .i64 f.n, c, d]] w fun e w' => e = .returned (.int .i64 (validF f)) ∧ Below w.heap.size w w' := by
 obtain ⟨a2, c2, a3, c3, rfl, rfl, -⟩ := hT.shape
 have hX := BoxL.made w #[.int .i64 f.op, .int .i64 f.n, .slice a2 f.is.length c2, .slice a3 f.ks.length c3] 29
 have hX2 := hX.under (.cells #[.int .i64 0] 25)
 obtain ⟨o0, o1, o2, o3, -⟩ := hX2.open4
 have hz1 : (w.alloc (.cells #[.int .i64 f.op, .int .i64 f.n, .slice a2 f.is.length c2, .slice a3 f.ks.length c3] 29)).heap.size = w.heap.size + 1 := World.size_alloc _ _
 have hB0 : Below w.heap.size w ((w.alloc (.cells #[.int .i64 f.op, .int .i64 f.n, .slice a2 f.is.length c2, .slice a3 f.ks.length c3] 29)).alloc (.cells #[.int .i64 0] 25)) := ((Below.refl _ _).alloc (Nat.le_refl _) _).alloc (by rw [hz1]; omega) _
 have KF := Lib.hid (gfits_any f hf hw _ _ _ (FAt.below hB0 hT))
 have hXr : BoxL (w.heap.size + 1) [.int .i64 0] ((w.alloc (.cells #[.int .i64 f.op, .int .i64 f.n, .slice a2 f.is.length c2, .slice a3 f.ks.length c3] 29)).alloc (.cells #[.int .i64 0] 25)) := by
  have := BoxL.made (w.alloc (.cells #[.int .i64 f.op, .int .i64 f.n, .slice a2 f.is.length c2, .slice a3 f.ks.length c3] 29)) #[.int .i64 0] 25
  rw [hz1] at this
  exact this
 have KN := Lib.hid fun W => nodes_any f (.slice a2 f.is.length c2) (.slice a3 f.ks.length c3) W ⟨_, _, _, _, _, _, rfl, rfl⟩
 refine (callsIn_wide (n := 5)).1 (callsIn_of_wp_marks Tryz.func13 rfl trivial ?_ rfl)
 simp only [Tryz.ntmps13, List.size_toArray, List.length_cons, List.length_nil, Nat.reduceAdd, Nat.reduceSub, Array.replicate_succ, Array.replicate_zero, List.push_toArray, List.append_toArray, List.nil_append, List.cons_append]
 by_cases hfit : f.fit
 ·have hd : decide f.fit = true := decide_eq_true hfit
  rw [hd] at KF
  have HX0 := Lib.hid hXr
  have HB0 := Lib.hid hB0
  have hv : validF f = if f.good = true then 0 else 1 := by unfold validF; rw [if_neg]; unfold Fo.fit at hfit; omega
  generalize validF f = v at *
  have HV := Lib.hid hv
  clear hv
  gi_wp2_with (refine ⟨trivial, ?_⟩; first
   | (gi_at_call 50; refine (callsIn_wide.2 KF.out).mono ?_; rintro e w1 ⟨rfl, hB1⟩; clear KF; obtain ⟨o0, o1, o2, o3, -⟩ := ((hX.under (.cells #[.int .i64 0] 25)).keep hB1).open4)
   | (gi_at_call 51; refine (callsIn_wide.2 (KN.out _)).mono ?_; clear KN; rintro e w' ⟨rfl, rfl⟩))
  obtain ⟨W0, hW0⟩ : ∃ W0, w1.alloc (.cells #[.int .i64 f.op, .int .i64 f.n, .slice a2 f.is.length c2, .slice a3 f.ks.length c3] 29) = W0 := ⟨_, rfl⟩
  have hs1 : w.heap.size + 1 + 1 ≤ w1.heap.size := by have := hB1.size; simp at this; omega
  have hz0 : W0.heap.size = w1.heap.size + 1 := by rw [← hW0, World.size_alloc]
  have hBw : Below w.heap.size w w1 := HB0.out.trans (Below.mono hB1 HB0.out.size)
  have hBW : Below w.heap.size w W0 := by rw [← hW0]; exact hBw.alloc (by omega) _
  have hXf : BoxL w1.heap.size [.int .i64 f.op, .int .i64 f.n, .slice a2 f.is.length c2, .slice a3 f.ks.length c3] W0 := by rw [← hW0]; exact BoxL.made w1 #[.int .i64 f.op, .int .i64 f.n, .slice a2 f.is.length c2, .slice a3 f.ks.length c3] 29
  have hXr0 : BoxL (w.heap.size + 1) [.int .i64 0] W0 := by rw [← hW0]; exact (HX0.out.keep hB1).under _
  obtain ⟨r0, r1, -⟩ := hXr0.open1
  have hg := okT W0 f (.slice a2 f.is.length c2) (.slice a3 f.ks.length c3) 1
  rw [hW0]
  refine wpIn_rangeFunc_ownH rfl (by omega) (gf := 90) (lb := #[.pointer (some ⟨w1.heap.size, 0, none⟩)]) (by simp [go_sem]) trivial (enters_of Tryz.func90 (by kernel_rfl) rfl)
   (nodes_stopsP _ f hf hw w1.heap.size w.heap.size _ _ W0 hBW.size (hT.low hBW) hXf) KC.trans (fun W l o o' _ h hc _ => KC.put W l o o' h hc) (Below.refl _ _) (fun _ => rfl)
   (fun pre W => (W.cell? ⟨w.heap.size + 1, 0, none⟩ = some (.int .i64 0) ∧ W.frozen? ⟨w.heap.size + 1, 0, none⟩ = false ∧ (pre.map (·.1)).all Nd.ok = true) ∧ Below w.heap.size W0 W)
   (fun c pre W => (c = .ret ∧ W.cell? ⟨w.heap.size + 1, 0, none⟩ = some (.int .i64 1) ∧ (pre.map (·.1)).all Nd.ok = false) ∧ Below w.heap.size W0 W)
   (OwnFrom.and (Own.from (fun s A B row hs hg hr => ⟨cell_kept hs.1 hg hr, (frozen_kept hs.1 hg hr).trans hs.2.1, hs.2.2⟩) _) (ownFrom_below hBW.size hBW.size))
   (fun c => OwnFrom.and (Own.from (fun s A B row hs hg hr => ⟨hs.1, cell_kept hs.2.1 hg hr, hs.2.2⟩) _) (ownFrom_below hBW.size hBW.size))
   ⟨⟨r0, r1, rfl⟩, Below.refl _ _⟩
   (fun x a' W => ∃ b : Nat, a' = { tmps := #[.agg #[.int .i64 f.op, .int .i64 f.n, .slice a2 f.is.length c2, .slice a3 f.ks.length c3], .pointer (some ⟨w.heap.size, 0, none⟩), .pointer (some ⟨w.heap.size + 1, 0, none⟩), undef, .pointer (some ⟨b, 0, none⟩), .agg #[.int .i64 f.op, .int .i64 f.n, .slice a2 f.is.length c2, .slice a3 f.ks.length c3], .bool true, .bool false, .agg #[.int .i64 f.op, .int .i64 f.n, .slice a2 f.is.length c2, .slice a3 f.ks.length c3], .func (.func 90) #[] #[.pointer (some ⟨w1.heap.size, 0, none⟩)], .int .i64 x.1.lev, x.1.f.v x.1.c x.1.d, undef, undef, undef], defers := [] } ∧ W.cell? ⟨b, 0, none⟩ = some (.int .i64 x.1.f.op) ∧ W.cell? ⟨b, 1, none⟩ = some (.int .i64 x.1.f.n) ∧ W.cell? ⟨b, 2, none⟩ = some x.1.c ∧ W.cell? ⟨b, 3, none⟩ = some x.1.d)
   (fun x a' => Own.from (fun s A B row hs hg hr => by
    obtain ⟨b, e, c0, c1, c2, c3⟩ := hs
    exact ⟨b, e, cell_kept c0 hg hr, cell_kept c1 hg hr, cell_kept c2 hg hr, cell_kept c3 hg hr⟩) _)
   ?assign ?body ?done ?stop
  case assign =>
   rintro l pre ⟨⟨lev, g, gc, gd⟩, hx, hxw⟩ W K hI hK
   obtain ⟨a4, c4, a5, c5, e1, e2, -⟩ := hx.shape
   have hXg := BoxL.made W #[.int .i64 g.op, .int .i64 g.n, .slice a4 g.is.length c4, .slice a5 g.ks.length c5] 29
   obtain ⟨g0, g1, g2, g3, -⟩ := hXg.open4
   have e1 : gc = .slice a4 g.is.length c4 := e1
   have e2 : gd = .slice a5 g.ks.length c5 := e2
   simp only [Nd.encs, Fo.v]
   rw [e1, e2]
   gi_wp2
   refine hK _ _ ((KeepsOthers.alloc W _).from _) ((KC.refl _ _ _).alloc _) ?_ ?_
   ·obtain ⟨⟨q0, q1, q2⟩, hB⟩ := hI
    have hlt : w.heap.size + 1 < W.heap.size := by have := hB.size; omega
    exact ⟨⟨(World.cell?_alloc_past _ _ _ hlt).trans q0, (World.frozen?_alloc_past _ _ _ hlt).trans q1, q2⟩, hB.alloc (by omega) _⟩
   ·exact ⟨_, by simp only [Fo.v, e1, e2], g0, g1, by rw [g2, e1], by rw [g3, e2]⟩
  case body =>
   rintro l pre ⟨⟨lev, g, gc, gd⟩, hx, hxw⟩ a' W hl hloop ⟨⟨r0, r1, hpre⟩, hB⟩ ⟨b, rfl, g0, g1, g2, g3⟩ hlen
   have hgw := (Fo.wf_eq g).1 hxw
   have KP := Lib.hid (gproper_any g hgw.1.1 hgw.1.2 gc gd W ((FAt.low hB _ hx).mono (Nat.le_trans hBW.size hB.size)))
   obtain ⟨a4, c4, a5, c5, e1, e2, -⟩ := hx.shape
   have e1 : gc = .slice a4 g.is.length c4 := e1
   have e2 : gd = .slice a5 g.ks.length c5 := e2
   dsimp only at g0 g1 g2 g3
   rw [e1] at g2 KP
   rw [e2] at g3 KP
   have hxw1 : BoxL (w.heap.size + 1) [.int .i64 0] W := ⟨by have := hBW.size; have := hB.size; omega, fun i v hv => by
    match i with
    | 0 => cases hv; exact ⟨r0, r1⟩
    | i + 1 => simp at hv⟩
   have hok : ∀ q : Bool, properB g.op g.n g.is.length g.ks.length (validL g.is) = q → ((pre ++ [(⟨⟨lev, g, gc, gd⟩, hx, hxw⟩ : { x : Nd // FAt w.heap.size W0 x.f x.c x.d ∧ x.f.wf })]).map (·.1)).all Nd.ok = q := fun q hq => by
    rw [List.map_append, List.all_append, hpre, Bool.true_and]
    show (Nd.ok ⟨lev, g, gc, gd⟩ && true) = q
    rw [Bool.and_true]
    exact hq
   have HOK := Lib.hid hok
   clear hok
   cases hq : properB g.op g.n g.is.length g.ks.length (validL g.is) with
   | true =>
    rw [hq] at KP
    have HQ := Lib.hid (HOK.out true hq)
    clear hq HOK
    gi_wp2_with (refine ⟨trivial, ?_⟩; gi_at_call 52; refine (callsIn_wide.2 KP.out).mono ?_; clear KP; rintro e w2 ⟨rfl, hB2⟩)
    obtain ⟨q0, q1, -⟩ := (hxw1.keep hB2).open1
    exact ⟨(keepsOthers_of hB2).from _, KC.of_since hB2, ⟨q0, q1, HQ.out⟩, hB.trans (hB2.mono (Nat.le_trans hBW.size hB.size))⟩
   | false =>
    rw [hq] at KP
    have HQ := Lib.hid (HOK.out false hq)
    clear hq HOK
    gi_wp2_with (refine ⟨trivial, ?_⟩; gi_at_call 52; refine (callsIn_wide.2 KP.out).mono ?_; clear KP; rintro e w2 ⟨rfl, hB2⟩; obtain ⟨q0, q1, -⟩ := (hxw1.keep hB2).open1)
    exact ⟨((keepsOthers_of hB2).trans (KeepsOthers.setCell _ _ _)).from _, ⟨rfl, World.cell?_setCell_same' _ _ _ (by rw [q0]; rfl), HQ.out⟩, (hB.trans (hB2.mono (Nat.le_trans hBW.size hB.size))).setCell (p := ⟨w.heap.size + 1, 0, none⟩) (by show w.heap.size ≤ w.heap.size + 1; omega) _⟩
  case done =>
   rintro D ys W hD hys ⟨⟨hc, hf2, hall⟩, hB⟩ hK
   rw [hys, hg] at hall
   have HALL := Lib.hid hall
   clear hall
   have hr3 := World.cell?_setCell_same' W ⟨w.heap.size + 1, 0, none⟩ (.int .i64 0) (by rw [hc]; rfl)
   have hBf : Below w.heap.size w W := hBW.trans hB
   have hB3 := hBf.setCell (p := ⟨w.heap.size + 1, 0, none⟩) (by show w.heap.size ≤ w.heap.size + 1; omega) (.int .i64 0)
   have hK3 := (KeepsOthers.setCell W ⟨w.heap.size + 1, 0, none⟩ (.int .i64 0)).same D _ hK rfl
   gi_wp2
   refine ⟨by simp, .inl ⟨_, _, rfl, run_takeDeferred hK3, ?_⟩⟩
   have hcell := cell_kept hr3 (grownBy_putObj' _ D (.deferred none)) (fun r e => by cases e; exact ⟨_, hK3, rfl⟩)
   exact ⟨.int .i64 0, by simp [results, Tryz.results13, go_sem, hcell], by rw [HV.out, if_pos HALL.out], hB3.trans (belowK_b (w := w) (Nat.le_refl _) _ D _ _ (by have := hBW.size; omega) hK3 rfl rfl)⟩
  case stop =>
   rintro D c pre W hD hp ⟨⟨rfl, hr, hx⟩, hB⟩ hK
   have hbad : f.good = false := by rw [← hg]; exact all_pre hp hx
   have hBf : Below w.heap.size w W := hBW.trans hB
   have HBAD := Lib.hid hbad
   clear hx hbad hg hp
   gi_wp2
   refine ⟨by simp, .inl ⟨_, _, rfl, run_takeDeferred hK, ?_⟩⟩
   have hcell := cell_kept hr (grownBy_putObj' _ D (.deferred none)) (fun r e => by cases e; exact ⟨_, hK, rfl⟩)
   exact ⟨.int .i64 1, by simp [results, Tryz.results13, go_sem, hcell], by rw [HV.out, if_neg (by rw [HBAD.out]; decide)], hBf.trans (belowK_b (w := w) (Nat.le_refl _) _ D _ _ (by have := hBW.size; omega) hK rfl rfl)⟩
 ·have hd : decide f.fit = false := decide_eq_false hfit
  have hv : validF f = 4 := by unfold validF; rw [if_pos]; unfold Fo.fit at hfit; omega
  rw [hd] at KF
  rw [hv]
  gi_wp2_with (refine ⟨trivial, ?_⟩; gi_at_call 50; refine (callsIn_wide.2 KF.out).mono ?_; rintro e w1 ⟨rfl, hB1⟩; clear KF; obtain ⟨r0, r1, -⟩ := (hXr.keep hB1).open1)
  have hr2 : (w1.setCell ⟨w.heap.size + 1, 0, none⟩ (.int .i64 4)).cell? ⟨w.heap.size + 1, 0, none⟩ = some (.int .i64 4) := World.cell?_setCell_same' _ _ _ (by rw [r0]; rfl)
  exact ⟨_, by simp [results, Tryz.results13, go_sem, hr2], rfl, (hB0.trans (Below.mono hB1 hB0.size)).setCell (p := ⟨w.heap.size + 1, 0, none⟩) (by show w.heap.size ≤ w.heap.size + 1; omega) _⟩
end Go.Proofs.YtgnloodmbgdgdaaGreat
namespace Go.Proofs.YtgnloodmbgdgdaaGreat
open Go.RowKit Go.Shelf
theorem Tryz.infoIvG : (Tryz.prog.info? 112).map (fun i => (i.zero, i.size, i.bytes)) = some (some (.agg #[.int .i64 0, .int .i64 0, .int .i64 0, .int .i64 0, .bool false, .bool false, .bool false, .bool false]), 8, 40) := by kernel_rfl
set_option maxHeartbeats 4000000 in
theorem cloIv_any (sv : Value) (zs : List Iv) (w : World) (h : RFl RIv w sv zs) (hl : zs.length ≤ 1000000) :
  Calls Tryz.prog 166 #[sv] w (ClO RIv 112 zs w) := by
 have q22 : ∀ (w : World) (a : Option Addr) (n c n' c' : Nat), (binOp .eql 27 (.slice a n c) (.slice none n' c')).run Tryz.prog w = .ok (.bool a.isNone) w := fun w a n c n' c' => Lib.run_eql_slice_nil w _ _ a n c n' c' Tryz.underlying27
 have HI := Lib.hid Tryz.infoIvG
 rcases rfl_shape h with ⟨rfl, rfl⟩ | ⟨x, n, c, rfl⟩
 ·clear h
  go_enter Tryz.func166, Tryz.ntmps166
  go_wp2
  go_ret
  exact ⟨_, _, _, rfl, Lib.hid (ROwn.nil _ _ _ _), Lib.hid (Below.refl _ _)⟩
 ·have HB := Lib.hid ((Below.refl w.heap.size w).alloc (Nat.le_refl _) (.cells #[] 112))
  have HE := Lib.hid (h.since' HB.out)
  have HW : Hid (ROwn RIv 112 w.heap.size (w.alloc (.cells #[] 112)) (.slice (some ⟨w.heap.size, 0, none⟩) 0 0) []) := Lib.hid (World.ownsRow_made w #[] 0 (Nat.le_refl _) (Nat.zero_le _) rfl)
  have hl1 : ([] : List Iv).length + zs.length ≤ 1000000000 := by simp only [List.length_nil]; omega
  have hsz : w.heap.size ≤ (w.alloc (.cells #[] 112)).heap.size := by simp
  clear h
  go_enter Tryz.func166, Tryz.ntmps166
  go_wp2_with (at_builtin; refine push_rows_f rfl _ _ 27 rfl RIv 112 40 _ Tryz.underlying27 HI.out rfl (by decide) w.heap.size (.slice (some ⟨w.heap.size, 0, none⟩) 0 0) [] zs (.slice (some x) n c) rfl rfl HW.out HE.out hsz hl1 ?_; intro a2 n2 c2 w2 hn2 hO2 hB2 hP2)
  go_ret
  exact ⟨_, _, _, rfl, hO2, Lib.hid (HB.out.trans hB2.out)⟩
end Go.Proofs.YtgnloodmbgdgdaaGreat
