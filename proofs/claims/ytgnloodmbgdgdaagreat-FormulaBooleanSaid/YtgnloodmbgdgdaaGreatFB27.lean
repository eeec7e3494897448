import Derived.Test.YtgnloodmbgdgdaaGreatFB18
import Derived.Test.YtgnloodmbgdgdaaGreatFB14
import Derived.Test.YtgnloodmbgdgdaaGreatFB05
import Derived.Sort.QuietIn
namespace Go.Proofs.YtgnloodmbgdgdaaGreat
open Go.RowKit Go.Shelf
attribute [local go_sem] Oper.semAt_some
def Nd.has (m : Int) (x : Nd) : Bool := !(decide (x.f.op = 1) && decide (m ≤ x.f.n))
mutual
theorem hasT (m : Int) (w : World) : ∀ (f : Fo) (c d : Value) (lev : Nat), (ndT w f c d lev).all (Nd.has m) = f.cls m
 | .mk op n is ks, c, d, lev => by
  rw [ndT, List.all_cons, hasR m w ks, Fo.cls]
  rfl
theorem hasR (m : Int) (w : World) : ∀ (ks : List Fo) (g o lev : Nat), (ndR w ks g o lev).all (Nd.has m) = Fo.clss m ks
 | [], _, _, _ => by rw [ndR, Fo.clss]; rfl
 | t :: ts, g, o, lev => by rw [ndR, List.all_append, hasT m w t, hasR m w ts, Fo.clss]
end
set_option maxHeartbeats 4000000 in
set_option maxRecDepth 100000 in
theorem hasOf_any (f : Fo) (hf : f.size ≤ 1000000) (hw : f.wf) (N : Nat) (P : List (List Int)) (c d : Value) (w : World) (hTx : TxAt N P w) (hT : FAt w.heap.size w f c d) : Calls Tryz.prog 59 #[.pointer (some ⟨N, 0, none⟩), .agg #[.int .i64 f.op, .int .i64 f.n, c, d]] w fun e w' => e = .returned (.bool (f.cls P.length)) ∧ Below w.heap.size w w' := by
 obtain ⟨a2, c2, a3, c3, rfl, rfl, -⟩ := hT.shape
 obtain ⟨W1, hW1⟩ : ∃ W1, W1 = w.alloc (.cells #[.pointer (some ⟨N, 0, none⟩)] 33) := ⟨_, rfl⟩
 have hz1 : W1.heap.size = w.heap.size + 1 := by rw [hW1, World.size_alloc]
 have hB1 : Below w.heap.size w W1 := by rw [hW1]; exact (Below.refl _ _).alloc (Nat.le_refl _) _
 have hXx : BoxL w.heap.size [.pointer (some ⟨N, 0, none⟩)] W1 := by rw [hW1]; exact BoxL.made w _ _
 obtain ⟨W2, hW2⟩ : ∃ W2, W2 = W1.alloc (.cells #[.int .i64 f.op, .int .i64 f.n, .slice a2 f.is.length c2, .slice a3 f.ks.length c3] 29) := ⟨_, rfl⟩
 have hz2 : W2.heap.size = w.heap.size + 1 + 1 := by rw [hW2, World.size_alloc, hz1]
 have hB2 : Below w.heap.size w W2 := by rw [hW2]; exact hB1.alloc (by omega) _
 have hXx2 : BoxL w.heap.size [.pointer (some ⟨N, 0, none⟩)] W2 := by rw [hW2]; exact hXx.under _
 have hX : BoxL (w.heap.size + 1) [.int .i64 f.op, .int .i64 f.n, .slice a2 f.is.length c2, .slice a3 f.ks.length c3] W2 := by rw [hW2, ← hz1]; exact BoxL.made W1 _ _
 obtain ⟨W3, hW3⟩ : ∃ W3, W3 = W2.alloc (.cells #[.bool false] 4) := ⟨_, rfl⟩
 have hz3 : W3.heap.size = w.heap.size + 1 + 1 + 1 := by rw [hW3, World.size_alloc, hz2]
 have hB3 : Below w.heap.size w W3 := by rw [hW3]; exact hB2.alloc (by omega) _
 have hXx3 : BoxL w.heap.size [.pointer (some ⟨N, 0, none⟩)] W3 := by rw [hW3]; exact hXx2.under _
 have hX3 : BoxL (w.heap.size + 1) [.int .i64 f.op, .int .i64 f.n, .slice a2 f.is.length c2, .slice a3 f.ks.length c3] W3 := by rw [hW3]; exact hX.under _
 have hXr : BoxL (w.heap.size + 1 + 1) [.bool false] W3 := by rw [hW3, ← hz2]; exact BoxL.made W2 _ _
 have KN := Lib.hid fun W => nodes_any f (.slice a2 f.is.length c2) (.slice a3 f.ks.length c3) W ⟨_, _, _, _, _, _, rfl, rfl⟩
 have KL := Lib.hid fun W (h : TxAt N P W) => tlen_any N P W h
 refine (callsIn_wide (n := 5)).1 (callsIn_of_wp_marks Tryz.func59 rfl trivial ?_ rfl)
 simp only [Tryz.ntmps59, List.size_toArray, List.length_cons, List.length_nil, Nat.reduceAdd, Nat.reduceSub, Array.replicate_succ, Array.replicate_zero, List.push_toArray, List.append_toArray, List.nil_append, List.cons_append]
 obtain ⟨o0, o1, o2, o3, -⟩ := hX3.open4
 rw [hW3, hW2, hW1] at o0 o1 o2 o3
 gi_wp2_with (refine ⟨trivial, ?_⟩; first
   | (gi_at_call 51; refine (callsIn_wide.2 (KN.out _)).mono ?_; clear KN; rintro e w' ⟨rfl, rfl⟩))
 rw [← hW1, ← hW2, ← hW3]
 obtain ⟨W0, hW0⟩ : ∃ W0, W3.alloc (.cells #[.int .i64 f.op, .int .i64 f.n, .slice a2 f.is.length c2, .slice a3 f.ks.length c3] 29) = W0 := ⟨_, rfl⟩
 have hz0 : W0.heap.size = W3.heap.size + 1 := by rw [← hW0, World.size_alloc]
 have hBW : Below w.heap.size w W0 := by rw [← hW0]; exact hB3.alloc (by omega) _
 have hXf : BoxL W3.heap.size [.int .i64 f.op, .int .i64 f.n, .slice a2 f.is.length c2, .slice a3 f.ks.length c3] W0 := by rw [← hW0]; exact BoxL.made W3 #[.int .i64 f.op, .int .i64 f.n, .slice a2 f.is.length c2, .slice a3 f.ks.length c3] 29
 have hXr0 : BoxL (w.heap.size + 1 + 1) [.bool false] W0 := by rw [← hW0]; exact hXr.under _
 have hXx0 : BoxL w.heap.size [.pointer (some ⟨N, 0, none⟩)] W0 := by rw [← hW0]; exact hXx3.under _
 obtain ⟨r0, r1, -⟩ := hXr0.open1
 obtain ⟨x0, -⟩ := hXx0.open1
 have hg := hasT P.length W0 f (.slice a2 f.is.length c2) (.slice a3 f.ks.length c3) 1
 rw [hW0]
 rw [← hz3]
 have HZ3 := Lib.hid hz3
 have HSZ : Hid (w.heap.size + 1 + 1 + 1 + 1 = W0.heap.size) := Lib.hid (by omega)
 clear hz3 hz0 hz1 hz2
 clear hW0
 clear hW3
 clear hW2
 clear hW1
 refine wpIn_rangeFunc_ownH rfl (by omega) (gf := 90) (lb := #[.pointer (some ⟨W3.heap.size, 0, none⟩)]) (by simp [go_sem]) trivial (enters_of Tryz.func90 (by kernel_rfl) rfl)
  (nodes_stopsP _ f hf hw W3.heap.size w.heap.size _ _ W0 hBW.size (hT.low hBW) hXf) KC.trans (fun W l o o' _ h hc _ => KC.put W l o o' h hc) (Below.refl _ _) (fun _ => rfl)
  (fun pre W => (W.cell? ⟨w.heap.size + 1 + 1, 0, none⟩ = some (.bool false) ∧ W.frozen? ⟨w.heap.size + 1 + 1, 0, none⟩ = false ∧ W.cell? ⟨w.heap.size, 0, none⟩ = some (.pointer (some ⟨N, 0, none⟩)) ∧ (pre.map (·.1)).all (Nd.has P.length) = true) ∧ Below w.heap.size W0 W)
  (fun c pre W => (c = .ret ∧ W.cell? ⟨w.heap.size + 1 + 1, 0, none⟩ = some (.bool false) ∧ (pre.map (·.1)).all (Nd.has P.length) = false) ∧ Below w.heap.size W0 W)
  (OwnFrom.and (Own.from (fun s A B row hs hg hr => ⟨cell_kept hs.1 hg hr, (frozen_kept hs.1 hg hr).trans hs.2.1, cell_kept hs.2.2.1 hg hr, hs.2.2.2⟩) _) (ownFrom_below hBW.size hBW.size))
  (fun c => OwnFrom.and (Own.from (fun s A B row hs hg hr => ⟨hs.1, cell_kept hs.2.1 hg hr, hs.2.2⟩) _) (ownFrom_below hBW.size hBW.size))
  ⟨⟨r0, r1, x0, rfl⟩, Below.refl _ _⟩
  (fun x a' W => ∃ b : Nat, a' = { tmps := #[.pointer (some ⟨N, 0, none⟩), .agg #[.int .i64 f.op, .int .i64 f.n, .slice a2 f.is.length c2, .slice a3 f.ks.length c3], .pointer (some ⟨w.heap.size, 0, none⟩), .pointer (some ⟨w.heap.size + 1, 0, none⟩), .pointer (some ⟨w.heap.size + 1 + 1, 0, none⟩), undef, .pointer (some ⟨b, 0, none⟩), .agg #[.int .i64 f.op, .int .i64 f.n, .slice a2 f.is.length c2, .slice a3 f.ks.length c3], .func (.func 90) #[] #[.pointer (some ⟨W3.heap.size, 0, none⟩)], .int .i64 x.1.lev, x.1.f.v x.1.c x.1.d, undef, undef, undef, undef, undef, undef, undef, undef, undef, undef], defers := [] } ∧ W.cell? ⟨b, 0, none⟩ = some (.int .i64 x.1.f.op) ∧ W.cell? ⟨b, 1, none⟩ = some (.int .i64 x.1.f.n) ∧ W.cell? ⟨b, 2, none⟩ = some x.1.c ∧ W.cell? ⟨b, 3, none⟩ = some x.1.d)
  (fun x a' => Own.from (fun s A B row hs hg hr => by
   obtain ⟨b, e, c0, c1, c2, c3⟩ := hs
   exact ⟨b, e, cell_kept c0 hg hr, cell_kept c1 hg hr, cell_kept c2 hg hr, cell_kept c3 hg hr⟩) _)
  ?assign ?body ?done ?stop
 case assign =>
  rintro l pre ⟨⟨lev, g, gc, gd⟩, hx, hxw⟩ W K hI hK
  obtain ⟨a4, c4, a5, c5, e1, e2, -⟩ := hx.shape
  have hXg := BoxL.made W #[.int .i64 g.op, .int .i64 g.n, .slice a4 g.is.length c4, .slice a5 g.ks.length c5] 29
  obtain ⟨g0, g1, g2, g3, -⟩ := hXg.open4
  have e1 : gc = .slice a4 g.is.length c4 := e1
  have e2 : gd = .slice a5 g.ks.length c5 := e2
  simp only [Nd.encs, Fo.v]
  rw [e1, e2]
  gi_wp2
  refine hK _ _ ((KeepsOthers.alloc W _).from _) ((KC.refl _ _ _).alloc _) ?_ ?_
  ·obtain ⟨⟨q0, q1, q3, q2⟩, hB⟩ := hI
   have hlt : w.heap.size + 1 + 1 < W.heap.size := by have := hB.size; have := HSZ.out; omega
   exact ⟨⟨(World.cell?_alloc_past _ _ _ hlt).trans q0, (World.frozen?_alloc_past _ _ _ hlt).trans q1, (World.cell?_alloc_past _ _ _ (by omega)).trans q3, q2⟩, hB.alloc (by omega) _⟩
  ·exact ⟨_, by simp only [Fo.v, e1, e2], g0, g1, by rw [g2, e1], by rw [g3, e2]⟩
 case body =>
  rintro l pre ⟨⟨lev, g, gc, gd⟩, hx, hxw⟩ a' W hl hloop ⟨⟨r0, r1, x0, hpre⟩, hB⟩ ⟨b, rfl, g0, g1, g2, g3⟩ hlen
  obtain ⟨a4, c4, a5, c5, e1, e2, -⟩ := hx.shape
  have e1 : gc = .slice a4 g.is.length c4 := e1
  have e2 : gd = .slice a5 g.ks.length c5 := e2
  dsimp only at g0 g1 g2 g3
  rw [e1] at g2
  rw [e2] at g3
  have hok : ∀ q : Bool, (!(decide (g.op = 1) && decide ((P.length : Int) ≤ g.n))) = q → ((pre ++ [(⟨⟨lev, g, gc, gd⟩, hx, hxw⟩ : { x : Nd // FAt w.heap.size W0 x.f x.c x.d ∧ x.f.wf })]).map (·.1)).all (Nd.has P.length) = q := fun q hq => by
   rw [List.map_append, List.all_append, hpre, Bool.true_and]
   show (Nd.has P.length ⟨lev, g, gc, gd⟩ && true) = q
   rw [Bool.and_true]
   exact hq
  have HOK := Lib.hid hok
  clear hok
  have KL2 : Hid (∀ W', Below w.heap.size W W' → Calls Tryz.prog 103 #[.pointer (some ⟨N, 0, none⟩)] W' fun e w' => e = .returned (.int .i64 P.length) ∧ W' = w') := Lib.hid fun W' h => KL.out W' (TxAt.below hTx ((hBW.trans hB).trans h))
  have hxw1 : BoxL (w.heap.size + 1 + 1) [.bool false] W := ⟨by have := HSZ.out; have := hB.size; omega, fun i v hv => by
   match i with
   | 0 => cases hv; exact ⟨r0, r1⟩
   | i + 1 => simp at hv⟩
  by_cases h1 : g.op = 1
  ·by_cases h2 : (P.length : Int) ≤ g.n
   ·have HQ := Lib.hid (HOK.out false (by simp [h1, h2]))
    clear HOK
    gi_wp2_with fail
    gi_region_with (refine ⟨trivial, ?_⟩; gi_at_call 103; refine (callsIn_wide.2 (KL2.out _ (Below.drew (Below.refl _ _)))).mono ?_; rintro e w' ⟨rfl, rfl⟩)
    gi_wp2
    all_goals exact ⟨((KeepsOthers.setCell _ _ _).trans (keepsOthers_of (Below.drew (Below.refl _ _)))).from _, ⟨rfl, World.cell?_setCell_same' W _ _ (by rw [r0]; rfl), HQ.out⟩, Below.drew (hB.setCell (p := ⟨w.heap.size + 1 + 1, 0, none⟩) (by show w.heap.size ≤ w.heap.size + 1 + 1; omega) _)⟩
   ·have HQ := Lib.hid (HOK.out true (by simp [h2]))
    clear HOK
    gi_wp2_with fail
    gi_region_with (refine ⟨trivial, ?_⟩; gi_at_call 103; refine (callsIn_wide.2 (KL2.out _ (Below.drew (Below.refl _ _)))).mono ?_; rintro e w' ⟨rfl, rfl⟩)
    gi_wp2
    all_goals exact ⟨(keepsOthers_of (Below.drew (Below.refl _ _))).from _, KC.of_since (Below.drew (Below.refl _ _)), ⟨r0, r1, x0, HQ.out⟩, Below.drew hB⟩
  ·have HQ := Lib.hid (HOK.out true (by simp [h1]))
   have h3 : (g.op == (1 : Int)) = false := by simpa using h1
   clear HOK
   gi_wp2_with fail
   gi_region_with (refine ⟨trivial, ?_⟩)
   gi_wp2
   all_goals exact ⟨(keepsOthers_of (Below.drew (Below.refl _ _))).from _, KC.of_since (Below.drew (Below.refl _ _)), ⟨r0, r1, x0, HQ.out⟩, Below.drew hB⟩
 case done =>
  rintro D ys W hD hys ⟨⟨hc, hf2, hx0, hall⟩, hB⟩ hK
  rw [hys, hg] at hall
  have HALL := Lib.hid hall
  clear hall
  have hr3 := World.cell?_setCell_same' W ⟨w.heap.size + 1 + 1, 0, none⟩ (.bool true) (by rw [hc]; rfl)
  have hBf : Below w.heap.size w W := hBW.trans hB
  have hB3 := hBf.setCell (p := ⟨w.heap.size + 1 + 1, 0, none⟩) (by show w.heap.size ≤ w.heap.size + 1 + 1; omega) (.bool true)
  have hK3 := (KeepsOthers.setCell W ⟨w.heap.size + 1 + 1, 0, none⟩ (.bool true)).same D _ hK rfl
  gi_wp2
  refine ⟨by simp, .inl ⟨_, _, rfl, run_takeDeferred hK3, ?_⟩⟩
  have hcell := cell_kept hr3 (grownBy_putObj' _ D (.deferred none)) (fun r e => by cases e; exact ⟨_, hK3, rfl⟩)
  exact ⟨.bool true, by simp [results, Tryz.results59, go_sem, hcell], by rw [HALL.out], hB3.trans (belowK_b (w := w) (Nat.le_refl _) _ D _ _ (by have := hBW.size; omega) hK3 rfl rfl)⟩
 case stop =>
  rintro D c pre W hD hp ⟨⟨rfl, hr, hx⟩, hB⟩ hK
  have hbad : f.cls P.length = false := by rw [← hg]; exact all_pre hp hx
  have hBf : Below w.heap.size w W := hBW.trans hB
  have HBAD := Lib.hid hbad
  clear hx hbad hg hp
  gi_wp2
  refine ⟨by simp, .inl ⟨_, _, rfl, run_takeDeferred hK, ?_⟩⟩
  have hcell := cell_kept hr (grownBy_putObj' _ D (.deferred none)) (fun r e => by cases e; exact ⟨_, hK, rfl⟩)
  exact ⟨.bool false, by simp [results, Tryz.results59, go_sem, hcell], by rw [HBAD.out], hBf.trans (belowK_b (w := w) (Nat.le_refl _) _ D _ _ (by have := hBW.size; omega) hK rfl rfl)⟩
end Go.Proofs.YtgnloodmbgdgdaaGreat
