import Derived.Test.YtgnloodmbgdgdaaGreatFB14
namespace Go.Proofs.YtgnloodmbgdgdaaGreat
open Go.RowKit Go.Shelf
theorem Tryz.infoFo : (Tryz.prog.info? 29).map (fun i => (i.zero, i.size, i.bytes)) = some (some (.agg #[.int .i64 0, .int .i64 0, .slice none 0 0, .slice none 0 0]), 4, 64) := by kernel_rfl
def FoOut (S0 : Nat → Prop) (f : Fo) (W : World) (e : Ending) (w' : World) : Prop :=
 ∃ r : Fr, e = .returned (.agg #[.int .i64 r.op, .int .i64 r.n, .slice r.a2 r.n2 r.c2, .slice r.a3 r.n3 r.c3]) ∧ Hid (FSr (fun k => (S0 k ∨ W.heap.size ≤ k) ∧ k < w'.heap.size) w' f r) ∧ Hid (Below W.heap.size W w')
theorem one_kid {S S' : Nat → Prop} {W : World} {t : Fo} {r : Fr} (h : FSr S W t r) (op n : Int) (T : TypeId) (hs : ∀ b, b < W.heap.size → S b → S' b) (hn : S' W.heap.size) :
  FSr (fun k => S' k ∧ k < (W.alloc (.cells #[.int .i64 r.op, .int .i64 r.n, .slice r.a2 r.n2 r.c2, .slice r.a3 r.n3 r.c3] T)).heap.size) (W.alloc (.cells #[.int .i64 r.op, .int .i64 r.n, .slice r.a2 r.n2 r.c2, .slice r.a3 r.n3 r.c3] T)) (.mk op n [] [t]) ⟨op, n, none, 0, 0, some ⟨W.heap.size, 0, none⟩, 1, 1⟩ := by
 have hO := ROwn.new RFo T W [r] #[.int .i64 r.op, .int .i64 r.n, .slice r.a2 r.n2 r.c2, .slice r.a3 r.n3 r.c3] rfl (by unfold maxLen; simp)
 have hI : InS (fun k => S' k ∧ k < (W.alloc (.cells #[.int .i64 r.op, .int .i64 r.n, .slice r.a2 r.n2 r.c2, .slice r.a3 r.n3 r.c3] T)).heap.size) (.slice (some ⟨W.heap.size, 0, none⟩) 1 1) := by
  refine hO.ins.mono fun k hk => ⟨?_, hk.2⟩
  rw [World.size_alloc] at hk
  have e : k = W.heap.size := by omega
  rw [e]
  exact hn
 refine ⟨rfl, rfl, FS.of (.inl ⟨.inl rfl, rfl⟩) (.inl (.inl rfl)) (FSl.of hO.els hI rfl fun j r' t' hr ht => ?_)⟩
 match j with
 | 0 =>
  cases hr
  cases ht
  exact FSr.keep (S' := S') h ⟨by simp, fun b _ hl => Below.heap_alloc _ _ _ hl⟩ hs
 | j + 1 => simp at hr
theorem put4_end {S0 : Nat → Prop} {f : Fo} {N : Nat} {W w1 : World} (hB : Below W.heap.size W w1) (hN : W.heap.size ≤ N) (r : Fr) (hF : FSr (fun k => ((S0 k ∧ k < W.heap.size) ∨ (W.heap.size ≤ k ∧ k ≠ N)) ∧ k < w1.heap.size) w1 f r) (c d : Value) (hc : c = .slice r.a2 r.n2 r.c2) (hd : d = .slice r.a3 r.n3 r.c3) :
  FoOut S0 f W (.returned (.agg #[.int .i64 r.op, .int .i64 r.n, c, d])) (put4 w1 N (.int .i64 r.op) (.int .i64 r.n) c d) := by
 subst hc hd
 exact ⟨r, rfl, Lib.hid (FSr.keep (S' := fun k => S0 k ∨ W.heap.size ≤ k) hF (put4_keep _ _ _ _ _ _ fun k h => by have := h.1; omega) fun b _ h => h.1.imp (fun h => h.1) (fun h => h.1)), Lib.hid (put4_below hB hN _ _ _ _)⟩
set_option maxHeartbeats 4000000 in
set_option maxRecDepth 100000 in
theorem rnot_any {S0 : Nat → Prop} (t : Fo) (r : Fr) (W : World) (h : FSr S0 W t r) :
  Calls Tryz.prog 88 #[.agg #[.int .i64 r.op, .int .i64 r.n, .slice r.a2 r.n2 r.c2, .slice r.a3 r.n3 r.c3]] W (FoOut S0 (.mk 6 0 [] [t]) W) := by
 obtain ⟨W1, hW1⟩ : ∃ W1, W1 = W.alloc (.cells #[.int .i64 r.op, .int .i64 r.n, .slice r.a2 r.n2 r.c2, .slice r.a3 r.n3 r.c3] 29) := ⟨_, rfl⟩
 have hS1 : Since W W1 := by rw [hW1]; exact Since.alloc (Below.refl _ _) _
 have hX1 : BoxL W.heap.size [.int .i64 r.op, .int .i64 r.n, .slice r.a2 r.n2 r.c2, .slice r.a3 r.n3 r.c3] W1 := by rw [hW1]; exact BoxL.made W _ _
 have hz1 : W1.heap.size = W.heap.size + 1 := by rw [hW1, World.size_alloc]
 obtain ⟨W2, hW2⟩ : ∃ W2, W2 = W1.alloc (.cells #[.int .i64 0, .int .i64 0, .slice none 0 0, .slice none 0 0] 29) := ⟨_, rfl⟩
 have hS2 : Since W1 W2 := by rw [hW2]; exact Since.alloc (Below.refl _ _) _
 have hX2 : BoxL (W.heap.size + 1) [.int .i64 0, .int .i64 0, .slice none 0 0, .slice none 0 0] W2 := by rw [hW2, ← hz1]; exact BoxL.made W1 _ _
 have hz2 : W2.heap.size = W.heap.size + 1 + 1 := by rw [hW2, World.size_alloc, hz1]
 have hS02 : Since W W2 := Since.step hS1 hS2
 have hF2 : FSr (fun k => (S0 k ∧ k < W.heap.size) ∧ k < W2.heap.size) W2 t r := FSr.keep (S' := fun k => S0 k ∧ k < W.heap.size) h ⟨hS02.size, fun b _ hl => hS02.block b hl⟩ fun b hl hb => ⟨hb, hl⟩
 obtain ⟨W3, hW3⟩ : ∃ W3, W3 = put4 W2 (W.heap.size + 1) (.int .i64 6) (.int .i64 0) (.slice none 0 0) (.slice (some ⟨W.heap.size + 1 + 1, 0, none⟩) 1 1) := ⟨_, rfl⟩
 have hz3 : W3.heap.size = W.heap.size + 1 + 1 := by rw [hW3]; unfold put4; simp only [World.size_setCell]; exact hz2
 have hF3 : FSr (fun k => (S0 k ∧ k < W.heap.size) ∧ k < W3.heap.size) W3 t r := by
  refine FSr.keep (S' := fun k => S0 k ∧ k < W.heap.size) hF2 ?_ fun b _ h => h.1
  rw [hW3]
  exact put4_keep _ _ _ _ _ _ fun k h => by have := h.1.2; omega
 have hB3 : Below W.heap.size W W3 := by rw [hW3]; exact put4_below hS02 (by omega) _ _ _ _
 have hF4 := one_kid (S' := fun k => S0 k ∨ W.heap.size ≤ k) hF3 6 0 29 (fun b _ hb => .inl hb.1.1) (.inr (by rw [hz3]; omega))
 have hB4 : Below W.heap.size W (W3.alloc (.cells #[.int .i64 r.op, .int .i64 r.n, .slice r.a2 r.n2 r.c2, .slice r.a3 r.n3 r.c3] 29)) := hB3.alloc hB3.size _
 have hfin : FoOut S0 (.mk 6 0 [] [t]) W (.returned (.agg #[.int .i64 6, .int .i64 0, .slice none 0 0, .slice (some ⟨W3.heap.size, 0, none⟩) 1 1])) (W3.alloc (.cells #[.int .i64 r.op, .int .i64 r.n, .slice r.a2 r.n2 r.c2, .slice r.a3 r.n3 r.c3] 29)) := ⟨_, rfl, Lib.hid hF4, Lib.hid hB4⟩
 rw [hz3, hW3] at hfin
 unfold put4 at hfin
 have hlt : W.heap.size + 1 < W2.heap.size := by omega
 obtain ⟨x0, x1, x2, x3, f0, f1, f2, f3, -⟩ := hX2.all4
 obtain ⟨o0, o1, o2, o3, -⟩ := (hX1.keep hS2).open4
 have HF := Lib.hid hfin
 obtain ⟨op, n, a2, n2, c2, a3, n3, c3⟩ := r
 simp only at *
 clear hfin hF2 hF3 hF4 hB3 hB4 hz3 hW3 hS02 hX1 hX2 hS1 hS2 h
 go_enter Tryz.func88, Tryz.ntmps88
 go_upto_region 1 with (fail)
 rw [← hW1, ← hW2]
 clear hW1 hW2
 go_wp2
 exact bodyPost_ret (v := .agg #[.int .i64 6, .int .i64 0, .slice none 0 0, .slice (some ⟨W.heap.size + 1 + 1, 0, none⟩) 1 1]) (by simp [results, Tryz.results88, go_sem, World.cell?_alloc_past, World.size_setCell, hlt, x0, x1, x2, x3]) rfl HF.out
set_option maxHeartbeats 4000000 in
set_option maxRecDepth 100000 in
theorem lnot_any {S0 : Nat → Prop} (t : Fo) (r : Fr) (W : World) (h : FSr S0 W t r) :
  Calls Tryz.prog 41 #[.agg #[.int .i64 r.op, .int .i64 r.n, .slice r.a2 r.n2 r.c2, .slice r.a3 r.n3 r.c3]] W (FoOut S0 (.mk 6 0 [] [t]) W) := by
 obtain ⟨W1, hW1⟩ : ∃ W1, W1 = W.alloc (.cells #[.int .i64 r.op, .int .i64 r.n, .slice r.a2 r.n2 r.c2, .slice r.a3 r.n3 r.c3] 29) := ⟨_, rfl⟩
 have hS1 : Since W W1 := by rw [hW1]; exact Since.alloc (Below.refl _ _) _
 have hX1 : BoxL W.heap.size [.int .i64 r.op, .int .i64 r.n, .slice r.a2 r.n2 r.c2, .slice r.a3 r.n3 r.c3] W1 := by rw [hW1]; exact BoxL.made W _ _
 have hz1 : W1.heap.size = W.heap.size + 1 := by rw [hW1, World.size_alloc]
 obtain ⟨W2, hW2⟩ : ∃ W2, W2 = W1.alloc (.cells #[.int .i64 0, .int .i64 0, .slice none 0 0, .slice none 0 0] 29) := ⟨_, rfl⟩
 have hS2 : Since W1 W2 := by rw [hW2]; exact Since.alloc (Below.refl _ _) _
 have hX2 : BoxL (W.heap.size + 1) [.int .i64 0, .int .i64 0, .slice none 0 0, .slice none 0 0] W2 := by rw [hW2, ← hz1]; exact BoxL.made W1 _ _
 have hz2 : W2.heap.size = W.heap.size + 1 + 1 := by rw [hW2, World.size_alloc, hz1]
 have hS02 : Since W W2 := Since.step hS1 hS2
 have hF2 : FSr (fun k => (S0 k ∧ k < W.heap.size) ∧ k < W2.heap.size) W2 t r := FSr.keep (S' := fun k => S0 k ∧ k < W.heap.size) h ⟨hS02.size, fun b _ hl => hS02.block b hl⟩ fun b hl hb => ⟨hb, hl⟩
 obtain ⟨W3, hW3⟩ : ∃ W3, W3 = put4 W2 (W.heap.size + 1) (.int .i64 6) (.int .i64 0) (.slice none 0 0) (.slice (some ⟨W.heap.size + 1 + 1, 0, none⟩) 1 1) := ⟨_, rfl⟩
 have hz3 : W3.heap.size = W.heap.size + 1 + 1 := by rw [hW3]; unfold put4; simp only [World.size_setCell]; exact hz2
 have hF3 : FSr (fun k => (S0 k ∧ k < W.heap.size) ∧ k < W3.heap.size) W3 t r := by
  refine FSr.keep (S' := fun k => S0 k ∧ k < W.heap.size) hF2 ?_ fun b _ h => h.1
  rw [hW3]
  exact put4_keep _ _ _ _ _ _ fun k h => by have := h.1.2; omega
 have hB3 : Below W.heap.size W W3 := by rw [hW3]; exact put4_below hS02 (by omega) _ _ _ _
 have hF4 := one_kid (S' := fun k => S0 k ∨ W.heap.size ≤ k) hF3 6 0 29 (fun b _ hb => .inl hb.1.1) (.inr (by rw [hz3]; omega))
 have hB4 : Below W.heap.size W (W3.alloc (.cells #[.int .i64 r.op, .int .i64 r.n, .slice r.a2 r.n2 r.c2, .slice r.a3 r.n3 r.c3] 29)) := hB3.alloc hB3.size _
 have hfin : FoOut S0 (.mk 6 0 [] [t]) W (.returned (.agg #[.int .i64 6, .int .i64 0, .slice none 0 0, .slice (some ⟨W3.heap.size, 0, none⟩) 1 1])) (W3.alloc (.cells #[.int .i64 r.op, .int .i64 r.n, .slice r.a2 r.n2 r.c2, .slice r.a3 r.n3 r.c3] 29)) := ⟨_, rfl, Lib.hid hF4, Lib.hid hB4⟩
 rw [hz3, hW3] at hfin
 unfold put4 at hfin
 have hlt : W.heap.size + 1 < W2.heap.size := by omega
 obtain ⟨x0, x1, x2, x3, f0, f1, f2, f3, -⟩ := hX2.all4
 obtain ⟨o0, o1, o2, o3, -⟩ := (hX1.keep hS2).open4
 have HF := Lib.hid hfin
 obtain ⟨op, n, a2, n2, c2, a3, n3, c3⟩ := r
 simp only at *
 clear hfin hF2 hF3 hF4 hB3 hB4 hz3 hW3 hS02 hX1 hX2 hS1 hS2 h
 go_enter Tryz.func41, Tryz.ntmps41
 go_upto_region 1 with (fail)
 rw [← hW1, ← hW2]
 clear hW1 hW2
 go_wp2
 exact bodyPost_ret (v := .agg #[.int .i64 6, .int .i64 0, .slice none 0 0, .slice (some ⟨W.heap.size + 1 + 1, 0, none⟩) 1 1]) (by simp [results, Tryz.results41, go_sem, World.cell?_alloc_past, World.size_setCell, hlt, x0, x1, x2, x3]) rfl HF.out
set_option maxHeartbeats 4000000 in
set_option maxRecDepth 100000 in
theorem gnot_any {S0 : Nat → Prop} (t : Fo) (r : Fr) (W : World) (h : FSr S0 W t r) :
  Calls Tryz.prog 124 #[.agg #[.int .i64 r.op, .int .i64 r.n, .slice r.a2 r.n2 r.c2, .slice r.a3 r.n3 r.c3]] W (FoOut S0 (.mk 6 0 [] [t]) W) := by
 obtain ⟨W1, hW1⟩ : ∃ W1, W1 = W.alloc (.cells #[.int .i64 r.op, .int .i64 r.n, .slice r.a2 r.n2 r.c2, .slice r.a3 r.n3 r.c3] 29) := ⟨_, rfl⟩
 have hS1 : Since W W1 := by rw [hW1]; exact Since.alloc (Below.refl _ _) _
 have hX1 : BoxL W.heap.size [.int .i64 r.op, .int .i64 r.n, .slice r.a2 r.n2 r.c2, .slice r.a3 r.n3 r.c3] W1 := by rw [hW1]; exact BoxL.made W _ _
 have hz1 : W1.heap.size = W.heap.size + 1 := by rw [hW1, World.size_alloc]
 obtain ⟨W2, hW2⟩ : ∃ W2, W2 = W1.alloc (.cells #[.int .i64 0, .int .i64 0, .slice none 0 0, .slice none 0 0] 29) := ⟨_, rfl⟩
 have hS2 : Since W1 W2 := by rw [hW2]; exact Since.alloc (Below.refl _ _) _
 have hX2 : BoxL (W.heap.size + 1) [.int .i64 0, .int .i64 0, .slice none 0 0, .slice none 0 0] W2 := by rw [hW2, ← hz1]; exact BoxL.made W1 _ _
 have hz2 : W2.heap.size = W.heap.size + 1 + 1 := by rw [hW2, World.size_alloc, hz1]
 have hS02 : Since W W2 := Since.step hS1 hS2
 have hF2 : FSr (fun k => (S0 k ∧ k < W.heap.size) ∧ k < W2.heap.size) W2 t r := FSr.keep (S' := fun k => S0 k ∧ k < W.heap.size) h ⟨hS02.size, fun b _ hl => hS02.block b hl⟩ fun b hl hb => ⟨hb, hl⟩
 obtain ⟨W3, hW3⟩ : ∃ W3, W3 = put4 W2 (W.heap.size + 1) (.int .i64 6) (.int .i64 0) (.slice none 0 0) (.slice (some ⟨W.heap.size + 1 + 1, 0, none⟩) 1 1) := ⟨_, rfl⟩
 have hz3 : W3.heap.size = W.heap.size + 1 + 1 := by rw [hW3]; unfold put4; simp only [World.size_setCell]; exact hz2
 have hF3 : FSr (fun k => (S0 k ∧ k < W.heap.size) ∧ k < W3.heap.size) W3 t r := by
  refine FSr.keep (S' := fun k => S0 k ∧ k < W.heap.size) hF2 ?_ fun b _ h => h.1
  rw [hW3]
  exact put4_keep _ _ _ _ _ _ fun k h => by have := h.1.2; omega
 have hB3 : Below W.heap.size W W3 := by rw [hW3]; exact put4_below hS02 (by omega) _ _ _ _
 have hF4 := one_kid (S' := fun k => S0 k ∨ W.heap.size ≤ k) hF3 6 0 29 (fun b _ hb => .inl hb.1.1) (.inr (by rw [hz3]; omega))
 have hB4 : Below W.heap.size W (W3.alloc (.cells #[.int .i64 r.op, .int .i64 r.n, .slice r.a2 r.n2 r.c2, .slice r.a3 r.n3 r.c3] 29)) := hB3.alloc hB3.size _
 have hfin : FoOut S0 (.mk 6 0 [] [t]) W (.returned (.agg #[.int .i64 6, .int .i64 0, .slice none 0 0, .slice (some ⟨W3.heap.size, 0, none⟩) 1 1])) (W3.alloc (.cells #[.int .i64 r.op, .int .i64 r.n, .slice r.a2 r.n2 r.c2, .slice r.a3 r.n3 r.c3] 29)) := ⟨_, rfl, Lib.hid hF4, Lib.hid hB4⟩
 rw [hz3, hW3] at hfin
 unfold put4 at hfin
 have hlt : W.heap.size + 1 < W2.heap.size := by omega
 obtain ⟨x0, x1, x2, x3, f0, f1, f2, f3, -⟩ := hX2.all4
 obtain ⟨o0, o1, o2, o3, -⟩ := (hX1.keep hS2).open4
 have HF := Lib.hid hfin
 obtain ⟨op, n, a2, n2, c2, a3, n3, c3⟩ := r
 simp only at *
 clear hfin hF2 hF3 hF4 hB3 hB4 hz3 hW3 hS02 hX1 hX2 hS1 hS2 h
 go_enter Tryz.func124, Tryz.ntmps124
 go_upto_region 1 with (fail)
 rw [← hW1, ← hW2]
 clear hW1 hW2
 go_wp2
 exact bodyPost_ret (v := .agg #[.int .i64 6, .int .i64 0, .slice none 0 0, .slice (some ⟨W.heap.size + 1 + 1, 0, none⟩) 1 1]) (by simp [results, Tryz.results124, go_sem, World.cell?_alloc_past, World.size_setCell, hlt, x0, x1, x2, x3]) rfl HF.out
end Go.Proofs.YtgnloodmbgdgdaaGreat
