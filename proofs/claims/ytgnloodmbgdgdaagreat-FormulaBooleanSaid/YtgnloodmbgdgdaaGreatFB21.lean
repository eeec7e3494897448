import Derived.Test.YtgnloodmbgdgdaaGreatFB20
import Derived.Test.YtgnloodmbgdgdaaGreatFB18
namespace Go.Proofs.YtgnloodmbgdgdaaGreat
open Go.RowKit Go.Shelf
theorem BoxL.oth {w : World} {N M o : Nat} {vs : List Value} (h : BoxL N vs w) (v : Value) (hne : N ≠ M) : BoxL N vs (w.setCell ⟨M, o, none⟩ v) :=
 KeepS.box (S := fun k => k ≠ M) ⟨by rw [World.size_setCell]; exact Nat.le_refl _, fun _ hb _ => Below.heap_setCell _ _ _ _ hb⟩ h hne
set_option maxHeartbeats 4000000 in
set_option maxRecDepth 100000 in
theorem push_any (f : Fo) (hf : f.size ≤ 1000000) (hg : f.good = true) (hw : f.wf) (S0 : Nat → Prop) (c d : Value) (W : World) (hS0 : ∀ k, S0 k → k < W.heap.size) (hT : FS S0 W f c d) :
  Calls Tryz.prog 65 #[.agg #[.int .i64 f.op, .int .i64 f.n, c, d]] W (FoOut S0 (pushG false f) W) := by
 obtain ⟨a2, c2, a3, c3, rfl, rfl⟩ : ∃ a2 c2 a3 c3, c = .slice a2 f.is.length c2 ∧ d = .slice a3 f.ks.length c3 := by
  obtain ⟨r, e1, e2, e3, e4, -⟩ := hT.shape
  exact ⟨_, _, _, _, by rw [e1, e3], by rw [e2, e4]⟩
 obtain ⟨W4, hW4⟩ : ∃ W4, W4 = (((W.alloc (.cells #[.int .i64 f.op, .int .i64 f.n, .slice a2 f.is.length c2, .slice a3 f.ks.length c3] 29)).alloc (.cells #[.int .i64 0, .int .i64 0, .slice none 0 0, .slice none 0 0] 29)).alloc (.cells #[.nilFunc] 67)).alloc (.cells #[.nilFunc] 67) := ⟨_, rfl⟩
 have hz1 : (W.alloc (.cells #[.int .i64 f.op, .int .i64 f.n, .slice a2 f.is.length c2, .slice a3 f.ks.length c3] 29)).heap.size = W.heap.size + 1 := World.size_alloc _ _
 have hz2 : ((W.alloc (.cells #[.int .i64 f.op, .int .i64 f.n, .slice a2 f.is.length c2, .slice a3 f.ks.length c3] 29)).alloc (.cells #[.int .i64 0, .int .i64 0, .slice none 0 0, .slice none 0 0] 29)).heap.size = W.heap.size + 1 + 1 := by rw [World.size_alloc, hz1]
 have hz3 : (((W.alloc (.cells #[.int .i64 f.op, .int .i64 f.n, .slice a2 f.is.length c2, .slice a3 f.ks.length c3] 29)).alloc (.cells #[.int .i64 0, .int .i64 0, .slice none 0 0, .slice none 0 0] 29)).alloc (.cells #[.nilFunc] 67)).heap.size = W.heap.size + 1 + 1 + 1 := by rw [World.size_alloc, hz2]
 have hz4 : W4.heap.size = W.heap.size + 1 + 1 + 1 + 1 := by rw [hW4, World.size_alloc, hz3]
 have hX : BoxL W.heap.size [.int .i64 f.op, .int .i64 f.n, .slice a2 f.is.length c2, .slice a3 f.ks.length c3] W4 := by rw [hW4]; exact (((BoxL.made W _ _).under _).under _).under _
 have hR : BoxL (W.heap.size + 1) [.int .i64 0, .int .i64 0, .slice none 0 0, .slice none 0 0] W4 := by
  have := BoxL.made (W.alloc (.cells #[.int .i64 f.op, .int .i64 f.n, .slice a2 f.is.length c2, .slice a3 f.ks.length c3] 29)) #[.int .i64 0, .int .i64 0, .slice none 0 0, .slice none 0 0] 29
  rw [hz1] at this
  rw [hW4]
  exact (this.under _).under _
 have hK : BoxL (W.heap.size + 1 + 1) [.nilFunc] W4 := by
  have := BoxL.made ((W.alloc (.cells #[.int .i64 f.op, .int .i64 f.n, .slice a2 f.is.length c2, .slice a3 f.ks.length c3] 29)).alloc (.cells #[.int .i64 0, .int .i64 0, .slice none 0 0, .slice none 0 0] 29)) #[.nilFunc] 67
  rw [hz2] at this
  rw [hW4]
  exact this.under _
 have hN : BoxL (W.heap.size + 1 + 1 + 1) [.nilFunc] W4 := by
  have := BoxL.made (((W.alloc (.cells #[.int .i64 f.op, .int .i64 f.n, .slice a2 f.is.length c2, .slice a3 f.ks.length c3] 29)).alloc (.cells #[.int .i64 0, .int .i64 0, .slice none 0 0, .slice none 0 0] 29)).alloc (.cells #[.nilFunc] 67)) #[.nilFunc] 67
  rw [hz3] at this
  rw [hW4]
  exact this
 have hS4 : Since W W4 := by rw [hW4]; exact Since.alloc (Since.alloc (Since.alloc (Since.alloc (since_r _) _) _) _) _
 obtain ⟨W5, hW5⟩ : ∃ W5, W5 = (W4.setCell ⟨W.heap.size + 1 + 1, 0, none⟩ (.func (.func 118) #[] #[.pointer (some ⟨W.heap.size + 1 + 1 + 1, 0, none⟩), .pointer (some ⟨W.heap.size + 1 + 1, 0, none⟩)])).setCell ⟨W.heap.size + 1 + 1 + 1, 0, none⟩ (.func (.func 120) #[] #[.pointer (some ⟨W.heap.size + 1 + 1 + 1, 0, none⟩), .pointer (some ⟨W.heap.size + 1 + 1, 0, none⟩)]) := ⟨_, rfl⟩
 have hS5 : Since W W5 := by rw [hW5]; exact (Below.setCell (Below.setCell hS4 (p := ⟨W.heap.size + 1 + 1, 0, none⟩) (by show W.heap.size ≤ W.heap.size + 1 + 1; omega) _) (p := ⟨W.heap.size + 1 + 1 + 1, 0, none⟩) (by show W.heap.size ≤ W.heap.size + 1 + 1 + 1; omega) _)
 have hz5 : W5.heap.size = W.heap.size + 1 + 1 + 1 + 1 := by rw [hW5, World.size_setCell, World.size_setCell, hz4]
 have hE : PEnv (W.heap.size + 1 + 1 + 1) (W.heap.size + 1 + 1) W5 := by
  rw [hW5]
  exact ⟨((hN.oth _ (by omega)).store1 _).open1.1, ((hK.store1 _).oth _ (by omega)).open1.1⟩
 have hX5 : BoxL W.heap.size [.int .i64 f.op, .int .i64 f.n, .slice a2 f.is.length c2, .slice a3 f.ks.length c3] W5 := by rw [hW5]; exact (hX.oth _ (by omega)).oth _ (by omega)
 have hR5 : BoxL (W.heap.size + 1) [.int .i64 0, .int .i64 0, .slice none 0 0, .slice none 0 0] W5 := by rw [hW5]; exact (hR.oth _ (by omega)).oth _ (by omega)
 have KQ := Lib.hid ((pushG_all f.size hf).1 f (Nat.le_refl _) hg hw _ _ S0 (.slice a2 f.is.length c2) (.slice a3 f.ks.length c3) W5 (fun k hk => Nat.lt_of_lt_of_le (hS0 k hk) hS5.size) hE (FS.mono (fun k h => h.1) _ (FS.keep (S' := S0) ⟨hS5.size, fun b hb _ => hS5.block b (hS0 b hb)⟩ (fun b _ hb => hb) f hT)))
 obtain ⟨k0, k1, -⟩ := hK.open1
 obtain ⟨n0, n1, -⟩ := (hN.oth (o := 0) (M := W.heap.size + 1 + 1) (.func (.func 118) #[] #[.pointer (some ⟨W.heap.size + 1 + 1 + 1, 0, none⟩), .pointer (some ⟨W.heap.size + 1 + 1, 0, none⟩)]) (by omega)).open1
 have hst1 : ∀ m, (store ⟨W.heap.size + 1 + 1, 0, none⟩ (.func (.func 118) #[] #[.pointer (some ⟨W.heap.size + 1 + 1 + 1, 0, none⟩), .pointer (some ⟨W.heap.size + 1 + 1, 0, none⟩)]) m).run Tryz.prog W4 = .ok () (W4.setCell ⟨W.heap.size + 1 + 1, 0, none⟩ (.func (.func 118) #[] #[.pointer (some ⟨W.heap.size + 1 + 1 + 1, 0, none⟩), .pointer (some ⟨W.heap.size + 1 + 1, 0, none⟩)])) := fun m => by
  rw [run_store _ _ _ _ m rfl, k0]
  simp only [k1, Bool.false_eq_true, if_false]
 have hst2 : ∀ m, (store ⟨W.heap.size + 1 + 1 + 1, 0, none⟩ (.func (.func 120) #[] #[.pointer (some ⟨W.heap.size + 1 + 1 + 1, 0, none⟩), .pointer (some ⟨W.heap.size + 1 + 1, 0, none⟩)]) m).run Tryz.prog (W4.setCell ⟨W.heap.size + 1 + 1, 0, none⟩ (.func (.func 118) #[] #[.pointer (some ⟨W.heap.size + 1 + 1 + 1, 0, none⟩), .pointer (some ⟨W.heap.size + 1 + 1, 0, none⟩)])) = .ok () ((W4.setCell ⟨W.heap.size + 1 + 1, 0, none⟩ (.func (.func 118) #[] #[.pointer (some ⟨W.heap.size + 1 + 1 + 1, 0, none⟩), .pointer (some ⟨W.heap.size + 1 + 1, 0, none⟩)])).setCell ⟨W.heap.size + 1 + 1 + 1, 0, none⟩ (.func (.func 120) #[] #[.pointer (some ⟨W.heap.size + 1 + 1 + 1, 0, none⟩), .pointer (some ⟨W.heap.size + 1 + 1, 0, none⟩)])) := fun m => by
  rw [run_store _ _ _ _ m rfl, n0]
  simp only [n1, Bool.false_eq_true, if_false]
 have HS5 := Lib.hid hS5
 have HZ5 : Hid (W.heap.size + 2 ≤ W5.heap.size) := Lib.hid (by omega)
 have HS0 := Lib.hid hS0
 have HR5 := Lib.hid hR5
 have HX5 := Lib.hid hX5
 have HE5 := Lib.hid hE
 clear hX hR hK hN hS4 hS5 hz1 hz2 hz3 hz4 hz5 hE hX5 hR5 hT hS0 hg hw hf
 generalize pushG false f = res at *
 go_enter Tryz.func65, Tryz.ntmps65
 go_upto_region 2 with (fail)
 rw [← hW4]
 clear hW4
 go_upto_region 4 with (fail)
 rw [← hW5]
 clear hW5 k0 k1 n0 n1 hst1 hst2
 obtain ⟨e4, e3⟩ := HE5.out
 obtain ⟨o0, o1, o2, o3, -⟩ := HX5.out.open4
 go_wp2_with fail
 (with_reducible refine KQ.out.mono ?_)
 rintro e w6 ⟨⟨fop, fn, fa2, fn2, fc2, fa3, fn3, fc3⟩, rfl, hF3, hB3⟩
 obtain ⟨z0, z1, z2, z3, zf0, zf1, zf2, zf3, -⟩ := (HR5.out.keep hB3.out).all4
 have hfin := ret_end HS5.out HZ5.out HS0.out hF3.out hB3.out
 unfold put4 at hfin
 have HFI := Lib.hid hfin
 clear hfin hF3 hB3
 go_wp2
 exact bodyPost_ret (v := .agg #[.int .i64 fop, .int .i64 fn, .slice fa2 fn2 fc2, .slice fa3 fn3 fc3]) (by simp [results, Tryz.results65, go_sem, z0, z1, z2, z3]) rfl HFI.out
end Go.Proofs.YtgnloodmbgdgdaaGreat
namespace Go.Proofs.YtgnloodmbgdgdaaGreat
open Go.RowKit Go.Shelf
mutual
theorem pushG_size : ∀ (f : Fo) (b : Bool), (pushG b f).size ≤ 2 * f.size
 | .mk op n is ks, b => by
  have h1 := pushG1_size ks (!b)
  have h2 := pushGs_size ks false
  have h3 := pushGs_size ks true
  rw [pushG]
  have e : (Fo.mk op n is ks).size = 1 + Fo.sizes ks := by rw [Fo.size]
  split
  ·omega
  split
  ·rw [Fo.size]; omega
  split
  ·rw [Fo.size, Fo.sizes]; omega
  split
  ·rw [Fo.size, Fo.sizes]; omega
  split
  ·rw [Fo.size]; omega
  split
  ·rw [Fo.size]; omega
  ·rw [Fo.size, Fo.sizes, Fo.sizes, Fo.size]; omega
theorem pushG1_size : ∀ (ks : List Fo) (b : Bool), (pushG1 b ks).size ≤ 2 * (1 + Fo.sizes ks)
 | [], b => by rw [pushG1, Fo.size, Fo.sizes]; omega
 | k :: ks, b => by have := pushG_size k b; rw [pushG1, Fo.sizes]; omega
theorem pushGs_size : ∀ (ks : List Fo) (b : Bool), Fo.sizes (pushGs b ks) ≤ 2 * Fo.sizes ks
 | [], b => by rw [pushGs, Fo.sizes]; omega
 | k :: ks, b => by have := pushG_size k b; have := pushGs_size ks b; rw [pushGs, Fo.sizes, Fo.sizes]; omega
end
theorem wf_zero (op : Int) : (Fo.mk op 0 [] []).wf := by rw [Fo.wf, Fo.wfs]; exact ⟨⟨fun x h => by simp at h, Nat.zero_le _⟩, trivial⟩
mutual
theorem pushG_wf : ∀ (f : Fo) (b : Bool), f.wf → (pushG b f).wf
 | .mk op n is ks, b, h => by
  rw [Fo.wf] at h
  have h1 := pushG1_wf ks (!b) h.2
  have h2 := pushGs_wf ks false h.2
  have h3 := pushGs_wf ks true h.2
  rw [pushG]
  split
  ·exact h1
  split
  ·rw [Fo.wf]; exact ⟨h.1, h2⟩
  split
  ·exact wf_zero 5
  split
  ·exact wf_zero 0
  split
  ·rw [Fo.wf]; exact ⟨h.1, h3⟩
  split
  ·rw [Fo.wf]; exact ⟨h.1, h3⟩
  ·rw [Fo.wf, Fo.wfs, Fo.wfs, Fo.wf]; exact ⟨⟨fun x h => by simp at h, Nat.zero_le _⟩, ⟨h.1, h2⟩, trivial⟩
theorem pushG1_wf : ∀ (ks : List Fo) (b : Bool), Fo.wfs ks → (pushG1 b ks).wf
 | [], b, _ => by rw [pushG1]; exact wf_zero 0
 | k :: ks, b, h => by rw [Fo.wfs] at h; rw [pushG1]; exact pushG_wf k b h.1
theorem pushGs_wf : ∀ (ks : List Fo) (b : Bool), Fo.wfs ks → Fo.wfs (pushGs b ks)
 | [], b, _ => by rw [pushGs, Fo.wfs]; trivial
 | k :: ks, b, h => by rw [Fo.wfs] at h; rw [pushGs, Fo.wfs]; exact ⟨pushG_wf k b h.1, pushGs_wf ks b h.2⟩
end
noncomputable def pushR (f : Fo) : Fo × Int := if validF f = 0 then (if validF (pushG false f) = 0 then (pushG false f, 0) else (.mk 0 0 [] [], 4)) else (.mk 0 0 [] [], validF f)
def FoE (S0 : Nat → Prop) (p : Fo × Int) (W : World) (e : Ending) (w' : World) : Prop :=
 ∃ r : Fr, e = .returned (.tuple #[.agg #[.int .i64 r.op, .int .i64 r.n, .slice r.a2 r.n2 r.c2, .slice r.a3 r.n3 r.c3], .int .i64 p.2]) ∧ Hid (FSr (fun k => (S0 k ∨ W.heap.size ≤ k) ∧ k < w'.heap.size) w' p.1 r) ∧ Hid (Below W.heap.size W w')
theorem FoE.of {S0 : Nat → Prop} {f : Fo} {er : Int} {W w' : World} {r : Fr} (h : FoOut S0 f W (.returned (.agg #[.int .i64 r.op, .int .i64 r.n, .slice r.a2 r.n2 r.c2, .slice r.a3 r.n3 r.c3])) w') : FoE S0 (f, er) W (.returned (.tuple #[.agg #[.int .i64 r.op, .int .i64 r.n, .slice r.a2 r.n2 r.c2, .slice r.a3 r.n3 r.c3], .int .i64 er])) w' := by
 obtain ⟨r', e, h1, h2⟩ := h
 refine ⟨r, rfl, ?_, h2⟩
 obtain ⟨op, n, a2, n2, c2, a3, n3, c3⟩ := r
 obtain ⟨op', n', a2', n2', c2', a3', n3', c3'⟩ := r'
 simp at e
 obtain ⟨e1, e2, e3, e4⟩ := e
 obtain ⟨e3a, e3b, e3c⟩ := e3
 obtain ⟨e4a, e4b, e4c⟩ := e4
 subst e1 e2 e3a e3b e3c e4a e4b e4c
 exact h1
theorem fsr_z (S : Nat → Prop) (w : World) : FSr S w (.mk 0 0 [] []) ⟨0, 0, none, 0, 0, none, 0, 0⟩ := ⟨rfl, rfl, FS.of (.inl ⟨.inl rfl, rfl⟩) (.inl (.inl rfl)) (.inl ⟨.inl rfl, rfl⟩)⟩
theorem validF_facts {f : Fo} (h : validF f = 0) : f.good = true ∧ f.size ≤ 96 ∧ f.deep ≤ 8 := by
 unfold validF at h
 split at h
 ·cases h
 ·split at h
  ·exact ⟨by assumption, by omega, by omega⟩
  ·cases h
set_option maxHeartbeats 8000000 in
set_option maxRecDepth 100000 in
theorem gPush_any (f : Fo) (hf : f.size ≤ 100000) (hw : f.wf) (S0 : Nat → Prop) (c d : Value) (W : World) (hS0 : ∀ k, S0 k → k < W.heap.size) (hT : FS S0 W f c d) :
  Calls Tryz.prog 25 #[.agg #[.int .i64 f.op, .int .i64 f.n, c, d]] W (FoE S0 (pushR f) W) := by
 obtain ⟨a2, c2, a3, c3, rfl, rfl⟩ : ∃ a2 c2 a3 c3, c = .slice a2 f.is.length c2 ∧ d = .slice a3 f.ks.length c3 := by
  obtain ⟨r, e1, e2, e3, e4, -⟩ := hT.shape
  exact ⟨_, _, _, _, by rw [e1, e3], by rw [e2, e4]⟩
 obtain ⟨W1, hW1⟩ : ∃ W1, W1 = W.alloc (.cells #[.int .i64 f.op, .int .i64 f.n, .slice a2 f.is.length c2, .slice a3 f.ks.length c3] 29) := ⟨_, rfl⟩
 have hS1 : Since W W1 := by rw [hW1]; exact Since.alloc (since_r _) _
 have hX1 : BoxL W.heap.size [.int .i64 f.op, .int .i64 f.n, .slice a2 f.is.length c2, .slice a3 f.ks.length c3] W1 := by rw [hW1]; exact BoxL.made W _ _
 have hz1 : W1.heap.size = W.heap.size + 1 := by rw [hW1, World.size_alloc]
 obtain ⟨W2, hW2⟩ : ∃ W2, W2 = W1.alloc (.cells #[.int .i64 0, .int .i64 0, .slice none 0 0, .slice none 0 0] 29) := ⟨_, rfl⟩
 have hS2 : Since W1 W2 := by rw [hW2]; exact Since.alloc (since_r _) _
 have hR2 : BoxL (W.heap.size + 1) [.int .i64 0, .int .i64 0, .slice none 0 0, .slice none 0 0] W2 := by rw [hW2, ← hz1]; exact BoxL.made W1 _ _
 have hz2 : W2.heap.size = W.heap.size + 2 := by rw [hW2, World.size_alloc, hz1]
 have hS : Since W W2 := Since.step hS1 hS2
 have hT2 : ∀ V, Since W V → FS S0 V f (.slice a2 f.is.length c2) (.slice a3 f.ks.length c3) := fun V hV => FS.mono (fun k h => h.1) _ (FS.keep (S' := S0) ⟨hV.size, fun b hb _ => hV.block b (hS0 b hb)⟩ (fun b _ hb => hb) f hT)
 have KV := Lib.hid (gvalidF_any f (by omega) hw (.slice a2 f.is.length c2) (.slice a3 f.ks.length c3) W2 (FS.fat (fun k hk => Nat.lt_of_lt_of_le (hS0 k hk) hS.size) _ (hT2 W2 hS)))
 have KP := Lib.hid fun (V : World) (hV : Since W V) (hg : f.good = true) => push_any f (by omega) hg hw S0 (.slice a2 f.is.length c2) (.slice a3 f.ks.length c3) V (fun k hk => Nat.lt_of_lt_of_le (hS0 k hk) hV.size) (hT2 V hV)
 have hgz := pushG_size f false
 have hgw := pushG_wf f false hw
 have KV2 := Lib.hid fun (c d : Value) (V : World) (h : FAt V.heap.size V (pushG false f) c d) => gvalidF_any (pushG false f) (by omega) hgw c d V h
 have hpr : pushR f = if validF f = 0 then (if validF (pushG false f) = 0 then (pushG false f, 0) else (.mk 0 0 [] [], 4)) else (.mk 0 0 [] [], validF f) := rfl
 have hvg : validF f = 0 → f.good = true := fun h => (validF_facts h).1
 obtain ⟨o0, o1, o2, o3, -⟩ := (hX1.keep hS2).open4
 have HX2 := Lib.hid (hX1.keep hS2)
 have HR2 := Lib.hid hR2
 have HS := Lib.hid hS
 have HZ2 : Hid (W.heap.size + 2 ≤ W2.heap.size) := Lib.hid (by omega)
 have HS0 := Lib.hid hS0
 generalize pushR f = pr at *
 generalize validF f = v at *
 have HPR := Lib.hid hpr
 have HVG := Lib.hid hvg
 clear hT2 hR2 hS hS0 hT hX1 hS1 hS2 hz2 hz1 hf hw hgz hgw hpr hvg
 go_enter Tryz.func25, Tryz.ntmps25
 go_upto_region 1 with (fail)
 rw [← hW1, ← hW2]
 clear hW1 hW2
 go_wp2_with fail
 (with_reducible refine KV.out.mono ?_)
 rintro e w3 ⟨rfl, hB3⟩
 have hS3 : Since W2 w3 := hB3
 have HS3 := Lib.hid (Since.step HS.out hS3)
 have HZ3 : Hid (W.heap.size + 2 ≤ w3.heap.size) := Lib.hid (Nat.le_trans HZ2.out hS3.size)
 have HR3 := Lib.hid (HR2.out.keep hS3)
 obtain ⟨p0, p1, p2, p3, -⟩ := (HX2.out.keep hS3).open4
 clear hB3 hS3 o0 o1 o2 o3 KV
 by_cases hv : v = 0
 ·have hvb : (v != 0) = false := by simpa using hv
  have hg := HVG.out hv
  have hpr2 : pr = if validF (pushG false f) = 0 then (pushG false f, 0) else (.mk 0 0 [] [], 4) := by rw [HPR.out, if_pos hv]
  have HPR2 := Lib.hid hpr2
  have KP3 := Lib.hid (KP.out w3 HS3.out hg)
  clear hv hg hpr2 HPR HVG KP
  generalize pushG false f = pf at *
  generalize validF pf = v2 at *
  go_wp2_with fail
  (with_reducible refine KP3.out.mono ?_)
  rintro e w4 ⟨⟨fop, fn, fa2, fn2, fc2, fa3, fn3, fc3⟩, rfl, hF4, hB4⟩
  obtain ⟨w5, hw5⟩ : ∃ w5, w5 = w4.alloc (.cells #[.int .i64 fop, .int .i64 fn, .slice fa2 fn2 fc2, .slice fa3 fn3 fc3] 29) := ⟨_, rfl⟩
  have hS5 : Since w4 w5 := by rw [hw5]; exact Since.alloc (since_r _) _
  have hX5 : BoxL w4.heap.size [.int .i64 fop, .int .i64 fn, .slice fa2 fn2 fc2, .slice fa3 fn3 fc3] w5 := by rw [hw5]; exact BoxL.made w4 _ _
  have hF5 := FSr.keep (S' := fun k => S0 k ∨ w3.heap.size ≤ k) hF4.out ⟨hS5.size, fun b _ hl => hS5.block b hl⟩ fun b _ h => h.1
  have hop := hF5.1
  have hnn := hF5.2.1
  have hfa := FS.fat (B := w5.heap.size) (fun k hk => hk.2) _ hF5.2.2
  have kv := KV2.out (.slice fa2 fn2 fc2) (.slice fa3 fn3 fc3) w5 hfa
  simp only at hop hnn
  rw [hop, hnn] at kv
  have KV5 := Lib.hid kv
  have HF5 := Lib.hid hF5
  have HS5 := Lib.hid (Since.step hB4.out hS5)
  have HX5 := Lib.hid hX5
  clear hF4 hB4 hS5 hX5 hF5 hop hnn hfa kv KV2
  go_upto_region 5 with (fail)
  rw [← hw5]
  clear hw5
  generalize w4.heap.size = M at *
  obtain ⟨q0, q1, q2, q3, -⟩ := HX5.out.open4
  go_wp2_with fail
  (with_reducible refine KV5.out.mono ?_)
  rintro e w6 ⟨rfl, hB6⟩
  have hS6 : Since w5 w6 := hB6
  have hs36 : Since w3 w6 := Since.step HS5.out hS6
  obtain ⟨t0, t1, t2, t3, -⟩ := (HX5.out.keep hS6).open4
  obtain ⟨z0, z1, z2, z3, zf0, zf1, zf2, zf3, -⟩ := (HR3.out.keep hs36).all4
  have hF6 := FSr.keep (S' := fun k => S0 k ∨ w3.drew.heap.size ≤ k) HF5.out ⟨hS6.size, fun b _ hl => hS6.block b hl⟩ fun b _ h => h.1
  by_cases hv2 : v2 = 0
  ·have hvb2 : (v2 != 0) = false := by simpa using hv2
   have hpr3 : pr = (pf, 0) := by rw [HPR2.out, if_pos hv2]
   have hfin := FoE.of (er := 0) (ret_end HS3.out HZ3.out HS0.out hF6 hs36)
   rw [← hpr3] at hfin
   unfold put4 at hfin
   have HFI := Lib.hid hfin
   clear hfin hF6 hpr3 hv2 hB6 hS6
   go_wp2
   exact bodyPost_ret (v := .tuple #[.agg #[.int .i64 fop, .int .i64 fn, .slice fa2 fn2 fc2, .slice fa3 fn3 fc3], .int .i64 0]) (by simp [results, Tryz.results25, go_sem, z0, z1, z2, z3]) rfl HFI.out
  ·have hvb2 : (v2 != 0) = true := by simpa using hv2
   have hpr3 : pr = (.mk 0 0 [] [], 4) := by rw [HPR2.out, if_neg hv2]
   have hfin := FoE.of (er := 4) (ret_end HS3.out HZ3.out HS0.out (fsr_z _ w6) hs36)
   rw [← hpr3] at hfin
   unfold put4 at hfin
   have HFI := Lib.hid hfin
   clear hfin hF6 hpr3 hv2 hB6 hS6
   go_wp2
   exact bodyPost_ret (v := .tuple #[.agg #[.int .i64 0, .int .i64 0, .slice none 0 0, .slice none 0 0], .int .i64 4]) (by simp [results, Tryz.results25, go_sem, z0, z1, z2, z3]) rfl HFI.out
 ·have hvb : (v != 0) = true := by simpa using hv
  have hpr2 : pr = (.mk 0 0 [] [], v) := by rw [HPR.out, if_neg hv]
  obtain ⟨z0, z1, z2, z3, zf0, zf1, zf2, zf3, -⟩ := HR3.out.all4
  have hfin := FoE.of (er := v) (ret_end HS3.out HZ3.out HS0.out (fsr_z _ w3) (since_r _))
  rw [← hpr2] at hfin
  unfold put4 at hfin
  have HFI := Lib.hid hfin
  clear hfin hpr2 hv
  go_wp2
  exact bodyPost_ret (v := .tuple #[.agg #[.int .i64 0, .int .i64 0, .slice none 0 0, .slice none 0 0], .int .i64 v]) (by simp [results, Tryz.results25, go_sem, z0, z1, z2, z3]) rfl HFI.out
end Go.Proofs.YtgnloodmbgdgdaaGreat
