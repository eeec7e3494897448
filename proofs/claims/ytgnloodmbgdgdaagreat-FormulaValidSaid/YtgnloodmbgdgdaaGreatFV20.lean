import Derived.Test.YtgnloodmbgdgdaaGreatFV19
namespace Go.Proofs.YtgnloodmbgdgdaaGreat
open Go.RowKit Go.Shelf
theorem tree_all (zs : List Int) (hw : Wfs zs) (cl : Int) (hc1 : 1 ≤ cl) (hc2 : cl ≤ 64) : ∀ d : Nat, d ≤ 10 → TreeK zs cl d
 | 0, _ => tree_step zs hw cl hc1 hc2 0 (by decide) fun e he => by omega
 | d + 1, h => tree_step zs hw cl hc1 hc2 (d + 1) h fun e he => by
  obtain rfl : e = d := by omega
  exact tree_all zs hw cl hc1 hc2 e (by omega)
def someG (zs : List Int) (cl : Int) (most : Int) (d : Nat) : Fo := (treeG zs cl d 0 most).1
theorem someG_ok (zs : List Int) (cl : Int) (h1 : 1 ≤ cl) (h2 : cl ≤ 64) (most : Int) (d : Nat) (hd : 1 ≤ d) : (someG zs cl most d).good = true ∧ (someG zs cl most d).cls cl = true ∧ (someG zs cl most d).wf ∧ (someG zs cl most d).deep ≤ d ∧ (someG zs cl most d).size ≤ mm d ∧ min (most - 1) (3 - 3 * (d : Int)) ≤ most - (someG zs cl most d).size := by
 obtain ⟨t1, t2, t3, t4, t5, t6, t7, t8, t9⟩ := tree_ok zs cl h1 h2 d 0 most
 unfold someG
 exact ⟨t1, t2, t3, by omega, t5, by omega⟩
theorem But.low {M B : Nat} {w w' : World} (h : But M w w') (hB : B ≤ w.heap.size) (hM : B ≤ M) : Below B w w' := ⟨h.st.1, h.st.2.1, h.st.2.2, h.1, fun k hk => h.2 k (by omega) (by omega)⟩
theorem mm_le (d : Nat) (h : d ≤ 6) : mm d ≤ 1093 := by
 match d, h with
 | 0, _ => decide
 | 1, _ => decide
 | 2, _ => decide
 | 3, _ => decide
 | 4, _ => decide
 | 5, _ => decide
 | 6, _ => decide
set_option maxHeartbeats 4000000 in
set_option maxRecDepth 100000 in
theorem someF_any (zs : List Int) (hw : Wfs zs) (cl : Int) (hc1 : 1 ≤ cl) (hc2 : cl ≤ 64) (most : Int) (hm1 : 0 ≤ most) (hm2 : most ≤ 1000) (d : Nat) (hd : d ≤ 6) (sv : Value) (W : World) (hE : Els .i64 W sv zs) :
  Calls Tryz.prog 20 #[sv, .int .i64 cl, .int .i64 most, .int .i64 (d : Int)] W (FoOut (fun _ => False) (someG zs cl most d) W) := by
 obtain ⟨a, c, rfl⟩ := hE.shape
 obtain ⟨W1, hW1⟩ : ∃ W1, W1 = W.alloc (.cells #[.int .i64 0, .int .i64 0, .slice none 0 0, .slice none 0 0] 29) := ⟨_, rfl⟩
 have hS1 : Since W W1 := by rw [hW1]; exact Since.alloc (since_r _) _
 have hX1 : BoxL W.heap.size [.int .i64 0, .int .i64 0, .slice none 0 0, .slice none 0 0] W1 := by rw [hW1]; exact BoxL.made W _ _
 have hz1 : W1.heap.size = W.heap.size + 1 := by rw [hW1, World.size_alloc]
 obtain ⟨W2, hW2⟩ : ∃ W2, W2 = W1.alloc (.cells #[.slice a zs.length c, .int .i64 0, .int .i64 cl, .int .i64 most] 87) := ⟨_, rfl⟩
 have hS2 : Since W1 W2 := by rw [hW2]; exact Since.alloc (since_r _) _
 have hX2 : BoxL (W.heap.size + 1) [.slice a zs.length c, .int .i64 0, .int .i64 cl, .int .i64 most] W2 := by rw [hW2, ← hz1]; exact BoxL.made W1 _ _
 have hf : InS (fun k => k ≠ W.heap.size + 1) (.slice a zs.length c) := by
  rcases hE with ⟨he, -⟩ | ⟨b, off, cap, hb, e, -⟩
  ·exact .inl he
  ·exact .inr ⟨b, off, _, cap, by omega, e⟩
 have hM : Mk (W.heap.size + 1) (.slice a zs.length c) zs 0 cl most W2 := ⟨hX2, hE.below (Since.step hS1 hS2), hf⟩
 have hmm := mm_le d hd
 have KT := Lib.hid (tree_all zs hw cl hc1 hc2 d (by omega) (W.heap.size + 1) _ 0 most W2 hM (by omega) (by omega) (by omega))
 have HX1 := Lib.hid (hX1.keep hS2)
 have HB := Lib.hid (Since.step hS1 hS2)
 have HZ := Lib.hid hz1
 have HZ2 : Hid (W2.heap.size = W.heap.size + 1 + 1) := Lib.hid (by rw [hW2, World.size_alloc, hz1])
 have hsg : Hid ((treeG zs cl d 0 most).1 = someG zs cl most d) := Lib.hid rfl
 clear hX1 hX2 hf hM hmm hE hS1 hS2 hz1
 go_enter Tryz.func20, Tryz.ntmps20
 go_upto_region 2 with (fail)
 rw [← hW1, ← hW2]
 clear hW1 hW2
 go_wp2_with fail
 refine KT.out.mono ?_
 rintro e w4 ⟨⟨fop, fn, fa2, fn2, fc2, fa3, fn3, fc3⟩, rfl, hF4, hM4, hB4⟩
 have hX4 := hB4.out.box HX1.out (by omega)
 obtain ⟨x0, x1, x2, x3, f0, f1, f2, f3, -⟩ := hX4.all4
 have hBw : Below W.heap.size W w4 := HB.out.trans (hB4.out.low (by have := HB.out.size; omega) (by omega))
 have hF : FSr (fun k => ((False ∧ k < W.heap.size) ∨ (W.heap.size ≤ k ∧ k ≠ W.heap.size)) ∧ k < w4.heap.size) w4 (treeG zs cl d 0 most).1 ⟨fop, fn, fa2, fn2, fc2, fa3, fn3, fc3⟩ := FSr.keep (S' := fun k => (False ∧ k < W.heap.size) ∨ (W.heap.size ≤ k ∧ k ≠ W.heap.size)) hF4.out ⟨Nat.le_refl _, fun _ _ _ => rfl⟩ fun b _ h => .inr (by have := HZ2.out; omega)
 have hfin := put4_end (S0 := fun _ => False) hBw (Nat.le_refl _) _ hF _ _ rfl rfl
 rw [hsg.out] at hfin
 have HF := Lib.hid hfin
 unfold put4 at HF
 clear hfin hF hF4 hM4 hB4 KT HX1 hX4 hBw hsg
 go_wp2
 exact bodyPost_ret (v := .agg #[.int .i64 fop, .int .i64 fn, .slice fa2 fn2 fc2, .slice fa3 fn3 fc3]) (by simp [results, Tryz.results20, go_sem, x0, x1, x2, x3]) rfl HF.out
end Go.Proofs.YtgnloodmbgdgdaaGreat
namespace Go.Proofs.YtgnloodmbgdgdaaGreat
open Go.RowKit Go.Shelf
def zeroF : Fo := .mk 0 0 [] []
def notN : Nat → Fo → Fo
 | 0, f => f
 | k + 1, f => .mk 6 0 [] [notN k f]
def tabA (z : Int) : Int := if aroundI z 6 = 0 then z else if aroundI z 6 = 1 then -1 else if aroundI z 6 = 2 then 7 else if aroundI z 6 = 3 then 0 else if aroundI z 6 = 4 then 4 else 6
def tabB (z : Int) : Int := if aroundI z 7 = 0 then z else if aroundI z 7 = 1 then -1 else if aroundI z 7 = 2 then 0 else if aroundI z 7 = 3 then 31 else if aroundI z 7 = 4 then 32 else if aroundI z 7 = 5 then 63 else 64
def spoilH (f : Fo) (r z : Int) : Fo :=
 if r = 0 then .mk (tabA z) f.n f.is f.ks
 else if r = 1 then .mk f.op (tabB z) f.is f.ks
 else if r = 2 then .mk f.op f.n (f.is ++ [⟨z, 1, 5, 1, false, false, false, false⟩]) f.ks
 else if r = 3 then .mk f.op f.n (f.is ++ f.is) f.ks
 else if r = 4 then .mk f.op f.n f.is (f.ks ++ [zeroF])
 else if r = 5 then .mk f.op f.n f.is []
 else if r = 6 then .mk 5 0 [] [f, .mk 4 0 [] (List.replicate (85 + (aroundI z 10).toNat) zeroF)]
 else notN (1 + (aroundI z 7).toNat) f
def spoilF : Nat → Fo → Int → Int → Int → Fo
 | 0, f, _, _, _ => f
 | m + 1, f, x, y, z =>
  if 0 < f.ks.length ∧ 0 < aroundI x 3 then .mk f.op f.n f.is (f.ks.set (aroundI (IntKind.i64.wrap (x.tdiv 3)) f.ks.length).toNat (spoilF m (f.ks[(aroundI (IntKind.i64.wrap (x.tdiv 3)) f.ks.length).toNat]?.getD zeroF) (IntKind.i64.wrap (x.tdiv 9)) y z))
  else spoilH f (aroundI y 8) z
mutual
def Fo.wfm (m : Nat) : Fo → Prop
 | .mk _ _ is ks => ((∀ x ∈ is, x.wf) ∧ is.length ≤ m) ∧ Fo.wfms m ks
def Fo.wfms (m : Nat) : List Fo → Prop
 | [] => True
 | t :: ts => t.wfm m ∧ Fo.wfms m ts
end
theorem Fo.wfms_all {m : Nat} {ts : List Fo} : Fo.wfms m ts ↔ ∀ t ∈ ts, t.wfm m := by
 induction ts with
 | nil => simp [Fo.wfms]
 | cons t ts ih => rw [Fo.wfms, ih]; simp
theorem Fo.wfm_eq {m : Nat} (f : Fo) : f.wfm m ↔ ((∀ x ∈ f.is, x.wf) ∧ f.is.length ≤ m) ∧ ∀ u ∈ f.ks, u.wfm m := by
 cases f
 rw [Fo.wfm, Fo.wfms_all]
 rfl
mutual
theorem Fo.wfm_mono {m m' : Nat} (h : m ≤ m') : ∀ f : Fo, f.wfm m → f.wfm m'
 | .mk _ _ is ks => fun hf => by
  rw [Fo.wfm] at hf ⊢
  exact ⟨⟨hf.1.1, by have := hf.1.2; omega⟩, Fo.wfms_mono h ks hf.2⟩
theorem Fo.wfms_mono {m m' : Nat} (h : m ≤ m') : ∀ ts : List Fo, Fo.wfms m ts → Fo.wfms m' ts
 | [] => fun _ => by rw [Fo.wfms]; trivial
 | t :: ts => fun hf => by
  rw [Fo.wfms] at hf ⊢
  exact ⟨Fo.wfm_mono h t hf.1, Fo.wfms_mono h ts hf.2⟩
end
mutual
theorem Fo.wf_of {m : Nat} (h : m ≤ 1000000) : ∀ f : Fo, f.wfm m → f.wf
 | .mk _ _ is ks => fun hf => by
  rw [Fo.wfm] at hf
  rw [Fo.wf]
  exact ⟨⟨hf.1.1, by have := hf.1.2; omega⟩, Fo.wfs_of h ks hf.2⟩
theorem Fo.wfs_of {m : Nat} (h : m ≤ 1000000) : ∀ ts : List Fo, Fo.wfms m ts → Fo.wfs ts
 | [] => fun _ => by rw [Fo.wfs]; trivial
 | t :: ts => fun hf => by
  rw [Fo.wfms] at hf
  rw [Fo.wfs]
  exact ⟨Fo.wf_of h t hf.1, Fo.wfs_of h ts hf.2⟩
end
theorem zero_wfm (m : Nat) : zeroF.wfm m := by unfold zeroF; rw [Fo.wfm]; exact ⟨⟨fun x h => by simp at h, Nat.zero_le _⟩, by rw [Fo.wfms]; trivial⟩
theorem zero_size : zeroF.size = 1 := by simp [zeroF, Fo.size, Fo.sizes]
theorem notN_wfm {m : Nat} {f : Fo} (h : f.wfm m) : ∀ k, (notN k f).wfm m
 | 0 => h
 | k + 1 => by rw [notN, Fo.wfm, Fo.wfms, Fo.wfms]; exact ⟨⟨fun x h => by simp at h, Nat.zero_le _⟩, notN_wfm h k, trivial⟩
theorem notN_size (f : Fo) : ∀ k, (notN k f).size = k + f.size
 | 0 => by rw [notN]; omega
 | k + 1 => by rw [notN, Fo.size, Fo.sizes, Fo.sizes, notN_size f k]; omega
theorem sizes_rep (k : Nat) : Fo.sizes (List.replicate k zeroF) = k := by
 induction k with
 | zero => rfl
 | succ k ih => rw [List.replicate_succ, Fo.sizes, ih, zero_size]; omega
theorem sizes_set {ks : List Fo} {k : Nat} {u v : Fo} (h : ks[k]? = some u) : Fo.sizes (ks.set k v) + u.size = Fo.sizes ks + v.size := by
 induction ks generalizing k with
 | nil => simp at h
 | cons t ts ih =>
  cases k with
  | zero => simp at h; subst h; rw [List.set_cons_zero, Fo.sizes, Fo.sizes]; omega
  | succ k => simp at h; have := ih h; rw [List.set_cons_succ, Fo.sizes, Fo.sizes]; omega
theorem spoilH_ok {m : Nat} {f : Fo} (h : f.wfm m) (hm : 1 ≤ m) (r z : Int) (hz : I64 z) : (spoilH f r z).wfm (2 * m) ∧ (spoilH f r z).size ≤ f.size + 100 := by
 have hf := (Fo.wfm_eq f).1 h
 have h2 : ∀ u ∈ f.ks, u.wfm (2 * m) := fun u hu => Fo.wfm_mono (by omega) u (hf.2 u hu)
 have hs := f.size_eq
 have r7 := aroundI_range z 7 (by decide)
 have r10 := aroundI_range z 10 (by decide)
 unfold spoilH
 split
 ·exact ⟨(Fo.wfm_eq _).2 ⟨⟨hf.1.1, by show f.is.length ≤ _; have := hf.1.2; omega⟩, h2⟩, by rw [Fo.size]; omega⟩
 split
 ·exact ⟨(Fo.wfm_eq _).2 ⟨⟨hf.1.1, by show f.is.length ≤ _; have := hf.1.2; omega⟩, h2⟩, by rw [Fo.size]; omega⟩
 split
 ·refine ⟨(Fo.wfm_eq _).2 ⟨⟨fun x hx => ?_, by show (f.is ++ [_]).length ≤ _; rw [List.length_append]; have := hf.1.2; simp; omega⟩, h2⟩, by rw [Fo.size]; omega⟩
  rcases List.mem_append.1 hx with hx | hx
  ·exact hf.1.1 x hx
  ·rw [List.mem_singleton.1 hx]; exact ⟨hz, (show I64 1 from ⟨by decide, by decide⟩), (show I64 5 from ⟨by decide, by decide⟩), (show I64 1 from ⟨by decide, by decide⟩)⟩
 split
 ·refine ⟨(Fo.wfm_eq _).2 ⟨⟨fun x hx => ?_, by show (f.is ++ f.is).length ≤ _; rw [List.length_append]; have := hf.1.2; omega⟩, h2⟩, by rw [Fo.size]; omega⟩
  rcases List.mem_append.1 hx with hx | hx <;> exact hf.1.1 x hx
 split
 ·refine ⟨(Fo.wfm_eq _).2 ⟨⟨hf.1.1, by show f.is.length ≤ _; have := hf.1.2; omega⟩, fun u hu => ?_⟩, by rw [Fo.size, Fo.sizes_append, Fo.sizes, Fo.sizes, zero_size]; omega⟩
  rcases List.mem_append.1 hu with hu | hu
  ·exact h2 u hu
  ·rw [List.mem_singleton.1 hu]; exact zero_wfm _
 split
 ·exact ⟨(Fo.wfm_eq _).2 ⟨⟨hf.1.1, by show f.is.length ≤ _; have := hf.1.2; omega⟩, fun u hu => by cases hu⟩, by rw [Fo.size, Fo.sizes]; omega⟩
 split
 ·refine ⟨?_, by rw [Fo.size, Fo.sizes, Fo.sizes, Fo.sizes, Fo.size, sizes_rep]; omega⟩
  rw [Fo.wfm, Fo.wfms, Fo.wfms, Fo.wfms, Fo.wfm]
  refine ⟨⟨fun x h => by simp at h, Nat.zero_le _⟩, Fo.wfm_mono (by omega) f h, ⟨⟨fun x h => by simp at h, Nat.zero_le _⟩, Fo.wfms_all.2 fun u hu => ?_⟩, trivial⟩
  rw [List.eq_of_mem_replicate hu]
  exact zero_wfm _
 ·exact ⟨notN_wfm (Fo.wfm_mono (by omega) f h) _, by rw [notN_size]; omega⟩
theorem spoilF_ok {m : Nat} (hm : 1 ≤ m) : ∀ (k : Nat) (f : Fo), f.wfm m → ∀ (x y z : Int), I64 z → (spoilF k f x y z).wfm (2 * m) ∧ (spoilF k f x y z).size ≤ f.size + 100
 | 0, f, h, x, y, z, _ => ⟨Fo.wfm_mono (by omega) f h, by rw [spoilF]; omega⟩
 | k + 1, f, h, x, y, z, hz => by
  rw [spoilF]
  split
  ·rename_i hc
   have hf := (Fo.wfm_eq f).1 h
   have hr := aroundI_range (IntKind.i64.wrap (x.tdiv 3)) f.ks.length (by omega)
   obtain ⟨j, hj⟩ : ∃ j, j = (aroundI (IntKind.i64.wrap (x.tdiv 3)) f.ks.length).toNat := ⟨_, rfl⟩
   rw [← hj]
   have hjl : j < f.ks.length := by omega
   obtain ⟨u, hu⟩ : ∃ u, f.ks[j]? = some u := ⟨_, List.getElem?_eq_getElem hjl⟩
   rw [hu]
   simp only [Option.getD_some]
   have hum := List.mem_of_getElem? hu
   obtain ⟨k1, k2⟩ := spoilF_ok hm k u (hf.2 u hum) (IntKind.i64.wrap (x.tdiv 9)) y z hz
   have hs := f.size_eq
   have hss := sizes_set (v := spoilF k u (IntKind.i64.wrap (x.tdiv 9)) y z) hu
   refine ⟨(Fo.wfm_eq _).2 ⟨⟨hf.1.1, by show f.is.length ≤ _; have := hf.1.2; omega⟩, fun v hv => ?_⟩, by rw [Fo.size]; omega⟩
   rcases List.mem_or_eq_of_mem_set hv with hv | rfl
   ·exact Fo.wfm_mono (by omega) v (hf.2 v hv)
   ·exact k1
  ·exact spoilH_ok h hm _ z hz
def SP (S0 : Nat → Prop) (W : World) (k : Nat) : Prop := (S0 k ∨ W.heap.size ≤ k) ∧ k ≠ W.heap.size + 1
structure SO (S0 : Nat → Prop) (W w : World) (op n : Int) (vi vk : Value) (is : List Iv) (rs : List Fr) (ks : List Fo) : Prop where
 of : OF (SP S0 W) W.heap.size W.heap.size w op n vi vk is rs ks
 ui : ∀ g, vi.ownBlock = some g → W.heap.size + 2 ≤ g
 uk : ∀ g, vk.ownBlock = some g → W.heap.size + 2 ≤ g
 bx : BoxL (W.heap.size + 1) [.int .i64 0, .int .i64 0, .slice none 0 0, .slice none 0 0] w
 bl : Below W.heap.size W w
theorem PF.up {v v' : Value} {w w' : World} (hp : PF v w w' v') {Q : Nat} (h : ∀ g, v.ownBlock = some g → Q ≤ g) (hQ : Q ≤ w.heap.size) : ∀ g, v'.ownBlock = some g → Q ≤ g := fun g hg => by
 rcases hp.2 g hg with h2 | h2
 ·exact h g h2
 ·omega
theorem ROwn.ins2 {α : Type} {R : RowOf α} {E : TypeId} {B : Nat} {w : World} {sv : Value} {xs : List α} {S : Nat → Prop} (h : ROwn R E B w sv xs) (hS : ∀ k, sv.ownBlock = some k → B ≤ k ∧ k < w.heap.size → S k) : InS S sv := by
 rcases h.ins with h | ⟨b, off, n, cap, hb, rfl⟩
 ·exact .inl h
 ·exact .inr ⟨b, off, n, cap, hS b rfl hb, rfl⟩
section
variable {S0 : Nat → Prop} {W w w' : World} {op n : Int} {vi vk : Value} {is : List Iv} {rs : List Fr} {ks : List Fo}
theorem BoxL.other {N M o : Nat} {vs : List Value} (h : BoxL N vs w) (v : Value) (hne : N ≠ M) : BoxL N vs (w.setCell ⟨M, o, none⟩ v) :=
 KeepS.box (S := fun k => k ≠ M) ⟨by rw [World.size_setCell]; exact Nat.le_refl _, fun _ hb _ => Below.heap_setCell _ _ _ _ hb⟩ h hne
theorem SO.setI (h : SO S0 W w op n vi vk is rs ks) {v' : Value} {is' : List Iv} (hp : PF vi w w' v') (hO : ROwn RIv 112 W.heap.size w' v' is') (hB : Below W.heap.size w w') : SO S0 W (w'.setCell ⟨W.heap.size, 2, none⟩ v') op n v' vk is' rs ks :=
 ⟨h.of.setI hp hO, hp.up h.ui (by have := h.bx.1; omega), h.uk, (h.bx.far (fun e => by have := h.ui _ e; omega) hp).other _ (by omega), (h.bl.trans hB).setCell (p := ⟨W.heap.size, 2, none⟩) (Nat.le_refl _) _⟩
theorem SO.setK (h : SO S0 W w op n vi vk is rs ks) {v' : Value} {rs' : List Fr} {ks' : List Fo} (hp : PF vk w w' v') (hO : ROwn RFo 29 W.heap.size w' v' rs') (hL : LieF (FreeF (SP S0 W) W.heap.size vi vk) w rs' ks') (hB : Below W.heap.size w w') : SO S0 W (w'.setCell ⟨W.heap.size, 3, none⟩ v') op n vi v' is rs' ks' :=
 ⟨h.of.setK hp hO hL, h.ui, hp.up h.uk (by have := h.bx.1; omega), (h.bx.far (fun e => by have := h.uk _ e; omega) hp).other _ (by omega), (h.bl.trans hB).setCell (p := ⟨W.heap.size, 3, none⟩) (Nat.le_refl _) _⟩
theorem SO.frame (h : SO S0 W w op n vi vk is rs ks) (hB : Since w w') : SO S0 W w' op n vi vk is rs ks :=
 ⟨h.of.frame hB, h.ui, h.uk, h.bx.keep hB, h.bl.trans (Below.mono hB h.bl.size)⟩
theorem SO.done (h : SO S0 W w op n vi vk is rs ks) : FS (fun k => SP S0 W k ∧ k < w.heap.size) w (.mk op n is ks) vi vk := by
 refine FS.of h.of.oi.els (h.of.oi.ins2 fun k h1 h2 => ⟨⟨.inr h2.1, by have := h.ui k h1; omega⟩, h2.2⟩) (FSl.of h.of.ok.els (h.of.ok.ins2 fun k h1 h2 => ⟨⟨.inr h2.1, by have := h.uk k h1; omega⟩, h2.2⟩) h.of.lie.1 fun j r t hr ht => ?_)
 exact FSr.keep (S' := SP S0 W) (h.of.lie.2 j r t hr ht) ⟨Nat.le_refl _, fun _ _ _ => rfl⟩ (fun k _ hk => hk.1.1)
theorem SO.done2 (h : SO S0 W w op n vi vk is rs ks) : FS (fun k => (SP S0 W k ∧ k ≠ W.heap.size) ∧ k < w.heap.size) w (.mk op n is ks) vi vk := by
 refine FS.of h.of.oi.els (h.of.oi.ins2 fun k h1 h2 => ⟨⟨⟨.inr h2.1, by have := h.ui k h1; omega⟩, by have := h.ui k h1; omega⟩, h2.2⟩) (FSl.of h.of.ok.els (h.of.ok.ins2 fun k h1 h2 => ⟨⟨⟨.inr h2.1, by have := h.uk k h1; omega⟩, by have := h.uk k h1; omega⟩, h2.2⟩) h.of.lie.1 fun j r t hr ht => ?_)
 exact FSr.keep (S' := fun k => SP S0 W k ∧ k ≠ W.heap.size) (h.of.lie.2 j r t hr ht) ⟨Nat.le_refl _, fun _ _ _ => rfl⟩ (fun k _ hk => ⟨hk.1.1, hk.1.2.1⟩)
theorem SO.fin {a2 a3 : Option Addr} {n2 c2 n3 c3 : Nat} {f : Fo} (h : SO S0 W w op n (.slice a2 n2 c2) (.slice a3 n3 c3) is rs ks) (hS0 : ∀ k, S0 k → k < W.heap.size) (hf : f = .mk op n is ks) : FoOut S0 f W (.returned (.agg #[.int .i64 op, .int .i64 n, .slice a2 n2 c2, .slice a3 n3 c3])) (put4 w (W.heap.size + 1) (.int .i64 op) (.int .i64 n) (.slice a2 n2 c2) (.slice a3 n3 c3)) := by
 subst hf
 refine put4_end (N := W.heap.size + 1) h.bl (by omega) ⟨op, n, a2, n2, c2, a3, n3, c3⟩ ⟨rfl, rfl, FS.mono (fun k hk => ⟨?_, hk.2⟩) _ h.done⟩ _ _ rfl rfl
 rcases hk.1.1 with h1 | h1
 ·exact .inl ⟨h1, hS0 k h1⟩
 ·exact .inr ⟨h1, hk.1.2⟩
theorem SO.part (h : SO S0 W w op n vi vk is rs ks) {S1 : Nat → Prop} (hS : ∀ k, k < w'.heap.size → S1 k → (FreeF (SP S0 W) W.heap.size vi vk k) ∨ w.heap.size ≤ k) {t : Fo} {r : Fr} (hT : FSr S1 w' t r) : FSr (fun k => FreeF (SP S0 W) W.heap.size vi vk k ∧ k < w'.heap.size) w' t r := by
 refine FSr.keep (S' := FreeF (SP S0 W) W.heap.size vi vk) hT ⟨Nat.le_refl _, fun _ _ _ => rfl⟩ (fun k hl hk => ?_)
 rcases hS k hl hk with h1 | h1
 ·exact h1
 ·have h2 := h.of.box.1
  have h3 := h.bx.1
  exact ⟨⟨.inr (by omega), by omega⟩, by omega, fun e => by have := (h.of.oi.lt k e).2; omega, fun e => by have := (h.of.ok.lt k e).2; omega⟩
theorem SO.updK (h : SO S0 W w op n vi vk is rs ks) {rs' : List Fr} {ks' : List Fo} (hp : PF vk w w' vk) (hO : ROwn RFo 29 W.heap.size w' vk rs') (hL : LieF (FreeF (SP S0 W) W.heap.size vi vk) w rs' ks') (hB : Below W.heap.size w w') : SO S0 W w' op n vi vk is rs' ks' :=
 ⟨⟨h.of.thereK hp, h.of.hB, h.of.oi.keepS fun g e hl => hp.1.2 g (fun e2 => h.of.ik g e e2) hl, hO, hL.keep ⟨hp.1.1, fun b hb hl => hp.1.2 b hb.2.2.2 hl⟩ fun _ _ h => h, h.of.ni, h.of.nk, h.of.ik⟩, h.ui, h.uk, h.bx.far (fun e => by have := h.uk _ e; omega) hp, h.bl.trans hB⟩
end
theorem row_set4 {α : Type} (R : RowOf α) (a b c d : α → Value) (hc : ∀ x, R.cells x = [a x, b x, c x, d x]) (rs : List α) (j : Nat) (r : α) (hj : j < rs.length) :
  ((((rs.flatMap R.cells).set (j * 4) (a r)).set (j * 4 + 1) (b r)).set (j * 4 + 2) (c r)).set (j * 4 + 3) (d r) = (rs.set j r).flatMap R.cells := by
 induction rs generalizing j with
 | nil => simp at hj
 | cons x xs ih =>
  rw [List.flatMap_cons, hc]
  cases j with
  | zero => simp [hc]
  | succ j =>
   have h := ih j (by simpa using hj)
   rw [List.set_cons_succ, List.flatMap_cons, hc, ← h]
   have e : ∀ (n : Nat) (l : List Value) (v : Value), ([a x, b x, c x, d x] ++ l).set (n + 4) v = [a x, b x, c x, d x] ++ l.set n v := fun n l v => rfl
   rw [show (j + 1) * 4 = j * 4 + 4 by omega, show j * 4 + 4 + 1 = j * 4 + 1 + 4 by omega, show j * 4 + 4 + 2 = j * 4 + 2 + 4 by omega, show j * 4 + 4 + 3 = j * 4 + 3 + 4 by omega, e, e, e, e]
theorem ROwn.set4 {E : TypeId} {B : Nat} {w : World} {g n c : Nat} {rs : List Fr} (h : ROwn RFo E B w (.slice (some ⟨g, 0, none⟩) n c) rs) (j : Nat) (hj : j < rs.length) (r : Fr) :
  ROwn RFo E B ((((w.setCell ⟨g, j * 4, none⟩ (.int .i64 r.op)).setCell ⟨g, j * 4 + 1, none⟩ (.int .i64 r.n)).setCell ⟨g, j * 4 + 2, none⟩ (.slice r.a2 r.n2 r.c2)).setCell ⟨g, j * 4 + 3, none⟩ (.slice r.a3 r.n3 r.c3)) (.slice (some ⟨g, 0, none⟩) n c) (rs.set j r) := by
 have hn := h.els.len
 subst hn
 have h1 := (World.ownsRow.stored h (j * 4) (.int .i64 r.op)).1
 have h2 := (World.ownsRow.stored h1 (j * 4 + 1) (.int .i64 r.n)).1
 have h3 := (World.ownsRow.stored h2 (j * 4 + 2) (.slice r.a2 r.n2 r.c2)).1
 have h4 := (World.ownsRow.stored h3 (j * 4 + 3) (.slice r.a3 r.n3 r.c3)).1
 unfold ROwn
 rw [← row_set4 RFo (fun x => .int .i64 x.op) (fun x => .int .i64 x.n) (fun x => .slice x.a2 x.n2 x.c2) (fun x => .slice x.a3 x.n3 x.c3) (fun _ => rfl) rs j r hj, List.length_set]
 exact h4
theorem PF.put4 (w : World) (g o1 o2 o3 o4 n c : Nat) (u1 u2 u3 u4 : Value) : PF (.slice (some ⟨g, 0, none⟩) n c) w ((((w.setCell ⟨g, o1, none⟩ u1).setCell ⟨g, o2, none⟩ u2).setCell ⟨g, o3, none⟩ u3).setCell ⟨g, o4, none⟩ u4) (.slice (some ⟨g, 0, none⟩) n c) := by
 refine ⟨⟨by simp only [World.size_setCell]; exact Nat.le_refl _, fun b hb _ => ?_⟩, fun _ h => .inl h⟩
 have hne : b ≠ g := fun e => hb (by rw [e]; rfl)
 rw [Below.heap_setCell _ _ _ _ hne, Below.heap_setCell _ _ _ _ hne, Below.heap_setCell _ _ _ _ hne, Below.heap_setCell _ _ _ _ hne]
theorem ROwn.frozenF {α : Type} {R : RowOf α} {E : TypeId} {B : Nat} {w : World} {g n c : Nat} {xs : List α} (h : ROwn R E B w (.slice (some ⟨g, 0, none⟩) n c) xs) (j : Nat) : w.frozen? ⟨g, j, none⟩ = false := by
 have hn := h.els.len
 subst hn
 exact World.ownsRow.frozenAt h j
theorem box4_put {M : Nat} {w : World} {a b c d a' b' c' d' : Value} (h : BoxL M [a, b, c, d] w) : BoxL M [a', b', c', d'] (put4 w M a' b' c' d') := (((h.set1 0 a' (by simp)).set1 1 b' (by simp)).set1 2 c' (by simp)).set1 3 d' (by simp)
theorem put4_box {M N : Nat} {w : World} {vs : List Value} (h : BoxL N vs w) (hne : N ≠ M) (a b c d : Value) : BoxL N vs (put4 w M a b c d) := KeepS.box (S := fun k => k ≠ M) (put4_keep _ _ _ _ _ _ fun _ h => h) h hne
theorem fsr_zero (S : Nat → Prop) (w : World) : FSr S w zeroF ⟨0, 0, none, 0, 0, none, 0, 0⟩ := ⟨rfl, rfl, FS.of (.inl ⟨.inl rfl, rfl⟩) (.inl (.inl rfl)) (.inl ⟨.inl rfl, rfl⟩)⟩
theorem pf_nil (v : Value) (w : World) : PF v w w (.slice none 0 0) := ⟨⟨Nat.le_refl _, fun _ _ _ => rfl⟩, fun g h => by simp [Value.ownBlock] at h⟩
theorem two_kids {S S' : Nat → Prop} {W : World} {t u : Fo} {r q : Fr} (h : FSr S W t r) (h2 : FSr S W u q) (op n : Int) (T : TypeId) (hs : ∀ b, b < W.heap.size → S b → S' b) (hn : S' W.heap.size) :
  FSr (fun k => S' k ∧ k < (W.alloc (.cells #[.int .i64 r.op, .int .i64 r.n, .slice r.a2 r.n2 r.c2, .slice r.a3 r.n3 r.c3, .int .i64 q.op, .int .i64 q.n, .slice q.a2 q.n2 q.c2, .slice q.a3 q.n3 q.c3] T)).heap.size) (W.alloc (.cells #[.int .i64 r.op, .int .i64 r.n, .slice r.a2 r.n2 r.c2, .slice r.a3 r.n3 r.c3, .int .i64 q.op, .int .i64 q.n, .slice q.a2 q.n2 q.c2, .slice q.a3 q.n3 q.c3] T)) (.mk op n [] [t, u]) ⟨op, n, none, 0, 0, some ⟨W.heap.size, 0, none⟩, 2, 2⟩ := by
 have hO := ROwn.new RFo T W [r, q] #[.int .i64 r.op, .int .i64 r.n, .slice r.a2 r.n2 r.c2, .slice r.a3 r.n3 r.c3, .int .i64 q.op, .int .i64 q.n, .slice q.a2 q.n2 q.c2, .slice q.a3 q.n3 q.c3] rfl (by unfold maxLen; simp)
 have hI : InS (fun k => S' k ∧ k < (W.alloc (.cells #[.int .i64 r.op, .int .i64 r.n, .slice r.a2 r.n2 r.c2, .slice r.a3 r.n3 r.c3, .int .i64 q.op, .int .i64 q.n, .slice q.a2 q.n2 q.c2, .slice q.a3 q.n3 q.c3] T)).heap.size) (.slice (some ⟨W.heap.size, 0, none⟩) 2 2) := by
  refine hO.ins.mono fun k hk => ⟨?_, hk.2⟩
  rw [World.size_alloc] at hk
  have e : k = W.heap.size := by omega
  rw [e]
  exact hn
 refine ⟨rfl, rfl, FS.of (.inl ⟨.inl rfl, rfl⟩) (.inl (.inl rfl)) (FSl.of hO.els hI rfl fun j r' t' hr ht => ?_)⟩
 match j with
 | 0 =>
  cases hr
  cases ht
  exact FSr.keep (S' := S') h ⟨by simp, fun b _ hl => Below.heap_alloc _ _ _ hl⟩ hs
 | 1 =>
  cases hr
  cases ht
  exact FSr.keep (S' := S') h2 ⟨by simp, fun b _ hl => Below.heap_alloc _ _ _ hl⟩ hs
 | j + 2 => simp at hr
theorem two_fin {S0 : Nat → Prop} {W w : World} {t u : Fo} {r q : Fr} (hb : Below W.heap.size W w) (hx : W.heap.size + 1 < w.heap.size) (h : FSr (SP S0 W) w t r) (h2 : FSr (SP S0 W) w u q) (T : TypeId) :
  FoOut S0 (.mk 5 0 [] [t, u]) W (.returned (.agg #[.int .i64 5, .int .i64 0, .slice none 0 0, .slice (some ⟨w.heap.size, 0, none⟩) 2 2])) ((put4 w (W.heap.size + 1) (.int .i64 5) (.int .i64 0) (.slice none 0 0) (.slice (some ⟨w.heap.size, 0, none⟩) 2 2)).alloc (.cells #[.int .i64 r.op, .int .i64 r.n, .slice r.a2 r.n2 r.c2, .slice r.a3 r.n3 r.c3, .int .i64 q.op, .int .i64 q.n, .slice q.a2 q.n2 q.c2, .slice q.a3 q.n3 q.c3] T)) := by
 obtain ⟨w2, hw2⟩ : ∃ w2, w2 = put4 w (W.heap.size + 1) (.int .i64 5) (.int .i64 0) (.slice none 0 0) (.slice (some ⟨w.heap.size, 0, none⟩) 2 2) := ⟨_, rfl⟩
 have hz : w2.heap.size = w.heap.size := by rw [hw2]; unfold put4; simp only [World.size_setCell]
 have hk : KeepS (SP S0 W) w w2 := by rw [hw2]; exact put4_keep _ _ _ _ _ _ fun _ h => h.2
 have hB2 : Below W.heap.size W w2 := by rw [hw2]; exact put4_below hb (by omega) _ _ _ _
 have e1 := FSr.keep (S' := SP S0 W) h hk fun _ _ h => h
 have e2 := FSr.keep (S' := SP S0 W) h2 hk fun _ _ h => h
 have e3 := two_kids (S' := fun k => S0 k ∨ W.heap.size ≤ k) e1 e2 5 0 T (fun b _ h => h.1.1) (.inr (by omega))
 rw [← hw2, ← hz]
 exact ⟨_, rfl, Lib.hid e3, Lib.hid (hB2.alloc hB2.size _)⟩
theorem SO.cell {S0 : Nat → Prop} {W w : World} {op n op' n' : Int} {vi vk : Value} {is : List Iv} {rs : List Fr} {ks : List Fo} (h : SO S0 W w op n vi vk is rs ks) (j : Nat) (v : Value) (hj : j < 4) (he : [.int .i64 op, .int .i64 n, vi, vk].set j v = [.int .i64 op', .int .i64 n', vi, vk]) : SO S0 W (w.setCell ⟨W.heap.size, j, none⟩ v) op' n' vi vk is rs ks := by
 have hk : ∀ g, g ≠ W.heap.size → (w.setCell ⟨W.heap.size, j, none⟩ v).heap[g]? = w.heap[g]? := fun g hg => Below.heap_setCell _ _ _ _ hg
 refine ⟨⟨by have := h.of.box.set1 j v (by simpa using hj); rwa [he] at this, h.of.hB, h.of.oi.keepS fun g e _ => hk g (by have := h.ui g e; omega), h.of.ok.keepS fun g e _ => hk g (by have := h.uk g e; omega), h.of.lie.keep ⟨by rw [World.size_setCell]; exact Nat.le_refl _, fun b hb _ => hk b hb.2.1⟩ fun _ _ h => h, h.of.ni, h.of.nk, h.of.ik⟩, h.ui, h.uk, h.bx.other _ (by omega), h.bl.setCell (p := ⟨W.heap.size, j, none⟩) (Nat.le_refl _) _⟩
theorem SO.start {S0 : Nat → Prop} {W w : World} {op n : Int} {vi vk : Value} {is : List Iv} {rs : List Fr} {ks : List Fo} (hbox : BoxL W.heap.size [.int .i64 op, .int .i64 n, vi, vk] w) (hoi : ROwn RIv 112 (W.heap.size + 2) w vi is) (hok : ROwn RFo 29 (W.heap.size + 2) w vk rs) (hik : ∀ g, vi.ownBlock = some g → vk.ownBlock ≠ some g)
  (hbx : BoxL (W.heap.size + 1) [.int .i64 0, .int .i64 0, .slice none 0 0, .slice none 0 0] w) (hbl : Below W.heap.size W w) (hS0 : ∀ k, S0 k → k < W.heap.size) (hl : rs.length = ks.length) (hT : ∀ (j : Nat) (t : Fo), ks[j]? = some t → ∃ r, rs[j]? = some r ∧ FSr S0 W t r) : SO S0 W w op n vi vk is rs ks := by
 refine ⟨⟨hbox, Nat.le_refl _, hoi.base (by omega), hok.base (by omega), ⟨hl, fun j r t hr ht => ?_⟩, fun e => by have := (hoi.lt _ e).1; omega, fun e => by have := (hok.lt _ e).1; omega, hik⟩, fun g e => (hoi.lt g e).1, fun g e => (hok.lt g e).1, hbx, hbl⟩
 obtain ⟨r', hr', hF⟩ := hT j t ht
 rw [hr] at hr'
 cases hr'
 refine FSr.keep (S' := FreeF (SP S0 W) W.heap.size vi vk) hF ⟨hbl.size, fun b hb _ => hbl.block b (hS0 b hb)⟩ fun b _ hb => ?_
 have hb2 := hS0 b hb
 exact ⟨⟨.inl hb, by omega⟩, by omega, fun e => by have := (hoi.lt b e).1; omega, fun e => by have := (hok.lt b e).1; omega⟩
end Go.Proofs.YtgnloodmbgdgdaaGreat
