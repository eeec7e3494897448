import Derived.Test.YtgnloodmbgdgdaaGreatFB16
import Derived.Test.YtgnloodmbgdgdaaGreatFB14
import Derived.Test.YtgnloodmbgdgdaaGreatFB10
import Derived.Deep.DeepCutAuto
namespace Go.Proofs.YtgnloodmbgdgdaaGreat
open Go.RowKit Go.Shelf
theorem tree_all (zs : List Int) (hw : Wfs zs) (cl : Int) (hc1 : 1 ≤ cl) (hc2 : cl ≤ 64) : ∀ d : Nat, d ≤ 10 → TreeK zs cl d
 | 0, _ => tree_step zs hw cl hc1 hc2 0 (by decide) fun e he => by omega
 | d + 1, h => tree_step zs hw cl hc1 hc2 (d + 1) h fun e he => by
  obtain rfl : e = d := by omega
  exact tree_all zs hw cl hc1 hc2 e (by omega)
def someG (zs : List Int) (cl : Int) (most : Int) (d : Nat) : Fo := (treeG zs cl d 0 most).1
theorem someG_ok (zs : List Int) (cl : Int) (h1 : 1 ≤ cl) (h2 : cl ≤ 64) (most : Int) (d : Nat) (hd : 1 ≤ d) : (someG zs cl most d).good = true ∧ (someG zs cl most d).cls cl = true ∧ (someG zs cl most d).wf ∧ (someG zs cl most d).deep ≤ d ∧ (someG zs cl most d).size ≤ mm d ∧ min (most - 1) (3 - 3 * (d : Int)) ≤ most - (someG zs cl most d).size := by
 obtain ⟨t1, t2, t3, t4, t5, t6, t7, t8, t9⟩ := tree_ok zs cl h1 h2 d 0 most
 unfold someG
 exact ⟨t1, t2, t3, by omega, t5, by omega⟩
theorem But.low {M B : Nat} {w w' : World} (h : But M w w') (hB : B ≤ w.heap.size) (hM : B ≤ M) : Below B w w' := ⟨h.st.1, h.st.2.1, h.st.2.2, h.1, fun k hk => h.2 k (by omega) (by omega)⟩
theorem mm_le (d : Nat) (h : d ≤ 6) : mm d ≤ 1093 := by
 match d, h with
 | 0, _ => decide
 | 1, _ => decide
 | 2, _ => decide
 | 3, _ => decide
 | 4, _ => decide
 | 5, _ => decide
 | 6, _ => decide
set_option maxHeartbeats 4000000 in
set_option maxRecDepth 100000 in
theorem someF_any (zs : List Int) (hw : Wfs zs) (cl : Int) (hc1 : 1 ≤ cl) (hc2 : cl ≤ 64) (most : Int) (hm1 : 0 ≤ most) (hm2 : most ≤ 1000) (d : Nat) (hd : d ≤ 6) (sv : Value) (W : World) (hE : Els .i64 W sv zs) :
  Calls Tryz.prog 20 #[sv, .int .i64 cl, .int .i64 most, .int .i64 (d : Int)] W (FoOut (fun _ => False) (someG zs cl most d) W) := by
 obtain ⟨a, c, rfl⟩ := hE.shape
 obtain ⟨W1, hW1⟩ : ∃ W1, W1 = W.alloc (.cells #[.int .i64 0, .int .i64 0, .slice none 0 0, .slice none 0 0] 29) := ⟨_, rfl⟩
 have hS1 : Since W W1 := by rw [hW1]; exact Since.alloc (since_r _) _
 have hX1 : BoxL W.heap.size [.int .i64 0, .int .i64 0, .slice none 0 0, .slice none 0 0] W1 := by rw [hW1]; exact BoxL.made W _ _
 have hz1 : W1.heap.size = W.heap.size + 1 := by rw [hW1, World.size_alloc]
 obtain ⟨W2, hW2⟩ : ∃ W2, W2 = W1.alloc (.cells #[.slice a zs.length c, .int .i64 0, .int .i64 cl, .int .i64 most] 87) := ⟨_, rfl⟩
 have hS2 : Since W1 W2 := by rw [hW2]; exact Since.alloc (since_r _) _
 have hX2 : BoxL (W.heap.size + 1) [.slice a zs.length c, .int .i64 0, .int .i64 cl, .int .i64 most] W2 := by rw [hW2, ← hz1]; exact BoxL.made W1 _ _
 have hf : InS (fun k => k ≠ W.heap.size + 1) (.slice a zs.length c) := by
  rcases hE with ⟨he, -⟩ | ⟨b, off, cap, hb, e, -⟩
  ·exact .inl he
  ·exact .inr ⟨b, off, _, cap, by omega, e⟩
 have hM : Mk (W.heap.size + 1) (.slice a zs.length c) zs 0 cl most W2 := ⟨hX2, hE.below (Since.step hS1 hS2), hf⟩
 have hmm := mm_le d hd
 have KT := Lib.hid (tree_all zs hw cl hc1 hc2 d (by omega) (W.heap.size + 1) _ 0 most W2 hM (by omega) (by omega) (by omega))
 have HX1 := Lib.hid (hX1.keep hS2)
 have HB := Lib.hid (Since.step hS1 hS2)
 have HZ := Lib.hid hz1
 have HZ2 : Hid (W2.heap.size = W.heap.size + 1 + 1) := Lib.hid (by rw [hW2, World.size_alloc, hz1])
 have hsg : Hid ((treeG zs cl d 0 most).1 = someG zs cl most d) := Lib.hid rfl
 clear hX1 hX2 hf hM hmm hE hS1 hS2 hz1
 go_enter Tryz.func20, Tryz.ntmps20
 go_upto_region 2 with (fail)
 rw [← hW1, ← hW2]
 clear hW1 hW2
 go_wp2_with fail
 refine KT.out.mono ?_
 rintro e w4 ⟨⟨fop, fn, fa2, fn2, fc2, fa3, fn3, fc3⟩, rfl, hF4, hM4, hB4⟩
 have hX4 := hB4.out.box HX1.out (by omega)
 obtain ⟨x0, x1, x2, x3, f0, f1, f2, f3, -⟩ := hX4.all4
 have hBw : Below W.heap.size W w4 := HB.out.trans (hB4.out.low (by have := HB.out.size; omega) (by omega))
 have hF : FSr (fun k => ((False ∧ k < W.heap.size) ∨ (W.heap.size ≤ k ∧ k ≠ W.heap.size)) ∧ k < w4.heap.size) w4 (treeG zs cl d 0 most).1 ⟨fop, fn, fa2, fn2, fc2, fa3, fn3, fc3⟩ := FSr.keep (S' := fun k => (False ∧ k < W.heap.size) ∨ (W.heap.size ≤ k ∧ k ≠ W.heap.size)) hF4.out ⟨Nat.le_refl _, fun _ _ _ => rfl⟩ fun b _ h => .inr (by have := HZ2.out; omega)
 have hfin := put4_end (S0 := fun _ => False) hBw (Nat.le_refl _) _ hF _ _ rfl rfl
 rw [hsg.out] at hfin
 have HF := Lib.hid hfin
 unfold put4 at HF
 clear hfin hF hF4 hM4 hB4 KT HX1 hX4 hBw hsg
 go_wp2
 exact bodyPost_ret (v := .agg #[.int .i64 fop, .int .i64 fn, .slice fa2 fn2 fc2, .slice fa3 fn3 fc3]) (by simp [results, Tryz.results20, go_sem, x0, x1, x2, x3]) rfl HF.out
end Go.Proofs.YtgnloodmbgdgdaaGreat
namespace Go.Proofs.YtgnloodmbgdgdaaGreat
open Go.RowKit Go.Shelf
mutual
def Fo.wfm (m : Nat) : Fo → Prop
 | .mk _ _ is ks => ((∀ x ∈ is, x.wf) ∧ is.length ≤ m) ∧ Fo.wfms m ks
def Fo.wfms (m : Nat) : List Fo → Prop
 | [] => True
 | t :: ts => t.wfm m ∧ Fo.wfms m ts
end
def SP (S0 : Nat → Prop) (W : World) (k : Nat) : Prop := (S0 k ∨ W.heap.size ≤ k) ∧ k ≠ W.heap.size + 1
structure SO (S0 : Nat → Prop) (W w : World) (op n : Int) (vi vk : Value) (is : List Iv) (rs : List Fr) (ks : List Fo) : Prop where
 of : OF (SP S0 W) W.heap.size W.heap.size w op n vi vk is rs ks
 ui : ∀ g, vi.ownBlock = some g → W.heap.size + 2 ≤ g
 uk : ∀ g, vk.ownBlock = some g → W.heap.size + 2 ≤ g
 bx : BoxL (W.heap.size + 1) [.int .i64 0, .int .i64 0, .slice none 0 0, .slice none 0 0] w
 bl : Below W.heap.size W w
theorem PF.up {v v' : Value} {w w' : World} (hp : PF v w w' v') {Q : Nat} (h : ∀ g, v.ownBlock = some g → Q ≤ g) (hQ : Q ≤ w.heap.size) : ∀ g, v'.ownBlock = some g → Q ≤ g := fun g hg => by
 rcases hp.2 g hg with h2 | h2
 ·exact h g h2
 ·omega
theorem ROwn.ins2 {α : Type} {R : RowOf α} {E : TypeId} {B : Nat} {w : World} {sv : Value} {xs : List α} {S : Nat → Prop} (h : ROwn R E B w sv xs) (hS : ∀ k, sv.ownBlock = some k → B ≤ k ∧ k < w.heap.size → S k) : InS S sv := by
 rcases h.ins with h | ⟨b, off, n, cap, hb, rfl⟩
 ·exact .inl h
 ·exact .inr ⟨b, off, n, cap, hS b rfl hb, rfl⟩
section
variable {S0 : Nat → Prop} {W w w' : World} {op n : Int} {vi vk : Value} {is : List Iv} {rs : List Fr} {ks : List Fo}
theorem BoxL.other {N M o : Nat} {vs : List Value} (h : BoxL N vs w) (v : Value) (hne : N ≠ M) : BoxL N vs (w.setCell ⟨M, o, none⟩ v) :=
 KeepS.box (S := fun k => k ≠ M) ⟨by rw [World.size_setCell]; exact Nat.le_refl _, fun _ hb _ => Below.heap_setCell _ _ _ _ hb⟩ h hne
theorem SO.setK (h : SO S0 W w op n vi vk is rs ks) {v' : Value} {rs' : List Fr} {ks' : List Fo} (hp : PF vk w w' v') (hO : ROwn RFo 29 W.heap.size w' v' rs') (hL : LieF (FreeF (SP S0 W) W.heap.size vi vk) w rs' ks') (hB : Below W.heap.size w w') : SO S0 W (w'.setCell ⟨W.heap.size, 3, none⟩ v') op n vi v' is rs' ks' :=
 ⟨h.of.setK hp hO hL, h.ui, hp.up h.uk (by have := h.bx.1; omega), (h.bx.far (fun e => by have := h.uk _ e; omega) hp).other _ (by omega), (h.bl.trans hB).setCell (p := ⟨W.heap.size, 3, none⟩) (Nat.le_refl _) _⟩
theorem SO.frame (h : SO S0 W w op n vi vk is rs ks) (hB : Since w w') : SO S0 W w' op n vi vk is rs ks :=
 ⟨h.of.frame hB, h.ui, h.uk, h.bx.keep hB, h.bl.trans (Below.mono hB h.bl.size)⟩
theorem SO.done (h : SO S0 W w op n vi vk is rs ks) : FS (fun k => SP S0 W k ∧ k < w.heap.size) w (.mk op n is ks) vi vk := by
 refine FS.of h.of.oi.els (h.of.oi.ins2 fun k h1 h2 => ⟨⟨.inr h2.1, by have := h.ui k h1; omega⟩, h2.2⟩) (FSl.of h.of.ok.els (h.of.ok.ins2 fun k h1 h2 => ⟨⟨.inr h2.1, by have := h.uk k h1; omega⟩, h2.2⟩) h.of.lie.1 fun j r t hr ht => ?_)
 exact FSr.keep (S' := SP S0 W) (h.of.lie.2 j r t hr ht) ⟨Nat.le_refl _, fun _ _ _ => rfl⟩ (fun k _ hk => hk.1.1)
theorem SO.fin {a2 a3 : Option Addr} {n2 c2 n3 c3 : Nat} {f : Fo} (h : SO S0 W w op n (.slice a2 n2 c2) (.slice a3 n3 c3) is rs ks) (hS0 : ∀ k, S0 k → k < W.heap.size) (hf : f = .mk op n is ks) : FoOut S0 f W (.returned (.agg #[.int .i64 op, .int .i64 n, .slice a2 n2 c2, .slice a3 n3 c3])) (put4 w (W.heap.size + 1) (.int .i64 op) (.int .i64 n) (.slice a2 n2 c2) (.slice a3 n3 c3)) := by
 subst hf
 refine put4_end (N := W.heap.size + 1) h.bl (by omega) ⟨op, n, a2, n2, c2, a3, n3, c3⟩ ⟨rfl, rfl, FS.mono (fun k hk => ⟨?_, hk.2⟩) _ h.done⟩ _ _ rfl rfl
 rcases hk.1.1 with h1 | h1
 ·exact .inl ⟨h1, hS0 k h1⟩
 ·exact .inr ⟨h1, hk.1.2⟩
theorem SO.part (h : SO S0 W w op n vi vk is rs ks) {S1 : Nat → Prop} (hS : ∀ k, k < w'.heap.size → S1 k → (FreeF (SP S0 W) W.heap.size vi vk k) ∨ w.heap.size ≤ k) {t : Fo} {r : Fr} (hT : FSr S1 w' t r) : FSr (fun k => FreeF (SP S0 W) W.heap.size vi vk k ∧ k < w'.heap.size) w' t r := by
 refine FSr.keep (S' := FreeF (SP S0 W) W.heap.size vi vk) hT ⟨Nat.le_refl _, fun _ _ _ => rfl⟩ (fun k hl hk => ?_)
 rcases hS k hl hk with h1 | h1
 ·exact h1
 ·have h2 := h.of.box.1
  have h3 := h.bx.1
  exact ⟨⟨.inr (by omega), by omega⟩, by omega, fun e => by have := (h.of.oi.lt k e).2; omega, fun e => by have := (h.of.ok.lt k e).2; omega⟩
end
theorem row_set4 {α : Type} (R : RowOf α) (a b c d : α → Value) (hc : ∀ x, R.cells x = [a x, b x, c x, d x]) (rs : List α) (j : Nat) (r : α) (hj : j < rs.length) :
  ((((rs.flatMap R.cells).set (j * 4) (a r)).set (j * 4 + 1) (b r)).set (j * 4 + 2) (c r)).set (j * 4 + 3) (d r) = (rs.set j r).flatMap R.cells := by
 induction rs generalizing j with
 | nil => simp at hj
 | cons x xs ih =>
  rw [List.flatMap_cons, hc]
  cases j with
  | zero => simp [hc]
  | succ j =>
   have h := ih j (by simpa using hj)
   rw [List.set_cons_succ, List.flatMap_cons, hc, ← h]
   have e : ∀ (n : Nat) (l : List Value) (v : Value), ([a x, b x, c x, d x] ++ l).set (n + 4) v = [a x, b x, c x, d x] ++ l.set n v := fun n l v => rfl
   rw [show (j + 1) * 4 = j * 4 + 4 by omega, show j * 4 + 4 + 1 = j * 4 + 1 + 4 by omega, show j * 4 + 4 + 2 = j * 4 + 2 + 4 by omega, show j * 4 + 4 + 3 = j * 4 + 3 + 4 by omega, e, e, e, e]
theorem ROwn.set4 {E : TypeId} {B : Nat} {w : World} {g n c : Nat} {rs : List Fr} (h : ROwn RFo E B w (.slice (some ⟨g, 0, none⟩) n c) rs) (j : Nat) (hj : j < rs.length) (r : Fr) :
  ROwn RFo E B ((((w.setCell ⟨g, j * 4, none⟩ (.int .i64 r.op)).setCell ⟨g, j * 4 + 1, none⟩ (.int .i64 r.n)).setCell ⟨g, j * 4 + 2, none⟩ (.slice r.a2 r.n2 r.c2)).setCell ⟨g, j * 4 + 3, none⟩ (.slice r.a3 r.n3 r.c3)) (.slice (some ⟨g, 0, none⟩) n c) (rs.set j r) := by
 have hn := h.els.len
 subst hn
 have h1 := (World.ownsRow.stored h (j * 4) (.int .i64 r.op)).1
 have h2 := (World.ownsRow.stored h1 (j * 4 + 1) (.int .i64 r.n)).1
 have h3 := (World.ownsRow.stored h2 (j * 4 + 2) (.slice r.a2 r.n2 r.c2)).1
 have h4 := (World.ownsRow.stored h3 (j * 4 + 3) (.slice r.a3 r.n3 r.c3)).1
 unfold ROwn
 rw [← row_set4 RFo (fun x => .int .i64 x.op) (fun x => .int .i64 x.n) (fun x => .slice x.a2 x.n2 x.c2) (fun x => .slice x.a3 x.n3 x.c3) (fun _ => rfl) rs j r hj, List.length_set]
 exact h4
theorem PF.put4 (w : World) (g o1 o2 o3 o4 n c : Nat) (u1 u2 u3 u4 : Value) : PF (.slice (some ⟨g, 0, none⟩) n c) w ((((w.setCell ⟨g, o1, none⟩ u1).setCell ⟨g, o2, none⟩ u2).setCell ⟨g, o3, none⟩ u3).setCell ⟨g, o4, none⟩ u4) (.slice (some ⟨g, 0, none⟩) n c) := by
 refine ⟨⟨by simp only [World.size_setCell]; exact Nat.le_refl _, fun b hb _ => ?_⟩, fun _ h => .inl h⟩
 have hne : b ≠ g := fun e => hb (by rw [e]; rfl)
 rw [Below.heap_setCell _ _ _ _ hne, Below.heap_setCell _ _ _ _ hne, Below.heap_setCell _ _ _ _ hne, Below.heap_setCell _ _ _ _ hne]
theorem SO.cell {S0 : Nat → Prop} {W w : World} {op n op' n' : Int} {vi vk : Value} {is : List Iv} {rs : List Fr} {ks : List Fo} (h : SO S0 W w op n vi vk is rs ks) (j : Nat) (v : Value) (hj : j < 4) (he : [.int .i64 op, .int .i64 n, vi, vk].set j v = [.int .i64 op', .int .i64 n', vi, vk]) : SO S0 W (w.setCell ⟨W.heap.size, j, none⟩ v) op' n' vi vk is rs ks := by
 have hk : ∀ g, g ≠ W.heap.size → (w.setCell ⟨W.heap.size, j, none⟩ v).heap[g]? = w.heap[g]? := fun g hg => Below.heap_setCell _ _ _ _ hg
 refine ⟨⟨by have := h.of.box.set1 j v (by simpa using hj); rwa [he] at this, h.of.hB, h.of.oi.keepS fun g e _ => hk g (by have := h.ui g e; omega), h.of.ok.keepS fun g e _ => hk g (by have := h.uk g e; omega), h.of.lie.keep ⟨by rw [World.size_setCell]; exact Nat.le_refl _, fun b hb _ => hk b hb.2.1⟩ fun _ _ h => h, h.of.ni, h.of.nk, h.of.ik⟩, h.ui, h.uk, h.bx.other _ (by omega), h.bl.setCell (p := ⟨W.heap.size, j, none⟩) (Nat.le_refl _) _⟩
theorem SO.start {S0 : Nat → Prop} {W w : World} {op n : Int} {vi vk : Value} {is : List Iv} {rs : List Fr} {ks : List Fo} (hbox : BoxL W.heap.size [.int .i64 op, .int .i64 n, vi, vk] w) (hoi : ROwn RIv 112 (W.heap.size + 2) w vi is) (hok : ROwn RFo 29 (W.heap.size + 2) w vk rs) (hik : ∀ g, vi.ownBlock = some g → vk.ownBlock ≠ some g)
  (hbx : BoxL (W.heap.size + 1) [.int .i64 0, .int .i64 0, .slice none 0 0, .slice none 0 0] w) (hbl : Below W.heap.size W w) (hS0 : ∀ k, S0 k → k < W.heap.size) (hl : rs.length = ks.length) (hT : ∀ (j : Nat) (t : Fo), ks[j]? = some t → ∃ r, rs[j]? = some r ∧ FSr S0 W t r) : SO S0 W w op n vi vk is rs ks := by
 refine ⟨⟨hbox, Nat.le_refl _, hoi.base (by omega), hok.base (by omega), ⟨hl, fun j r t hr ht => ?_⟩, fun e => by have := (hoi.lt _ e).1; omega, fun e => by have := (hok.lt _ e).1; omega, hik⟩, fun g e => (hoi.lt g e).1, fun g e => (hok.lt g e).1, hbx, hbl⟩
 obtain ⟨r', hr', hF⟩ := hT j t ht
 rw [hr] at hr'
 cases hr'
 refine FSr.keep (S' := FreeF (SP S0 W) W.heap.size vi vk) hF ⟨hbl.size, fun b hb _ => hbl.block b (hS0 b hb)⟩ fun b _ hb => ?_
 have hb2 := hS0 b hb
 exact ⟨⟨.inl hb, by omega⟩, by omega, fun e => by have := (hoi.lt b e).1; omega, fun e => by have := (hok.lt b e).1; omega⟩
end Go.Proofs.YtgnloodmbgdgdaaGreat
namespace Go.Proofs.YtgnloodmbgdgdaaGreat
open Go.RowKit Go.Shelf
structure SomeOk (cl : Int) (t1 t2 t3 : Fo) : Prop where
 good : t1.good = true
 cls : t1.cls cl = true
 deep : t1.deep ≤ 6
 left : t1.size ≤ 30
 m1 : t1.wfm 8
 m2 : t2.wfm 8
 m3 : t3.wfm 8
 s1 : t1.size ≤ 2000
 s2 : t2.size ≤ 2000
 s3 : t3.size ≤ 2000
theorem FoOut.fat {S0 : Nat → Prop} {w' : World} {W : World} {t : Fo} {r : Fr} (h : FSr (fun k => (S0 k ∨ W.heap.size ≤ k) ∧ k < w'.heap.size) w' t r) : FAt w'.heap.size w' t (.slice r.a2 r.n2 r.c2) (.slice r.a3 r.n3 r.c3) := FS.fat (fun _ h => h.2) t h.2.2
end Go.Proofs.YtgnloodmbgdgdaaGreat
namespace Go.Proofs.YtgnloodmbgdgdaaGreat
open Go.RowKit Go.Shelf
noncomputable def validF (f : Fo) : Int := if 96 < f.size ∨ 8 < f.deep then 4 else if f.good = true then 0 else 1
end Go.Proofs.YtgnloodmbgdgdaaGreat
namespace Go.Proofs.YtgnloodmbgdgdaaGreat
open Go.RowKit Go.Shelf
structure VisEnv (n₀ n₁ By Bv l N : Nat) (wb w0 : World) (J Jx : List Nd → World → Prop) : Prop where
 ja : ∀ pre W o, J pre W → J pre (World.alloc W o)
 hn : n₀ ≤ n₁
 hb : KC n₀ n₁ wb w0
 hBy : n₁ ≤ By
 hBv : n₁ ≤ Bv
 hw : n₁ ≤ w0.heap.size
 cy : w0.cell? ⟨By, 0, none⟩ = some (.func (.yield l) #[] #[])
 cv : w0.cell? ⟨Bv, 0, none⟩ = some (.func (.func 91) #[] #[.pointer (some ⟨By, 0, none⟩), .pointer (some ⟨Bv, 0, none⟩)])
 hy : ∀ (m : Nat) (pre : List Nd) (x : Nd) (W : World), J pre W → KC n₀ n₁ w0 W → pre.length < N → FAt n₀ wb x.f x.c x.d → x.f.wf → YieldAt Fence.wide m Tryz.prog l x.encs W fun e W' => (e = .returned (.bool true) ∧ J (pre ++ [x]) W' ∧ KC n₀ n₁ W W') ∨ (e = .returned (.bool false) ∧ Jx (pre ++ [x]) W')
section
variable {n₀ n₁ By Bv l N : Nat} {wb w0 : World} {J Jx : List Nd → World → Prop}
def VisitK (n₀ n₁ By Bv N : Nat) (wb w0 : World) (J Jx : List Nd → World → Prop) (m : Nat) : Prop := ∀ (f : Fo), f.size ≤ m → ∀ (lev : Nat) (pre : List Nd) (c d : Value) (W : World), lev + f.size ≤ 2000000 → FAt n₀ wb f c d → f.wf → KC n₀ n₁ w0 W → J pre W → pre.length + f.size ≤ N →
 Calls Tryz.prog 91 #[.int .i64 (lev : Int), .agg #[.int .i64 f.op, .int .i64 f.n, c, d], .pointer (some ⟨By, 0, none⟩), .pointer (some ⟨Bv, 0, none⟩)] W (VisOut J Jx n₀ n₁ pre (ndT wb f c d lev) W)
def KidOut (J Jx : List Nd → World → Prop) (n₀ n₁ : Nat) (pre l : List Nd) (W : World) (e : Ending) (W' : World) : Prop :=
 (e = .returned (.bool false) ∧ Hid (J (pre ++ l) W') ∧ Hid (KC n₀ n₁ W W')) ∨ (e = .returned (.bool true) ∧ ∃ q, Hid (q <+: l) ∧ Hid (Jx (pre ++ q) W'))
set_option maxHeartbeats 4000000 in
set_option maxRecDepth 100000 in
theorem kid_any (E : VisEnv n₀ n₁ By Bv l N wb w0 J Jx) {m : Nat} (K : Hid (VisitK n₀ n₁ By Bv N wb w0 J Jx m)) (f : Fo) (hf : f.size ≤ m) (lev : Nat) (pre : List Nd) (c d : Value) (Bl : Nat) (W : World) (hl : lev + 1 + f.size ≤ 2000000) (hT : FAt n₀ wb f c d) (hw : f.wf) (hk : KC n₀ n₁ w0 W) (hJ : J pre W) (hN : pre.length + f.size ≤ N) (hB : n₁ ≤ Bl) (hL : W.cell? ⟨Bl, 0, none⟩ = some (.int .i64 (lev : Int))) :
  Calls Tryz.prog 93 #[.agg #[.int .i64 f.op, .int .i64 f.n, c, d], .pointer (some ⟨Bv, 0, none⟩), .pointer (some ⟨Bl, 0, none⟩)] W (KidOut J Jx n₀ n₁ pre (ndT wb f c d (lev + 1)) W) := by
 obtain ⟨W1, hW1⟩ : ∃ W1, W1 = W.alloc (.cells #[.int .i64 f.op, .int .i64 f.n, c, d] 29) := ⟨_, rfl⟩
 have hK1 : KC n₀ n₁ W W1 := by rw [hW1]; exact (KC.refl _ _ _).alloc _
 have hX : BoxL W.heap.size [.int .i64 f.op, .int .i64 f.n, c, d] W1 := by rw [hW1]; exact BoxL.made W _ _
 have hJ1 : J pre W1 := by rw [hW1]; exact E.ja _ _ _ hJ
 have KV := Lib.hid (K.out f hf (lev + 1) pre c d W1 hl hT hw (hk.trans hK1) hJ1 hN)
 have hv := (hk.trans hK1).cell (p := ⟨Bv, 0, none⟩) (.inr E.hBv) E.cv
 have hL1 := hK1.cell (p := ⟨Bl, 0, none⟩) (.inr hB) hL
 have i1 : IntKind.i64.wrap ((lev : Int) + 1) = (lev : Int) + 1 := IntWalk.i64_in _ (by omega)
 have i2 : ((lev + 1 : Nat) : Int) = (lev : Int) + 1 := by omega
 rw [i2] at KV
 have HK1 := Lib.hid hK1
 obtain ⟨⟨a2, m2, c2, rfl⟩, ⟨a3, m3, c3, rfl⟩⟩ : (∃ a n x, c = .slice a n x) ∧ ∃ a n x, d = .slice a n x := by
  obtain ⟨a2, c2, a3, c3, e1, e2, -⟩ := hT.shape
  exact ⟨⟨_, _, _, e1⟩, ⟨_, _, _, e2⟩⟩
 obtain ⟨o0, o1, o2, o3, -⟩ := hX.open4
 generalize ndT wb f _ _ (lev + 1) = nl at *
 generalize f.op = op at *
 generalize f.n = nn at *
 clear hX hT hk hJ hJ1 hK1 i2 hN hL hf K hw
 go_enter Tryz.func93, Tryz.ntmps93
 go_upto_region 1 with (fail)
 rw [← hW1]
 clear hW1
 go_wp2_with fail
 refine KV.out.mono ?_
 rintro e w2 (⟨rfl, h1, h2⟩ | ⟨rfl, q, h1, h2⟩)
 ·have HK2 := Lib.hid (HK1.out.trans h2.out)
  clear o0 o1 o2 o3 hv hL1 h2
  go_wp2
  go_ret
  exact .inl ⟨rfl, h1, HK2⟩
 ·clear o0 o1 o2 o3 hv hL1
  go_wp2
  go_ret
  exact .inr ⟨rfl, q, h1, h2⟩
def KidsOut (J Jx : List Nd → World → Prop) (n₀ n₁ : Nat) (pre l : List Nd) (W : World) (e : Ending) (W' : World) : Prop :=
 (e = .returned (.int .i64 (-1)) ∧ Hid (J (pre ++ l) W') ∧ Hid (KC n₀ n₁ W W')) ∨ (∃ j : Nat, e = .returned (.int .i64 (j : Int)) ∧ ∃ q, Hid (q <+: l) ∧ Hid (Jx (pre ++ q) W'))
theorem pre_app {α : Type} {a b : List α} (q : List α) (h : q <+: b) : a ++ q <+: a ++ b := by
 obtain ⟨r, rfl⟩ := h
 exact ⟨r, by simp⟩
set_option maxHeartbeats 4000000 in
set_option maxRecDepth 100000 in
theorem kids_any (E : VisEnv n₀ n₁ By Bv l N wb w0 J Jx) {m : Nat} (K : Hid (VisitK n₀ n₁ By Bv N wb w0 J Jx m)) (ks : List Fo) (hks : Fo.sizes ks ≤ m) (lev : Nat) (pre : List Nd) (d : Value) (Bl : Nat) (W : World) (hl : lev + 1 + Fo.sizes ks ≤ 2000000) (hT : Fs n₀ wb d ks) (hw : ∀ u ∈ ks, u.wf) (hk : KC n₀ n₁ w0 W) (hJ : J pre W) (hN : pre.length + Fo.sizes ks ≤ N) (hB : n₁ ≤ Bl) (hL : W.cell? ⟨Bl, 0, none⟩ = some (.int .i64 (lev : Int))) :
  Calls Tryz.prog 145 #[d, .func (.func 93) #[] #[.pointer (some ⟨Bv, 0, none⟩), .pointer (some ⟨Bl, 0, none⟩)]] W (KidsOut J Jx n₀ n₁ pre (ndR wb ks (rowB d) 0 (lev + 1)) W) := by
 obtain ⟨a0, c0, rfl⟩ := hT.shape
 have HT := Lib.hid hT
 have HWF := Lib.hid hw
 have hlen := Fo.sizes_len ks
 have hnl := fun k => ndR_len wb (ks.take k) (rowB (.slice a0 ks.length c0)) 0 (lev + 1)
 have HNL := Lib.hid hnl
 have HTK := Lib.hid fun k => Fo.sizes_take ks k
 have HSN := Lib.hid fun (k : Nat) (u : Fo) (h : ks[k]? = some u) => Fo.sizes_snoc h
 have HNS := Lib.hid fun (k : Nat) (u : Fo) (c d : Value) h hc hd => ndR_snoc (w := wb) (lev := lev + 1) (g := rowB (.slice a0 ks.length c0)) (k := k) (ks := ks) (t := u) (c := c) (d := d) h hc hd
 have HJ0 : Hid (J (pre ++ ndR wb (ks.take 0) (rowB (.slice a0 ks.length c0)) 0 (lev + 1)) W) := Lib.hid (by show J (pre ++ ndR wb [] _ 0 (lev + 1)) W; rw [ndR, List.append_nil]; exact hJ)
 have HK0 := Lib.hid (KC.refl n₀ n₁ W)
 have HL := Lib.hid hL
 have HKW := Lib.hid hk
 have HPF := Lib.hid fun (k : Nat) => (show ndR wb (ks.take k) (rowB (.slice a0 ks.length c0)) 0 (lev + 1) <+: ndR wb ks (rowB (.slice a0 ks.length c0)) 0 (lev + 1) from by
  have h := ndR_append wb (lev + 1) (rowB (.slice a0 ks.length c0)) (ks.drop k) (ks.take k) 0
  rw [List.take_append_drop] at h
  rw [h]
  exact ⟨_, rfl⟩)
 have HALL := Lib.hid (show ks.take ks.length = ks from List.take_length)
 have hb : ks.length ≤ 2000000 := by omega
 have KU := Lib.hid fun (f : Fo) (hf : f.size ≤ m) (lv : Nat) (pr : List Nd) (c d : Value) W h1 h2 hw h3 h4 h5 h6 => kid_any E K f hf lv pr c d Bl W h1 h2 hw h3 h4 h5 hB h6
 generalize hm : ks.length = n at *
 have HM := Lib.hid hm
 clear hT hJ hL hk hm hnl hlen hw
 go_enter Tryz.func145, Tryz.ntmps145
 go_wp2
 go_loopw [8] (fun v wr => ∃ k : Nat, k ≤ n ∧ v = .int .i64 k ∧ Hid (J (pre ++ ndR wb (ks.take k) (rowB (.slice a0 n c0)) 0 (lev + 1)) wr) ∧ Hid (KC n₀ n₁ W wr)) (fun v _ => n - (intOf v).toNat)
 case atStart => exact ⟨0, by omega, rfl, HJ0, HK0⟩
 case round =>
  clear HJ0 HK0
  obtain ⟨k, hk, rfl, hJ, hK⟩ := hrel
  by_cases hlt : k < n
  ·have i1 : (k : Int) < n := by omega
   have i4 : ((k : Int)).toNat = k := by omega
   obtain ⟨g, u, rfl, hg, -, -, hu, c, d, e0, e1, e2, e3, hTu⟩ := HT.out.get hlt
   have hum := Fo.sizes_mem (List.mem_of_getElem? hu)
   have hsn := HSN.out k u hu
   have hst := HTK.out (k + 1)
   have hns := HNS.out k u c d hu e2 e3
   have hKw := HKW.out.trans hK.out
   have HJN := Lib.hid hns
   have hnl := HNL.out k
   have ku := KU.out u (by omega) lev (pre ++ ndR wb (ks.take k) (rowB (.slice (some ⟨g, 0, none⟩) n c0)) 0 (lev + 1)) c d wr (by omega) hTu (HWF.out u (List.mem_of_getElem? hu)) hKw hJ.out (by rw [List.length_append, hnl]; omega) (hK.out.cell (p := ⟨Bl, 0, none⟩) (.inr hB) HL.out)
   have e0 := (E.hb.trans hKw).cell (p := ⟨g, k * 4, none⟩) (.inl hg) e0
   have e1 := (E.hb.trans hKw).cell (p := ⟨g, k * 4 + 1, none⟩) (.inl hg) e1
   have e2 := (E.hb.trans hKw).cell (p := ⟨g, k * 4 + 2, none⟩) (.inl hg) e2
   have e3 := (E.hb.trans hKw).cell (p := ⟨g, k * 4 + 3, none⟩) (.inl hg) e3
   have KQ := Lib.hid ku
   have HPK := Lib.hid (HPF.out (k + 1))
   obtain ⟨⟨a2, m2, c2, rfl⟩, ⟨a3, m3, c3, rfl⟩⟩ : (∃ a n x, c = .slice a n x) ∧ ∃ a n x, d = .slice a n x := by
    obtain ⟨a2, c2, a3, c3, e1, e2, -⟩ := hTu.shape
    exact ⟨⟨_, _, _, e1⟩, ⟨_, _, _, e2⟩⟩
   generalize u.op = op at *
   generalize u.n = nn at *
   clear ku hum hsn hst hns hKw hnl hTu hu
   go_wp2_with fail
   refine KQ.out.mono ?_
   rintro e w2 (⟨rfl, h1, h2⟩ | ⟨rfl, q, h1, h2⟩)
   ·have HJ2 : Hid (J (pre ++ ndR wb (ks.take (k + 1)) (rowB (.slice (some ⟨g, 0, none⟩) n c0)) 0 (lev + 1)) w2) := Lib.hid (by rw [HJN.out, ← List.append_assoc]; exact h1.out)
    have HK2 := Lib.hid (hK.out.trans h2.out)
    clear h1 h2 e0 e1 e2 e3
    go_wp2
    go_roundw
    case rel => exact ⟨k + 1, by omega, by go_num, HJ2, HK2⟩
    case measure => simp [intOf]; omega
   ·have HQ : Hid (ndR wb (ks.take k) (rowB (.slice (some ⟨g, 0, none⟩) n c0)) 0 (lev + 1) ++ q <+: ndR wb ks (rowB (.slice (some ⟨g, 0, none⟩) n c0)) 0 (lev + 1)) := Lib.hid ((pre_app q h1.out).trans (by rw [← HJN.out]; exact HPK.out))
    have HX := Lib.hid h2.out
    rw [List.append_assoc] at HX
    clear h1 h2 e0 e1 e2 e3
    go_wp2
    go_ret
    exact .inr ⟨k, rfl, _, HQ, HX⟩
  ·have i1 : ¬ (k : Int) < n := by omega
   have hkn : k = n := by omega
   have HJ2 := Lib.hid hJ.out
   rw [hkn, HALL.out] at HJ2
   clear hJ hkn
   go_wp2
   go_ret
   exact .inl ⟨rfl, HJ2, hK⟩
set_option maxHeartbeats 4000000 in
set_option maxRecDepth 100000 in
theorem has_kid (E : VisEnv n₀ n₁ By Bv l N wb w0 J Jx) {m : Nat} (K : Hid (VisitK n₀ n₁ By Bv N wb w0 J Jx m)) (ks : List Fo) (hks : Fo.sizes ks ≤ m) (lev : Nat) (pre : List Nd) (d : Value) (Bl : Nat) (W : World) (hl : lev + 1 + Fo.sizes ks ≤ 2000000) (hT : Fs n₀ wb d ks) (hw : ∀ u ∈ ks, u.wf) (hk : KC n₀ n₁ w0 W) (hJ : J pre W) (hN : pre.length + Fo.sizes ks ≤ N) (hB : n₁ ≤ Bl) (hL : W.cell? ⟨Bl, 0, none⟩ = some (.int .i64 (lev : Int))) :
  Calls Tryz.prog 92 #[d, .func (.func 93) #[] #[.pointer (some ⟨Bv, 0, none⟩), .pointer (some ⟨Bl, 0, none⟩)]] W (KidOut J Jx n₀ n₁ pre (ndR wb ks (rowB d) 0 (lev + 1)) W) := by
 have KI := Lib.hid (kids_any E K ks hks lev pre d Bl W hl hT hw hk hJ hN hB hL)
 clear hks hl hT hk hJ hN hL K hw
 generalize ndR wb ks (rowB d) 0 (lev + 1) = nl at *
 go_enter Tryz.func92, Tryz.ntmps92
 go_wp2_with fail
 refine KI.out.mono ?_
 rintro e w2 (⟨rfl, h1, h2⟩ | ⟨j, rfl, q, h1, h2⟩)
 ·go_wp2
  go_ret
  exact .inl ⟨rfl, h1, h2⟩
 ·have i1 : (0 : Int) ≤ (j : Int) := by omega
  go_wp2
  go_ret
  exact .inr ⟨by simp, q, h1, h2⟩
end
end Go.Proofs.YtgnloodmbgdgdaaGreat
namespace Go.Proofs.YtgnloodmbgdgdaaGreat
open Go.RowKit Go.Shelf
attribute [local go_sem] Oper.semAt_some
section
variable {n₀ n₁ By Bv l N : Nat} {wb w0 : World} {J Jx : List Nd → World → Prop}
theorem cells_last (W : World) (cs : Array Value) (t : TypeId) (i : Nat) (v : Value) (h : cs[i]? = some v) : (W.alloc (.cells cs t)).cell? ⟨W.heap.size, i, none⟩ = some v := by
 have := (BoxL.made W cs t).2 i v (by rw [Array.getElem?_toList]; exact h)
 exact this.1
set_option maxHeartbeats 4000000 in
set_option maxRecDepth 100000 in
theorem visit_step (E : VisEnv n₀ n₁ By Bv l N wb w0 J Jx) {m : Nat} (K : Hid (VisitK n₀ n₁ By Bv N wb w0 J Jx m)) : VisitK n₀ n₁ By Bv N wb w0 J Jx (m + 1) := by
 intro f hf lev pre c d W hl hT hw hk hJ hN
 have hse := f.size_eq
 obtain ⟨a2, c2, a3, c3, rfl, rfl, -, hS, -⟩ := hT.shape
 have hB1 : n₁ ≤ W.heap.size := Nat.le_trans E.hw hk.1
 have hK2 : KC n₀ n₁ W ((W.alloc (.cells #[.int .i64 (lev : Int)] 3)).alloc (.cells #[.int .i64 f.op, .int .i64 f.n, .slice a2 f.is.length c2, .slice a3 f.ks.length c3] 29)) := ((KC.refl _ _ _).alloc _).alloc _
 have hJ2 := E.ja _ _ (.cells #[.int .i64 f.op, .int .i64 f.n, .slice a2 f.is.length c2, .slice a3 f.ks.length c3] 29) (E.ja _ _ (.cells #[.int .i64 (lev : Int)] 3) hJ)
 have b0 : (W.alloc (.cells #[.int .i64 (lev : Int)] 3)).cell? ⟨W.heap.size, 0, none⟩ = some (.int .i64 (lev : Int)) := cells_last _ _ _ 0 _ rfl
 have b1 := ((KC.refl n₀ n₁ (W.alloc (.cells #[.int .i64 (lev : Int)] 3))).alloc (.cells #[.int .i64 f.op, .int .i64 f.n, .slice a2 f.is.length c2, .slice a3 f.ks.length c3] 29)).cell (p := ⟨W.heap.size, 0, none⟩) (.inr hB1) b0
 have hz : (W.alloc (.cells #[.int .i64 (lev : Int)] 3)).heap.size = W.heap.size + 1 := World.size_alloc _ _
 have g0 := cells_last (W.alloc (.cells #[.int .i64 (lev : Int)] 3)) #[.int .i64 f.op, .int .i64 f.n, .slice a2 f.is.length c2, .slice a3 f.ks.length c3] 29 0 _ rfl
 have g1 := cells_last (W.alloc (.cells #[.int .i64 (lev : Int)] 3)) #[.int .i64 f.op, .int .i64 f.n, .slice a2 f.is.length c2, .slice a3 f.ks.length c3] 29 1 _ rfl
 have g2 := cells_last (W.alloc (.cells #[.int .i64 (lev : Int)] 3)) #[.int .i64 f.op, .int .i64 f.n, .slice a2 f.is.length c2, .slice a3 f.ks.length c3] 29 2 _ rfl
 have g3 := cells_last (W.alloc (.cells #[.int .i64 (lev : Int)] 3)) #[.int .i64 f.op, .int .i64 f.n, .slice a2 f.is.length c2, .slice a3 f.ks.length c3] 29 3 _ rfl
 rw [hz] at g0 g1 g2 g3
 have cy := (hk.trans hK2).cell (p := ⟨By, 0, none⟩) (.inr E.hBy) E.cy
 have hY := YieldAt.mono (E.hy 3 pre ⟨lev, f, .slice a2 f.is.length c2, .slice a3 f.ks.length c3⟩ _ hJ2 (hk.trans hK2) (by omega) hT hw) (R' := fun e W3 =>
   (e = .returned (.bool true) ∧ W3.cell? ⟨W.heap.size + 1, 3, none⟩ = some (.slice a3 f.ks.length c3) ∧ Hid (KC n₀ n₁ W W3) ∧ Hid (Calls Tryz.prog 92 #[.slice a3 f.ks.length c3, .func (.func 93) #[] #[.pointer (some ⟨Bv, 0, none⟩), .pointer (some ⟨W.heap.size, 0, none⟩)]] W3 (KidOut J Jx n₀ n₁ (pre ++ [⟨lev, f, .slice a2 f.is.length c2, .slice a3 f.ks.length c3⟩]) (ndR wb f.ks (rowB (.slice a3 f.ks.length c3)) 0 (lev + 1)) W3))) ∨ (e = .returned (.bool false) ∧ Hid (Jx (pre ++ [⟨lev, f, .slice a2 f.is.length c2, .slice a3 f.ks.length c3⟩]) W3)))
  (fun e W3 h => h.elim (fun ⟨he, hj, hk3⟩ => .inl ⟨he, hk3.cell (p := ⟨W.heap.size + 1, 3, none⟩) (.inr (by show n₁ ≤ W.heap.size + 1; omega)) g3, Lib.hid (hK2.trans hk3), Lib.hid (has_kid E K f.ks (by omega) lev _ _ W.heap.size W3 (by omega) hS ((Fo.wf_eq f).1 hw).2 (hk.trans (hK2.trans hk3)) hj (by rw [List.length_append, List.length_singleton]; omega) hB1 (hk3.cell (p := ⟨W.heap.size, 0, none⟩) (.inr hB1) b1))⟩) fun ⟨he, hj⟩ => .inr ⟨he, Lib.hid hj⟩)
 have HND := Lib.hid (ndT_eq wb f (.slice a2 f.is.length c2) (.slice a3 f.ks.length c3) lev)
 obtain ⟨fn, tmps, assign, body, hy, hR⟩ := hY
 dsimp only [Nd.encs, Fo.v] at hy
 have hdd : ∀ k : Nat, (Fence.wide.depth.isSome = true → 1 ≤ k) := fun k h => by cases h
 clear hK2 hJ2 b0 hz hk hJ hN hT hS hl hse hf K hw
 refine (callsIn_wide (n := 4)).1 (callsIn_of_wp Tryz.func91 rfl trivial ?_ rfl)
 simp only [Tryz.ntmps91, List.size_toArray, List.length_cons, List.length_nil, Nat.reduceAdd, Nat.reduceSub, Array.replicate_succ, Array.replicate_zero, List.push_toArray, List.append_toArray, List.nil_append, List.cons_append]
 gi_wp2_with (first
  | ((try refine ⟨hdd _, ?_⟩); refine hR.mono ?_; clear hR; rintro e W3 (⟨rfl, g3', hK3, hC⟩ | ⟨rfl, hx⟩))
  | (refine ⟨trivial, ?_⟩; gi_at_call 92; refine (callsIn_wide.2 hC.out).mono ?_; clear hC; rintro e W4 (⟨rfl, hj4, hk4⟩ | ⟨rfl, q, hq, hx⟩)))
 ·go_ret
  exact .inl ⟨rfl, Lib.hid (by rw [HND.out]; have := hj4.out; rwa [List.append_assoc] at this), Lib.hid (hK3.out.trans hk4.out)⟩
 ·go_ret
  exact .inr ⟨rfl, _ :: q, Lib.hid (by rw [HND.out]; exact (List.prefix_cons_inj _).2 hq.out), Lib.hid (by have := hx.out; rwa [List.append_assoc] at this)⟩
 ·go_ret
  exact .inr ⟨rfl, [_], Lib.hid (by rw [HND.out]; exact ⟨_, rfl⟩), hx⟩
theorem visit_all (E : VisEnv n₀ n₁ By Bv l N wb w0 J Jx) : ∀ m : Nat, VisitK n₀ n₁ By Bv N wb w0 J Jx m
 | 0 => fun f hf => by
  have := f.size_pos
  omega
 | m + 1 => visit_step E (Lib.hid (visit_all E m))
end
end Go.Proofs.YtgnloodmbgdgdaaGreat
namespace Go.Proofs.YtgnloodmbgdgdaaGreat
open Go.RowKit Go.Shelf
attribute [local go_sem] Oper.semAt_some
theorem yield_depth {F : Fence} (hd : F.depth = none) {m : Nat} (m' : Nat) {P : Program} {l : Nat} {args : Array Value} {W : World} {R : Ending → World → Prop} (h : YieldAt F m P l args W R) : YieldAt F m' P l args W R := by
 obtain ⟨fn, tmps, assign, body, hy, hR⟩ := h
 exact ⟨fn, tmps, assign, body, hy, hR.1, fun c cs _ => hR.2 c cs fun d h => by rw [hd] at h; cases h⟩
theorem KC.of_below {n₀ : Nat} {w W : World} (h : Below w.heap.size w W) : KC n₀ w.heap.size w W := ⟨h.size, fun k _ _ ho _ => (h.block k (Array.getElem?_eq_some_iff.1 ho).1).trans ho⟩
set_option maxHeartbeats 4000000 in
set_option maxRecDepth 100000 in
theorem nodes_core (n : Nat) (f : Fo) (hf : f.size ≤ 1000000) (hw : f.wf) (Bf n₀ : Nat) (c d : Value) (w : World) (hn : n₀ ≤ w.heap.size) (hT : FAt n₀ w f c d) (hX : BoxL Bf [.int .i64 f.op, .int .i64 f.n, c, d] w)
  (l : Nat) (J Jx : List Nd → World → Prop) (W : World) (hW : Below w.heap.size w W) (hja : ∀ pre W o, J pre W → J pre (World.alloc W o))
  (hY : ∀ (m : Nat) (pre : List Nd) (x : Nd) (W1 : World), J pre W1 → pre.length < f.size → FAt n₀ w x.f x.c x.d → x.f.wf → YieldAt Fence.wide m Tryz.prog l x.encs W1 fun e W' => (e = .returned (.bool true) ∧ J (pre ++ [x]) W' ∧ KC n₀ w.heap.size W1 W') ∨ (e = .returned (.bool false) ∧ Jx (pre ++ [x]) W'))
  (h0 : J [] W) : CallsIn Fence.wide n Tryz.prog 90 (#[.func (.yield l) #[] #[]] ++ #[.pointer (some ⟨Bf, 0, none⟩)]) W fun e W' => (∃ v, e = .returned v) ∧ ((∃ xs, xs = ndT w f c d 1 ∧ J xs W') ∨ (∃ pre, pre <+: ndT w f c d 1 ∧ Jx pre W')) := by
 obtain ⟨W2, hW2⟩ : ∃ W2, W2 = (W.alloc (.cells #[.func (.yield l) #[] #[]] 133)).alloc (.cells #[.func (.func 91) #[] #[.pointer (some ⟨W.heap.size, 0, none⟩), .pointer (some ⟨W.heap.size + 1, 0, none⟩)]] 133) := ⟨_, rfl⟩
 have hz : (W.alloc (.cells #[.func (.yield l) #[] #[]] 133)).heap.size = W.heap.size + 1 := World.size_alloc _ _
 have hB2 : Below W.heap.size W W2 := by rw [hW2]; exact ((Below.refl _ _).alloc (Nat.le_refl _) _).alloc (by simp) _
 have hJ2 : J [] W2 := by rw [hW2]; exact hja _ _ _ (hja _ _ _ h0)
 have hBW := KC.of_below (n₀ := n₀) (hW.trans (hB2.mono hW.size))
 have cy : W2.cell? ⟨W.heap.size, 0, none⟩ = some (.func (.yield l) #[] #[]) := by
  rw [hW2]
  exact ((BoxL.made W #[.func (.yield l) #[] #[]] 133).under _).2 0 _ rfl |>.1
 have cv : W2.cell? ⟨W.heap.size + 1, 0, none⟩ = some (.func (.func 91) #[] #[.pointer (some ⟨W.heap.size, 0, none⟩), .pointer (some ⟨W.heap.size + 1, 0, none⟩)]) := by
  have := cells_last (W.alloc (.cells #[.func (.yield l) #[] #[]] 133)) #[.func (.func 91) #[] #[.pointer (some ⟨W.heap.size, 0, none⟩), .pointer (some ⟨W.heap.size + 1, 0, none⟩)]] 133 0 _ rfl
  rw [hz] at this
  rw [hW2]
  exact this
 have hsn : ((W.alloc (.cells #[.func (.yield l) #[] #[]] 133)).alloc (.cells #[.nilFunc] 133)).setCell ⟨W.heap.size + 1, 0, none⟩ (.func (.func 91) #[] #[.pointer (some ⟨W.heap.size, 0, none⟩), .pointer (some ⟨W.heap.size + 1, 0, none⟩)]) = (W.alloc (.cells #[.func (.yield l) #[] #[]] 133)).alloc (.cells #[.func (.func 91) #[] #[.pointer (some ⟨W.heap.size, 0, none⟩), .pointer (some ⟨W.heap.size + 1, 0, none⟩)]] 133) := by
  have := World.setCell_alloc_new (w := W.alloc (.cells #[.func (.yield l) #[] #[]] 133)) #[.nilFunc] 133 0 (.func (.func 91) #[] #[.pointer (some ⟨W.heap.size, 0, none⟩), .pointer (some ⟨W.heap.size + 1, 0, none⟩)])
  rw [hz] at this
  exact this
 have hnb := (BoxL.made (W.alloc (.cells #[.func (.yield l) #[] #[]] 133)) #[.nilFunc] 133).2 0 _ rfl
 rw [hz] at hnb
 obtain ⟨nb0, nb1⟩ := hnb
 have hst : ∀ m, (store ⟨W.heap.size + 1, 0, none⟩ (.func (.func 91) #[] #[.pointer (some ⟨W.heap.size, 0, none⟩), .pointer (some ⟨W.heap.size + 1, 0, none⟩)]) m).run Tryz.prog ((W.alloc (.cells #[.func (.yield l) #[] #[]] 133)).alloc (.cells #[.nilFunc] 133)) = .ok () ((W.alloc (.cells #[.func (.yield l) #[] #[]] 133)).alloc (.cells #[(.func (.func 91) #[] #[.pointer (some ⟨W.heap.size, 0, none⟩), .pointer (some ⟨W.heap.size + 1, 0, none⟩)])] 133)) := fun m => by
  rw [run_store _ _ _ _ m rfl, nb0]
  simp only [nb1, hsn, Bool.false_eq_true, if_false]
 have E : VisEnv n₀ w.heap.size W.heap.size (W.heap.size + 1) l f.size w W2 J Jx := ⟨hja, hn, hBW, hW.size, Nat.le_succ_of_le hW.size, Nat.le_trans hW.size hB2.size, cy, cv, fun m pre x W1 h1 _ h3 h4 h5 => hY m pre x W1 h1 h3 h4 h5⟩
 have KV := Lib.hid (visit_all E f.size f (Nat.le_refl _) 1 [] c d W2 (by omega) hT hw (KC.refl _ _ _) hJ2 (by simp))
 rw [show ((1 : Nat) : Int) = 1 from rfl] at KV
 obtain ⟨o0, o1, o2, o3, -⟩ := hX.keep (hW.trans (hB2.mono hW.size)) |>.open4
 obtain ⟨⟨a2, m2, c2, rfl⟩, ⟨a3, m3, c3, rfl⟩⟩ : (∃ a n x, c = .slice a n x) ∧ ∃ a n x, d = .slice a n x := by
  obtain ⟨a2, c2, a3, c3, e1, e2, -⟩ := hT.shape
  exact ⟨⟨_, _, _, e1⟩, ⟨_, _, _, e2⟩⟩
 generalize ndT w f _ _ 1 = nl at *
 generalize f.op = op at *
 generalize f.n = nn at *
 rw [hW2] at o0 o1 o2 o3 KV cv
 have hdd : ∀ k : Nat, (Fence.wide.depth.isSome = true → 1 ≤ k) := fun k h => by cases h
 clear E hY hT hX hja hJ2 h0 hBW hB2 hW hW2 hz cy hn hf hw
 refine callsIn_of_wp Tryz.func90 rfl trivial ?_ rfl
 simp only [Tryz.ntmps90, List.size_toArray, List.length_cons, List.length_nil, Nat.reduceAdd, Nat.reduceSub, Array.replicate_succ, Array.replicate_zero, List.push_toArray, List.append_toArray, List.nil_append, List.cons_append]
 gi_wp2_with (refine ⟨trivial, hdd _, ?_⟩; gi_at_call 91; refine (callsIn_wide.2 KV.out).mono ?_; clear KV; rintro e W4 (⟨rfl, hj4, hk4⟩ | ⟨rfl, q, hq, hx⟩))
 ·go_end0
  exact ⟨⟨_, rfl⟩, .inl ⟨_, rfl, hj4.out⟩⟩
 ·go_end0
  exact ⟨⟨_, rfl⟩, .inr ⟨q, hq.out, hx.out⟩⟩
theorem nodes_stops (n : Nat) (f : Fo) (hf : f.size ≤ 1000000) (hw : f.wf) (Bf n₀ : Nat) (c d : Value) (w : World) (hn : n₀ ≤ w.heap.size) (hT : FAt n₀ w f c d) (hX : BoxL Bf [.int .i64 f.op, .int .i64 f.n, c, d] w) :
  SeqStopsK Fence.wide n Tryz.prog 90 #[.pointer (some ⟨Bf, 0, none⟩)] Nd.encs (KC n₀ w.heap.size) (fun xs => xs = ndT w f c d 1) (fun pre => pre <+: ndT w f c d 1) f.size w := fun l J Jx W hW hJ _ hY h0 =>
 nodes_core n f hf hw Bf n₀ c d w hn hT hX l J Jx W hW (fun pre W o h => hJ pre W _ none h (World.grownBy_alloc W o none) (fun r e => by cases e)) (fun m pre x W1 h1 h3 _ _ => yield_depth rfl m (hY pre x W1 h1 h3)) h0
theorem nodes_stopsP (n : Nat) (f : Fo) (hf : f.size ≤ 1000000) (hw : f.wf) (Bf n₀ : Nat) (c d : Value) (w : World) (hn : n₀ ≤ w.heap.size) (hT : FAt n₀ w f c d) (hX : BoxL Bf [.int .i64 f.op, .int .i64 f.n, c, d] w) :
  SeqStopsK Fence.wide n Tryz.prog 90 #[.pointer (some ⟨Bf, 0, none⟩)] (fun x : { x : Nd // FAt n₀ w x.f x.c x.d ∧ x.f.wf } => x.1.encs) (KC n₀ w.heap.size) (fun xs => xs.map (·.1) = ndT w f c d 1) (fun pre => pre.map (·.1) <+: ndT w f c d 1) f.size w := fun l J Jx W hW hJ _ hY h0 =>
 (nodes_core n f hf hw Bf n₀ c d w hn hT hX l (fun pre W => ∃ xs, xs.map (·.1) = pre ∧ J xs W) (fun pre W => ∃ xs, xs.map (·.1) = pre ∧ Jx xs W) W hW (fun pre W o h => by obtain ⟨xs, e, h⟩ := h; exact ⟨xs, e, hJ xs W _ none h (World.grownBy_alloc W o none) (fun r e => by cases e)⟩)
  (fun m pre x W1 ⟨xs, e, h1⟩ h3 h4 h5 => yield_depth rfl m (YieldAt.mono (hY xs ⟨x, h4, h5⟩ W1 h1 (by rw [← e, List.length_map] at h3; exact h3)) fun e' W' h => h.elim (fun ⟨a, b, c⟩ => .inl ⟨a, ⟨_, by rw [List.map_append, e]; rfl, b⟩, c⟩) fun ⟨a, b⟩ => .inr ⟨a, ⟨_, by rw [List.map_append, e]; rfl, b⟩⟩)) ⟨[], rfl, h0⟩).mono
  fun _ _ ⟨hv, h⟩ => ⟨hv, h.elim (fun ⟨_, e1, xs, e2, hj⟩ => .inl ⟨xs, e2.trans e1, hj⟩) fun ⟨_, e1, xs, e2, hj⟩ => .inr ⟨xs, by show xs.map (·.1) <+: _; rw [e2]; exact e1, hj⟩⟩
end Go.Proofs.YtgnloodmbgdgdaaGreat
namespace Go.Proofs.YtgnloodmbgdgdaaGreat
open Go.RowKit Go.Shelf
attribute [local go_sem] Oper.semAt_some
set_option maxHeartbeats 4000000 in
set_option maxRecDepth 100000 in
theorem nodes_any (f : Fo) (c d : Value) (w : World) (hT : ∃ a n x b m y, c = .slice a n x ∧ d = .slice b m y) : Calls Tryz.prog 51 #[.agg #[.int .i64 f.op, .int .i64 f.n, c, d]] w fun e w' => e = .returned (.func (.func 90) #[] #[.pointer (some ⟨w.heap.size, 0, none⟩)]) ∧ w' = w.alloc (.cells #[.int .i64 f.op, .int .i64 f.n, c, d] 29) := by
 obtain ⟨a, n, x, b, m, y, rfl, rfl⟩ := hT
 go_enter Tryz.func51, Tryz.ntmps51
 go_wp2
 go_ret
 exact ⟨rfl, rfl⟩
theorem KC.setOwn {n₀ n₁ b o : Nat} {W : World} (h0 : n₀ ≤ b) (h1 : b < n₁) (v : Value) : KC n₀ n₁ W (W.setCell ⟨b, o, none⟩ v) :=
 ⟨by rw [World.size_setCell]; exact Nat.le_refl _, fun k hk ob ho _ => (Below.heap_setCell _ _ _ _ (fun e => by subst e; rcases hk with hk | hk <;> omega)).trans ho⟩
end Go.Proofs.YtgnloodmbgdgdaaGreat
namespace Go.Proofs.YtgnloodmbgdgdaaGreat
open Go.RowKit Go.Shelf
attribute [local go_sem] Oper.semAt_some
def maxL : List Nd → Nat := List.foldl (fun m x => max m x.lev) 0
theorem maxL_snoc (a : List Nd) (x : Nd) : maxL (a ++ [x]) = max (maxL a) x.lev := by unfold maxL; rw [List.foldl_append]; rfl
theorem foldl_lev : ∀ (b : List Nd) (m : Nat), b.foldl (fun m x => max m x.lev) m = max m (maxL b)
 | [], m => by show m = max m 0; omega
 | x :: b, m => by
  have h1 := foldl_lev b (max m x.lev)
  have h2 := foldl_lev b (max 0 x.lev)
  show b.foldl (fun m x => max m x.lev) (max m x.lev) = max m (b.foldl (fun m x => max m x.lev) (max 0 x.lev))
  rw [h1, h2]
  omega
theorem maxL_app (a b : List Nd) : maxL (a ++ b) = max (maxL a) (maxL b) := by
 show (a ++ b).foldl (fun m x => max m x.lev) 0 = _
 rw [List.foldl_append]
 exact foldl_lev b _
theorem Fo.deep_pos (f : Fo) : 1 ≤ f.deep := by rw [Fo.deep_eq]; omega
mutual
theorem maxL_T (w : World) : ∀ (f : Fo) (c d : Value) (lev : Nat), 1 ≤ lev → maxL (ndT w f c d lev) = lev + f.deep - 1
 | .mk op n is ks, c, d, lev, h => by
  have h1 := maxL_R w ks (rowB d) 0 (lev + 1) (by omega)
  rw [ndT, ← List.singleton_append, maxL_app, h1, Fo.deep]
  show max (max 0 lev) _ = _
  split <;> omega
theorem maxL_R (w : World) : ∀ (ks : List Fo) (g o lev : Nat), 1 ≤ lev → maxL (ndR w ks g o lev) = if Fo.deeps ks = 0 then 0 else lev + Fo.deeps ks - 1
 | [], _, _, _, _ => by rw [ndR, Fo.deeps]; rfl
 | t :: ts, g, o, lev, h => by
  have h1 := maxL_T w t ((w.cell? ⟨g, o + 2, none⟩).getD (.bool false)) ((w.cell? ⟨g, o + 3, none⟩).getD (.bool false)) lev h
  have h2 := maxL_R w ts g (o + 4) lev h
  have h3 := t.deep_pos
  rw [ndR, maxL_app, h1, h2, Fo.deeps]
  split <;> split <;> omega
end
end Go.Proofs.YtgnloodmbgdgdaaGreat
