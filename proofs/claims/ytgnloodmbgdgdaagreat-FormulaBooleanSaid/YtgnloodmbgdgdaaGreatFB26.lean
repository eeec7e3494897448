import Derived.Test.YtgnloodmbgdgdaaGreatFB22
import Derived.Test.YtgnloodmbgdgdaaGreatFB24
namespace Go.Proofs.YtgnloodmbgdgdaaGreat
open Go.RowKit Go.Shelf
def sn : Nat → Nat
 | 0 => 1
 | 1 => 1
 | d + 2 => 1 + 3 * sn (d + 1)
theorem sn_pos : ∀ d : Nat, 1 ≤ sn d
 | 0 => Nat.le_refl _
 | 1 => Nat.le_refl _
 | d + 2 => by rw [sn]; omega
theorem sn_step {d : Nat} (h : 1 < d) : sn d = 1 + 3 * sn (d - 1) := by
 obtain ⟨e, rfl⟩ : ∃ e, d = e + 2 := ⟨d - 2, by omega⟩
 rw [sn]
 rfl
structure GdT (m d : Nat) (t : Th) : Prop where
 good : t.good
 cls : t.cls m = true
 size : t.size ≤ sn d
 deep : t.deep ≤ max 1 d
theorem inc_snoc {lim : Int} {cs : List Int} {c : Int} (h : Inc lim cs) (h0 : 0 ≤ c) (h1 : c < lim) (hl : ∀ z ∈ cs, z < c) : Inc lim (cs ++ [c]) := fun i x hx => by
 by_cases hi : i < cs.length
 ·rw [List.getElem?_append_left hi] at hx
  obtain ⟨q1, q2, q3⟩ := h i x hx
  exact ⟨q1, q2, fun y h2 hy => by
   rw [List.getElem?_append_left (by omega)] at hy
   exact q3 y h2 hy⟩
 ·have hl2 := (List.getElem?_eq_some_iff.1 hx).1
  have e : i = cs.length := by simp at hl2; omega
  subst e
  simp at hx
  subst hx
  exact ⟨h0, h1, fun y h2 hy => by
   rw [List.getElem?_append_left (by omega)] at hy
   exact hl y (List.mem_of_getElem? hy)⟩
theorem sizesT_all {ps : List Th} {d : Nat} : Th.deeps ps ≤ d ↔ ∀ u ∈ ps, u.deep ≤ d := by
 induction ps with
 | nil => simp [Th.deeps]
 | cons k ks ih =>
  rw [Th.deeps]
  constructor
  ·intro h u hu
   rcases List.mem_cons.1 hu with rfl | hu
   ·omega
   ·exact ih.1 (by omega) u hu
  ·intro h
   have h1 := h k (List.mem_cons_self ..)
   have h2 := ih.2 fun x hx => h x (List.mem_cons_of_mem _ hx)
   omega
theorem clssT_all {m : Int} {ps : List Th} (h : ∀ u ∈ ps, u.cls m = true) : Th.clss m ps = true := by
 induction ps with
 | nil => rw [Th.clss]
 | cons k ks ih =>
  rw [Th.clss, h k (List.mem_cons_self ..), ih fun x hx => h x (List.mem_cons_of_mem _ hx)]
  rfl
theorem gd_node {m d : Nat} {cs : List Int} {vs : List Va} {ps : List Th} {g : Nat} (h1 : Inc 64 cs) (h2 : ∀ z ∈ cs, 0 ≤ z ∧ z < (m : Int)) (h3 : ∀ v ∈ vs, v.ok) (h4 : Inc 32 (vs.map Va.t)) (h5 : ∀ u ∈ ps, GdT m (d - 1) u) (h6 : Th.sizes ps ≤ g * sn (d - 1)) (h7 : d ≤ 1 → ps = []) (hg : g ≤ 3) : GdT m d (.mk cs vs ps) where
 good := (Th.good_eq _).2 ⟨⟨h1, h3, h4⟩, fun u hu => (h5 u hu).good⟩
 cls := by
  rw [Th.cls_eq, Bool.and_eq_true]
  refine ⟨?_, clssT_all fun u hu => (h5 u hu).cls⟩
  rw [Bool.not_eq_true', List.any_eq_false]
  intro z hz
  have := (h2 z hz).2
  simp
  omega
 size := by
  rw [Th.size_eq]
  show 1 + Th.sizes ps ≤ _
  by_cases hd : d ≤ 1
  ·rw [h7 hd, Th.sizes]
   exact sn_pos d
  ·rw [sn_step (by omega)]
   have := Nat.mul_le_mul_right (sn (d - 1)) hg
   omega
 deep := by
  rw [Th.deep_eq]
  show Th.deeps ps + 1 ≤ _
  by_cases hd : d ≤ 1
  ·rw [h7 hd, Th.deeps]
   omega
  ·have := sizesT_all.2 fun u hu => (h5 u hu).deep
   omega
def SomeOutT (d i m : Nat) (W : World) (e : Ending) (w' : World) : Prop :=
 ∃ (t : Th) (r : Tr) (k : Nat), e = .returned (.tuple #[.agg #[.slice r.a1 r.n1 r.c1, .slice r.a2 r.n2 r.c2, .slice r.a3 r.n3 r.c3], .int .i64 k]) ∧ Hid (TSr (fun k => W.heap.size ≤ k ∧ k < w'.heap.size) w' t r) ∧ Hid ((t.wf ∧ t.wt ≤ 76 * nn d) ∧ GdT m d t) ∧ k ≤ i + 5 * nn d ∧ Hid (Below W.heap.size W w')
def SomeKT (d : Nat) : Prop := ∀ (zs : List Int) (i m : Nat) (sv : Value) (W : World), Els .i64 W sv zs → Wfs zs → m ≤ 64 → i + 5 * nn d ≤ 90000 →
 Calls Tryz.prog 57 #[sv, .int .i64 i, .int .i64 m, .int .i64 d] W (SomeOutT d i m W)
set_option maxHeartbeats 8000000 in
set_option maxRecDepth 100000 in
theorem some_stepT (d : Nat) (hd : d ≤ 10) (K : ∀ e, e < d → SomeKT e) : SomeKT d := by
 intro zs i m sv W hE hwf hm hi
 obtain ⟨a0, c0, rfl⟩ := hE.shape
 have hnp := np_nn d
 have hsz : zs.length = zs.length := rfl
 obtain ⟨q, hq⟩ : ∃ q, q = np d := ⟨_, rfl⟩
 have hq1 : d ≤ 1 ∨ q = nn (d - 1) := by
  rw [hq]; unfold np
  by_cases h : d ≤ 1
  ·exact .inl h
  ·exact .inr (by rw [if_neg h])
 rw [← hq] at hnp
 generalize hF : nn d = f at *
 have HNF := Lib.hid hF
 obtain ⟨W1, hW1⟩ : ∃ W1, W1 = W.alloc (.cells #[.slice none 0 0, .slice none 0 0, .slice none 0 0] 41) := ⟨_, rfl⟩
 have hB1 : Below W.heap.size W W1 := by rw [hW1]; exact (Below.refl _ _).alloc (Nat.le_refl _) _
 have hR : BoxL W.heap.size [.slice none 0 0, .slice none 0 0, .slice none 0 0] W1 := by rw [hW1]; exact BoxL.made W _ _
 obtain ⟨W2, hW2⟩ : ∃ W2, W2 = W1.alloc (.cells #[.slice none 0 0, .slice none 0 0, .slice none 0 0] 41) := ⟨_, rfl⟩
 have hS2 : Since W1 W2 := by rw [hW2]; exact (Below.refl _ _).alloc (Nat.le_refl _) _
 have hsz1 : W1.heap.size = W.heap.size + 1 := by rw [hW1, World.size_alloc]
 have hO2 : OB (W.heap.size + 1 ≤ ·) (W.heap.size + 1) (W.heap.size + 1) W2 (.slice none 0 0) (.slice none 0 0) (.slice none 0 0) [] [] [] [] := by rw [hW2, ← hsz1]; exact OB.new _ _ _ (Nat.le_refl _)
 have hE1 := hE.below hB1
 have kp := fun (W' : World) (h : Since W1 W') (j : Nat) (most : Int) (hj : j ≤ 100000) (h1 : 1 ≤ most) (h2 : most ≤ 1048576) => pick_any _ zs j most W' (hE1.below h) hwf h1 (by omega) hj
 have kr := fun (W' : World) (h : Since W1 W') (j : Nat) (e : Nat) (he : e < d) (hj : j + 5 * nn e ≤ 90000) => K e he zs j m _ W' (hE1.below h) hwf hm hj
 have KP := Lib.hid kp
 have KR := Lib.hid kr
 have HR := Lib.hid hR
 have HB1 := Lib.hid hB1
 have HS2 := Lib.hid hS2
 have HO2 := Lib.hid hO2
 have HW1 := Lib.hid hsz1
 clear kp kr hR hB1 hS2 hO2 hE1 hE hwf K hsz hF hsz1
 go_enter Tryz.func57, Tryz.ntmps57
 go_upto_region 2 with (fail)
 rw [← hW1, ← hW2]
 clear hW1 hW2
 generalize hNN : W.heap.size + 1 = N at *
 have HNN := Lib.hid hNN
 clear hNN
 go_wp2_with fail
 refine (KP.out _ HS2.out i 1048576 (by omega) (by decide) (by decide)).mono ?_
 rintro e _ ⟨rfl, rfl⟩
 obtain ⟨n, hn⟩ : ∃ n, n = pickI zs i 1048576 := ⟨_, rfl⟩
 have hnr := pickI_range zs i 1048576 (by decide)
 rw [← hn] at hnr ⊢
 obtain ⟨hn0, hn1⟩ := hnr
 clear hn
 have i1 : IntKind.i64.wrap ((i : Int) + 1) = ((i + 1 : Nat) : Int) := by rw [IntWalk.i64_in _ (by omega)]; omega
 go_wp2
 go_loopw [12] (fun v wr => ∃ (c : Nat) (a1 : Option Addr) (n1 c1 : Nat) (cs : List Int), c ≤ m ∧ v = .int .i64 c ∧ Hid (OB (N ≤ ·) N N wr (.slice a1 n1 c1) (.slice none 0 0) (.slice none 0 0) cs [] [] []) ∧ Hid (cs.length ≤ c ∧ (∀ z ∈ cs, I64 z) ∧ Inc 64 cs ∧ ∀ z ∈ cs, 0 ≤ z ∧ z < (c : Int)) ∧ Hid (Since W1 wr)) (fun v _ => m - (intOf v).toNat)
 case atStart => exact ⟨0, none, 0, 0, [], by omega, rfl, HO2, Lib.hid ⟨by simp, (fun z hz => by cases hz), Inc.nil 64, (fun z hz => by cases hz)⟩, HS2⟩
 case round =>
  obtain ⟨c, a1, n1, c1, cs, hc, rfl, hO, hcs, hS⟩ := hrel
  clear HO2 HS2
  obtain ⟨x0, x1, x2, f0, f1, f2, -⟩ := hO.out.box.open3
  by_cases hlt : c < m
  ·have j1 : (c : Int) < m := by omega
   have j2 : IntKind.i64.wrap ((c : Int) + 1) = ((c + 1 : Nat) : Int) := by rw [IntWalk.i64_in _ (by omega)]; omega
   have hzB : N ≤ wr.heap.size := by rw [← HW1.out]; exact hS.out.size
   have hl : cs.length + 1 ≤ 1000000000 := by have := hcs.out.1; omega
   have hLn : Hid (n1 = cs.length) := Lib.hid hO.out.oa.els.len
   go_wp2_with (at_builtin; refine push_row_f rfl _ _ 22 rfl RIn 3 8 _ Tryz.underlying22 Tryz.infoI64 rfl (by decide) N (.slice a1 n1 c1) cs [(c : Int)] _ _ rfl rfl _ 1 rfl rfl rfl hO.out.oa hzB hl ?_; intro an ln cn wn hnn hOn hBn hPn; obtain ⟨y0, y1, y2, g0, g1, g2, -⟩ := (hO.out.there1 hPn.out).open3)
   ·go_roundw
    case rel => exact ⟨c + 1, an, ln, cn, cs ++ [(c : Int)], by omega, by go_num, Lib.hid (hO.out.set1 hPn.out hOn.out), Lib.hid ⟨by rw [List.length_append]; have := hcs.out.1; simp; omega, fun z hz => by
      rcases List.mem_append.1 hz with hz | hz
      ·exact hcs.out.2.1 z hz
      ·rw [List.mem_singleton.1 hz]; exact ⟨by omega, by omega⟩, inc_snoc hcs.out.2.2.1 (by omega) (by omega) (fun z hz => (hcs.out.2.2.2 z hz).2), fun z hz => by
      rcases List.mem_append.1 hz with hz | hz
      ·have := hcs.out.2.2.2 z hz; omega
      ·rw [List.mem_singleton.1 hz]; omega⟩, Lib.hid (since_put HW1.out hS.out hBn.out _ _)⟩
    case measure => simp [intOf]; omega
   ·go_roundw
    case rel => exact ⟨c + 1, a1, n1, c1, cs, by omega, by go_num, hO, Lib.hid ⟨by have := hcs.out.1; omega, hcs.out.2.1, hcs.out.2.2.1, fun z hz => by have := hcs.out.2.2.2 z hz; omega⟩, hS⟩
    case measure => simp [intOf]; omega
  ·have j1 : ¬ (c : Int) < m := by omega
   have hH2 : Hid (n1 = cs.length ∧ cs.length ≤ 64) := Lib.hid ⟨hO.out.oa.els.len, by have := hcs.out.1; omega⟩
   have HCW : Hid (∀ z ∈ cs, I64 z) := Lib.hid hcs.out.2.1
   have HCI : Hid (Inc 64 cs ∧ ∀ z ∈ cs, 0 ≤ z ∧ z < (m : Int)) := Lib.hid ⟨hcs.out.2.2.1, fun z hz => by have := hcs.out.2.2.2 z hz; omega⟩
   clear x0 x1 x2 f0 f1 f2 hcs
   go_wp2
   go_loopw [13, 1] (fun v u wr => ∃ (j k : Nat) (a2 : Option Addr) (n2 c2 : Nat) (vs : List Va), j ≤ 3 ∧ v = .int .i64 j ∧ u = .int .i64 k ∧ k ≤ 90000 ∧ Hid (k = i + 1 + j) ∧ Hid (OB (N ≤ ·) N N wr (.slice a1 n1 c1) (.slice a2 n2 c2) (.slice none 0 0) cs vs [] []) ∧ Hid (vs.length ≤ j ∧ (∀ v ∈ vs, v.wf) ∧ (∀ v ∈ vs, v.ok) ∧ Inc 32 (vs.map Va.t) ∧ ∀ v ∈ vs, 0 ≤ v.t ∧ v.t < (j : Int)) ∧ Hid (Since W1 wr)) (fun v _ _ => 3 - (intOf v).toNat)
   case atStart => exact ⟨0, i + 1, none, 0, 0, [], by omega, rfl, by go_num, by omega, Lib.hid rfl, hO, Lib.hid ⟨by simp, (fun z hz => by cases hz), (fun z hz => by cases hz), Inc.nil 32, (fun z hz => by cases hz)⟩, hS⟩
   case round =>
    clear hO hS i1
    obtain ⟨j, k, a2, n2, c2, vs, hj, rfl, rfl, hkb, hk, hO, hvs, hS⟩ := hrel
    obtain ⟨x0, x1, x2, f0, f1, f2, -⟩ := hO.out.box.open3
    have i1 : IntKind.i64.wrap ((k : Int) + 1) = ((k + 1 : Nat) : Int) := by rw [IntWalk.i64_in _ (by omega)]; omega
    by_cases hlt : j < 3
    ·have j1 : (j : Int) < 3 := by omega
     go_wp2_with fail
     refine (KP.out _ hS.out k 1048576 (by omega) (by decide) (by decide)).mono ?_
     rintro e _ ⟨rfl, rfl⟩
     obtain ⟨p, hp⟩ : ∃ p : Nat, pickI zs k 1048576 = (p : Int) := ⟨(pickI zs k 1048576).toNat, by have := pickI_range zs k 1048576 (by decide); omega⟩
     have hpr : p < 1048576 := by have := pickI_range zs k 1048576 (by decide); omega
     rw [hp]
     clear hp
     have hq8 : ((p : Int) / 3 % 8) = ((p / 3 % 8 : Nat) : Int) := by omega
     have hq9 : p / 3 % 8 < 8 := by omega
     generalize p / 3 % 8 = r at *
     by_cases hp3 : (p : Int) % 3 = 0
     ·go_upto_region 14 with (fail)
      go_cut [15] (fun s wx => ∃ (M : Nat) (x y : Int), s = .pointer (some ⟨M, 0, none⟩) ∧ Hid (BoxL M [.int .i64 x, .int .i64 y] wx) ∧ Hid (I64 x ∧ I64 y ∧ Qm.Ok x y ∧ y ≤ 65536) ∧ Hid (Since wr wx))
      case first =>
       clear x0 x1 x2 f0 f1 f2 hO hvs HCW HR KP KR
       have hs2 : ∀ (o1 o2 : Obj), Since wr ((wr.alloc o1).alloc o2) := fun o1 o2 => ((Below.refl _ wr).alloc (Nat.le_refl _) _).alloc (by simp) _
       match r, hq9 with
       | 0, _ => go_wp2; go_meet; exact ⟨_, 0, 1, rfl, Lib.hid (ratio_box _ _ _ _ _ _), Lib.hid ⟨⟨by decide, by decide⟩, ⟨by decide, by decide⟩, by decide, by decide⟩, Lib.hid (hs2 _ _)⟩
       | 1, _ => go_wp2; go_meet; exact ⟨_, 1, 1, rfl, Lib.hid (ratio_box _ _ _ _ _ _), Lib.hid ⟨⟨by decide, by decide⟩, ⟨by decide, by decide⟩, by decide, by decide⟩, Lib.hid (hs2 _ _)⟩
       | 2, _ => go_wp2; go_meet; exact ⟨_, 1, 2, rfl, Lib.hid (ratio_box _ _ _ _ _ _), Lib.hid ⟨⟨by decide, by decide⟩, ⟨by decide, by decide⟩, by decide, by decide⟩, Lib.hid (hs2 _ _)⟩
       | 3, _ => go_wp2; go_meet; exact ⟨_, 3, 2, rfl, Lib.hid (ratio_box _ _ _ _ _ _), Lib.hid ⟨⟨by decide, by decide⟩, ⟨by decide, by decide⟩, by decide, by decide⟩, Lib.hid (hs2 _ _)⟩
       | 4, _ => go_wp2; go_meet; exact ⟨_, 2, 1, rfl, Lib.hid (ratio_box _ _ _ _ _ _), Lib.hid ⟨⟨by decide, by decide⟩, ⟨by decide, by decide⟩, by decide, by decide⟩, Lib.hid (hs2 _ _)⟩
       | 5, _ => go_wp2; go_meet; exact ⟨_, -1, 1, rfl, Lib.hid (ratio_box _ _ _ _ _ _), Lib.hid ⟨⟨by decide, by decide⟩, ⟨by decide, by decide⟩, by decide, by decide⟩, Lib.hid (hs2 _ _)⟩
       | 6, _ => go_wp2; go_meet; exact ⟨_, 5, 1, rfl, Lib.hid (ratio_box _ _ _ _ _ _), Lib.hid ⟨⟨by decide, by decide⟩, ⟨by decide, by decide⟩, by decide, by decide⟩, Lib.hid (hs2 _ _)⟩
       | 7, _ => go_wp2; go_meet; exact ⟨_, 7, 3, rfl, Lib.hid (ratio_box _ _ _ _ _ _), Lib.hid ⟨⟨by decide, by decide⟩, ⟨by decide, by decide⟩, by decide, by decide⟩, Lib.hid (hs2 _ _)⟩
      case rest =>
      obtain ⟨M, x, y, rfl, hM, hxy, hSx⟩ := hcut
      rename World => wx
      have HS3 := Lib.hid (Since.step hS.out hSx.out)
      have HO3 := Lib.hid (hO.out.frame hSx.out)
      clear x0 x1 x2 f0 f1 f2 hO hS
      obtain ⟨x0, x1, x2, f0, f1, f2, -⟩ := HO3.out.box.open3
      obtain ⟨m0, m1, -, -, -⟩ := hM.out.open2
      have hzB : N ≤ wx.heap.size := by rw [← HW1.out]; exact HS3.out.size
      have hl : vs.length + 1 ≤ 1000000000 := by have := hvs.out.1; omega
      go_wp2_with (at_builtin; refine push_row_f rfl _ _ 38 rfl RVa 93 24 _ Tryz.underlying38 Tryz.infoVal rfl (by decide) N (.slice a2 n2 c2) vs [⟨(j : Int), x, y⟩] _ _ rfl rfl _ 1 rfl rfl rfl HO3.out.ob hzB hl ?_; intro an ln cn wn hnn hOn hBn hPn; obtain ⟨y0, y1, y2, g0, g1, g2, -⟩ := (HO3.out.there2 hPn.out).open3)
      go_roundw
      case rel => exact ⟨j + 1, k + 1, an, ln, cn, vs ++ [⟨(j : Int), x, y⟩], by omega, by go_num, by go_num, by have := hk.out; omega, Lib.hid (by have := hk.out; omega), Lib.hid (HO3.out.set2 hPn.out hOn.out), Lib.hid ⟨by rw [List.length_append]; have := hvs.out.1; simp; omega, fun z hz => by
        rcases List.mem_append.1 hz with hz | hz
        ·exact hvs.out.2.1 z hz
        ·rw [List.mem_singleton.1 hz]; exact ⟨⟨by show _ ≤ (j : Int); omega, by show (j : Int) ≤ _; omega⟩, hxy.out.1, hxy.out.2.1⟩, fun z hz => by
        rcases List.mem_append.1 hz with hz | hz
        ·exact hvs.out.2.2.1 z hz
        ·rw [List.mem_singleton.1 hz]; exact ⟨hxy.out.2.2.1, hxy.out.2.2.2⟩, by
        rw [List.map_append]
        exact inc_snoc hvs.out.2.2.2.1 (by show (0 : Int) ≤ (j : Int); omega) (by show (j : Int) < 32; omega) (fun z hz => by
         obtain ⟨v, hv, rfl⟩ := List.mem_map.1 hz
         exact (hvs.out.2.2.2.2 v hv).2), fun z hz => by
        rcases List.mem_append.1 hz with hz | hz
        ·have := hvs.out.2.2.2.2 z hz; omega
        ·rw [List.mem_singleton.1 hz]; exact ⟨by show (0 : Int) ≤ (j : Int); omega, by show (j : Int) < ((j + 1 : Nat) : Int); omega⟩⟩, Lib.hid (since_put HW1.out HS3.out hBn.out _ _)⟩
      case measure => simp [intOf]; omega
     ·go_wp2_with fail
      go_roundw
      case rel => exact ⟨j + 1, k + 1, a2, n2, c2, vs, by omega, by go_num, by go_num, by have := hk.out; omega, Lib.hid (by have := hk.out; omega), hO, Lib.hid ⟨by have := hvs.out.1; omega, hvs.out.2.1, hvs.out.2.2.1, hvs.out.2.2.2.1, fun z hz => by have := hvs.out.2.2.2.2 z hz; omega⟩, hS⟩
      case measure => simp [intOf]; omega
    ·have j1 : ¬ (j : Int) < 3 := by omega
     have hj3 : j = 3 := by omega
     subst hj3
     have hx2 : Hid (n2 = vs.length ∧ vs.length ≤ 3) := Lib.hid ⟨hO.out.ob.els.len, hvs.out.1⟩
     have HVW : Hid (∀ v ∈ vs, v.wf) := Lib.hid hvs.out.2.1
     have HVO : Hid ((∀ v ∈ vs, v.ok) ∧ Inc 32 (vs.map Va.t)) := Lib.hid ⟨hvs.out.2.2.1, hvs.out.2.2.2.1⟩
     clear x0 x1 x2 f0 f1 f2 hvs
     go_wp2_with fail
     refine (KP.out _ hS.out k 4 (by omega) (by decide) (by decide)).mono ?_
     rintro e _ ⟨rfl, rfl⟩
     obtain ⟨p, hp⟩ : ∃ p : Nat, pickI zs k 4 = (p : Int) := ⟨(pickI zs k 4).toNat, by have := pickI_range zs k 4 (by decide); omega⟩
     have hpr : p < 4 := by have := pickI_range zs k 4 (by decide); omega
     rw [hp]
     clear hp
     have hk9 : k + 1 = i + 5 := by have := hk.out; omega
     have hkw : IntKind.i64.wrap ((k : Int) + 1) = ((k + 1 : Nat) : Int) := by rw [IntWalk.i64_in _ (by omega)]; omega
     have HDW : IntKind.i64.wrap ((d : Int) - 1) = (d : Int) - 1 := IntWalk.i64_in _ (by omega)
     have HK9 := Lib.hid hk9
     clear hk9 hk
     go_wp2
     go_loopw [17, 1] (fun v u wr => ∃ (g at' : Nat) (a3 : Option Addr) (n3 c3 : Nat) (rs : List Tr) (ps : List Th), g ≤ p ∧ v = .int .i64 g ∧ u = .int .i64 at' ∧ at' ≤ 90000 ∧ Hid (at' ≤ i + 5 + 5 * (g * q)) ∧ Hid (OB (N ≤ ·) N N wr (.slice a1 n1 c1) (.slice a2 n2 c2) (.slice a3 n3 c3) cs vs rs ps) ∧ Hid (ps.length ≤ g ∧ Th.wts ps ≤ 76 * (g * q) ∧ (∀ u ∈ ps, u.wf) ∧ (∀ u ∈ ps, GdT m (d - 1) u) ∧ Th.sizes ps ≤ g * sn (d - 1) ∧ (d ≤ 1 → ps = [])) ∧ Hid (Since W1 wr)) (fun v _ _ => p - (intOf v).toNat)
     case atStart => exact ⟨0, k + 1, none, 0, 0, [], [], by omega, rfl, by go_num, by have := HK9.out; omega, Lib.hid (by have := HK9.out; omega), hO, Lib.hid ⟨by simp, by simp [Th.wts], (fun z hz => by cases hz), (fun z hz => by cases hz), by simp [Th.sizes], fun _ => rfl⟩, hS⟩
     case round =>
      clear hO hS i1 hkw
      obtain ⟨g, k', a3, n3, c3, rs, ps, hg, rfl, rfl, hkb', hk', hO, hps, hS⟩ := hrel
      obtain ⟨x0, x1, x2, f0, f1, f2, -⟩ := hO.out.box.open3
      by_cases hgo : g < p ∧ 1 < d ∧ k' < zs.length
      ·obtain ⟨e1, e2, e3⟩ := hgo
       have j1 : (g : Int) < p := by omega
       have j2 : (d : Int) > 1 := by omega
       have j3 : (k' : Int) < (zs.length : Int) := by omega
       have hqn : q = nn (d - 1) := by rcases hq1 with h | h <;> omega
       have hgq : (g + 1) * q ≤ 3 * q := Nat.mul_le_mul_right _ (by omega)
       have hgs : (g + 1) * q = g * q + q := Nat.succ_mul g q
       have kr := KR.out wr hS.out k' (d - 1) (by omega) (by rw [← hqn]; have := hk'.out; omega)
       have hd1 : ((d - 1 : Nat) : Int) = (d : Int) - 1 := by omega
       rw [hd1] at kr
       have KQ := Lib.hid kr
       clear kr
       go_wp2_with fail
       refine KQ.out.mono ?_
       rintro e w2 ⟨t, ⟨b1, l1, d1, b2, l2, d2, b3, l3, d3⟩, k2, rfl, hT, hw, hkk, hB2⟩
       obtain ⟨w3, hw3⟩ : ∃ w3, w3 = w2.alloc (.cells #[.slice b1 l1 d1, .slice b2 l2 d2, .slice b3 l3 d3] 41) := ⟨_, rfl⟩
       have hS3 : Since wr w3 := by rw [hw3]; exact Since.alloc hB2.out _
       have hX3 : BoxL w2.heap.size [.slice b1 l1 d1, .slice b2 l2 d2, .slice b3 l3 d3] w3 := by rw [hw3]; exact BoxL.made w2 _ _
       have hT3 : TSr (fun k => (wr.heap.size ≤ k) ∧ k < w3.heap.size) w3 t ⟨b1, l1, d1, b2, l2, d2, b3, l3, d3⟩ := by
        refine TS.keep (S' := fun k => wr.heap.size ≤ k) (w := w2) ?_ (fun k _ hk => hk.1) t hT.out
        rw [hw3]
        exact ⟨by simp, fun b _ hl => Below.heap_alloc _ _ _ hl⟩
       have hO3 := hO.out.frame hS3
       have hP3 := hO.out.part (w' := w3) (fun k hk hk2 => ⟨by have := HW1.out; have := hS.out.size; show N ≤ k; omega, .inr hk2.1⟩) hT3
       have HL3 := Lib.hid (hO3.lie.snoc (r := ⟨b1, l1, d1, b2, l2, d2, b3, l3, d3⟩) hP3)
       have HO3 := Lib.hid hO3
       have HS3 := Lib.hid (Since.step hS.out hS3)
       have HX3 := Lib.hid hX3
       clear x0 x1 x2 f0 f1 f2 hT hT3 hP3 hO3 hS3 hX3 hO hS KQ
       go_upto_region 23 with (fail)
       rw [← hw3]
       generalize w2.heap.size = M at *
       clear hw3
       obtain ⟨x0, x1, x2, f0, f1, f2, -⟩ := HO3.out.box.open3
       obtain ⟨m0, m1, m2, -, -, -, -⟩ := HX3.out.open3
       have hzB : N ≤ w3.heap.size := by rw [← HW1.out]; exact HS3.out.size
       have hl : rs.length + 1 ≤ 1000000000 := by have := hps.out.1; have := HO3.out.lie.1; omega
       have hkn : k2 ≤ 90000 := by rw [← hqn] at hkk; have := hk'.out; omega
       have hkm : Hid (k2 ≤ i + 5 + 5 * ((g + 1) * q)) := Lib.hid (by rw [← hqn] at hkk; have := hk'.out; omega)
       have HWW : Hid (t.wf ∧ t.wt ≤ 76 * q) := Lib.hid (by rw [hqn]; exact hw.out.1)
       have HGT : Hid (GdT m (d - 1) t) := Lib.hid hw.out.2
       clear hkk hw
       go_wp2_with (at_builtin; refine push_row_f rfl _ _ 39 rfl RTh 41 72 _ Tryz.underlying39 Tryz.infoTh rfl (by decide) N (.slice a3 n3 c3) rs [⟨b1, l1, d1, b2, l2, d2, b3, l3, d3⟩] _ _ rfl rfl _ 1 rfl rfl rfl HO3.out.oc hzB hl ?_; intro an ln cn wn hnn hOn hBn hPn; obtain ⟨y0, y1, y2, g0, g1, g2, -⟩ := (HO3.out.there3 hPn.out).open3)
       go_roundw
       case rel => exact ⟨g + 1, k2, an, ln, cn, rs ++ [⟨b1, l1, d1, b2, l2, d2, b3, l3, d3⟩], ps ++ [t], by omega, by go_num, by go_num, hkn, hkm, Lib.hid (HO3.out.set3 hPn.out hOn.out HL3.out), Lib.hid ⟨by rw [List.length_append]; have := hps.out.1; simp; omega, by rw [Th.wts_append]; have := hps.out.2.1; have := HWW.out.2; simp [Th.wts]; omega, fun z hz => by
         rcases List.mem_append.1 hz with hz | hz
         ·exact hps.out.2.2.1 z hz
         ·rw [List.mem_singleton.1 hz]; exact HWW.out.1, fun z hz => by
         rcases List.mem_append.1 hz with hz | hz
         ·exact hps.out.2.2.2.1 z hz
         ·rw [List.mem_singleton.1 hz]; exact HGT.out, by
         rw [Th.sizes_append, Nat.succ_mul]
         have h1 := hps.out.2.2.2.2.1
         have h2 := HGT.out.size
         simp only [Th.sizes]
         omega, fun h => by omega⟩, Lib.hid (since_put HW1.out HS3.out hBn.out _ _)⟩
       case measure => simp [intOf]; omega
      ·have hr3 := (HR.out.keep hS.out).open3
       obtain ⟨z0, z1, z2, zf0, zf1, zf2, -⟩ := hr3
       have hgq : g * q ≤ 3 * q := Nat.mul_le_mul_right _ (by omega)
       have hfin : Hid (SomeOutT d i m W (.returned (.tuple #[.agg #[.slice a1 n1 c1, .slice a2 n2 c2, .slice a3 n3 c3], .int .i64 k'])) (((wr.setCell ⟨W.heap.size, 0, none⟩ (.slice a1 n1 c1)).setCell ⟨W.heap.size, 1, none⟩ (.slice a2 n2 c2)).setCell ⟨W.heap.size, 2, none⟩ (.slice a3 n3 c3))) := by
        have hd := hO.out.done (fun k hk => hk)
        have hM : W.heap.size < N := by have := HNN.out; omega
        refine Lib.hid ⟨.mk cs vs ps, ⟨a1, n1, c1, a2, n2, c2, a3, n3, c3⟩, k', rfl, Lib.hid ?_, Lib.hid ⟨⟨?_, ?_⟩, gd_node HCI.out.1 HCI.out.2 HVO.out.1 HVO.out.2 hps.out.2.2.2.1 hps.out.2.2.2.2.1 hps.out.2.2.2.2.2 (by omega)⟩, ?_, Lib.hid ?_⟩
        ·have hk : KeepS (fun k => N ≤ k ∧ k < wr.heap.size) wr (((wr.setCell ⟨W.heap.size, 0, none⟩ (.slice a1 n1 c1)).setCell ⟨W.heap.size, 1, none⟩ (.slice a2 n2 c2)).setCell ⟨W.heap.size, 2, none⟩ (.slice a3 n3 c3)) := by
          refine ⟨by simp only [World.size_setCell]; exact Nat.le_refl _, fun b hb hl => ?_⟩
          have hne : b ≠ W.heap.size := by omega
          rw [Below.heap_setCell _ _ _ _ hne, Below.heap_setCell _ _ _ _ hne, Below.heap_setCell _ _ _ _ hne]
         exact TS.keep hk (S' := fun k => W.heap.size ≤ k) (fun b _ hb => by omega) _ hd
        ·refine (Th.wf_eq _).2 ⟨⟨⟨HCW.out, ?_⟩, HVW.out, ?_⟩, hps.out.2.2.1⟩
         ·have := hH2.out.2; show cs.length ≤ _; omega
         ·have := hx2.out.2; show vs.length ≤ _; omega
        ·rw [Th.wt_eq]
         have h1 := hH2.out.2
         have h2 := hx2.out.2
         have h3 := hps.out.2.1
         have h4 := HNF.out
         show 3 + cs.length + 3 * vs.length + Th.wts ps ≤ _
         omega
        ·have := hk'.out; have := HNF.out; omega
        ·have h0 : Below W.heap.size W wr := HB1.out.trans (Below.mono hS.out HB1.out.size)
         exact ((h0.setCell (p := ⟨W.heap.size, 0, none⟩) (Nat.le_refl _) _).setCell (p := ⟨W.heap.size, 1, none⟩) (Nat.le_refl _) _).setCell (p := ⟨W.heap.size, 2, none⟩) (Nat.le_refl _) _
       clear KP KR HR hO hps
       by_cases e1 : g < p
       ·have j1 : (g : Int) < p := by omega
        by_cases e2 : 1 < d
        ·have j2 : (d : Int) > 1 := by omega
         have j3 : ¬ (k' : Int) < (zs.length : Int) := by have := fun h => hgo ⟨e1, e2, h⟩; omega
         clear hgo
         go_wp2
         exact bodyPost_ret (v := .tuple #[.agg #[.slice a1 n1 c1, .slice a2 n2 c2, .slice a3 n3 c3], .int .i64 k']) (by simp [results, Tryz.results57, go_sem, z0, z1, z2]) rfl hfin.out
        ·have j2 : ¬ (d : Int) > 1 := by omega
         clear hgo
         go_wp2
         exact bodyPost_ret (v := .tuple #[.agg #[.slice a1 n1 c1, .slice a2 n2 c2, .slice a3 n3 c3], .int .i64 k']) (by simp [results, Tryz.results57, go_sem, z0, z1, z2]) rfl hfin.out
       ·have j1 : ¬ (g : Int) < p := by omega
        clear hgo
        go_wp2
        exact bodyPost_ret (v := .tuple #[.agg #[.slice a1 n1 c1, .slice a2 n2 c2, .slice a3 n3 c3], .int .i64 k']) (by simp [results, Tryz.results57, go_sem, z0, z1, z2]) rfl hfin.out
theorem some_allT : ∀ d : Nat, d ≤ 10 → SomeKT d := by
 intro d
 induction d using Nat.strongRecOn with
 | _ d ih => intro hd; exact some_stepT d hd fun e he => ih e he (by omega)
end Go.Proofs.YtgnloodmbgdgdaaGreat
namespace Go.Proofs.YtgnloodmbgdgdaaGreat
open Go.RowKit Go.Shelf
set_option maxHeartbeats 2000000 in
set_option maxRecDepth 100000 in
theorem Some_anyT (zs : List Int) (d m : Nat) (sv : Value) (W : World) (hd : d ≤ 4) (hE : Els .i64 W sv zs) (hwf : Wfs zs) (hm : m ≤ 64) :
  Calls Tryz.prog 21 #[sv, .int .i64 m, .int .i64 d] W (ThOut (fun _ => False) (fun t => t.wf ∧ t.wt ≤ 10000 ∧ GdT m d t) W) := by
 obtain ⟨a0, c0, rfl⟩ := hE.shape
 obtain ⟨W1, hW1⟩ : ∃ W1, W1 = W.alloc (.cells #[.slice none 0 0, .slice none 0 0, .slice none 0 0] 41) := ⟨_, rfl⟩
 have hB1 : Below W.heap.size W W1 := by rw [hW1]; exact (Below.refl _ _).alloc (Nat.le_refl _) _
 have hR : BoxL W.heap.size [.slice none 0 0, .slice none 0 0, .slice none 0 0] W1 := by rw [hW1]; exact BoxL.made W _ _
 have hsz1 : W1.heap.size = W.heap.size + 1 := by rw [hW1, World.size_alloc]
 have hnn : nn d ≤ 121 := by
  match d, hd with
  | 0, _ => decide
  | 1, _ => decide
  | 2, _ => decide
  | 3, _ => decide
  | 4, _ => decide
 have k1 := some_allT d (by omega) zs 0 m _ W1 (hE.below hB1) hwf hm (by omega)
 have HN := Lib.hid hnn
 have K := Lib.hid k1
 have HR := Lib.hid hR
 have HB1 := Lib.hid hB1
 have HSZ := Lib.hid hsz1
 clear k1 hR hB1 hE hwf hnn hsz1
 go_enter Tryz.func21, Tryz.ntmps21
 go_upto_region 1 with (fail)
 rw [← hW1]
 clear hW1
 go_wp2_with fail
 refine K.out.mono ?_
 rintro e w2 ⟨t, ⟨a1, n1, c1, a2, n2, c2, a3, n3, c3⟩, k, rfl, hT, hw, hk, hB2⟩
 obtain ⟨w3, hw3⟩ : ∃ w3, w3 = w2.alloc (.cells #[.slice a1 n1 c1, .slice a2 n2 c2, .slice a3 n3 c3] 41) := ⟨_, rfl⟩
 have hS3 : Since W1 w3 := by rw [hw3]; exact Since.alloc hB2.out _
 have hX3 : BoxL w2.heap.size [.slice a1 n1 c1, .slice a2 n2 c2, .slice a3 n3 c3] w3 := by rw [hw3]; exact BoxL.made w2 _ _
 have hT3 : TSr (fun k => (W1.heap.size ≤ k) ∧ k < w3.heap.size) w3 t ⟨a1, n1, c1, a2, n2, c2, a3, n3, c3⟩ := by
  refine TS.keep (S' := fun k => W1.heap.size ≤ k) (w := w2) ?_ (fun k _ hk => hk.1) t hT.out
  rw [hw3]
  exact ⟨by simp, fun b _ hl => Below.heap_alloc _ _ _ hl⟩
 obtain ⟨z0, z1, z2, zf0, zf1, zf2, -⟩ := (HR.out.keep hS3).open3
 obtain ⟨x0, x1, x2, -, -, -, -⟩ := hX3.open3
 have hfin : Hid (ThOut (fun _ => False) (fun t => t.wf ∧ t.wt ≤ 10000 ∧ GdT m d t) W (.returned (.agg #[.slice a1 n1 c1, .slice a2 n2 c2, .slice a3 n3 c3])) (put3 w3 W.heap.size (.slice a1 n1 c1) (.slice a2 n2 c2) (.slice a3 n3 c3))) := by
  refine Lib.hid ⟨t, ⟨a1, n1, c1, a2, n2, c2, a3, n3, c3⟩, rfl, Lib.hid ?_, Lib.hid ⟨hw.out.1.1, by have := hw.out.1.2; have := HN.out; omega, hw.out.2⟩, Lib.hid ?_⟩
  ·exact TS.keep (put3_keep _ _ _ _ _ fun k hk => by have := HSZ.out; omega) (S' := fun k => False ∨ W.heap.size ≤ k) (fun b _ hb => .inr (by have := HSZ.out; omega)) _ hT3
  ·exact put3_below (HB1.out.trans (Below.mono hS3 HB1.out.size)) (Nat.le_refl _) _ _ _
 unfold put3 at hfin
 clear hT hw hk hB2 hS3 hX3 hT3 HR K
 go_upto_region 2 with (fail)
 rw [← hw3]
 generalize w2.heap.size = M at *
 clear hw3
 go_wp2
 exact bodyPost_ret (v := .agg #[.slice a1 n1 c1, .slice a2 n2 c2, .slice a3 n3 c3]) (by simp [results, Tryz.results21, go_sem, z0, z1, z2]) rfl hfin.out
end Go.Proofs.YtgnloodmbgdgdaaGreat
