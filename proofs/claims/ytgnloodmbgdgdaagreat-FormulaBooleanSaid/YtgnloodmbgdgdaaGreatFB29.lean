import Derived.Test.YtgnloodmbgdgdaaGreatFB28
import Derived.Test.YtgnloodmbgdgdaaGreatFB03
import Derived.Test.YtgnloodmbgdgdaaGreatFB14
import Derived.Test.YtgnloodmbgdgdaaGreatFB20
namespace Go.Proofs.YtgnloodmbgdgdaaGreat
open Go.RowKit Go.Shelf
theorem fiv_at {w : World} {b n c : Nat} {L : List Iv} {j : Nat} {x : Iv} (h : REls RIv w (.slice (some ⟨b, 0, none⟩) n c) L) (hx : L[j]? = some x) :
  w.cell? ⟨b, j * 8, none⟩ = some (.int .i64 x.a) ∧ w.cell? ⟨b, j * 8 + 1, none⟩ = some (.int .i64 x.b) ∧ w.cell? ⟨b, j * 8 + 2, none⟩ = some (.int .i64 x.c) ∧ w.cell? ⟨b, j * 8 + 3, none⟩ = some (.int .i64 x.d) ∧ w.cell? ⟨b, j * 8 + 4, none⟩ = some (.bool x.p) ∧ w.cell? ⟨b, j * 8 + 5, none⟩ = some (.bool x.q) ∧ w.cell? ⟨b, j * 8 + 6, none⟩ = some (.bool x.r) ∧ w.cell? ⟨b, j * 8 + 7, none⟩ = some (.bool x.s) := by
 have hn := h.len
 have hj : j < n := by rw [hn]; exact (List.getElem?_eq_some_iff.1 hx).1
 obtain ⟨b', e, hb, hc, hat⟩ := h.get hj
 cases e
 have g := fun i u hu => hat j x hx i u hu
 exact ⟨g 0 _ rfl, g 1 _ rfl, g 2 _ rfl, g 3 _ rfl, g 4 _ rfl, g 5 _ rfl, g 6 _ rfl, g 7 _ rfl⟩
set_option maxHeartbeats 4000000 in
set_option maxRecDepth 100000 in
theorem cfv_any (p : Iv → Iv → Int) (a : Option Addr) (n c : Nat) (b : Option Addr) (m d : Nat) (xs ys : List Iv) (w : World) (hx : REls RIv w (.slice a n c) xs) (hy : REls RIv w (.slice b m d) ys) (hn : n ≤ 100000000) (hm : m ≤ 100000000)
  (KC : Hid (∀ (x y : Iv) (W : World), Calls Tryz.prog 80 #[x.v, y.v] W fun e w' => e = .returned (.int .i64 (p x y)) ∧ Below W.heap.size W w')) :
  Calls Tryz.prog 79 #[.slice a n c, .slice b m d, .func (.func 80) #[] #[]] w fun e w' => e = .returned (.int .i64 (lenL p xs ys)) ∧ Below w.heap.size w w' := by
 have HX := Lib.hid hx
 have HY := Lib.hid hy
 have HXN := Lib.hid hx.len
 have HYN := Lib.hid hy.len
 have HS0 : Hid (Since w w) := Lib.hid (Below.refl _ _)
 unfold lenL
 rw [← HXN.out, ← HYN.out]
 have KN := Lib.hid (cmpc_any (n : Int) (m : Int) w)
 have h0 := cmpI_zero (a := (n : Int)) (b := (m : Int))
 clear hx hy
 by_cases hnm : n = m
 ·subst hnm
  have hz : cmpI (n : Int) (n : Int) = 0 := h0.2 rfl
  rw [hz] at KN
  rw [hz, if_pos rfl]
  have hst : zipL p (xs.drop 0) (ys.drop 0) = zipL p xs ys := rfl
  generalize zipL p xs ys = R at *
  have HST := Lib.hid hst
  clear hst hz h0
  go_enter Tryz.func79, Tryz.ntmps79
  go_wp2_with fail
  refine KN.out.mono ?_
  rintro e w2 ⟨rfl, rfl⟩
  go_wp2
  go_loopw [20] (fun x wr => ∃ k : Nat, k ≤ n ∧ x = .int .i64 k ∧ Hid (zipL p (xs.drop k) (ys.drop k) = R) ∧ Hid (Since w wr)) (fun x _ => n - (intOf x).toNat)
  case atStart => exact ⟨0, by omega, rfl, HST, HS0⟩
  case round =>
   obtain ⟨k, hk, rfl, hV, hS⟩ := hrel
   by_cases hlt : k < n
   ·have i1 : (k : Int) < n := by omega
    have i0 : (0 : Int) ≤ (k : Int) := by omega
    have hx9 := REls.below hS.out HX.out
    have hy9 := REls.below hS.out HY.out
    obtain ⟨g1, rfl, -⟩ := hx9.get hlt
    obtain ⟨g2, rfl, -⟩ := hy9.get hlt
    obtain ⟨x, hx⟩ : ∃ x, xs[k]? = some x := ⟨_, List.getElem?_eq_getElem (by have := HXN.out; omega)⟩
    obtain ⟨y, hy⟩ : ∃ y, ys[k]? = some y := ⟨_, List.getElem?_eq_getElem (by have := HYN.out; omega)⟩
    obtain ⟨p0, p1, p2, p3, p4, p5, p6, p7⟩ := fiv_at hx9 hx
    obtain ⟨q0, q1, q2, q3, q4, q5, q6, q7⟩ := fiv_at hy9 hy
    have hstep := zipL_step p hx hy
    have hSd : Since wr wr.drew := since_d (since_r _)
    have KQ := Lib.hid (KC.out x y wr.drew)
    generalize p x y = v at *
    obtain ⟨x1, x2, x3, x4, x5, x6, x7, x8⟩ := x
    obtain ⟨y1, y2, y3, y4, y5, y6, y7, y8⟩ := y
    simp only [Iv.v] at KQ p0 p1 p2 p3 p4 p5 p6 p7 q0 q1 q2 q3 q4 q5 q6 q7
    rw [hV.out] at hstep
    clear hx9 hy9
    by_cases hv : v = 0
    ·subst hv
     rw [if_pos rfl] at hstep
     have HV := Lib.hid hstep.symm
     clear hstep hx hy hV
     go_wp2_with fail
     go_region_held3 (fun w' => w'.cell? ⟨g1, k * 8, none⟩ = some (.int .i64 x1) ∧ w'.cell? ⟨g1, k * 8 + 1, none⟩ = some (.int .i64 x2) ∧ w'.cell? ⟨g1, k * 8 + 2, none⟩ = some (.int .i64 x3) ∧ w'.cell? ⟨g1, k * 8 + 3, none⟩ = some (.int .i64 x4) ∧ w'.cell? ⟨g1, k * 8 + 4, none⟩ = some (.bool x5) ∧ w'.cell? ⟨g1, k * 8 + 5, none⟩ = some (.bool x6) ∧ w'.cell? ⟨g1, k * 8 + 6, none⟩ = some (.bool x7) ∧ w'.cell? ⟨g1, k * 8 + 7, none⟩ = some (.bool x8) ∧ w'.cell? ⟨g2, k * 8, none⟩ = some (.int .i64 y1) ∧ w'.cell? ⟨g2, k * 8 + 1, none⟩ = some (.int .i64 y2) ∧ w'.cell? ⟨g2, k * 8 + 2, none⟩ = some (.int .i64 y3) ∧ w'.cell? ⟨g2, k * 8 + 3, none⟩ = some (.int .i64 y4) ∧ w'.cell? ⟨g2, k * 8 + 4, none⟩ = some (.bool y5) ∧ w'.cell? ⟨g2, k * 8 + 5, none⟩ = some (.bool y6) ∧ w'.cell? ⟨g2, k * 8 + 6, none⟩ = some (.bool y7) ∧ w'.cell? ⟨g2, k * 8 + 7, none⟩ = some (.bool y8) ∧ Since wr w')
      ((with_reducible refine ⟨Since.cell ?_ p0, Since.cell ?_ p1, Since.cell ?_ p2, Since.cell ?_ p3, Since.cell ?_ p4, Since.cell ?_ p5, Since.cell ?_ p6, Since.cell ?_ p7, Since.cell ?_ q0, Since.cell ?_ q1, Since.cell ?_ q2, Since.cell ?_ q3, Since.cell ?_ q4, Since.cell ?_ q5, Since.cell ?_ q6, Since.cell ?_ q7, ?_⟩) <;> (repeat (first | with_reducible assumption | with_reducible exact since_r _ | with_reducible refine Since.alloc ?_ _ | with_reducible refine since_d ?_)))
      ((go_at_call 80; refine KQ.out.mono ?_; rintro e w' ⟨rfl, hr⟩; have hB4 : Since wr w' := Since.step hSd hr))
     have HB4 := Lib.hid (Since.step hS.out hB4)
     clear hB4 hr hSd p0 p1 p2 p3 p4 p5 p6 p7 q0 q1 q2 q3 q4 q5 q6 q7
     go_wp2
     go_roundw
     case rel => exact ⟨k + 1, by omega, by go_num, HV, HB4⟩
     case measure => simp [intOf]; omega
    ·rw [if_neg hv] at hstep
     have HV := Lib.hid hstep
     have hv2 : (v != 0) = true := bne_iff_ne.2 hv
     clear hstep hx hy hV hv
     go_wp2_with fail
     go_region_held3 (fun w' => w'.cell? ⟨g1, k * 8, none⟩ = some (.int .i64 x1) ∧ w'.cell? ⟨g1, k * 8 + 1, none⟩ = some (.int .i64 x2) ∧ w'.cell? ⟨g1, k * 8 + 2, none⟩ = some (.int .i64 x3) ∧ w'.cell? ⟨g1, k * 8 + 3, none⟩ = some (.int .i64 x4) ∧ w'.cell? ⟨g1, k * 8 + 4, none⟩ = some (.bool x5) ∧ w'.cell? ⟨g1, k * 8 + 5, none⟩ = some (.bool x6) ∧ w'.cell? ⟨g1, k * 8 + 6, none⟩ = some (.bool x7) ∧ w'.cell? ⟨g1, k * 8 + 7, none⟩ = some (.bool x8) ∧ w'.cell? ⟨g2, k * 8, none⟩ = some (.int .i64 y1) ∧ w'.cell? ⟨g2, k * 8 + 1, none⟩ = some (.int .i64 y2) ∧ w'.cell? ⟨g2, k * 8 + 2, none⟩ = some (.int .i64 y3) ∧ w'.cell? ⟨g2, k * 8 + 3, none⟩ = some (.int .i64 y4) ∧ w'.cell? ⟨g2, k * 8 + 4, none⟩ = some (.bool y5) ∧ w'.cell? ⟨g2, k * 8 + 5, none⟩ = some (.bool y6) ∧ w'.cell? ⟨g2, k * 8 + 6, none⟩ = some (.bool y7) ∧ w'.cell? ⟨g2, k * 8 + 7, none⟩ = some (.bool y8) ∧ Since wr w')
      ((with_reducible refine ⟨Since.cell ?_ p0, Since.cell ?_ p1, Since.cell ?_ p2, Since.cell ?_ p3, Since.cell ?_ p4, Since.cell ?_ p5, Since.cell ?_ p6, Since.cell ?_ p7, Since.cell ?_ q0, Since.cell ?_ q1, Since.cell ?_ q2, Since.cell ?_ q3, Since.cell ?_ q4, Since.cell ?_ q5, Since.cell ?_ q6, Since.cell ?_ q7, ?_⟩) <;> (repeat (first | with_reducible assumption | with_reducible exact since_r _ | with_reducible refine Since.alloc ?_ _ | with_reducible refine since_d ?_)))
      ((go_at_call 80; refine KQ.out.mono ?_; rintro e w' ⟨rfl, hr⟩; have hB4 : Since wr w' := Since.step hSd hr))
     have HB4 := Lib.hid (Since.step hS.out hB4)
     clear hB4 hr hSd p0 p1 p2 p3 p4 p5 p6 p7 q0 q1 q2 q3 q4 q5 q6 q7
     go_wp2
     go_ret
     exact ⟨fret_int HV.out.symm, HB4.out⟩
   ·have i1 : ¬ (k : Int) < n := by omega
    have hend := zipL_stop p (la := xs) (bs := ys) (k := k) (by have := HXN.out; omega)
    rw [hV.out] at hend
    have HV := Lib.hid hend
    clear hend hV
    go_wp2
    go_ret
    exact ⟨fret_int HV.out.symm, hS.out⟩
 ·have hz : cmpI (n : Int) (m : Int) ≠ 0 := fun h => hnm (by have := h0.1 h; omega)
  rw [if_neg hz]
  generalize cmpI (n : Int) (m : Int) = v at *
  have hv2 : (v != 0) = true := bne_iff_ne.2 hz
  clear h0 hz hnm
  go_enter Tryz.func79, Tryz.ntmps79
  go_wp2_with fail
  refine KN.out.mono ?_
  rintro e w2 ⟨rfl, rfl⟩
  go_wp2
  go_ret
  exact ⟨rfl, HS0.out⟩
end Go.Proofs.YtgnloodmbgdgdaaGreat
namespace Go.Proofs.YtgnloodmbgdgdaaGreat
open Go.RowKit Go.Shelf
mutual
def Fo.cmp (q : Iv → Iv → Int) : Fo → Fo → Int
 | .mk op n is ks, .mk op' n' is' ks' =>
  if firstNZ [cmpI op op', cmpI n n'] = 0 then
   if lenL q is is' = 0 then
    if cmpI ks.length ks'.length = 0 then Fo.cmps q ks ks' else cmpI ks.length ks'.length
   else lenL q is is'
  else firstNZ [cmpI op op', cmpI n n']
def Fo.cmps (q : Iv → Iv → Int) : List Fo → List Fo → Int
 | [], _ => 0
 | _ :: _, [] => 0
 | k :: ks, k' :: ks' => if Fo.cmp q k k' = 0 then Fo.cmps q ks ks' else Fo.cmp q k k'
end
theorem Fo.cmps_zip (q : Iv → Iv → Int) : ∀ ks ks' : List Fo, zipL (Fo.cmp q) ks ks' = Fo.cmps q ks ks'
 | [], ks' => by rw [Fo.cmps]; unfold zipL; rfl
 | k :: ks, [] => by rw [Fo.cmps]; rfl
 | k :: ks, k' :: ks' => by rw [Fo.cmps, zipL, Fo.cmps_zip q ks ks']
theorem Fo.cmp_eq (q : Iv → Iv → Int) (f g : Fo) : f.cmp q g =
  if firstNZ [cmpI f.op g.op, cmpI f.n g.n] = 0 then if lenL q f.is g.is = 0 then lenL (Fo.cmp q) f.ks g.ks else lenL q f.is g.is else firstNZ [cmpI f.op g.op, cmpI f.n g.n] := by
 obtain ⟨op, n, is, ks⟩ := f
 obtain ⟨op', n', is', ks'⟩ := g
 rw [Fo.cmp]
 simp only [Fo.op, Fo.n, Fo.is, Fo.ks]
 rw [show lenL (Fo.cmp q) ks ks' = if cmpI ks.length ks'.length = 0 then Fo.cmps q ks ks' else cmpI ks.length ks'.length from by unfold lenL; rw [Fo.cmps_zip]]
 rfl
end Go.Proofs.YtgnloodmbgdgdaaGreat
namespace Go.Proofs.YtgnloodmbgdgdaaGreat
open Go.RowKit Go.Shelf
def CmpVK (q : Iv → Iv → Int) : Prop := ∀ (x y : Iv) (W : World), Calls Tryz.prog 80 #[x.v, y.v] W fun e w' => e = .returned (.int .i64 (q x y)) ∧ Below W.heap.size W w'
def CmpFK (q : Iv → Iv → Int) (m : Nat) : Prop := ∀ (f g : Fo), f.size ≤ m → g.size ≤ 1000000 → f.wf → g.wf → ∀ (c d c' d' : Value) (W : World), FAt W.heap.size W f c d → FAt W.heap.size W g c' d' →
 Calls Tryz.prog 42 #[.agg #[.int .i64 f.op, .int .i64 f.n, c, d], .agg #[.int .i64 g.op, .int .i64 g.n, c', d']] W fun e w' => e = .returned (.int .i64 (f.cmp q g)) ∧ Below W.heap.size W w'
set_option maxHeartbeats 4000000 in
set_option maxRecDepth 100000 in
theorem cmpF_step (q : Iv → Iv → Int) (KV : Hid (CmpVK q)) {m : Nat} (hm : m ≤ 1000000) (K : Hid (CmpFK q m)) : CmpFK q (m + 1) := by
 intro f g hfs hgs hfw hgw c d c' d' w hF hG
 have hff := (Fo.wf_eq f).1 hfw
 have hgg := (Fo.wf_eq g).1 hgw
 have hs1 := f.size_eq
 have hs2 := g.size_eq
 have hl1 := Fo.sizes_len f.ks
 have hl2 := Fo.sizes_len g.ks
 obtain ⟨W1, hW1⟩ : ∃ W1, W1 = w.alloc (.cells #[.int .i64 f.op, .int .i64 f.n, c, d] 29) := ⟨_, rfl⟩
 have hS1 : Since w W1 := by rw [hW1]; exact Since.alloc (since_r _) _
 have hz1 : W1.heap.size = w.heap.size + 1 := by rw [hW1, World.size_alloc]
 have hX1 : BoxL w.heap.size [.int .i64 f.op, .int .i64 f.n, c, d] W1 := by rw [hW1]; exact BoxL.made w _ _
 obtain ⟨W2, hW2⟩ : ∃ W2, W2 = W1.alloc (.cells #[.int .i64 g.op, .int .i64 g.n, c', d'] 29) := ⟨_, rfl⟩
 have hS2 : Since W1 W2 := by rw [hW2]; exact Since.alloc (since_r _) _
 have hX := hX1.keep hS2
 have hY : BoxL (w.heap.size + 1) [.int .i64 g.op, .int .i64 g.n, c', d'] W2 := by rw [hW2, ← hz1]; exact BoxL.made W1 _ _
 have hS := Since.step hS1 hS2
 have hF2 := FAt.below hS hF
 have hG2 := FAt.below hS hG
 obtain ⟨a1, c1, a2, c2, rfl, rfl, hI1, hK1, -⟩ := hF2.shape
 obtain ⟨a3, c3, a4, c4, rfl, rfl, hI2, hK2, -⟩ := hG2.shape
 have KL := Lib.hid fun W (hs : Since W2 W) => cfv_any q _ _ _ _ _ _ f.is g.is W (REls.below hs hI1) (REls.below hs hI2) (by omega) (by omega) KV
 have KK := Lib.hid fun W (hs : Since W2 W) => cff_any (Fo.cmp q) _ _ _ _ _ _ f.ks g.ks W (Fs.below hs hK1) (Fs.below hs hK2) (by omega) (by omega) (Lib.hid fun x hx y hy c d c' d' W hTx hTy => K.out x y (by have := Fo.sizes_mem hx; omega) (by have := Fo.sizes_mem hy; omega) (hff.2 x hx) (hgg.2 y hy) c d c' d' W hTx hTy)
 have KC := Lib.hid fun (x y : Int) W => cmpc_any x y W
 have KO : Hid (∀ (W : World) (T : TypeId), Calls Tryz.prog 77 #[.slice (some ⟨W.heap.size, 0, none⟩) 2 2] (W.alloc (.cells #[.int .i64 (cmpI f.op g.op), .int .i64 (cmpI f.n g.n)] T)).drew fun e w' => e = .returned (.int .i64 (firstNZ [cmpI f.op g.op, cmpI f.n g.n])) ∧ (W.alloc (.cells #[.int .i64 (cmpI f.op g.op), .int .i64 (cmpI f.n g.n)] T)).drew = w') := Lib.hid fun W T => or_any _ _ _ [cmpI f.op g.op, cmpI f.n g.n] _ (Els.below (since_d (since_r _)) (Els.new .i64 W T [cmpI f.op g.op, cmpI f.n g.n])) (by simp)
 rw [Fo.cmp_eq]
 generalize firstNZ [cmpI f.op g.op, cmpI f.n g.n] = u1 at *
 generalize lenL q f.is g.is = u2 at *
 generalize lenL (Fo.cmp q) f.ks g.ks = u3 at *
 generalize f.is.length = l1 at *
 generalize f.ks.length = l2 at *
 generalize g.is.length = l3 at *
 generalize g.ks.length = l4 at *
 generalize f.op = o1 at *
 generalize f.n = o2 at *
 generalize g.op = o3 at *
 generalize g.n = o4 at *
 have HX := Lib.hid hX
 have HY := Lib.hid hY
 have HS := Lib.hid hS
 obtain ⟨x0, x1, x2, x3, -⟩ := hX.open4
 obtain ⟨y0, y1, y2, y3, -⟩ := hY.open4
 have hSd : Since W2 W2.drew := since_d (since_r _)
 have hR : Hid (∀ R : Int, R = (if u1 = 0 then if u2 = 0 then u3 else u2 else u1) → (u1 ≠ 0 → R = u1) ∧ (u1 = 0 → u2 ≠ 0 → R = u2) ∧ (u1 = 0 → u2 = 0 → R = u3)) := Lib.hid fun R h => by
  subst h
  exact ⟨fun h => if_neg h, fun h1 h2 => by rw [if_pos h1, if_neg h2], fun h1 h2 => by rw [if_pos h1, if_pos h2]⟩
 obtain ⟨R, hRe⟩ : ∃ R, R = (if u1 = 0 then if u2 = 0 then u3 else u2 else u1) := ⟨_, rfl⟩
 have HR := Lib.hid (hR.out R hRe)
 rw [← hRe]
 clear hR hRe hX1 hX hY hS1 hS2 hS hz1 hF2 hG2 hF hG hI1 hI2 hK1 hK2 hff hgg hs1 hs2 hl1 hl2 hfs hgs hfw hgw K KV hm
 go_enter Tryz.func42, Tryz.ntmps42
 go_upto_region 1 with (fail)
 rw [← hW1, ← hW2]
 clear hW1 hW2
 go_region_held3 (fun w' => w'.cell? ⟨w.heap.size, 0, none⟩ = some (.int .i64 o1) ∧ w'.cell? ⟨w.heap.size, 1, none⟩ = some (.int .i64 o2) ∧ w'.cell? ⟨w.heap.size + 1, 0, none⟩ = some (.int .i64 o3) ∧ w'.cell? ⟨w.heap.size + 1, 1, none⟩ = some (.int .i64 o4) ∧ Since W2 w')
  ((with_reducible refine ⟨Since.cell ?_ x0, Since.cell ?_ x1, Since.cell ?_ y0, Since.cell ?_ y1, ?_⟩) <;> (repeat (first | with_reducible assumption | with_reducible exact since_r _ | with_reducible refine Since.alloc ?_ _ | with_reducible refine since_d ?_)))
  ((first
   | (go_at_call 78; refine (KC.out _ _ _).mono ?_; rintro e w' ⟨rfl, rfl⟩)
   | (go_at_call 77; refine (KO.out _ _).mono ?_; rintro e w' ⟨rfl, rfl⟩)))
 have hS3 : Since W2 (W2.alloc (.cells #[.int .i64 (cmpI o1 o3), .int .i64 (cmpI o2 o4)] 3)).drew := since_d (Since.alloc (since_r _) _)
 clear x0 x1 x2 x3 y0 y1 y2 y3 hSd
 obtain ⟨x0, x1, x2, x3, -⟩ := (HX.out.keep hS3).open4
 obtain ⟨y0, y1, y2, y3, -⟩ := (HY.out.keep hS3).open4
 have HB3 := Lib.hid (Since.step HS.out hS3)
 have KL3 := Lib.hid (KL.out _ hS3)
 have KK3 := Lib.hid fun W hs => KK.out W (Since.step hS3 hs)
 have HX3 := Lib.hid (HX.out.keep hS3)
 have HY3 := Lib.hid (HY.out.keep hS3)
 clear hS3 KL KK HX HY
 generalize (W2.alloc (.cells #[.int .i64 (cmpI o1 o3), .int .i64 (cmpI o2 o4)] 3)).drew = W3 at *
 by_cases h1 : u1 = 0
 ·subst h1
  go_wp2_with fail
  refine KL3.out.mono ?_
  clear x0 x1 x2 x3 y0 y1 y2 y3
  rintro e w4 ⟨rfl, hr⟩
  obtain ⟨x0, x1, x2, x3, -⟩ := (HX3.out.keep hr).open4
  obtain ⟨y0, y1, y2, y3, -⟩ := (HY3.out.keep hr).open4
  have HB4 := Lib.hid (Since.step HB3.out hr)
  have KK4 := Lib.hid (KK3.out _ hr)
  clear hr KK3
  by_cases h2 : u2 = 0
  ·subst h2
   have hv := HR.out.2.2 (by trivial) (by trivial)
   have HV := Lib.hid hv
   clear hv HR
   go_wp2_with fail
   refine KK4.out.mono ?_
   clear x0 x1 x2 x3 y0 y1 y2 y3
   rintro e w5 ⟨rfl, hr⟩
   have HB5 := Lib.hid (Since.step HB4.out hr)
   clear hr
   go_wp2
   go_ret
   exact ⟨fret_int HV.out.symm, HB5.out⟩
  ·have hv2 : (u2 != 0) = true := bne_iff_ne.2 h2
   have HV := Lib.hid (HR.out.2.1 (by trivial) h2)
   clear HR h2
   go_wp2
   go_ret
   exact ⟨fret_int HV.out.symm, HB4.out⟩
 ·have hv2 : (u1 != 0) = true := bne_iff_ne.2 h1
  have HV := Lib.hid (HR.out.1 h1)
  clear HR h1
  go_wp2
  go_ret
  exact ⟨fret_int HV.out.symm, HB3.out⟩
theorem cmpF_all (q : Iv → Iv → Int) (KV : Hid (CmpVK q)) : ∀ m : Nat, m ≤ 1000000 → CmpFK q m
 | 0, _ => fun f g hf => by
  have := f.size_pos
  omega
 | m + 1, h => cmpF_step q KV (by omega) (Lib.hid (cmpF_all q KV m (by omega)))
end Go.Proofs.YtgnloodmbgdgdaaGreat
namespace Go.Proofs.YtgnloodmbgdgdaaGreat
open Go.RowKit Go.Shelf
theorem zip_lex {α : Type} (c : α → α → Int) : ∀ (la bs : List α), la.length = bs.length → zipL c la bs = lexL c la bs
 | [], [], _ => by unfold zipL; rfl
 | [], _ :: _, h => by simp at h
 | _ :: _, [], h => by simp at h
 | a :: la, b :: bs, h => by
  rw [zipL, lexL, zip_lex c la bs (by simpa using h)]
theorem lenL_lex {α : Type} (c : α → α → Int) (la bs : List α) : lenL c la bs = if cmpI la.length bs.length = 0 then lexL c la bs else cmpI la.length bs.length := by
 unfold lenL
 by_cases h : cmpI (la.length : Int) bs.length = 0
 ·rw [if_pos h, if_pos h]
  have := cmpI_zero.1 h
  exact zip_lex c la bs (by omega)
 ·rw [if_neg h, if_neg h]
theorem lenL_range {α : Type} {c : α → α → Int} (la bs : List α) (h : ∀ a ∈ la, ∀ b ∈ bs, -1 ≤ c a b ∧ c a b ≤ 1) : -1 ≤ lenL c la bs ∧ lenL c la bs ≤ 1 := by
 rw [lenL_lex]
 split
 ·exact lexL_range la bs h
 ·exact cmpI_range _ _
theorem lenL_anti {α : Type} {c : α → α → Int} (la bs : List α) (h : ∀ a ∈ la, ∀ b ∈ bs, c b a = - c a b) : lenL c bs la = - lenL c la bs := by
 rw [lenL_lex, lenL_lex, lexL_anti la bs h, cmpI_anti (la.length : Int) bs.length]
 by_cases h0 : cmpI (la.length : Int) bs.length = 0
 ·rw [if_pos (by omega), if_pos h0]
 ·rw [if_neg (by omega), if_neg h0]
theorem lenL_zero {α : Type} {c : α → α → Int} (la bs : List α) (h : ∀ a ∈ la, ∀ b ∈ bs, c a b = 0 → a = b) (h0 : lenL c la bs = 0) : la = bs := by
 rw [lenL_lex] at h0
 by_cases h1 : cmpI (la.length : Int) bs.length = 0
 ·rw [if_pos h1] at h0
  exact lexL_zero la bs h h0
 ·rw [if_neg h1] at h0
  exact absurd h0 h1
theorem lenL_self {α : Type} {c : α → α → Int} (la : List α) (h : ∀ a ∈ la, c a a = 0) : lenL c la la = 0 := by
 rw [lenL_lex, if_pos (cmpI_self _)]
 exact lexL_self la h
theorem lenL_trans {α : Type} {c : α → α → Int} (la bs cs : List α) (hz : ∀ a ∈ la, ∀ b ∈ bs, c a b = 0 → a = b) (hz2 : ∀ b ∈ bs, ∀ d ∈ cs, c b d = 0 → b = d) (ht : ∀ a ∈ la, ∀ b ∈ bs, ∀ d ∈ cs, c a b ≤ 0 → c b d ≤ 0 → c a d ≤ 0)
  (he : ∀ a ∈ la, ∀ d ∈ cs, c a d = 0 → ∀ b ∈ bs, c a b ≤ 0 → c b d ≤ 0 → c a b = 0) (h1 : lenL c la bs ≤ 0) (h2 : lenL c bs cs ≤ 0) : lenL c la cs ≤ 0 := by
 rw [lenL_lex] at h1 h2 ⊢
 exact two_trans cmpI_ord (d := fun x y : List α => lexL c x y) (b1 := la) (b2 := bs) (b3 := cs) (fun g1 g2 => lexL_trans la bs cs hz hz2 ht he g1 g2) h1 h2
theorem IsOrd.len {α : Type} {c : α → α → Int} (h : IsOrd c) : IsOrd (lenL c) where
 range la bs := lenL_range la bs fun a _ b _ => h.range a b
 anti la bs := lenL_anti la bs fun a _ b _ => h.anti a b
 zero la bs := lenL_zero la bs fun a _ b _ => h.zero a b
 self la := lenL_self la fun a _ => h.self a
 trans la bs cs := lenL_trans la bs cs (fun a _ b _ => h.zero a b) (fun a _ b _ => h.zero a b) (fun a _ b _ d _ => h.trans a b d) (fun a _ d _ e b _ h1 h2 => by
  obtain rfl := h.zero a d e
  have := h.anti a b
  omega)
theorem bitI_inj {a b : Bool} (h : bitI a = bitI b) : a = b := by
 cases a <;> cases b <;> simp [bitI] at h ⊢
theorem rank_inj {x y : Iv} (h : x.rank = y.rank) : x = y := by
 obtain ⟨a, b, c, d, p, q, r, s⟩ := x
 obtain ⟨a', b', c', d', p', q', r', s'⟩ := y
 simp only [Iv.rank, List.cons.injEq] at h
 obtain ⟨h1, h2, rfl, rfl, h3, h4, rfl, rfl, _⟩ := h
 rw [bitI_inj h1, bitI_inj h2, bitI_inj h3, bitI_inj h4]
def Iv.cmp (x y : Iv) : Int := lenL cmpI x.rank y.rank
theorem Iv.ord : IsOrd Iv.cmp where
 range _ _ := cmpI_ord.len.range _ _
 anti _ _ := cmpI_ord.len.anti _ _
 zero _ _ h := rank_inj (cmpI_ord.len.zero _ _ h)
 self _ := cmpI_ord.len.self _
 trans _ _ _ := cmpI_ord.len.trans _ _ _
def fcmp (f g : Fo) : Int := Fo.cmp Iv.cmp f g
theorem fcmp_eq (f g : Fo) : fcmp f g = if lexL cmpI [f.op, f.n] [g.op, g.n] = 0 then (if lenL Iv.cmp f.is g.is = 0 then lenL fcmp f.ks g.ks else lenL Iv.cmp f.is g.is) else lexL cmpI [f.op, f.n] [g.op, g.n] := by
 have e : firstNZ [cmpI f.op g.op, cmpI f.n g.n] = lexL cmpI [f.op, f.n] [g.op, g.n] := by
  simp only [firstNZ, lexL]
 have e2 : Fo.cmp Iv.cmp = fcmp := rfl
 show Fo.cmp Iv.cmp f g = _
 rw [Fo.cmp_eq, e, e2]
theorem fcmp_range : ∀ (m : Nat) (a : Fo), a.size ≤ m → ∀ b, -1 ≤ fcmp a b ∧ fcmp a b ≤ 1 := by
 intro m
 induction m with
 | zero => intro a h; have := a.size_pos; omega
 | succ m ih =>
  intro a h b
  rw [fcmp_eq]
  have hs := a.size_eq
  split
  ·split
   ·exact lenL_range _ _ fun x hx y _ => ih x (by have := Fo.sizes_mem hx; omega) y
   ·exact Iv.ord.len.range _ _
  ·exact cmpI_ord.lex.range _ _
theorem fcmp_anti : ∀ (m : Nat) (a : Fo), a.size ≤ m → ∀ b, fcmp b a = - fcmp a b := by
 intro m
 induction m with
 | zero => intro a h; have := a.size_pos; omega
 | succ m ih =>
  intro a h b
  have hs := a.size_eq
  rw [fcmp_eq, fcmp_eq a b, cmpI_ord.lex.anti [a.op, a.n] [b.op, b.n], Iv.ord.len.anti a.is b.is, lenL_anti a.ks b.ks fun x hx y _ => ih x (by have := Fo.sizes_mem hx; omega) y]
  by_cases h1 : lexL cmpI [a.op, a.n] [b.op, b.n] = 0
  ·rw [if_pos (by omega), if_pos h1]
   by_cases h2 : lenL Iv.cmp a.is b.is = 0
   ·rw [if_pos (by omega), if_pos h2]
   ·rw [if_neg (by omega), if_neg h2]
  ·rw [if_neg (by omega), if_neg h1]
theorem fcmp_zero : ∀ (m : Nat) (a : Fo), a.size ≤ m → ∀ b, fcmp a b = 0 → a = b := by
 intro m
 induction m with
 | zero => intro a h; have := a.size_pos; omega
 | succ m ih =>
  intro a h b h0
  have hs := a.size_eq
  rw [fcmp_eq] at h0
  by_cases h1 : lexL cmpI [a.op, a.n] [b.op, b.n] = 0
  ·rw [if_pos h1] at h0
   by_cases h2 : lenL Iv.cmp a.is b.is = 0
   ·rw [if_pos h2] at h0
    have e1 := cmpI_ord.lex.zero _ _ h1
    have e2 := Iv.ord.len.zero _ _ h2
    have e3 := lenL_zero a.ks b.ks (fun x hx y _ => ih x (by have := Fo.sizes_mem hx; omega) y) h0
    cases a; cases b
    simp only [Fo.op, Fo.n, Fo.is, Fo.ks, List.cons.injEq, and_true] at e1 e2 e3
    rw [e1.1, e1.2, e2, e3]
   ·rw [if_neg h2] at h0; exact absurd h0 h2
  ·rw [if_neg h1] at h0; exact absurd h0 h1
theorem fcmp_self : ∀ (m : Nat) (a : Fo), a.size ≤ m → fcmp a a = 0 := by
 intro m
 induction m with
 | zero => intro a h; have := a.size_pos; omega
 | succ m ih =>
  intro a h
  have hs := a.size_eq
  rw [fcmp_eq, if_pos (cmpI_ord.lex.self _), if_pos (Iv.ord.len.self _)]
  exact lenL_self a.ks fun x hx => ih x (by have := Fo.sizes_mem hx; omega)
theorem fcmp_trans : ∀ (m : Nat) (a : Fo), a.size ≤ m → ∀ b d, fcmp a b ≤ 0 → fcmp b d ≤ 0 → fcmp a d ≤ 0 := by
 intro m
 induction m with
 | zero => intro a h; have := a.size_pos; omega
 | succ m ih =>
  intro a h b d h1 h2
  have hs := a.size_eq
  rw [fcmp_eq] at h1 h2 ⊢
  refine two_trans cmpI_ord.lex (d := fun (x y : Fo) => if lenL Iv.cmp x.is y.is = 0 then lenL fcmp x.ks y.ks else lenL Iv.cmp x.is y.is) (b1 := a) (b2 := b) (b3 := d) (fun g1 g2 => ?_) h1 h2
  refine two_trans Iv.ord.len (d := fun (x y : Fo) => lenL fcmp x.ks y.ks) (b1 := a) (b2 := b) (b3 := d) (fun g1 g2 => ?_) g1 g2
  refine lenL_trans _ _ _ (fun x _ y _ => fcmp_zero _ x (Nat.le_refl _) y) (fun x _ y _ => fcmp_zero _ x (Nat.le_refl _) y) (fun x hx y _ z _ => ih x (by have := Fo.sizes_mem hx; omega) y z) (fun x _ z _ e y _ k1 k2 => ?_) g1 g2
  obtain rfl := fcmp_zero _ x (Nat.le_refl _) z e
  have := fcmp_anti _ x (Nat.le_refl _) y
  omega
theorem fcmp_ord : IsOrd fcmp where
 range a := fcmp_range _ a (Nat.le_refl _)
 anti a := fcmp_anti _ a (Nat.le_refl _)
 zero a := fcmp_zero _ a (Nat.le_refl _)
 self a := fcmp_self _ a (Nat.le_refl _)
 trans a := fcmp_trans _ a (Nat.le_refl _)
theorem IsOrd.lt_trans {α : Type} {c : α → α → Int} (h : IsOrd c) {x y z : α} (h1 : c x y < 0) (h2 : c y z < 0) : c x z < 0 := by
 have h3 := h.trans _ _ _ (by omega : c x y ≤ 0) (by omega : c y z ≤ 0)
 by_cases e : c x z = 0
 ·have e2 := h.zero _ _ e
  have e3 := h.anti x y
  rw [e2] at e3 h1
  omega
 ·omega
theorem IsOrd.eq_iff {α : Type} {c : α → α → Int} (h : IsOrd c) {x y : α} : c x y = 0 ↔ x = y := ⟨h.zero x y, fun e => by rw [e]; exact h.self y⟩
def putO {α : Type} (c : α → α → Int) (p : α) : List α → List α
 | [] => [p]
 | x :: l => if c x p < 0 then x :: putO c p l else if c x p = 0 then x :: l else p :: x :: l
theorem putO_mem {α : Type} {c : α → α → Int} (h : IsOrd c) (p : α) : ∀ (l : List α) (x : α), x ∈ putO c p l ↔ x = p ∨ x ∈ l
 | [], x => by simp [putO]
 | y :: l, x => by
  rw [putO]
  split
  ·rw [List.mem_cons, putO_mem h p l x, List.mem_cons]
   constructor <;> intro h <;> rcases h with h | h | h <;> simp [h]
  ·split
   ·next e => have := h.zero _ _ e; subst this; simp
   ·simp
theorem putO_asc {α : Type} {c : α → α → Int} (h : IsOrd c) (p : α) : ∀ l : List α, (l.Pairwise fun x y => c x y < 0) → (putO c p l).Pairwise fun x y => c x y < 0
 | [], _ => by simp [putO]
 | y :: l, hp => by
  rw [putO]
  have h2 := List.pairwise_cons.1 hp
  split
  ·next hy =>
   refine List.pairwise_cons.2 ⟨fun z hz => ?_, putO_asc h p l h2.2⟩
   rcases (putO_mem h p l z).1 hz with e | e
   ·rw [e]; exact hy
   ·exact h2.1 z e
  ·split
   ·exact hp
   ·next h3 h4 =>
    have hpy : c p y < 0 := by have := h.anti y p; omega
    refine List.pairwise_cons.2 ⟨fun z hz => ?_, hp⟩
    rcases List.mem_cons.1 hz with e | e
    ·rw [e]; exact hpy
    ·exact h.lt_trans hpy (h2.1 z e)
def ascO {α : Type} (c : α → α → Int) (cs : List α) : List α := cs.foldl (fun a n => putO c n a) []
theorem ascO_acc {α : Type} {c : α → α → Int} (h : IsOrd c) : ∀ (cs a : List α), (a.Pairwise fun x y => c x y < 0) → ((cs.foldl (fun a n => putO c n a) a).Pairwise fun x y => c x y < 0) ∧ ∀ x, x ∈ cs.foldl (fun a n => putO c n a) a ↔ x ∈ cs ∨ x ∈ a
 | [], a, hp => ⟨hp, fun x => by simp⟩
 | n :: cs, a, hp => by
  obtain ⟨h1, h2⟩ := ascO_acc h cs (putO c n a) (putO_asc h n a hp)
  refine ⟨h1, fun x => ?_⟩
  rw [List.foldl_cons, h2 x, putO_mem h, List.mem_cons]
  exact ⟨fun q => q.elim (fun q => .inl (.inr q)) (fun q => q.elim (fun q => .inl (.inl q)) .inr), fun q => q.elim (fun q => q.elim (fun q => .inr (.inl q)) .inl) (fun q => .inr (.inr q))⟩
theorem ascO_asc {α : Type} {c : α → α → Int} (h : IsOrd c) (cs : List α) : (ascO c cs).Pairwise fun x y => c x y < 0 := (ascO_acc h cs [] List.Pairwise.nil).1
theorem ascO_mem {α : Type} {c : α → α → Int} (h : IsOrd c) (cs : List α) (x : α) : x ∈ ascO c cs ↔ x ∈ cs := by
 have := (ascO_acc h cs [] List.Pairwise.nil).2 x
 unfold ascO
 rw [this]
 simp
theorem strict_one {α : Type} {r : α → α → Prop} (hi : ∀ a, ¬ r a a) (ht : ∀ a b d, r a b → r b d → r a d) : ∀ l m : List α, l.Pairwise r → m.Pairwise r → (∀ x, x ∈ l ↔ x ∈ m) → l = m
 | [], [], _, _, _ => rfl
 | [], y :: m, _, _, h => by have := (h y).2 (List.mem_cons_self ..); cases this
 | x :: l, [], _, _, h => by have := (h x).1 (List.mem_cons_self ..); cases this
 | x :: l, y :: m, hl, hm, h => by
  rw [List.pairwise_cons] at hl hm
  have hxy : x = y := by
   rcases List.mem_cons.1 ((h x).1 (List.mem_cons_self ..)) with e | e
   ·exact e
   ·rcases List.mem_cons.1 ((h y).2 (List.mem_cons_self ..)) with e2 | e2
    ·exact e2.symm
    ·exact absurd (ht _ _ _ (hl.1 y e2) (hm.1 x e)) (hi x)
  subst hxy
  rw [strict_one hi ht l m hl.2 hm.2 fun z => ⟨fun hz => by
   rcases List.mem_cons.1 ((h z).1 (List.mem_cons_of_mem _ hz)) with e | e
   ·subst e; exact absurd (hl.1 z hz) (hi z)
   ·exact e, fun hz => by
   rcases List.mem_cons.1 ((h z).2 (List.mem_cons_of_mem _ hz)) with e | e
   ·subst e; exact absurd (hm.1 z hz) (hi z)
   ·exact e⟩]
theorem ascO_one {α : Type} {c : α → α → Int} (h : IsOrd c) {cs l : List α} (hp : l.Pairwise fun x y => c x y < 0) (hm : ∀ x, x ∈ l ↔ x ∈ cs) : l = ascO c cs :=
 strict_one (r := fun x y => c x y < 0) (fun a => by rw [h.self]; omega) (fun a b d h1 h2 => h.lt_trans h1 h2) _ _ hp (ascO_asc h cs) fun x => (hm x).trans (ascO_mem h cs x).symm
end Go.Proofs.YtgnloodmbgdgdaaGreat
namespace Go.Proofs.YtgnloodmbgdgdaaGreat
open Go.RowKit Go.Shelf
def alwaysF : Fo := .mk 0 0 [] []
def neverF : Fo := .mk 5 0 [] []
def neverB (k : Fo) : Bool := decide (k.op = 5 ∧ k.ks.length = 0)
def flatP (op : Int) (idle : Fo) (ks : List Fo) : List Fo := ks.flatMap fun k => if fcmp k idle = 0 then [] else if k.op = op then k.ks else [k]
def outP (op : Int) (l : List Fo) (idle : Fo) : Fo :=
 match l with
 | [] => idle
 | [x] => x
 | l => .mk op 0 [] l
def joinP (op : Int) (ks : List Fo) (idle decisive : Fo) : Fo :=
 if (ks.any fun k => decide (fcmp k decisive = 0)) = true then decisive else outP op (ascO fcmp (flatP op idle ks)) idle
def kid0 (ks : List Fo) : Fo :=
 match ks with
 | [] => alwaysF
 | k :: _ => k
def oppF (k : Fo) : Fo := if k.op = 0 then neverF else if neverB k = true then alwaysF else if k.op = 6 then kid0 k.ks else .mk 6 0 [] [k]
def nodeS (op n : Int) (is : List Iv) (ks : List Fo) : Fo :=
 if op = 2 ∧ is.length = 0 then neverF
 else if op = 3 ∧ neverB (kid0 ks) = true then neverF
 else if op = 6 then oppF (kid0 ks)
 else if op = 4 then joinP 4 ks alwaysF neverF
 else if op = 5 then joinP 5 ks neverF alwaysF
 else .mk op n is ks
mutual
def simpleF : Fo → Fo
 | .mk op n is ks => nodeS op n is (simpleFs ks)
def simpleFs : List Fo → List Fo
 | [] => []
 | k :: ks => simpleF k :: simpleFs ks
end
theorem simpleFs_map : ∀ ks : List Fo, simpleFs ks = ks.map simpleF
 | [] => by rw [simpleFs]; rfl
 | k :: ks => by rw [simpleFs, simpleFs_map ks]; rfl
theorem simpleF_eq (f : Fo) : simpleF f = nodeS f.op f.n f.is (f.ks.map simpleF) := by
 cases f
 rw [simpleF, simpleFs_map]
 rfl
theorem Fo.goods_all {ks : List Fo} : Fo.goods ks = true ↔ ∀ k ∈ ks, k.good = true := by
 induction ks with
 | nil => simp [Fo.goods]
 | cons k ks ih => rw [Fo.goods, Bool.and_eq_true, ih]; simp
theorem Fo.clss_all {m : Int} {ks : List Fo} : Fo.clss m ks = true ↔ ∀ k ∈ ks, k.cls m = true := by
 induction ks with
 | nil => simp [Fo.clss]
 | cons k ks ih => rw [Fo.clss, Bool.and_eq_true, ih]; simp
theorem Fo.deeps_all {ks : List Fo} {d : Nat} : Fo.deeps ks ≤ d ↔ ∀ k ∈ ks, k.deep ≤ d := by
 induction ks with
 | nil => simp [Fo.deeps]
 | cons k ks ih =>
  rw [Fo.deeps]
  constructor
  ·intro h k hk
   rcases List.mem_cons.1 hk with rfl | hk
   ·omega
   ·exact ih.1 (by omega) k hk
  ·intro h
   have h1 := h k (List.mem_cons_self ..)
   have h2 := ih.2 fun x hx => h x (List.mem_cons_of_mem _ hx)
   omega
structure Fit7 (cl : Int) (s d : Nat) (g : Fo) : Prop where
 size : g.size ≤ s
 deep : g.deep ≤ d
 good : g.good = true
 wf : g.wf
 cls : g.cls cl = true
theorem putO_sizes (p : Fo) : ∀ l : List Fo, Fo.sizes (putO fcmp p l) ≤ p.size + Fo.sizes l
 | [] => by simp [putO, Fo.sizes]
 | x :: l => by
  rw [putO]
  split
  ·rw [Fo.sizes, Fo.sizes]; have := putO_sizes p l; omega
  ·split
   ·rw [Fo.sizes]; omega
   ·rw [Fo.sizes]; omega
theorem ascO_sizes_acc : ∀ cs a : List Fo, Fo.sizes (cs.foldl (fun a n => putO fcmp n a) a) ≤ Fo.sizes cs + Fo.sizes a
 | [], a => by simp [Fo.sizes]
 | c :: cs, a => by
  rw [List.foldl_cons, Fo.sizes]
  have h1 := ascO_sizes_acc cs (putO fcmp c a)
  have h2 := putO_sizes c a
  omega
theorem ascO_sizes (cs : List Fo) : Fo.sizes (ascO fcmp cs) ≤ Fo.sizes cs := by
 have := ascO_sizes_acc cs []
 simp only [Fo.sizes] at this
 exact this
theorem flatP_cons (op : Int) (idle k : Fo) (ks : List Fo) : flatP op idle (k :: ks) = (if fcmp k idle = 0 then [] else if k.op = op then k.ks else [k]) ++ flatP op idle ks := by
 unfold flatP
 rw [List.flatMap_cons]
theorem flatP_app (op : Int) (idle : Fo) (ls ks : List Fo) : flatP op idle (ls ++ ks) = flatP op idle ls ++ flatP op idle ks := by
 unfold flatP
 rw [List.flatMap_append]
theorem flatP_sizes (op : Int) (idle : Fo) : ∀ ks : List Fo, Fo.sizes (flatP op idle ks) ≤ Fo.sizes ks
 | [] => by simp [flatP, Fo.sizes]
 | k :: ks => by
  rw [flatP_cons, Fo.sizes_append, Fo.sizes]
  have ih := flatP_sizes op idle ks
  have := k.size_eq
  split
  ·simp only [Fo.sizes]; omega
  ·split
   ·omega
   ·simp only [Fo.sizes]; omega
theorem flatP_mem {op : Int} {idle : Fo} {ks : List Fo} {x : Fo} (h : x ∈ flatP op idle ks) : (x ∈ ks ∧ fcmp x idle ≠ 0 ∧ x.op ≠ op) ∨ ∃ k ∈ ks, fcmp k idle ≠ 0 ∧ k.op = op ∧ x ∈ k.ks := by
 unfold flatP at h
 obtain ⟨k, hk, hx⟩ := List.mem_flatMap.1 h
 split at hx
 ·cases hx
 ·split at hx
  ·next h1 h2 => exact .inr ⟨k, hk, h1, h2, hx⟩
  ·next h1 h2 =>
   rw [List.mem_singleton] at hx
   subst hx
   exact .inl ⟨hk, h1, h2⟩
theorem Fit7.kid {cl : Int} {s d : Nat} {g : Fo} (h : Fit7 cl s d g) {u : Fo} (hu : u ∈ g.ks) : Fit7 cl (s - 1) (d - 1) u := by
 have h1 := g.size_eq
 have h2 := Fo.sizes_mem hu
 have h3 := g.deep_eq
 have h4 := Fo.deeps_all.1 (Nat.le_refl (Fo.deeps g.ks)) u hu
 have h5 := h.size
 have h6 := h.deep
 have h7 := h.cls
 rw [g.cls_eq, Bool.and_eq_true] at h7
 exact ⟨by omega, by omega, good_kid h.good hu, ((Fo.wf_eq g).1 h.wf).2 u hu, Fo.clss_all.1 h7.2 u hu⟩
theorem Fit7.mono {cl : Int} {s s' d d' : Nat} {g : Fo} (h : Fit7 cl s d g) (hs : s ≤ s') (hd : d ≤ d') : Fit7 cl s' d' g := ⟨Nat.le_trans h.size hs, Nat.le_trans h.deep hd, h.good, h.wf, h.cls⟩
theorem fit_leaf {cl : Int} {s d : Nat} (op : Int) (ho : op = 0 ∨ op = 5) (hs : 1 ≤ s) (hd : 1 ≤ d) : Fit7 cl s d (.mk op 0 [] []) := by
 rcases ho with rfl | rfl
 ·exact ⟨by simp [Fo.size, Fo.sizes]; omega, by simp [Fo.deep, Fo.deeps]; omega, by simp [Fo.good, Fo.goods, properB], by simp [Fo.wf, Fo.wfs], by simp [Fo.cls, Fo.clss]⟩
 ·exact ⟨by simp [Fo.size, Fo.sizes]; omega, by simp [Fo.deep, Fo.deeps]; omega, by simp [Fo.good, Fo.goods, properB], by simp [Fo.wf, Fo.wfs], by simp [Fo.cls, Fo.clss]⟩
theorem fit_join {cl : Int} {s d : Nat} (op : Int) (ho : op = 4 ∨ op = 5) {l : List Fo} (hs : Fo.sizes l + 1 ≤ s) (hl : ∀ k ∈ l, Fit7 cl s d k) : Fit7 cl s (d + 1) (.mk op 0 [] l) := by
 refine ⟨by rw [Fo.size]; omega, ?_, ?_, ?_, ?_⟩
 ·rw [Fo.deep]
  have := Fo.deeps_all.2 fun k hk => (hl k hk).deep
  omega
 ·rw [Fo.good, Bool.and_eq_true]
  exact ⟨by rcases ho with rfl | rfl <;> simp [properB], Fo.goods_all.2 fun k hk => (hl k hk).good⟩
 ·rw [Fo.wf]
  exact ⟨⟨fun x hx => by simp at hx, by simp⟩, Fo.wfs_all.2 fun k hk => (hl k hk).wf⟩
 ·rw [Fo.cls, Bool.and_eq_true]
  exact ⟨by rcases ho with rfl | rfl <;> simp, Fo.clss_all.2 fun k hk => (hl k hk).cls⟩
theorem fit_out {cl : Int} {s d : Nat} (op : Int) (ho : op = 4 ∨ op = 5) {l : List Fo} {idle : Fo} (hs : Fo.sizes l + 1 ≤ s) (hl : ∀ k ∈ l, Fit7 cl s d k) (hi : Fit7 cl s (d + 1) idle) : Fit7 cl s (d + 1) (outP op l idle) := by
 unfold outP
 split
 ·exact hi
 ·exact (hl _ (List.mem_cons_self ..)).mono (Nat.le_refl _) (Nat.le_succ _)
 ·exact fit_join op ho hs hl
theorem fit_joinP {cl : Int} {s d : Nat} (op : Int) (ho : op = 4 ∨ op = 5) {ks : List Fo} {idle decisive : Fo} (hs : Fo.sizes ks + 1 ≤ s) (hl : ∀ k ∈ ks, Fit7 cl s d k) (hi : Fit7 cl s (d + 1) idle) (hd : Fit7 cl s (d + 1) decisive) : Fit7 cl s (d + 1) (joinP op ks idle decisive) := by
 unfold joinP
 split
 ·exact hd
 ·have h1 := ascO_sizes (flatP op idle ks)
  have h2 := flatP_sizes op idle ks
  refine fit_out op ho (by omega) (fun k hk => ?_) hi
  rcases flatP_mem ((ascO_mem fcmp_ord _ _).1 hk) with ⟨h, -, -⟩ | ⟨u, hu, -, -, h⟩
  ·exact hl k h
  ·exact ((hl u hu).kid h).mono (Nat.sub_le _ _) (Nat.sub_le _ _)
theorem fit_opp {cl : Int} {s d : Nat} {k : Fo} (hs : k.size + 1 ≤ s) (hk : Fit7 cl s d k) : Fit7 cl s (d + 1) (oppF k) := by
 unfold oppF
 split
 ·exact fit_leaf 5 (.inr rfl) (by omega) (by omega)
 ·split
  ·exact fit_leaf 0 (.inl rfl) (by omega) (by omega)
  ·split
   ·next h6 =>
    have hl := good_six hk.good h6
    obtain ⟨u, hu⟩ : ∃ u, k.ks = [u] := List.length_eq_one_iff.1 hl
    rw [hu]
    exact (hk.kid (u := u) (by rw [hu]; exact List.mem_cons_self ..)).mono (Nat.sub_le _ _) (by omega)
   ·refine ⟨by simp only [Fo.size, Fo.sizes]; omega, by simp only [Fo.deep, Fo.deeps]; have := hk.deep; omega, ?_, ?_, ?_⟩
    ·simp only [Fo.good, Fo.goods, hk.good]; simp [properB]
    ·simp only [Fo.wf, Fo.wfs]; exact ⟨⟨fun x hx => by simp at hx, by simp⟩, hk.wf, trivial⟩
    ·simp only [Fo.cls, Fo.clss, hk.cls]; simp
theorem map_sizes {g : Fo → Fo} : ∀ {ks : List Fo}, (∀ k ∈ ks, (g k).size ≤ k.size) → Fo.sizes (ks.map g) ≤ Fo.sizes ks
 | [], _ => by simp [Fo.sizes]
 | k :: ks, h => by
  rw [List.map_cons, Fo.sizes, Fo.sizes]
  have h1 := h k (List.mem_cons_self ..)
  have h2 := map_sizes (g := g) fun x hx => h x (List.mem_cons_of_mem _ hx)
  omega
theorem simple_fit (cl : Int) : ∀ (m : Nat) (f : Fo), f.size ≤ m → f.good = true → f.wf → f.cls cl = true → Fit7 cl f.size f.deep (simpleF f)
 | 0, f, h, _, _, _ => by have := f.size_pos; omega
 | m + 1, f, h, hg, hw, hc => by
  have hs := f.size_eq
  have hd := f.deep_eq
  have hwe := (Fo.wf_eq f).1 hw
  have hce := hc
  rw [f.cls_eq, Bool.and_eq_true] at hce
  have hge := hg
  rw [f.good_eq, Bool.and_eq_true] at hge
  have key : ∀ k ∈ f.ks, Fit7 cl k.size k.deep (simpleF k) := fun k hk => simple_fit cl m k (by have := Fo.sizes_mem hk; omega) (good_kid hg hk) (hwe.2 k hk) (Fo.clss_all.1 hce.2 k hk)
  have hsz : Fo.sizes (f.ks.map simpleF) + 1 ≤ f.size := by
   have := map_sizes fun k hk => (key k hk).size
   omega
  have hkid : ∀ k ∈ f.ks.map simpleF, Fit7 cl f.size (Fo.deeps f.ks) k := fun k hk => by
   obtain ⟨u, hu, rfl⟩ := List.mem_map.1 hk
   exact (key u hu).mono (by have := Fo.sizes_mem hu; omega) (Fo.deeps_all.1 (Nat.le_refl _) u hu)
  rw [simpleF_eq, hd]
  unfold nodeS
  have h1 := f.size_pos
  split
  ·exact fit_leaf 5 (.inr rfl) h1 (by omega)
  ·split
   ·exact fit_leaf 5 (.inr rfl) h1 (by omega)
   ·split
    ·next h6 =>
     have hl := good_six hg h6
     obtain ⟨u, hu⟩ : ∃ u, f.ks = [u] := List.length_eq_one_iff.1 hl
     rw [hu] at hkid hsz ⊢
     refine fit_opp (k := simpleF u) ?_ (hkid _ (List.mem_cons_self ..))
     simp only [List.map_cons, List.map_nil, Fo.sizes] at hsz
     omega
    ·split
     ·exact fit_joinP 4 (.inl rfl) hsz hkid (fit_leaf 0 (.inl rfl) h1 (by omega)) (fit_leaf 5 (.inr rfl) h1 (by omega))
     ·split
      ·exact fit_joinP 5 (.inr rfl) hsz hkid (fit_leaf 5 (.inr rfl) h1 (by omega)) (fit_leaf 0 (.inl rfl) h1 (by omega))
      ·refine ⟨by rw [Fo.size]; omega, ?_, ?_, ?_, ?_⟩
       ·rw [Fo.deep]
        have := Fo.deeps_all.2 fun k hk => (hkid k hk).deep
        omega
       ·rw [Fo.good, Bool.and_eq_true]
        refine ⟨?_, Fo.goods_all.2 fun k hk => (hkid k hk).good⟩
        rw [List.length_map]
        exact hge.1
       ·rw [Fo.wf]
        exact ⟨hwe.1, Fo.wfs_all.2 fun k hk => (hkid k hk).wf⟩
       ·rw [Fo.cls, Bool.and_eq_true]
        exact ⟨hce.1, Fo.clss_all.2 fun k hk => (hkid k hk).cls⟩
theorem good_cls : ∀ (m : Nat) (f : Fo), f.size ≤ m → f.good = true → f.cls 64 = true
 | 0, f, h, _ => by have := f.size_pos; omega
 | m + 1, f, h, hg => by
  have hs := f.size_eq
  rw [f.cls_eq, Bool.and_eq_true]
  refine ⟨?_, Fo.clss_all.2 fun k hk => good_cls m k (by have := Fo.sizes_mem hk; omega) (good_kid hg hk)⟩
  rw [f.good_eq, Bool.and_eq_true] at hg
  by_cases h1 : f.op = 1
  ·have h2 := hg.1
   unfold properB at h2
   simp [h1] at h2
   simp [h1]
   omega
  ·simp [h1]
theorem simple_keep (m : Nat) (f : Fo) (h : f.size ≤ m) (hg : f.good = true) (hw : f.wf) : (simpleF f).size ≤ f.size ∧ (simpleF f).good = true ∧ (simpleF f).wf := by
 have := simple_fit 64 m f h hg hw (good_cls m f h hg)
 exact ⟨this.size, this.good, this.wf⟩
end Go.Proofs.YtgnloodmbgdgdaaGreat
