import Derived.Test.YtgnloodmbgdgdaaGreatFB11
import Derived.Deep.DeepCutAuto
import Derived.Laws.EntriesVeiled
import Derived.Test.YtgnloodmbgdgdaaGreatFB12
import Derived.Test.YtgnloodmbgdgdaaGreatFB03
import Derived.Test.YtgnloodmbgdgdaaGreatFB09
namespace Go.Proofs.YtgnloodmbgdgdaaGreat
open Go.RowKit Go.Shelf
theorem Th.deep_pos (t : Th) : 1 ≤ t.deep := by rw [Th.deep_eq]; omega
set_option maxHeartbeats 4000000 in
set_option maxRecDepth 100000 in
theorem tvisit_step (m : Nat) (hm : m ≤ 1000000) (KV : Hid (VisitT m)) : VisitT (m + 1) := by
 intro u hu l k B P V x y z W hl hk hBP hBV hV hT
 obtain ⟨a1, c1, a2, c2, a3, c3, rfl, rfl, rfl, -, -, hP, -, -⟩ := hT.shape
 have hse := u.size_eq
 have hde := u.deep_eq
 have hsm : Th.sizes u.ps ≤ m := by omega
 have hPW := hV.2.1.1
 have hBW : B ≤ W.heap.size := by omega
 have i1 : IntKind.i64.wrap ((k : Int) + 1) = (k : Int) + 1 := IntWalk.i64_in _ (by omega)
 have hc1 : ((k + 1 : Nat) : Int) = (k : Int) + 1 := by omega
 have hW3 : ∃ W3, W3 = (((W.setCell ⟨P, 0, none⟩ (.int .i64 ((k : Int) + 1))).alloc (.cells #[.slice a1 u.cs.length c1, .slice a2 u.vs.length c2, .slice a3 u.ps.length c3] 41)).alloc (.cells #[.int .i64 (l : Int)] 3)) := ⟨_, rfl⟩
 obtain ⟨W3, hW3⟩ := hW3
 have hz0 : (W.setCell ⟨P, 0, none⟩ (.int .i64 ((k : Int) + 1))).heap.size = W.heap.size := by simp [World.setCell]
 have hSv : Save P W W3 := by rw [hW3]; exact ((Save.refl P W).set.alloc _).alloc _
 have hBl : Below B W W3 := by rw [hW3]; exact (((Below.refl B W).setCell (p := ⟨P, 0, none⟩) hBP _).alloc (by rw [hz0]; exact hBW) _).alloc (by rw [size_alloc, hz0]; omega) _
 have hVb : VBox P V ((k : Int) + 1) W3 := by
  refine ⟨hV.1, ?_, hV.2.2.save hV.1.symm hSv⟩
  rw [hW3]
  exact ((hV.2.1.store1 _).under _).under _
 have hX : BoxL W.heap.size [.slice a1 u.cs.length c1, .slice a2 u.vs.length c2, .slice a3 u.ps.length c3] W3 := by
  have h0 := (BoxL.made (W.setCell ⟨P, 0, none⟩ (.int .i64 ((k : Int) + 1))) #[.slice a1 u.cs.length c1, .slice a2 u.vs.length c2, .slice a3 u.ps.length c3] 41).under (.cells #[.int .i64 (l : Int)] 3)
  rw [hz0, ← hW3] at h0
  exact h0
 have hN : BoxL (W.heap.size + 1) [.int .i64 (l : Int)] W3 := by
  have h0 := BoxL.made ((W.setCell ⟨P, 0, none⟩ (.int .i64 ((k : Int) + 1))).alloc (.cells #[.slice a1 u.cs.length c1, .slice a2 u.vs.length c2, .slice a3 u.ps.length c3] 41)) #[.int .i64 (l : Int)] 3
  rw [size_alloc, hz0, ← hW3] at h0
  exact h0
 have hB3 : B ≤ W3.heap.size := Nat.le_trans hBW hBl.size
 have HVB := Lib.hid hVb
 have HVN : Hid (VBox P V ((k + 1 : Nat) : Int) W3) := Lib.hid (by rw [hc1]; exact hVb)
 have HSV := Lib.hid hSv
 have HBL := Lib.hid hBl
 have HSE := Lib.hid hse
 have HDE := Lib.hid hde
 obtain ⟨p0, p1, p2⟩ := hV.2.1.open1
 by_cases hk1 : 96 < k + 1
 ·have j1 : (k : Int) + 1 > 96 := by omega
  have HQ : Hid (96 < k + u.size ∨ 9 < l + u.deep) := Lib.hid (.inl (by omega))
  have HX := Lib.hid hX
  generalize u.size = us at *
  generalize u.deep = ud at *
  generalize u.cs.length = m1 at *
  generalize u.vs.length = m2 at *
  generalize u.ps.length = m3 at *
  clear hz0 hc1 hP hT hV KV hse hde hsm hVb hSv hBl hN hX
  go_enter Tryz.func153, Tryz.ntmps153
  go_upto_region 2 with (fail)
  rw [← hW3]
  clear hW3
  obtain ⟨q0, q1, q2⟩ := HVB.out.2.1.open1
  go_wp2
  go_ret
  exact ⟨false, k + 1, rfl, Lib.hid ⟨fun hh => (by cases hh), fun _ => HQ.out⟩, HVN, HSV, HBL⟩
 ·have j1 : ¬ (k : Int) + 1 > 96 := by omega
  by_cases hl8 : 8 < l
  ·have j2 : (l : Int) > 8 := by omega
   have HQ : Hid (96 < k + u.size ∨ 9 < l + u.deep) := Lib.hid (.inr (by have := u.deep_pos; omega))
   generalize u.size = us at *
   generalize u.deep = ud at *
   generalize u.cs.length = m1 at *
   generalize u.vs.length = m2 at *
   generalize u.ps.length = m3 at *
   have HN := Lib.hid hN
   clear hz0 hc1 hP hT hV KV hse hde hsm hVb hSv hBl hX hN
   go_enter Tryz.func153, Tryz.ntmps153
   go_upto_region 2 with (fail)
   rw [← hW3]
   clear hW3
   obtain ⟨q0, q1, q2⟩ := HVB.out.2.1.open1
   obtain ⟨n0, n1, n2⟩ := HN.out.open1
   go_wp2
   go_ret
   exact ⟨false, k + 1, rfl, Lib.hid ⟨fun hh => (by cases hh), fun _ => HQ.out⟩, HVN, HSV, HBL⟩
  ·have j2 : ¬ (l : Int) > 8 := by omega
   have KC := Lib.hid (conv_any m hm KV _ u.ps l (k + 1) B P V (W.heap.size + 1) W3 (by omega) (by omega) hBP hBV HVN.out hN (by omega) hB3 (hP.low hBl) hsm)
   generalize Th.sizes u.ps = ss at *
   generalize Th.deeps u.ps = sd at *
   generalize u.size = us at *
   generalize u.deep = ud at *
   generalize u.cs.length = m1 at *
   generalize u.vs.length = m2 at *
   generalize u.ps.length = m3 at *
   have HN := Lib.hid hN
   have HX := Lib.hid hX
   clear hz0 hc1 hP hT hV KV hse hde hsm hVb hSv hBl hN hX
   go_enter Tryz.func153, Tryz.ntmps153
   go_upto_region 2 with (fail)
   rw [← hW3]
   clear hW3
   obtain ⟨q0, q1, q2⟩ := HVB.out.2.1.open1
   obtain ⟨n0, n1, n2⟩ := HN.out.open1
   obtain ⟨x0, x1, x2, -, -, -, x3⟩ := HX.out.open3
   go_wp2_with fail
   refine (KC.out).mono ?_
   rintro e w2 ⟨q, k', rfl, hq, hV2, hS2, hB2⟩
   have HS4 := Lib.hid (HSV.out.trans hS2.out)
   have HB4 := Lib.hid (HBL.out.trans hB2.out)
   have HQ : Hid (((!q) = true → k' = k + us ∧ k' ≤ 96 ∧ l + ud ≤ 9) ∧ ((!q) = false → 96 < k + us ∨ 9 < l + ud)) := Lib.hid (by
    have h1 := HSE.out
    have h2 := HDE.out
    obtain ⟨e1, e2⟩ := hq.out
    constructor
    ·intro h
     obtain ⟨f1, f2, f3⟩ := e1 (by simpa using h)
     omega
    ·intro h
     have := e2 (by simpa using h)
     omega)
   clear hq hS2 hB2
   go_wp2
   go_ret
   exact ⟨!q, k', rfl, HQ, hV2, HS4, HB4⟩
theorem tvisit_all : ∀ m : Nat, m ≤ 1000000 → VisitT m
 | 0, _ => fun u hu => by have := u.size_pos; omega
 | m + 1, h => tvisit_step m (by omega) (Lib.hid (tvisit_all m (by omega)))
set_option maxHeartbeats 4000000 in
set_option maxRecDepth 100000 in
theorem fits_any (t : Th) (ht : t.size ≤ 1000000) (a b c : Value) (w : World) (h : TAt w.heap.size w t a b c) :
  Calls Tryz.prog 101 #[.agg #[a, b, c]] w fun e w' => e = .returned (.bool (decide (t.size ≤ 96 ∧ t.deep ≤ 8))) ∧ Below w.heap.size w w' := by
 obtain ⟨a1, c1, a2, c2, a3, c3, rfl, rfl, rfl, -⟩ := h.shape
 have hW : ∃ W, W = ((w.alloc (.cells #[.slice a1 t.cs.length c1, .slice a2 t.vs.length c2, .slice a3 t.ps.length c3] 41)).alloc (.cells #[.int .i64 0] 3)).alloc (.cells #[(.func (.func 153) #[] #[.pointer (some ⟨w.heap.size + 1, 0, none⟩), .pointer (some ⟨w.heap.size + 1 + 1, 0, none⟩)])] 98) := ⟨_, rfl⟩
 obtain ⟨W, hW⟩ := hW
 have hBl : Below w.heap.size w W := by rw [hW]; exact (((Below.refl _ w).alloc (Nat.le_refl _) _).alloc (by simp) _).alloc (by simp; omega) _
 have hP : BoxL (w.heap.size + 1) [.int .i64 0] W := by
  have h0 := (BoxL.made (w.alloc (.cells #[.slice a1 t.cs.length c1, .slice a2 t.vs.length c2, .slice a3 t.ps.length c3] 41)) #[.int .i64 0] 3).under (.cells #[(.func (.func 153) #[] #[.pointer (some ⟨w.heap.size + 1, 0, none⟩), .pointer (some ⟨w.heap.size + 1 + 1, 0, none⟩)])] 98)
  rw [size_alloc, ← hW] at h0
  exact h0
 have hV : BoxL (w.heap.size + 1 + 1) [(.func (.func 153) #[] #[.pointer (some ⟨w.heap.size + 1, 0, none⟩), .pointer (some ⟨w.heap.size + 1 + 1, 0, none⟩)])] W := by
  have h0 := BoxL.made ((w.alloc (.cells #[.slice a1 t.cs.length c1, .slice a2 t.vs.length c2, .slice a3 t.ps.length c3] 41)).alloc (.cells #[.int .i64 0] 3)) #[(.func (.func 153) #[] #[.pointer (some ⟨w.heap.size + 1, 0, none⟩), .pointer (some ⟨w.heap.size + 1 + 1, 0, none⟩)])] 98
  rw [size_alloc, size_alloc, ← hW] at h0
  exact h0
 have hX : BoxL w.heap.size [.slice a1 t.cs.length c1, .slice a2 t.vs.length c2, .slice a3 t.ps.length c3] W := by
  have h0 := ((BoxL.made w #[.slice a1 t.cs.length c1, .slice a2 t.vs.length c2, .slice a3 t.ps.length c3] 41).under (.cells #[.int .i64 0] 3)).under (.cells #[(.func (.func 153) #[] #[.pointer (some ⟨w.heap.size + 1, 0, none⟩), .pointer (some ⟨w.heap.size + 1 + 1, 0, none⟩)])] 98)
  rw [← hW] at h0
  exact h0
 have K := Lib.hid (tvisit_all t.size ht t (Nat.le_refl _) 1 0 w.heap.size (w.heap.size + 1) (w.heap.size + 1 + 1) _ _ _ W (by omega) (by omega) (by omega) (by omega) ⟨by omega, hP, hV⟩ (TAt.low hBl t h))
 have HD : Hid (∀ (q : Bool) (k' : Nat), ((q = true → k' = 0 + t.size ∧ k' ≤ 96 ∧ 1 + t.deep ≤ 9) ∧ (q = false → 96 < 0 + t.size ∨ 9 < 1 + t.deep)) → q = decide (t.size ≤ 96 ∧ t.deep ≤ 8)) := Lib.hid fun q k' hh => by
  cases q with
  | true =>
   obtain ⟨e1, e2, e3⟩ := hh.1 rfl
   exact (decide_eq_true ⟨by omega, by omega⟩).symm
  | false =>
   have := hh.2 rfl
   exact (decide_eq_false (by omega)).symm
 have HB := Lib.hid hBl
 generalize decide (t.size ≤ 96 ∧ t.deep ≤ 8) = R at *
 have HX := Lib.hid hX
 have HV := Lib.hid hV
 generalize t.size = ts at *
 generalize t.deep = td at *
 generalize t.cs.length = m1 at *
 generalize t.vs.length = m2 at *
 generalize t.ps.length = m3 at *
 clear h hBl hP hV hX ht
 go_enter Tryz.func101, Tryz.ntmps101
 go_upto_region 4 with (fail)
 rw [← hW]
 clear hW
 obtain ⟨x0, x1, x2, -, -, -, x3⟩ := HX.out.open3
 obtain ⟨v0, v1, v2⟩ := HV.out.open1
 go_wp2_with fail
 refine (K.out).mono ?_
 rintro e w2 ⟨q, k', rfl, hq, hV2, hS2, hB2⟩
 have HQ := Lib.hid (HD.out q k' hq.out)
 have HB2 := Lib.hid (HB.out.trans hB2.out)
 clear hq hV2 hS2 hB2
 go_wp2
 go_ret
 exact ⟨ret_bool HQ.out, HB2.out⟩
noncomputable def validT (t : Th) : Int := if 96 < t.size ∨ 8 < t.deep then 4 else if t.goodB = true then 0 else 1
set_option maxHeartbeats 2000000 in
set_option maxRecDepth 100000 in
theorem tvalid_any (t : Th) (ht : t.size ≤ 1000000) (hwf : t.wf) (a b c : Value) (w : World) (h : TAt w.heap.size w t a b c) :
  Calls Tryz.prog 58 #[.agg #[a, b, c]] w fun e w' => e = .returned (.int .i64 (validT t)) ∧ Below w.heap.size w w' := by
 obtain ⟨a1, c1, a2, c2, a3, c3, rfl, rfl, rfl, -⟩ := h.shape
 have hab := fun o : Obj => h.under o
 have HB0 := Lib.hid ((Below.refl w.heap.size w).alloc (Nat.le_refl _) (.cells #[.slice a1 t.cs.length c1, .slice a2 t.vs.length c2, .slice a3 t.ps.length c3] 41))
 have XA := Lib.hid (BoxL.made w #[.slice a1 t.cs.length c1, .slice a2 t.vs.length c2, .slice a3 t.ps.length c3] 41)
 have K1 := Lib.hid (fits_any t ht _ _ _ _ (hab (.cells #[.slice a1 t.cs.length c1, .slice a2 t.vs.length c2, .slice a3 t.ps.length c3] 41)))
 have K2 := Lib.hid fun W (hB : Below w.heap.size w W) => proper_all t.size ht t (Nat.le_refl _) hwf _ _ _ W (h.below hB)
 have hv1 : ¬ (t.size ≤ 96 ∧ t.deep ≤ 8) → validT t = 4 := fun hn => by unfold validT; rw [if_pos (by omega)]
 have hv2 : (t.size ≤ 96 ∧ t.deep ≤ 8) → t.goodB = true → validT t = 0 := fun hn hg => by unfold validT; rw [if_neg (by omega), if_pos hg]
 have hv3 : (t.size ≤ 96 ∧ t.deep ≤ 8) → t.goodB = false → validT t = 1 := fun hn hg => by unfold validT; rw [if_neg (by omega), if_neg (by rw [hg]; simp)]
 generalize validT t = R at *
 generalize t.goodB = G at *
 by_cases hf : t.size ≤ 96 ∧ t.deep ≤ 8
 ·have hv2 := hv2 hf
  have hv3 := hv3 hf
  rw [decide_eq_true hf] at K1
  clear hv1 hf ht
  generalize t.cs.length = m1 at *
  generalize t.vs.length = m2 at *
  generalize t.ps.length = m3 at *
  clear h hab hwf
  cases G
  case true =>
   have HR := Lib.hid (hv2 rfl)
   clear hv2 hv3
   go_enter Tryz.func58, Tryz.ntmps58
   go_wp2_with fail
   refine (K1.out).mono ?_
   rintro e w1 ⟨rfl, hr⟩
   have X1 := Lib.hid (XA.out.keep hr)
   have HB1 := Lib.hid (below_new hr)
   clear hr
   obtain ⟨x0, x1, x2, -, -, -, x3⟩ := X1.out.open3
   go_wp2_with fail
   refine (K2.out _ HB1.out).mono ?_
   rintro e w2 ⟨rfl, hr⟩
   have HB2 := Lib.hid (HB1.out.trans (hr.mono HB1.out.size))
   clear hr
   go_wp2
   go_ret
   exact ⟨ret_int HR.out.symm, HB2.out⟩
  case false =>
   have HR := Lib.hid (hv3 rfl)
   clear hv2 hv3
   go_enter Tryz.func58, Tryz.ntmps58
   go_wp2_with fail
   refine (K1.out).mono ?_
   rintro e w1 ⟨rfl, hr⟩
   have X1 := Lib.hid (XA.out.keep hr)
   have HB1 := Lib.hid (below_new hr)
   clear hr
   obtain ⟨x0, x1, x2, -, -, -, x3⟩ := X1.out.open3
   go_wp2_with fail
   refine (K2.out _ HB1.out).mono ?_
   rintro e w2 ⟨rfl, hr⟩
   have HB2 := Lib.hid (HB1.out.trans (hr.mono HB1.out.size))
   clear hr
   go_wp2
   go_ret
   exact ⟨ret_int HR.out.symm, HB2.out⟩
 ·have HR := Lib.hid (hv1 hf)
  rw [decide_eq_false hf] at K1
  clear hv1 hv2 hv3 hf ht
  generalize t.cs.length = m1 at *
  generalize t.vs.length = m2 at *
  generalize t.ps.length = m3 at *
  clear h hab hwf
  go_enter Tryz.func58, Tryz.ntmps58
  go_wp2_with fail
  refine (K1.out).mono ?_
  rintro e w1 ⟨rfl, hr⟩
  have HB1 := Lib.hid (below_new hr)
  clear hr
  go_wp2
  go_ret
  exact ⟨ret_int HR.out.symm, HB1.out⟩
end Go.Proofs.YtgnloodmbgdgdaaGreat
namespace Go.Proofs.YtgnloodmbgdgdaaGreat
open Go.RowKit Go.Shelf
structure Tr where
 a1 : Option Addr
 n1 : Nat
 c1 : Nat
 a2 : Option Addr
 n2 : Nat
 c2 : Nat
 a3 : Option Addr
 n3 : Nat
 c3 : Nat
def RTh : RowOf Tr where
 cells x := [.slice x.a1 x.n1 x.c1, .slice x.a2 x.n2 x.c2, .slice x.a3 x.n3 x.c3]
 k := 3
 len _ := rfl
 one x v h := by simp at h; rcases h with rfl | rfl | rfl <;> rfl
 pos := by decide
mutual
def TS (S : Nat → Prop) (w : World) : Th → Value → Value → Value → Prop
 | .mk cs vs ps, a, b, c => (Els .i64 w a cs ∧ InS S a) ∧ (REls RVa w b vs ∧ InS S b) ∧ ((Emp c ∧ ps = []) ∨ ∃ g cap, S g ∧ g < w.heap.size ∧ c = .slice (some ⟨g, 0, none⟩) ps.length cap ∧ ps.length ≤ cap ∧ PT S w ps g 0)
def PT (S : Nat → Prop) (w : World) : List Th → Nat → Nat → Prop
 | [], _, _ => True
 | t :: ts, g, o => (∃ a b c, w.cell? ⟨g, o, none⟩ = some a ∧ w.cell? ⟨g, o + 1, none⟩ = some b ∧ w.cell? ⟨g, o + 2, none⟩ = some c ∧ TS S w t a b c) ∧ PT S w ts g (o + 3)
end
def PSl (S : Nat → Prop) (w : World) (c : Value) (ps : List Th) : Prop := (Emp c ∧ ps = []) ∨ ∃ g cap, S g ∧ g < w.heap.size ∧ c = .slice (some ⟨g, 0, none⟩) ps.length cap ∧ ps.length ≤ cap ∧ PT S w ps g 0
theorem TS.parts {S : Nat → Prop} {w : World} {cs : List Int} {vs : List Va} {ps : List Th} {a b c : Value} (h : TS S w (.mk cs vs ps) a b c) : (Els .i64 w a cs ∧ InS S a) ∧ (REls RVa w b vs ∧ InS S b) ∧ PSl S w c ps := h
theorem TS.of {S : Nat → Prop} {w : World} {cs : List Int} {vs : List Va} {ps : List Th} {a b c : Value} (h1 : Els .i64 w a cs) (l1 : InS S a) (h2 : REls RVa w b vs) (l2 : InS S b) (h3 : PSl S w c ps) : TS S w (.mk cs vs ps) a b c := ⟨⟨h1, l1⟩, ⟨h2, l2⟩, h3⟩
mutual
theorem TS.keep {S S' : Nat → Prop} {w W : World} (hk : KeepS S w W) (hs : ∀ b, b < w.heap.size → S b → S' b) : ∀ (t : Th) {a b c : Value}, TS S w t a b c → TS (fun k => S' k ∧ k < W.heap.size) W t a b c
 | .mk cs vs ps, a, b, c, h => by
  obtain ⟨⟨h1, l1⟩, ⟨h2, l2⟩, h3⟩ := h.parts
  have r1 : InS (fun k => S' k ∧ k < W.heap.size) a := by
   rcases h1 with ⟨he, _⟩ | ⟨b, off, cap, hb, rfl, _, _⟩
   ·exact .inl he
   ·rcases l1 with l1 | ⟨b2, off2, n2, cap2, hlt, he⟩
    ·exact .inl l1
    ·cases he; exact .inr ⟨b, _, _, _, ⟨hs b hb hlt, Nat.lt_of_lt_of_le hb hk.1⟩, rfl⟩
  have r2 : InS (fun k => S' k ∧ k < W.heap.size) b := by
   rcases h2 with ⟨he, _⟩ | ⟨b, cap, hb, rfl, _, _⟩
   ·exact .inl he
   ·rcases l2 with l2 | ⟨b2, off2, n2, cap2, hlt, he⟩
    ·exact .inl l2
    ·cases he; exact .inr ⟨b, _, _, _, ⟨hs b hb hlt, Nat.lt_of_lt_of_le hb hk.1⟩, rfl⟩
  refine TS.of (h1.keepS l1 hk) r1 (h2.keepS l2 hk) r2 ?_
  rcases h3 with h3 | ⟨g, cap, hg, hgs, e, hl, hp⟩
  ·exact .inl h3
  ·exact .inr ⟨g, cap, ⟨hs g hgs hg, Nat.lt_of_lt_of_le hgs hk.1⟩, Nat.lt_of_lt_of_le hgs hk.1, e, hl, PT.keep hk hs ps hg hgs hp⟩
theorem PT.keep {S S' : Nat → Prop} {w W : World} (hk : KeepS S w W) (hs : ∀ b, b < w.heap.size → S b → S' b) : ∀ (ts : List Th) {g o : Nat}, S g → g < w.heap.size → PT S w ts g o → PT (fun k => S' k ∧ k < W.heap.size) W ts g o
 | [], _, _, _, _, _ => trivial
 | t :: ts, g, o, hg, hgs, h => by
  obtain ⟨⟨a, b, c, h1, h2, h3, h4⟩, h5⟩ := h
  have e := fun j => cell_of_block (hk.2 g hg hgs) j
  exact ⟨⟨a, b, c, (e _).trans h1, (e _).trans h2, (e _).trans h3, TS.keep hk hs t h4⟩, PT.keep hk hs ts hg hgs h5⟩
end
mutual
theorem TS.tat {S : Nat → Prop} {w : World} {B : Nat} (hs : ∀ b, S b → b < B) : ∀ (t : Th) {a b c : Value}, TS S w t a b c → TAt B w t a b c
 | .mk cs vs ps, a, b, c, h => by
  obtain ⟨⟨h1, l1⟩, ⟨h2, l2⟩, h3⟩ := h.parts
  refine TAt.of h1 (l1.low hs) h2 (l2.low hs) ?_
  rcases h3 with h3 | ⟨g, cap, hg, hgs, e, hl, hp⟩
  ·exact .inl h3
  ·exact .inr ⟨g, cap, hs g hg, hgs, e, hl, PT.tat hs ps hp⟩
theorem PT.tat {S : Nat → Prop} {w : World} {B : Nat} (hs : ∀ b, S b → b < B) : ∀ (ts : List Th) {g o : Nat}, PT S w ts g o → PAt B w ts g o
 | [], _, _, _ => trivial
 | t :: ts, g, o, h => by
  obtain ⟨⟨a, b, c, h1, h2, h3, h4⟩, h5⟩ := h
  exact ⟨⟨a, b, c, h1, h2, h3, TS.tat hs t h4⟩, PT.tat hs ts h5⟩
end
mutual
theorem TAt.ts {B : Nat} {w : World} : ∀ (t : Th) {a b c : Value}, TAt B w t a b c → TS (· < B) w t a b c
 | .mk cs vs ps, a, b, c, h => by
  obtain ⟨⟨h1, l1⟩, ⟨h2, l2⟩, h3⟩ := h.parts
  refine TS.of h1 l1 h2 l2 ?_
  rcases h3 with h3 | ⟨g, cap, hg, hgs, e, hl, hp⟩
  ·exact .inl h3
  ·exact .inr ⟨g, cap, hg, hgs, e, hl, PAt.ts ps hp⟩
theorem PAt.ts {B : Nat} {w : World} : ∀ (ts : List Th) {g o : Nat}, PAt B w ts g o → PT (· < B) w ts g o
 | [], _, _, _ => trivial
 | t :: ts, g, o, h => by
  obtain ⟨⟨a, b, c, h1, h2, h3, h4⟩, h5⟩ := h
  exact ⟨⟨a, b, c, h1, h2, h3, TAt.ts t h4⟩, PAt.ts ts h5⟩
end
theorem PT.get {S : Nat → Prop} {w : World} : ∀ (ts : List Th) {g o : Nat}, PT S w ts g o → ∀ (j : Nat) (t : Th), ts[j]? = some t → ∃ a b c, w.cell? ⟨g, o + j * 3, none⟩ = some a ∧ w.cell? ⟨g, o + j * 3 + 1, none⟩ = some b ∧ w.cell? ⟨g, o + j * 3 + 2, none⟩ = some c ∧ TS S w t a b c
 | [], _, _, _, j, t, hj => by simp at hj
 | u :: us, g, o, h, 0, t, hj => by
  simp at hj
  subst hj
  obtain ⟨⟨a, b, c, h1, h2, h3, h4⟩, _⟩ := h
  exact ⟨a, b, c, by simpa using h1, by simpa using h2, by simpa using h3, h4⟩
 | u :: us, g, o, h, j + 1, t, hj => by
  rw [List.getElem?_cons_succ] at hj
  have := PT.get us h.2 j t hj
  rw [show o + 3 + j * 3 = o + (j + 1) * 3 by omega] at this
  exact this
theorem PT.of_get {S : Nat → Prop} {w : World} : ∀ (ts : List Th) {g o : Nat}, (∀ (j : Nat) (t : Th), ts[j]? = some t → ∃ a b c, w.cell? ⟨g, o + j * 3, none⟩ = some a ∧ w.cell? ⟨g, o + j * 3 + 1, none⟩ = some b ∧ w.cell? ⟨g, o + j * 3 + 2, none⟩ = some c ∧ TS S w t a b c) → PT S w ts g o
 | [], _, _, _ => trivial
 | u :: us, g, o, h => by
  refine ⟨?_, PT.of_get us fun j t hj => ?_⟩
  ·obtain ⟨a, b, c, h1, h2, h3, h4⟩ := h 0 u rfl
   exact ⟨a, b, c, by simpa using h1, by simpa using h2, by simpa using h3, h4⟩
  ·have := h (j + 1) t (by rw [List.getElem?_cons_succ]; exact hj)
   rw [show o + (j + 1) * 3 = o + 3 + j * 3 by omega] at this
   exact this
theorem TS.shape {S : Nat → Prop} {w : World} {t : Th} {a b c : Value} (h : TS S w t a b c) : ∃ r : Tr, a = .slice r.a1 r.n1 r.c1 ∧ b = .slice r.a2 r.n2 r.c2 ∧ c = .slice r.a3 r.n3 r.c3 ∧ r.n1 = t.cs.length ∧ r.n2 = t.vs.length ∧ r.n3 = t.ps.length := by
 obtain ⟨cs, vs, ps⟩ := t
 obtain ⟨⟨h1, l1⟩, ⟨h2, l2⟩, h3⟩ := h.parts
 obtain ⟨a1, c1, e1⟩ := h1.shape
 obtain ⟨a2, c2, e2⟩ := h2.shape
 have h4 : ∃ a cap, c = .slice a ps.length cap := by
  rcases h3 with ⟨he, rfl⟩ | ⟨g, cap, _, _, he, _⟩
  ·exact he.shape
  ·exact ⟨_, _, he⟩
 obtain ⟨a3, c3, e3⟩ := h4
 exact ⟨⟨a1, _, c1, a2, _, c2, a3, _, c3⟩, e1, e2, e3, rfl, rfl, rfl⟩
theorem PSl.rows {S : Nat → Prop} {w : World} {c : Value} {ps : List Th} (h : PSl S w c ps) : ∃ rs : List Tr, REls RTh w c rs ∧ InS S c ∧ rs.length = ps.length ∧ ∀ (j : Nat) (t : Th), ps[j]? = some t → ∃ r, rs[j]? = some r ∧ TS S w t (.slice r.a1 r.n1 r.c1) (.slice r.a2 r.n2 r.c2) (.slice r.a3 r.n3 r.c3) := by
 rcases h with ⟨he, rfl⟩ | ⟨g, cap, hg, hgs, rfl, hl, hp⟩
 ·exact ⟨[], .inl ⟨he, rfl⟩, .inl he, rfl, fun j t h => by simp at h⟩
 ·have key : ∀ j : Nat, j < ps.length → ∃ r : Tr, w.cell? ⟨g, j * 3, none⟩ = some (.slice r.a1 r.n1 r.c1) ∧ w.cell? ⟨g, j * 3 + 1, none⟩ = some (.slice r.a2 r.n2 r.c2) ∧ w.cell? ⟨g, j * 3 + 2, none⟩ = some (.slice r.a3 r.n3 r.c3) ∧ ∀ t, ps[j]? = some t → TS S w t (.slice r.a1 r.n1 r.c1) (.slice r.a2 r.n2 r.c2) (.slice r.a3 r.n3 r.c3) := fun j hj => by
   obtain ⟨a, b, c, q0, q1, q2, hT⟩ := PT.get ps hp j ps[j] (List.getElem?_eq_getElem hj)
   rw [Nat.zero_add] at q0 q1 q2
   obtain ⟨r, rfl, rfl, rfl, -⟩ := hT.shape
   exact ⟨r, q0, q1, q2, fun t ht => by rw [List.getElem?_eq_getElem hj] at ht; cases ht; exact hT⟩
  obtain ⟨f, hf⟩ : ∃ f : Nat → Tr, ∀ j : Nat, j < ps.length → w.cell? ⟨g, j * 3, none⟩ = some (.slice (f j).a1 (f j).n1 (f j).c1) ∧ w.cell? ⟨g, j * 3 + 1, none⟩ = some (.slice (f j).a2 (f j).n2 (f j).c2) ∧ w.cell? ⟨g, j * 3 + 2, none⟩ = some (.slice (f j).a3 (f j).n3 (f j).c3) ∧ ∀ t, ps[j]? = some t → TS S w t (.slice (f j).a1 (f j).n1 (f j).c1) (.slice (f j).a2 (f j).n2 (f j).c2) (.slice (f j).a3 (f j).n3 (f j).c3) :=
   ⟨fun j => if hj : j < ps.length then Classical.choose (key j hj) else ⟨none, 0, 0, none, 0, 0, none, 0, 0⟩, fun j hj => by simp only [dif_pos hj]; exact Classical.choose_spec (key j hj)⟩
  refine ⟨(List.range ps.length).map f, .inr ⟨g, cap, hgs, by simp, by simpa using hl, fun j r hr i v hv => ?_⟩, .inr ⟨g, 0, _, cap, hg, rfl⟩, by simp, fun j t ht => ?_⟩
  ·have hj : j < ps.length := by have := (List.getElem?_eq_some_iff.1 hr).1; simpa using this
   rw [List.getElem?_map, List.getElem?_range hj] at hr
   simp only [Option.map_some, Option.some.injEq] at hr
   subst hr
   obtain ⟨q0, q1, q2, -⟩ := hf j hj
   show w.cell? ⟨g, j * 3 + i, none⟩ = _
   match i with
   | 0 => cases hv; exact q0
   | 1 => cases hv; exact q1
   | 2 => cases hv; exact q2
   | i + 3 => simp [RTh] at hv
  ·have hj := (List.getElem?_eq_some_iff.1 ht).1
   exact ⟨f j, by rw [List.getElem?_map, List.getElem?_range hj]; rfl, (hf j hj).2.2.2 t ht⟩
theorem PSl.of {S : Nat → Prop} {w : World} {c : Value} {rs : List Tr} {ps : List Th} (h : REls RTh w c rs) (hS : InS S c) (hl : rs.length = ps.length) (hT : ∀ (j : Nat) (r : Tr) (t : Th), rs[j]? = some r → ps[j]? = some t → TS S w t (.slice r.a1 r.n1 r.c1) (.slice r.a2 r.n2 r.c2) (.slice r.a3 r.n3 r.c3)) : PSl S w c ps := by
 rcases h with ⟨he, rfl⟩ | ⟨g, cap, hgs, rfl, hle, hc⟩
 ·exact .inl ⟨he, List.eq_nil_of_length_eq_zero (by simpa using hl.symm)⟩
 ·by_cases h0 : rs.length = 0
  ·exact .inl ⟨by rw [h0]; exact .inr ⟨_, cap, rfl⟩, List.eq_nil_of_length_eq_zero (by omega)⟩
  ·rcases hS with he | ⟨b, off, n, c2, hb, he⟩
   ·rcases he with he | ⟨x, c2, he⟩
    ·cases he
    ·simp only [Value.slice.injEq] at he; omega
   ·cases he
    refine .inr ⟨g, cap, hb, hgs, by rw [hl], by omega, PT.of_get ps fun j t ht => ?_⟩
    have hj := (List.getElem?_eq_some_iff.1 ht).1
    have hr : rs[j]? = some rs[j] := List.getElem?_eq_getElem (by omega)
    have q := hc j _ hr
    rw [Nat.zero_add]
    exact ⟨_, _, _, q 0 _ rfl, q 1 _ rfl, q 2 _ rfl, hT j _ t hr ht⟩
end Go.Proofs.YtgnloodmbgdgdaaGreat
namespace Go.Proofs.YtgnloodmbgdgdaaGreat
open Go.RowKit Go.Shelf
def Free (S : Nat → Prop) (N : Nat) (va vb vc : Value) (k : Nat) : Prop := S k ∧ k ≠ N ∧ va.ownBlock ≠ some k ∧ vb.ownBlock ≠ some k ∧ vc.ownBlock ≠ some k
def Lie (S : Nat → Prop) (w : World) (rs : List Tr) (ps : List Th) : Prop := rs.length = ps.length ∧ ∀ (j : Nat) (r : Tr) (t : Th), rs[j]? = some r → ps[j]? = some t → TS (fun k => S k ∧ k < w.heap.size) w t (.slice r.a1 r.n1 r.c1) (.slice r.a2 r.n2 r.c2) (.slice r.a3 r.n3 r.c3)
theorem Lie.keep {S S' : Nat → Prop} {w W : World} {rs : List Tr} {ps : List Th} (h : Lie S w rs ps) (hk : KeepS S w W) (hs : ∀ b, b < w.heap.size → S b → S' b) : Lie S' W rs ps :=
 ⟨h.1, fun j r t hr ht => TS.keep (S := fun k => S k ∧ k < w.heap.size) (S' := S') ⟨hk.1, fun b hb hl => hk.2 b hb.1 hl⟩ (fun b hl hb => hs b hl hb.1) t (h.2 j r t hr ht)⟩
theorem Lie.nil (S : Nat → Prop) (w : World) : Lie S w [] [] := ⟨rfl, fun j r t h => by simp at h⟩
theorem Lie.snoc {S : Nat → Prop} {w : World} {rs : List Tr} {ps : List Th} (h : Lie S w rs ps) {r : Tr} {t : Th} (hT : TS (fun k => S k ∧ k < w.heap.size) w t (.slice r.a1 r.n1 r.c1) (.slice r.a2 r.n2 r.c2) (.slice r.a3 r.n3 r.c3)) : Lie S w (rs ++ [r]) (ps ++ [t]) := by
 refine ⟨by simp [h.1], fun j r' t' hr ht => ?_⟩
 by_cases hj : j < ps.length
 ·rw [List.getElem?_append_left (by rw [h.1]; exact hj)] at hr
  rw [List.getElem?_append_left hj] at ht
  exact h.2 j r' t' hr ht
 ·rw [List.getElem?_append_right (by rw [h.1]; omega)] at hr
  rw [List.getElem?_append_right (by omega)] at ht
  have h1 := (List.getElem?_eq_some_iff.1 ht).1
  have e : j - ps.length = 0 := by simpa using h1
  rw [h.1, e] at hr
  rw [e] at ht
  cases hr
  cases ht
  exact hT
structure OB (S : Nat → Prop) (B N : Nat) (w : World) (va vb vc : Value) (cs : List Int) (vs : List Va) (rs : List Tr) (ps : List Th) : Prop where
 box : BoxL N [va, vb, vc] w
 hB : B ≤ N
 oa : ROwn RIn 3 B w va cs
 ob : ROwn RVa 93 B w vb vs
 oc : ROwn RTh 41 B w vc rs
 lie : Lie (Free S N va vb vc) w rs ps
 na : va.ownBlock ≠ some N
 nb : vb.ownBlock ≠ some N
 nc : vc.ownBlock ≠ some N
 ab : ∀ g, va.ownBlock = some g → vb.ownBlock ≠ some g
 ac : ∀ g, va.ownBlock = some g → vc.ownBlock ≠ some g
 bc : ∀ g, vb.ownBlock = some g → vc.ownBlock ≠ some g
section
variable {S : Nat → Prop} {B N : Nat} {w w' : World} {va vb vc : Value} {cs : List Int} {vs : List Va} {rs : List Tr} {ps : List Th}
theorem OB.new (S : Nat → Prop) {B : Nat} (w : World) (T : TypeId) (hB : B ≤ w.heap.size) : OB S B w.heap.size (w.alloc (.cells #[.slice none 0 0, .slice none 0 0, .slice none 0 0] T)) (.slice none 0 0) (.slice none 0 0) (.slice none 0 0) [] [] [] [] :=
 ⟨BoxL.made w _ T, hB, ROwn.nil _ _ _ _, ROwn.nil _ _ _ _, ROwn.nil _ _ _ _, Lie.nil _ _, by simp [Value.ownBlock], by simp [Value.ownBlock], by simp [Value.ownBlock], by simp [Value.ownBlock], by simp [Value.ownBlock], by simp [Value.ownBlock]⟩
theorem OB.frame (h : OB S B N w va vb vc cs vs rs ps) (hB : Since w w') : OB S B N w' va vb vc cs vs rs ps :=
 { h with box := h.box.keep hB, oa := h.oa.below hB, ob := h.ob.below hB, oc := h.oc.below hB, lie := h.lie.keep ⟨hB.size, fun b _ hl => hB.block b hl⟩ fun _ _ h => h }
theorem OB.there1 (h : OB S B N w va vb vc cs vs rs ps) {v' : Value} (hp : PF va w w' v') : BoxL N [va, vb, vc] w' := by
 refine h.box.keepF (F := fun k => k = N) rfl ⟨hp.1.1, fun k hk hl => hp.1.2 k ?_ hl⟩
 rw [hk]; exact h.na
theorem OB.there2 (h : OB S B N w va vb vc cs vs rs ps) {v' : Value} (hp : PF vb w w' v') : BoxL N [va, vb, vc] w' := by
 refine h.box.keepF (F := fun k => k = N) rfl ⟨hp.1.1, fun k hk hl => hp.1.2 k ?_ hl⟩
 rw [hk]; exact h.nb
theorem OB.there3 (h : OB S B N w va vb vc cs vs rs ps) {v' : Value} (hp : PF vc w w' v') : BoxL N [va, vb, vc] w' := by
 refine h.box.keepF (F := fun k => k = N) rfl ⟨hp.1.1, fun k hk hl => hp.1.2 k ?_ hl⟩
 rw [hk]; exact h.nc
theorem OB.set1 (h : OB S B N w va vb vc cs vs rs ps) {v' : Value} {cs' : List Int} (hp : PF va w w' v') (hO : ROwn RIn 3 B w' v' cs') : OB S B N (w'.setCell ⟨N, 0, none⟩ v') v' vb vc cs' vs rs ps := by
 have hN := h.box.1
 have hk := PF.keep (N := N) hp 0 v'
 have fN := hp.far hN h.na
 have kb := fun g (e : vb.ownBlock = some g) (hl : g < w.heap.size) => hk.2 g ⟨fun e2 => h.ab g e2 e, fun e2 => h.nb (e2 ▸ e)⟩ hl
 have kc := fun g (e : vc.ownBlock = some g) (hl : g < w.heap.size) => hk.2 g ⟨fun e2 => h.ac g e2 e, fun e2 => h.nc (e2 ▸ e)⟩ hl
 refine ⟨(h.there1 hp).set1 0 v' (by simp), h.hB, hO.keepS fun g e _ => Below.heap_setCell _ _ _ _ (fun (e2 : g = N) => fN (e2 ▸ e)), h.ob.keepS kb, h.oc.keepS kc, ?_, fN, h.nb, h.nc, fun g e1 e2 => ?_, fun g e1 e2 => ?_, h.bc⟩
 ·exact h.lie.keep ⟨hk.1, fun b hb hl => hk.2 b ⟨hb.2.2.1, hb.2.1⟩ hl⟩ fun b hl hb => ⟨hb.1, hb.2.1, hp.far hl hb.2.2.1, hb.2.2.2.1, hb.2.2.2.2⟩
 ·exact hp.far (h.ob.lt g e2).2 (fun e => h.ab g e e2) e1
 ·exact hp.far (h.oc.lt g e2).2 (fun e => h.ac g e e2) e1
theorem OB.set2 (h : OB S B N w va vb vc cs vs rs ps) {v' : Value} {vs' : List Va} (hp : PF vb w w' v') (hO : ROwn RVa 93 B w' v' vs') : OB S B N (w'.setCell ⟨N, 1, none⟩ v') va v' vc cs vs' rs ps := by
 have hN := h.box.1
 have hk := PF.keep (N := N) hp 1 v'
 have fN := hp.far hN h.nb
 have ka := fun g (e : va.ownBlock = some g) (hl : g < w.heap.size) => hk.2 g ⟨fun e2 => h.ab g e e2, fun e2 => h.na (e2 ▸ e)⟩ hl
 have kc := fun g (e : vc.ownBlock = some g) (hl : g < w.heap.size) => hk.2 g ⟨fun e2 => h.bc g e2 e, fun e2 => h.nc (e2 ▸ e)⟩ hl
 refine ⟨(h.there2 hp).set1 1 v' (by simp), h.hB, h.oa.keepS ka, hO.keepS fun g e _ => Below.heap_setCell _ _ _ _ (fun (e2 : g = N) => fN (e2 ▸ e)), h.oc.keepS kc, ?_, h.na, fN, h.nc, fun g e1 e2 => ?_, h.ac, fun g e1 e2 => ?_⟩
 ·exact h.lie.keep ⟨hk.1, fun b hb hl => hk.2 b ⟨hb.2.2.2.1, hb.2.1⟩ hl⟩ fun b hl hb => ⟨hb.1, hb.2.1, hb.2.2.1, hp.far hl hb.2.2.2.1, hb.2.2.2.2⟩
 ·exact hp.far (h.oa.lt g e1).2 (fun e => h.ab g e1 e) e2
 ·exact hp.far (h.oc.lt g e2).2 (fun e => h.bc g e e2) e1
theorem OB.set3 (h : OB S B N w va vb vc cs vs rs ps) {v' : Value} {rs' : List Tr} {ps' : List Th} (hp : PF vc w w' v') (hO : ROwn RTh 41 B w' v' rs') (hL : Lie (Free S N va vb vc) w rs' ps') : OB S B N (w'.setCell ⟨N, 2, none⟩ v') va vb v' cs vs rs' ps' := by
 have hN := h.box.1
 have hk := PF.keep (N := N) hp 2 v'
 have fN := hp.far hN h.nc
 have ka := fun g (e : va.ownBlock = some g) (hl : g < w.heap.size) => hk.2 g ⟨fun e2 => h.ac g e e2, fun e2 => h.na (e2 ▸ e)⟩ hl
 have kb := fun g (e : vb.ownBlock = some g) (hl : g < w.heap.size) => hk.2 g ⟨fun e2 => h.bc g e e2, fun e2 => h.nb (e2 ▸ e)⟩ hl
 refine ⟨(h.there3 hp).set1 2 v' (by simp), h.hB, h.oa.keepS ka, h.ob.keepS kb, hO.keepS fun g e _ => Below.heap_setCell _ _ _ _ (fun (e2 : g = N) => fN (e2 ▸ e)), ?_, h.na, h.nb, fN, h.ab, fun g e1 e2 => ?_, fun g e1 e2 => ?_⟩
 ·exact hL.keep ⟨hk.1, fun b hb hl => hk.2 b ⟨hb.2.2.2.2, hb.2.1⟩ hl⟩ fun b hl hb => ⟨hb.1, hb.2.1, hb.2.2.1, hb.2.2.2.1, hp.far hl hb.2.2.2.2⟩
 ·exact hp.far (h.oa.lt g e1).2 (fun e => h.ac g e1 e) e2
 ·exact hp.far (h.ob.lt g e1).2 (fun e => h.bc g e1 e) e2
theorem OB.part (h : OB S B N w va vb vc cs vs rs ps) {S0 : Nat → Prop} (hS : ∀ k, k < w'.heap.size → S0 k → S k ∧ (k < B ∨ w.heap.size ≤ k)) {t : Th} {a b c : Value} (hT : TS S0 w' t a b c) : TS (fun k => Free S N va vb vc k ∧ k < w'.heap.size) w' t a b c := by
 refine TS.keep (S' := Free S N va vb vc) ⟨Nat.le_refl _, fun _ _ _ => rfl⟩ (fun k hl hk => ?_) t hT
 have f : ∀ g, B ≤ g ∧ g < w.heap.size → k ≠ g := fun g hg => by have := (hS k hl hk).2; omega
 exact ⟨(hS k hl hk).1, f N ⟨h.hB, h.box.1⟩, fun e => f k (h.oa.lt k e) rfl, fun e => f k (h.ob.lt k e) rfl, fun e => f k (h.oc.lt k e) rfl⟩
theorem OB.done (h : OB S B N w va vb vc cs vs rs ps) (hS : ∀ k, B ≤ k → S k) : TS (fun k => S k ∧ k < w.heap.size) w (.mk cs vs ps) va vb vc := by
 refine TS.of (rin_els h.oa.els) (h.oa.ins.mono fun k hk => ⟨hS k hk.1, hk.2⟩) h.ob.els (h.ob.ins.mono fun k hk => ⟨hS k hk.1, hk.2⟩) (PSl.of h.oc.els (h.oc.ins.mono fun k hk => ⟨hS k hk.1, hk.2⟩) h.lie.1 fun j r t hr ht => ?_)
 have := TS.keep (S' := S) ⟨Nat.le_refl _, fun _ _ _ => rfl⟩ (fun k _ hk => hk.1.1) t (h.lie.2 j r t hr ht)
 exact this
end
end Go.Proofs.YtgnloodmbgdgdaaGreat
namespace Go.Proofs.YtgnloodmbgdgdaaGreat
open Go.RowKit Go.Shelf
theorem Tryz.infoVal : (Tryz.prog.info? 93).map (fun i => (i.zero, i.size, i.bytes)) = some (some (.agg #[.int .i64 0, .int .i64 0, .int .i64 0]), 3, 24) := by kernel_rfl
theorem Tryz.infoTh : (Tryz.prog.info? 41).map (fun i => (i.zero, i.size, i.bytes)) = some (some (.agg #[.slice none 0 0, .slice none 0 0, .slice none 0 0]), 3, 72) := by kernel_rfl
def nn : Nat → Nat
 | 0 => 1
 | d + 1 => 1 + 3 * nn d
theorem nn_pos (d : Nat) : 1 ≤ nn d := by cases d <;> simp [nn]
def np (d : Nat) : Nat := if d ≤ 1 then 0 else nn (d - 1)
theorem np_nn (d : Nat) : 1 + 3 * np d ≤ nn d := by
 unfold np
 split
 ·exact nn_pos d
 ·cases d with
  | zero => omega
  | succ d => simp [nn]
def Tr.v (r : Tr) : Value := .agg #[.slice r.a1 r.n1 r.c1, .slice r.a2 r.n2 r.c2, .slice r.a3 r.n3 r.c3]
def TSr (S : Nat → Prop) (w : World) (t : Th) (r : Tr) : Prop := TS S w t (.slice r.a1 r.n1 r.c1) (.slice r.a2 r.n2 r.c2) (.slice r.a3 r.n3 r.c3)
theorem ratio_box (w : World) (cs : Array Value) (T1 T2 : TypeId) (x y : Int) : BoxL (w.heap.size + 1) [.int .i64 x, .int .i64 y] ((w.alloc (.cells cs T1)).alloc (.cells #[.int .i64 x, .int .i64 y] T2)) := by
 have := BoxL.made (w.alloc (.cells cs T1)) #[.int .i64 x, .int .i64 y] T2
 rwa [World.size_alloc] at this
theorem since_put {W1 wr w' : World} {N : Nat} (hN : W1.heap.size = N) (h : Since W1 wr) (hB : Below N wr w') (o : Nat) (v : Value) : Since W1 (w'.setCell ⟨N, o, none⟩ v) := by
 subst hN
 exact Below.setCell (Below.trans h hB) (p := ⟨W1.heap.size, o, none⟩) (Nat.le_refl _) v
end Go.Proofs.YtgnloodmbgdgdaaGreat
namespace Go.Proofs.YtgnloodmbgdgdaaGreat
open Go.RowKit Go.Shelf
def ThOut (S0 : Nat → Prop) (P : Th → Prop) (W : World) (e : Ending) (w' : World) : Prop :=
 ∃ (t : Th) (r : Tr), e = .returned (.agg #[.slice r.a1 r.n1 r.c1, .slice r.a2 r.n2 r.c2, .slice r.a3 r.n3 r.c3]) ∧ Hid (TSr (fun k => (S0 k ∨ W.heap.size ≤ k) ∧ k < w'.heap.size) w' t r) ∧ Hid (P t) ∧ Hid (Below W.heap.size W w')
def put3 (w : World) (N : Nat) (a b c : Value) : World := ((w.setCell ⟨N, 0, none⟩ a).setCell ⟨N, 1, none⟩ b).setCell ⟨N, 2, none⟩ c
theorem put3_keep {S : Nat → Prop} (w : World) (N : Nat) (a b c : Value) (h : ∀ k, S k → k ≠ N) : KeepS S w (put3 w N a b c) := by
 refine ⟨by unfold put3; simp only [World.size_setCell]; exact Nat.le_refl _, fun k hb hl => ?_⟩
 have hne := h k hb
 unfold put3
 rw [Below.heap_setCell _ _ _ _ hne, Below.heap_setCell _ _ _ _ hne, Below.heap_setCell _ _ _ _ hne]
theorem put3_below {B N : Nat} {w w' : World} (h : Below B w w') (hN : B ≤ N) (a b c : Value) : Below B w (put3 w' N a b c) :=
 ((h.setCell (p := ⟨N, 0, none⟩) hN a).setCell (p := ⟨N, 1, none⟩) hN b).setCell (p := ⟨N, 2, none⟩) hN c
theorem row_set {α : Type} (R : RowOf α) (a b c : α → Value) (hc : ∀ x, R.cells x = [a x, b x, c x]) (rs : List α) (j : Nat) (r : α) (hj : j < rs.length) :
  (((rs.flatMap R.cells).set (j * 3) (a r)).set (j * 3 + 1) (b r)).set (j * 3 + 2) (c r) = (rs.set j r).flatMap R.cells := by
 induction rs generalizing j with
 | nil => simp at hj
 | cons x xs ih =>
  rw [List.flatMap_cons, hc]
  cases j with
  | zero => simp [hc]
  | succ j =>
   have h := ih j (by simpa using hj)
   rw [List.set_cons_succ, List.flatMap_cons, hc, ← h]
   have e : ∀ (n : Nat) (l : List Value) (v : Value), ([a x, b x, c x] ++ l).set (n + 3) v = [a x, b x, c x] ++ l.set n v := fun n l v => rfl
   rw [show (j + 1) * 3 = j * 3 + 3 by omega, show j * 3 + 3 + 1 = j * 3 + 1 + 3 by omega, show j * 3 + 3 + 2 = j * 3 + 2 + 3 by omega, e, e, e]
theorem ROwn.set3 {E : TypeId} {B : Nat} {w : World} {g n c : Nat} {rs : List Tr} (h : ROwn RTh E B w (.slice (some ⟨g, 0, none⟩) n c) rs) (j : Nat) (hj : j < rs.length) (r : Tr) :
  ROwn RTh E B (((w.setCell ⟨g, j * 3, none⟩ (.slice r.a1 r.n1 r.c1)).setCell ⟨g, j * 3 + 1, none⟩ (.slice r.a2 r.n2 r.c2)).setCell ⟨g, j * 3 + 2, none⟩ (.slice r.a3 r.n3 r.c3)) (.slice (some ⟨g, 0, none⟩) n c) (rs.set j r) := by
 have hn := h.els.len
 subst hn
 have h1 := (World.ownsRow.stored h (j * 3) (.slice r.a1 r.n1 r.c1)).1
 have h2 := (World.ownsRow.stored h1 (j * 3 + 1) (.slice r.a2 r.n2 r.c2)).1
 have h3 := (World.ownsRow.stored h2 (j * 3 + 2) (.slice r.a3 r.n3 r.c3)).1
 unfold ROwn
 rw [← row_set RTh (fun x => .slice x.a1 x.n1 x.c1) (fun x => .slice x.a2 x.n2 x.c2) (fun x => .slice x.a3 x.n3 x.c3) (fun _ => rfl) rs j r hj, List.length_set]
 exact h3
end Go.Proofs.YtgnloodmbgdgdaaGreat
