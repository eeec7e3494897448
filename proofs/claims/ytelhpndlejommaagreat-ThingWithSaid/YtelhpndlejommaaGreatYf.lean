/- Contracts of package thing: the closure that visits, fits, Valid. -/
import Derived.Test.YtelhpndlejommaaGreatYe
import Derived.Deep.DeepCutAuto
import Derived.Laws.EntriesVeiled
namespace Go.Proofs.YtelhpndlejommaaGreat
open Go.RowKit Go.Shelf

theorem Th.deep_pos (t : Th) : 1 ≤ t.deep := by rw [Th.deep_eq]; omega

set_option maxHeartbeats 4000000 in
set_option maxRecDepth 100000 in
theorem visit_step (m : Nat) (hm : m ≤ 1000000) (KV : Hid (VisitK m)) : VisitK (m + 1) := by
  intro u hu l k B P V x y z W hl hk hBP hBV hV hT
  obtain ⟨a1, c1, a2, c2, a3, c3, rfl, rfl, rfl, -, -, hP, -, -⟩ := hT.shape
  have hse := u.size_eq
  have hde := u.deep_eq
  have hsm : Th.sizes u.ps ≤ m := by omega
  have hPW := hV.2.1.1
  have hBW : B ≤ W.heap.size := by omega
  have i1 : IntKind.i64.wrap ((k : Int) + 1) = (k : Int) + 1 := IntWalk.i64_in _ (by omega)
  have hc1 : ((k + 1 : Nat) : Int) = (k : Int) + 1 := by omega
  have hW3 : ∃ W3, W3 = (((W.setCell ⟨P, 0, none⟩ (.int .i64 ((k : Int) + 1))).alloc (.cells #[.slice a1 u.cs.length c1, .slice a2 u.vs.length c2, .slice a3 u.ps.length c3] 27)).alloc (.cells #[.int .i64 (l : Int)] 3)) := ⟨_, rfl⟩
  obtain ⟨W3, hW3⟩ := hW3
  have hz0 : (W.setCell ⟨P, 0, none⟩ (.int .i64 ((k : Int) + 1))).heap.size = W.heap.size := by simp [World.setCell]
  have hSv : Save P W W3 := by rw [hW3]; exact ((Save.refl P W).set.alloc _).alloc _
  have hBl : Below B W W3 := by rw [hW3]; exact (((Below.refl B W).setCell (p := ⟨P, 0, none⟩) hBP _).alloc (by rw [hz0]; exact hBW) _).alloc (by rw [size_alloc, hz0]; omega) _
  have hVb : VBox P V ((k : Int) + 1) W3 := by
    refine ⟨hV.1, ?_, hV.2.2.save hV.1.symm hSv⟩
    rw [hW3]
    exact ((hV.2.1.store1 _).under _).under _
  have hX : BoxL W.heap.size [.slice a1 u.cs.length c1, .slice a2 u.vs.length c2, .slice a3 u.ps.length c3] W3 := by
    have h0 := (BoxL.made (W.setCell ⟨P, 0, none⟩ (.int .i64 ((k : Int) + 1))) #[.slice a1 u.cs.length c1, .slice a2 u.vs.length c2, .slice a3 u.ps.length c3] 27).under (.cells #[.int .i64 (l : Int)] 3)
    rw [hz0, ← hW3] at h0
    exact h0
  have hN : BoxL (W.heap.size + 1) [.int .i64 (l : Int)] W3 := by
    have h0 := BoxL.made ((W.setCell ⟨P, 0, none⟩ (.int .i64 ((k : Int) + 1))).alloc (.cells #[.slice a1 u.cs.length c1, .slice a2 u.vs.length c2, .slice a3 u.ps.length c3] 27)) #[.int .i64 (l : Int)] 3
    rw [size_alloc, hz0, ← hW3] at h0
    exact h0
  have hB3 : B ≤ W3.heap.size := Nat.le_trans hBW hBl.size
  have HVB := Lib.hid hVb
  have HVN : Hid (VBox P V ((k + 1 : Nat) : Int) W3) := Lib.hid (by rw [hc1]; exact hVb)
  have HSV := Lib.hid hSv
  have HBL := Lib.hid hBl
  have HSE := Lib.hid hse
  have HDE := Lib.hid hde
  obtain ⟨p0, p1, p2⟩ := hV.2.1.open1
  by_cases hk1 : 96 < k + 1
  · have j1 : (k : Int) + 1 > 96 := by omega
    have HQ : Hid (96 < k + u.size ∨ 9 < l + u.deep) := Lib.hid (.inl (by omega))
    have HX := Lib.hid hX
    generalize u.size = us at *
    generalize u.deep = ud at *
    generalize u.cs.length = m1 at *
    generalize u.vs.length = m2 at *
    generalize u.ps.length = m3 at *
    clear hz0 hc1 hP hT hV KV hse hde hsm hVb hSv hBl hN hX
    go_enter Tryz.func48, Tryz.ntmps48
    go_upto_region 2 with (fail)
    rw [← hW3]
    clear hW3
    obtain ⟨q0, q1, q2⟩ := HVB.out.2.1.open1
    go_wp2
    go_ret
    exact ⟨false, k + 1, rfl, Lib.hid ⟨fun hh => (by cases hh), fun _ => HQ.out⟩, HVN, HSV, HBL⟩
  · have j1 : ¬ (k : Int) + 1 > 96 := by omega
    by_cases hl8 : 8 < l
    · have j2 : (l : Int) > 8 := by omega
      have HQ : Hid (96 < k + u.size ∨ 9 < l + u.deep) := Lib.hid (.inr (by have := u.deep_pos; omega))
      generalize u.size = us at *
      generalize u.deep = ud at *
      generalize u.cs.length = m1 at *
      generalize u.vs.length = m2 at *
      generalize u.ps.length = m3 at *
      have HN := Lib.hid hN
      clear hz0 hc1 hP hT hV KV hse hde hsm hVb hSv hBl hX hN
      go_enter Tryz.func48, Tryz.ntmps48
      go_upto_region 2 with (fail)
      rw [← hW3]
      clear hW3
      obtain ⟨q0, q1, q2⟩ := HVB.out.2.1.open1
      obtain ⟨n0, n1, n2⟩ := HN.out.open1
      go_wp2
      go_ret
      exact ⟨false, k + 1, rfl, Lib.hid ⟨fun hh => (by cases hh), fun _ => HQ.out⟩, HVN, HSV, HBL⟩
    · have j2 : ¬ (l : Int) > 8 := by omega
      have KC := Lib.hid (conv_any m hm KV _ u.ps l (k + 1) B P V (W.heap.size + 1) W3 (by omega) (by omega) hBP hBV HVN.out hN (by omega) hB3 (hP.low hBl) hsm)
      generalize Th.sizes u.ps = ss at *
      generalize Th.deeps u.ps = sd at *
      generalize u.size = us at *
      generalize u.deep = ud at *
      generalize u.cs.length = m1 at *
      generalize u.vs.length = m2 at *
      generalize u.ps.length = m3 at *
      have HN := Lib.hid hN
      have HX := Lib.hid hX
      clear hz0 hc1 hP hT hV KV hse hde hsm hVb hSv hBl hN hX
      go_enter Tryz.func48, Tryz.ntmps48
      go_upto_region 2 with (fail)
      rw [← hW3]
      clear hW3
      obtain ⟨q0, q1, q2⟩ := HVB.out.2.1.open1
      obtain ⟨n0, n1, n2⟩ := HN.out.open1
      obtain ⟨x0, x1, x2, -, -, -, x3⟩ := HX.out.open3
      go_wp2_with fail
      refine (KC.out).mono ?_
      rintro e w2 ⟨q, k', rfl, hq, hV2, hS2, hB2⟩
      have HS4 := Lib.hid (HSV.out.trans hS2.out)
      have HB4 := Lib.hid (HBL.out.trans hB2.out)
      have HQ : Hid (((!q) = true → k' = k + us ∧ k' ≤ 96 ∧ l + ud ≤ 9) ∧ ((!q) = false → 96 < k + us ∨ 9 < l + ud)) := Lib.hid (by
        have h1 := HSE.out
        have h2 := HDE.out
        obtain ⟨e1, e2⟩ := hq.out
        constructor
        · intro h
          obtain ⟨f1, f2, f3⟩ := e1 (by simpa using h)
          omega
        · intro h
          have := e2 (by simpa using h)
          omega)
      clear hq hS2 hB2
      go_wp2
      go_ret
      exact ⟨!q, k', rfl, HQ, hV2, HS4, HB4⟩

theorem visit_all : ∀ m : Nat, m ≤ 1000000 → VisitK m
  | 0, _ => fun u hu => by have := u.size_pos; omega
  | m + 1, h => visit_step m (by omega) (Lib.hid (visit_all m (by omega)))

set_option maxHeartbeats 4000000 in
set_option maxRecDepth 100000 in
theorem fits_any (t : Th) (ht : t.size ≤ 1000000) (a b c : Value) (w : World) (h : TAt w.heap.size w t a b c) :
    Calls Tryz.prog 23 #[.agg #[a, b, c]] w fun e w' => e = .returned (.bool (decide (t.size ≤ 96 ∧ t.deep ≤ 8))) ∧ Below w.heap.size w w' := by
  obtain ⟨a1, c1, a2, c2, a3, c3, rfl, rfl, rfl, -⟩ := h.shape
  have hW : ∃ W, W = ((w.alloc (.cells #[.slice a1 t.cs.length c1, .slice a2 t.vs.length c2, .slice a3 t.ps.length c3] 27)).alloc (.cells #[.int .i64 0] 3)).alloc (.cells #[(.func (.func 48) #[] #[.pointer (some ⟨w.heap.size + 1, 0, none⟩), .pointer (some ⟨w.heap.size + 1 + 1, 0, none⟩)])] 69) := ⟨_, rfl⟩
  obtain ⟨W, hW⟩ := hW
  have hBl : Below w.heap.size w W := by rw [hW]; exact (((Below.refl _ w).alloc (Nat.le_refl _) _).alloc (by simp) _).alloc (by simp; omega) _
  have hP : BoxL (w.heap.size + 1) [.int .i64 0] W := by
    have h0 := (BoxL.made (w.alloc (.cells #[.slice a1 t.cs.length c1, .slice a2 t.vs.length c2, .slice a3 t.ps.length c3] 27)) #[.int .i64 0] 3).under (.cells #[(.func (.func 48) #[] #[.pointer (some ⟨w.heap.size + 1, 0, none⟩), .pointer (some ⟨w.heap.size + 1 + 1, 0, none⟩)])] 69)
    rw [size_alloc, ← hW] at h0
    exact h0
  have hV : BoxL (w.heap.size + 1 + 1) [(.func (.func 48) #[] #[.pointer (some ⟨w.heap.size + 1, 0, none⟩), .pointer (some ⟨w.heap.size + 1 + 1, 0, none⟩)])] W := by
    have h0 := BoxL.made ((w.alloc (.cells #[.slice a1 t.cs.length c1, .slice a2 t.vs.length c2, .slice a3 t.ps.length c3] 27)).alloc (.cells #[.int .i64 0] 3)) #[(.func (.func 48) #[] #[.pointer (some ⟨w.heap.size + 1, 0, none⟩), .pointer (some ⟨w.heap.size + 1 + 1, 0, none⟩)])] 69
    rw [size_alloc, size_alloc, ← hW] at h0
    exact h0
  have hX : BoxL w.heap.size [.slice a1 t.cs.length c1, .slice a2 t.vs.length c2, .slice a3 t.ps.length c3] W := by
    have h0 := ((BoxL.made w #[.slice a1 t.cs.length c1, .slice a2 t.vs.length c2, .slice a3 t.ps.length c3] 27).under (.cells #[.int .i64 0] 3)).under (.cells #[(.func (.func 48) #[] #[.pointer (some ⟨w.heap.size + 1, 0, none⟩), .pointer (some ⟨w.heap.size + 1 + 1, 0, none⟩)])] 69)
    rw [← hW] at h0
    exact h0
  have K := Lib.hid (visit_all t.size ht t (Nat.le_refl _) 1 0 w.heap.size (w.heap.size + 1) (w.heap.size + 1 + 1) _ _ _ W (by omega) (by omega) (by omega) (by omega) ⟨by omega, hP, hV⟩ (TAt.low hBl t h))
  have HD : Hid (∀ (q : Bool) (k' : Nat), ((q = true → k' = 0 + t.size ∧ k' ≤ 96 ∧ 1 + t.deep ≤ 9) ∧ (q = false → 96 < 0 + t.size ∨ 9 < 1 + t.deep)) → q = decide (t.size ≤ 96 ∧ t.deep ≤ 8)) := Lib.hid fun q k' hh => by
    cases q with
    | true =>
      obtain ⟨e1, e2, e3⟩ := hh.1 rfl
      exact (decide_eq_true ⟨by omega, by omega⟩).symm
    | false =>
      have := hh.2 rfl
      exact (decide_eq_false (by omega)).symm
  have HB := Lib.hid hBl
  generalize decide (t.size ≤ 96 ∧ t.deep ≤ 8) = R at *
  have HX := Lib.hid hX
  have HV := Lib.hid hV
  generalize t.size = ts at *
  generalize t.deep = td at *
  generalize t.cs.length = m1 at *
  generalize t.vs.length = m2 at *
  generalize t.ps.length = m3 at *
  clear h hBl hP hV hX ht
  go_enter Tryz.func23, Tryz.ntmps23
  go_upto_region 4 with (fail)
  rw [← hW]
  clear hW
  obtain ⟨x0, x1, x2, -, -, -, x3⟩ := HX.out.open3
  obtain ⟨v0, v1, v2⟩ := HV.out.open1
  go_wp2_with fail
  refine (K.out).mono ?_
  rintro e w2 ⟨q, k', rfl, hq, hV2, hS2, hB2⟩
  have HQ := Lib.hid (HD.out q k' hq.out)
  have HB2 := Lib.hid (HB.out.trans hB2.out)
  clear hq hV2 hS2 hB2
  go_wp2
  go_ret
  exact ⟨ret_bool HQ.out, HB2.out⟩

/-- What Valid says. -/
noncomputable def validT (t : Th) : Int := if 96 < t.size ∨ 8 < t.deep then 4 else if t.goodB = true then 0 else 1

set_option maxHeartbeats 2000000 in
set_option maxRecDepth 100000 in
theorem tvalid_any (t : Th) (ht : t.size ≤ 1000000) (hwf : t.wf) (a b c : Value) (w : World) (h : TAt w.heap.size w t a b c) :
    Calls Tryz.prog 10 #[.agg #[a, b, c]] w fun e w' => e = .returned (.int .i64 (validT t)) ∧ Below w.heap.size w w' := by
  obtain ⟨a1, c1, a2, c2, a3, c3, rfl, rfl, rfl, -⟩ := h.shape
  have hab := fun o : Obj => h.under o
  have HB0 := Lib.hid ((Below.refl w.heap.size w).alloc (Nat.le_refl _) (.cells #[.slice a1 t.cs.length c1, .slice a2 t.vs.length c2, .slice a3 t.ps.length c3] 27))
  have XA := Lib.hid (BoxL.made w #[.slice a1 t.cs.length c1, .slice a2 t.vs.length c2, .slice a3 t.ps.length c3] 27)
  have K1 := Lib.hid (fits_any t ht _ _ _ _ (hab (.cells #[.slice a1 t.cs.length c1, .slice a2 t.vs.length c2, .slice a3 t.ps.length c3] 27)))
  have K2 := Lib.hid fun W (hB : Below w.heap.size w W) => proper_all t.size ht t (Nat.le_refl _) hwf _ _ _ W (h.below hB)
  have hv1 : ¬ (t.size ≤ 96 ∧ t.deep ≤ 8) → validT t = 4 := fun hn => by unfold validT; rw [if_pos (by omega)]
  have hv2 : (t.size ≤ 96 ∧ t.deep ≤ 8) → t.goodB = true → validT t = 0 := fun hn hg => by unfold validT; rw [if_neg (by omega), if_pos hg]
  have hv3 : (t.size ≤ 96 ∧ t.deep ≤ 8) → t.goodB = false → validT t = 1 := fun hn hg => by unfold validT; rw [if_neg (by omega), if_neg (by rw [hg]; simp)]
  generalize validT t = R at *
  generalize t.goodB = G at *
  by_cases hf : t.size ≤ 96 ∧ t.deep ≤ 8
  · have hv2 := hv2 hf
    have hv3 := hv3 hf
    rw [decide_eq_true hf] at K1
    clear hv1 hf ht
    generalize t.cs.length = m1 at *
    generalize t.vs.length = m2 at *
    generalize t.ps.length = m3 at *
    clear h hab hwf
    cases G
    case true =>
      have HR := Lib.hid (hv2 rfl)
      clear hv2 hv3
      go_enter Tryz.func10, Tryz.ntmps10
      go_wp2_with fail
      refine (K1.out).mono ?_
      rintro e w1 ⟨rfl, hr⟩
      have X1 := Lib.hid (XA.out.keep hr)
      have HB1 := Lib.hid (below_new hr)
      clear hr
      obtain ⟨x0, x1, x2, -, -, -, x3⟩ := X1.out.open3
      go_wp2_with fail
      refine (K2.out _ HB1.out).mono ?_
      rintro e w2 ⟨rfl, hr⟩
      have HB2 := Lib.hid (HB1.out.trans (hr.mono HB1.out.size))
      clear hr
      go_wp2
      go_ret
      exact ⟨ret_int HR.out.symm, HB2.out⟩
    case false =>
      have HR := Lib.hid (hv3 rfl)
      clear hv2 hv3
      go_enter Tryz.func10, Tryz.ntmps10
      go_wp2_with fail
      refine (K1.out).mono ?_
      rintro e w1 ⟨rfl, hr⟩
      have X1 := Lib.hid (XA.out.keep hr)
      have HB1 := Lib.hid (below_new hr)
      clear hr
      obtain ⟨x0, x1, x2, -, -, -, x3⟩ := X1.out.open3
      go_wp2_with fail
      refine (K2.out _ HB1.out).mono ?_
      rintro e w2 ⟨rfl, hr⟩
      have HB2 := Lib.hid (HB1.out.trans (hr.mono HB1.out.size))
      clear hr
      go_wp2
      go_ret
      exact ⟨ret_int HR.out.symm, HB2.out⟩
  · have HR := Lib.hid (hv1 hf)
    rw [decide_eq_false hf] at K1
    clear hv1 hv2 hv3 hf ht
    generalize t.cs.length = m1 at *
    generalize t.vs.length = m2 at *
    generalize t.ps.length = m3 at *
    clear h hab hwf
    go_enter Tryz.func10, Tryz.ntmps10
    go_wp2_with fail
    refine (K1.out).mono ?_
    rintro e w1 ⟨rfl, hr⟩
    have HB1 := Lib.hid (below_new hr)
    clear hr
    go_wp2
    go_ret
    exact ⟨ret_int HR.out.symm, HB1.out⟩

end Go.Proofs.YtelhpndlejommaaGreat
