/- Comparisons of lists of values, of things: package thing's Compare and the reference's. -/
import Derived.Test.YtejllfpcffeogaaCb
namespace Go.Proofs.Ytejllfpcffeogaa
open Go.RowKit Go.Shelf

theorem min_nat (n m : Nat) : ∃ q : Nat, q ≤ n ∧ q ≤ m ∧ (q = n ∨ q = m) ∧ ((n : Int) ≤ m ∧ min (n : Int) m = q ∨ ¬ (n : Int) ≤ m ∧ min (n : Int) m = q) := by
  by_cases h : n ≤ m
  · exact ⟨n, by omega, by omega, .inl rfl, .inl ⟨by omega, by omega⟩⟩
  · exact ⟨m, by omega, by omega, .inr rfl, .inr ⟨by omega, by omega⟩⟩

set_option maxHeartbeats 4000000 in
set_option maxRecDepth 100000 in
theorem clv_any (a : Option Addr) (n c : Nat) (b : Option Addr) (m d : Nat) (xs ys : List Va) (w : World) (hx : REls RVa w (.slice a n c) xs) (hy : REls RVa w (.slice b m d) ys) (hn : n ≤ 1000000000) (hm : m ≤ 1000000000) :
    Calls Try.prog 43 #[.slice a n c, .slice b m d, .func (.func 44) #[] #[]] w fun e w' => e = .returned (.int .i64 (lexL vcmp xs ys)) ∧ Below w.heap.size w w' := by
  obtain ⟨q, hq1, hq2, hq3, hq4⟩ := min_nat n m
  have HX := Lib.hid hx
  have HY := Lib.hid hy
  have HXN := Lib.hid hx.len
  have HYN := Lib.hid hy.len
  have HQ : Hid (q = n ∨ q = m) := Lib.hid hq3
  have hst : lexL vcmp (xs.drop 0) (ys.drop 0) = lexL vcmp xs ys := rfl
  generalize lexL vcmp xs ys = R at *
  have HST := Lib.hid hst
  have KC := Lib.hid fun (x y : Int) W => cmpc_any x y W
  have KV := Lib.hid fun (v u : Va) W => cmpv_any v u W
  unfold Va.v at KV
  have HS0 : Hid (Since w w) := Lib.hid (Below.refl _ _)
  clear hx hy hq3 hst
  rcases hq4 with ⟨hle, hmin⟩ | ⟨hle, hmin⟩
  all_goals
    go_enter Try.func43, Try.ntmps43
    go_wp2
    go_loopw [14] (fun x wr => ∃ k : Nat, k ≤ q ∧ x = .int .i64 k ∧ Hid (lexL vcmp (xs.drop k) (ys.drop k) = R) ∧ Hid (Since w wr)) (fun x _ => q - (intOf x).toNat)
    case atStart => exact ⟨0, by omega, rfl, HST, HS0⟩
    case round =>
      obtain ⟨k, hk, rfl, hV, hS⟩ := hrel
      by_cases hlt : k < q
      · have i1 : (k : Int) < q := by omega
        have i2 : k < n := by omega
        have i3 : k < m := by omega
        have i4 : (k : Int) < n := by omega
        have i5 : (k : Int) < m := by omega
        have hEx := HX.out.below hS.out
        have hEy := HY.out.below hS.out
        obtain ⟨x, hx⟩ : ∃ x, xs[k]? = some x := ⟨xs[k]'(by rw [← HXN.out]; exact i2), List.getElem?_eq_getElem _⟩
        obtain ⟨y, hy⟩ : ∃ y, ys[k]? = some y := ⟨ys[k]'(by rw [← HYN.out]; exact i3), List.getElem?_eq_getElem _⟩
        obtain ⟨g1, rfl, -⟩ := hEx.get i2
        obtain ⟨g2, rfl, -⟩ := hEy.get i3
        obtain ⟨p0, p1, p2, -⟩ := va_at hEx hx
        obtain ⟨r0, r1, r2, -⟩ := va_at hEy hy
        have hstep := lexL_step vcmp hx hy
        have KQ := Lib.hid fun W => KV.out x y W
        have hSd : Since wr wr.drew := Since.drew (Since.refl _)
        generalize vcmp x y = v at *
        rw [hV.out] at hstep
        clear hx hy hEx hEy hV
        obtain ⟨xt, xn, xd⟩ := x
        obtain ⟨yt, yn, yd⟩ := y
        simp only at *
        by_cases hv : v = 0
        · subst hv
          rw [if_pos rfl] at hstep
          have HV := Lib.hid hstep.symm
          clear hstep
          go_upto_region 4 with (fail)
          go_region_held3 (fun w' => w'.cell? ⟨g1, k * 3, none⟩ = some (.int .i64 xt) ∧ w'.cell? ⟨g1, k * 3 + 1, none⟩ = some (.int .i64 xn) ∧ w'.cell? ⟨g1, k * 3 + 2, none⟩ = some (.int .i64 xd) ∧ w'.cell? ⟨g2, k * 3, none⟩ = some (.int .i64 yt) ∧ w'.cell? ⟨g2, k * 3 + 1, none⟩ = some (.int .i64 yn) ∧ w'.cell? ⟨g2, k * 3 + 2, none⟩ = some (.int .i64 yd) ∧ Since wr w')
            (first | exact ⟨p0, p1, p2, r0, r1, r2, hSd⟩ | exact ⟨Since.cell hB2 p0, Since.cell hB2 p1, Since.cell hB2 p2, Since.cell hB2 r0, Since.cell hB2 r1, Since.cell hB2 r2, hB2⟩)
            ((go_at_call 44; refine (KQ.out _).mono ?_; rintro e w' ⟨rfl, hr⟩; have hB2 : Since wr w' := Since.step hSd hr; clear hr))
          have HS2 := Lib.hid (Since.step hS.out hB2)
          clear hB2 hSd p0 p1 p2 r0 r1 r2 hS
          go_wp2
          go_roundw
          case rel => exact ⟨k + 1, by omega, by go_num, HV, HS2⟩
          case measure => simp [intOf]; omega
        · rw [if_neg hv] at hstep
          have HV := Lib.hid hstep
          have hv2 : (v != 0) = true := bne_iff_ne.2 hv
          clear hstep hv
          go_upto_region 4 with (fail)
          go_region_held3 (fun w' => w'.cell? ⟨g1, k * 3, none⟩ = some (.int .i64 xt) ∧ w'.cell? ⟨g1, k * 3 + 1, none⟩ = some (.int .i64 xn) ∧ w'.cell? ⟨g1, k * 3 + 2, none⟩ = some (.int .i64 xd) ∧ w'.cell? ⟨g2, k * 3, none⟩ = some (.int .i64 yt) ∧ w'.cell? ⟨g2, k * 3 + 1, none⟩ = some (.int .i64 yn) ∧ w'.cell? ⟨g2, k * 3 + 2, none⟩ = some (.int .i64 yd) ∧ Since wr w')
            (first | exact ⟨p0, p1, p2, r0, r1, r2, hSd⟩ | exact ⟨Since.cell hB2 p0, Since.cell hB2 p1, Since.cell hB2 p2, Since.cell hB2 r0, Since.cell hB2 r1, Since.cell hB2 r2, hB2⟩)
            ((go_at_call 44; refine (KQ.out _).mono ?_; rintro e w' ⟨rfl, hr⟩; have hB2 : Since wr w' := Since.step hSd hr; clear hr))
          have HS2 := Lib.hid (Since.step hS.out hB2)
          clear hB2 hSd p0 p1 p2 r0 r1 r2 hS
          go_wp2
          go_ret
          exact ⟨ret_int HV.out.symm, HS2.out⟩
      · have i1 : ¬ (k : Int) < q := by omega
        have hend := lexL_stop vcmp (la := xs) (bs := ys) (k := k) (by have := HXN.out; omega) (by have := HYN.out; omega) (by have := HXN.out; have := HYN.out; have := HQ.out; omega)
        rw [← HXN.out, ← HYN.out, hV.out] at hend
        have HV := Lib.hid hend
        have KE := Lib.hid fun W => KC.out (n : Int) (m : Int) W
        clear hend hV
        go_wp2_with fail
        refine (KE.out _).mono ?_
        rintro e w2 ⟨rfl, rfl⟩
        go_wp2
        go_ret
        exact ⟨ret_int HV.out.symm, hS.out⟩

/-- Things whose lists are not long. -/
def CmpOk (t : Th) : Prop := t.wf ∧ t.size ≤ 1000000

theorem CmpOk.kid {t u : Th} (h : CmpOk t) (hu : u ∈ t.ps) : CmpOk u := by
  have h1 := (Th.wf_eq t).1 h.1
  have h2 := Th.sizes_mem hu
  have h3 := t.size_eq
  exact ⟨h1.2 u hu, by have := h.2; omega⟩

theorem CmpOk.len {t : Th} (h : CmpOk t) : t.cs.length ≤ 1000000 ∧ t.vs.length ≤ 1000000 ∧ t.ps.length ≤ 1000000 := by
  have h1 := (Th.wf_eq t).1 h.1
  have h2 := Th.sizes_len t.ps
  have h3 := t.size_eq
  exact ⟨h1.1.1.2, h1.1.2.2, by have := h.2; omega⟩

def TCmpK (m : Nat) : Prop := ∀ (t : Th), t.size ≤ m → CmpOk t → ∀ (u : Th), CmpOk u → ∀ (a b c a' b' c' : Value) (W : World), TAt W.heap.size W t a b c → TAt W.heap.size W u a' b' c' →
  Calls Try.prog 19 #[.agg #[a, b, c], .agg #[a', b', c']] W fun e w' => e = .returned (.int .i64 (Th.cmp t u)) ∧ Below W.heap.size W w'

set_option maxHeartbeats 4000000 in
set_option maxRecDepth 100000 in
theorem clt_any (M : Nat) (KT : Hid (TCmpK M)) (a : Option Addr) (n c : Nat) (b : Option Addr) (m d : Nat) (xs ys : List Th) (w : World) (hx : Ps w.heap.size w (.slice a n c) xs) (hy : Ps w.heap.size w (.slice b m d) ys) (hn : n ≤ 1000000000) (hm : m ≤ 1000000000)
    (hs : ∀ t ∈ xs, t.size ≤ M ∧ CmpOk t) (hs2 : ∀ t ∈ ys, CmpOk t) :
    Calls Try.prog 45 #[.slice a n c, .slice b m d, .func (.func 19) #[] #[]] w fun e w' => e = .returned (.int .i64 (lexL Th.cmp xs ys)) ∧ Below w.heap.size w w' := by
  obtain ⟨q, hq1, hq2, hq3, hq4⟩ := min_nat n m
  have HX := Lib.hid hx
  have HY := Lib.hid hy
  have HXN := Lib.hid hx.len
  have HYN := Lib.hid hy.len
  have HQ : Hid (q = n ∨ q = m) := Lib.hid hq3
  have hst : lexL Th.cmp (xs.drop 0) (ys.drop 0) = lexL Th.cmp xs ys := rfl
  generalize lexL Th.cmp xs ys = R at *
  have HST := Lib.hid hst
  have KC := Lib.hid fun (x y : Int) W => cmpc_any x y W
  have HM := Lib.hid hs
  have HM2 := Lib.hid hs2
  have HS0 : Hid (Since w w) := Lib.hid (Below.refl _ _)
  clear hx hy hq3 hst hs hs2
  rcases hq4 with ⟨hle, hmin⟩ | ⟨hle, hmin⟩
  all_goals
    go_enter Try.func45, Try.ntmps45
    go_wp2
    go_loopw [14] (fun x wr => ∃ k : Nat, k ≤ q ∧ x = .int .i64 k ∧ Hid (lexL Th.cmp (xs.drop k) (ys.drop k) = R) ∧ Hid (Since w wr)) (fun x _ => q - (intOf x).toNat)
    case atStart => exact ⟨0, by omega, rfl, HST, HS0⟩
    case round =>
      obtain ⟨k, hk, rfl, hV, hS⟩ := hrel
      by_cases hlt : k < q
      · have i1 : (k : Int) < q := by omega
        have i2 : k < n := by omega
        have i3 : k < m := by omega
        have i4 : (k : Int) < n := by omega
        have i5 : (k : Int) < m := by omega
        obtain ⟨g1, x, rfl, -, -, -, hx, x1, x2, x3, p0, p1, p2, hTx⟩ := (HX.out.below hS.out).get i2
        obtain ⟨g2, y, rfl, -, -, -, hy, y1, y2, y3, r0, r1, r2, hTy⟩ := (HY.out.below hS.out).get i3
        have hmx := HM.out x (List.mem_of_getElem? hx)
        have hmy := HM2.out y (List.mem_of_getElem? hy)
        have hstep := lexL_step Th.cmp hx hy
        have hSd : Since wr wr.drew := Since.drew (Since.refl _)
        have KQ := Lib.hid (KT.out x hmx.1 hmx.2 y hmy _ _ _ _ _ _ wr.drew (TAt.below hSd hTx) (TAt.below hSd hTy))
        generalize Th.cmp x y = v at *
        rw [hV.out] at hstep
        obtain ⟨⟨a1, n1, c1, a2, n2, c2, a3, n3, c3⟩, rfl, rfl, rfl, -⟩ := (TAt.ts x hTx).shape
        obtain ⟨⟨a4, n4, c4, a5, n5, c5, a6, n6, c6⟩, rfl, rfl, rfl, -⟩ := (TAt.ts y hTy).shape
        simp only at p0 p1 p2 r0 r1 r2 KQ
        clear hx hy hV hTx hTy hmx hmy
        by_cases hv : v = 0
        · subst hv
          rw [if_pos rfl] at hstep
          have HV := Lib.hid hstep.symm
          clear hstep
          go_upto_region 4 with (fail)
          go_region_held3 (fun w' => w'.cell? ⟨g1, k * 3, none⟩ = some (.slice a1 n1 c1) ∧ w'.cell? ⟨g1, k * 3 + 1, none⟩ = some (.slice a2 n2 c2) ∧ w'.cell? ⟨g1, k * 3 + 2, none⟩ = some (.slice a3 n3 c3) ∧ w'.cell? ⟨g2, k * 3, none⟩ = some (.slice a4 n4 c4) ∧ w'.cell? ⟨g2, k * 3 + 1, none⟩ = some (.slice a5 n5 c5) ∧ w'.cell? ⟨g2, k * 3 + 2, none⟩ = some (.slice a6 n6 c6) ∧ Since wr w')
            (first | exact ⟨p0, p1, p2, r0, r1, r2, hSd⟩ | exact ⟨Since.cell hB2 p0, Since.cell hB2 p1, Since.cell hB2 p2, Since.cell hB2 r0, Since.cell hB2 r1, Since.cell hB2 r2, hB2⟩)
            ((go_at_call 19; refine KQ.out.mono ?_; rintro e w' ⟨rfl, hr⟩; have hB2 : Since wr w' := Since.step hSd hr; clear hr))
          have HS2 := Lib.hid (Since.step hS.out hB2)
          clear hB2 hSd p0 p1 p2 r0 r1 r2 hS
          go_wp2
          go_roundw
          case rel => exact ⟨k + 1, by omega, by go_num, HV, HS2⟩
          case measure => simp [intOf]; omega
        · rw [if_neg hv] at hstep
          have HV := Lib.hid hstep
          have hv2 : (v != 0) = true := bne_iff_ne.2 hv
          clear hstep hv
          go_upto_region 4 with (fail)
          go_region_held3 (fun w' => w'.cell? ⟨g1, k * 3, none⟩ = some (.slice a1 n1 c1) ∧ w'.cell? ⟨g1, k * 3 + 1, none⟩ = some (.slice a2 n2 c2) ∧ w'.cell? ⟨g1, k * 3 + 2, none⟩ = some (.slice a3 n3 c3) ∧ w'.cell? ⟨g2, k * 3, none⟩ = some (.slice a4 n4 c4) ∧ w'.cell? ⟨g2, k * 3 + 1, none⟩ = some (.slice a5 n5 c5) ∧ w'.cell? ⟨g2, k * 3 + 2, none⟩ = some (.slice a6 n6 c6) ∧ Since wr w')
            (first | exact ⟨p0, p1, p2, r0, r1, r2, hSd⟩ | exact ⟨Since.cell hB2 p0, Since.cell hB2 p1, Since.cell hB2 p2, Since.cell hB2 r0, Since.cell hB2 r1, Since.cell hB2 r2, hB2⟩)
            ((go_at_call 19; refine KQ.out.mono ?_; rintro e w' ⟨rfl, hr⟩; have hB2 : Since wr w' := Since.step hSd hr; clear hr))
          have HS2 := Lib.hid (Since.step hS.out hB2)
          clear hB2 hSd p0 p1 p2 r0 r1 r2 hS
          go_wp2
          go_ret
          exact ⟨ret_int HV.out.symm, HS2.out⟩
      · have i1 : ¬ (k : Int) < q := by omega
        have hend := lexL_stop Th.cmp (la := xs) (bs := ys) (k := k) (by have := HXN.out; omega) (by have := HYN.out; omega) (by have := HXN.out; have := HYN.out; have := HQ.out; omega)
        rw [← HXN.out, ← HYN.out, hV.out] at hend
        have HV := Lib.hid hend
        have KE := Lib.hid fun W => KC.out (n : Int) (m : Int) W
        clear hend hV
        go_wp2_with fail
        refine (KE.out _).mono ?_
        rintro e w2 ⟨rfl, rfl⟩
        go_wp2
        go_ret
        exact ⟨ret_int HV.out.symm, hS.out⟩

/-- The answer of a comparison, part by part. -/
theorem cmp_parts (t u : Th) : (lexL cmpI t.cs u.cs ≠ 0 → Th.cmp t u = lexL cmpI t.cs u.cs) ∧ (lexL cmpI t.cs u.cs = 0 → lexL vcmp t.vs u.vs ≠ 0 → Th.cmp t u = lexL vcmp t.vs u.vs) ∧ (lexL cmpI t.cs u.cs = 0 → lexL vcmp t.vs u.vs = 0 → Th.cmp t u = lexL Th.cmp t.ps u.ps) := by
  rw [Th.cmp_eq]
  exact ⟨fun h => by rw [if_neg h], fun h h2 => by rw [if_pos h, if_neg h2], fun h h2 => by rw [if_pos h, if_pos h2]⟩

set_option maxHeartbeats 4000000 in
set_option maxRecDepth 100000 in
theorem tcmp_step (M : Nat) (KT : Hid (TCmpK M)) : TCmpK (M + 1) := by
  intro t ht hto u huo a b c a' b' c' w hT hU
  have hpt := cmp_parts t u
  obtain ⟨a1, c1, a2, c2, a3, c3, rfl, rfl, rfl, hC, hV, hP, -, -⟩ := hT.shape
  obtain ⟨a4, c4, a5, c5, a6, c6, rfl, rfl, rfl, hC', hV', hP', -, -⟩ := hU.shape
  obtain ⟨l1, l2, l3⟩ := hto.len
  obtain ⟨l4, l5, l6⟩ := huo.len
  have hsz := t.size_eq
  have K1 := Lib.hid fun W (hB : Below w.heap.size w W) => cli_any a1 _ c1 a4 _ c4 _ _ W (hC.below hB) (hC'.below hB) (by omega) (by omega)
  have K2 := Lib.hid fun W (hB : Below w.heap.size w W) => clv_any a2 _ c2 a5 _ c5 _ _ W (hV.below hB) (hV'.below hB) (by omega) (by omega)
  have K3 := Lib.hid fun W (hB : Below w.heap.size w W) => clt_any M KT a3 _ c3 a6 _ c6 _ _ W (hP.below hB) (hP'.below hB) (by omega) (by omega) (fun v hv => ⟨by have := Th.sizes_mem hv; omega, hto.kid hv⟩) (fun v hv => huo.kid hv)
  obtain ⟨W1, hW1⟩ : ∃ W1, W1 = (w.alloc (.cells #[.slice a1 t.cs.length c1, .slice a2 t.vs.length c2, .slice a3 t.ps.length c3] 29)).alloc (.cells #[.slice a4 u.cs.length c4, .slice a5 u.vs.length c5, .slice a6 u.ps.length c6] 29) := ⟨_, rfl⟩
  have hX : BoxL w.heap.size [.slice a1 t.cs.length c1, .slice a2 t.vs.length c2, .slice a3 t.ps.length c3] W1 := by rw [hW1]; exact (BoxL.made w _ _).under _
  have hY : BoxL (w.heap.size + 1) [.slice a4 u.cs.length c4, .slice a5 u.vs.length c5, .slice a6 u.ps.length c6] W1 := by
    rw [hW1]
    have := BoxL.made (w.alloc (.cells #[.slice a1 t.cs.length c1, .slice a2 t.vs.length c2, .slice a3 t.ps.length c3] 29)) #[.slice a4 u.cs.length c4, .slice a5 u.vs.length c5, .slice a6 u.ps.length c6] 29
    rwa [World.size_alloc] at this
  have hB : Below w.heap.size w W1 := by rw [hW1]; exact ((Below.refl _ _).alloc (Nat.le_refl _) _).alloc (by simp) _
  have HB1 := Lib.hid hB
  have HX1 := Lib.hid hX
  have HY1 := Lib.hid hY
  generalize t.cs.length = n1 at *
  generalize t.vs.length = n2 at *
  generalize t.ps.length = n3 at *
  generalize u.cs.length = n4 at *
  generalize u.vs.length = n5 at *
  generalize u.ps.length = n6 at *
  generalize Th.cmp t u = R at *
  generalize lexL cmpI t.cs u.cs = R1 at *
  generalize lexL vcmp t.vs u.vs = R2 at *
  generalize lexL Th.cmp t.ps u.ps = R3 at *
  obtain ⟨x0, x1, x2, -⟩ := hX.open3
  obtain ⟨y0, y1, y2, -⟩ := hY.open3
  clear hC hV hP hC' hV' hP' hT hU hX hY hB hto huo hsz l1 l2 l3 l4 l5 l6 ht KT
  go_enter Try.func19, Try.ntmps19
  go_upto_region 1 with (fail)
  rw [← hW1]
  generalize w.heap.size + 1 = N1 at *
  clear hW1
  go_wp2_with fail
  refine (K1.out _ HB1.out).mono ?_
  rintro e w2 ⟨rfl, hr⟩
  have HB2 := Lib.hid (HB1.out.trans (hr.mono HB1.out.size))
  have HX2 := Lib.hid (HX1.out.keep hr)
  have HY2 := Lib.hid (HY1.out.keep hr)
  clear hr x0 x1 x2 y0 y1 y2 HX1 HY1
  by_cases h1 : R1 = 0
  · obtain ⟨x0, x1, x2, -⟩ := HX2.out.open3
    obtain ⟨y0, y1, y2, -⟩ := HY2.out.open3
    have hpt2 := hpt.2.1 h1
    have hpt3 := hpt.2.2 h1
    subst h1
    clear hpt
    go_wp2_with fail
    refine (K2.out _ HB2.out).mono ?_
    rintro e w3 ⟨rfl, hr⟩
    have HB3 := Lib.hid (HB2.out.trans (hr.mono HB2.out.size))
    have HX3 := Lib.hid (HX2.out.keep hr)
    have HY3 := Lib.hid (HY2.out.keep hr)
    clear hr x0 x1 x2 y0 y1 y2 HX2 HY2
    by_cases h2 : R2 = 0
    · obtain ⟨x0, x1, x2, -⟩ := HX3.out.open3
      obtain ⟨y0, y1, y2, -⟩ := HY3.out.open3
      have HR := Lib.hid (hpt3 h2)
      subst h2
      clear hpt2 hpt3
      go_wp2_with fail
      refine (K3.out _ HB3.out).mono ?_
      rintro e w4 ⟨rfl, hr⟩
      have HB4 := Lib.hid (HB3.out.trans (hr.mono HB3.out.size))
      clear hr
      go_wp2
      go_ret
      exact ⟨ret_int HR.out.symm, HB4.out⟩
    · have HR := Lib.hid (hpt2 h2)
      have hv2 : (R2 != 0) = true := bne_iff_ne.2 h2
      clear hpt2 hpt3 h2
      go_wp2
      go_ret
      exact ⟨ret_int HR.out.symm, HB3.out⟩
  · have HR := Lib.hid (hpt.1 h1)
    have hv2 : (R1 != 0) = true := bne_iff_ne.2 h1
    clear hpt h1
    go_wp2
    go_ret
    exact ⟨ret_int HR.out.symm, HB2.out⟩

theorem tcmp_all : ∀ M : Nat, TCmpK M
  | 0 => fun u hu => by have := u.size_pos; omega
  | M + 1 => tcmp_step M (Lib.hid (tcmp_all M))

end Go.Proofs.Ytejllfpcffeogaa
