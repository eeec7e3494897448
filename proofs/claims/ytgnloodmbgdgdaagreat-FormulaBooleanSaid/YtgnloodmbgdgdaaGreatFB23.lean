import Derived.Test.YtgnloodmbgdgdaaGreatFB17
import Derived.Test.YtgnloodmbgdgdaaGreatFB22
namespace Go.Proofs.YtgnloodmbgdgdaaGreat
open Go.RowKit Go.Shelf
def IdxB (v : Bool) (w : World) (e : Ending) (w' : World) : Prop :=
 ((e = .returned (.int .i64 (-1)) ∧ v = false) ∨ ∃ j : Nat, e = .returned (.int .i64 (j : Int)) ∧ v = true) ∧ Hid (Below w.heap.size w w')
theorem any_snoc {α : Type} (p : α → Bool) {zs : List α} {k : Nat} {q : α} (h : zs[k]? = some q) : (zs.take (k + 1)).any p = ((zs.take k).any p || p q) := by
 rw [List.take_add_one, h]
 simp
set_option maxHeartbeats 4000000 in
set_option maxRecDepth 100000 in
theorem hc1_idx (N : Nat) (p : Int → Bool) (sv : Value) (zs : List Int) (w : World) (h : Els .i64 w sv zs) (hl : zs.length ≤ 1000000) (K1 : Hid (∀ (q : Int), q ∈ zs → ∀ W, Since w W → Calls Tryz.prog 105 #[.int .i64 q, .pointer (some ⟨N, 0, none⟩)] W fun e w' => e = .returned (.bool (p q)) ∧ Below W.heap.size W w')) :
  Calls Tryz.prog 158 #[sv, .func (.func 105) #[] #[.pointer (some ⟨N, 0, none⟩)]] w (IdxB (zs.any p) w) := by
 obtain ⟨a0, c0, rfl⟩ := h.shape
 generalize hm2 : zs.length = m at *
 have HPs : Hid (∀ W, Since w W → Els .i64 W (.slice a0 m c0) zs) := Lib.hid fun W (hB : Since w W) => h.below hB
 have HM := Lib.hid hm2
 have HS0 := Lib.hid (since_r w)
 have HA0 : Hid ((zs.take 0).any p = false) := Lib.hid rfl
 clear h hm2
 go_enter Tryz.func158, Tryz.ntmps158
 go_wp2
 go_loopw [8] (fun v wr => ∃ k : Nat, k ≤ m ∧ v = .int .i64 k ∧ Hid ((zs.take k).any p = false) ∧ Hid (Since w wr)) (fun v _ => m - (intOf v).toNat)
 case atStart => exact ⟨0, by omega, rfl, HA0, HS0⟩
 case round =>
  clear HS0 HA0
  obtain ⟨k, hk, rfl, hlt, hS⟩ := hrel
  by_cases hkm : k < m
  ·have i1 : (k : Int) < m := by omega
   have i4 : ((k : Int)).toNat = k := by omega
   obtain ⟨g, off, rfl, e0⟩ := (HPs.out wr hS.out).at k hkm
   have hq : zs[k]? = some (zs[k]?.getD 0) := by rw [List.getElem?_eq_getElem (by rw [HM.out]; exact hkm)]; rfl
   generalize zs[k]?.getD 0 = q at *
   have kq := K1.out q (List.mem_of_getElem? hq) wr hS.out
   have HAN := Lib.hid (any_snoc p hq)
   have HMEM := Lib.hid (List.mem_of_getElem? hq)
   cases hv : p q with
   | true =>
    have hy : zs.any p = true := List.any_eq_true.2 ⟨q, HMEM.out, hv⟩
    rw [hv] at kq
    have KQ := Lib.hid kq
    have HY := Lib.hid hy
    clear kq hq hlt hv hy HAN HMEM
    go_wp2_with fail
    refine KQ.out.mono ?_
    rintro e w2 ⟨rfl, hr⟩
    have HB2 := Lib.hid (Since.step hS.out hr)
    clear hr
    go_wp2
    go_ret
    exact ⟨.inr ⟨k, rfl, HY.out⟩, HB2⟩
   | false =>
    rw [hv] at kq
    have KQ := Lib.hid kq
    have HN := Lib.hid (by rw [HAN.out, hlt.out, hv]; rfl : (zs.take (k + 1)).any p = false)
    clear kq hq hlt hv HAN HMEM
    go_wp2_with fail
    refine KQ.out.mono ?_
    rintro e w2 ⟨rfl, hr⟩
    have HB2 := Lib.hid (Since.step hS.out hr)
    clear hr
    clear e0
    go_wp2
    go_roundw
    case rel => exact ⟨k + 1, by omega, by go_num, HN, HB2⟩
    case measure => simp [intOf]; omega
  ·have i1 : ¬ (k : Int) < m := by omega
   have hkn : k = m := by omega
   have HF := Lib.hid hlt.out
   rw [hkn, ← HM.out, List.take_length] at HF
   clear hlt hkn
   go_wp2
   go_ret
   exact ⟨.inl ⟨rfl, HF.out⟩, hS⟩
set_option maxHeartbeats 4000000 in
set_option maxRecDepth 100000 in
theorem hc1_has (N : Nat) (p : Int → Bool) (sv : Value) (zs : List Int) (w : World) (h : Els .i64 w sv zs) (hl : zs.length ≤ 1000000) (K1 : Hid (∀ (q : Int), q ∈ zs → ∀ W, Since w W → Calls Tryz.prog 105 #[.int .i64 q, .pointer (some ⟨N, 0, none⟩)] W fun e w' => e = .returned (.bool (p q)) ∧ Below W.heap.size W w')) :
  Calls Tryz.prog 104 #[sv, .func (.func 105) #[] #[.pointer (some ⟨N, 0, none⟩)]] w fun e w' => e = .returned (.bool (zs.any p)) ∧ Below w.heap.size w w' := by
 have KI := Lib.hid (hc1_idx N p sv zs w h hl K1)
 obtain ⟨a0, c0, rfl⟩ := h.shape
 generalize zs.length = m at *
 clear h hl K1
 generalize zs.any p = v at *
 go_enter Tryz.func104, Tryz.ntmps104
 go_wp2_with fail
 refine KI.out.mono ?_
 rintro e w2 ⟨⟨rfl, rfl⟩ | ⟨j, rfl, rfl⟩, h2⟩
 ·go_wp2
  go_ret
  exact ⟨rfl, h2.out⟩
 ·have i1 : (0 : Int) ≤ (j : Int) := by omega
  go_wp2
  go_ret
  exact ⟨by simp, h2.out⟩
set_option maxHeartbeats 4000000 in
set_option maxRecDepth 100000 in
theorem hc2_idx (N : Nat) (p : Th → Bool) (sv : Value) (zs : List Th) (w : World) (h : Ps w.heap.size w sv zs) (hl : zs.length ≤ 1000000) (K1 : Hid (∀ (q : Th), q ∈ zs → ∀ (a b c : Value) W, Since w W → TAt W.heap.size W q a b c → Calls Tryz.prog 107 #[.agg #[a, b, c], .pointer (some ⟨N, 0, none⟩)] W fun e w' => e = .returned (.bool (p q)) ∧ Below W.heap.size W w')) :
  Calls Tryz.prog 159 #[sv, .func (.func 107) #[] #[.pointer (some ⟨N, 0, none⟩)]] w (IdxB (zs.any p) w) := by
 obtain ⟨a0, c0, rfl⟩ := h.shape
 generalize hm2 : zs.length = m at *
 have HPs : Hid (∀ W, Since w W → Ps W.heap.size W (.slice a0 m c0) zs) := Lib.hid fun W (hB : Since w W) => Ps.below hB h
 have HM := Lib.hid hm2
 have HS0 := Lib.hid (since_r w)
 have HA0 : Hid ((zs.take 0).any p = false) := Lib.hid rfl
 clear h hm2
 go_enter Tryz.func159, Tryz.ntmps159
 go_wp2
 go_loopw [8] (fun v wr => ∃ k : Nat, k ≤ m ∧ v = .int .i64 k ∧ Hid ((zs.take k).any p = false) ∧ Hid (Since w wr)) (fun v _ => m - (intOf v).toNat)
 case atStart => exact ⟨0, by omega, rfl, HA0, HS0⟩
 case round =>
  clear HS0 HA0
  obtain ⟨k, hk, rfl, hlt, hS⟩ := hrel
  by_cases hkm : k < m
  ·have i1 : (k : Int) < m := by omega
   have i4 : ((k : Int)).toNat = k := by omega
   obtain ⟨g, q, rfl, -, -, -, hq, v1, v2, v3, e0, e1, e2, hTq⟩ := (HPs.out wr hS.out).get (j := k) hkm
   have kq := K1.out q (List.mem_of_getElem? hq) _ _ _ wr hS.out hTq
   obtain ⟨a1, x1, a2, x2, a3, x3, rfl, rfl, rfl, -⟩ := hTq.shape
   clear hTq
   generalize q.cs.length = l1 at *
   generalize q.vs.length = l2 at *
   generalize q.ps.length = l3 at *
   have HAN := Lib.hid (any_snoc p hq)
   have HMEM := Lib.hid (List.mem_of_getElem? hq)
   cases hv : p q with
   | true =>
    have hy : zs.any p = true := List.any_eq_true.2 ⟨q, HMEM.out, hv⟩
    rw [hv] at kq
    have KQ := Lib.hid kq
    have HY := Lib.hid hy
    clear kq hq hlt hv hy HAN HMEM
    go_wp2_with fail
    refine KQ.out.mono ?_
    rintro e w2 ⟨rfl, hr⟩
    have HB2 := Lib.hid (Since.step hS.out hr)
    clear hr
    go_wp2
    go_ret
    exact ⟨.inr ⟨k, rfl, HY.out⟩, HB2⟩
   | false =>
    rw [hv] at kq
    have KQ := Lib.hid kq
    have HN := Lib.hid (by rw [HAN.out, hlt.out, hv]; rfl : (zs.take (k + 1)).any p = false)
    clear kq hq hlt hv HAN HMEM
    go_wp2_with fail
    refine KQ.out.mono ?_
    rintro e w2 ⟨rfl, hr⟩
    have HB2 := Lib.hid (Since.step hS.out hr)
    clear hr
    clear e0 e1 e2
    go_wp2
    go_roundw
    case rel => exact ⟨k + 1, by omega, by go_num, HN, HB2⟩
    case measure => simp [intOf]; omega
  ·have i1 : ¬ (k : Int) < m := by omega
   have hkn : k = m := by omega
   have HF := Lib.hid hlt.out
   rw [hkn, ← HM.out, List.take_length] at HF
   clear hlt hkn
   go_wp2
   go_ret
   exact ⟨.inl ⟨rfl, HF.out⟩, hS⟩
set_option maxHeartbeats 4000000 in
set_option maxRecDepth 100000 in
theorem hc2_has (N : Nat) (p : Th → Bool) (sv : Value) (zs : List Th) (w : World) (h : Ps w.heap.size w sv zs) (hl : zs.length ≤ 1000000) (K1 : Hid (∀ (q : Th), q ∈ zs → ∀ (a b c : Value) W, Since w W → TAt W.heap.size W q a b c → Calls Tryz.prog 107 #[.agg #[a, b, c], .pointer (some ⟨N, 0, none⟩)] W fun e w' => e = .returned (.bool (p q)) ∧ Below W.heap.size W w')) :
  Calls Tryz.prog 106 #[sv, .func (.func 107) #[] #[.pointer (some ⟨N, 0, none⟩)]] w fun e w' => e = .returned (.bool (zs.any p)) ∧ Below w.heap.size w w' := by
 have KI := Lib.hid (hc2_idx N p sv zs w h hl K1)
 obtain ⟨a0, c0, rfl⟩ := h.shape
 generalize zs.length = m at *
 clear h hl K1
 generalize zs.any p = v at *
 go_enter Tryz.func106, Tryz.ntmps106
 go_wp2_with fail
 refine KI.out.mono ?_
 rintro e w2 ⟨⟨rfl, rfl⟩ | ⟨j, rfl, rfl⟩, h2⟩
 ·go_wp2
  go_ret
  exact ⟨rfl, h2.out⟩
 ·have i1 : (0 : Int) ≤ (j : Int) := by omega
  go_wp2
  go_ret
  exact ⟨by simp, h2.out⟩
end Go.Proofs.YtgnloodmbgdgdaaGreat
namespace Go.Proofs.YtgnloodmbgdgdaaGreat
open Go.RowKit Go.Shelf
def valV : List Va → Int → Int × Int × Bool
 | [], _ => (0, 0, false)
 | v :: vs, a => if v.t = a then (v.n, v.d, true) else valV vs a
theorem valV_skip {vs : List Va} {a : Int} {k : Nat} {v : Va} (h : vs[k]? = some v) (hn : v.t ≠ a) : valV (vs.drop k) a = valV (vs.drop (k + 1)) a := by
 have hk := (List.getElem?_eq_some_iff.1 h).1
 have e : vs.drop k = v :: vs.drop (k + 1) := by
  rw [List.drop_eq_getElem_cons hk, (List.getElem?_eq_some_iff.1 h).2]
 rw [e, valV, if_neg hn]
theorem valV_hit {vs : List Va} {k : Nat} {v : Va} (h : vs[k]? = some v) : valV (vs.drop k) v.t = (v.n, v.d, true) := by
 have hk := (List.getElem?_eq_some_iff.1 h).1
 have e : vs.drop k = v :: vs.drop (k + 1) := by
  rw [List.drop_eq_getElem_cons hk, (List.getElem?_eq_some_iff.1 h).2]
 rw [e, valV, if_pos rfl]
def ValOut (r : Int × Int × Bool) (w : World) (e : Ending) (w' : World) : Prop := e = .returned (.tuple #[.agg #[.int .i64 r.1, .int .i64 r.2.1], .bool r.2.2]) ∧ Below w.heap.size w w'
set_option maxHeartbeats 4000000 in
set_option maxRecDepth 100000 in
theorem tvalue_any (t : Th) (at' : Int) (a b c : Value) (w : World) (h : TAt w.heap.size w t a b c) (hl : t.vs.length ≤ 1000000) :
  Calls Tryz.prog 110 #[.agg #[a, b, c], .int .i64 at'] w (ValOut (valV t.vs at') w) := by
 obtain ⟨a1, c1, a2, c2, a3, c3, rfl, rfl, rfl, -, hE, -, -, -⟩ := h.shape
 have HE := Lib.hid hE
 generalize t.cs.length = m1 at *
 generalize t.ps.length = m3 at *
 generalize t.vs = vs at *
 have hst : valV (vs.drop 0) at' = valV vs at' := rfl
 generalize valV vs at' = R at *
 have HST := Lib.hid hst
 have hX := BoxL.made (w.alloc (.cells #[.slice a1 m1 c1, .slice a2 vs.length c2, .slice a3 m3 c3] 41)) #[.int .i64 0, .int .i64 0] 91
 have hB : Below w.heap.size w ((w.alloc (.cells #[.slice a1 m1 c1, .slice a2 vs.length c2, .slice a3 m3 c3] 41)).alloc (.cells #[.int .i64 0, .int .i64 0] 91)) := ((Below.refl _ _).alloc (Nat.le_refl _) _).alloc (by simp) _
 rw [World.size_alloc] at hX
 have HX := Lib.hid hX
 have HB := Lib.hid hB
 generalize hn : vs.length = n at *
 have HN := Lib.hid hn
 clear h hE hst hX hB hn
 go_enter Tryz.func110, Tryz.ntmps110
 go_wp2
 go_loopw [11] (fun x wr => ∃ k : Nat, k ≤ n ∧ x = .int .i64 k ∧ Hid (valV (vs.drop k) at' = R) ∧ Hid (BoxL (w.heap.size + 1) [.int .i64 0, .int .i64 0] wr) ∧ Hid (Below w.heap.size w wr)) (fun x _ => n + 1 - (intOf x).toNat)
 case atStart => exact ⟨0, by omega, rfl, HST, HX, HB⟩
 case round =>
  obtain ⟨k, hk, rfl, hV, hX, hB⟩ := hrel
  clear HX HB HST
  by_cases hlt : k < n
  ·have i1 : (k : Int) < n := by omega
   obtain ⟨v, hv⟩ : ∃ v, vs[k]? = some v := ⟨_, List.getElem?_eq_getElem (by rw [HN.out]; exact hlt)⟩
   have hEw := HE.out.below hB.out
   obtain ⟨g, rfl, -⟩ := hEw.get hlt
   obtain ⟨t0, t1, t2, -⟩ := va_at hEw hv
   have hXu := Lib.hid (hX.out.under (.cells #[.int .i64 v.t, .int .i64 v.n, .int .i64 v.d] 93))
   have hBu := Lib.hid (hB.out.alloc hB.out.size (.cells #[.int .i64 v.t, .int .i64 v.n, .int .i64 v.d] 93))
   by_cases he : v.t = at'
   ·subst he
    have hh := valV_hit hv
    obtain ⟨vt, vn, vd⟩ := v
    simp only at *
    have HR : Hid (R = (vn, vd, true)) := Lib.hid (by rw [← hV.out, hh])
    obtain ⟨b0, b1, f0, f1, hz⟩ := hXu.out.open2
    clear hh hv hEw hV hX hB
    go_wp2
    exact bodyPost_ret (v := .tuple #[.agg #[.int .i64 vn, .int .i64 vd], .bool true]) (by simp [results, Tryz.results110, go_sem, b0, b1]) rfl ⟨by rw [HR.out], (hBu.out.setCell (p := ⟨w.heap.size + 1, 0, none⟩) (by simp) _).setCell (p := ⟨w.heap.size + 1, 1, none⟩) (by simp) _⟩
   ·have hs := valV_skip hv he
    have hne : (v.t == at') = false := beq_eq_false_iff_ne.2 he
    obtain ⟨vt, vn, vd⟩ := v
    simp only at *
    have HV := Lib.hid (hs.symm.trans hV.out)
    clear hs hv he hEw hV hX hB
    go_wp2
    go_roundw
    case rel => exact ⟨k + 1, by omega, by go_num, HV, hXu, hBu⟩
    case measure => simp [intOf]; omega
  ·have i1 : ¬ (k : Int) < n := by omega
   have hnil : vs.drop k = [] := List.drop_of_length_le (by rw [HN.out]; omega)
   have HR : Hid (R = (0, 0, false)) := Lib.hid (by rw [← hV.out, hnil]; rfl)
   obtain ⟨b0, b1, f0, f1, hz⟩ := hX.out.open2
   clear hnil hV
   go_wp2
   exact bodyPost_ret (v := .tuple #[.agg #[.int .i64 0, .int .i64 0], .bool false]) (by simp [results, Tryz.results110, go_sem, b0, b1]) rfl ⟨by rw [HR.out], (hB.out.setCell (p := ⟨w.heap.size + 1, 0, none⟩) (by simp) _).setCell (p := ⟨w.heap.size + 1, 1, none⟩) (by simp) _⟩
end Go.Proofs.YtgnloodmbgdgdaaGreat
