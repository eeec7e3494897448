import Derived.Test.YtgnloodmbgdgdaaGreatFB04
import Derived.Deep.DeepCutAuto
namespace Go.Proofs.YtgnloodmbgdgdaaGreat
open Go.RowKit Go.Shelf
noncomputable def hasI (n d : Int) (x : Iv) : Bool := x.good && decide (x.from.key ≤ 2 * kR n d) && decide (2 * kR n d + 1 ≤ x.to.key)
theorem key_before (n d : Int) : Cut.key ⟨n, d, false⟩ = 2 * kR n d := by unfold Cut.key; simp
theorem key_after (n d : Int) : Cut.key ⟨n, d, true⟩ = 2 * kR n d + 1 := by unfold Cut.key; simp
theorem cmpC_le {x y : Cut} : decide (cmpC x y ≤ 0) = decide (x.key ≤ y.key) := by
 unfold cmpC
 by_cases h1 : x.key < y.key
 ·rw [if_pos h1, decide_eq_true (show x.key ≤ y.key by omega)]; rfl
 ·rw [if_neg h1]
  by_cases h2 : x.key = y.key
  ·rw [if_pos h2, decide_eq_true (show x.key ≤ y.key by omega)]; rfl
  ·rw [if_neg h2, decide_eq_false (show ¬ x.key ≤ y.key by omega)]; rfl
set_option maxHeartbeats 8000000 in
set_option maxRecDepth 100000 in
theorem has1_any (x : Iv) (N : Nat) (n d : Int) (w : World) (hx : x.wf) (ho : Qm.Ok n d) (hb : BoxL N [.int .i64 n, .int .i64 d] w) :
  Calls Tryz.prog 161 #[x.v, .pointer (some ⟨N, 0, none⟩)] w fun e w' => e = .returned (.bool (hasI n d x)) ∧ Below w.heap.size w w' := by
 have k1 := Lib.hid fun W => viv_any x W hx
 have k3 := Lib.hid fun W => bounds_any x W
 have k4 := Lib.hid fun (h : x.good = true) W => scmp_any x.from ⟨n, d, false⟩ W (good_parts h).1 ho
 have k5 := Lib.hid fun (h : x.good = true) W => scmp_any ⟨n, d, true⟩ x.to W ho (good_parts h).2.1
 have HB0 := Lib.hid ((Below.refl w.heap.size w).alloc (Nat.le_refl _) (.cells #[.int .i64 x.a, .int .i64 x.b, .int .i64 x.c, .int .i64 x.d, .bool x.p, .bool x.q, .bool x.r, .bool x.s] 112))
 have XA := Lib.hid (cell_new8 w (.int .i64 x.a) (.int .i64 x.b) (.int .i64 x.c) (.int .i64 x.d) (.bool x.p) (.bool x.q) (.bool x.r) (.bool x.s) 112)
 have XR := Lib.hid (hb.under (.cells #[.int .i64 x.a, .int .i64 x.b, .int .i64 x.c, .int .i64 x.d, .bool x.p, .bool x.q, .bool x.r, .bool x.s] 112))
 have hG : hasI n d x = (x.good && decide (x.from.key ≤ 2 * kR n d) && decide (2 * kR n d + 1 ≤ x.to.key)) := rfl
 rw [← key_after n d, ← key_before n d, ← cmpC_le, ← cmpC_le] at hG
 rw [hG]
 clear hG hx hb ho
 generalize x.good = G at *
 generalize x.from = F at *
 generalize x.to = T at *
 obtain ⟨a, b, c, dd, p, q, r, s⟩ := x
 generalize hV1 : cmpC F ⟨n, d, false⟩ = V1 at *
 generalize hV2 : cmpC ⟨n, d, true⟩ T = V2 at *
 clear hV1 hV2
 obtain ⟨fn, fd, fa⟩ := F
 obtain ⟨tn, td, ta⟩ := T
 unfold Iv.v Cut.v at *
 simp only at *
 cases G
 case false =>
  go_enter Tryz.func161, Tryz.ntmps161
  go_wp2_with fail
  refine (k1.out _).mono ?_
  rintro e w1 ⟨rfl, hB⟩
  have H1 := Lib.hid (HB0.out.trans (hB.mono HB0.out.size))
  clear hB
  go_wp2
  go_ret
  exact ⟨rfl, H1.out⟩
 case true =>
  have K4 := Lib.hid (k4.out rfl)
  have K5 := Lib.hid (k5.out rfl)
  clear k4 k5
  rw [Bool.true_and]
  by_cases hv1 : V1 ≤ 0
  ·rw [decide_eq_true hv1, Bool.true_and]
   go_enter Tryz.func161, Tryz.ntmps161
   go_wp2_with fail
   refine (k1.out _).mono ?_
   rintro e w1 ⟨rfl, hB⟩
   have H1 := Lib.hid (HB0.out.trans (hB.mono HB0.out.size))
   have XX := Lib.hid (XA.out.keep hB)
   have XR1 := Lib.hid (XR.out.keep hB)
   clear hB XA XR
   obtain ⟨a0, a1, a2, a3, a4, a5, a6, a7, a8⟩ := XX.out.open8
   go_wp2_with fail
   refine (k3.out _).mono ?_
   rintro e w2 ⟨rfl, hB⟩
   have H2 := Lib.hid (((H1.out.trans (hB.mono H1.out.size)).alloc (H1.out.trans (hB.mono H1.out.size)).size (.cells #[.int .i64 fn, .int .i64 fd, .bool fa] 167)).alloc (Nat.le_trans (H1.out.trans (hB.mono H1.out.size)).size (by simp)) (.cells #[.int .i64 tn, .int .i64 td, .bool ta] 167))
   have XR2 := Lib.hid (((XR1.out.keep hB).under (.cells #[.int .i64 fn, .int .i64 fd, .bool fa] 167)).under (.cells #[.int .i64 tn, .int .i64 td, .bool ta] 167))
   have xt := BoxL.made (w2.alloc (.cells #[.int .i64 fn, .int .i64 fd, .bool fa] 167)) #[.int .i64 tn, .int .i64 td, .bool ta] 167
   rw [size_alloc] at xt
   have XT := Lib.hid xt
   clear hB H1 XX XR1 a0 a1 a2 a3 a4 a5 a6 a7 a8 xt
   obtain ⟨r0, r1, -, -, r2⟩ := XR2.out.open2
   go_wp2_with fail
   refine (K4.out _).mono ?_
   rintro e w3 ⟨rfl, hB⟩
   have H3 := Lib.hid (H2.out.trans (hB.mono H2.out.size))
   have XR3 := Lib.hid (XR2.out.keep hB)
   have XT3 := Lib.hid (XT.out.keep hB)
   clear hB H2 XR2 XT r0 r1 r2
   obtain ⟨r0, r1, -, -, r2⟩ := XR3.out.open2
   obtain ⟨t0, t1, t2, -, -, -, t3⟩ := XT3.out.open3
   go_wp2_with fail
   refine (K5.out _).mono ?_
   rintro e w4 ⟨rfl, hB⟩
   have H4 := Lib.hid (H3.out.trans (hB.mono H3.out.size))
   clear hB
   go_wp2
   go_ret
   exact ⟨rfl, H4.out⟩
  ·rw [decide_eq_false hv1, Bool.false_and]
   have hv1' : decide (V1 ≤ 0) = false := decide_eq_false hv1
   go_enter Tryz.func161, Tryz.ntmps161
   go_wp2_with fail
   refine (k1.out _).mono ?_
   rintro e w1 ⟨rfl, hB⟩
   have H1 := Lib.hid (HB0.out.trans (hB.mono HB0.out.size))
   have XX := Lib.hid (XA.out.keep hB)
   have XR1 := Lib.hid (XR.out.keep hB)
   clear hB XA XR
   obtain ⟨a0, a1, a2, a3, a4, a5, a6, a7, a8⟩ := XX.out.open8
   go_wp2_with fail
   refine (k3.out _).mono ?_
   rintro e w2 ⟨rfl, hB⟩
   have H2 := Lib.hid (((H1.out.trans (hB.mono H1.out.size)).alloc (H1.out.trans (hB.mono H1.out.size)).size (.cells #[.int .i64 fn, .int .i64 fd, .bool fa] 167)).alloc (Nat.le_trans (H1.out.trans (hB.mono H1.out.size)).size (by simp)) (.cells #[.int .i64 tn, .int .i64 td, .bool ta] 167))
   have XR2 := Lib.hid (((XR1.out.keep hB).under (.cells #[.int .i64 fn, .int .i64 fd, .bool fa] 167)).under (.cells #[.int .i64 tn, .int .i64 td, .bool ta] 167))
   have xt := BoxL.made (w2.alloc (.cells #[.int .i64 fn, .int .i64 fd, .bool fa] 167)) #[.int .i64 tn, .int .i64 td, .bool ta] 167
   rw [size_alloc] at xt
   have XT := Lib.hid xt
   clear hB H1 XX XR1 a0 a1 a2 a3 a4 a5 a6 a7 a8 xt
   obtain ⟨r0, r1, -, -, r2⟩ := XR2.out.open2
   go_wp2_with fail
   refine (K4.out _).mono ?_
   rintro e w3 ⟨rfl, hB⟩
   have H3 := Lib.hid (H2.out.trans (hB.mono H2.out.size))
   have XR3 := Lib.hid (XR2.out.keep hB)
   have XT3 := Lib.hid (XT.out.keep hB)
   clear hB H2 XR2 XT r0 r1 r2
   obtain ⟨r0, r1, -, -, r2⟩ := XR3.out.open2
   obtain ⟨t0, t1, t2, -, -, -, t3⟩ := XT3.out.open3
   go_wp2
   go_ret
   exact ⟨rfl, H3.out⟩
def Idx (b : Bool) (w : World) (e : Ending) (w' : World) : Prop := ∃ v : Int, e = .returned (.int .i64 v) ∧ (0 ≤ v ↔ b = true) ∧ Below w.heap.size w w'
set_option maxHeartbeats 8000000 in
set_option maxRecDepth 100000 in
theorem index_any (sv : Value) (xs : List Iv) (N : Nat) (n d : Int) (w : World) (h : REls RIv w sv xs) (hwf : ∀ x ∈ xs, x.wf) (hl : xs.length ≤ 1000000) (ho : Qm.Ok n d) (hb : BoxL N [.int .i64 n, .int .i64 d] w) :
  Calls Tryz.prog 182 #[sv, .func (.func 161) #[] #[.pointer (some ⟨N, 0, none⟩)]] w (Idx (xs.any (hasI n d)) w) := by
 obtain ⟨a, cap, rfl⟩ := h.shape
 have HE := Lib.hid h
 have HWF := Lib.hid hwf
 have HX := Lib.hid hb
 have HO := Lib.hid ho
 generalize hn : xs.length = m at *
 have HN := Lib.hid hn
 clear h hwf hn hb ho
 go_enter Tryz.func182, Tryz.ntmps182
 go_wp2
 go_loopw [8] (fun x wr => ∃ k : Nat, k ≤ m ∧ x = .int .i64 k ∧ Hid ((xs.take k).any (hasI n d) = false) ∧ Hid (Below w.heap.size w wr)) (fun x _ => m - (intOf x).toNat)
 case atStart => exact ⟨0, by omega, rfl, rfl, Below.refl _ _⟩
 case round =>
  obtain ⟨k, hk, rfl, hF, hB⟩ := hrel
  by_cases hlt : k < m
  ·have hki : (k : Int) < m := by omega
   obtain ⟨x, hx⟩ : ∃ x, xs[k]? = some x := ⟨xs[k]'(by rw [HN.out]; exact hlt), List.getElem?_eq_getElem _⟩
   obtain ⟨b, rfl, -⟩ := HE.out.get hlt
   obtain ⟨g0, g1, g2, g3, g4, g5, g6, g7, hb⟩ := iv_at (HE.out.below hB.out) hx
   have k1 := Lib.hid (has1_any x N n d wr (HWF.out x (List.mem_of_getElem? hx)) HO.out (HX.out.keep hB.out))
   have hany : (xs.take (k + 1)).any (hasI n d) = hasI n d x := by
    rw [List.take_add_one, hx, List.any_append, hF.out]
    simp
   have hmem : hasI n d x = true → xs.any (hasI n d) = true := fun h => List.any_eq_true.2 ⟨x, List.mem_of_getElem? hx, h⟩
   have HA := Lib.hid hany
   have HM := Lib.hid hmem
   clear hx hany hmem
   generalize hasI n d x = G at *
   obtain ⟨xa, xb, xc, xd, xp, xq, xr, xs'⟩ := x
   unfold Iv.v at *
   simp only at *
   go_wp2_with fail
   refine (k1.out).mono ?_
   rintro e w1 ⟨rfl, hB1⟩
   have H1 := Lib.hid (hB.out.trans (hB1.mono hB.out.size))
   clear hB1 hB
   cases G
   case false =>
    go_wp2
    go_roundw
    case rel => exact ⟨k + 1, by omega, by go_num, HA, H1⟩
    case measure => simp [intOf]; omega
   case true =>
    go_wp2
    go_ret
    exact ⟨k, rfl, ⟨fun _ => HM.out (by first | rfl | trivial), fun _ => by omega⟩, H1.out⟩
  ·have hki : (m : Int) ≤ (k : Int) := by omega
   have hall : xs.any (hasI n d) = false := by
    have := hF.out
    rwa [List.take_of_length_le (by rw [HN.out]; omega)] at this
   have HA := Lib.hid hall
   clear hall
   go_wp2
   go_ret
   exact ⟨-1, rfl, ⟨fun h => by omega, fun h => by rw [HA.out] at h; cases h⟩, hB.out⟩
theorem contains_any (sv : Value) (xs : List Iv) (N : Nat) (n d : Int) (w : World) (h : REls RIv w sv xs) (hwf : ∀ x ∈ xs, x.wf) (hl : xs.length ≤ 1000000) (ho : Qm.Ok n d) (hb : BoxL N [.int .i64 n, .int .i64 d] w) :
  Calls Tryz.prog 160 #[sv, .func (.func 161) #[] #[.pointer (some ⟨N, 0, none⟩)]] w fun e w' => e = .returned (.bool (xs.any (hasI n d))) ∧ Below w.heap.size w w' := by
 have k1 := Lib.hid (index_any sv xs N n d w h hwf hl ho hb)
 clear h hwf hb
 go_enter Tryz.func160, Tryz.ntmps160
 go_wp2_with fail
 refine (k1.out).mono ?_
 rintro e w1 ⟨v, rfl, hv, hB⟩
 have HV := Lib.hid (show decide (0 ≤ v) = xs.any (hasI n d) from by
  by_cases h : 0 ≤ v
  ·rw [decide_eq_true h, hv.1 h]
  ·rw [decide_eq_false h]
   exact (Bool.eq_false_iff.2 fun hh => h (hv.2 hh)).symm)
 have HB := Lib.hid hB
 clear hv hB
 go_wp2
 go_ret
 exact ⟨ret_bool HV.out, HB.out⟩
noncomputable def hasL (xs : List Iv) (n d : Int) : Bool := decide (Qm.Ok n d) && xs.any (hasI n d)
set_option maxHeartbeats 2000000 in
set_option maxRecDepth 100000 in
theorem shas_any (sv : Value) (xs : List Iv) (n d : Int) (w : World) (h : REls RIv w sv xs) (hwf : ∀ x ∈ xs, x.wf) (hl : xs.length ≤ 1000000) (hn : I64 n) (hd : I64 d) :
  Calls Tryz.prog 111 #[sv, rv n d] w fun e w' => e = .returned (.bool (hasL xs n d)) ∧ Below w.heap.size w w' := by
 have HB0 := Lib.hid ((Below.refl w.heap.size w).alloc (Nat.le_refl _) (.cells #[.int .i64 n, .int .i64 d] 91))
 have XA := Lib.hid (BoxL.made w #[.int .i64 n, .int .i64 d] 91)
 have k1 := fun w => rvalid_any n d w hn hd
 unfold rv at *
 by_cases ho : Qm.Ok n d
 ·have hE : hasL xs n d = xs.any (hasI n d) := by unfold hasL; rw [decide_eq_true ho, Bool.true_and]
  have k2 := Lib.hid fun W (h0 : Below w.heap.size w W) (hb : BoxL w.heap.size [.int .i64 n, .int .i64 d] W) => contains_any sv xs w.heap.size n d W (h.below h0) hwf hl ho hb
  rw [hE, Qm.validI_ok.2 ho] at *
  have K1 := Lib.hid k1
  clear k1 hE h hwf ho
  go_enter Tryz.func111, Tryz.ntmps111
  go_wp2_with fail
  refine (K1.out _).mono ?_
  rintro e w1 ⟨rfl, hB⟩
  have H1 := Lib.hid (HB0.out.trans (hB.mono HB0.out.size))
  have X1 := Lib.hid (XA.out.keep hB)
  clear hB
  go_wp2_with fail
  refine (k2.out _ H1.out X1.out).mono ?_
  rintro e w2 ⟨rfl, hB⟩
  have H2 := Lib.hid (H1.out.trans (hB.mono H1.out.size))
  clear hB
  go_wp2
  go_ret
  exact ⟨rfl, H2.out⟩
 ·have hE : hasL xs n d = false := by unfold hasL; rw [decide_eq_false ho, Bool.false_and]
  have hz : Qm.validI n d = 1 := (Qm.validI_two n d).resolve_left fun h => ho (Qm.validI_ok.1 h)
  rw [hE]
  rw [hz] at k1
  have K1 := Lib.hid k1
  clear k1 hE h hwf ho hz
  go_enter Tryz.func111, Tryz.ntmps111
  go_wp2_with fail
  refine (K1.out _).mono ?_
  rintro e w1 ⟨rfl, hB⟩
  have H1 := Lib.hid (HB0.out.trans (hB.mono HB0.out.size))
  clear hB
  go_wp2
  go_ret
  exact ⟨rfl, H1.out⟩
end Go.Proofs.YtgnloodmbgdgdaaGreat
