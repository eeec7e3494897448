import Derived.Test.YtgnloodmbgdgdaaGreatFV06
import Derived.Deep.DeepCutAuto
import Derived.BigQuiet
import Derived.Deep.QuietTactic
import Derived.Deep.RegionHeld3
namespace Go.Proofs.YtgnloodmbgdgdaaGreat
open Go.RowKit Go.Shelf
noncomputable def hasI (n d : Int) (x : Iv) : Bool := x.good && decide (x.from.key ≤ 2 * kR n d) && decide (2 * kR n d + 1 ≤ x.to.key)
theorem key_before (n d : Int) : Cut.key ⟨n, d, false⟩ = 2 * kR n d := by unfold Cut.key; simp
theorem key_after (n d : Int) : Cut.key ⟨n, d, true⟩ = 2 * kR n d + 1 := by unfold Cut.key; simp
theorem cmpC_le {x y : Cut} : decide (cmpC x y ≤ 0) = decide (x.key ≤ y.key) := by
 unfold cmpC
 by_cases h1 : x.key < y.key
 ·rw [if_pos h1, decide_eq_true (show x.key ≤ y.key by omega)]; rfl
 ·rw [if_neg h1]
  by_cases h2 : x.key = y.key
  ·rw [if_pos h2, decide_eq_true (show x.key ≤ y.key by omega)]; rfl
  ·rw [if_neg h2, decide_eq_false (show ¬ x.key ≤ y.key by omega)]; rfl
set_option maxHeartbeats 8000000 in
set_option maxRecDepth 100000 in
theorem has1_any (x : Iv) (N : Nat) (n d : Int) (w : World) (hx : x.wf) (ho : Qm.Ok n d) (hb : BoxL N [.int .i64 n, .int .i64 d] w) :
  Calls Tryz.prog 161 #[x.v, .pointer (some ⟨N, 0, none⟩)] w fun e w' => e = .returned (.bool (hasI n d x)) ∧ Below w.heap.size w w' := by
 have k1 := Lib.hid fun W => viv_any x W hx
 have k3 := Lib.hid fun W => bounds_any x W
 have k4 := Lib.hid fun (h : x.good = true) W => scmp_any x.from ⟨n, d, false⟩ W (good_parts h).1 ho
 have k5 := Lib.hid fun (h : x.good = true) W => scmp_any ⟨n, d, true⟩ x.to W ho (good_parts h).2.1
 have HB0 := Lib.hid ((Below.refl w.heap.size w).alloc (Nat.le_refl _) (.cells #[.int .i64 x.a, .int .i64 x.b, .int .i64 x.c, .int .i64 x.d, .bool x.p, .bool x.q, .bool x.r, .bool x.s] 112))
 have XA := Lib.hid (cell_new8 w (.int .i64 x.a) (.int .i64 x.b) (.int .i64 x.c) (.int .i64 x.d) (.bool x.p) (.bool x.q) (.bool x.r) (.bool x.s) 112)
 have XR := Lib.hid (hb.under (.cells #[.int .i64 x.a, .int .i64 x.b, .int .i64 x.c, .int .i64 x.d, .bool x.p, .bool x.q, .bool x.r, .bool x.s] 112))
 have hG : hasI n d x = (x.good && decide (x.from.key ≤ 2 * kR n d) && decide (2 * kR n d + 1 ≤ x.to.key)) := rfl
 rw [← key_after n d, ← key_before n d, ← cmpC_le, ← cmpC_le] at hG
 rw [hG]
 clear hG hx hb ho
 generalize x.good = G at *
 generalize x.from = F at *
 generalize x.to = T at *
 obtain ⟨a, b, c, dd, p, q, r, s⟩ := x
 generalize hV1 : cmpC F ⟨n, d, false⟩ = V1 at *
 generalize hV2 : cmpC ⟨n, d, true⟩ T = V2 at *
 clear hV1 hV2
 obtain ⟨fn, fd, fa⟩ := F
 obtain ⟨tn, td, ta⟩ := T
 unfold Iv.v Cut.v at *
 simp only at *
 cases G
 case false =>
  go_enter Tryz.func161, Tryz.ntmps161
  go_wp2_with fail
  refine (k1.out _).mono ?_
  rintro e w1 ⟨rfl, hB⟩
  have H1 := Lib.hid (HB0.out.trans (hB.mono HB0.out.size))
  clear hB
  go_wp2
  go_ret
  exact ⟨rfl, H1.out⟩
 case true =>
  have K4 := Lib.hid (k4.out rfl)
  have K5 := Lib.hid (k5.out rfl)
  clear k4 k5
  rw [Bool.true_and]
  by_cases hv1 : V1 ≤ 0
  ·rw [decide_eq_true hv1, Bool.true_and]
   go_enter Tryz.func161, Tryz.ntmps161
   go_wp2_with fail
   refine (k1.out _).mono ?_
   rintro e w1 ⟨rfl, hB⟩
   have H1 := Lib.hid (HB0.out.trans (hB.mono HB0.out.size))
   have XX := Lib.hid (XA.out.keep hB)
   have XR1 := Lib.hid (XR.out.keep hB)
   clear hB XA XR
   obtain ⟨a0, a1, a2, a3, a4, a5, a6, a7, a8⟩ := XX.out.open8
   go_wp2_with fail
   refine (k3.out _).mono ?_
   rintro e w2 ⟨rfl, hB⟩
   have H2 := Lib.hid (((H1.out.trans (hB.mono H1.out.size)).alloc (H1.out.trans (hB.mono H1.out.size)).size (.cells #[.int .i64 fn, .int .i64 fd, .bool fa] 167)).alloc (Nat.le_trans (H1.out.trans (hB.mono H1.out.size)).size (by simp)) (.cells #[.int .i64 tn, .int .i64 td, .bool ta] 167))
   have XR2 := Lib.hid (((XR1.out.keep hB).under (.cells #[.int .i64 fn, .int .i64 fd, .bool fa] 167)).under (.cells #[.int .i64 tn, .int .i64 td, .bool ta] 167))
   have xt := BoxL.made (w2.alloc (.cells #[.int .i64 fn, .int .i64 fd, .bool fa] 167)) #[.int .i64 tn, .int .i64 td, .bool ta] 167
   rw [size_alloc] at xt
   have XT := Lib.hid xt
   clear hB H1 XX XR1 a0 a1 a2 a3 a4 a5 a6 a7 a8 xt
   obtain ⟨r0, r1, -, -, r2⟩ := XR2.out.open2
   go_wp2_with fail
   refine (K4.out _).mono ?_
   rintro e w3 ⟨rfl, hB⟩
   have H3 := Lib.hid (H2.out.trans (hB.mono H2.out.size))
   have XR3 := Lib.hid (XR2.out.keep hB)
   have XT3 := Lib.hid (XT.out.keep hB)
   clear hB H2 XR2 XT r0 r1 r2
   obtain ⟨r0, r1, -, -, r2⟩ := XR3.out.open2
   obtain ⟨t0, t1, t2, -, -, -, t3⟩ := XT3.out.open3
   go_wp2_with fail
   refine (K5.out _).mono ?_
   rintro e w4 ⟨rfl, hB⟩
   have H4 := Lib.hid (H3.out.trans (hB.mono H3.out.size))
   clear hB
   go_wp2
   go_ret
   exact ⟨rfl, H4.out⟩
  ·rw [decide_eq_false hv1, Bool.false_and]
   have hv1' : decide (V1 ≤ 0) = false := decide_eq_false hv1
   go_enter Tryz.func161, Tryz.ntmps161
   go_wp2_with fail
   refine (k1.out _).mono ?_
   rintro e w1 ⟨rfl, hB⟩
   have H1 := Lib.hid (HB0.out.trans (hB.mono HB0.out.size))
   have XX := Lib.hid (XA.out.keep hB)
   have XR1 := Lib.hid (XR.out.keep hB)
   clear hB XA XR
   obtain ⟨a0, a1, a2, a3, a4, a5, a6, a7, a8⟩ := XX.out.open8
   go_wp2_with fail
   refine (k3.out _).mono ?_
   rintro e w2 ⟨rfl, hB⟩
   have H2 := Lib.hid (((H1.out.trans (hB.mono H1.out.size)).alloc (H1.out.trans (hB.mono H1.out.size)).size (.cells #[.int .i64 fn, .int .i64 fd, .bool fa] 167)).alloc (Nat.le_trans (H1.out.trans (hB.mono H1.out.size)).size (by simp)) (.cells #[.int .i64 tn, .int .i64 td, .bool ta] 167))
   have XR2 := Lib.hid (((XR1.out.keep hB).under (.cells #[.int .i64 fn, .int .i64 fd, .bool fa] 167)).under (.cells #[.int .i64 tn, .int .i64 td, .bool ta] 167))
   have xt := BoxL.made (w2.alloc (.cells #[.int .i64 fn, .int .i64 fd, .bool fa] 167)) #[.int .i64 tn, .int .i64 td, .bool ta] 167
   rw [size_alloc] at xt
   have XT := Lib.hid xt
   clear hB H1 XX XR1 a0 a1 a2 a3 a4 a5 a6 a7 a8 xt
   obtain ⟨r0, r1, -, -, r2⟩ := XR2.out.open2
   go_wp2_with fail
   refine (K4.out _).mono ?_
   rintro e w3 ⟨rfl, hB⟩
   have H3 := Lib.hid (H2.out.trans (hB.mono H2.out.size))
   have XR3 := Lib.hid (XR2.out.keep hB)
   have XT3 := Lib.hid (XT.out.keep hB)
   clear hB H2 XR2 XT r0 r1 r2
   obtain ⟨r0, r1, -, -, r2⟩ := XR3.out.open2
   obtain ⟨t0, t1, t2, -, -, -, t3⟩ := XT3.out.open3
   go_wp2
   go_ret
   exact ⟨rfl, H3.out⟩
def Idx (b : Bool) (w : World) (e : Ending) (w' : World) : Prop := ∃ v : Int, e = .returned (.int .i64 v) ∧ (0 ≤ v ↔ b = true) ∧ Below w.heap.size w w'
set_option maxHeartbeats 8000000 in
set_option maxRecDepth 100000 in
theorem index_any (sv : Value) (xs : List Iv) (N : Nat) (n d : Int) (w : World) (h : REls RIv w sv xs) (hwf : ∀ x ∈ xs, x.wf) (hl : xs.length ≤ 1000000) (ho : Qm.Ok n d) (hb : BoxL N [.int .i64 n, .int .i64 d] w) :
  Calls Tryz.prog 182 #[sv, .func (.func 161) #[] #[.pointer (some ⟨N, 0, none⟩)]] w (Idx (xs.any (hasI n d)) w) := by
 obtain ⟨a, cap, rfl⟩ := h.shape
 have HE := Lib.hid h
 have HWF := Lib.hid hwf
 have HX := Lib.hid hb
 have HO := Lib.hid ho
 generalize hn : xs.length = m at *
 have HN := Lib.hid hn
 clear h hwf hn hb ho
 go_enter Tryz.func182, Tryz.ntmps182
 go_wp2
 go_loopw [8] (fun x wr => ∃ k : Nat, k ≤ m ∧ x = .int .i64 k ∧ Hid ((xs.take k).any (hasI n d) = false) ∧ Hid (Below w.heap.size w wr)) (fun x _ => m - (intOf x).toNat)
 case atStart => exact ⟨0, by omega, rfl, rfl, Below.refl _ _⟩
 case round =>
  obtain ⟨k, hk, rfl, hF, hB⟩ := hrel
  by_cases hlt : k < m
  ·have hki : (k : Int) < m := by omega
   obtain ⟨x, hx⟩ : ∃ x, xs[k]? = some x := ⟨xs[k]'(by rw [HN.out]; exact hlt), List.getElem?_eq_getElem _⟩
   obtain ⟨b, rfl, -⟩ := HE.out.get hlt
   obtain ⟨g0, g1, g2, g3, g4, g5, g6, g7, hb⟩ := iv_at (HE.out.below hB.out) hx
   have k1 := Lib.hid (has1_any x N n d wr (HWF.out x (List.mem_of_getElem? hx)) HO.out (HX.out.keep hB.out))
   have hany : (xs.take (k + 1)).any (hasI n d) = hasI n d x := by
    rw [List.take_add_one, hx, List.any_append, hF.out]
    simp
   have hmem : hasI n d x = true → xs.any (hasI n d) = true := fun h => List.any_eq_true.2 ⟨x, List.mem_of_getElem? hx, h⟩
   have HA := Lib.hid hany
   have HM := Lib.hid hmem
   clear hx hany hmem
   generalize hasI n d x = G at *
   obtain ⟨xa, xb, xc, xd, xp, xq, xr, xs'⟩ := x
   unfold Iv.v at *
   simp only at *
   go_wp2_with fail
   refine (k1.out).mono ?_
   rintro e w1 ⟨rfl, hB1⟩
   have H1 := Lib.hid (hB.out.trans (hB1.mono hB.out.size))
   clear hB1 hB
   cases G
   case false =>
    go_wp2
    go_roundw
    case rel => exact ⟨k + 1, by omega, by go_num, HA, H1⟩
    case measure => simp [intOf]; omega
   case true =>
    go_wp2
    go_ret
    exact ⟨k, rfl, ⟨fun _ => HM.out (by first | rfl | trivial), fun _ => by omega⟩, H1.out⟩
  ·have hki : (m : Int) ≤ (k : Int) := by omega
   have hall : xs.any (hasI n d) = false := by
    have := hF.out
    rwa [List.take_of_length_le (by rw [HN.out]; omega)] at this
   have HA := Lib.hid hall
   clear hall
   go_wp2
   go_ret
   exact ⟨-1, rfl, ⟨fun h => by omega, fun h => by rw [HA.out] at h; cases h⟩, hB.out⟩
theorem contains_any (sv : Value) (xs : List Iv) (N : Nat) (n d : Int) (w : World) (h : REls RIv w sv xs) (hwf : ∀ x ∈ xs, x.wf) (hl : xs.length ≤ 1000000) (ho : Qm.Ok n d) (hb : BoxL N [.int .i64 n, .int .i64 d] w) :
  Calls Tryz.prog 160 #[sv, .func (.func 161) #[] #[.pointer (some ⟨N, 0, none⟩)]] w fun e w' => e = .returned (.bool (xs.any (hasI n d))) ∧ Below w.heap.size w w' := by
 have k1 := Lib.hid (index_any sv xs N n d w h hwf hl ho hb)
 clear h hwf hb
 go_enter Tryz.func160, Tryz.ntmps160
 go_wp2_with fail
 refine (k1.out).mono ?_
 rintro e w1 ⟨v, rfl, hv, hB⟩
 have HV := Lib.hid (show decide (0 ≤ v) = xs.any (hasI n d) from by
  by_cases h : 0 ≤ v
  ·rw [decide_eq_true h, hv.1 h]
  ·rw [decide_eq_false h]
   exact (Bool.eq_false_iff.2 fun hh => h (hv.2 hh)).symm)
 have HB := Lib.hid hB
 clear hv hB
 go_wp2
 go_ret
 exact ⟨ret_bool HV.out, HB.out⟩
noncomputable def hasL (xs : List Iv) (n d : Int) : Bool := decide (Qm.Ok n d) && xs.any (hasI n d)
set_option maxHeartbeats 2000000 in
set_option maxRecDepth 100000 in
theorem shas_any (sv : Value) (xs : List Iv) (n d : Int) (w : World) (h : REls RIv w sv xs) (hwf : ∀ x ∈ xs, x.wf) (hl : xs.length ≤ 1000000) (hn : I64 n) (hd : I64 d) :
  Calls Tryz.prog 111 #[sv, rv n d] w fun e w' => e = .returned (.bool (hasL xs n d)) ∧ Below w.heap.size w w' := by
 have HB0 := Lib.hid ((Below.refl w.heap.size w).alloc (Nat.le_refl _) (.cells #[.int .i64 n, .int .i64 d] 91))
 have XA := Lib.hid (BoxL.made w #[.int .i64 n, .int .i64 d] 91)
 have k1 := fun w => rvalid_any n d w hn hd
 unfold rv at *
 by_cases ho : Qm.Ok n d
 ·have hE : hasL xs n d = xs.any (hasI n d) := by unfold hasL; rw [decide_eq_true ho, Bool.true_and]
  have k2 := Lib.hid fun W (h0 : Below w.heap.size w W) (hb : BoxL w.heap.size [.int .i64 n, .int .i64 d] W) => contains_any sv xs w.heap.size n d W (h.below h0) hwf hl ho hb
  rw [hE, Qm.validI_ok.2 ho] at *
  have K1 := Lib.hid k1
  clear k1 hE h hwf ho
  go_enter Tryz.func111, Tryz.ntmps111
  go_wp2_with fail
  refine (K1.out _).mono ?_
  rintro e w1 ⟨rfl, hB⟩
  have H1 := Lib.hid (HB0.out.trans (hB.mono HB0.out.size))
  have X1 := Lib.hid (XA.out.keep hB)
  clear hB
  go_wp2_with fail
  refine (k2.out _ H1.out X1.out).mono ?_
  rintro e w2 ⟨rfl, hB⟩
  have H2 := Lib.hid (H1.out.trans (hB.mono H1.out.size))
  clear hB
  go_wp2
  go_ret
  exact ⟨rfl, H2.out⟩
 ·have hE : hasL xs n d = false := by unfold hasL; rw [decide_eq_false ho, Bool.false_and]
  have hz : Qm.validI n d = 1 := (Qm.validI_two n d).resolve_left fun h => ho (Qm.validI_ok.1 h)
  rw [hE]
  rw [hz] at k1
  have K1 := Lib.hid k1
  clear k1 hE h hwf ho hz
  go_enter Tryz.func111, Tryz.ntmps111
  go_wp2_with fail
  refine (K1.out _).mono ?_
  rintro e w1 ⟨rfl, hB⟩
  have H1 := Lib.hid (HB0.out.trans (hB.mono HB0.out.size))
  clear hB
  go_wp2
  go_ret
  exact ⟨rfl, H1.out⟩
end Go.Proofs.YtgnloodmbgdgdaaGreat
namespace Go.Proofs.YtgnloodmbgdgdaaGreat
open Go.RowKit Go.Shelf
theorem good_lo {x : Iv} (h : x.good = true) : (x.r = true ∧ x.from = lowC) ∨ (x.r = false ∧ SmallR x.a x.b ∧ x.from = ⟨x.a, x.b, x.p⟩) := by
 unfold Iv.good at h
 simp only [Bool.and_eq_true, decide_eq_true_eq] at h
 rcases end_ok h.1.1 with ⟨e, _⟩ | ⟨e, hs⟩
 ·exact .inl ⟨e, by unfold Iv.from; rw [e]; rfl⟩
 ·exact .inr ⟨e, hs, by unfold Iv.from; rw [e]; rfl⟩
theorem good_hi {x : Iv} (h : x.good = true) : (x.s = true ∧ x.to = highC) ∨ (x.s = false ∧ SmallR x.c x.d ∧ x.to = ⟨x.c, x.d, !x.q⟩) := by
 unfold Iv.good at h
 simp only [Bool.and_eq_true, decide_eq_true_eq] at h
 rcases end_ok h.1.2 with ⟨e, _⟩ | ⟨e, hs⟩
 ·exact .inl ⟨e, by unfold Iv.to; rw [e]; rfl⟩
 ·exact .inr ⟨e, hs, by unfold Iv.to; rw [e]; rfl⟩
def apartB (x y : Iv) : Bool := if x.s = true ∨ y.r = true then false else if x.c = y.a ∧ x.d = y.b then x.q && y.p else decide (x.c * y.b < y.a * x.d)
theorem apart_is {x y : Iv} (hx : x.good = true) (hy : y.good = true) : decide (x.to.key < y.from.key) = apartB x y := by
 unfold apartB
 rcases good_hi hx with ⟨e1, e2⟩ | ⟨e1, h1, e2⟩
 ·rw [if_pos (.inl e1), e2]
  apply decide_eq_false
  rcases good_lo hy with ⟨_, f2⟩ | ⟨_, g1, f2⟩
  ·rw [f2]; have := low_lt_high; omega
  ·rw [f2]; have := (small_keys y.p g1).2; omega
 ·rcases good_lo hy with ⟨f1, f2⟩ | ⟨f1, g1, f2⟩
  ·rw [if_pos (.inr f1), e2, f2]
   apply decide_eq_false
   have := (small_keys (!x.q) h1).1
   omega
  ·rw [if_neg (by simp [e1, f1]), e2, f2]
   have l1 := kR_lt (n := x.c) (n' := y.a) h1.1.1 h1.1.2.1 g1.1.1 g1.1.2.1
   have l2 := kR_eq h1.1 g1.1
   unfold Cut.key
   simp only
   generalize x.q = q
   generalize y.p = p
   by_cases he : x.c = y.a ∧ x.d = y.b
   ·rw [if_pos he, l2.2 he]
    cases p <;> cases q <;> simp <;> omega
   ·rw [if_neg he]
    have hne := mt l2.1 he
    by_cases hl : x.c * y.b < y.a * x.d
    ·rw [decide_eq_true hl]
     have := l1.2 hl
     apply decide_eq_true
     cases p <;> cases q <;> simp <;> omega
    ·rw [decide_eq_false hl]
     have := mt l1.1 hl
     apply decide_eq_false
     cases p <;> cases q <;> simp <;> omega
set_option maxHeartbeats 8000000 in
set_option maxRecDepth 100000 in
theorem apart_any (x y : Iv) (w : World) (hx : x.good = true) (hy : y.good = true) :
  Calls Tryz.prog 176 #[x.v, y.v] w fun e w' => e = .returned (.bool (decide (x.to.key < y.from.key))) ∧ Below w.heap.size w w' := by
 rw [apart_is hx hy]
 have k1 := fun (h1 : x.s = false) (h2 : y.r = false) w => less_any x.c x.d y.a y.b w (by rcases good_hi hx with ⟨e, _⟩ | ⟨_, h, _⟩; (· rw [h1] at e; cases e); (· exact h.1)) (by rcases good_lo hy with ⟨e, _⟩ | ⟨_, h, _⟩; (· rw [h2] at e; cases e); (· exact h.1))
 clear hx hy
 unfold apartB
 obtain ⟨a, b, c, d, p, q, r, s⟩ := x
 obtain ⟨a', b', c', d', p', q', r', s'⟩ := y
 unfold Iv.v rv at *
 simp only at *
 generalize decide (c * b' < a' * d) = L at *
 have HB0 := Lib.hid (((Below.refl w.heap.size w).alloc (Nat.le_refl _) (.cells #[.int .i64 a, .int .i64 b, .int .i64 c, .int .i64 d, .bool p, .bool q, .bool r, .bool s] 112)).alloc (by simp) (.cells #[.int .i64 a', .int .i64 b', .int .i64 c', .int .i64 d', .bool p', .bool q', .bool r', .bool s'] 112))
 cases s
 case true =>
  rw [if_pos (.inl rfl)]
  clear k1
  go_enter Tryz.func176, Tryz.ntmps176
  go_wp2
  go_ret
  exact ⟨rfl, HB0.out⟩
 case false =>
  cases r'
  case true =>
   rw [if_pos (.inr rfl)]
   clear k1
   go_enter Tryz.func176, Tryz.ntmps176
   go_wp2
   go_ret
   exact ⟨rfl, HB0.out⟩
  case false =>
   rw [if_neg (by simp)]
   have K1 := Lib.hid (k1 rfl rfl)
   clear k1
   rcases pair_three c d a' b' with ⟨rfl, rfl⟩ | ⟨h1, g1⟩ | ⟨rfl, h1, g1⟩
   ·rw [if_pos ⟨rfl, rfl⟩]
    cases q <;> cases p'
    all_goals
     go_enter Tryz.func176, Tryz.ntmps176
     go_wp2
     go_ret
     exact ⟨rfl, HB0.out⟩
   all_goals
    rw [if_neg g1]
    clear g1
    go_enter Tryz.func176, Tryz.ntmps176
    go_wp2_with fail
    refine (K1.out _).mono ?_
    rintro e w3 ⟨rfl, hB⟩
    have H3 := Lib.hid (HB0.out.trans (hB.mono HB0.out.size))
    clear hB
    go_wp2
    go_ret
    exact ⟨rfl, H3.out⟩
end Go.Proofs.YtgnloodmbgdgdaaGreat
namespace Go.Proofs.YtgnloodmbgdgdaaGreat
open Go.RowKit Go.Shelf
set_option maxHeartbeats 8000000 in
set_option maxRecDepth 100000 in
theorem gvalid_any (sv : Value) (xs : List Iv) (w : World) (h : REls RIv w sv xs) (hl : xs.length ≤ 1000000) :
  Calls Tryz.prog 144 #[sv] w fun e w' => e = .returned (.int .i64 (validL xs)) ∧ Below w.heap.size w w' := by
 obtain ⟨a, cap, rfl⟩ := h.shape
 have HE := Lib.hid h
 generalize hn : xs.length = n at *
 have HN := Lib.hid hn
 clear h hn
 go_enter Tryz.func144, Tryz.ntmps144
 go_wp2
 go_loopw [3] (fun x wr => ∃ k : Nat, k ≤ n ∧ x = .int .i64 k ∧ Hid (Fit (xs.take k)) ∧ Hid (Below w.heap.size w wr)) (fun x _ => n - (intOf x).toNat)
 case atStart => exact ⟨0, by omega, rfl, Fit.nil, Below.refl _ _⟩
 case round =>
  obtain ⟨k, hk, rfl, hF, hB⟩ := hrel
  by_cases hlt : k < n
  ·have hki : (k : Int) < n := by omega
   obtain ⟨x, hx⟩ : ∃ x, xs[k]? = some x := ⟨xs[k]'(by rw [HN.out]; exact hlt), List.getElem?_eq_getElem _⟩
   obtain ⟨b, rfl, -⟩ := HE.out.get hlt
   have HEr := Lib.hid (HE.out.below hB.out)
   obtain ⟨g0, g1, g2, g3, g4, g5, g6, g7, hb⟩ := iv_at HEr.out hx
   have k1 := Lib.hid fun W => good_any x W
   have HX := Lib.hid hx
   clear hx
   cases hG : x.good
   case false =>
    have hE := Lib.hid (show validL xs = 1 from by unfold validL; rw [if_neg (fun hf => by have := hf.1 k _ HX.out; rw [hG] at this; cases this)])
    rw [hG] at k1
    clear hG
    obtain ⟨xa, xb, xc, xd, xp, xq, xr, xs'⟩ := x
    unfold Iv.v at *
    simp only at *
    go_wp2_with fail
    refine (k1.out _).mono ?_
    rintro e w1 ⟨rfl, hB1⟩
    have H1 := Lib.hid (hB.out.trans (hB1.mono hB.out.size))
    clear hB1 g0 g1 g2 g3 g4 g5 g6 g7
    go_wp2_with fail
    go_quiet (fail)
    go_wp2
    go_ret
    exact ⟨ret_int hE.out.symm, below_drewN H1.out _⟩
   case true =>
    have HG := Lib.hid hG
    rw [hG] at k1
    clear hG
    by_cases hk0 : k = 0
    ·have hk0' : (k : Int) ≤ 0 := by omega
     have hd : decide (0 < (k : Int)) = false := decide_eq_false (by omega)
     have hd2 : decide (0 < k) = false := decide_eq_false (by omega)
     have HF2 : Hid (Fit (xs.take (k + 1))) := Fit.snoc hF.out HX.out HG.out (fun y h0 _ => by omega)
     have HK0 := Lib.hid hk0
     clear hk0
     obtain ⟨xa, xb, xc, xd, xp, xq, xr, xs'⟩ := x
     unfold Iv.v at *
     simp only at *
     go_wp2_with fail
     refine (k1.out _).mono ?_
     rintro e w1 ⟨rfl, hB1⟩
     have H1 := Lib.hid (hB.out.trans (hB1.mono hB.out.size))
     clear hB1 g0 g1 g2 g3 g4 g5 g6 g7
     go_wp2_with fail
     go_quiet (fail)
     go_wp2
     go_roundw
     case rel => exact ⟨k + 1, by omega, by go_num, HF2, below_drewN H1.out _⟩
     case measure => simp [intOf]; omega
    ·have hk1 : 0 < (k : Int) := by omega
     have hk1' : 0 < k := by omega
     have hd2 : decide (0 < k) = true := decide_eq_true (by omega)
     obtain ⟨y, hy⟩ : ∃ y, xs[k - 1]? = some y := ⟨xs[k - 1]'(by rw [HN.out]; omega), List.getElem?_eq_getElem _⟩
     have hgy : y.good = true := hF.out.1 (k - 1) y (by rw [List.getElem?_take, if_pos (by omega)]; exact hy)
     obtain ⟨p0, p1, p2, p3, p4, p5, p6, p7, pb⟩ := iv_at HEr.out hy
     have k2 := fun W => apart_any y x W hgy HG.out
     have HY := Lib.hid hy
     have hT : Hid (decide (y.to.key < x.from.key) = true → Fit (xs.take (k + 1))) := fun h => Fit.snoc hF.out HX.out HG.out (fun z h0 hz => by
      rw [HY.out] at hz
      cases hz
      exact of_decide_eq_true h)
     have hE : Hid (decide (y.to.key < x.from.key) = false → validL xs = 1) := fun h => by
      unfold validL
      rw [if_neg (fun hf => by
       have := hf.2 (k - 1) y x HY.out (by rw [show k - 1 + 1 = k by omega]; exact HX.out)
       exact of_decide_eq_false h this)]
     clear hgy hy
     generalize decide (y.to.key < x.from.key) = G2 at *
     have K2 := Lib.hid k2
     have HK0 := Lib.hid hk0
     clear k2 hk0
     obtain ⟨xa, xb, xc, xd, xp, xq, xr, xs'⟩ := x
     obtain ⟨ya, yb, yc, yd, yp, yq, yr, ys'⟩ := y
     unfold Iv.v at *
     simp only at *
     go_wp2_with fail
     refine (k1.out _).mono ?_
     rintro e w1 ⟨rfl, hB1⟩
     have H1 := Lib.hid (hB.out.trans (hB1.mono hB.out.size))
     have hS1 : Since wr w1 := hB1
     have q0 := Since.cell hS1 g0
     have q1 := Since.cell hS1 g1
     have q2 := Since.cell hS1 g2
     have q3 := Since.cell hS1 g3
     have q4 := Since.cell hS1 g4
     have q5 := Since.cell hS1 g5
     have q6 := Since.cell hS1 g6
     have q7 := Since.cell hS1 g7
     have r0 := Since.cell hS1 p0
     have r1 := Since.cell hS1 p1
     have r2 := Since.cell hS1 p2
     have r3 := Since.cell hS1 p3
     have r4 := Since.cell hS1 p4
     have r5 := Since.cell hS1 p5
     have r6 := Since.cell hS1 p6
     have r7 := Since.cell hS1 p7
     clear hB1 hS1 g0 g1 g2 g3 g4 g5 g6 g7 p0 p1 p2 p3 p4 p5 p6 p7
     have hS0 : Since w1 w1 := Below.refl _ _
     have hSd : Since w1 w1.drew := Below.drew hS0
     have n1 : (k : Int) - 1 < n := by omega
     have n2 : 0 ≤ (k : Int) - 1 := by omega
     have n5 : (1 : Int) ≤ (k : Int) := by omega
     have n6 : (k : Int) ≤ (n : Int) := by omega
     have n7 : k ≤ n := by omega
     have n8 : 1 ≤ k := by omega
     have n3 : ((k : Int) - 1).toNat = k - 1 := by omega
     have n4 : IntKind.i64.wrap ((k : Int) - 1) = (k : Int) - 1 := IntWalk.i64_in _ (by omega)
     go_wp2_with fail
     go_region_held3 (fun w' => w'.cell? ⟨b, k * 8, none⟩ = some (.int .i64 xa) ∧ w'.cell? ⟨b, k * 8 + 1, none⟩ = some (.int .i64 xb) ∧ w'.cell? ⟨b, k * 8 + 2, none⟩ = some (.int .i64 xc) ∧ w'.cell? ⟨b, k * 8 + 3, none⟩ = some (.int .i64 xd)
       ∧ w'.cell? ⟨b, k * 8 + 4, none⟩ = some (.bool xp) ∧ w'.cell? ⟨b, k * 8 + 5, none⟩ = some (.bool xq) ∧ w'.cell? ⟨b, k * 8 + 6, none⟩ = some (.bool xr) ∧ w'.cell? ⟨b, k * 8 + 7, none⟩ = some (.bool xs')
       ∧ w'.cell? ⟨b, (k - 1) * 8, none⟩ = some (.int .i64 ya) ∧ w'.cell? ⟨b, (k - 1) * 8 + 1, none⟩ = some (.int .i64 yb) ∧ w'.cell? ⟨b, (k - 1) * 8 + 2, none⟩ = some (.int .i64 yc) ∧ w'.cell? ⟨b, (k - 1) * 8 + 3, none⟩ = some (.int .i64 yd)
       ∧ w'.cell? ⟨b, (k - 1) * 8 + 4, none⟩ = some (.bool yp) ∧ w'.cell? ⟨b, (k - 1) * 8 + 5, none⟩ = some (.bool yq) ∧ w'.cell? ⟨b, (k - 1) * 8 + 6, none⟩ = some (.bool yr) ∧ w'.cell? ⟨b, (k - 1) * 8 + 7, none⟩ = some (.bool ys') ∧ Since w1 w')
      (first | exact ⟨q0, q1, q2, q3, q4, q5, q6, q7, r0, r1, r2, r3, r4, r5, r6, r7, hSd⟩ | exact ⟨Since.cell hB2 q0, Since.cell hB2 q1, Since.cell hB2 q2, Since.cell hB2 q3, Since.cell hB2 q4, Since.cell hB2 q5, Since.cell hB2 q6, Since.cell hB2 q7, Since.cell hB2 r0, Since.cell hB2 r1, Since.cell hB2 r2, Since.cell hB2 r3, Since.cell hB2 r4, Since.cell hB2 r5, Since.cell hB2 r6, Since.cell hB2 r7, hB2⟩)
      ((go_at_call 176; refine (K2.out _).mono ?_; rintro e w' ⟨rfl, hr⟩; have hB2 := Since.step hSd hr; clear hr))
     have HBB := Lib.hid (H1.out.trans (Below.mono hB2 H1.out.size))
     clear hB2 hS0 hSd q0 q1 q2 q3 q4 q5 q6 q7 r0 r1 r2 r3 r4 r5 r6 r7 n1 n2 n3 n4 n5 n6 n7 n8
     cases G2
     case true =>
      have HF2 := Lib.hid (hT.out rfl)
      go_wp2
      go_roundw
      case rel => exact ⟨k + 1, by omega, by go_num, HF2, HBB⟩
      case measure => simp [intOf]; omega
     case false =>
      have HE2 := Lib.hid (hE.out rfl)
      go_wp2
      go_ret
      exact ⟨ret_int HE2.out.symm, HBB.out⟩
  ·have hki : (n : Int) ≤ (k : Int) := by omega
   have hfit : Fit xs := by
    have := hF.out
    rwa [List.take_of_length_le (by rw [HN.out]; omega)] at this
   have hnn := HN.out
   by_cases h32 : 32 < n
   ·have hE := Lib.hid (show validL xs = 4 from by unfold validL; rw [if_pos hfit, if_pos (by omega)])
    have h32' : (32 : Int) < (n : Int) := by omega
    clear hfit hnn
    go_wp2
    go_ret
    exact ⟨ret_int hE.out.symm, hB.out⟩
   ·have hE := Lib.hid (show validL xs = 0 from by unfold validL; rw [if_pos hfit, if_neg (by omega)])
    have h32' : (n : Int) ≤ 32 := by omega
    clear hfit hnn
    go_wp2
    go_ret
    exact ⟨ret_int hE.out.symm, hB.out⟩
end Go.Proofs.YtgnloodmbgdgdaaGreat
