import Derived.Test.YtgnloodmbgdgdaaGreatFB02
import Derived.Test.YtgnloodmbgdgdaaGreatFB01
import Derived.Test.YtgnloodmbgdgdaaGreatFB03
namespace Go.Proofs.YtgnloodmbgdgdaaGreat
open Go.RowKit Go.Shelf
structure Iv where
 a : Int
 b : Int
 c : Int
 d : Int
 p : Bool
 q : Bool
 r : Bool
 s : Bool
deriving DecidableEq, Inhabited
def Iv.v (x : Iv) : Value := .agg #[.int .i64 x.a, .int .i64 x.b, .int .i64 x.c, .int .i64 x.d, .bool x.p, .bool x.q, .bool x.r, .bool x.s]
def Iv.wf (x : Iv) : Prop := I64 x.a ∧ I64 x.b ∧ I64 x.c ∧ I64 x.d
def RIv : RowOf Iv where
 cells x := [.int .i64 x.a, .int .i64 x.b, .int .i64 x.c, .int .i64 x.d, .bool x.p, .bool x.q, .bool x.r, .bool x.s]
 k := 8
 len _ := rfl
 one x v h := by simp at h; rcases h with rfl | rfl | rfl | rfl | rfl | rfl | rfl | rfl <;> rfl
 pos := by decide
def Cut.v (c : Cut) : Value := .agg #[.int .i64 c.n, .int .i64 c.d, .bool c.a]
def lowC : Cut := ⟨-1099511627776, 1, false⟩
def highC : Cut := ⟨1099511627776, 1, true⟩
def Iv.from (x : Iv) : Cut := if x.r then lowC else ⟨x.a, x.b, x.p⟩
def Iv.to (x : Iv) : Cut := if x.s then highC else ⟨x.c, x.d, !x.q⟩
end Go.Proofs.YtgnloodmbgdgdaaGreat
namespace Go.Proofs.YtgnloodmbgdgdaaGreat
open Go.RowKit Go.Shelf
theorem lowest_any (w : World) :
  Calls Tryz.prog 178 #[] w fun e w' => e = .returned lowC.v ∧ w' = w.alloc (.cells #[.int .i64 (-1099511627776), .int .i64 1, .bool false] 167) := by
 unfold lowC Cut.v
 go_enter Tryz.func178, Tryz.ntmps178
 go_wp2
 exact bodyPost_ret (v := .agg #[.int .i64 (-1099511627776), .int .i64 1, .bool false]) (by simp [results, Tryz.results178, go_sem]) rfl ⟨rfl, rfl⟩
theorem highest_any (w : World) :
  Calls Tryz.prog 179 #[] w fun e w' => e = .returned highC.v ∧ w' = w.alloc (.cells #[.int .i64 1099511627776, .int .i64 1, .bool true] 167) := by
 unfold highC Cut.v
 go_enter Tryz.func179, Tryz.ntmps179
 go_wp2
 exact bodyPost_ret (v := .agg #[.int .i64 1099511627776, .int .i64 1, .bool true]) (by simp [results, Tryz.results179, go_sem]) rfl ⟨rfl, rfl⟩
set_option maxHeartbeats 2000000 in
set_option maxRecDepth 100000 in
theorem bounds_any (x : Iv) (w : World) :
  Calls Tryz.prog 147 #[x.v] w fun e w' => e = .returned (.tuple #[x.from.v, x.to.v]) ∧ Below w.heap.size w w' := by
 obtain ⟨a, b, c, d, p, q, r, s⟩ := x
 have k1 := Lib.hid fun w => lowest_any w
 have k2 := Lib.hid fun w => highest_any w
 unfold Iv.v Iv.from Iv.to Cut.v lowC highC at *
 simp only at *
 cases r <;> cases s
 all_goals
  simp only [if_true, if_false, Bool.false_eq_true] at *
  go_enter Tryz.func147, Tryz.ntmps147
  go_wp2_with fail
  refine (k1.out _).mono ?_
  rintro e w' ⟨rfl, rfl⟩
  go_wp2_with fail
  refine (k2.out _).mono ?_
  rintro e w' ⟨rfl, rfl⟩
  go_wp2
  go_region
  all_goals
   go_wp2
   exact bodyPost_ret (v := .tuple #[_, _]) (by simp [results, Tryz.results147, go_sem]) rfl ⟨rfl, ((((((Below.refl _ _).alloc (Nat.le_refl _) _).alloc (by simp) _).alloc (by simp; omega) _).alloc (by simp; omega) _).alloc (by simp; omega) _).drew⟩
end Go.Proofs.YtgnloodmbgdgdaaGreat
namespace Go.Proofs.YtgnloodmbgdgdaaGreat
open Go.RowKit Go.Shelf
theorem ok_nums {a b : Int} (h : Qm.Ok a b) : I64 a ∧ I64 b := ⟨⟨by have := h.2.2.1; omega, by have := h.2.2.2.1; omega⟩, ⟨by have := h.1; omega, by have := h.2.1; omega⟩⟩
theorem cmpR_good {a b c d : Int} (o : Qm.Ok a b) (o' : Qm.Ok c d) : cmpR a b c d = (Qm.cmpI a b c d, 0) := by
 unfold cmpR
 rw [if_pos (Qm.bothI_ok.2 ⟨o, o'⟩)]
set_option maxHeartbeats 2000000 in
set_option maxRecDepth 100000 in
theorem scmp_any (x y : Cut) (w : World) (hx : x.Ok) (hy : y.Ok) :
  Calls Tryz.prog 148 #[x.v, y.v] w fun e w' => e = .returned (.int .i64 (cmpC x y)) ∧ Below w.heap.size w w' := by
 rw [cmpC_eq hx hy]
 have k1 := fun w => rcmp_any x.n x.d y.n y.d w (ok_nums hx).1 (ok_nums hx).2 (ok_nums hy).1 (ok_nums hy).2
 rw [cmpR_good hx hy] at k1
 obtain ⟨n, d, a⟩ := x
 obtain ⟨n', d', a'⟩ := y
 unfold Cut.v rv at *
 simp only at *
 clear hx hy
 generalize Qm.cmpI n d n' d' = V at *
 have XA := Lib.hid ((BoxL.made w #[.int .i64 n, .int .i64 d, .bool a] 167).under (.cells #[.int .i64 n', .int .i64 d', .bool a'] 167))
 have xb := BoxL.made (w.alloc (.cells #[.int .i64 n, .int .i64 d, .bool a] 167)) #[.int .i64 n', .int .i64 d', .bool a'] 167
 rw [size_alloc] at xb
 have XB := Lib.hid xb
 have HB0 := Lib.hid (((Below.refl w.heap.size w).alloc (Nat.le_refl _) (.cells #[.int .i64 n, .int .i64 d, .bool a] 167)).alloc (by simp) (.cells #[.int .i64 n', .int .i64 d', .bool a'] 167))
 have K1 := Lib.hid k1
 clear xb k1
 by_cases hV : V = 0
 ·subst hV
  cases a <;> cases a'
  all_goals
   go_enter Tryz.func148, Tryz.ntmps148
   go_wp2_with fail
   refine (K1.out _).mono ?_
   rintro e w1 ⟨rfl, hB⟩
   have H1 := Lib.hid (HB0.out.trans (hB.mono HB0.out.size))
   obtain ⟨a0, a1, a2, -, -, -, a3⟩ := BoxL.open3 (XA.out.keep hB)
   obtain ⟨b0, b1, b2, -, -, -, b3⟩ := BoxL.open3 (XB.out.keep hB)
   clear hB
   go_wp2
   go_ret
   exact ⟨rfl, H1.out⟩
 ·have hVb : (V == 0) = false := by simpa using hV
  rw [if_pos hV]
  go_enter Tryz.func148, Tryz.ntmps148
  go_wp2_with fail
  refine (K1.out _).mono ?_
  rintro e w1 ⟨rfl, hB⟩
  have H1 := Lib.hid (HB0.out.trans (hB.mono HB0.out.size))
  clear hB
  go_wp2
  go_ret
  exact ⟨rfl, H1.out⟩
def SmallR (n d : Int) : Prop := Qm.Ok n d ∧ -1073741824 ≤ n ∧ n ≤ 1073741824 ∧ d ≤ 32768
instance (n d : Int) : Decidable (SmallR n d) := inferInstanceAs (Decidable (_ ∧ _ ∧ _ ∧ _))
def endB (n d : Int) (o i : Bool) : Bool := if i then decide (n = 0 ∧ d = 0) && !o else decide (SmallR n d)
set_option maxHeartbeats 4000000 in
set_option maxRecDepth 100000 in
theorem vend_any (n d : Int) (o i : Bool) (w : World) (hn : I64 n) (hd : I64 d) :
  Calls Tryz.prog 177 #[rv n d, .bool o, .bool i] w fun e w' => e = .returned (.bool (endB n d o i)) ∧ Below w.heap.size w w' := by
 have HB0 := Lib.hid ((Below.refl w.heap.size w).alloc (Nat.le_refl _) (.cells #[.int .i64 n, .int .i64 d] 91))
 have XA := Lib.hid (BoxL.made w #[.int .i64 n, .int .i64 d] 91)
 cases i
 case true =>
  have hE : endB n d o true = (decide (n = 0 ∧ d = 0) && !o) := rfl
  rw [hE]
  unfold rv
  by_cases hn0 : n = 0
  ·by_cases hd0 : d = 0
   ·subst hn0
    subst hd0
    cases o
    all_goals
     go_enter Tryz.func177, Tryz.ntmps177
     go_wp2
     go_ret
     exact ⟨rfl, HB0.out⟩
   ·have hb : (d == 0) = false := by simpa using hd0
    rw [decide_eq_false (show ¬ (n = 0 ∧ d = 0) from fun h => hd0 h.2)]
    subst hn0
    go_enter Tryz.func177, Tryz.ntmps177
    go_wp2
    all_goals (go_ret; exact ⟨rfl, HB0.out⟩)
  ·have hb : (n == 0) = false := by simpa using hn0
   rw [decide_eq_false (show ¬ (n = 0 ∧ d = 0) from fun h => hn0 h.1)]
   go_enter Tryz.func177, Tryz.ntmps177
   go_wp2
   all_goals (go_ret; exact ⟨rfl, HB0.out⟩)
 case false =>
  have hE : endB n d o false = decide (SmallR n d) := rfl
  rw [hE]
  have k1 := fun w => rvalid_any n d w hn hd
  unfold rv at *
  by_cases hv : Qm.Ok n d
  ·have hz : Qm.validI n d = 0 := Qm.validI_ok.2 hv
   rw [hz] at k1
   have K1 := Lib.hid k1
   clear k1 hz
   by_cases h1 : -1073741824 ≤ n
   ·by_cases h2 : n ≤ 1073741824
    ·by_cases h3 : d ≤ 32768
     ·rw [decide_eq_true (show SmallR n d from ⟨hv, h1, h2, h3⟩)]
      clear hv
      go_enter Tryz.func177, Tryz.ntmps177
      go_wp2_with fail
      refine (K1.out _).mono ?_
      rintro e w1 ⟨rfl, hB⟩
      have H1 := Lib.hid (HB0.out.trans (hB.mono HB0.out.size))
      obtain ⟨a0, a1, -, -, a3⟩ := BoxL.open2 (XA.out.keep hB)
      clear hB
      go_wp2
      go_ret
      exact ⟨rfl, H1.out⟩
     ·rw [decide_eq_false (show ¬ SmallR n d from fun h => h3 h.2.2.2)]
      clear hv
      go_enter Tryz.func177, Tryz.ntmps177
      go_wp2_with fail
      refine (K1.out _).mono ?_
      rintro e w1 ⟨rfl, hB⟩
      have H1 := Lib.hid (HB0.out.trans (hB.mono HB0.out.size))
      obtain ⟨a0, a1, -, -, a3⟩ := BoxL.open2 (XA.out.keep hB)
      clear hB
      go_wp2
      go_ret
      exact ⟨ret_bool (decide_eq_false (by omega)), H1.out⟩
    ·rw [decide_eq_false (show ¬ SmallR n d from fun h => h2 h.2.2.1)]
     clear hv
     go_enter Tryz.func177, Tryz.ntmps177
     go_wp2_with fail
     refine (K1.out _).mono ?_
     rintro e w1 ⟨rfl, hB⟩
     have H1 := Lib.hid (HB0.out.trans (hB.mono HB0.out.size))
     obtain ⟨a0, a1, -, -, a3⟩ := BoxL.open2 (XA.out.keep hB)
     clear hB
     go_wp2
     go_ret
     exact ⟨rfl, H1.out⟩
   ·rw [decide_eq_false (show ¬ SmallR n d from fun h => h1 h.2.1)]
    clear hv
    go_enter Tryz.func177, Tryz.ntmps177
    go_wp2_with fail
    refine (K1.out _).mono ?_
    rintro e w1 ⟨rfl, hB⟩
    have H1 := Lib.hid (HB0.out.trans (hB.mono HB0.out.size))
    obtain ⟨a0, a1, -, -, a3⟩ := BoxL.open2 (XA.out.keep hB)
    clear hB
    go_wp2
    go_ret
    exact ⟨rfl, H1.out⟩
  ·have hz : Qm.validI n d = 1 := (Qm.validI_two n d).resolve_left fun h => hv (Qm.validI_ok.1 h)
   rw [hz] at k1
   have K1 := Lib.hid k1
   clear k1 hz
   rw [decide_eq_false (show ¬ SmallR n d from fun h => hv h.1)]
   clear hv
   go_enter Tryz.func177, Tryz.ntmps177
   go_wp2_with fail
   refine (K1.out _).mono ?_
   rintro e w1 ⟨rfl, hB⟩
   have H1 := Lib.hid (HB0.out.trans (hB.mono HB0.out.size))
   obtain ⟨a0, a1, -, -, a3⟩ := BoxL.open2 (XA.out.keep hB)
   clear hB
   go_wp2
   go_ret
   exact ⟨rfl, H1.out⟩
theorem key_low : lowC.Ok := by show Qm.Ok _ _; decide
theorem key_high : highC.Ok := by show Qm.Ok _ _; decide
theorem end_ok {n d : Int} {o i : Bool} (h : endB n d o i = true) : (i = true ∧ n = 0 ∧ d = 0 ∧ o = false) ∨ (i = false ∧ SmallR n d) := by
 unfold endB at h
 cases i
 ·exact .inr ⟨rfl, by simpa using h⟩
 ·simp at h
  exact .inl ⟨rfl, h.1.1, h.1.2, h.2⟩
noncomputable def Iv.good (x : Iv) : Bool := endB x.a x.b x.p x.r && endB x.c x.d x.q x.s && decide (x.from.key < x.to.key)
theorem from_ok {x : Iv} (h : endB x.a x.b x.p x.r = true) : x.from.Ok := by
 unfold Iv.from
 rcases end_ok h with ⟨e, _⟩ | ⟨e, h⟩
 ·rw [e]; exact key_low
 ·rw [e]; exact h.1
theorem to_ok {x : Iv} (h : endB x.c x.d x.q x.s = true) : x.to.Ok := by
 unfold Iv.to
 rcases end_ok h with ⟨e, _⟩ | ⟨e, h⟩
 ·rw [e]; exact key_high
 ·rw [e]; exact h.1
set_option maxHeartbeats 4000000 in
set_option maxRecDepth 100000 in
theorem viv_any (x : Iv) (w : World) (hx : x.wf) :
  Calls Tryz.prog 146 #[x.v] w fun e w' => e = .returned (.bool x.good) ∧ Below w.heap.size w w' := by
 have k1 := Lib.hid fun w => vend_any x.a x.b x.p x.r w hx.1 hx.2.1
 have k2 := Lib.hid fun w => vend_any x.c x.d x.q x.s w hx.2.2.1 hx.2.2.2
 have k3 := Lib.hid fun w => bounds_any x w
 have k4 := Lib.hid fun (h1 : endB x.a x.b x.p x.r = true) (h2 : endB x.c x.d x.q x.s = true) W => scmp_any x.from x.to W (from_ok h1) (to_ok h2)
 have HB0 := Lib.hid ((Below.refl w.heap.size w).alloc (Nat.le_refl _) (.cells #[.int .i64 x.a, .int .i64 x.b, .int .i64 x.c, .int .i64 x.d, .bool x.p, .bool x.q, .bool x.r, .bool x.s] 112))
 have XA := Lib.hid (cell_new8 w (.int .i64 x.a) (.int .i64 x.b) (.int .i64 x.c) (.int .i64 x.d) (.bool x.p) (.bool x.q) (.bool x.r) (.bool x.s) 112)
 have hG : x.good = (endB x.a x.b x.p x.r && endB x.c x.d x.q x.s && decide (x.from.key < x.to.key)) := rfl
 have hC : decide (x.from.key < x.to.key) = decide (cmpC x.from x.to < 0) := by
  unfold cmpC
  by_cases h : x.from.key < x.to.key
  ·rw [if_pos h, decide_eq_true h]; rfl
  ·rw [if_neg h, decide_eq_false h]
   split <;> rfl
 rw [hC] at hG
 rw [hG]
 clear hG hC hx
 unfold Iv.v
 generalize x.from = F at *
 generalize x.to = T at *
 generalize cmpC F T = V at *
 by_cases h1 : endB x.a x.b x.p x.r = true
 ·by_cases h2 : endB x.c x.d x.q x.s = true
  ·have K4 := Lib.hid (k4.out h1 h2)
   rw [h1] at k1
   rw [h2] at k2
   rw [h1, h2]
   clear h1 h2 k4
   obtain ⟨a, b, c, d, p, q, r, s⟩ := x
   obtain ⟨fn, fd, fa⟩ := F
   obtain ⟨tn, td, ta⟩ := T
   unfold rv Iv.v Cut.v at *
   simp only at *
   go_enter Tryz.func146, Tryz.ntmps146
   go_wp2_with fail
   refine (k1.out _).mono ?_
   rintro e w1 ⟨rfl, hB⟩
   have H1 := Lib.hid (HB0.out.trans (hB.mono HB0.out.size))
   have X1 := Lib.hid (XA.out.keep hB)
   obtain ⟨a0, a1, a2, a3, a4, a5, a6, a7, a8⟩ := X1.out.open8
   clear hB
   go_wp2_with fail
   refine (k2.out _).mono ?_
   rintro e w2 ⟨rfl, hB⟩
   have H2 := Lib.hid (H1.out.trans (hB.mono H1.out.size))
   have X2 := Lib.hid (X1.out.keep hB)
   clear hB a0 a1 a2 a3 a4 a5 a6 a7 a8 X1
   obtain ⟨a0, a1, a2, a3, a4, a5, a6, a7, a8⟩ := X2.out.open8
   go_wp2_with fail
   refine (k3.out _).mono ?_
   rintro e w3 ⟨rfl, hB⟩
   have H3 := Lib.hid (H2.out.trans (hB.mono H2.out.size))
   clear hB a0 a1 a2 a3 a4 a5 a6 a7 a8 X2
   go_wp2_with fail
   refine (K4.out _).mono ?_
   rintro e w4 ⟨rfl, hB⟩
   have H4 := Lib.hid (((H3.out.alloc H3.out.size _).alloc (Nat.le_trans H3.out.size (by simp)) _).trans (hB.mono (Nat.le_trans H3.out.size (by simp; omega))))
   clear hB
   go_wp2
   go_ret
   exact ⟨rfl, H4.out⟩
  ·have hf : endB x.c x.d x.q x.s = false := by simpa using h2
   rw [h1] at k1
   rw [hf] at k2
   rw [h1, hf]
   clear h1 h2 hf k4 k3
   obtain ⟨a, b, c, d, p, q, r, s⟩ := x
   unfold rv at *
   simp only at *
   go_enter Tryz.func146, Tryz.ntmps146
   go_wp2_with fail
   refine (k1.out _).mono ?_
   rintro e w1 ⟨rfl, hB⟩
   have H1 := Lib.hid (HB0.out.trans (hB.mono HB0.out.size))
   have X1 := Lib.hid (XA.out.keep hB)
   obtain ⟨a0, a1, a2, a3, a4, a5, a6, a7, a8⟩ := X1.out.open8
   clear hB
   go_wp2_with fail
   refine (k2.out _).mono ?_
   rintro e w2 ⟨rfl, hB⟩
   have H2 := Lib.hid (H1.out.trans (hB.mono H1.out.size))
   clear hB a0 a1 a2 a3 a4 a5 a6 a7 a8 X1
   go_wp2
   go_ret
   exact ⟨rfl, H2.out⟩
 ·have hf : endB x.a x.b x.p x.r = false := by simpa using h1
  rw [hf] at k1
  rw [hf]
  clear h1 hf k4 k3 k2
  obtain ⟨a, b, c, d, p, q, r, s⟩ := x
  unfold rv at *
  simp only at *
  go_enter Tryz.func146, Tryz.ntmps146
  go_wp2_with fail
  refine (k1.out _).mono ?_
  rintro e w1 ⟨rfl, hB⟩
  have H1 := Lib.hid (HB0.out.trans (hB.mono HB0.out.size))
  clear hB
  go_wp2
  go_ret
  exact ⟨rfl, H1.out⟩
end Go.Proofs.YtgnloodmbgdgdaaGreat
namespace Go.Proofs.YtgnloodmbgdgdaaGreat
open Go.RowKit Go.Shelf
def Fit (xs : List Iv) : Prop := (∀ (i : Nat) (x : Iv), xs[i]? = some x → x.good = true) ∧ ∀ (i : Nat) (x y : Iv), xs[i]? = some x → xs[i + 1]? = some y → x.to.key < y.from.key
open Classical in
noncomputable def validL (xs : List Iv) : Int := if Fit xs then (if 32 < xs.length then 4 else 0) else 1
theorem Fit.nil : Fit [] := ⟨fun i x h => by simp at h, fun i x y h => by simp at h⟩
theorem Fit.take {xs : List Iv} (h : Fit xs) (k : Nat) : Fit (xs.take k) := by
 constructor
 ·intro i x hx
  rw [List.getElem?_take] at hx
  split at hx
  ·exact h.1 i x hx
  ·cases hx
 ·intro i x y hx hy
  rw [List.getElem?_take] at hx hy
  split at hx
  ·split at hy
   ·exact h.2 i x y hx hy
   ·cases hy
  ·cases hx
theorem Fit.snoc {xs : List Iv} {k : Nat} {x : Iv} (h : Fit (xs.take k)) (hx : xs[k]? = some x) (hg : x.good = true) (hc : ∀ y, 0 < k → xs[k - 1]? = some y → y.to.key < x.from.key) : Fit (xs.take (k + 1)) := by
 constructor
 ·intro i y hy
  rw [List.getElem?_take] at hy
  split at hy
  ·by_cases e : i = k
   ·subst e
    rw [hx] at hy
    cases hy
    exact hg
   ·exact h.1 i y (by rw [List.getElem?_take, if_pos (by omega)]; exact hy)
  ·cases hy
 ·intro i y z hy hz
  rw [List.getElem?_take] at hy hz
  split at hz
  ·rw [if_pos (by omega)] at hy
   by_cases e : i + 1 = k
   ·subst e
    rw [hx] at hz
    cases hz
    exact hc y (by omega) hy
   ·exact h.2 i y z (by rw [List.getElem?_take, if_pos (by omega)]; exact hy) (by rw [List.getElem?_take, if_pos (by omega)]; exact hz)
  ·cases hz
theorem BoxL.store3 {W : World} {N : Nat} {a b c x y z : Value} (h : BoxL N [a, b, c] W) : BoxL N [x, y, z] (((W.setCell ⟨N, 0, none⟩ x).setCell ⟨N, 1, none⟩ y).setCell ⟨N, 2, none⟩ z) := by
 obtain ⟨c0, c1, c2, f0, f1, f2, hz⟩ := h.open3
 refine ⟨?_, fun i v hv => ?_⟩
 ·have := (((Below.refl N W).setCell (p := ⟨N, 0, none⟩) (Nat.le_refl _) x).setCell (p := ⟨N, 1, none⟩) (Nat.le_refl _) y).setCell (p := ⟨N, 2, none⟩) (Nat.le_refl _) z
  exact Nat.lt_of_lt_of_le hz this.size
 ·rw [World.frozen?_setCell, World.frozen?_setCell, World.frozen?_setCell]
  match i with
  | 0 =>
   cases hv
   refine ⟨?_, f0⟩
   rw [World.cell?_setCell_other _ ⟨N, 2, none⟩ ⟨N, 0, none⟩ _ (by simp), World.cell?_setCell_other _ ⟨N, 1, none⟩ ⟨N, 0, none⟩ _ (by simp)]
   exact World.cell?_setCell_same _ _ _ c0
  | 1 =>
   cases hv
   refine ⟨?_, f1⟩
   rw [World.cell?_setCell_other _ ⟨N, 2, none⟩ ⟨N, 1, none⟩ _ (by simp)]
   exact World.cell?_setCell_same _ _ _ ((World.cell?_setCell_other _ ⟨N, 0, none⟩ ⟨N, 1, none⟩ _ (by simp)).trans c1)
  | 2 =>
   cases hv
   refine ⟨?_, f2⟩
   exact World.cell?_setCell_same _ _ _ ((World.cell?_setCell_other _ ⟨N, 1, none⟩ ⟨N, 2, none⟩ _ (by simp)).trans ((World.cell?_setCell_other _ ⟨N, 0, none⟩ ⟨N, 2, none⟩ _ (by simp)).trans c2))
  | i + 3 => simp at hv
theorem iv_at {w : World} {b n c : Nat} {xs : List Iv} {j : Nat} {x : Iv} (h : REls RIv w (.slice (some ⟨b, 0, none⟩) n c) xs) (hx : xs[j]? = some x) :
  w.cell? ⟨b, j * 8, none⟩ = some (.int .i64 x.a) ∧ w.cell? ⟨b, j * 8 + 1, none⟩ = some (.int .i64 x.b) ∧ w.cell? ⟨b, j * 8 + 2, none⟩ = some (.int .i64 x.c) ∧ w.cell? ⟨b, j * 8 + 3, none⟩ = some (.int .i64 x.d)
  ∧ w.cell? ⟨b, j * 8 + 4, none⟩ = some (.bool x.p) ∧ w.cell? ⟨b, j * 8 + 5, none⟩ = some (.bool x.q) ∧ w.cell? ⟨b, j * 8 + 6, none⟩ = some (.bool x.r) ∧ w.cell? ⟨b, j * 8 + 7, none⟩ = some (.bool x.s) ∧ b < w.heap.size := by
 have hn := h.len
 have hj : j < n := by rw [hn]; exact (List.getElem?_eq_some_iff.1 hx).1
 obtain ⟨b', e, hb, hc, hat⟩ := h.get hj
 cases e
 have g := fun i v hv => hat j x hx i v hv
 exact ⟨g 0 _ rfl, g 1 _ rfl, g 2 _ rfl, g 3 _ rfl, g 4 _ rfl, g 5 _ rfl, g 6 _ rfl, g 7 _ rfl, hb⟩
def lastC (xs : List Iv) (k : Nat) : Cut := if k = 0 then ⟨0, 0, false⟩ else match xs[k - 1]? with | some x => x.to | none => ⟨0, 0, false⟩
theorem lastC_succ {xs : List Iv} {k : Nat} {x : Iv} (h : xs[k]? = some x) : lastC xs (k + 1) = x.to := by
 unfold lastC
 rw [if_neg (by omega), Nat.add_sub_cancel, h]
theorem good_parts {x : Iv} (h : x.good = true) : x.from.Ok ∧ x.to.Ok ∧ x.from.key < x.to.key := by
 unfold Iv.good at h
 simp only [Bool.and_eq_true, decide_eq_true_eq] at h
 exact ⟨from_ok h.1.1, to_ok h.1.2, h.2⟩
set_option maxHeartbeats 8000000 in
set_option maxRecDepth 100000 in
theorem svalid_any (sv : Value) (xs : List Iv) (w : World) (h : REls RIv w sv xs) (hwf : ∀ x ∈ xs, x.wf) (hl : xs.length ≤ 1000000) :
  Calls Tryz.prog 94 #[sv] w fun e w' => e = .returned (.int .i64 (validL xs)) ∧ Below w.heap.size w w' := by
 obtain ⟨a, cap, rfl⟩ := h.shape
 have HE := Lib.hid h
 have HWF := Lib.hid hwf
 generalize hn : xs.length = n at *
 have HN := Lib.hid hn
 clear h hwf hn
 have HB0 := Lib.hid ((Below.refl w.heap.size w).alloc (Nat.le_refl _) (.cells #[.int .i64 0, .int .i64 0, .bool false] 167))
 have X0 := Lib.hid (BoxL.made w #[.int .i64 0, .int .i64 0, .bool false] 167)
 go_enter Tryz.func94, Tryz.ntmps94
 go_wp2
 go_loopw [10] (fun x wr => ∃ k : Nat, k ≤ n ∧ x = .int .i64 k ∧ Hid (Fit (xs.take k)) ∧ Hid (BoxL w.heap.size [.int .i64 (lastC xs k).n, .int .i64 (lastC xs k).d, .bool (lastC xs k).a] wr) ∧ Hid (Below w.heap.size w wr)) (fun x _ => n - (intOf x).toNat)
 case atStart => exact ⟨0, by omega, rfl, Fit.nil, X0, HB0⟩
 case round =>
  obtain ⟨k, hk, rfl, hF, hX, hB⟩ := hrel
  by_cases hlt : k < n
  ·have hki : (k : Int) < n := by omega
   obtain ⟨x, hx⟩ : ∃ x, xs[k]? = some x := ⟨xs[k]'(by rw [HN.out]; exact hlt), List.getElem?_eq_getElem _⟩
   obtain ⟨b, rfl, -⟩ := HE.out.get hlt
   obtain ⟨g0, g1, g2, g3, g4, g5, g6, g7, hb⟩ := iv_at (HE.out.below hB.out) hx
   have k1 := Lib.hid fun W => viv_any x W (HWF.out x (List.mem_of_getElem? hx))
   have k3 := Lib.hid fun W => bounds_any x W
   have k4 := Lib.hid fun (h : x.good = true) (c : Cut) (hc : c.Ok) W => scmp_any c x.from W hc (good_parts h).1
   have HX := Lib.hid hx
   have hXx := Lib.hid (cell_new8 wr (.int .i64 x.a) (.int .i64 x.b) (.int .i64 x.c) (.int .i64 x.d) (.bool x.p) (.bool x.q) (.bool x.r) (.bool x.s) 112)
   have hX1 := Lib.hid (hX.out.under (.cells #[.int .i64 x.a, .int .i64 x.b, .int .i64 x.c, .int .i64 x.d, .bool x.p, .bool x.q, .bool x.r, .bool x.s] 112))
   have hB1 := Lib.hid (hB.out.alloc hB.out.size (.cells #[.int .i64 x.a, .int .i64 x.b, .int .i64 x.c, .int .i64 x.d, .bool x.p, .bool x.q, .bool x.r, .bool x.s] 112))
   clear hx hX hB
   generalize hG : x.good = G at *
   generalize hFc : x.from = fc at *
   generalize hTc : x.to = tc at *
   have HG := Lib.hid hG
   have HFc := Lib.hid hFc
   have HTc := Lib.hid hTc
   clear hG hFc hTc
   generalize hLc : lastC xs k = lc at *
   have HLc := Lib.hid hLc
   clear hLc
   obtain ⟨xa, xb, xc, xd, xp, xq, xr, xs'⟩ := x
   obtain ⟨fn, fd, fa⟩ := fc
   obtain ⟨tn, td, ta⟩ := tc
   obtain ⟨ln, ld, la⟩ := lc
   unfold Iv.v Cut.v at *
   simp only at *
   have hlok : ∀ _ : 0 < k, Cut.Ok ⟨ln, ld, la⟩ := by
    intro h0
    obtain ⟨y, hy⟩ : ∃ y, xs[k - 1]? = some y := ⟨xs[k - 1]'(by rw [HN.out]; omega), List.getElem?_eq_getElem _⟩
    have hg := hF.out.1 (k - 1) y (by rw [List.getElem?_take, if_pos (by omega)]; exact hy)
    have e := HLc.out
    unfold lastC at e
    rw [if_neg (by omega), hy] at e
    rw [← e]
    exact (good_parts hg).2.1
   have HLok := Lib.hid hlok
   clear hlok
   cases G
   case false =>
    have hE := Lib.hid (show validL xs = 1 from by unfold validL; rw [if_neg (fun hf => by have := hf.1 k _ HX.out; rw [HG.out] at this; cases this)])
    clear k3 k4 HFc HTc HLc hF HLok
    go_wp2_with fail
    refine (k1.out _).mono ?_
    rintro e w1 ⟨rfl, hB⟩
    have H1 := Lib.hid (hB1.out.trans (hB.mono hB1.out.size))
    clear hB
    go_wp2
    go_ret
    exact ⟨ret_int hE.out.symm, H1.out⟩
   case true =>
    have K4 := Lib.hid (k4.out rfl)
    clear k4
    go_wp2_with fail
    refine (k1.out _).mono ?_
    rintro e w1 ⟨rfl, hB⟩
    have H1 := Lib.hid (hB1.out.trans (hB.mono hB1.out.size))
    have XX := Lib.hid (hXx.out.keep hB)
    have XL := Lib.hid (hX1.out.keep hB)
    clear hB hB1 hXx hX1 g0 g1 g2 g3 g4 g5 g6 g7 hb
    obtain ⟨a0, a1, a2, a3, a4, a5, a6, a7, a8⟩ := XX.out.open8
    go_wp2_with fail
    refine (k3.out _).mono ?_
    rintro e w2 ⟨rfl, hB⟩
    have H2 := Lib.hid (((H1.out.trans (hB.mono H1.out.size)).alloc (H1.out.trans (hB.mono H1.out.size)).size (.cells #[.int .i64 fn, .int .i64 fd, .bool fa] 167)).alloc (Nat.le_trans (H1.out.trans (hB.mono H1.out.size)).size (by simp)) (.cells #[.int .i64 tn, .int .i64 td, .bool ta] 167))
    have XL2 := Lib.hid (((XL.out.keep hB).under (.cells #[.int .i64 fn, .int .i64 fd, .bool fa] 167)).under (.cells #[.int .i64 tn, .int .i64 td, .bool ta] 167))
    have xt := BoxL.made (w2.alloc (.cells #[.int .i64 fn, .int .i64 fd, .bool fa] 167)) #[.int .i64 tn, .int .i64 td, .bool ta] 167
    rw [size_alloc] at xt
    have XT := Lib.hid xt
    clear hB H1 XX XL a0 a1 a2 a3 a4 a5 a6 a7 a8 xt
    obtain ⟨l0, l1, l2, m0, m1, m2, l3⟩ := XL2.out.open3
    by_cases hk0 : k = 0
    ·have hk0' : (k : Int) ≤ 0 := by omega
     go_wp2
     go_roundw
     case rel =>
      refine ⟨k + 1, by omega, by go_num, Fit.snoc hF.out HX.out HG.out (fun y h0 _ => by omega), ?_, ?_⟩
      ·show BoxL _ _ _
       rw [lastC_succ HX.out, HTc.out]
       exact XL2.out.store3
      ·exact ((H2.out.setCell (p := ⟨w.heap.size, 0, none⟩) (Nat.le_refl _) _).setCell (p := ⟨w.heap.size, 1, none⟩) (Nat.le_refl _) _).setCell (p := ⟨w.heap.size, 2, none⟩) (Nat.le_refl _) _
     case measure => simp [intOf]; omega
    ·have hk0' : 0 < (k : Int) := by omega
     go_wp2_with fail
     refine (K4.out ⟨ln, ld, la⟩ (HLok.out (by omega)) _).mono ?_
     rintro e w3 ⟨rfl, hB⟩
     have H3 := Lib.hid (H2.out.trans (hB.mono H2.out.size))
     have XL3 := Lib.hid (XL2.out.keep hB)
     have XT3 := Lib.hid (XT.out.keep hB)
     clear hB H2 XL2 XT l0 l1 l2 m0 m1 m2 l3
     obtain ⟨l0, l1, l2, m0, m1, m2, l3⟩ := XL3.out.open3
     obtain ⟨t0, t1, t2, -, -, -, t3⟩ := XT3.out.open3
     by_cases hlt2 : Cut.key ⟨ln, ld, la⟩ < Cut.key ⟨fn, fd, fa⟩
     ·have hV : cmpC ⟨ln, ld, la⟩ ⟨fn, fd, fa⟩ = -1 := by unfold cmpC; rw [if_pos hlt2]
      rw [hV]
      have HF2 : Hid (Fit (xs.take (k + 1))) := Fit.snoc hF.out HX.out HG.out (fun y h0 hy => by
       have e := HLc.out
       unfold lastC at e
       rw [if_neg (by omega), hy] at e
       rw [HFc.out]
       have e' : y.to = ⟨ln, ld, la⟩ := e
       rw [e']
       exact hlt2)
      clear hlt2 hV
      go_wp2
      go_roundw
      case rel =>
       refine ⟨k + 1, by omega, by go_num, HF2, ?_, ?_⟩
       ·show BoxL _ _ _
        rw [lastC_succ HX.out, HTc.out]
        exact XL3.out.store3
       ·exact ((H3.out.setCell (p := ⟨w.heap.size, 0, none⟩) (Nat.le_refl _) _).setCell (p := ⟨w.heap.size, 1, none⟩) (Nat.le_refl _) _).setCell (p := ⟨w.heap.size, 2, none⟩) (Nat.le_refl _) _
      case measure => simp [intOf]; omega
     ·have hE := Lib.hid (show validL xs = 1 from by
       unfold validL
       rw [if_neg (fun hf => by
        obtain ⟨y, hy⟩ : ∃ y, xs[k - 1]? = some y := ⟨xs[k - 1]'(by rw [HN.out]; omega), List.getElem?_eq_getElem _⟩
        have e := HLc.out
        unfold lastC at e
        rw [if_neg (by omega), hy] at e
        have e' : y.to = ⟨ln, ld, la⟩ := e
        have := hf.2 (k - 1) y _ hy (by rw [show k - 1 + 1 = k by omega]; exact HX.out)
        rw [HFc.out, e'] at this
        exact hlt2 this)])
      have hV : 0 ≤ cmpC ⟨ln, ld, la⟩ ⟨fn, fd, fa⟩ := by unfold cmpC; rw [if_neg hlt2]; split <;> omega
      generalize cmpC ⟨ln, ld, la⟩ ⟨fn, fd, fa⟩ = V at *
      clear hlt2
      go_wp2
      go_ret
      exact ⟨ret_int hE.out.symm, H3.out⟩
  ·have hki : (n : Int) ≤ (k : Int) := by omega
   have hfit : Fit xs := by
    have := hF.out
    rwa [List.take_of_length_le (by rw [HN.out]; omega)] at this
   have hnn := HN.out
   by_cases h32 : 32 < n
   ·have hE := Lib.hid (show validL xs = 4 from by unfold validL; rw [if_pos hfit, if_pos (by omega)])
    have h32' : (32 : Int) < (n : Int) := by omega
    clear hfit hnn hX
    go_wp2
    go_ret
    exact ⟨ret_int hE.out.symm, hB.out⟩
   ·have hE := Lib.hid (show validL xs = 0 from by unfold validL; rw [if_pos hfit, if_neg (by omega)])
    have h32' : (n : Int) ≤ 32 := by omega
    clear hfit hnn hX
    go_wp2
    go_ret
    exact ⟨ret_int hE.out.symm, hB.out⟩
end Go.Proofs.YtgnloodmbgdgdaaGreat
namespace Go.Proofs.YtgnloodmbgdgdaaGreat
open Go.RowKit Go.Shelf
def goodB (a b c d : Int) (p q r s : Bool) : Bool :=
 if r = true ∧ (¬ (a = 0 ∧ b = 0) ∨ p = true) then false else if s = true ∧ (¬ (c = 0 ∧ d = 0) ∨ q = true) then false else
 if r = false ∧ decide (SmallR a b) = false then false else if s = false ∧ decide (SmallR c d) = false then false else if r = true ∨ s = true then true else if a = c ∧ b = d then !p && !q else decide (a * d < c * b)
end Go.Proofs.YtgnloodmbgdgdaaGreat
namespace Go.Proofs.YtgnloodmbgdgdaaGreat
open Go.RowKit Go.Shelf
def Cut.ltB (c c' : Cut) : Bool := decide (c.n * c'.d < c'.n * c.d) || (decide (c.n = c'.n ∧ c.d = c'.d) && !c.a && c'.a)
theorem Cut.lt_of {c c' : Cut} (o : c.Ok) (o' : c'.Ok) (h : Cut.ltB c c' = true) : c.key < c'.key := by
 obtain ⟨n, d, a⟩ := c
 obtain ⟨n', d', a'⟩ := c'
 unfold Cut.key
 unfold Cut.ltB at h
 simp only [Bool.or_eq_true, Bool.and_eq_true, decide_eq_true_eq, Bool.not_eq_true'] at h
 simp only
 rcases h with h | ⟨⟨⟨rfl, rfl⟩, rfl⟩, rfl⟩
 ·have h2 : kR n d < kR n' d' := (kR_lt (n := n) (n' := n') o.1 o.2.1 o'.1 o'.2.1).2 h
  split <;> split <;> omega
 ·simp
  omega
def Iv.fine (x : Iv) : Bool := endB x.a x.b x.p x.r && endB x.c x.d x.q x.s && Cut.ltB x.from x.to
theorem Iv.good_of {x : Iv} (h : x.fine = true) : x.good = true := by
 unfold Iv.fine at h
 simp only [Bool.and_eq_true] at h
 obtain ⟨⟨h1, h2⟩, h3⟩ := h
 unfold Iv.good
 rw [h1, h2, decide_eq_true (Cut.lt_of (from_ok h1) (to_ok h2) h3)]
 rfl
def fineL : List Iv → Bool
 | [] => true
 | [x] => x.fine
 | [x, y] => x.fine && y.fine && Cut.ltB x.to y.from
 | _ => false
theorem fine_ends {x : Iv} (h : x.fine = true) : x.from.Ok ∧ x.to.Ok := by
 unfold Iv.fine at h
 simp only [Bool.and_eq_true] at h
 exact ⟨from_ok h.1.1, to_ok h.1.2⟩
theorem fine_fit : ∀ {l : List Iv}, fineL l = true → Fit l ∧ l.length ≤ 2
 | [], _ => ⟨Fit.nil, by simp⟩
 | [x], h => ⟨⟨fun i y hy => by
   match i with
   | 0 => cases hy; exact Iv.good_of h
   | i + 1 => simp at hy, fun i y z hy hz => by simp at hz⟩, by simp⟩
 | [x, y], h => by
  simp only [fineL, Bool.and_eq_true] at h
  obtain ⟨⟨h1, h2⟩, h3⟩ := h
  refine ⟨⟨fun i z hz => ?_, fun i u v hu hv => ?_⟩, by simp⟩
  ·match i with
   | 0 => cases hz; exact Iv.good_of h1
   | 1 => cases hz; exact Iv.good_of h2
   | i + 2 => simp at hz
  ·match i with
   | 0 => cases hu; cases hv; exact Cut.lt_of (fine_ends h1).2 (fine_ends h2).1 h3
   | i + 1 => simp at hv
 | _ :: _ :: _ :: _, h => by simp [fineL] at h
def rangeP (c : Nat) (ln ld hn : Int) (f g z : Bool) : List Iv :=
 match c with
 | 0 => [⟨0, 0, hn, ld, false, f, true, false⟩]
 | 1 => [⟨ln, ld, 0, 0, f, false, false, true⟩]
 | 2 => [⟨ln, ld, ln, ld, false, false, false, false⟩]
 | 3 => [⟨ln, ld, hn, ld, f, g, false, false⟩]
 | 4 => [⟨ln, ld, hn, ld, f, g, false, false⟩]
 | 5 => [⟨0, 0, 0, 0, false, false, true, true⟩]
 | 6 => [⟨0, 0, ln, ld, false, true, true, false⟩, ⟨hn, ld, 0, 0, f, false, false, true⟩]
 | _ => if z then [] else [⟨ln, ld, ln, ld, false, false, false, false⟩, ⟨hn, ld, hn, ld, false, false, false, false⟩]
def rangeLo (n : Nat) : Int × Int := if n % 16 = 3 then (2 * (n / 8 % 4 : Nat) - 1, 2) else ((n / 8 % 5 : Nat), 1)
def rangeHi (n : Nat) : Int := (rangeLo n).1 + (rangeLo n).2 * (1 + (n / 40 % 3 : Nat))
def rangeL (n : Nat) : List Iv := rangeP (n % 8) (rangeLo n).1 (rangeLo n).2 (rangeHi n) (decide (n / 64 % 2 = 0)) (decide (n / 128 % 2 = 0)) (decide (n / 64 % 4 = 0))
def los : List (Int × Int) := [(0, 1), (1, 1), (2, 1), (3, 1), (4, 1), (-1, 2), (1, 2), (3, 2), (5, 2)]
def wfB (x : Iv) : Bool := decide (-100 ≤ x.a ∧ x.a ≤ 100 ∧ -100 ≤ x.b ∧ x.b ≤ 100 ∧ -100 ≤ x.c ∧ x.c ≤ 100 ∧ -100 ≤ x.d ∧ x.d ≤ 100)
theorem los_all : ((List.range 8).all fun c => los.all fun lo => (List.range 3).all fun (j : Nat) => [true, false].all fun f => [true, false].all fun g => [true, false].all fun z => fineL (rangeP c lo.1 lo.2 (lo.1 + lo.2 * (1 + (j : Int))) f g z) && (rangeP c lo.1 lo.2 (lo.1 + lo.2 * (1 + (j : Int))) f g z).all wfB) = true := by kernel_rfl
theorem lo_mem (n : Nat) : rangeLo n ∈ los := by
 unfold rangeLo
 split
 ·have : n / 8 % 4 < 4 := by omega
  generalize n / 8 % 4 = m at *
  match m, this with
  | 0, _ => decide
  | 1, _ => decide
  | 2, _ => decide
  | 3, _ => decide
 ·have : n / 8 % 5 < 5 := by omega
  generalize n / 8 % 5 = m at *
  match m, this with
  | 0, _ => decide
  | 1, _ => decide
  | 2, _ => decide
  | 3, _ => decide
  | 4, _ => decide
theorem bmem (b : Bool) : b ∈ [true, false] := by cases b <;> simp
theorem range_facts (n : Nat) : Fit (rangeL n) ∧ (rangeL n).length ≤ 2 ∧ ∀ x ∈ rangeL n, x.wf := by
 have h := los_all
 have h1 := List.all_eq_true.1 h (n % 8) (List.mem_range.2 (by omega))
 have h2 := List.all_eq_true.1 h1 _ (lo_mem n)
 have h3 := List.all_eq_true.1 h2 (n / 40 % 3) (List.mem_range.2 (by omega))
 have h4 := List.all_eq_true.1 h3 _ (bmem (decide (n / 64 % 2 = 0)))
 have h5 := List.all_eq_true.1 h4 _ (bmem (decide (n / 128 % 2 = 0)))
 have h6 := List.all_eq_true.1 h5 _ (bmem (decide (n / 64 % 4 = 0)))
 have h7 : fineL (rangeL n) = true ∧ (rangeL n).all wfB = true := Bool.and_eq_true_iff.1 h6
 have h8 := fine_fit h7.1
 refine ⟨h8.1, h8.2, fun x hx => ?_⟩
 have := of_decide_eq_true (List.all_eq_true.1 h7.2 x hx)
 exact ⟨⟨by omega, by omega⟩, ⟨by omega, by omega⟩, ⟨by omega, by omega⟩, ⟨by omega, by omega⟩⟩
theorem valid_fit {l : List Iv} (h : Fit l) (hl : l.length ≤ 32) : validL l = 0 := by
 unfold validL
 rw [if_pos h, if_neg (by omega)]
end Go.Proofs.YtgnloodmbgdgdaaGreat
