import Derived.Test.YtgnloodmbgdgdaaGreatFB25
import Derived.Test.YtgnloodmbgdgdaaGreatFB27
import Derived.Test.YtgnloodmbgdgdaaGreatFB01
import Derived.Test.YtgnloodmbgdgdaaGreatFB13
import Derived.Test.YtgnloodmbgdgdaaGreatFB10
namespace Go.Proofs.YtgnloodmbgdgdaaGreat
open Go.RowKit Go.Shelf
noncomputable def holdsR (P : List (List Int)) (f : Fo) (t : Th) : Bool × Int :=
 if validF f ≠ 0 then (false, validF f)
 else if validT t ≠ 0 then (false, validT t)
 else if f.cls P.length = true ∧ t.cls P.length = true then (f.hold P t, 0)
 else (false, 7)
theorem validF_good {f : Fo} (h : validF f = 0) : f.good = true := by
 unfold validF at h
 split at h
 ·omega
 ·split at h
  ·assumption
  ·omega
def HolOut (r : Bool × Int) (w : World) (e : Ending) (w' : World) : Prop := e = .returned (.tuple #[.bool r.1, .int .i64 r.2]) ∧ Below w.heap.size w w'
theorem hol_end {R : Bool × Int} {p : Bool} {q : Int} {w w' : World} (h : R = (p, q)) (hB : Below w.heap.size w w') : HolOut R w (.returned (.tuple #[.bool p, .int .i64 q])) w' := by
 subst h
 exact ⟨rfl, hB⟩
set_option maxHeartbeats 4000000 in
set_option maxRecDepth 100000 in
theorem gHolds_any (N : Nat) (P : List (List Int)) (f : Fo) (hfs : f.size ≤ 1000000) (hfw : f.wf) (t : Th) (ht : t.size ≤ 1000000) (hw : t.wf) (c d a b e : Value) (w : World) (hTx : TxAt N P w) (hF : FAt w.heap.size w f c d) (hT : TAt w.heap.size w t a b e) :
  Calls Tryz.prog 23 #[.pointer (some ⟨N, 0, none⟩), .agg #[.int .i64 f.op, .int .i64 f.n, c, d], .agg #[a, b, e]] w (HolOut (holdsR P f t) w) := by
 obtain ⟨W1, hW1⟩ : ∃ W1, W1 = w.alloc (.cells #[.int .i64 f.op, .int .i64 f.n, c, d] 29) := ⟨_, rfl⟩
 have hS1 : Since w W1 := by rw [hW1]; exact Since.alloc (since_r _) _
 have hz1 : W1.heap.size = w.heap.size + 1 := by rw [hW1, World.size_alloc]
 have hX1 : BoxL w.heap.size [.int .i64 f.op, .int .i64 f.n, c, d] W1 := by rw [hW1]; exact BoxL.made w _ _
 obtain ⟨W2, hW2⟩ : ∃ W2, W2 = W1.alloc (.cells #[a, b, e] 41) := ⟨_, rfl⟩
 have hS2 : Since W1 W2 := by rw [hW2]; exact Since.alloc (since_r _) _
 have hX := hX1.keep hS2
 have hY : BoxL (w.heap.size + 1) [a, b, e] W2 := by rw [hW2, ← hz1]; exact BoxL.made W1 _ _
 have hS := Since.step hS1 hS2
 have hTx3 := TxAt.below hTx hS
 have hF3 := FAt.below hS hF
 have hT3 := TAt.below hS hT
 obtain ⟨a1, c1, a2, c2, a3, c3, rfl, rfl, rfl, -⟩ := hT3.shape
 obtain ⟨a4, c4, a5, c5, rfl, rfl, -⟩ := hF3.shape
 have KV := Lib.hid (gvalidF_any f hfs hfw _ _ W2 hF3)
 have KT := Lib.hid fun W' (hs : Since W2 W') => tvalid_any t ht hw _ _ _ W' (TAt.below hs hT3)
 have KO := Lib.hid fun W' (hs : Since W2 W') => hasOf_any f hfs hfw N P _ _ W' (TxAt.below hTx3 hs) (FAt.below hs hF3)
 have KC := Lib.hid fun W' (hs : Since W2 W') => hasClasses_any N P t ht hw _ _ _ W' (TxAt.below hTx3 hs) (TAt.below hs hT3)
 have KH := Lib.hid fun (hg : f.good = true) W' (hs : Since W2 W') => hold_all N P 1000000 (Nat.le_refl _) f hfs hg hfw t ht hw _ _ _ _ _ W' (TxAt.below hTx3 hs) (FAt.below hs hF3) (TAt.below hs hT3)
 have hgd : validF f = 0 → f.good = true := validF_good
 have HR : Hid ((validF f ≠ 0 → holdsR P f t = (false, validF f)) ∧ (validF f = 0 → validT t ≠ 0 → holdsR P f t = (false, validT t)) ∧ (validF f = 0 → validT t = 0 → f.cls P.length = false → holdsR P f t = (false, 7)) ∧ (validF f = 0 → validT t = 0 → t.cls P.length = false → holdsR P f t = (false, 7)) ∧ (validF f = 0 → validT t = 0 → f.cls P.length = true → t.cls P.length = true → holdsR P f t = (f.hold P t, 0))) := Lib.hid (by
  unfold holdsR
  exact ⟨fun h => by rw [if_pos h], fun h1 h2 => by rw [if_neg (by simp [h1]), if_pos h2], fun h1 h2 h3 => by rw [if_neg (by simp [h1]), if_neg (by simp [h2]), if_neg (by simp [h3])], fun h1 h2 h3 => by rw [if_neg (by simp [h1]), if_neg (by simp [h2]), if_neg (by simp [h3])], fun h1 h2 h3 h4 => by rw [if_neg (by simp [h1]), if_neg (by simp [h2]), if_pos ⟨h3, h4⟩]⟩)
 generalize holdsR P f t = R at *
 have HX := Lib.hid hX
 have HY := Lib.hid hY
 have HS := Lib.hid hS
 generalize validF f = v1 at *
 generalize validT t = v2 at *
 generalize f.cls P.length = b1 at *
 generalize t.cls P.length = b2 at *
 generalize f.hold P t = b3 at *
 generalize f.good = b4 at *
 generalize t.cs.length = l1 at *
 generalize t.vs.length = l2 at *
 generalize t.ps.length = l3 at *
 generalize f.is.length = l4 at *
 generalize f.ks.length = l5 at *
 generalize f.op = o1 at *
 generalize f.n = o2 at *
 obtain ⟨x0, x1, x2, x3, -⟩ := hX.open4
 clear hX1 hX hY hS1 hS2 hS hTx3 hF3 hT3 hTx hF hT hfs hfw ht hw hz1
 by_cases h1 : v1 = 0
 ·have HG := Lib.hid (hgd h1)
  subst h1
  clear hgd
  go_enter Tryz.func23, Tryz.ntmps23
  go_upto_region 1 with (fail)
  rw [← hW1, ← hW2]
  clear hW1 hW2
  go_wp2_with fail
  refine KV.out.mono ?_
  clear x0 x1 x2 x3
  rintro e w3 ⟨rfl, hr3⟩
  obtain ⟨y0, y1, y2, -⟩ := (HY.out.keep hr3).open3
  have KT3 := Lib.hid (KT.out w3 hr3)
  clear KV KT
  by_cases h2 : v2 = 0
  ·subst h2
   go_wp2_with fail
   refine KT3.out.mono ?_
   clear y0 y1 y2
   rintro e w4 ⟨rfl, hr4⟩
   have hr := Since.step hr3 hr4
   obtain ⟨x0, x1, x2, x3, -⟩ := (HX.out.keep hr).open4
   have KO4 := Lib.hid (KO.out w4 hr)
   have HR4 := Lib.hid hr
   clear hr3 hr4 hr KT3 KO
   go_wp2_with fail
   refine KO4.out.mono ?_
   clear x0 x1 x2 x3
   rintro e w5 ⟨rfl, hr5⟩
   have hr := Since.step HR4.out hr5
   have HR5 := Lib.hid hr
   obtain ⟨y0, y1, y2, -⟩ := (HY.out.keep hr).open3
   have KC5 := Lib.hid (KC.out w5 hr)
   clear hr hr5 KC KO4
   cases b1 with
   | false =>
    have HF := Lib.hid (Since.step HS.out HR5.out)
    go_wp2
    exact bodyPost_ret (v := .tuple #[.bool false, .int .i64 7]) (by simp [results, Tryz.results23, go_sem]) rfl (hol_end (HR.out.2.2.1 (by trivial) (by trivial) (by trivial)) HF.out)
   | true =>
    go_wp2_with fail
    refine KC5.out.mono ?_
    clear y0 y1 y2
    rintro e w6 ⟨rfl, hr6⟩
    have hr := Since.step HR5.out hr6
    have HR6 := Lib.hid hr
    obtain ⟨y0, y1, y2, -⟩ := (HY.out.keep hr).open3
    obtain ⟨x0, x1, x2, x3, -⟩ := (HX.out.keep hr).open4
    have KH6 := Lib.hid (KH.out HG.out w6 hr)
    have HF := Lib.hid (Since.step HS.out hr)
    clear hr hr6 KH KC5
    cases b2 with
    | false =>
     go_wp2
     exact bodyPost_ret (v := .tuple #[.bool false, .int .i64 7]) (by simp [results, Tryz.results23, go_sem]) rfl (hol_end (HR.out.2.2.2.1 (by trivial) (by trivial) (by trivial)) HF.out)
    | true =>
     go_wp2_with fail
     refine KH6.out.mono ?_
     clear x0 x1 x2 x3 y0 y1 y2
     rintro e w7 ⟨rfl, hr7⟩
     have HF7 := Lib.hid (Since.step HF.out hr7)
     clear hr7
     go_wp2
     exact bodyPost_ret (v := .tuple #[.bool b3, .int .i64 0]) (by simp [results, Tryz.results23, go_sem]) rfl (hol_end (HR.out.2.2.2.2 (by trivial) (by trivial) (by trivial) (by trivial)) HF7.out)
  ·go_wp2_with fail
   refine KT3.out.mono ?_
   clear y0 y1 y2
   rintro e w4 ⟨rfl, hr4⟩
   have h3 : (v2 != 0) = true := by simpa using h2
   have HF := Lib.hid (Since.step HS.out (Since.step hr3 hr4))
   clear hr3 hr4
   go_wp2
   exact bodyPost_ret (v := .tuple #[.bool false, .int .i64 v2]) (by simp [results, Tryz.results23, go_sem]) rfl (hol_end (HR.out.2.1 (by trivial) h2) HF.out)
 ·go_enter Tryz.func23, Tryz.ntmps23
  go_upto_region 1 with (fail)
  rw [← hW1, ← hW2]
  clear hW1 hW2
  go_wp2_with fail
  refine KV.out.mono ?_
  clear x0 x1 x2 x3
  rintro e w3 ⟨rfl, hr3⟩
  have h3 : (v1 != 0) = true := by simpa using h1
  have HF := Lib.hid (Since.step HS.out hr3)
  clear hr3
  go_wp2
  exact bodyPost_ret (v := .tuple #[.bool false, .int .i64 v1]) (by simp [results, Tryz.results23, go_sem]) rfl (hol_end (HR.out.1 h1) HF.out)
end Go.Proofs.YtgnloodmbgdgdaaGreat
namespace Go.Proofs.YtgnloodmbgdgdaaGreat
open Go.RowKit Go.Shelf
def exL : List (List Int) := [[], [0]]
theorem exL_row (c : Nat) : Tx.row exL c = if c = 1 then [0] else [] := by
 match c with
 | 0 => rfl
 | 1 => rfl
 | n + 2 => simp [Tx.row, exL]
theorem exL_rows : RowsOK 2 false exL := by
 intro i l h
 have hi : i < 2 := (List.getElem?_eq_some_iff.1 h).1
 have hl : l = Tx.row exL i := by unfold Tx.row; rw [h]; rfl
 subst hl
 refine ⟨?_, ?_, ?_⟩
 ·have : i = 0 ∨ i = 1 := by omega
  rcases this with rfl | rfl <;> decide
 ·have : i = 0 ∨ i = 1 := by omega
  rcases this with rfl | rfl <;> decide
 ·intro x hx d hd
  subst hd
  rw [exL_row] at hx
  unfold befB
  simp only [Bool.false_eq_true, if_false]
  apply decide_eq_true
  split at hx
  ·simp at hx; omega
  ·cases hx
theorem exL_good : Tx.Good exL := rows_good exL_rows rfl (by decide)
theorem exL_inh : Tx.inh exL 1 0 = true := by
 rw [Tx.inh_eq]
 exact .step (p := 0) (by rw [exL_row]; simp) (.refl _)
theorem exL_is : isB exL 1 0 = true := by unfold isB; rw [show (1 : Int).toNat = 1 from rfl, show (0 : Int).toNat = 0 from rfl, exL_inh]; decide
theorem exL_le {w W : World} {a : Nat} {T : TypeId} (ha : Els .i64 w (.slice (some ⟨a, 0, none⟩) 1 1) [0])
  (hW : W = w.alloc (.cells #[.slice none 0 0, .slice (some ⟨a, 0, none⟩) 1 1] T)) : LE W (.slice (some ⟨w.heap.size, 0, none⟩) 2 2) exL := by
 subst hW
 have hB := (Below.refl _ w).alloc (Nat.le_refl _) (.cells #[.slice none 0 0, .slice (some ⟨a, 0, none⟩) 1 1] T)
 have hn := heap_new w (.cells #[.slice none 0 0, .slice (some ⟨a, 0, none⟩) 1 1] T)
 refine .inr ⟨w.heap.size, 2, trivial, by simp, rfl, by decide, fun j l hj => ?_⟩
 have hi : j < 2 := (List.getElem?_eq_some_iff.1 hj).1
 have : j = 0 ∨ j = 1 := by omega
 rcases this with rfl | rfl <;> cases hj
 ·exact ⟨_, by unfold World.cell?; simp only [hn]; rfl, .inl ⟨.inl rfl, rfl⟩⟩
 ·exact ⟨_, by unfold World.cell?; simp only [hn]; rfl, (ha.below hB).ein⟩
theorem newL_any (sv : Value) (w : World) (h : LE w sv exL) :
  Calls Tryz.prog 53 #[sv] w fun e w' => ∃ N, e = .returned (.tuple #[.pointer (some ⟨N, 0, none⟩), .int .i64 0]) ∧ Hid (TxAt N exL w') ∧ Hid (Below w.heap.size w w') :=
 (txnew_any sv exL w h (by decide) (by decide)).mono fun e w' h => by
  rcases h with ⟨h1, _⟩ | ⟨_, N, h2, h3, h4⟩
  ·exact absurd (Tx.newE_ok.2 ⟨exL_good.len, exL_good.ok, exL_good.acy⟩) h1
  ·exact ⟨N, h2, h3, h4⟩
end Go.Proofs.YtgnloodmbgdgdaaGreat
namespace Go.Proofs.YtgnloodmbgdgdaaGreat
open Go.RowKit Go.Shelf
def zipL {α : Type} (c : α → α → Int) : List α → List α → Int
 | a :: la, b :: bs => if c a b = 0 then zipL c la bs else c a b
 | _, _ => 0
def lenL {α : Type} (c : α → α → Int) (la bs : List α) : Int := if cmpI la.length bs.length = 0 then zipL c la bs else cmpI la.length bs.length
theorem zipL_step {α : Type} (c : α → α → Int) {la bs : List α} {k : Nat} {a b : α} (ha : la[k]? = some a) (hb : bs[k]? = some b) : zipL c (la.drop k) (bs.drop k) = if c a b = 0 then zipL c (la.drop (k + 1)) (bs.drop (k + 1)) else c a b := by
 obtain ⟨l1, e1⟩ := List.getElem?_eq_some_iff.1 ha
 obtain ⟨l2, e2⟩ := List.getElem?_eq_some_iff.1 hb
 rw [List.drop_eq_getElem_cons l1, List.drop_eq_getElem_cons l2, zipL, e1, e2]
theorem zipL_stop {α : Type} (c : α → α → Int) {la bs : List α} {k : Nat} (h : la.length ≤ k) : zipL c (la.drop k) (bs.drop k) = 0 := by
 rw [List.drop_of_length_le h]
 unfold zipL
 rfl
theorem fret_int {x y : Int} (h : x = y) : Ending.returned (.int .i64 x) = Ending.returned (.int .i64 y) := by rw [h]
set_option maxHeartbeats 4000000 in
set_option maxRecDepth 100000 in
theorem cfi_any (a : Option Addr) (n c : Nat) (b : Option Addr) (m d : Nat) (xs ys : List Int) (w : World) (hx : Els .i64 w (.slice a n c) xs) (hy : Els .i64 w (.slice b m d) ys) (hn : n ≤ 1000000000) :
  Calls Tryz.prog 142 #[.slice a n c, .slice b m d, .func (.func 78) #[] #[]] w fun e w' => e = .returned (.int .i64 (lenL cmpI xs ys)) ∧ Below w.heap.size w w' := by
 have HX := Lib.hid hx
 have HY := Lib.hid hy
 have HXN := Lib.hid hx.len
 have HYN := Lib.hid hy.len
 have KC := Lib.hid fun (x y : Int) W => cmpc_any x y W
 have HS0 : Hid (Since w w) := Lib.hid (Below.refl _ _)
 unfold lenL
 rw [← HXN.out, ← HYN.out]
 have KN := Lib.hid (cmpc_any (n : Int) (m : Int) w)
 have h0 := cmpI_zero (a := (n : Int)) (b := (m : Int))
 clear hx hy
 by_cases hnm : n = m
 ·subst hnm
  have hz : cmpI (n : Int) (n : Int) = 0 := h0.2 rfl
  rw [hz] at KN
  rw [hz, if_pos rfl]
  have hst : zipL cmpI (xs.drop 0) (ys.drop 0) = zipL cmpI xs ys := rfl
  generalize zipL cmpI xs ys = R at *
  have HST := Lib.hid hst
  clear hst hz h0
  go_enter Tryz.func142, Tryz.ntmps142
  go_wp2_with fail
  refine KN.out.mono ?_
  rintro e w2 ⟨rfl, rfl⟩
  go_wp2
  go_loopw [20] (fun x wr => ∃ k : Nat, k ≤ n ∧ x = .int .i64 k ∧ Hid (zipL cmpI (xs.drop k) (ys.drop k) = R) ∧ Hid (Since w wr)) (fun x _ => n - (intOf x).toNat)
  case atStart => exact ⟨0, by omega, rfl, HST, HS0⟩
  case round =>
   obtain ⟨k, hk, rfl, hV, hS⟩ := hrel
   by_cases hlt : k < n
   ·have i1 : (k : Int) < n := by omega
    have i0 : (0 : Int) ≤ (k : Int) := by omega
    obtain ⟨g1, o1, rfl, p1⟩ := (HX.out.below hS.out).at k hlt
    obtain ⟨g2, o2, rfl, p2⟩ := (HY.out.below hS.out).at k hlt
    have hx : xs[k]? = some (xs[k]?.getD 0) := by rw [List.getElem?_eq_getElem (by have := HXN.out; omega)]; rfl
    have hy : ys[k]? = some (ys[k]?.getD 0) := by rw [List.getElem?_eq_getElem (by have := HYN.out; omega)]; rfl
    generalize xs[k]?.getD 0 = x at *
    generalize ys[k]?.getD 0 = y at *
    have hstep := zipL_step cmpI hx hy
    have KQ := Lib.hid fun W => KC.out x y W
    generalize cmpI x y = v at *
    rw [hV.out] at hstep
    have hSd : Since wr wr.drew := Below.drew (Below.refl _ _)
    by_cases hv : v = 0
    ·subst hv
     rw [if_pos rfl] at hstep
     have HV := Lib.hid hstep.symm
     clear hstep hx hy hV
     go_wp2_with fail
     go_region_held3 (fun w' => w'.cell? ⟨g1, o1 + k, none⟩ = some (.int .i64 x) ∧ w'.cell? ⟨g2, o2 + k, none⟩ = some (.int .i64 y) ∧ Since wr w')
      (exact ⟨p1, p2, hSd⟩)
      ((go_at_call 78; refine (KQ.out _).mono ?_; rintro e w' ⟨rfl, rfl⟩))
     go_wp2
     go_roundw
     case rel => exact ⟨k + 1, by omega, by go_num, HV, Lib.hid (Since.step hS.out hSd)⟩
     case measure => simp [intOf]; omega
    ·rw [if_neg hv] at hstep
     have HV := Lib.hid hstep
     have hv2 : (v != 0) = true := bne_iff_ne.2 hv
     clear hstep hx hy hV hv
     go_wp2_with fail
     go_region_held3 (fun w' => w'.cell? ⟨g1, o1 + k, none⟩ = some (.int .i64 x) ∧ w'.cell? ⟨g2, o2 + k, none⟩ = some (.int .i64 y) ∧ Since wr w')
      (exact ⟨p1, p2, hSd⟩)
      ((go_at_call 78; refine (KQ.out _).mono ?_; rintro e w' ⟨rfl, rfl⟩))
     go_wp2
     go_ret
     exact ⟨fret_int HV.out.symm, Since.step hS.out hSd⟩
   ·have i1 : ¬ (k : Int) < n := by omega
    have hend := zipL_stop cmpI (la := xs) (bs := ys) (k := k) (by have := HXN.out; omega)
    rw [hV.out] at hend
    have HV := Lib.hid hend
    clear hend hV
    go_wp2
    go_ret
    exact ⟨fret_int HV.out.symm, hS.out⟩
 ·have hz : cmpI (n : Int) (m : Int) ≠ 0 := fun h => hnm (by have := h0.1 h; omega)
  rw [if_neg hz]
  generalize cmpI (n : Int) (m : Int) = v at *
  have hv2 : (v != 0) = true := bne_iff_ne.2 hz
  clear h0 hz hnm
  go_enter Tryz.func142, Tryz.ntmps142
  go_wp2_with fail
  refine KN.out.mono ?_
  rintro e w2 ⟨rfl, rfl⟩
  go_wp2
  go_ret
  exact ⟨rfl, HS0.out⟩
end Go.Proofs.YtgnloodmbgdgdaaGreat
namespace Go.Proofs.YtgnloodmbgdgdaaGreat
open Go.RowKit Go.Shelf
def bitI (b : Bool) : Int := if b then 1 else 0
theorem bit_any (b : Bool) (w : World) :
  Calls Tryz.prog 172 #[.bool b] w fun e w' => e = .returned (.int .i64 (bitI b)) ∧ w' = w := by
 cases b with
 | true =>
  go_enter Tryz.func172, Tryz.ntmps172
  go_wp2
  go_ret
  exact ⟨rfl, rfl⟩
 | false =>
  go_enter Tryz.func172, Tryz.ntmps172
  go_wp2
  go_ret
  exact ⟨rfl, rfl⟩
def Iv.rank (x : Iv) : List Int := [bitI x.r, bitI x.p, x.a, x.b, bitI x.s, bitI x.q, x.c, x.d]
end Go.Proofs.YtgnloodmbgdgdaaGreat
namespace Go.Proofs.YtgnloodmbgdgdaaGreat
open Go.RowKit Go.Shelf
set_option maxHeartbeats 8000000 in
set_option maxRecDepth 100000 in
theorem ranks_any (x : Iv) (w : World) :
  Calls Tryz.prog 141 #[x.v] w fun e w' => e = .returned (.agg (x.rank.map (Value.int .i64)).toArray) ∧ Below w.heap.size w w' := by
 obtain ⟨a, b, c, d, p, q, r, s⟩ := x
 simp only [Iv.v, Iv.rank, List.map_cons, List.map_nil]
 obtain ⟨W1, hW1⟩ : ∃ W1, W1 = w.alloc (.cells #[.int .i64 a, .int .i64 b, .int .i64 c, .int .i64 d, .bool p, .bool q, .bool r, .bool s] 112) := ⟨_, rfl⟩
 have hS1 : Since w W1 := by rw [hW1]; exact Since.alloc (since_r _) _
 have hz1 : W1.heap.size = w.heap.size + 1 := by rw [hW1, World.size_alloc]
 have hX1 : BoxL w.heap.size [.int .i64 a, .int .i64 b, .int .i64 c, .int .i64 d, .bool p, .bool q, .bool r, .bool s] W1 := by rw [hW1]; exact BoxL.made w _ _
 obtain ⟨W2, hW2⟩ : ∃ W2, W2 = W1.alloc (.cells #[.int .i64 0, .int .i64 0, .int .i64 0, .int .i64 0, .int .i64 0, .int .i64 0, .int .i64 0, .int .i64 0] 151) := ⟨_, rfl⟩
 have hS2 : Since W1 W2 := by rw [hW2]; exact Since.alloc (since_r _) _
 have hX := hX1.keep hS2
 have hY : BoxL (w.heap.size + 1) [.int .i64 0, .int .i64 0, .int .i64 0, .int .i64 0, .int .i64 0, .int .i64 0, .int .i64 0, .int .i64 0] W2 := by rw [hW2, ← hz1]; exact BoxL.made W1 _ _
 have KB := Lib.hid fun (x : Bool) W => bit_any x W
 obtain ⟨x0, x1, x2, x3, x4, x5, x6, x7, -⟩ := hX.open8
 have hfz : ∀ i, i < 8 → W2.frozen? ⟨w.heap.size + 1, i, none⟩ = false := fun i hi => by
  match i, hi with
  | 0, _ => exact (hY.2 0 _ rfl).2
  | 1, _ => exact (hY.2 1 _ rfl).2
  | 2, _ => exact (hY.2 2 _ rfl).2
  | 3, _ => exact (hY.2 3 _ rfl).2
  | 4, _ => exact (hY.2 4 _ rfl).2
  | 5, _ => exact (hY.2 5 _ rfl).2
  | 6, _ => exact (hY.2 6 _ rfl).2
  | 7, _ => exact (hY.2 7 _ rfl).2
 obtain ⟨y0, y1, y2, y3, y4, y5, y6, y7, -⟩ := hY.open8
 have f0 := hfz 0 (by decide)
 have f1 := hfz 1 (by decide)
 have f2 := hfz 2 (by decide)
 have f3 := hfz 3 (by decide)
 have f4 := hfz 4 (by decide)
 have f5 := hfz 5 (by decide)
 have f6 := hfz 6 (by decide)
 have f7 := hfz 7 (by decide)
 have hb8 : Below (w.heap.size + 1) W2 ((((((((W2.setCell ⟨w.heap.size + 1, 0, none⟩ (.int .i64 (bitI r))).setCell ⟨w.heap.size + 1, 1, none⟩ (.int .i64 (bitI p))).setCell ⟨w.heap.size + 1, 2, none⟩ (.int .i64 a)).setCell ⟨w.heap.size + 1, 3, none⟩ (.int .i64 b)).setCell ⟨w.heap.size + 1, 4, none⟩ (.int .i64 (bitI s))).setCell ⟨w.heap.size + 1, 5, none⟩ (.int .i64 (bitI q))).setCell ⟨w.heap.size + 1, 6, none⟩ (.int .i64 c)).setCell ⟨w.heap.size + 1, 7, none⟩ (.int .i64 d)).drew := Below.drew (((((((((Below.refl _ _).setCell (p := ⟨w.heap.size + 1, 0, none⟩) (Nat.le_refl _) _).setCell (p := ⟨w.heap.size + 1, 1, none⟩) (Nat.le_refl _) _).setCell (p := ⟨w.heap.size + 1, 2, none⟩) (Nat.le_refl _) _).setCell (p := ⟨w.heap.size + 1, 3, none⟩) (Nat.le_refl _) _).setCell (p := ⟨w.heap.size + 1, 4, none⟩) (Nat.le_refl _) _).setCell (p := ⟨w.heap.size + 1, 5, none⟩) (Nat.le_refl _) _).setCell (p := ⟨w.heap.size + 1, 6, none⟩) (Nat.le_refl _) _).setCell (p := ⟨w.heap.size + 1, 7, none⟩) (Nat.le_refl _) _)
 have hy8 : BoxL (w.heap.size + 1) [.int .i64 (bitI r), .int .i64 (bitI p), .int .i64 (a), .int .i64 (b), .int .i64 (bitI s), .int .i64 (bitI q), .int .i64 (c), .int .i64 (d)] ((((((((W2.setCell ⟨w.heap.size + 1, 0, none⟩ (.int .i64 (bitI r))).setCell ⟨w.heap.size + 1, 1, none⟩ (.int .i64 (bitI p))).setCell ⟨w.heap.size + 1, 2, none⟩ (.int .i64 a)).setCell ⟨w.heap.size + 1, 3, none⟩ (.int .i64 b)).setCell ⟨w.heap.size + 1, 4, none⟩ (.int .i64 (bitI s))).setCell ⟨w.heap.size + 1, 5, none⟩ (.int .i64 (bitI q))).setCell ⟨w.heap.size + 1, 6, none⟩ (.int .i64 c)).setCell ⟨w.heap.size + 1, 7, none⟩ (.int .i64 d)).drew := BoxL.keep ((((((((hY.set1 0 (.int .i64 (bitI r)) (by simp)).set1 1 (.int .i64 (bitI p)) (by simp)).set1 2 (.int .i64 a) (by simp)).set1 3 (.int .i64 b) (by simp)).set1 4 (.int .i64 (bitI s)) (by simp)).set1 5 (.int .i64 (bitI q)) (by simp)).set1 6 (.int .i64 c) (by simp)).set1 7 (.int .i64 d) (by simp)) (since_d (since_r _))
 have HB8 := Lib.hid hb8
 have HY8 := Lib.hid hy8
 have HS2 := Lib.hid (Since.step hS1 hS2)
 clear hb8 hy8
 clear hX hX1 hY hS1 hS2 hfz hz1
 go_enter Tryz.func141, Tryz.ntmps141
 go_upto_region 1 with (fail)
 rw [← hW1, ← hW2]
 clear hW1 hW2
 refine wp_region_noPanic ?_
 refine wp_region_held_drew (S := fun w' => w'.cell? ⟨w.heap.size, 0, none⟩ = some (.int .i64 a) ∧ w'.cell? ⟨w.heap.size, 1, none⟩ = some (.int .i64 b) ∧ w'.cell? ⟨w.heap.size, 2, none⟩ = some (.int .i64 c) ∧ w'.cell? ⟨w.heap.size, 3, none⟩ = some (.int .i64 d) ∧ w'.cell? ⟨w.heap.size, 4, none⟩ = some (.bool p) ∧ w'.cell? ⟨w.heap.size, 5, none⟩ = some (.bool q) ∧ w'.cell? ⟨w.heap.size, 6, none⟩ = some (.bool r) ∧ w'.cell? ⟨w.heap.size, 7, none⟩ = some (.bool s)) (by kernel_rfl) ⟨x0, x1, x2, x3, x4, x5, x6, x7⟩ (fun hHeld => ?_)
 refine wpAnyH_take (i := 0) (oi := ⟨some 3, Op.fieldAddr 112 (Operand.tmp 1) 4, 0, _, _, none⟩) (v := ?_) rfl (by kernel_rfl) (by kernel_rfl) (by kernel_rfl) (fun _ _ _ h => h) (Or.inl ⟨by rfl, ?_⟩) (by assumption) ?_
 rotate_left 1
 ·(intro w hSw; (try dsimp only at hSw); go_simp; first | done | with_reducible rfl)
 try simp only [Act.put, List.setIfInBounds_toArray, List.set_cons_zero, List.set_cons_succ]
 refine wpAnyH_take (i := 1) (oi := ⟨some 4, Op.load 4 (Operand.tmp 3), 4, _, _, none⟩) (v := ?_) rfl (by kernel_rfl) (by kernel_rfl) (by kernel_rfl) (fun _ _ _ h => h) (Or.inl ⟨by rfl, ?_⟩) (by assumption) ?_
 rotate_left 1
 ·(intro w hSw; (try dsimp only at hSw); go_simp; first | done | with_reducible rfl)
 try simp only [Act.put, List.setIfInBounds_toArray, List.set_cons_zero, List.set_cons_succ]
 refine wpAnyH_take (i := 3) (oi := ⟨some 6, Op.fieldAddr 112 (Operand.tmp 1) 2, 0, _, _, none⟩) (v := ?_) rfl (by kernel_rfl) (by kernel_rfl) (by kernel_rfl) (fun _ _ _ h => h) (Or.inl ⟨by rfl, ?_⟩) (by assumption) ?_
 rotate_left 1
 ·(intro w hSw; (try dsimp only at hSw); go_simp; first | done | with_reducible rfl)
 try simp only [Act.put, List.setIfInBounds_toArray, List.set_cons_zero, List.set_cons_succ]
 refine wpAnyH_take (i := 4) (oi := ⟨some 7, Op.load 4 (Operand.tmp 6), 4, _, _, none⟩) (v := ?_) rfl (by kernel_rfl) (by kernel_rfl) (by kernel_rfl) (fun _ _ _ h => h) (Or.inl ⟨by rfl, ?_⟩) (by assumption) ?_
 rotate_left 1
 ·(intro w hSw; (try dsimp only at hSw); go_simp; first | done | with_reducible rfl)
 try simp only [Act.put, List.setIfInBounds_toArray, List.set_cons_zero, List.set_cons_succ]
 refine wpAnyH_take (i := 6) (oi := ⟨some 9, Op.fieldAddr 112 (Operand.tmp 1) 0, 0, _, _, none⟩) (v := ?_) rfl (by kernel_rfl) (by kernel_rfl) (by kernel_rfl) (fun _ _ _ h => h) (Or.inl ⟨by rfl, ?_⟩) (by assumption) ?_
 rotate_left 1
 ·(intro w hSw; (try dsimp only at hSw); go_simp; first | done | with_reducible rfl)
 try simp only [Act.put, List.setIfInBounds_toArray, List.set_cons_zero, List.set_cons_succ]
 refine wpAnyH_take (i := 7) (oi := ⟨some 10, Op.fieldAddr 91 (Operand.tmp 9) 0, 0, _, _, none⟩) (v := ?_) rfl (by kernel_rfl) (by kernel_rfl) (by kernel_rfl) (fun _ _ _ h => h) (Or.inl ⟨by rfl, ?_⟩) (by assumption) ?_
 rotate_left 1
 ·(intro w hSw; (try dsimp only at hSw); go_simp; first | done | with_reducible rfl)
 try simp only [Act.put, List.setIfInBounds_toArray, List.set_cons_zero, List.set_cons_succ]
 refine wpAnyH_take (i := 8) (oi := ⟨some 11, Op.load 3 (Operand.tmp 10), 3, _, _, none⟩) (v := ?_) rfl (by kernel_rfl) (by kernel_rfl) (by kernel_rfl) (fun _ _ _ h => h) (Or.inl ⟨by rfl, ?_⟩) (by assumption) ?_
 rotate_left 1
 ·(intro w hSw; (try dsimp only at hSw); go_simp; first | done | with_reducible rfl)
 try simp only [Act.put, List.setIfInBounds_toArray, List.set_cons_zero, List.set_cons_succ]
 refine wpAnyH_take (i := 9) (oi := ⟨some 12, Op.fieldAddr 112 (Operand.tmp 1) 0, 0, _, _, none⟩) (v := ?_) rfl (by kernel_rfl) (by kernel_rfl) (by kernel_rfl) (fun _ _ _ h => h) (Or.inl ⟨by rfl, ?_⟩) (by assumption) ?_
 rotate_left 1
 ·(intro w hSw; (try dsimp only at hSw); go_simp; first | done | with_reducible rfl)
 try simp only [Act.put, List.setIfInBounds_toArray, List.set_cons_zero, List.set_cons_succ]
 refine wpAnyH_take (i := 10) (oi := ⟨some 13, Op.fieldAddr 91 (Operand.tmp 12) 1, 0, _, _, none⟩) (v := ?_) rfl (by kernel_rfl) (by kernel_rfl) (by kernel_rfl) (fun _ _ _ h => h) (Or.inl ⟨by rfl, ?_⟩) (by assumption) ?_
 rotate_left 1
 ·(intro w hSw; (try dsimp only at hSw); go_simp; first | done | with_reducible rfl)
 try simp only [Act.put, List.setIfInBounds_toArray, List.set_cons_zero, List.set_cons_succ]
 refine wpAnyH_take (i := 11) (oi := ⟨some 14, Op.load 3 (Operand.tmp 13), 3, _, _, none⟩) (v := ?_) rfl (by kernel_rfl) (by kernel_rfl) (by kernel_rfl) (fun _ _ _ h => h) (Or.inl ⟨by rfl, ?_⟩) (by assumption) ?_
 rotate_left 1
 ·(intro w hSw; (try dsimp only at hSw); go_simp; first | done | with_reducible rfl)
 try simp only [Act.put, List.setIfInBounds_toArray, List.set_cons_zero, List.set_cons_succ]
 refine wpAnyH_take (i := 12) (oi := ⟨some 15, Op.fieldAddr 112 (Operand.tmp 1) 5, 0, _, _, none⟩) (v := ?_) rfl (by kernel_rfl) (by kernel_rfl) (by kernel_rfl) (fun _ _ _ h => h) (Or.inl ⟨by rfl, ?_⟩) (by assumption) ?_
 rotate_left 1
 ·(intro w hSw; (try dsimp only at hSw); go_simp; first | done | with_reducible rfl)
 try simp only [Act.put, List.setIfInBounds_toArray, List.set_cons_zero, List.set_cons_succ]
 refine wpAnyH_take (i := 13) (oi := ⟨some 16, Op.load 4 (Operand.tmp 15), 4, _, _, none⟩) (v := ?_) rfl (by kernel_rfl) (by kernel_rfl) (by kernel_rfl) (fun _ _ _ h => h) (Or.inl ⟨by rfl, ?_⟩) (by assumption) ?_
 rotate_left 1
 ·(intro w hSw; (try dsimp only at hSw); go_simp; first | done | with_reducible rfl)
 try simp only [Act.put, List.setIfInBounds_toArray, List.set_cons_zero, List.set_cons_succ]
 refine wpAnyH_take (i := 15) (oi := ⟨some 18, Op.fieldAddr 112 (Operand.tmp 1) 3, 0, _, _, none⟩) (v := ?_) rfl (by kernel_rfl) (by kernel_rfl) (by kernel_rfl) (fun _ _ _ h => h) (Or.inl ⟨by rfl, ?_⟩) (by assumption) ?_
 rotate_left 1
 ·(intro w hSw; (try dsimp only at hSw); go_simp; first | done | with_reducible rfl)
 try simp only [Act.put, List.setIfInBounds_toArray, List.set_cons_zero, List.set_cons_succ]
 refine wpAnyH_take (i := 16) (oi := ⟨some 19, Op.load 4 (Operand.tmp 18), 4, _, _, none⟩) (v := ?_) rfl (by kernel_rfl) (by kernel_rfl) (by kernel_rfl) (fun _ _ _ h => h) (Or.inl ⟨by rfl, ?_⟩) (by assumption) ?_
 rotate_left 1
 ·(intro w hSw; (try dsimp only at hSw); go_simp; first | done | with_reducible rfl)
 try simp only [Act.put, List.setIfInBounds_toArray, List.set_cons_zero, List.set_cons_succ]
 refine wpAnyH_take (i := 18) (oi := ⟨some 21, Op.fieldAddr 112 (Operand.tmp 1) 1, 0, _, _, none⟩) (v := ?_) rfl (by kernel_rfl) (by kernel_rfl) (by kernel_rfl) (fun _ _ _ h => h) (Or.inl ⟨by rfl, ?_⟩) (by assumption) ?_
 rotate_left 1
 ·(intro w hSw; (try dsimp only at hSw); go_simp; first | done | with_reducible rfl)
 try simp only [Act.put, List.setIfInBounds_toArray, List.set_cons_zero, List.set_cons_succ]
 refine wpAnyH_take (i := 19) (oi := ⟨some 22, Op.fieldAddr 91 (Operand.tmp 21) 0, 0, _, _, none⟩) (v := ?_) rfl (by kernel_rfl) (by kernel_rfl) (by kernel_rfl) (fun _ _ _ h => h) (Or.inl ⟨by rfl, ?_⟩) (by assumption) ?_
 rotate_left 1
 ·(intro w hSw; (try dsimp only at hSw); go_simp; first | done | with_reducible rfl)
 try simp only [Act.put, List.setIfInBounds_toArray, List.set_cons_zero, List.set_cons_succ]
 refine wpAnyH_take (i := 20) (oi := ⟨some 23, Op.load 3 (Operand.tmp 22), 3, _, _, none⟩) (v := ?_) rfl (by kernel_rfl) (by kernel_rfl) (by kernel_rfl) (fun _ _ _ h => h) (Or.inl ⟨by rfl, ?_⟩) (by assumption) ?_
 rotate_left 1
 ·(intro w hSw; (try dsimp only at hSw); go_simp; first | done | with_reducible rfl)
 try simp only [Act.put, List.setIfInBounds_toArray, List.set_cons_zero, List.set_cons_succ]
 refine wpAnyH_take (i := 21) (oi := ⟨some 24, Op.fieldAddr 112 (Operand.tmp 1) 1, 0, _, _, none⟩) (v := ?_) rfl (by kernel_rfl) (by kernel_rfl) (by kernel_rfl) (fun _ _ _ h => h) (Or.inl ⟨by rfl, ?_⟩) (by assumption) ?_
 rotate_left 1
 ·(intro w hSw; (try dsimp only at hSw); go_simp; first | done | with_reducible rfl)
 try simp only [Act.put, List.setIfInBounds_toArray, List.set_cons_zero, List.set_cons_succ]
 refine wpAnyH_take (i := 22) (oi := ⟨some 25, Op.fieldAddr 91 (Operand.tmp 24) 1, 0, _, _, none⟩) (v := ?_) rfl (by kernel_rfl) (by kernel_rfl) (by kernel_rfl) (fun _ _ _ h => h) (Or.inl ⟨by rfl, ?_⟩) (by assumption) ?_
 rotate_left 1
 ·(intro w hSw; (try dsimp only at hSw); go_simp; first | done | with_reducible rfl)
 try simp only [Act.put, List.setIfInBounds_toArray, List.set_cons_zero, List.set_cons_succ]
 refine wpAnyH_take (i := 23) (oi := ⟨some 26, Op.load 3 (Operand.tmp 25), 3, _, _, none⟩) (v := ?_) rfl (by kernel_rfl) (by kernel_rfl) (by kernel_rfl) (fun _ _ _ h => h) (Or.inl ⟨by rfl, ?_⟩) (by assumption) ?_
 rotate_left 1
 ·(intro w hSw; (try dsimp only at hSw); go_simp; first | done | with_reducible rfl)
 try simp only [Act.put, List.setIfInBounds_toArray, List.set_cons_zero, List.set_cons_succ]
 refine wpAnyH_ready (rs := [2]) (by kernel_rfl) (by simp) ?_
 refine AllReadyH.cons (o := ⟨some 5, Op.call { callee := Callee.value (Operand.func 172), args := #[Operand.tmp 4], argTypes := #[4] }, 3, _, _, none⟩) rfl (fun K hK => ?_) AllReadyH.nil
 go_simp
 go_at_call 172
 refine (KB.out _ _).mono ?_
 rintro e w' ⟨rfl, rfl⟩
 try go_wp2_with fail
 refine hK.out _ _ ?_ (fun hHeld => ?_)
 ·exact ⟨x0, x1, x2, x3, x4, x5, x6, x7⟩
 clear hK K
 try simp only [Act.put, List.setIfInBounds_toArray, List.set_cons_zero, List.set_cons_succ]
 refine wpAnyH_ready (rs := [5]) (by kernel_rfl) (by simp) ?_
 refine AllReadyH.cons (o := ⟨some 8, Op.call { callee := Callee.value (Operand.func 172), args := #[Operand.tmp 7], argTypes := #[4] }, 3, _, _, none⟩) rfl (fun K hK => ?_) AllReadyH.nil
 go_simp
 go_at_call 172
 refine (KB.out _ _).mono ?_
 rintro e w' ⟨rfl, rfl⟩
 try go_wp2_with fail
 refine hK.out _ _ ?_ (fun hHeld => ?_)
 ·exact ⟨x0, x1, x2, x3, x4, x5, x6, x7⟩
 clear hK K
 try simp only [Act.put, List.setIfInBounds_toArray, List.set_cons_zero, List.set_cons_succ]
 refine wpAnyH_ready (rs := [14]) (by kernel_rfl) (by simp) ?_
 refine AllReadyH.cons (o := ⟨some 17, Op.call { callee := Callee.value (Operand.func 172), args := #[Operand.tmp 16], argTypes := #[4] }, 3, _, _, none⟩) rfl (fun K hK => ?_) AllReadyH.nil
 go_simp
 go_at_call 172
 refine (KB.out _ _).mono ?_
 rintro e w' ⟨rfl, rfl⟩
 try go_wp2_with fail
 refine hK.out _ _ ?_ (fun hHeld => ?_)
 ·exact ⟨x0, x1, x2, x3, x4, x5, x6, x7⟩
 clear hK K
 try simp only [Act.put, List.setIfInBounds_toArray, List.set_cons_zero, List.set_cons_succ]
 refine wpAnyH_ready (rs := [17]) (by kernel_rfl) (by simp) ?_
 refine AllReadyH.cons (o := ⟨some 20, Op.call { callee := Callee.value (Operand.func 172), args := #[Operand.tmp 19], argTypes := #[4] }, 3, _, _, none⟩) rfl (fun K hK => ?_) AllReadyH.nil
 go_simp
 go_at_call 172
 refine (KB.out _ _).mono ?_
 rintro e w' ⟨rfl, rfl⟩
 try go_wp2_with fail
 refine hK.out _ _ ?_ (fun hHeld => ?_)
 ·exact ⟨x0, x1, x2, x3, x4, x5, x6, x7⟩
 clear hK K
 try simp only [Act.put, List.setIfInBounds_toArray, List.set_cons_zero, List.set_cons_succ]
 refine wpAnyH_take (i := 24) (oi := ⟨some 27, Op.build 151 #[(0, Operand.tmp 5), (1, Operand.tmp 8), (2, Operand.tmp 11), (3, Operand.tmp 14), (4, Operand.tmp 17), (5, Operand.tmp 20), (6, Operand.tmp 23), (7, Operand.tmp 26)], 151, _, _, none⟩) (v := ?_) rfl (by kernel_rfl) (by kernel_rfl) (by kernel_rfl) (fun _ _ _ h => h) (Or.inl ⟨by rfl, ?_⟩) (by assumption) ?_
 rotate_left 1
 ·(intro w hSw; (try dsimp only at hSw); go_simp; first | done | with_reducible rfl)
 try simp only [Act.put, List.setIfInBounds_toArray, List.set_cons_zero, List.set_cons_succ]
 refine wpAnyH_ready (rs := [25]) (by kernel_rfl) (by simp) ?_
 refine AllReadyH.cons (o := ⟨none, Op.store 151 (Operand.tmp 2) (Operand.tmp 27), 0, _, _, none⟩) rfl (fun K hK => ?_) AllReadyH.nil
 go_simp
 try go_wp2_with fail
 refine hK.out _ _ ?_ (fun hHeld => ?_)
 ·exact ⟨(HB8.out.cell (p := ⟨w.heap.size, 0, none⟩) (Nat.lt_succ_self _)).trans x0, (HB8.out.cell (p := ⟨w.heap.size, 1, none⟩) (Nat.lt_succ_self _)).trans x1, (HB8.out.cell (p := ⟨w.heap.size, 2, none⟩) (Nat.lt_succ_self _)).trans x2, (HB8.out.cell (p := ⟨w.heap.size, 3, none⟩) (Nat.lt_succ_self _)).trans x3, (HB8.out.cell (p := ⟨w.heap.size, 4, none⟩) (Nat.lt_succ_self _)).trans x4, (HB8.out.cell (p := ⟨w.heap.size, 5, none⟩) (Nat.lt_succ_self _)).trans x5, (HB8.out.cell (p := ⟨w.heap.size, 6, none⟩) (Nat.lt_succ_self _)).trans x6, (HB8.out.cell (p := ⟨w.heap.size, 7, none⟩) (Nat.lt_succ_self _)).trans x7⟩
 clear hK K
 refine wpAnyH_done (by kernel_rfl) ?_ _
 refine NoPanic.normal ?_
 obtain ⟨z0, z1, z2, z3, z4, z5, z6, z7, -⟩ := HY8.out.open8
 go_wp2
 exact bodyPost_ret (v := .agg #[.int .i64 (bitI r), .int .i64 (bitI p), .int .i64 (a), .int .i64 (b), .int .i64 (bitI s), .int .i64 (bitI q), .int .i64 (c), .int .i64 (d)]) (by simp [results, Tryz.results141, go_sem, z0, z1, z2, z3, z4, z5, z6, z7]) rfl ⟨rfl, HS2.out.trans (HB8.out.mono (Nat.le_succ _))⟩
end Go.Proofs.YtgnloodmbgdgdaaGreat
namespace Go.Proofs.YtgnloodmbgdgdaaGreat
open Go.RowKit Go.Shelf
set_option maxHeartbeats 4000000 in
set_option maxRecDepth 100000 in
theorem cff_any (p : Fo → Fo → Int) (a : Option Addr) (n c : Nat) (b : Option Addr) (m d : Nat) (xs ys : List Fo) (w : World) (hx : Fs w.heap.size w (.slice a n c) xs) (hy : Fs w.heap.size w (.slice b m d) ys) (hn : n ≤ 1000000000) (hm : m ≤ 1000000000)
  (KC : Hid (∀ x ∈ xs, ∀ y ∈ ys, ∀ (c d c' d' : Value) (W : World), FAt W.heap.size W x c d → FAt W.heap.size W y c' d' → Calls Tryz.prog 42 #[.agg #[.int .i64 x.op, .int .i64 x.n, c, d], .agg #[.int .i64 y.op, .int .i64 y.n, c', d']] W fun e w' => e = .returned (.int .i64 (p x y)) ∧ Below W.heap.size W w')) :
  Calls Tryz.prog 81 #[.slice a n c, .slice b m d, .func (.func 42) #[] #[]] w fun e w' => e = .returned (.int .i64 (lenL p xs ys)) ∧ Below w.heap.size w w' := by
 have HX := Lib.hid hx
 have HY := Lib.hid hy
 have HXN := Lib.hid hx.len
 have HYN := Lib.hid hy.len
 have HS0 : Hid (Since w w) := Lib.hid (Below.refl _ _)
 unfold lenL
 rw [← HXN.out, ← HYN.out]
 have KN := Lib.hid (cmpc_any (n : Int) (m : Int) w)
 have h0 := cmpI_zero (a := (n : Int)) (b := (m : Int))
 clear hx hy
 by_cases hnm : n = m
 ·subst hnm
  have hz : cmpI (n : Int) (n : Int) = 0 := h0.2 rfl
  rw [hz] at KN
  rw [hz, if_pos rfl]
  have hst : zipL p (xs.drop 0) (ys.drop 0) = zipL p xs ys := rfl
  generalize zipL p xs ys = R at *
  have HST := Lib.hid hst
  clear hst hz h0
  go_enter Tryz.func81, Tryz.ntmps81
  go_wp2_with fail
  refine KN.out.mono ?_
  rintro e w2 ⟨rfl, rfl⟩
  go_wp2
  go_loopw [20] (fun x wr => ∃ k : Nat, k ≤ n ∧ x = .int .i64 k ∧ Hid (zipL p (xs.drop k) (ys.drop k) = R) ∧ Hid (Since w wr)) (fun x _ => n - (intOf x).toNat)
  case atStart => exact ⟨0, by omega, rfl, HST, HS0⟩
  case round =>
   obtain ⟨k, hk, rfl, hV, hS⟩ := hrel
   by_cases hlt : k < n
   ·have i1 : (k : Int) < n := by omega
    have i0 : (0 : Int) ≤ (k : Int) := by omega
    obtain ⟨g1, x, rfl, -, -, -, hx, vc, vd, p0, p1, p2, p3, hTx⟩ := (Fs.below hS.out HX.out).get (j := k) hlt
    obtain ⟨g2, y, rfl, -, -, -, hy, uc, ud, q0, q1, q2, q3, hTy⟩ := (Fs.below hS.out HY.out).get (j := k) hlt
    have hstep := zipL_step p hx hy
    have hSd : Since wr wr.drew := since_d (since_r _)
    have KQ := Lib.hid (KC.out x (List.mem_of_getElem? hx) y (List.mem_of_getElem? hy) vc vd uc ud wr.drew (FAt.below hSd hTx) (FAt.below hSd hTy))
    obtain ⟨a1, c1, a2, c2, rfl, rfl, -⟩ := hTx.shape
    obtain ⟨a3, c3, a4, c4, rfl, rfl, -⟩ := hTy.shape
    generalize p x y = v at *
    rw [hV.out] at hstep
    generalize x.op = x1 at *
    generalize x.n = x2 at *
    generalize x.is.length = x3 at *
    generalize x.ks.length = x4 at *
    generalize y.op = y1 at *
    generalize y.n = y2 at *
    generalize y.is.length = y3 at *
    generalize y.ks.length = y4 at *
    clear hTx hTy
    by_cases hv : v = 0
    ·subst hv
     rw [if_pos rfl] at hstep
     have HV := Lib.hid hstep.symm
     clear hstep hx hy hV
     go_wp2_with fail
     go_region_held3 (fun w' => w'.cell? ⟨g1, k * 4, none⟩ = some (.int .i64 x1) ∧ w'.cell? ⟨g1, k * 4 + 1, none⟩ = some (.int .i64 x2) ∧ w'.cell? ⟨g1, k * 4 + 2, none⟩ = some (.slice a1 x3 c1) ∧ w'.cell? ⟨g1, k * 4 + 3, none⟩ = some (.slice a2 x4 c2) ∧ w'.cell? ⟨g2, k * 4, none⟩ = some (.int .i64 y1) ∧ w'.cell? ⟨g2, k * 4 + 1, none⟩ = some (.int .i64 y2) ∧ w'.cell? ⟨g2, k * 4 + 2, none⟩ = some (.slice a3 y3 c3) ∧ w'.cell? ⟨g2, k * 4 + 3, none⟩ = some (.slice a4 y4 c4) ∧ Since wr w')
      ((with_reducible refine ⟨Since.cell ?_ p0, Since.cell ?_ p1, Since.cell ?_ p2, Since.cell ?_ p3, Since.cell ?_ q0, Since.cell ?_ q1, Since.cell ?_ q2, Since.cell ?_ q3, ?_⟩) <;> (repeat (first | with_reducible assumption | with_reducible exact since_r _ | with_reducible refine Since.alloc ?_ _ | with_reducible refine since_d ?_)))
      ((go_at_call 42; refine KQ.out.mono ?_; rintro e w' ⟨rfl, hr⟩; have hB4 : Since wr w' := Since.step hSd hr))
     have HB4 := Lib.hid (Since.step hS.out hB4)
     clear hB4 hr hSd p0 p1 p2 p3 q0 q1 q2 q3
     go_wp2
     go_roundw
     case rel => exact ⟨k + 1, by omega, by go_num, HV, HB4⟩
     case measure => simp [intOf]; omega
    ·rw [if_neg hv] at hstep
     have HV := Lib.hid hstep
     have hv2 : (v != 0) = true := bne_iff_ne.2 hv
     clear hstep hx hy hV hv
     go_wp2_with fail
     go_region_held3 (fun w' => w'.cell? ⟨g1, k * 4, none⟩ = some (.int .i64 x1) ∧ w'.cell? ⟨g1, k * 4 + 1, none⟩ = some (.int .i64 x2) ∧ w'.cell? ⟨g1, k * 4 + 2, none⟩ = some (.slice a1 x3 c1) ∧ w'.cell? ⟨g1, k * 4 + 3, none⟩ = some (.slice a2 x4 c2) ∧ w'.cell? ⟨g2, k * 4, none⟩ = some (.int .i64 y1) ∧ w'.cell? ⟨g2, k * 4 + 1, none⟩ = some (.int .i64 y2) ∧ w'.cell? ⟨g2, k * 4 + 2, none⟩ = some (.slice a3 y3 c3) ∧ w'.cell? ⟨g2, k * 4 + 3, none⟩ = some (.slice a4 y4 c4) ∧ Since wr w')
      ((with_reducible refine ⟨Since.cell ?_ p0, Since.cell ?_ p1, Since.cell ?_ p2, Since.cell ?_ p3, Since.cell ?_ q0, Since.cell ?_ q1, Since.cell ?_ q2, Since.cell ?_ q3, ?_⟩) <;> (repeat (first | with_reducible assumption | with_reducible exact since_r _ | with_reducible refine Since.alloc ?_ _ | with_reducible refine since_d ?_)))
      ((go_at_call 42; refine KQ.out.mono ?_; rintro e w' ⟨rfl, hr⟩; have hB4 : Since wr w' := Since.step hSd hr))
     have HB4 := Lib.hid (Since.step hS.out hB4)
     clear hB4 hr hSd p0 p1 p2 p3 q0 q1 q2 q3
     go_wp2
     go_ret
     exact ⟨fret_int HV.out.symm, HB4.out⟩
   ·have i1 : ¬ (k : Int) < n := by omega
    have hend := zipL_stop p (la := xs) (bs := ys) (k := k) (by have := HXN.out; omega)
    rw [hV.out] at hend
    have HV := Lib.hid hend
    clear hend hV
    go_wp2
    go_ret
    exact ⟨fret_int HV.out.symm, hS.out⟩
 ·have hz : cmpI (n : Int) (m : Int) ≠ 0 := fun h => hnm (by have := h0.1 h; omega)
  rw [if_neg hz]
  generalize cmpI (n : Int) (m : Int) = v at *
  have hv2 : (v != 0) = true := bne_iff_ne.2 hz
  clear h0 hz hnm
  go_enter Tryz.func81, Tryz.ntmps81
  go_wp2_with fail
  refine KN.out.mono ?_
  rintro e w2 ⟨rfl, rfl⟩
  go_wp2
  go_ret
  exact ⟨rfl, HS0.out⟩
end Go.Proofs.YtgnloodmbgdgdaaGreat
