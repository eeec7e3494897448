import Derived.Test.YtgnloodmbgdgdaaGreatFB23
import Derived.Test.YtgnloodmbgdgdaaGreatFB05
import Derived.Test.YtgnloodmbgdgdaaGreatFB22
namespace Go.Proofs.YtgnloodmbgdgdaaGreat
open Go.RowKit Go.Shelf
mutual
def Th.cls (m : Int) : Th → Bool
 | .mk cs _ ps => !(cs.any fun z => decide (m ≤ z)) && Th.clss m ps
def Th.clss (m : Int) : List Th → Bool
 | [] => true
 | t :: ts => t.cls m && Th.clss m ts
end
theorem Th.cls_eq (m : Int) (t : Th) : t.cls m = (!(t.cs.any fun z => decide (m ≤ z)) && Th.clss m t.ps) := by cases t; rw [Th.cls]; rfl
theorem Th.clss_any (m : Int) : ∀ ts : List Th, (!ts.any fun q => !q.cls m) = Th.clss m ts
 | [] => by rw [Th.clss]; rfl
 | t :: ts => by rw [Th.clss, List.any_cons, Bool.not_or, Th.clss_any m ts, Bool.not_not]
set_option maxHeartbeats 4000000 in
set_option maxRecDepth 100000 in
theorem hc1_any (N M : Nat) (P : List (List Int)) (z : Int) (w : World) (hX : BoxL M [.pointer (some ⟨N, 0, none⟩)] w) (hT : TxAt N P w) :
  Calls Tryz.prog 105 #[.int .i64 z, .pointer (some ⟨M, 0, none⟩)] w fun e w' => e = .returned (.bool (decide ((P.length : Int) ≤ z))) ∧ Below w.heap.size w w' := by
 have KL := Lib.hid (tlen_any N P w hT)
 obtain ⟨x0, -⟩ := hX.open1
 have HB := Lib.hid (since_r w)
 clear hX hT
 go_enter Tryz.func105, Tryz.ntmps105
 go_wp2_with fail
 refine KL.out.mono ?_
 rintro e w2 ⟨rfl, rfl⟩
 go_wp2
 go_ret
 exact ⟨rfl, HB.out⟩
def HasK (N : Nat) (P : List (List Int)) (m : Nat) : Prop := ∀ (t : Th), t.size ≤ m → t.wf → ∀ (a b c : Value) (W : World), TxAt N P W → TAt W.heap.size W t a b c →
 Calls Tryz.prog 60 #[.pointer (some ⟨N, 0, none⟩), .agg #[a, b, c]] W fun e w' => e = .returned (.bool (t.cls P.length)) ∧ Below W.heap.size W w'
set_option maxHeartbeats 4000000 in
set_option maxRecDepth 100000 in
theorem hc2_any {N : Nat} {P : List (List Int)} {m : Nat} (K : Hid (HasK N P m)) (M : Nat) (t : Th) (ht : t.size ≤ m) (hw : t.wf) (a b c : Value) (w : World) (hX : BoxL M [.pointer (some ⟨N, 0, none⟩)] w) (hTx : TxAt N P w) (hT : TAt w.heap.size w t a b c) :
  Calls Tryz.prog 107 #[.agg #[a, b, c], .pointer (some ⟨M, 0, none⟩)] w fun e w' => e = .returned (.bool (!t.cls P.length)) ∧ Below w.heap.size w w' := by
 obtain ⟨W1, hW1⟩ : ∃ W1, W1 = w.alloc (.cells #[a, b, c] 41) := ⟨_, rfl⟩
 have hS1 : Since w W1 := by rw [hW1]; exact Since.alloc (since_r _) _
 have hY : BoxL w.heap.size [a, b, c] W1 := by rw [hW1]; exact BoxL.made w _ _
 have K1 := Lib.hid (K.out t ht hw a b c W1 (TxAt.below hTx hS1) (TAt.below hS1 hT))
 have HS1 := Lib.hid hS1
 obtain ⟨x0, -⟩ := (hX.keep hS1).open1
 obtain ⟨y0, y1, y2, -⟩ := hY.open3
 obtain ⟨a1, c1, a2, c2, a3, c3, rfl, rfl, rfl, -⟩ := hT.shape
 generalize t.cls P.length = v at *
 generalize t.cs.length = l1 at *
 generalize t.vs.length = l2 at *
 generalize t.ps.length = l3 at *
 clear hX hTx hT hY hS1 K ht hw
 go_enter Tryz.func107, Tryz.ntmps107
 go_upto_region 1 with (fail)
 rw [← hW1]
 clear hW1
 go_wp2_with fail
 refine K1.out.mono ?_
 rintro e w2 ⟨rfl, hr⟩
 have HB2 := Lib.hid (Since.step HS1.out hr)
 clear hr x0 y0 y1 y2
 go_wp2
 go_ret
 exact ⟨rfl, HB2.out⟩
set_option maxHeartbeats 4000000 in
set_option maxRecDepth 100000 in
theorem has_step {N : Nat} {P : List (List Int)} {m : Nat} (hm : m ≤ 1000000) (K : Hid (HasK N P m)) : HasK N P (m + 1) := by
 intro t ht hw a b c w hTx hT
 have hwf := (Th.wf_eq t).1 hw
 have hcl := Th.cls_eq P.length t
 have hsz := t.size_eq
 have hsl := Th.sizes_len t.ps
 obtain ⟨W1, hW1⟩ : ∃ W1, W1 = w.alloc (.cells #[.pointer (some ⟨N, 0, none⟩)] 33) := ⟨_, rfl⟩
 have hS1 : Since w W1 := by rw [hW1]; exact Since.alloc (since_r _) _
 have hz1 : W1.heap.size = w.heap.size + 1 := by rw [hW1, World.size_alloc]
 have hX1 : BoxL w.heap.size [.pointer (some ⟨N, 0, none⟩)] W1 := by rw [hW1]; exact BoxL.made w _ _
 obtain ⟨W2, hW2⟩ : ∃ W2, W2 = W1.alloc (.cells #[a, b, c] 41) := ⟨_, rfl⟩
 have hS2 : Since W1 W2 := by rw [hW2]; exact Since.alloc (since_r _) _
 have hX2 := hX1.keep hS2
 have hY2 : BoxL (w.heap.size + 1) [a, b, c] W2 := by rw [hW2, ← hz1]; exact BoxL.made W1 _ _
 have hS := Since.step hS1 hS2
 obtain ⟨cs, vs, ps⟩ := t
 simp only [Th.cs, Th.vs, Th.ps] at *
 obtain ⟨⟨hE, -⟩, ⟨hV, -⟩, hP⟩ := hT.parts
 have hE2 := hE.below hS
 have hP2 := Ps.below hS hP
 obtain ⟨a1, c1, rfl⟩ := hE.shape
 obtain ⟨a2, c2, rfl⟩ := hV.shape
 obtain ⟨a3, c3, rfl⟩ := hP.shape
 obtain ⟨x0, -⟩ := hX2.open1
 obtain ⟨y0, y1, y2, -⟩ := hY2.open3
 have K1 := Lib.hid (hc1_has w.heap.size (fun z => decide ((P.length : Int) ≤ z)) _ cs W2 hE2 hwf.1.1.2 (Lib.hid fun q _ W' hs => hc1_any N w.heap.size P q W' (hX2.keep hs) (TxAt.below hTx (hS.trans (Below.mono hs hS.size)))))
 have K2 := Lib.hid fun W3 (hs3 : Since W2 W3) => hc2_has w.heap.size (fun q => !q.cls P.length) _ ps W3 (Ps.below hs3 hP2) (by omega) (Lib.hid fun q hq va vb vc W' hs hTq => hc2_any K w.heap.size q (by have := Th.sizes_mem hq; omega) (hwf.2 q hq) va vb vc W' (hX2.keep (Since.step hs3 hs)) (TxAt.below hTx (Since.step hS (Since.step hs3 hs))) hTq)
 rw [hcl]
 have hcp := Th.clss_any P.length ps
 rw [← hcp]
 generalize (cs.any fun z => decide ((P.length : Int) ≤ z)) = v1 at *
 generalize (ps.any fun q => !q.cls P.length) = v2 at *
 generalize cs.length = l1 at *
 generalize vs.length = l2 at *
 generalize ps.length = l3 at *
 have HS := Lib.hid hS
 have HY := Lib.hid hY2
 have HX := Lib.hid hX2
 clear hcl hcp hsz hsl hwf hw hTx hT hE hV hP hE2 hP2 hX1 hX2 hY2 hS1 hS2 hS K ht
 go_enter Tryz.func60, Tryz.ntmps60
 go_upto_region 1 with (fail)
 rw [← hW1, ← hW2]
 clear hW1 hW2
 go_wp2_with fail
 refine K1.out.mono ?_
 rintro e w3 ⟨rfl, hr⟩
 clear x0 y0 y1 y2
 cases v1 with
 | true =>
  have HB := Lib.hid (Since.step HS.out hr)
  clear hr
  go_wp2
  go_ret
  exact ⟨rfl, HB.out⟩
 | false =>
  obtain ⟨y0, y1, y2, -⟩ := (HY.out.keep hr).open3
  have K3 := Lib.hid (K2.out w3 hr)
  have HB := Lib.hid (Since.step HS.out hr)
  clear hr
  go_wp2_with fail
  refine K3.out.mono ?_
  rintro e w4 ⟨rfl, hr⟩
  have HB4 := Lib.hid (Since.step HB.out hr)
  clear hr y0 y1 y2
  go_wp2
  go_ret
  exact ⟨rfl, HB4.out⟩
theorem hasK_all (N : Nat) (P : List (List Int)) : ∀ m : Nat, m ≤ 1000000 → HasK N P m
 | 0, _ => fun t ht => by
  have := t.size_pos
  omega
 | m + 1, h => has_step (by omega) (Lib.hid (hasK_all N P m (by omega)))
theorem hasClasses_any (N : Nat) (P : List (List Int)) (t : Th) (ht : t.size ≤ 1000000) (hw : t.wf) (a b c : Value) (W : World) (hTx : TxAt N P W) (hT : TAt W.heap.size W t a b c) :
  Calls Tryz.prog 60 #[.pointer (some ⟨N, 0, none⟩), .agg #[a, b, c]] W fun e w' => e = .returned (.bool (t.cls P.length)) ∧ Below W.heap.size W w' := hasK_all N P 1000000 (Nat.le_refl _) t ht hw a b c W hTx hT
end Go.Proofs.YtgnloodmbgdgdaaGreat
namespace Go.Proofs.YtgnloodmbgdgdaaGreat
open Go.RowKit Go.Shelf
mutual
noncomputable def Fo.hold (P : List (List Int)) : Fo → Th → Bool
 | .mk op n is ks, t =>
  if op = 0 then true
  else if op = 1 then t.cs.any fun c => isB P c n
  else if op = 2 then (valV t.vs n).2.2 && hasL is (valV t.vs n).1 (valV t.vs n).2.1
  else if op = 3 then t.ps.any fun p => Fo.hold1 P ks p
  else if op = 4 then !Fo.holdN P ks t
  else if op = 5 then Fo.holdE P ks t
  else !Fo.hold1 P ks t
noncomputable def Fo.hold1 (P : List (List Int)) : List Fo → Th → Bool
 | [], _ => false
 | k :: _, t => Fo.hold P k t
noncomputable def Fo.holdN (P : List (List Int)) : List Fo → Th → Bool
 | [], _ => false
 | k :: ks, t => !Fo.hold P k t || Fo.holdN P ks t
noncomputable def Fo.holdE (P : List (List Int)) : List Fo → Th → Bool
 | [], _ => false
 | k :: ks, t => Fo.hold P k t || Fo.holdE P ks t
end
theorem Fo.holdN_any (P : List (List Int)) (t : Th) : ∀ ks : List Fo, (ks.any fun k => !k.hold P t) = Fo.holdN P ks t
 | [] => by rw [Fo.holdN]; rfl
 | k :: ks => by rw [Fo.holdN, List.any_cons, Fo.holdN_any P t ks]
theorem Fo.holdE_any (P : List (List Int)) (t : Th) : ∀ ks : List Fo, (ks.any fun k => k.hold P t) = Fo.holdE P ks t
 | [] => by rw [Fo.holdE]; rfl
 | k :: ks => by rw [Fo.holdE, List.any_cons, Fo.holdE_any P t ks]
def HoldK (N : Nat) (P : List (List Int)) (m : Nat) : Prop := ∀ (f : Fo), f.size ≤ m → f.good = true → f.wf → ∀ (t : Th), t.size ≤ 1000000 → t.wf → ∀ (c d a b e : Value) (W : World), TxAt N P W → FAt W.heap.size W f c d → TAt W.heap.size W t a b e →
 Calls Tryz.prog 61 #[.pointer (some ⟨N, 0, none⟩), .agg #[.int .i64 f.op, .int .i64 f.n, c, d], .agg #[a, b, e]] W fun e w' => e = .returned (.bool (f.hold P t)) ∧ Below W.heap.size W w'
set_option maxHeartbeats 4000000 in
set_option maxRecDepth 100000 in
theorem ho1_any (N M1 M2 : Nat) (P : List (List Int)) (z op n : Int) (c d : Value) (w : World) (hX : BoxL M1 [.pointer (some ⟨N, 0, none⟩)] w) (hY : BoxL M2 [.int .i64 op, .int .i64 n, c, d] w) (hT : TxAt N P w) :
  Calls Tryz.prog 108 #[.int .i64 z, .pointer (some ⟨M1, 0, none⟩), .pointer (some ⟨M2, 0, none⟩)] w fun e w' => e = .returned (.bool (isB P z n)) ∧ Below w.heap.size w w' := by
 have KL := Lib.hid (tis_any N P z n w hT)
 obtain ⟨x0, -⟩ := hX.open1
 obtain ⟨y0, y1, y2, y3, -⟩ := hY.open4
 have HB := Lib.hid (since_r w)
 generalize isB P z n = v at *
 clear hX hT hY
 go_enter Tryz.func108, Tryz.ntmps108
 go_wp2_with fail
 refine KL.out.mono ?_
 rintro e w2 ⟨rfl, rfl⟩
 go_wp2
 go_ret
 exact ⟨rfl, HB.out⟩
set_option maxHeartbeats 4000000 in
set_option maxRecDepth 100000 in
theorem ho2_any {N : Nat} {P : List (List Int)} {m : Nat} (K : Hid (HoldK N P m)) (M1 M2 : Nat) (op n : Int) (vc : Value) (g ck : Nat) (k : Fo) (hk : k.size ≤ m) (hg : k.good = true) (hkw : k.wf) (t : Th) (ht : t.size ≤ 1000000) (hw : t.wf) (c d a b e : Value) (w : World) (hX : BoxL M1 [.pointer (some ⟨N, 0, none⟩)] w) (hY : BoxL M2 [.int .i64 op, .int .i64 n, vc, .slice (some ⟨g, 0, none⟩) 1 ck] w)
  (k0 : w.cell? ⟨g, 0, none⟩ = some (.int .i64 k.op)) (k1 : w.cell? ⟨g, 1, none⟩ = some (.int .i64 k.n)) (k2 : w.cell? ⟨g, 2, none⟩ = some c) (k3 : w.cell? ⟨g, 3, none⟩ = some d) (hTx : TxAt N P w) (hF : FAt w.heap.size w k c d) (hT : TAt w.heap.size w t a b e) :
  Calls Tryz.prog 112 #[.agg #[a, b, e], .pointer (some ⟨M1, 0, none⟩), .pointer (some ⟨M2, 0, none⟩)] w fun e w' => e = .returned (.bool (k.hold P t)) ∧ Below w.heap.size w w' := by
 obtain ⟨W1, hW1⟩ : ∃ W1, W1 = w.alloc (.cells #[a, b, e] 41) := ⟨_, rfl⟩
 have hS1 : Since w W1 := by rw [hW1]; exact Since.alloc (since_r _) _
 have hZ : BoxL w.heap.size [a, b, e] W1 := by rw [hW1]; exact BoxL.made w _ _
 have hSd : Since W1 W1.drew := since_d (since_r _)
 have hS2 := Since.step hS1 hSd
 have K1 := Lib.hid (K.out k hk hg hkw t ht hw c d a b e W1.drew (TxAt.below hTx hS2) (FAt.below hS2 hF) (TAt.below hS2 hT))
 have HS1 := Lib.hid hS1
 obtain ⟨x0, -⟩ := (hX.keep hS1).open1
 obtain ⟨y0, y1, y2, y3, -⟩ := (hY.keep hS1).open4
 obtain ⟨z0, z1, z2, -⟩ := hZ.open3
 have k0 := Since.cell hS1 k0
 have k1 := Since.cell hS1 k1
 have k2 := Since.cell hS1 k2
 have k3 := Since.cell hS1 k3
 obtain ⟨a1, c1, a2, c2, a3, c3, rfl, rfl, rfl, -⟩ := hT.shape
 obtain ⟨a4, c4, a5, c5, rfl, rfl, -⟩ := hF.shape
 generalize k.hold P t = v at *
 generalize t.cs.length = l1 at *
 generalize t.vs.length = l2 at *
 generalize t.ps.length = l3 at *
 generalize k.is.length = l4 at *
 generalize k.ks.length = l5 at *
 generalize k.op = o1 at *
 generalize k.n = o2 at *
 clear hX hY hZ hTx hT hF hS1 K ht hw hk hg hkw
 go_enter Tryz.func112, Tryz.ntmps112
 go_upto_region 1 with (fail)
 rw [← hW1]
 clear hW1
 go_region_held3 (fun w' => w'.cell? ⟨M1, 0, none⟩ = some (.pointer (some ⟨N, 0, none⟩)) ∧ w'.cell? ⟨M2, 3, none⟩ = some (.slice (some ⟨g, 0, none⟩) 1 ck) ∧ w'.cell? ⟨g, 0, none⟩ = some (.int .i64 o1) ∧ w'.cell? ⟨g, 1, none⟩ = some (.int .i64 o2) ∧ w'.cell? ⟨g, 2, none⟩ = some (.slice a4 l4 c4) ∧ w'.cell? ⟨g, 3, none⟩ = some (.slice a5 l5 c5) ∧ w'.cell? ⟨w.heap.size, 0, none⟩ = some (.slice a1 l1 c1) ∧ w'.cell? ⟨w.heap.size, 1, none⟩ = some (.slice a2 l2 c2) ∧ w'.cell? ⟨w.heap.size, 2, none⟩ = some (.slice a3 l3 c3) ∧ Since W1 w')
  ((with_reducible refine ⟨Since.cell ?_ x0, Since.cell ?_ y3, Since.cell ?_ k0, Since.cell ?_ k1, Since.cell ?_ k2, Since.cell ?_ k3, Since.cell ?_ z0, Since.cell ?_ z1, Since.cell ?_ z2, ?_⟩) <;> (repeat (first | with_reducible assumption | with_reducible exact since_r _ | with_reducible refine Since.alloc ?_ _ | with_reducible refine since_d ?_)))
  ((go_at_call 61; refine K1.out.mono ?_; rintro e w' ⟨rfl, hr⟩; have hB4 : Since W1 w' := Since.step hSd hr))
 have HB9 := Lib.hid (Since.step HS1.out hB4)
 clear hB4 hr hSd x0 y0 y1 y2 y3 z0 z1 z2 k0 k1 k2 k3
 go_wp2
 go_ret
 exact ⟨rfl, HB9.out⟩
set_option maxHeartbeats 4000000 in
set_option maxRecDepth 100000 in
theorem ho3_any {N : Nat} {P : List (List Int)} {m : Nat} (K : Hid (HoldK N P m)) (M1 M2 : Nat) (k : Fo) (hk : k.size ≤ m) (hg : k.good = true) (hkw : k.wf) (t : Th) (ht : t.size ≤ 1000000) (hw : t.wf) (c d a b e : Value) (w : World) (hX : BoxL M1 [.pointer (some ⟨N, 0, none⟩)] w) (hY : BoxL M2 [a, b, e] w) (hTx : TxAt N P w) (hF : FAt w.heap.size w k c d) (hT : TAt w.heap.size w t a b e) :
  Calls Tryz.prog 113 #[.agg #[.int .i64 k.op, .int .i64 k.n, c, d], .pointer (some ⟨M1, 0, none⟩), .pointer (some ⟨M2, 0, none⟩)] w fun e w' => e = .returned (.bool (!k.hold P t)) ∧ Below w.heap.size w w' := by
 obtain ⟨W1, hW1⟩ : ∃ W1, W1 = w.alloc (.cells #[.int .i64 k.op, .int .i64 k.n, c, d] 29) := ⟨_, rfl⟩
 have hS1 : Since w W1 := by rw [hW1]; exact Since.alloc (since_r _) _
 have hZ : BoxL w.heap.size [.int .i64 k.op, .int .i64 k.n, c, d] W1 := by rw [hW1]; exact BoxL.made w _ _
 have K1 := Lib.hid (K.out k hk hg hkw t ht hw c d a b e W1 (TxAt.below hTx hS1) (FAt.below hS1 hF) (TAt.below hS1 hT))
 have HS1 := Lib.hid hS1
 obtain ⟨x0, -⟩ := (hX.keep hS1).open1
 obtain ⟨y0, y1, y2, -⟩ := (hY.keep hS1).open3
 obtain ⟨z0, z1, z2, z3, -⟩ := hZ.open4
 obtain ⟨a1, c1, a2, c2, a3, c3, rfl, rfl, rfl, -⟩ := hT.shape
 obtain ⟨a4, c4, a5, c5, rfl, rfl, -⟩ := hF.shape
 generalize k.hold P t = v at *
 generalize t.cs.length = l1 at *
 generalize t.vs.length = l2 at *
 generalize t.ps.length = l3 at *
 generalize k.is.length = l4 at *
 generalize k.ks.length = l5 at *
 generalize k.op = o1 at *
 generalize k.n = o2 at *
 clear hX hY hZ hTx hT hF hS1 K ht hw hk hg hkw
 go_enter Tryz.func113, Tryz.ntmps113
 go_upto_region 1 with (fail)
 rw [← hW1]
 clear hW1
 go_wp2_with fail
 refine K1.out.mono ?_
 rintro e w2 ⟨rfl, hr⟩
 have HB2 := Lib.hid (Since.step HS1.out hr)
 clear hr x0 y0 y1 y2 z0 z1 z2 z3
 go_wp2
 go_ret
 exact ⟨rfl, HB2.out⟩
set_option maxHeartbeats 4000000 in
set_option maxRecDepth 100000 in
theorem ho4_any {N : Nat} {P : List (List Int)} {m : Nat} (K : Hid (HoldK N P m)) (M1 M2 : Nat) (k : Fo) (hk : k.size ≤ m) (hg : k.good = true) (hkw : k.wf) (t : Th) (ht : t.size ≤ 1000000) (hw : t.wf) (c d a b e : Value) (w : World) (hX : BoxL M1 [.pointer (some ⟨N, 0, none⟩)] w) (hY : BoxL M2 [a, b, e] w) (hTx : TxAt N P w) (hF : FAt w.heap.size w k c d) (hT : TAt w.heap.size w t a b e) :
  Calls Tryz.prog 114 #[.agg #[.int .i64 k.op, .int .i64 k.n, c, d], .pointer (some ⟨M1, 0, none⟩), .pointer (some ⟨M2, 0, none⟩)] w fun e w' => e = .returned (.bool (k.hold P t)) ∧ Below w.heap.size w w' := by
 obtain ⟨W1, hW1⟩ : ∃ W1, W1 = w.alloc (.cells #[.int .i64 k.op, .int .i64 k.n, c, d] 29) := ⟨_, rfl⟩
 have hS1 : Since w W1 := by rw [hW1]; exact Since.alloc (since_r _) _
 have hZ : BoxL w.heap.size [.int .i64 k.op, .int .i64 k.n, c, d] W1 := by rw [hW1]; exact BoxL.made w _ _
 have K1 := Lib.hid (K.out k hk hg hkw t ht hw c d a b e W1 (TxAt.below hTx hS1) (FAt.below hS1 hF) (TAt.below hS1 hT))
 have HS1 := Lib.hid hS1
 obtain ⟨x0, -⟩ := (hX.keep hS1).open1
 obtain ⟨y0, y1, y2, -⟩ := (hY.keep hS1).open3
 obtain ⟨z0, z1, z2, z3, -⟩ := hZ.open4
 obtain ⟨a1, c1, a2, c2, a3, c3, rfl, rfl, rfl, -⟩ := hT.shape
 obtain ⟨a4, c4, a5, c5, rfl, rfl, -⟩ := hF.shape
 generalize k.hold P t = v at *
 generalize t.cs.length = l1 at *
 generalize t.vs.length = l2 at *
 generalize t.ps.length = l3 at *
 generalize k.is.length = l4 at *
 generalize k.ks.length = l5 at *
 generalize k.op = o1 at *
 generalize k.n = o2 at *
 clear hX hY hZ hTx hT hF hS1 K ht hw hk hg hkw
 go_enter Tryz.func114, Tryz.ntmps114
 go_upto_region 1 with (fail)
 rw [← hW1]
 clear hW1
 go_wp2_with fail
 refine K1.out.mono ?_
 rintro e w2 ⟨rfl, hr⟩
 have HB2 := Lib.hid (Since.step HS1.out hr)
 clear hr x0 y0 y1 y2 z0 z1 z2 z3
 go_wp2
 go_ret
 exact ⟨rfl, HB2.out⟩
set_option maxHeartbeats 4000000 in
set_option maxRecDepth 100000 in
theorem ho1_idx (M1 M2 : Nat) (p : Int → Bool) (sv : Value) (zs : List Int) (w : World) (h : Els .i64 w sv zs) (hl : zs.length ≤ 1000000) (K1 : Hid (∀ (q : Int), q ∈ zs → ∀ W, Since w W → Calls Tryz.prog 108 #[.int .i64 q, .pointer (some ⟨M1, 0, none⟩), .pointer (some ⟨M2, 0, none⟩)] W fun e w' => e = .returned (.bool (p q)) ∧ Below W.heap.size W w')) :
  Calls Tryz.prog 158 #[sv, .func (.func 108) #[] #[.pointer (some ⟨M1, 0, none⟩), .pointer (some ⟨M2, 0, none⟩)]] w (IdxB (zs.any p) w) := by
 obtain ⟨a0, c0, rfl⟩ := h.shape
 generalize hm2 : zs.length = m at *
 have HPs : Hid (∀ W, Since w W → Els .i64 W (.slice a0 m c0) zs) := Lib.hid fun W (hB : Since w W) => h.below hB
 have HM := Lib.hid hm2
 have HS0 := Lib.hid (since_r w)
 have HA0 : Hid ((zs.take 0).any p = false) := Lib.hid rfl
 clear h hm2
 go_enter Tryz.func158, Tryz.ntmps158
 go_wp2
 go_loopw [8] (fun v wr => ∃ k : Nat, k ≤ m ∧ v = .int .i64 k ∧ Hid ((zs.take k).any p = false) ∧ Hid (Since w wr)) (fun v _ => m - (intOf v).toNat)
 case atStart => exact ⟨0, by omega, rfl, HA0, HS0⟩
 case round =>
  clear HS0 HA0
  obtain ⟨k, hk, rfl, hlt, hS⟩ := hrel
  by_cases hkm : k < m
  ·have i1 : (k : Int) < m := by omega
   have i4 : ((k : Int)).toNat = k := by omega
   obtain ⟨g, off, rfl, e0⟩ := (HPs.out wr hS.out).at k hkm
   have hq : zs[k]? = some (zs[k]?.getD 0) := by rw [List.getElem?_eq_getElem (by rw [HM.out]; exact hkm)]; rfl
   generalize zs[k]?.getD 0 = q at *
   have kq := K1.out q (List.mem_of_getElem? hq) wr hS.out
   have HAN := Lib.hid (any_snoc p hq)
   have HMEM := Lib.hid (List.mem_of_getElem? hq)
   cases hv : p q with
   | true =>
    have hy : zs.any p = true := List.any_eq_true.2 ⟨q, HMEM.out, hv⟩
    rw [hv] at kq
    have KQ := Lib.hid kq
    have HY := Lib.hid hy
    clear kq hq hlt hv hy HAN HMEM
    go_wp2_with fail
    refine KQ.out.mono ?_
    rintro e w2 ⟨rfl, hr⟩
    have HB2 := Lib.hid (Since.step hS.out hr)
    clear hr
    go_wp2
    go_ret
    exact ⟨.inr ⟨k, rfl, HY.out⟩, HB2⟩
   | false =>
    rw [hv] at kq
    have KQ := Lib.hid kq
    have HN := Lib.hid (by rw [HAN.out, hlt.out, hv]; rfl : (zs.take (k + 1)).any p = false)
    clear kq hq hlt hv HAN HMEM
    go_wp2_with fail
    refine KQ.out.mono ?_
    rintro e w2 ⟨rfl, hr⟩
    have HB2 := Lib.hid (Since.step hS.out hr)
    clear hr
    clear e0
    go_wp2
    go_roundw
    case rel => exact ⟨k + 1, by omega, by go_num, HN, HB2⟩
    case measure => simp [intOf]; omega
  ·have i1 : ¬ (k : Int) < m := by omega
   have hkn : k = m := by omega
   have HF := Lib.hid hlt.out
   rw [hkn, ← HM.out, List.take_length] at HF
   clear hlt hkn
   go_wp2
   go_ret
   exact ⟨.inl ⟨rfl, HF.out⟩, hS⟩
set_option maxHeartbeats 4000000 in
set_option maxRecDepth 100000 in
theorem ho1_has (M1 M2 : Nat) (p : Int → Bool) (sv : Value) (zs : List Int) (w : World) (h : Els .i64 w sv zs) (hl : zs.length ≤ 1000000) (K1 : Hid (∀ (q : Int), q ∈ zs → ∀ W, Since w W → Calls Tryz.prog 108 #[.int .i64 q, .pointer (some ⟨M1, 0, none⟩), .pointer (some ⟨M2, 0, none⟩)] W fun e w' => e = .returned (.bool (p q)) ∧ Below W.heap.size W w')) :
  Calls Tryz.prog 104 #[sv, .func (.func 108) #[] #[.pointer (some ⟨M1, 0, none⟩), .pointer (some ⟨M2, 0, none⟩)]] w fun e w' => e = .returned (.bool (zs.any p)) ∧ Below w.heap.size w w' := by
 have KI := Lib.hid (ho1_idx M1 M2 p sv zs w h hl K1)
 obtain ⟨a0, c0, rfl⟩ := h.shape
 generalize zs.length = m at *
 clear h hl K1
 generalize zs.any p = v at *
 go_enter Tryz.func104, Tryz.ntmps104
 go_wp2_with fail
 refine KI.out.mono ?_
 rintro e w2 ⟨⟨rfl, rfl⟩ | ⟨j, rfl, rfl⟩, h2⟩
 ·go_wp2
  go_ret
  exact ⟨rfl, h2.out⟩
 ·have i1 : (0 : Int) ≤ (j : Int) := by omega
  go_wp2
  go_ret
  exact ⟨by simp, h2.out⟩
set_option maxHeartbeats 4000000 in
set_option maxRecDepth 100000 in
theorem ho2_idx (M1 M2 : Nat) (p : Th → Bool) (sv : Value) (zs : List Th) (w : World) (h : Ps w.heap.size w sv zs) (hl : zs.length ≤ 1000000) (K1 : Hid (∀ (q : Th), q ∈ zs → ∀ (a b c : Value) W, Since w W → TAt W.heap.size W q a b c → Calls Tryz.prog 112 #[.agg #[a, b, c], .pointer (some ⟨M1, 0, none⟩), .pointer (some ⟨M2, 0, none⟩)] W fun e w' => e = .returned (.bool (p q)) ∧ Below W.heap.size W w')) :
  Calls Tryz.prog 159 #[sv, .func (.func 112) #[] #[.pointer (some ⟨M1, 0, none⟩), .pointer (some ⟨M2, 0, none⟩)]] w (IdxB (zs.any p) w) := by
 obtain ⟨a0, c0, rfl⟩ := h.shape
 generalize hm2 : zs.length = m at *
 have HPs : Hid (∀ W, Since w W → Ps W.heap.size W (.slice a0 m c0) zs) := Lib.hid fun W (hB : Since w W) => Ps.below hB h
 have HM := Lib.hid hm2
 have HS0 := Lib.hid (since_r w)
 have HA0 : Hid ((zs.take 0).any p = false) := Lib.hid rfl
 clear h hm2
 go_enter Tryz.func159, Tryz.ntmps159
 go_wp2
 go_loopw [8] (fun v wr => ∃ k : Nat, k ≤ m ∧ v = .int .i64 k ∧ Hid ((zs.take k).any p = false) ∧ Hid (Since w wr)) (fun v _ => m - (intOf v).toNat)
 case atStart => exact ⟨0, by omega, rfl, HA0, HS0⟩
 case round =>
  clear HS0 HA0
  obtain ⟨k, hk, rfl, hlt, hS⟩ := hrel
  by_cases hkm : k < m
  ·have i1 : (k : Int) < m := by omega
   have i4 : ((k : Int)).toNat = k := by omega
   obtain ⟨g, q, rfl, -, -, -, hq, v1, v2, v3, e0, e1, e2, hTq⟩ := (HPs.out wr hS.out).get (j := k) hkm
   have kq := K1.out q (List.mem_of_getElem? hq) _ _ _ wr hS.out hTq
   obtain ⟨a1, x1, a2, x2, a3, x3, rfl, rfl, rfl, -⟩ := hTq.shape
   clear hTq
   generalize q.cs.length = l1 at *
   generalize q.vs.length = l2 at *
   generalize q.ps.length = l3 at *
   have HAN := Lib.hid (any_snoc p hq)
   have HMEM := Lib.hid (List.mem_of_getElem? hq)
   cases hv : p q with
   | true =>
    have hy : zs.any p = true := List.any_eq_true.2 ⟨q, HMEM.out, hv⟩
    rw [hv] at kq
    have KQ := Lib.hid kq
    have HY := Lib.hid hy
    clear kq hq hlt hv hy HAN HMEM
    go_wp2_with fail
    refine KQ.out.mono ?_
    rintro e w2 ⟨rfl, hr⟩
    have HB2 := Lib.hid (Since.step hS.out hr)
    clear hr
    go_wp2
    go_ret
    exact ⟨.inr ⟨k, rfl, HY.out⟩, HB2⟩
   | false =>
    rw [hv] at kq
    have KQ := Lib.hid kq
    have HN := Lib.hid (by rw [HAN.out, hlt.out, hv]; rfl : (zs.take (k + 1)).any p = false)
    clear kq hq hlt hv HAN HMEM
    go_wp2_with fail
    refine KQ.out.mono ?_
    rintro e w2 ⟨rfl, hr⟩
    have HB2 := Lib.hid (Since.step hS.out hr)
    clear hr
    clear e0 e1 e2
    go_wp2
    go_roundw
    case rel => exact ⟨k + 1, by omega, by go_num, HN, HB2⟩
    case measure => simp [intOf]; omega
  ·have i1 : ¬ (k : Int) < m := by omega
   have hkn : k = m := by omega
   have HF := Lib.hid hlt.out
   rw [hkn, ← HM.out, List.take_length] at HF
   clear hlt hkn
   go_wp2
   go_ret
   exact ⟨.inl ⟨rfl, HF.out⟩, hS⟩
set_option maxHeartbeats 4000000 in
set_option maxRecDepth 100000 in
theorem ho2_has (M1 M2 : Nat) (p : Th → Bool) (sv : Value) (zs : List Th) (w : World) (h : Ps w.heap.size w sv zs) (hl : zs.length ≤ 1000000) (K1 : Hid (∀ (q : Th), q ∈ zs → ∀ (a b c : Value) W, Since w W → TAt W.heap.size W q a b c → Calls Tryz.prog 112 #[.agg #[a, b, c], .pointer (some ⟨M1, 0, none⟩), .pointer (some ⟨M2, 0, none⟩)] W fun e w' => e = .returned (.bool (p q)) ∧ Below W.heap.size W w')) :
  Calls Tryz.prog 106 #[sv, .func (.func 112) #[] #[.pointer (some ⟨M1, 0, none⟩), .pointer (some ⟨M2, 0, none⟩)]] w fun e w' => e = .returned (.bool (zs.any p)) ∧ Below w.heap.size w w' := by
 have KI := Lib.hid (ho2_idx M1 M2 p sv zs w h hl K1)
 obtain ⟨a0, c0, rfl⟩ := h.shape
 generalize zs.length = m at *
 clear h hl K1
 generalize zs.any p = v at *
 go_enter Tryz.func106, Tryz.ntmps106
 go_wp2_with fail
 refine KI.out.mono ?_
 rintro e w2 ⟨⟨rfl, rfl⟩ | ⟨j, rfl, rfl⟩, h2⟩
 ·go_wp2
  go_ret
  exact ⟨rfl, h2.out⟩
 ·have i1 : (0 : Int) ≤ (j : Int) := by omega
  go_wp2
  go_ret
  exact ⟨by simp, h2.out⟩
set_option maxHeartbeats 4000000 in
set_option maxRecDepth 100000 in
theorem ho3_idx (M1 M2 : Nat) (p : Fo → Bool) (sv : Value) (zs : List Fo) (w : World) (h : Fs w.heap.size w sv zs) (hl : zs.length ≤ 1000000) (K1 : Hid (∀ (q : Fo), q ∈ zs → ∀ (c d : Value) W, Since w W → FAt W.heap.size W q c d → Calls Tryz.prog 113 #[.agg #[.int .i64 q.op, .int .i64 q.n, c, d], .pointer (some ⟨M1, 0, none⟩), .pointer (some ⟨M2, 0, none⟩)] W fun e w' => e = .returned (.bool (p q)) ∧ Below W.heap.size W w')) :
  Calls Tryz.prog 145 #[sv, .func (.func 113) #[] #[.pointer (some ⟨M1, 0, none⟩), .pointer (some ⟨M2, 0, none⟩)]] w (IdxB (zs.any p) w) := by
 obtain ⟨a0, c0, rfl⟩ := h.shape
 generalize hm2 : zs.length = m at *
 have HPs : Hid (∀ W, Since w W → Fs W.heap.size W (.slice a0 m c0) zs) := Lib.hid fun W (hB : Since w W) => Fs.below hB h
 have HM := Lib.hid hm2
 have HS0 := Lib.hid (since_r w)
 have HA0 : Hid ((zs.take 0).any p = false) := Lib.hid rfl
 clear h hm2
 go_enter Tryz.func145, Tryz.ntmps145
 go_wp2
 go_loopw [8] (fun v wr => ∃ k : Nat, k ≤ m ∧ v = .int .i64 k ∧ Hid ((zs.take k).any p = false) ∧ Hid (Since w wr)) (fun v _ => m - (intOf v).toNat)
 case atStart => exact ⟨0, by omega, rfl, HA0, HS0⟩
 case round =>
  clear HS0 HA0
  obtain ⟨k, hk, rfl, hlt, hS⟩ := hrel
  by_cases hkm : k < m
  ·have i1 : (k : Int) < m := by omega
   have i4 : ((k : Int)).toNat = k := by omega
   obtain ⟨g, q, rfl, -, -, -, hq, v1, v2, e0, e1, e2, e3, hTq⟩ := (HPs.out wr hS.out).get (j := k) hkm
   have kq := K1.out q (List.mem_of_getElem? hq) _ _ wr hS.out hTq
   obtain ⟨a1, x1, a2, x2, rfl, rfl, -⟩ := hTq.shape
   clear hTq
   generalize q.op = q1 at *
   generalize q.n = q2 at *
   generalize q.is.length = l1 at *
   generalize q.ks.length = l2 at *
   have HAN := Lib.hid (any_snoc p hq)
   have HMEM := Lib.hid (List.mem_of_getElem? hq)
   cases hv : p q with
   | true =>
    have hy : zs.any p = true := List.any_eq_true.2 ⟨q, HMEM.out, hv⟩
    rw [hv] at kq
    have KQ := Lib.hid kq
    have HY := Lib.hid hy
    clear kq hq hlt hv hy HAN HMEM
    go_wp2_with fail
    refine KQ.out.mono ?_
    rintro e w2 ⟨rfl, hr⟩
    have HB2 := Lib.hid (Since.step hS.out hr)
    clear hr
    go_wp2
    go_ret
    exact ⟨.inr ⟨k, rfl, HY.out⟩, HB2⟩
   | false =>
    rw [hv] at kq
    have KQ := Lib.hid kq
    have HN := Lib.hid (by rw [HAN.out, hlt.out, hv]; rfl : (zs.take (k + 1)).any p = false)
    clear kq hq hlt hv HAN HMEM
    go_wp2_with fail
    refine KQ.out.mono ?_
    rintro e w2 ⟨rfl, hr⟩
    have HB2 := Lib.hid (Since.step hS.out hr)
    clear hr
    clear e0 e1 e2 e3
    go_wp2
    go_roundw
    case rel => exact ⟨k + 1, by omega, by go_num, HN, HB2⟩
    case measure => simp [intOf]; omega
  ·have i1 : ¬ (k : Int) < m := by omega
   have hkn : k = m := by omega
   have HF := Lib.hid hlt.out
   rw [hkn, ← HM.out, List.take_length] at HF
   clear hlt hkn
   go_wp2
   go_ret
   exact ⟨.inl ⟨rfl, HF.out⟩, hS⟩
set_option maxHeartbeats 4000000 in
set_option maxRecDepth 100000 in
theorem ho3_has (M1 M2 : Nat) (p : Fo → Bool) (sv : Value) (zs : List Fo) (w : World) (h : Fs w.heap.size w sv zs) (hl : zs.length ≤ 1000000) (K1 : Hid (∀ (q : Fo), q ∈ zs → ∀ (c d : Value) W, Since w W → FAt W.heap.size W q c d → Calls Tryz.prog 113 #[.agg #[.int .i64 q.op, .int .i64 q.n, c, d], .pointer (some ⟨M1, 0, none⟩), .pointer (some ⟨M2, 0, none⟩)] W fun e w' => e = .returned (.bool (p q)) ∧ Below W.heap.size W w')) :
  Calls Tryz.prog 92 #[sv, .func (.func 113) #[] #[.pointer (some ⟨M1, 0, none⟩), .pointer (some ⟨M2, 0, none⟩)]] w fun e w' => e = .returned (.bool (zs.any p)) ∧ Below w.heap.size w w' := by
 have KI := Lib.hid (ho3_idx M1 M2 p sv zs w h hl K1)
 obtain ⟨a0, c0, rfl⟩ := h.shape
 generalize zs.length = m at *
 clear h hl K1
 generalize zs.any p = v at *
 go_enter Tryz.func92, Tryz.ntmps92
 go_wp2_with fail
 refine KI.out.mono ?_
 rintro e w2 ⟨⟨rfl, rfl⟩ | ⟨j, rfl, rfl⟩, h2⟩
 ·go_wp2
  go_ret
  exact ⟨rfl, h2.out⟩
 ·have i1 : (0 : Int) ≤ (j : Int) := by omega
  go_wp2
  go_ret
  exact ⟨by simp, h2.out⟩
set_option maxHeartbeats 4000000 in
set_option maxRecDepth 100000 in
theorem ho4_idx (M1 M2 : Nat) (p : Fo → Bool) (sv : Value) (zs : List Fo) (w : World) (h : Fs w.heap.size w sv zs) (hl : zs.length ≤ 1000000) (K1 : Hid (∀ (q : Fo), q ∈ zs → ∀ (c d : Value) W, Since w W → FAt W.heap.size W q c d → Calls Tryz.prog 114 #[.agg #[.int .i64 q.op, .int .i64 q.n, c, d], .pointer (some ⟨M1, 0, none⟩), .pointer (some ⟨M2, 0, none⟩)] W fun e w' => e = .returned (.bool (p q)) ∧ Below W.heap.size W w')) :
  Calls Tryz.prog 145 #[sv, .func (.func 114) #[] #[.pointer (some ⟨M1, 0, none⟩), .pointer (some ⟨M2, 0, none⟩)]] w (IdxB (zs.any p) w) := by
 obtain ⟨a0, c0, rfl⟩ := h.shape
 generalize hm2 : zs.length = m at *
 have HPs : Hid (∀ W, Since w W → Fs W.heap.size W (.slice a0 m c0) zs) := Lib.hid fun W (hB : Since w W) => Fs.below hB h
 have HM := Lib.hid hm2
 have HS0 := Lib.hid (since_r w)
 have HA0 : Hid ((zs.take 0).any p = false) := Lib.hid rfl
 clear h hm2
 go_enter Tryz.func145, Tryz.ntmps145
 go_wp2
 go_loopw [8] (fun v wr => ∃ k : Nat, k ≤ m ∧ v = .int .i64 k ∧ Hid ((zs.take k).any p = false) ∧ Hid (Since w wr)) (fun v _ => m - (intOf v).toNat)
 case atStart => exact ⟨0, by omega, rfl, HA0, HS0⟩
 case round =>
  clear HS0 HA0
  obtain ⟨k, hk, rfl, hlt, hS⟩ := hrel
  by_cases hkm : k < m
  ·have i1 : (k : Int) < m := by omega
   have i4 : ((k : Int)).toNat = k := by omega
   obtain ⟨g, q, rfl, -, -, -, hq, v1, v2, e0, e1, e2, e3, hTq⟩ := (HPs.out wr hS.out).get (j := k) hkm
   have kq := K1.out q (List.mem_of_getElem? hq) _ _ wr hS.out hTq
   obtain ⟨a1, x1, a2, x2, rfl, rfl, -⟩ := hTq.shape
   clear hTq
   generalize q.op = q1 at *
   generalize q.n = q2 at *
   generalize q.is.length = l1 at *
   generalize q.ks.length = l2 at *
   have HAN := Lib.hid (any_snoc p hq)
   have HMEM := Lib.hid (List.mem_of_getElem? hq)
   cases hv : p q with
   | true =>
    have hy : zs.any p = true := List.any_eq_true.2 ⟨q, HMEM.out, hv⟩
    rw [hv] at kq
    have KQ := Lib.hid kq
    have HY := Lib.hid hy
    clear kq hq hlt hv hy HAN HMEM
    go_wp2_with fail
    refine KQ.out.mono ?_
    rintro e w2 ⟨rfl, hr⟩
    have HB2 := Lib.hid (Since.step hS.out hr)
    clear hr
    go_wp2
    go_ret
    exact ⟨.inr ⟨k, rfl, HY.out⟩, HB2⟩
   | false =>
    rw [hv] at kq
    have KQ := Lib.hid kq
    have HN := Lib.hid (by rw [HAN.out, hlt.out, hv]; rfl : (zs.take (k + 1)).any p = false)
    clear kq hq hlt hv HAN HMEM
    go_wp2_with fail
    refine KQ.out.mono ?_
    rintro e w2 ⟨rfl, hr⟩
    have HB2 := Lib.hid (Since.step hS.out hr)
    clear hr
    clear e0 e1 e2 e3
    go_wp2
    go_roundw
    case rel => exact ⟨k + 1, by omega, by go_num, HN, HB2⟩
    case measure => simp [intOf]; omega
  ·have i1 : ¬ (k : Int) < m := by omega
   have hkn : k = m := by omega
   have HF := Lib.hid hlt.out
   rw [hkn, ← HM.out, List.take_length] at HF
   clear hlt hkn
   go_wp2
   go_ret
   exact ⟨.inl ⟨rfl, HF.out⟩, hS⟩
set_option maxHeartbeats 4000000 in
set_option maxRecDepth 100000 in
theorem ho4_has (M1 M2 : Nat) (p : Fo → Bool) (sv : Value) (zs : List Fo) (w : World) (h : Fs w.heap.size w sv zs) (hl : zs.length ≤ 1000000) (K1 : Hid (∀ (q : Fo), q ∈ zs → ∀ (c d : Value) W, Since w W → FAt W.heap.size W q c d → Calls Tryz.prog 114 #[.agg #[.int .i64 q.op, .int .i64 q.n, c, d], .pointer (some ⟨M1, 0, none⟩), .pointer (some ⟨M2, 0, none⟩)] W fun e w' => e = .returned (.bool (p q)) ∧ Below W.heap.size W w')) :
  Calls Tryz.prog 92 #[sv, .func (.func 114) #[] #[.pointer (some ⟨M1, 0, none⟩), .pointer (some ⟨M2, 0, none⟩)]] w fun e w' => e = .returned (.bool (zs.any p)) ∧ Below w.heap.size w w' := by
 have KI := Lib.hid (ho4_idx M1 M2 p sv zs w h hl K1)
 obtain ⟨a0, c0, rfl⟩ := h.shape
 generalize zs.length = m at *
 clear h hl K1
 generalize zs.any p = v at *
 go_enter Tryz.func92, Tryz.ntmps92
 go_wp2_with fail
 refine KI.out.mono ?_
 rintro e w2 ⟨⟨rfl, rfl⟩ | ⟨j, rfl, rfl⟩, h2⟩
 ·go_wp2
  go_ret
  exact ⟨rfl, h2.out⟩
 ·have i1 : (0 : Int) ≤ (j : Int) := by omega
  go_wp2
  go_ret
  exact ⟨by simp, h2.out⟩
end Go.Proofs.YtgnloodmbgdgdaaGreat
