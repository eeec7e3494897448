import Derived.Test.YtelhpndlejommaaGreatYk
import Derived.Test.YtelhpndlejommaaGreatCaCc
import Derived.Test.YtelhpndlejommaaGreatYmYn
/- The laws' things. -/
namespace Go.Proofs.YtelhpndlejommaaGreat
open Go.RowKit Go.Shelf

/-- A row of things of the call's own; the things lie below it. -/
structure ThsAt (B : Nat) (W : World) (sv : Value) (rs : List Tr) (ts : List Th) : Prop where
  own : ROwn RTh 27 B W sv rs
  len : rs.length = ts.length
  at' : ∀ (j : Nat) (r : Tr) (t : Th), rs[j]? = some r → ts[j]? = some t → TAt W.heap.size W t (.slice r.a1 r.n1 r.c1) (.slice r.a2 r.n2 r.c2) (.slice r.a3 r.n3 r.c3)
  far : ∀ g, sv.ownBlock = some g → ∀ (j : Nat) (r : Tr) (t : Th), rs[j]? = some r → ts[j]? = some t → TAt g W t (.slice r.a1 r.n1 r.c1) (.slice r.a2 r.n2 r.c2) (.slice r.a3 r.n3 r.c3)

theorem ThsAt.below {B : Nat} {W W' : World} {sv : Value} {rs : List Tr} {ts : List Th} (h : ThsAt B W sv rs ts) (hB : Since W W') : ThsAt B W' sv rs ts :=
  ⟨h.own.below hB, h.len, fun j r t hr ht => TAt.below hB (h.at' j r t hr ht), fun g hg j r t hr ht => TAt.low (Below.mono hB (Nat.le_of_lt (h.own.lt g hg).2)) t (h.far g hg j r t hr ht)⟩

/-- A generated thing. -/
def GenOk (t : Th) : Prop := t.wf ∧ t.wt ≤ 50000

theorem GenOk.size {t : Th} (h : GenOk t) : t.size ≤ 20000 := by have := t.size_wt; have := h.2; omega

/-- What things leaves. -/
def ThingsOut (w : World) (e : Ending) (w' : World) : Prop :=
  ∃ (a : Option Addr) (n c : Nat) (rs : List Tr) (ts : List Th), e = .returned (.slice a n c) ∧ n = 4 ∧ Hid (ts.length = 4) ∧ Hid (ThsAt w.heap.size w' (.slice a n c) rs ts) ∧ Hid (∀ t ∈ ts, GenOk t) ∧ Hid (Below w.heap.size w w')

theorem ThOut.tat {S0 : Nat → Prop} {W w' : World} {t : Th} {r : Tr} (h : TSr (fun k => (S0 k ∨ W.heap.size ≤ k) ∧ k < w'.heap.size) w' t r) : TAt w'.heap.size w' t (.slice r.a1 r.n1 r.c1) (.slice r.a2 r.n2 r.c2) (.slice r.a3 r.n3 r.c3) :=
  TS.tat (fun _ h => h.2) t h

set_option maxHeartbeats 8000000 in
set_option maxRecDepth 100000 in
theorem things_any (sl sm : Value) (zs ys : List Int) (x y z : Int) (w : World) (hl : Els .i64 w sl zs) (hm : Els .i64 w sm ys) (hz : Wfs zs) (hy : Wfs ys) (hx : I64 x) (hy2 : I64 y) (hz2 : I64 z) :
    Calls Tryz.prog 5 #[sl, sm, .int .i64 x, .int .i64 y, .int .i64 z] w (ThingsOut w) := by
  have K1 := Lib.hid (Some_any zs 4 64 sl w (by decide) hl hz (by decide))
  have K2 := Lib.hid fun W (hB : Since w W) => Some_any ys 3 6 sm W (by decide) (hm.below hB) hy (by decide)
  have KS := Lib.hid fun (t : Th) (hw : t.wf) (ht : t.wt ≤ 100000) (p q s : Int) (hp : I64 p) (hq : I64 q) (hs : I64 s) (a b c : Value) W (hT : TAt W.heap.size W t a b c) => spoil_all t.size t (Nat.le_refl _) hw ht p q s hp hq hs (· < W.heap.size) a b c W (fun k h => h) (TAt.ts t hT)
  obtain ⟨al, cl, rfl⟩ := hl.shape
  obtain ⟨am, cm, rfl⟩ := hm.shape
  have HX : Hid (I64 x ∧ I64 y ∧ I64 z) := Lib.hid ⟨hx, hy2, hz2⟩
  have KA := Lib.hid fun W => around_any z 7 W (by decide) (by decide) (i64_wf hz2)
  have har := aroundI_range z 7 (by decide)
  obtain ⟨x3, hx3⟩ : ∃ q, IntKind.i64.wrap (x.tdiv 3) = q := ⟨_, rfl⟩
  obtain ⟨y9, hy9⟩ : ∃ q, IntKind.i64.wrap (y.tdiv 9) = q := ⟨_, rfl⟩
  obtain ⟨hx1, hx2⟩ := hx
  obtain ⟨hy1, hy2⟩ := hy2
  have hi3 : I64 x3 := by rw [← hx3, IntKind.wrap_i64]; exact ⟨by omega, by omega⟩
  have hi9 : I64 y9 := by rw [← hy9, IntKind.wrap_i64]; exact ⟨by omega, by omega⟩
  generalize aroundI z 7 = ar at *
  have hi7 : I64 (ar - 1) := ⟨by omega, by omega⟩
  have hw7 : IntKind.i64.wrap (ar - 1) = ar - 1 := IntWalk.i64_in _ ⟨by omega, by omega⟩
  have HI : Hid (I64 x3 ∧ I64 y9 ∧ I64 (ar - 1)) := Lib.hid ⟨hi3, hi9, hi7⟩
  generalize zs.length = nl at *
  generalize ys.length = nm at *
  clear hl hm hz hy hi3 hi9 hi7 har hx1 hx2 hy1 hz2
  go_enter Tryz.func5, Tryz.ntmps5
  go_wp2_with fail
  refine K1.out.mono ?_
  rintro e W1 ⟨t1, r1, rfl, hT, hP, hB⟩
  obtain ⟨a1, n1, c1, d1, m1, f1, g1, o1, h1⟩ := r1
  simp only
  have hX := BoxL.made W1 #[.slice a1 n1 c1, .slice d1 m1 f1, .slice g1 o1 h1] 27
  have ht := ThOut.tat hT.out
  obtain ⟨V1, hV⟩ : ∃ V, V = World.alloc W1 (.cells #[.slice a1 n1 c1, .slice d1 m1 f1, .slice g1 o1 h1] 27) := ⟨_, rfl⟩
  have hS : Since W1 V1 := by rw [hV]; exact Since.alloc (Since.refl _) _
  rw [← hV] at hX
  have HT1 := Lib.hid (TAt.below hS ht)
  have HP1 := Lib.hid hP.out
  have HX1 := Lib.hid hX
  have HB1 : Hid (Since w V1) := Lib.hid (Since.step hB.out hS)
  skip
  clear hT hP hB hX ht hS
  go_upto_region 2 with (fail)
  rw [← hV]
  generalize W1.heap.size = N1 at *
  clear hV
  go_wp2_with fail
  refine (K2.out _ HB1.out).mono ?_
  rintro e W2 ⟨t2, r2, rfl, hT, hP, hB⟩
  obtain ⟨a2, n2, c2, d2, m2, f2, g2, o2, h2⟩ := r2
  simp only
  have hX := BoxL.made W2 #[.slice a2 n2 c2, .slice d2 m2 f2, .slice g2 o2 h2] 27
  have ht := ThOut.tat hT.out
  obtain ⟨V2, hV⟩ : ∃ V, V = World.alloc W2 (.cells #[.slice a2 n2 c2, .slice d2 m2 f2, .slice g2 o2 h2] 27) := ⟨_, rfl⟩
  have hS : Since W2 V2 := by rw [hV]; exact Since.alloc (Since.refl _) _
  rw [← hV] at hX
  have HT2 := Lib.hid (TAt.below hS ht)
  have HP2 := Lib.hid hP.out
  have HX2 := Lib.hid hX
  have hSS : Since V1 V2 := Since.step hB.out hS
  have HB2 : Hid (Since w V2) := Lib.hid (Since.step HB1.out hSS)
  have HT1' := Lib.hid (TAt.below hSS HT1.out)
  have HX1' := Lib.hid (HX1.out.keep hSS)
  clear HT1 HX1
  have HT1 := HT1'
  have HX1 := HX1'
  clear HT1' HX1'
  clear hSS
  skip
  clear hT hP hB hX ht hS
  go_upto_region 3 with (fail)
  rw [← hV]
  generalize W2.heap.size = N2 at *
  clear hV
  obtain ⟨x0, x1, x2, -⟩ := HX2.out.open3
  obtain ⟨z0, z1, z2, -⟩ := HX1.out.open3
  have K3 := Lib.hid (KS.out t1 HP1.out.1 (by have := HP1.out.2; omega) x y z HX.out.1 HX.out.2.1 HX.out.2.2 _ _ _ V2 HT1.out)
  clear x0 x1 x2
  go_wp2_with fail
  refine K3.out.mono ?_
  clear z0 z1 z2
  rintro e W3 ⟨t3, r3, rfl, hT, hP, hB⟩
  obtain ⟨a3, n3, c3, d3, m3, f3, g3, o3, h3⟩ := r3
  simp only
  have hX := BoxL.made W3 #[.slice a3 n3 c3, .slice d3 m3 f3, .slice g3 o3 h3] 27
  have ht := ThOut.tat hT.out
  obtain ⟨V3, hV⟩ : ∃ V, V = World.alloc W3 (.cells #[.slice a3 n3 c3, .slice d3 m3 f3, .slice g3 o3 h3] 27) := ⟨_, rfl⟩
  have hS : Since W3 V3 := by rw [hV]; exact Since.alloc (Since.refl _) _
  rw [← hV] at hX
  have HT3 := Lib.hid (TAt.below hS ht)
  have HP3 := Lib.hid hP.out
  have HX3 := Lib.hid hX
  have hSS : Since V2 V3 := Since.step hB.out hS
  have HB3 : Hid (Since w V3) := Lib.hid (Since.step HB2.out hSS)
  have HT1' := Lib.hid (TAt.below hSS HT1.out)
  have HX1' := Lib.hid (HX1.out.keep hSS)
  clear HT1 HX1
  have HT1 := HT1'
  have HX1 := HX1'
  clear HT1' HX1'
  have HT2' := Lib.hid (TAt.below hSS HT2.out)
  have HX2' := Lib.hid (HX2.out.keep hSS)
  clear HT2 HX2
  have HT2 := HT2'
  have HX2 := HX2'
  clear HT2' HX2'
  clear hSS
  skip
  clear hT hP hB hX ht hS
  go_upto_region 4 with (fail)
  rw [← hV]
  generalize W3.heap.size = N3 at *
  clear hV
  obtain ⟨x0, x1, x2, -⟩ := HX1.out.open3
  obtain ⟨y0, y1, y2, -⟩ := HX2.out.open3
  obtain ⟨z0, z1, z2, -⟩ := HX3.out.open3
  have hw3 := HP3.out.2
  have hw1 := HP1.out.2
  have hSd : Since V3 V3.drew := Since.drew (Since.refl _)
  have K4 := Lib.hid (KS.out t3 HP3.out.1 (by omega) x3 y9 (ar - 1) HI.out.1 HI.out.2.1 HI.out.2.2 _ _ _ V3.drew (TAt.below hSd HT3.out))
  clear hw3 hw1
  go_region_held3 (fun w' => w'.cell? ⟨N1, 0, none⟩ = some (.slice a1 n1 c1) ∧ w'.cell? ⟨N1, 1, none⟩ = some (.slice d1 m1 f1) ∧ w'.cell? ⟨N1, 2, none⟩ = some (.slice g1 o1 h1) ∧ w'.cell? ⟨N2, 0, none⟩ = some (.slice a2 n2 c2) ∧ w'.cell? ⟨N2, 1, none⟩ = some (.slice d2 m2 f2) ∧ w'.cell? ⟨N2, 2, none⟩ = some (.slice g2 o2 h2) ∧ w'.cell? ⟨N3, 0, none⟩ = some (.slice a3 n3 c3) ∧ w'.cell? ⟨N3, 1, none⟩ = some (.slice d3 m3 f3) ∧ w'.cell? ⟨N3, 2, none⟩ = some (.slice g3 o3 h3) ∧ Since V3 w')
    ((with_reducible refine ⟨Since.cell ?_ x0, Since.cell ?_ x1, Since.cell ?_ x2, Since.cell ?_ y0, Since.cell ?_ y1, Since.cell ?_ y2, Since.cell ?_ z0, Since.cell ?_ z1, Since.cell ?_ z2, ?_⟩) <;> (repeat (first | with_reducible assumption | with_reducible exact Since.refl _ | with_reducible refine Since.alloc ?_ _ | with_reducible refine Since.drew ?_)))
    ((first
      | (go_at_call 18; refine (KA.out _).mono ?_; rintro e w' ⟨rfl, rfl⟩)
      | (go_at_call 17; refine K4.out.mono ?_; rintro e w' ⟨t4, ⟨a4, n4, c4, d4, m4, f4, g4, o4, h4⟩, rfl, hT4, hP4, hB4'⟩; (try simp only); have hB4 : Since V3 w' := Since.step hSd hB4'.out)))
  rename World => V4
  have hO := ROwn.new RTh 27 V4 [⟨a1, n1, c1, d1, m1, f1, g1, o1, h1⟩, ⟨a2, n2, c2, d2, m2, f2, g2, o2, h2⟩, ⟨a3, n3, c3, d3, m3, f3, g3, o3, h3⟩, ⟨a4, n4, c4, d4, m4, f4, g4, o4, h4⟩] #[.slice a1 n1 c1, .slice d1 m1 f1, .slice g1 o1 h1, .slice a2 n2 c2, .slice d2 m2 f2, .slice g2 o2 h2, .slice a3 n3 c3, .slice d3 m3 f3, .slice g3 o3 h3, .slice a4 n4 c4, .slice d4 m4 f4, .slice g4 o4 h4] rfl (by unfold maxLen; simp)
  have hS4 : Since V4 (V4.alloc (.cells #[.slice a1 n1 c1, .slice d1 m1 f1, .slice g1 o1 h1, .slice a2 n2 c2, .slice d2 m2 f2, .slice g2 o2 h2, .slice a3 n3 c3, .slice d3 m3 f3, .slice g3 o3 h3, .slice a4 n4 c4, .slice d4 m4 f4, .slice g4 o4 h4] 27)) := Since.alloc (Since.refl _) _
  have hT4' := TAt.below hS4 (ThOut.tat hT4.out)
  have hS34 := Since.step hB4 hS4
  have hO := ROwn.base (B' := w.heap.size) hO (Nat.le_trans (since_size HB3.out) (since_size hB4))
  have HAT : Hid (ThsAt w.heap.size (V4.alloc (.cells #[.slice a1 n1 c1, .slice d1 m1 f1, .slice g1 o1 h1, .slice a2 n2 c2, .slice d2 m2 f2, .slice g2 o2 h2, .slice a3 n3 c3, .slice d3 m3 f3, .slice g3 o3 h3, .slice a4 n4 c4, .slice d4 m4 f4, .slice g4 o4 h4] 27)) (.slice (some ⟨V4.heap.size, 0, none⟩) 4 4) [⟨a1, n1, c1, d1, m1, f1, g1, o1, h1⟩, ⟨a2, n2, c2, d2, m2, f2, g2, o2, h2⟩, ⟨a3, n3, c3, d3, m3, f3, g3, o3, h3⟩, ⟨a4, n4, c4, d4, m4, f4, g4, o4, h4⟩] [t1, t2, t3, t4]) := Lib.hid ⟨hO, rfl, fun j r t hr ht => by
    match j with
    | 0 => cases hr; cases ht; exact TAt.below hS34 HT1.out
    | 1 => cases hr; cases ht; exact TAt.below hS34 HT2.out
    | 2 => cases hr; cases ht; exact TAt.below hS34 HT3.out
    | 3 => cases hr; cases ht; exact hT4'
    | j + 4 => simp at hr, fun g hg j r t hr ht => by
    cases hg
    match j with
    | 0 => cases hr; cases ht; exact TAt.low hS4 t1 (TAt.below hB4 HT1.out)
    | 1 => cases hr; cases ht; exact TAt.low hS4 t2 (TAt.below hB4 HT2.out)
    | 2 => cases hr; cases ht; exact TAt.low hS4 t3 (TAt.below hB4 HT3.out)
    | 3 => cases hr; cases ht; exact TAt.low hS4 t4 (ThOut.tat hT4.out)
    | j + 4 => simp at hr⟩
  have HG : Hid (∀ t ∈ [t1, t2, t3, t4], GenOk t) := Lib.hid fun t ht => by
    have h1 := HP1.out
    have h2 := HP2.out
    have h3 := HP3.out
    have h4 := hP4.out
    simp only [List.mem_cons, List.not_mem_nil, or_false] at ht
    rcases ht with rfl | rfl | rfl | rfl
    · exact ⟨h1.1, by omega⟩
    · exact ⟨h2.1, by omega⟩
    · exact ⟨h3.1, by omega⟩
    · exact ⟨h4.1, by omega⟩
  have HBF := Lib.hid (Since.step HB3.out hS34)
  have HLN : Hid ([t1, t2, t3, t4].length = 4) := Lib.hid rfl
  clear hO hS4 hT4' hS34 hB4 hT4 hP4 hB4' hSd x0 x1 x2 y0 y1 y2 z0 z1 z2
  go_wp2
  go_ret
  exact ⟨_, _, _, _, _, rfl, rfl, HLN, HAT, HG, HBF⟩

end Go.Proofs.YtelhpndlejommaaGreat

/- The reference's Valid; a row of things by its index. -/
namespace Go.Proofs.YtelhpndlejommaaGreat
open Go.RowKit Go.Shelf

set_option maxHeartbeats 2000000 in
set_option maxRecDepth 100000 in
theorem rvalidt_any (t : Th) (ht : t.size ≤ 1000000) (hwf : t.wf) (a b c : Value) (w : World) (h : TAt w.heap.size w t a b c) :
    Calls Tryz.prog 21 #[.agg #[a, b, c]] w fun e w' => e = .returned (.int .i64 (validT t)) ∧ Below w.heap.size w w' := by
  have K1 := Lib.hid fun W (hB : Below w.heap.size w W) => rsize_any t.size t (Nat.le_refl _) ht _ _ _ W (h.below hB)
  have K2 := Lib.hid fun W (hB : Below w.heap.size w W) => rdeep_any t.size t (Nat.le_refl _) ht _ _ _ W (h.below hB)
  have K3 := Lib.hid fun W (hB : Below w.heap.size w W) => formed_all t.size ht t (Nat.le_refl _) hwf _ _ _ W (h.below hB)
  obtain ⟨a1, c1, a2, c2, a3, c3, rfl, rfl, rfl, -⟩ := h.shape
  have HB0 := Lib.hid ((Below.refl w.heap.size w).alloc (Nat.le_refl _) (.cells #[.slice a1 t.cs.length c1, .slice a2 t.vs.length c2, .slice a3 t.ps.length c3] 27))
  have XA := Lib.hid (BoxL.made w #[.slice a1 t.cs.length c1, .slice a2 t.vs.length c2, .slice a3 t.ps.length c3] 27)
  have hv1 : 96 < t.size → validT t = 4 := fun hn => by unfold validT; rw [if_pos (by omega)]
  have hv4 : 8 < t.deep → validT t = 4 := fun hn => by unfold validT; rw [if_pos (by omega)]
  have hv2 : ¬ 96 < t.size → ¬ 8 < t.deep → t.goodB = true → validT t = 0 := fun h1 h2 hg => by unfold validT; rw [if_neg (by omega), if_pos hg]
  have hv3 : ¬ 96 < t.size → ¬ 8 < t.deep → t.goodB = false → validT t = 1 := fun h1 h2 hg => by unfold validT; rw [if_neg (by omega), if_neg (by rw [hg]; simp)]
  generalize validT t = R at *
  generalize t.goodB = G at *
  generalize t.size = sz at *
  generalize t.deep = dp at *
  generalize t.cs.length = m1 at *
  generalize t.vs.length = m2 at *
  generalize t.ps.length = m3 at *
  clear h hwf
  by_cases h1 : 96 < sz
  · have HR := Lib.hid (hv1 h1)
    have i1 : (sz : Int) > 96 := by omega
    clear hv1 hv2 hv3 hv4
    go_enter Tryz.func21, Tryz.ntmps21
    go_wp2_with fail
    refine (K1.out _ HB0.out).mono ?_
    rintro e w1 ⟨rfl, hr⟩
    have HB1 := Lib.hid (HB0.out.trans (hr.mono HB0.out.size))
    clear hr
    go_wp2
    go_ret
    exact ⟨ret_int HR.out.symm, HB1.out⟩
  · have i1 : ¬ (sz : Int) > 96 := by omega
    by_cases h2 : 8 < dp
    · have HR := Lib.hid (hv4 h2)
      have i2 : (dp : Int) > 8 := by omega
      clear hv1 hv2 hv3 hv4
      go_enter Tryz.func21, Tryz.ntmps21
      go_wp2_with fail
      refine (K1.out _ HB0.out).mono ?_
      rintro e w1 ⟨rfl, hr⟩
      have HB1 := Lib.hid (HB0.out.trans (hr.mono HB0.out.size))
      obtain ⟨x0, x1, x2, -⟩ := (XA.out.keep hr).open3
      clear hr
      go_wp2_with fail
      refine (K2.out _ HB1.out).mono ?_
      rintro e w2 ⟨rfl, hr⟩
      have HB2 := Lib.hid (HB1.out.trans (hr.mono HB1.out.size))
      clear hr x0 x1 x2
      go_wp2
      go_ret
      exact ⟨ret_int HR.out.symm, HB2.out⟩
    · have i2 : ¬ (dp : Int) > 8 := by omega
      have HR1 := hv2 h1 h2
      have HR2 := hv3 h1 h2
      clear hv1 hv2 hv3 hv4
      cases G
      case true =>
        have HR := Lib.hid (HR1 rfl)
        clear HR1 HR2
        go_enter Tryz.func21, Tryz.ntmps21
        go_wp2_with fail
        refine (K1.out _ HB0.out).mono ?_
        rintro e w1 ⟨rfl, hr⟩
        have HB1 := Lib.hid (HB0.out.trans (hr.mono HB0.out.size))
        have X1 := Lib.hid (XA.out.keep hr)
        obtain ⟨x0, x1, x2, -⟩ := X1.out.open3
        clear hr
        go_wp2_with fail
        refine (K2.out _ HB1.out).mono ?_
        rintro e w2 ⟨rfl, hr⟩
        have HB2 := Lib.hid (HB1.out.trans (hr.mono HB1.out.size))
        obtain ⟨y0, y1, y2, -⟩ := (X1.out.keep hr).open3
        clear hr x0 x1 x2
        go_wp2_with fail
        refine (K3.out _ HB2.out).mono ?_
        rintro e w3 ⟨rfl, hr⟩
        have HB3 := Lib.hid (HB2.out.trans (hr.mono HB2.out.size))
        clear hr y0 y1 y2
        go_wp2
        go_ret
        exact ⟨ret_int HR.out.symm, HB3.out⟩
      case false =>
        have HR := Lib.hid (HR2 rfl)
        clear HR1 HR2
        go_enter Tryz.func21, Tryz.ntmps21
        go_wp2_with fail
        refine (K1.out _ HB0.out).mono ?_
        rintro e w1 ⟨rfl, hr⟩
        have HB1 := Lib.hid (HB0.out.trans (hr.mono HB0.out.size))
        have X1 := Lib.hid (XA.out.keep hr)
        obtain ⟨x0, x1, x2, -⟩ := X1.out.open3
        clear hr
        go_wp2_with fail
        refine (K2.out _ HB1.out).mono ?_
        rintro e w2 ⟨rfl, hr⟩
        have HB2 := Lib.hid (HB1.out.trans (hr.mono HB1.out.size))
        obtain ⟨y0, y1, y2, -⟩ := (X1.out.keep hr).open3
        clear hr x0 x1 x2
        go_wp2_with fail
        refine (K3.out _ HB2.out).mono ?_
        rintro e w3 ⟨rfl, hr⟩
        have HB3 := Lib.hid (HB2.out.trans (hr.mono HB2.out.size))
        clear hr y0 y1 y2
        go_wp2
        go_ret
        exact ⟨ret_int HR.out.symm, HB3.out⟩

/-- What there is at an index. -/
theorem ThsAt.get {B : Nat} {W : World} {a : Option Addr} {n c : Nat} {rs : List Tr} {ts : List Th} (h : ThsAt B W (.slice a n c) rs ts) {j : Nat} (hj : j < n) :
    ∃ (g : Nat) (r : Tr) (t : Th), a = some ⟨g, 0, none⟩ ∧ n ≤ c ∧ rs[j]? = some r ∧ ts[j]? = some t ∧ W.cell? ⟨g, j * 3, none⟩ = some (.slice r.a1 r.n1 r.c1) ∧ W.cell? ⟨g, j * 3 + 1, none⟩ = some (.slice r.a2 r.n2 r.c2) ∧ W.cell? ⟨g, j * 3 + 2, none⟩ = some (.slice r.a3 r.n3 r.c3) ∧ TAt W.heap.size W t (.slice r.a1 r.n1 r.c1) (.slice r.a2 r.n2 r.c2) (.slice r.a3 r.n3 r.c3) ∧ g < W.heap.size := by
  have hE := h.own.els
  have hn := hE.len
  obtain ⟨g, rfl, hg, hc, hat⟩ := hE.get hj
  obtain ⟨r, hr⟩ : ∃ r, rs[j]? = some r := ⟨rs[j]'(by omega), List.getElem?_eq_getElem _⟩
  obtain ⟨t, ht⟩ : ∃ t, ts[j]? = some t := ⟨ts[j]'(by rw [← h.len]; omega), List.getElem?_eq_getElem _⟩
  exact ⟨g, r, t, rfl, hc, hr, ht, hat j r hr 0 _ rfl, hat j r hr 1 _ rfl, hat j r hr 2 _ rfl, h.at' j r t hr ht, hg⟩

end Go.Proofs.YtelhpndlejommaaGreat

