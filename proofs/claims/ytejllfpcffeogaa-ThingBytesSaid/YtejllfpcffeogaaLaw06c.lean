/- The reference's Valid; the law ThingValid. -/
import Derived.Test.YtejllfpcffeogaaYo
import Derived.Test.YtejllfpcffeogaaYn
import Derived.Test.YtejllfpcffeogaaZf
import Derived.Test.YtejllfpcffeogaaZe
namespace Go.Proofs.Ytejllfpcffeogaa
open Go.RowKit Go.Shelf

set_option maxHeartbeats 2000000 in
set_option maxRecDepth 100000 in
theorem rvalidt_any (t : Th) (ht : t.size ≤ 1000000) (hwf : t.wf) (a b c : Value) (w : World) (h : TAt w.heap.size w t a b c) :
    Calls Try.prog 10 #[.agg #[a, b, c]] w fun e w' => e = .returned (.int .i64 (validT t)) ∧ Below w.heap.size w w' := by
  have K1 := Lib.hid fun W (hB : Below w.heap.size w W) => rsize_any t.size t (Nat.le_refl _) ht _ _ _ W (h.below hB)
  have K2 := Lib.hid fun W (hB : Below w.heap.size w W) => rdeep_any t.size t (Nat.le_refl _) ht _ _ _ W (h.below hB)
  have K3 := Lib.hid fun W (hB : Below w.heap.size w W) => formed_all t.size ht t (Nat.le_refl _) hwf _ _ _ W (h.below hB)
  obtain ⟨a1, c1, a2, c2, a3, c3, rfl, rfl, rfl, -⟩ := h.shape
  have HB0 := Lib.hid ((Below.refl w.heap.size w).alloc (Nat.le_refl _) (.cells #[.slice a1 t.cs.length c1, .slice a2 t.vs.length c2, .slice a3 t.ps.length c3] 29))
  have XA := Lib.hid (BoxL.made w #[.slice a1 t.cs.length c1, .slice a2 t.vs.length c2, .slice a3 t.ps.length c3] 29)
  have hv1 : 96 < t.size → validT t = 4 := fun hn => by unfold validT; rw [if_pos (by omega)]
  have hv4 : 8 < t.deep → validT t = 4 := fun hn => by unfold validT; rw [if_pos (by omega)]
  have hv2 : ¬ 96 < t.size → ¬ 8 < t.deep → t.goodB = true → validT t = 0 := fun h1 h2 hg => by unfold validT; rw [if_neg (by omega), if_pos hg]
  have hv3 : ¬ 96 < t.size → ¬ 8 < t.deep → t.goodB = false → validT t = 1 := fun h1 h2 hg => by unfold validT; rw [if_neg (by omega), if_neg (by rw [hg]; simp)]
  generalize validT t = R at *
  generalize t.goodB = G at *
  generalize t.size = sz at *
  generalize t.deep = dp at *
  generalize t.cs.length = m1 at *
  generalize t.vs.length = m2 at *
  generalize t.ps.length = m3 at *
  clear h hwf
  by_cases h1 : 96 < sz
  · have HR := Lib.hid (hv1 h1)
    have i1 : (sz : Int) > 96 := by omega
    clear hv1 hv2 hv3 hv4
    go_enter Try.func10, Try.ntmps10
    go_wp2_with fail
    refine (K1.out _ HB0.out).mono ?_
    rintro e w1 ⟨rfl, hr⟩
    have HB1 := Lib.hid (HB0.out.trans (hr.mono HB0.out.size))
    clear hr
    go_wp2
    go_ret
    exact ⟨ret_int HR.out.symm, HB1.out⟩
  · have i1 : ¬ (sz : Int) > 96 := by omega
    by_cases h2 : 8 < dp
    · have HR := Lib.hid (hv4 h2)
      have i2 : (dp : Int) > 8 := by omega
      clear hv1 hv2 hv3 hv4
      go_enter Try.func10, Try.ntmps10
      go_wp2_with fail
      refine (K1.out _ HB0.out).mono ?_
      rintro e w1 ⟨rfl, hr⟩
      have HB1 := Lib.hid (HB0.out.trans (hr.mono HB0.out.size))
      obtain ⟨x0, x1, x2, -⟩ := (XA.out.keep hr).open3
      clear hr
      go_wp2_with fail
      refine (K2.out _ HB1.out).mono ?_
      rintro e w2 ⟨rfl, hr⟩
      have HB2 := Lib.hid (HB1.out.trans (hr.mono HB1.out.size))
      clear hr x0 x1 x2
      go_wp2
      go_ret
      exact ⟨ret_int HR.out.symm, HB2.out⟩
    · have i2 : ¬ (dp : Int) > 8 := by omega
      have HR1 := hv2 h1 h2
      have HR2 := hv3 h1 h2
      clear hv1 hv2 hv3 hv4
      cases G
      case true =>
        have HR := Lib.hid (HR1 rfl)
        clear HR1 HR2
        go_enter Try.func10, Try.ntmps10
        go_wp2_with fail
        refine (K1.out _ HB0.out).mono ?_
        rintro e w1 ⟨rfl, hr⟩
        have HB1 := Lib.hid (HB0.out.trans (hr.mono HB0.out.size))
        have X1 := Lib.hid (XA.out.keep hr)
        obtain ⟨x0, x1, x2, -⟩ := X1.out.open3
        clear hr
        go_wp2_with fail
        refine (K2.out _ HB1.out).mono ?_
        rintro e w2 ⟨rfl, hr⟩
        have HB2 := Lib.hid (HB1.out.trans (hr.mono HB1.out.size))
        obtain ⟨y0, y1, y2, -⟩ := (X1.out.keep hr).open3
        clear hr x0 x1 x2
        go_wp2_with fail
        refine (K3.out _ HB2.out).mono ?_
        rintro e w3 ⟨rfl, hr⟩
        have HB3 := Lib.hid (HB2.out.trans (hr.mono HB2.out.size))
        clear hr y0 y1 y2
        go_wp2
        go_ret
        exact ⟨ret_int HR.out.symm, HB3.out⟩
      case false =>
        have HR := Lib.hid (HR2 rfl)
        clear HR1 HR2
        go_enter Try.func10, Try.ntmps10
        go_wp2_with fail
        refine (K1.out _ HB0.out).mono ?_
        rintro e w1 ⟨rfl, hr⟩
        have HB1 := Lib.hid (HB0.out.trans (hr.mono HB0.out.size))
        have X1 := Lib.hid (XA.out.keep hr)
        obtain ⟨x0, x1, x2, -⟩ := X1.out.open3
        clear hr
        go_wp2_with fail
        refine (K2.out _ HB1.out).mono ?_
        rintro e w2 ⟨rfl, hr⟩
        have HB2 := Lib.hid (HB1.out.trans (hr.mono HB1.out.size))
        obtain ⟨y0, y1, y2, -⟩ := (X1.out.keep hr).open3
        clear hr x0 x1 x2
        go_wp2_with fail
        refine (K3.out _ HB2.out).mono ?_
        rintro e w3 ⟨rfl, hr⟩
        have HB3 := Lib.hid (HB2.out.trans (hr.mono HB2.out.size))
        clear hr y0 y1 y2
        go_wp2
        go_ret
        exact ⟨ret_int HR.out.symm, HB3.out⟩

/-- What there is at an index. -/
theorem ThsAt.get {B : Nat} {W : World} {a : Option Addr} {n c : Nat} {rs : List Tr} {ts : List Th} (h : ThsAt B W (.slice a n c) rs ts) {j : Nat} (hj : j < n) :
    ∃ (g : Nat) (r : Tr) (t : Th), a = some ⟨g, 0, none⟩ ∧ n ≤ c ∧ rs[j]? = some r ∧ ts[j]? = some t ∧ W.cell? ⟨g, j * 3, none⟩ = some (.slice r.a1 r.n1 r.c1) ∧ W.cell? ⟨g, j * 3 + 1, none⟩ = some (.slice r.a2 r.n2 r.c2) ∧ W.cell? ⟨g, j * 3 + 2, none⟩ = some (.slice r.a3 r.n3 r.c3) ∧ TAt W.heap.size W t (.slice r.a1 r.n1 r.c1) (.slice r.a2 r.n2 r.c2) (.slice r.a3 r.n3 r.c3) ∧ g < W.heap.size := by
  have hE := h.own.els
  have hn := hE.len
  obtain ⟨g, rfl, hg, hc, hat⟩ := hE.get hj
  obtain ⟨r, hr⟩ : ∃ r, rs[j]? = some r := ⟨rs[j]'(by omega), List.getElem?_eq_getElem _⟩
  obtain ⟨t, ht⟩ : ∃ t, ts[j]? = some t := ⟨ts[j]'(by rw [← h.len]; omega), List.getElem?_eq_getElem _⟩
  exact ⟨g, r, t, rfl, hc, hr, ht, hat j r hr 0 _ rfl, hat j r hr 1 _ rfl, hat j r hr 2 _ rfl, h.at' j r t hr ht, hg⟩

set_option maxHeartbeats 8000000 in
set_option maxRecDepth 100000 in
theorem law_valid (a0 : Option Addr) (len0 cap0 : Nat) (z0 : List Int) (a1 : Option Addr) (len1 cap1 : Nat) (z1 : List Int) (a2 a3 a4 : Int) (w : World) (w0 : Came .i64 w a0 len0 cap0 z0) (w1 : Came .i64 w a1 len1 cap1 z1) (w2 : (Lit.int .i64 a2).wf = true) (w3 : (Lit.int .i64 a3).wf = true) (w4 : (Lit.int .i64 a4).wf = true) :
    Calls Try.prog 3 #[.slice a0 len0 cap0, .slice a1 len1 cap1, .int .i64 a2, .int .i64 a3, .int .i64 a4] w fun e w' => e = .returned (.bool true) ∧ Below w.heap.size w w' := by
  have K0 := Lib.hid (things_any _ _ _ _ a2 a3 a4 w w0.els w1.els (fun z hz => w0.wf z (List.mem_of_mem_take hz)) (fun z hz => w1.wf z (List.mem_of_mem_take hz)) (i64_of_wf w2) (i64_of_wf w3) (i64_of_wf w4))
  clear w0 w1 w2 w3 w4
  go_enter Try.func3, Try.ntmps3
  go_wp2_with fail
  refine K0.out.mono ?_
  rintro e W1 ⟨as1, ns, cs1, rs, ts, rfl, hn4, hlen, hAT, hG, hB1⟩
  subst hn4
  clear K0
  have HS0 : Hid (Since W1 W1) := Lib.hid (Since.refl _)
  go_wp2
  go_loopw [12] (fun x wr => ∃ k : Nat, k ≤ 4 ∧ x = .int .i64 k ∧ Hid (Since W1 wr)) (fun x _ => 4 - (intOf x).toNat)
  case atStart => exact ⟨0, by omega, rfl, HS0⟩
  case round =>
    clear HS0
    obtain ⟨k, hk, rfl, hS⟩ := hrel
    rename World => wo
    have i8 : IntKind.i64.wrap ((k : Int) + 1) = (k : Int) + 1 := IntWalk.i64_in _ (by omega)
    by_cases hlt : k < 4
    · have i4 : (k : Int) < 4 := by omega
      obtain ⟨g, ⟨b1, m1, d1, b2, m2, d2, b3, m3, d3⟩, t, rfl, hcap, hr, ht, p0, p1, p2, hT, hg⟩ := (hAT.out.below hS.out).get hlt
      simp only at p0 p1 p2 hT
      have hgk := hG.out t (List.mem_of_getElem? ht)
      have hsz := hgk.size
      have hvl : t.vs.length ≤ 1000000 := ((Th.wf_eq t).1 hgk.1).1.2.2
      have KV := Lib.hid fun W (h : Since wo W) => tvalid_any t (by omega) hgk.1 _ _ _ W (TAt.below h hT)
      have KW := Lib.hid fun W (h : Since wo W) => rvalidt_any t (by omega) hgk.1 _ _ _ W (TAt.below h hT)
      have KA := Lib.hid fun W (h : Since wo W) => tsize_any t.size t (Nat.le_refl _) (by omega) _ _ _ W (TAt.below h hT)
      have KB := Lib.hid fun W (h : Since wo W) => rsize_any t.size t (Nat.le_refl _) (by omega) _ _ _ W (TAt.below h hT)
      have KC := Lib.hid fun W (h : Since wo W) => tdeep_any t.size t (Nat.le_refl _) (by omega) _ _ _ W (TAt.below h hT)
      have KD := Lib.hid fun W (h : Since wo W) => rdeep_any t.size t (Nat.le_refl _) (by omega) _ _ _ W (TAt.below h hT)
      have KE := Lib.hid fun (z : Int) W (h : Since wo W) => tvalue_any t z _ _ _ W (TAt.below h hT) hvl
      have KF := Lib.hid fun (z : Int) W (h : Since wo W) => rvalue_any t z _ _ _ W (TAt.below h hT) hvl
      generalize validT t = V at *
      generalize t.size = sz at *
      generalize t.deep = dp at *
      generalize valV t.vs = vf at *
      have hSd : Since wo wo.drew := Since.drew (Since.refl _)
      clear hr ht hT hgk hsz hvl
      go_upto_region 5 with (fail)
      go_region_held3 (fun w' => w'.cell? ⟨g, k * 3, none⟩ = some (.slice b1 m1 d1) ∧ w'.cell? ⟨g, k * 3 + 1, none⟩ = some (.slice b2 m2 d2) ∧ w'.cell? ⟨g, k * 3 + 2, none⟩ = some (.slice b3 m3 d3) ∧ Since wo w')
        ((with_reducible refine ⟨Since.cell ?_ p0, Since.cell ?_ p1, Since.cell ?_ p2, ?_⟩) <;> (repeat (first | with_reducible assumption | with_reducible exact Since.refl _ | with_reducible refine Since.alloc ?_ _ | with_reducible refine Since.drew ?_)))
        ((first
          | (go_at_call 9; refine (KV.out _ (by (repeat (first | with_reducible assumption | with_reducible exact Since.refl _ | with_reducible refine Since.alloc ?_ _ | with_reducible refine Since.drew ?_)))).mono ?_; rintro e w' ⟨rfl, hr⟩; have hB2 : Since wo w' := (by (with_reducible refine Since.step ?_ hr); (repeat (first | with_reducible assumption | with_reducible exact Since.refl _ | with_reducible refine Since.alloc ?_ _ | with_reducible refine Since.drew ?_))); clear hr)
          | (go_at_call 10; refine (KW.out _ (by (repeat (first | with_reducible assumption | with_reducible exact Since.refl _ | with_reducible refine Since.alloc ?_ _ | with_reducible refine Since.drew ?_)))).mono ?_; rintro e w' ⟨rfl, hr⟩; have hB2 : Since wo w' := (by (with_reducible refine Since.step ?_ hr); (repeat (first | with_reducible assumption | with_reducible exact Since.refl _ | with_reducible refine Since.alloc ?_ _ | with_reducible refine Since.drew ?_))); clear hr)
          | (go_at_call 11; refine (KA.out _ (by (repeat (first | with_reducible assumption | with_reducible exact Since.refl _ | with_reducible refine Since.alloc ?_ _ | with_reducible refine Since.drew ?_)))).mono ?_; rintro e w' ⟨rfl, hr⟩; have hB2 : Since wo w' := (by (with_reducible refine Since.step ?_ hr); (repeat (first | with_reducible assumption | with_reducible exact Since.refl _ | with_reducible refine Since.alloc ?_ _ | with_reducible refine Since.drew ?_))); clear hr)
          | (go_at_call 12; refine (KB.out _ (by (repeat (first | with_reducible assumption | with_reducible exact Since.refl _ | with_reducible refine Since.alloc ?_ _ | with_reducible refine Since.drew ?_)))).mono ?_; rintro e w' ⟨rfl, hr⟩; have hB2 : Since wo w' := (by (with_reducible refine Since.step ?_ hr); (repeat (first | with_reducible assumption | with_reducible exact Since.refl _ | with_reducible refine Since.alloc ?_ _ | with_reducible refine Since.drew ?_))); clear hr)
          | (go_at_call 13; refine (KC.out _ (by (repeat (first | with_reducible assumption | with_reducible exact Since.refl _ | with_reducible refine Since.alloc ?_ _ | with_reducible refine Since.drew ?_)))).mono ?_; rintro e w' ⟨rfl, hr⟩; have hB2 : Since wo w' := (by (with_reducible refine Since.step ?_ hr); (repeat (first | with_reducible assumption | with_reducible exact Since.refl _ | with_reducible refine Since.alloc ?_ _ | with_reducible refine Since.drew ?_))); clear hr)
          | (go_at_call 14; refine (KD.out _ (by (repeat (first | with_reducible assumption | with_reducible exact Since.refl _ | with_reducible refine Since.alloc ?_ _ | with_reducible refine Since.drew ?_)))).mono ?_; rintro e w' ⟨rfl, hr⟩; have hB2 : Since wo w' := (by (with_reducible refine Since.step ?_ hr); (repeat (first | with_reducible assumption | with_reducible exact Since.refl _ | with_reducible refine Since.alloc ?_ _ | with_reducible refine Since.drew ?_))); clear hr)))
      rename World => W2
      have q0 := Since.cell hB2 p0
      have q1 := Since.cell hB2 p1
      have q2 := Since.cell hB2 p2
      have HS2 := Lib.hid (Since.step hS.out hB2)
      have HSW := Lib.hid hB2
      have HS3 : Hid (Since W2 W2) := Lib.hid (Since.refl _)
      clear hB2 hSd p0 p1 p2 KV KW KA KB KC KD
      go_wp2
      go_loopw [13] (fun x wr => ∃ j : Int, -1 ≤ j ∧ j ≤ 34 ∧ x = .int .i64 j ∧ Hid (Since W2 wr)) (fun x _ => (34 - intOf x).toNat)
      case atStart => exact ⟨-1, by omega, by omega, rfl, HS3⟩
      case round =>
        clear HS3
        obtain ⟨j, hj1, hj2, rfl, hS2⟩ := hrel
        have i9 : IntKind.i64.wrap (j + 1) = j + 1 := IntWalk.i64_in _ (by omega)
        by_cases hlt2 : j < 34
        · have p0 := Since.cell hS2.out q0
          have p1 := Since.cell hS2.out q1
          have p2 := Since.cell hS2.out q2
          have k1 := KE.out j wr (Since.step HSW.out hS2.out)
          have k2 := fun W (h : Since W2 W) => KF.out j W (Since.step HSW.out h)
          generalize vf j = v at *
          obtain ⟨y0, y1, y2⟩ := v
          have K1 := Lib.hid k1
          have K2 := Lib.hid k2
          clear k1 k2
          go_wp2_with fail
          refine K1.out.mono ?_
          rintro e w3 ⟨rfl, hr⟩
          simp only
          have hX := BoxL.made w3 #[.int .i64 y0, .int .i64 y1] 32
          obtain ⟨V3, hV⟩ : ∃ V, V = World.alloc w3 (.cells #[.int .i64 y0, .int .i64 y1] 32) := ⟨_, rfl⟩
          have hS3 : Since W2 V3 := by rw [hV]; exact Since.alloc (Since.step hS2.out hr) _
          rw [← hV] at hX
          have HX := Lib.hid hX
          have HS3 := Lib.hid hS3
          clear p0 p1 p2 hr hX
          have p0 := Since.cell hS3 q0
          have p1 := Since.cell hS3 q1
          have p2 := Since.cell hS3 q2
          clear hS3 K1
          go_upto_region 11 with (fail)
          rw [← hV]
          generalize w3.heap.size = N3 at *
          clear hV
          go_wp2_with fail
          refine (K2.out V3 HS3.out).mono ?_
          rintro e w4 ⟨rfl, hr⟩
          simp only
          have hX2 := BoxL.made w4 #[.int .i64 y0, .int .i64 y1] 32
          obtain ⟨V4, hV⟩ : ∃ V, V = World.alloc w4 (.cells #[.int .i64 y0, .int .i64 y1] 32) := ⟨_, rfl⟩
          have hS4 : Since V3 V4 := by rw [hV]; exact Since.alloc hr _
          rw [← hV] at hX2
          have hX1 := HX.out.keep hS4
          have HS4 := Lib.hid (Since.step HS3.out hS4)
          clear p0 p1 p2 hr K2 HX HS3 hS4
          go_upto_region 12 with (fail)
          rw [← hV]
          generalize w4.heap.size = N4 at *
          clear hV
          obtain ⟨x0, x1, -⟩ := hX1.open2
          obtain ⟨z0, z1, -⟩ := hX2.open2
          clear hX1 hX2
          go_wp2
          go_roundw
          case rel => exact ⟨j + 1, by omega, by omega, rfl, HS4⟩
          case measure => simp [intOf]; omega
        · have HSF := Lib.hid (Since.step HS2.out hS2.out)
          go_wp2
          go_roundw
          case rel => exact ⟨k + 1, by omega, by go_num, HSF⟩
          case measure => simp [intOf]; omega
    · have i4 : ¬ (k : Int) < 4 := by omega
      have HB := Lib.hid (Below.trans hB1.out (Below.mono hS.out hB1.out.size))
      have KL := Lib.hid (lives06_any wo)
      go_wp2_with fail
      refine KL.out.mono ?_
      rintro e w9 ⟨rfl, hr⟩
      have HB9 := Lib.hid (Below.trans HB.out (Below.mono hr HB.out.size))
      clear hr
      go_wp2
      go_ret
      exact ⟨rfl, HB9.out⟩

end Go.Proofs.Ytejllfpcffeogaa
