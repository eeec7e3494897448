/- The law ThingNormal. -/
import Derived.Test.YtelhpndlejommaaGreatNjNl
import Derived.Test.YtelhpndlejommaaGreatZe
namespace Go.Proofs.YtelhpndlejommaaGreat
open Go.RowKit Go.Shelf

theorem norm_law (t : Th) (hwf : t.wf) (hwt : t.wt ≤ 100000) : CmpOk (normT t) ∧ (normT t).wf ∧ (normT t).wt ≤ 100000 ∧ (normE t = 0 → normE (normT t) = 0 ∧ normT (normT t) = normT t ∧ validT (normT t) = 0 ∧ (normT t).size = t.size) := by
  have hz : CmpOk (.mk [] [] []) ∧ (Th.mk [] [] []).wf ∧ (Th.mk [] [] []).wt ≤ 100000 := ⟨⟨wf_nil, by rw [Th.size_one]; decide⟩, wf_nil, by rw [Th.wt_eq]; show 3 + 0 + 3 * 0 + 0 ≤ 100000; decide⟩
  cases hn : t.norm with
  | none =>
    rw [normT_none hn, normE_none hn]
    exact ⟨hz.1, hz.2.1, hz.2.2, fun h => by cases h⟩
  | some u =>
    obtain ⟨f1, f2, f3, f4⟩ := Th.norm_facts _ _ hn
    have hs := Th.size_wt t
    rw [normE_some hn]
    by_cases hv : validT u = 0
    · rw [normT_some hn hv]
      exact ⟨⟨f3 hwf, by omega⟩, f3 hwf, by omega, fun _ => ⟨by rw [normE_some f4]; exact hv, normT_some f4 hv, hv, f1⟩⟩
    · rw [normT_bad hn hv]
      exact ⟨hz.1, hz.2.1, hz.2.2, fun h => absurd h hv⟩

theorem norm_turned (t : Th) : normE t.turn = normE t ∧ normT t.turn = normT t := by
  unfold normE normT
  rw [Th.norm_turn]
  exact ⟨rfl, rfl⟩

set_option maxHeartbeats 8000000 in
set_option maxRecDepth 100000 in
theorem law_norm (a0 : Option Addr) (len0 cap0 : Nat) (z0 : List Int) (a1 : Option Addr) (len1 cap1 : Nat) (z1 : List Int) (a2 a3 a4 : Int) (w : World) (w0 : Came .i64 w a0 len0 cap0 z0) (w1 : Came .i64 w a1 len1 cap1 z1) (w2 : (Lit.int .i64 a2).wf = true) (w3 : (Lit.int .i64 a3).wf = true) (w4 : (Lit.int .i64 a4).wf = true) :
    Calls Tryz.prog 3 #[.slice a0 len0 cap0, .slice a1 len1 cap1, .int .i64 a2, .int .i64 a3, .int .i64 a4] w fun e w' => e = .returned (.bool true) ∧ Below w.heap.size w w' := by
  have K0 := Lib.hid (things_any _ _ _ _ a2 a3 a4 w w0.els w1.els (fun z hz => w0.wf z (List.mem_of_mem_take hz)) (fun z hz => w1.wf z (List.mem_of_mem_take hz)) (i64_of_wf w2) (i64_of_wf w3) (i64_of_wf w4))
  clear w0 w1 w2 w3 w4
  go_enter Tryz.func3, Tryz.ntmps3
  go_wp2_with fail
  refine K0.out.mono ?_
  rintro e W1 ⟨as1, ns, cs1, rs, ts, rfl, hn4, hlen, hAT, hG, hB1⟩
  subst hn4
  clear K0
  have HS0 : Hid (Since W1 W1) := Lib.hid (Since.refl _)
  go_wp2
  go_loopw [12] (fun x wr => ∃ k : Nat, k ≤ 4 ∧ x = .int .i64 k ∧ Hid (Since W1 wr)) (fun x _ => 4 - (intOf x).toNat)
  case atStart => exact ⟨0, by omega, rfl, HS0⟩
  case round =>
    clear HS0
    obtain ⟨k, hk, rfl, hS⟩ := hrel
    rename World => wo
    have i8 : IntKind.i64.wrap ((k : Int) + 1) = (k : Int) + 1 := IntWalk.i64_in _ (by omega)
    by_cases hlt : k < 4
    · have i4 : (k : Int) < 4 := by omega
      obtain ⟨g, ⟨b1, m1, d1, b2, m2, d2, b3, m3, d3⟩, t, rfl, hcap, hr, ht, p0, p1, p2, hT, hg⟩ := (hAT.out.below hS.out).get hlt
      simp only at p0 p1 p2 hT
      have hgk := hG.out t (List.mem_of_getElem? ht)
      have hwt : t.wt ≤ 100000 := by have := hgk.2; omega
      have hsz := hgk.size
      obtain ⟨n1, n2, n3, n4⟩ := norm_law t hgk.1 hwt
      obtain ⟨e1, e2⟩ := norm_turned t
      have KA := Lib.hid fun W (h : Since wo W) => tnormal_any t hgk.1 hwt _ _ _ W (TAt.below h hT)
      have KB := Lib.hid fun W (h : Since wo W) => rnormal_any t hgk.1 hwt _ _ _ W (TAt.below h hT)
      have KT := Lib.hid fun W (h : Since wo W) => turn_all t.size t (Nat.le_refl _) hgk.1 hwt _ _ _ W (TAt.below h hT)
      have KC := Lib.hid fun (a b c : Value) W h => tnormal_any t.turn (Th.turn_wf t hgk.1) (by rw [Th.turn_wt]; exact hwt) a b c W h
      unfold NormOut at KA KB KC
      rw [e1, e2] at KC
      have KS := Lib.hid fun (a b c a' b' c' : Value) W h1 h2 => rsame_any (normT t) (normT t) n1 n1 a b c a' b' c' W h1 h2
      have KD := Lib.hid fun (a b c : Value) W h => tnormal_any (normT t) n2 n3 a b c W h
      unfold NormOut at KD
      have KV := Lib.hid fun (a b c : Value) W h => tvalid_any (normT t) n1.2 n2 a b c W h
      have KZ := Lib.hid fun (a b c : Value) W h => tsize_any (normT t).size (normT t) (Nat.le_refl _) n1.2 a b c W h
      have KR := Lib.hid fun W (h : Since wo W) => rsize_any t.size t (Nat.le_refl _) (by omega) _ _ _ W (TAt.below h hT)
      simp only [decide_true] at KS
      have HN4 := Lib.hid n4
      generalize normT (normT t) = nn at *
      generalize normE (normT t) = En at *
      generalize validT (normT t) = Vn at *
      generalize hsn : (normT t).size = sn at *
      generalize normT t = n at *
      generalize normE t = E at *
      generalize t.size = sz at *
      generalize t.turn = tt at *
      clear hr ht hT hgk hwt hsz hg n1 n2 n3 n4 e1 e2 hsn
      -- a
      go_wp2_with fail
      refine (KA.out wo (Since.refl _)).mono ?_
      rintro e v1 ⟨⟨s1, t1, u1, s2, t2, u2, s3, t3, u3⟩, rfl, hT1, hBa⟩
      simp only
      obtain ⟨V1, hV⟩ : ∃ V, V = World.alloc v1 (.cells #[.slice s1 t1 u1, .slice s2 t2 u2, .slice s3 t3 u3] 27) := ⟨_, rfl⟩
      have hSa : Since v1 V1 := by rw [hV]; exact Since.alloc (Since.refl _) _
      have HX1 : Hid (BoxL v1.heap.size [.slice s1 t1 u1, .slice s2 t2 u2, .slice s3 t3 u3] V1) := Lib.hid (by rw [hV]; exact BoxL.made v1 _ _)
      have HT1 : Hid (TAt V1.heap.size V1 n (.slice s1 t1 u1) (.slice s2 t2 u2) (.slice s3 t3 u3)) := Lib.hid (TAt.below hSa (TS.tat (fun _ h => h.2) n hT1.out))
      have HS1 := Lib.hid (Since.step hBa.out hSa)
      clear hT1 hBa hSa KA
      have q0 := Since.cell HS1.out p0
      have q1 := Since.cell HS1.out p1
      have q2 := Since.cell HS1.out p2
      go_upto_region 6 with (fail)
      rw [← hV]
      generalize v1.heap.size = M1 at *
      clear hV
      -- b
      go_wp2_with fail
      refine (KB.out V1 HS1.out).mono ?_
      rintro e v2 ⟨⟨s4, t4, u4, s5, t5, u5, s6, t6, u6⟩, rfl, hT2, hBa⟩
      simp only
      obtain ⟨V2, hV⟩ : ∃ V, V = World.alloc v2 (.cells #[.slice s4 t4 u4, .slice s5 t5 u5, .slice s6 t6 u6] 27) := ⟨_, rfl⟩
      have hSa : Since v2 V2 := by rw [hV]; exact Since.alloc (Since.refl _) _
      have hSb : Since V1 V2 := Since.step hBa.out hSa
      have HX2 : Hid (BoxL v2.heap.size [.slice s4 t4 u4, .slice s5 t5 u5, .slice s6 t6 u6] V2) := Lib.hid (by rw [hV]; exact BoxL.made v2 _ _)
      have HX1 := Lib.hid (HX1.out.keep hSb)
      have HT1 := Lib.hid (TAt.below hSb HT1.out)
      have HT2 : Hid (TAt V2.heap.size V2 n (.slice s4 t4 u4) (.slice s5 t5 u5) (.slice s6 t6 u6)) := Lib.hid (TAt.below hSa (TS.tat (fun _ h => h.2) n hT2.out))
      have HS2 := Lib.hid (Since.step HS1.out hSb)
      clear q0 q1 q2 hT2 hBa hSa hSb KB
      have q0 := Since.cell HS2.out p0
      have q1 := Since.cell HS2.out p1
      have q2 := Since.cell HS2.out p2
      go_upto_region 7 with (fail)
      rw [← hV]
      generalize v2.heap.size = M2 at *
      clear hV
      -- c
      go_wp2_with fail
      refine (KT.out V2 HS2.out).mono ?_
      rintro e v3 ⟨tu, ⟨s7, t7, u7, s8, t8, u8, s9, t9, u9⟩, rfl, hT3, hP3, hBa⟩
      simp only
      have hP := hP3.out
      subst hP
      have hTu := TS.tat (fun _ h => h.2) _ hT3.out
      have hSt : Since V2 v3 := hBa.out
      clear hT3 hP3 hBa
      go_wp2_with fail
      refine (KC.out _ _ _ v3 hTu).mono ?_
      rintro e v4 ⟨⟨r1, y1, x1, r2, y2, x2, r3, y3, x3⟩, rfl, hT3, hBa⟩
      simp only
      obtain ⟨V3, hV⟩ : ∃ V, V = World.alloc v4 (.cells #[.slice r1 y1 x1, .slice r2 y2 x2, .slice r3 y3 x3] 27) := ⟨_, rfl⟩
      have hSa : Since v4 V3 := by rw [hV]; exact Since.alloc (Since.refl _) _
      have hSb : Since V2 V3 := Since.step (Since.step hSt hBa.out) hSa
      have HX3 : Hid (BoxL v4.heap.size [.slice r1 y1 x1, .slice r2 y2 x2, .slice r3 y3 x3] V3) := Lib.hid (by rw [hV]; exact BoxL.made v4 _ _)
      have HX1 := Lib.hid (HX1.out.keep hSb)
      have HX2 := Lib.hid (HX2.out.keep hSb)
      have HT1 := Lib.hid (TAt.below hSb HT1.out)
      have HT2 := Lib.hid (TAt.below hSb HT2.out)
      have HT3 : Hid (TAt V3.heap.size V3 n (.slice r1 y1 x1) (.slice r2 y2 x2) (.slice r3 y3 x3)) := Lib.hid (TAt.below hSa (TS.tat (fun _ h => h.2) n hT3.out))
      have HS3 := Lib.hid (Since.step HS2.out hSb)
      clear q0 q1 q2 hT3 hBa hSa hSb hSt hTu KT KC
      go_upto_region 8 with (fail)
      rw [← hV]
      generalize v4.heap.size = M3 at *
      clear hV
      obtain ⟨o0, o1, o2, -⟩ := HX1.out.open3
      obtain ⟨l0, l1, l2, -⟩ := HX2.out.open3
      obtain ⟨j0, j1, j2, -⟩ := HX3.out.open3
      go_wp2_with fail
      refine (KS.out _ _ _ _ _ _ V3 HT1.out HT2.out).mono ?_
      rintro e v5 ⟨rfl, hB5⟩
      have hS5 : Since V3 v5 := hB5
      have k0 := Since.cell hS5 o0
      have k1 := Since.cell hS5 o1
      have k2 := Since.cell hS5 o2
      have h0 := Since.cell hS5 j0
      have h1 := Since.cell hS5 j1
      have h2 := Since.cell hS5 j2
      have HT1 := Lib.hid (TAt.below hS5 HT1.out)
      have HT3 := Lib.hid (TAt.below hS5 HT3.out)
      have HS5 := Lib.hid hS5
      clear o0 o1 o2 l0 l1 l2 j0 j1 j2 hB5 hS5
      go_wp2_with fail
      refine (KS.out _ _ _ _ _ _ v5 HT1.out HT3.out).mono ?_
      rintro e v6 ⟨rfl, hB6⟩
      have hS6 : Since v5 v6 := hB6
      have HS6 := Lib.hid (Since.step HS5.out hS6)
      have HX1 := Lib.hid (HX1.out.keep HS6.out)
      have HT1 := Lib.hid (TAt.below hS6 HT1.out)
      have HSO := Lib.hid (Since.step HS3.out HS6.out)
      have HSW := Lib.hid (Since.step hS.out HSO.out)
      clear k0 k1 k2 h0 h1 h2 hB6 hS6 HX2 HX3 HT2 HT3 HS1 HS2 HS3 HS5 HS6
      by_cases hE : E = 0
      · obtain ⟨h1, h2, h3, h4⟩ := HN4.out hE
        subst hE
        subst h1
        subst h2
        subst h3
        subst h4
        clear HN4
        obtain ⟨o0, o1, o2, -⟩ := HX1.out.open3
        have q0 := Since.cell HSO.out p0
        have q1 := Since.cell HSO.out p1
        have q2 := Since.cell HSO.out p2
        go_wp2_with fail
        refine (KD.out _ _ _ v6 HT1.out).mono ?_
        rintro e v7 ⟨⟨s4, t4, u4, s5, t5, u5, s6, t6, u6⟩, rfl, hT2, hBa⟩
        simp only
        obtain ⟨V4, hV⟩ : ∃ V, V = World.alloc v7 (.cells #[.slice s4 t4 u4, .slice s5 t5 u5, .slice s6 t6 u6] 27) := ⟨_, rfl⟩
        have hSa : Since v7 V4 := by rw [hV]; exact Since.alloc (Since.refl _) _
        have hSb : Since v6 V4 := Since.step hBa.out hSa
        have hX2 : BoxL v7.heap.size [.slice s4 t4 u4, .slice s5 t5 u5, .slice s6 t6 u6] V4 := by rw [hV]; exact BoxL.made v7 _ _
        have hTA := TAt.below hSb HT1.out
        have hTD : TAt V4.heap.size V4 _ (.slice s4 t4 u4) (.slice s5 t5 u5) (.slice s6 t6 u6) := TAt.below hSa (TS.tat (fun _ h => h.2) _ hT2.out)
        have K1 := Lib.hid fun W (h : Since V4 W) => KS.out _ _ _ _ _ _ W (TAt.below h hTD) (TAt.below h hTA)
        have K2 := Lib.hid fun W (h : Since V4 W) => KV.out _ _ _ W (TAt.below h hTA)
        have K3 := Lib.hid fun W (h : Since V4 W) => KZ.out _ _ _ W (TAt.below h hTA)
        have K4 := Lib.hid fun W (h : Since V4 W) => KR.out W (Since.step (Since.step HSO.out hSb) h)
        obtain ⟨c0, c1, c2, -⟩ := HX1.out.keep hSb |>.open3
        obtain ⟨l0, l1, l2, -⟩ := hX2.open3
        have y0 := Since.cell hSb q0
        have y1' := Since.cell hSb q1
        have y2' := Since.cell hSb q2
        have HSW4 := Lib.hid (Since.step HSW.out hSb)
        clear o0 o1 o2 q0 q1 q2 hT2 hBa hSa hSb hX2 hTA hTD KS KV KZ KR KD HSO HSW HT1 HX1 p0 p1 p2 hS
        go_upto_region 12 with (fail)
        rw [← hV]
        generalize v7.heap.size = M4 at *
        clear hV
        have hSd : Since V4 V4.drew := Since.drew (Since.refl _)
        go_region_held3 (fun w' => w'.cell? ⟨M4, 0, none⟩ = some (.slice s4 t4 u4) ∧ w'.cell? ⟨M4, 1, none⟩ = some (.slice s5 t5 u5) ∧ w'.cell? ⟨M4, 2, none⟩ = some (.slice s6 t6 u6) ∧ w'.cell? ⟨M1, 0, none⟩ = some (.slice s1 t1 u1) ∧ w'.cell? ⟨M1, 1, none⟩ = some (.slice s2 t2 u2) ∧ w'.cell? ⟨M1, 2, none⟩ = some (.slice s3 t3 u3) ∧ w'.cell? ⟨g, k * 3, none⟩ = some (.slice b1 m1 d1) ∧ w'.cell? ⟨g, k * 3 + 1, none⟩ = some (.slice b2 m2 d2) ∧ w'.cell? ⟨g, k * 3 + 2, none⟩ = some (.slice b3 m3 d3) ∧ Since V4 w')
          ((with_reducible refine ⟨Since.cell ?_ l0, Since.cell ?_ l1, Since.cell ?_ l2, Since.cell ?_ c0, Since.cell ?_ c1, Since.cell ?_ c2, Since.cell ?_ y0, Since.cell ?_ y1', Since.cell ?_ y2', ?_⟩) <;> (repeat (first | with_reducible assumption | with_reducible exact Since.refl _ | with_reducible refine Since.alloc ?_ _ | with_reducible refine Since.drew ?_)))
          ((first
            | (go_at_call 9; refine (K1.out _ (by (repeat (first | with_reducible assumption | with_reducible exact Since.refl _ | with_reducible refine Since.alloc ?_ _ | with_reducible refine Since.drew ?_)))).mono ?_; rintro e w' ⟨rfl, hr⟩; have hB2 : Since V4 w' := (by (with_reducible refine Since.step ?_ hr); (repeat (first | with_reducible assumption | with_reducible exact Since.refl _ | with_reducible refine Since.alloc ?_ _ | with_reducible refine Since.drew ?_))); clear hr)
            | (go_at_call 10; refine (K2.out _ (by (repeat (first | with_reducible assumption | with_reducible exact Since.refl _ | with_reducible refine Since.alloc ?_ _ | with_reducible refine Since.drew ?_)))).mono ?_; rintro e w' ⟨rfl, hr⟩; have hB2 : Since V4 w' := (by (with_reducible refine Since.step ?_ hr); (repeat (first | with_reducible assumption | with_reducible exact Since.refl _ | with_reducible refine Since.alloc ?_ _ | with_reducible refine Since.drew ?_))); clear hr)
            | (go_at_call 11; refine (K3.out _ (by (repeat (first | with_reducible assumption | with_reducible exact Since.refl _ | with_reducible refine Since.alloc ?_ _ | with_reducible refine Since.drew ?_)))).mono ?_; rintro e w' ⟨rfl, hr⟩; have hB2 : Since V4 w' := (by (with_reducible refine Since.step ?_ hr); (repeat (first | with_reducible assumption | with_reducible exact Since.refl _ | with_reducible refine Since.alloc ?_ _ | with_reducible refine Since.drew ?_))); clear hr)
            | (go_at_call 12; refine (K4.out _ (by (repeat (first | with_reducible assumption | with_reducible exact Since.refl _ | with_reducible refine Since.alloc ?_ _ | with_reducible refine Since.drew ?_)))).mono ?_; rintro e w' ⟨rfl, hr⟩; have hB2 : Since V4 w' := (by (with_reducible refine Since.step ?_ hr); (repeat (first | with_reducible assumption | with_reducible exact Since.refl _ | with_reducible refine Since.alloc ?_ _ | with_reducible refine Since.drew ?_))); clear hr)))
        have HSF := Lib.hid (Since.step HSW4.out hB2)
        clear hB2 hSd l0 l1 l2 c0 c1 c2 y0 y1' y2'
        go_wp2
        go_roundw
        case rel => exact ⟨k + 1, by omega, by go_num, HSF⟩
        case measure => simp [intOf]; omega
      · have hE2 : (E != 0) = true := bne_iff_ne.2 hE
        clear hE
        go_wp2
        go_roundw
        case rel => exact ⟨k + 1, by omega, by go_num, HSW⟩
        case measure => simp [intOf]; omega
    · have i4 : ¬ (k : Int) < 4 := by omega
      have HB := Lib.hid (Below.trans hB1.out (Below.mono hS.out hB1.out.size))
      have KL := Lib.hid (lives06_any wo)
      go_wp2_with fail
      refine KL.out.mono ?_
      rintro e w9 ⟨rfl, hr⟩
      have HB9 := Lib.hid (Below.trans HB.out (Below.mono hr HB.out.size))
      clear hr
      go_wp2
      go_ret
      exact ⟨rfl, HB9.out⟩

end Go.Proofs.YtelhpndlejommaaGreat
