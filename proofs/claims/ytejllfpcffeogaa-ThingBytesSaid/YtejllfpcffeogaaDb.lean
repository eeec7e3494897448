/- The reference's Encode of things. -/
import Derived.Test.YtejllfpcffeogaaCb
import Derived.Test.YtejllfpcffeogaaZb
import Derived.Test.YtejllfpcffeogaaRef02i
import Derived.Test.YtejllfpcffeogaaWg
namespace Go.Proofs.Ytejllfpcffeogaa
open Go.RowKit Go.Shelf

theorem own_base {k : IntKind} {E : TypeId} {B B' : Nat} {w : World} {sv : Value} {zs : List Int} (h : Own k E B w sv zs) (hB : B' ≤ B) : Own k E B' w sv zs := by
  obtain ⟨hx, ⟨hv, hn⟩ | ⟨g, cap, cur, hv, hg, hr⟩⟩ := h
  · exact ⟨hx, .inl ⟨hv, hn⟩⟩
  · exact ⟨hx, .inr ⟨g, cap, cur, hv, Nat.le_trans hB hg, hr⟩⟩

theorem own_keepF {k : IntKind} {E : TypeId} {B : Nat} {w W : World} {sv : Value} {zs : List Int} (h : Own k E B w sv zs) (hk : KeepF (fun g => sv.ownBlock = some g) w W) : Own k E B W sv zs := by
  obtain ⟨h1, h2 | ⟨g, cap, cur, hv, hg, hh, r⟩⟩ := h
  · exact ⟨h1, .inl h2⟩
  · exact ⟨h1, .inr ⟨g, cap, cur, hv, hg, (hk.2 g (by rw [hv]; rfl) (Array.getElem?_eq_some_iff.1 hh).1).trans hh, r⟩⟩

theorem take_snocI (l : List Int) (k : Nat) (h : k < l.length) : l.take (k + 1) = l.take k ++ [l[k]?.getD 0] := by
  rw [List.take_add_one, List.getElem?_eq_getElem h]
  rfl

def REncK (m : Nat) : Prop := ∀ (t : Th), t.size ≤ m → t.wf → t.wt ≤ 100000 → ∀ (a b c : Value) (W : World), TAt W.heap.size W t a b c →
  Calls Try.prog 24 #[.agg #[a, b, c]] W (Makes .u8 5 t.enc W)

set_option maxHeartbeats 8000000 in
set_option maxRecDepth 100000 in
theorem renc_step (M : Nat) (K : Hid (REncK M)) : REncK (M + 1) := by
  intro t ht hwf hwt a b c w hT
  obtain ⟨a1, c1, a2, c2, a3, c3, rfl, rfl, rfl, hE1, hE2, hP, -, -⟩ := hT.shape
  obtain ⟨⟨⟨hw1, -⟩, hw2, -⟩, hwp⟩ := (Th.wf_eq t).1 hwf
  have hsz := t.size_eq
  have hwe := t.wt_eq
  have hpl := Th.wts_len t.ps
  have hen := t.enc_eq
  have htl := fun k => encL_take hwp (by omega) k
  have hte := fun k => Th.wts_take t.ps k
  have KS := Lib.hid fun (u : Th) (hu : u ∈ t.ps) (a b c : Value) W h => K.out u (by have := Th.sizes_mem hu; omega) (hwp u hu) (by have := Th.wts_mem hu; omega) a b c W h
  have K1 := Lib.hid fun W (hB : Below w.heap.size w W) => sints_any a1 _ c1 _ W (hE1.below hB) (nums_of hw1) (by omega)
  have K2 := Lib.hid fun W => sint_any (t.vs.length : Int) W (by omega)
  have K3 := Lib.hid fun W (hB : Below w.heap.size w W) => rnumbers_any a2 _ c2 _ W (hE2.below hB) (by omega)
  have K4 := Lib.hid fun W => sint_any (t.ps.length : Int) W (by omega)
  have KN := Lib.hid fun (z : Int) (hz : -9223372036854775808 ≤ z ∧ z ≤ 9223372036854775807) W => sint_any z W hz
  have HP := Lib.hid fun W (hB : Below w.heap.size w W) => hP.below hB
  have hNL := numsL_len t.vs
  have hNW := numsL_wf hw2
  have hel : ∀ k, (encs ((numsL t.vs).take k)).length ≤ 3000000 := fun k => by
    have h1 := encs_len ((numsL t.vs).take k) fun z hz => hNW z (List.mem_of_mem_take hz)
    have h2 : ((numsL t.vs).take k).length ≤ (numsL t.vs).length := List.length_take_le' _ _
    omega
  have hy1 : (Hm.uv t.cs.length ++ encs t.cs).length ≤ 1000100 := by
    have h1 := encs_len t.cs (nums_of hw1)
    have h2 := Hm.uv_len (n := t.cs.length) (by omega)
    rw [List.length_append]; omega
  have hy2 := Hm.uv_len (Hm.zig_lt (n := (t.vs.length : Int)) (by omega))
  have hy3 := Hm.uv_len (Hm.zig_lt (n := (t.ps.length : Int)) (by omega))
  have hkl : ∀ u ∈ t.ps, u.enc.length ≤ 1000000 := fun u hu => by
    have := Th.wts_mem hu
    have := Th.enc_len u (hwp u hu) (by omega)
    omega
  generalize Hm.uv t.cs.length ++ encs t.cs = Y1 at *
  generalize Hm.uv (Hm.zig (t.vs.length : Int)) = Y2 at *
  generalize Hm.uv (Hm.zig (t.ps.length : Int)) = Y3 at *
  have hn2 : t.vs.length ≤ 100000 := by omega
  have hn3 : t.ps.length ≤ 100000 := by omega
  generalize t.enc = EN at *
  generalize numsL t.vs = L at *
  generalize t.ps = ps at *
  have XA := Lib.hid (BoxL.made w #[.slice a1 t.cs.length c1, .slice a2 t.vs.length c2, .slice a3 ps.length c3] 29)
  have HB0 := Lib.hid ((Below.refl w.heap.size w).alloc (Nat.le_refl _) (.cells #[.slice a1 t.cs.length c1, .slice a2 t.vs.length c2, .slice a3 ps.length c3] 29))
  generalize t.cs.length = n1 at *
  generalize t.vs.length = n2 at *
  generalize hc3 : ps.length = n3 at *
  generalize hcL : L.length = nL at *
  have HN3 := Lib.hid hc3
  have HNL := Lib.hid hcL
  have HEN := Lib.hid hen
  have HTL : Hid (∀ k, (Th.encL (ps.take k)).length ≤ 1000000) := Lib.hid fun k => by have := htl k; have := hte k; omega
  have HEL := Lib.hid hel
  have HNW := Lib.hid hNW
  have HY : Hid (Y1.length ≤ 1000100 ∧ Y2.length ≤ 10 ∧ Y3.length ≤ 10) := Lib.hid ⟨hy1, hy2, hy3⟩
  have HKL := Lib.hid hkl
  have HI := Lib.hid Try.infoU8
  have hnL : nL ≤ 300000 := by omega
  clear hE1 hE2 hP hT hwf hwt ht hsz hwe hpl hen htl hte hw1 hw2 hwp K hNL hNW hel hy1 hy2 hy3 hkl hc3 hcL
  go_enter Try.func24, Try.ntmps24
  go_wp2_with fail
  refine (K1.out _ HB0.out).mono ?_
  rintro e w2 ⟨b1, m1, d1, rfl, hn, hO, hr⟩
  have hO2 := hO
  have HX2 := Lib.hid (XA.out.keep hr.out)
  have HB2 := Lib.hid (HB0.out.trans (hr.out.mono HB0.out.size))
  have HO2 : Hid (Own .u8 5 (w.heap.size + 1) w2 (.slice b1 m1 d1) Y1) := Lib.hid (by have := hO.out; rwa [World.size_alloc] at this)
  clear hn hO hr hO2 K1
  obtain ⟨x0, x1, x2, -⟩ := HX2.out.open3
  go_wp2_with fail
  refine (K2.out _).mono ?_
  rintro e w3 ⟨b2, m2, d2, rfl, hn, hO, hr⟩
  have HX3 := Lib.hid (HX2.out.keep hr.out)
  have HB3 := Lib.hid (HB2.out.trans (hr.out.mono HB2.out.size))
  have HO3 := Lib.hid (HO2.out.below hr.out)
  have HE3 := Lib.hid hO.out.els
  have hs3 : w.heap.size + 1 ≤ w3.heap.size := HX3.out.1
  have hl3 : Y1.length + Y2.length ≤ 1000000000000 := by have := HY.out; omega
  clear hn hO hr HO2 HB2 HX2 K2 x0 x1 x2
  go_wp2_with (at_builtin; refine push_all rfl _ _ 39 rfl .u8 5 1 Try.underlying39 HI.out (by decide) (w.heap.size + 1) (.slice b1 m1 d1) Y1 (.slice b2 m2 d2) Y2 rfl rfl HO3.out HE3.out hs3 hl3 ?_; intro b4 m4 d4 w4 hn4 hO4 hB4; obtain ⟨x0, x1, x2, -⟩ := (HX3.out.keep2 (Nat.lt_succ_self _) hB4.out).open3)
  have HX4 := Lib.hid (HX3.out.keep2 (Nat.lt_succ_self _) hB4.out)
  have HB4 := Lib.hid (HB3.out.trans (hB4.out.mono (Nat.le_succ _)))
  clear HX3 HB3 HO3 HE3 hs3 hl3 hn4 hB4
  refine (K3.out _ HB4.out).mono ?_
  rintro e w5 ⟨al, nl, cl, rfl, hnl, hOl, hr⟩
  have hnl2 : nl = nL := hnl.out.trans HNL.out
  subst hnl2
  have HX5 := Lib.hid (HX4.out.keep hr.out)
  have HB5 := Lib.hid (HB4.out.trans (hr.out.mono HB4.out.size))
  have HO5 := Lib.hid (hO4.out.below hr.out)
  have HF5 : Hid (Far (fun g => (Value.slice al nl cl).ownBlock = some g) (.slice b4 m4 d4)) := Lib.hid fun g hg hF => by
    have h1 := (World.ownsRow.lt hO4.out g hg).2
    have h2 := (World.ownsRow.lt hOl.out g hF).1
    omega
  have HKL0 : Hid (KeepF (fun g => (Value.slice al nl cl).ownBlock = some g) w5 w5) := Lib.hid (KeepF.refl _ _)
  have HLS : Hid (∀ g, (Value.slice al nl cl).ownBlock = some g → g < w5.heap.size) := Lib.hid fun g hg => (World.ownsRow.lt hOl.out g hg).2
  have HO5' : Hid (Own .u8 5 (w.heap.size + 1) w5 (.slice b4 m4 d4) (Y1 ++ Y2 ++ encs (L.take 0))) := Lib.hid (by simpa [encs] using HO5.out)
  clear hnl hr HX4 HB4 HO5 x0 x1 x2 K3 hO4
  go_wp2
  go_loopw [3, 5] (fun s x wr => ∃ (k : Nat) (ao : Option Addr) (no co : Nat), k ≤ nl ∧ x = .int .i64 k ∧ s = .slice ao no co ∧ Hid (Own .u8 5 (w.heap.size + 1) wr (.slice ao no co) (Y1 ++ Y2 ++ encs (L.take k))) ∧ Hid (Far (fun g => (Value.slice al nl cl).ownBlock = some g) (.slice ao no co)) ∧ Hid (KeepF (fun g => (Value.slice al nl cl).ownBlock = some g) w5 wr) ∧ Hid (BoxL w.heap.size [.slice a1 n1 c1, .slice a2 n2 c2, .slice a3 n3 c3] wr) ∧ Hid (Below w.heap.size w wr)) (fun _ x _ => nl - (intOf x).toNat)
  case atStart => exact ⟨0, b4, m4, d4, by omega, rfl, rfl, HO5', HF5, HKL0, HX5, HB5⟩
  case round =>
    clear HO5' HF5 HKL0 HX5 HB5
    obtain ⟨k, ao, no, co, hk, rfl, rfl, hO, hF, hK, hX, hB⟩ := hrel
    have i8 : IntKind.i64.wrap ((k : Int) + 1) = (k : Int) + 1 := IntWalk.i64_in _ (by omega)
    by_cases hlt : k < nl
    · have i4 : (k : Int) < nl := by omega
      have hEl := (own_keepF hOl.out hK.out).els
      obtain ⟨g, o, rfl, q0⟩ := hEl.at k hlt
      have hkl : k < L.length := by rw [HNL.out]; exact hlt
      have hxw := i64_of_wf (HNW.out _ (List.getElem_mem hkl))
      have hxe : L[k] = L[k]?.getD 0 := by rw [List.getElem?_eq_getElem hkl]; rfl
      rw [hxe] at hxw
      have hsn : encs (L.take (k + 1)) = encs (L.take k) ++ Hm.uv (Hm.zig (L[k]?.getD 0)) := by rw [take_snocI L k hkl, encs_snoc]
      generalize L[k]?.getD 0 = z at *
      have KZ := Lib.hid fun W => KN.out z hxw W
      have HUL := Lib.hid (Hm.uv_len (Hm.zig_lt hxw))
      have HSN := Lib.hid hsn
      clear hEl hxw hxe hsn
      go_wp2_with fail
      refine (KZ.out _).mono ?_
      rintro e w6 ⟨a6, n6, c6, rfl, hn6, hO6, hr⟩
      have HO6 := Lib.hid (hO.out.below hr.out)
      have HE6 := Lib.hid hO6.out.els
      have HX6 := Lib.hid (hX.out.keep hr.out)
      have HB6 := Lib.hid (hB.out.trans (hr.out.mono hB.out.size))
      have HK6 := Lib.hid (hK.out.trans (KeepF.of_below hr.out))
      have hs6 : w.heap.size + 1 ≤ w6.heap.size := HX6.out.1
      have hl6 : (Y1 ++ Y2 ++ encs (L.take k)).length + (Hm.uv (Hm.zig z)).length ≤ 1000000000000 := by
        have h1 := HY.out
        have h2 := HEL.out k
        have h3 := HUL.out
        simp only [List.length_append]
        omega
      have HFL : Hid (∀ g', (Value.slice (some ⟨g, o, none⟩) nl cl).ownBlock = some g' → g' < w6.heap.size) := Lib.hid fun j hj => Nat.lt_of_lt_of_le (HLS.out j hj) HK6.out.1
      clear hr hn6 hO6 hO hX hB hK q0
      go_wp2_with (at_builtin; refine push_all_f rfl _ _ 39 rfl .u8 5 1 Try.underlying39 HI.out (by decide) (w.heap.size + 1) (.slice ao no co) (Y1 ++ Y2 ++ encs (L.take k)) (.slice a6 n6 c6) (Hm.uv (Hm.zig z)) rfl rfl HO6.out HE6.out hs6 hl6 ?_; intro a7 n7 c7 w7 hn7 hO7 hB7 hK7)
      have hk7 := hK7.out _ HFL.out hF.out
      have HOZ : Hid (Own .u8 5 (w.heap.size + 1) w7 (.slice a7 n7 c7) (Y1 ++ Y2 ++ encs (L.take (k + 1)))) := Lib.hid (by rw [HSN.out, ← List.append_assoc]; exact hO7.out)
      have HFZ := Lib.hid hk7.2
      have HKZ := Lib.hid (HK6.out.trans hk7.1)
      have HXZ := Lib.hid (HX6.out.keep2 (Nat.lt_succ_self _) hB7.out)
      have HBZ := Lib.hid (HB6.out.trans (hB7.out.mono (Nat.le_succ _)))
      clear hk7 hO7 hB7 hK7 hn7 HO6 HE6 HX6 HB6 HK6 hs6 hl6
      go_wp2
      go_roundw
      case rel => exact ⟨k + 1, a7, n7, c7, by omega, by go_num, rfl, HOZ, HFZ, HKZ, HXZ, HBZ⟩
      case measure => simp [intOf]; omega
    · have i4 : ¬ (k : Int) < nl := by omega
      have HOA : Hid (Own .u8 5 (w.heap.size + 1) wr (.slice ao no co) (Y1 ++ Y2 ++ encs L)) := Lib.hid (by have := hO.out; rwa [List.take_of_length_le (by rw [HNL.out]; omega)] at this)
      have hZ : (Y1 ++ Y2 ++ encs L).length ≤ 5000000 := by
        have h1 := HY.out
        have h2 := HEL.out L.length
        rw [List.take_of_length_le (Nat.le_refl _)] at h2
        simp only [List.length_append]
        omega
      have HEN2 : Hid (∀ j, n3 ≤ j → Y1 ++ Y2 ++ encs L ++ Y3 ++ Th.encL (ps.take j) = EN) := Lib.hid fun j hj => by
        rw [List.take_of_length_le (by rw [HN3.out]; exact hj), HEN.out]
        simp only [List.append_assoc]
      generalize Y1 ++ Y2 ++ encs L = Z at *
      obtain ⟨x0, x1, x2, -⟩ := hX.out.open3
      clear hO hF hK HEN HEL HNW
      go_wp2_with fail
      refine (K4.out _).mono ?_
      rintro e w6 ⟨a6, n6, c6, rfl, hn6, hO6, hr⟩
      have HO6 := Lib.hid (HOA.out.below hr.out)
      have HE6 := Lib.hid hO6.out.els
      have HX6 := Lib.hid (hX.out.keep hr.out)
      have HB6 := Lib.hid (hB.out.trans (hr.out.mono hB.out.size))
      have hs6 : w.heap.size + 1 ≤ w6.heap.size := HX6.out.1
      have hl6 : Z.length + Y3.length ≤ 1000000000000 := by have := HY.out; omega
      clear hr hn6 hO6 hX hB HOA x0 x1 x2 K4
      go_wp2_with (at_builtin; refine push_all rfl _ _ 39 rfl .u8 5 1 Try.underlying39 HI.out (by decide) (w.heap.size + 1) (.slice ao no co) Z (.slice a6 n6 c6) Y3 rfl rfl HO6.out HE6.out hs6 hl6 ?_; intro b7 m7 d7 w7 hn7 hO7 hB7)
      have HX7 := Lib.hid (HX6.out.keep2 (Nat.lt_succ_self _) hB7.out)
      have HB7 := Lib.hid (HB6.out.trans (hB7.out.mono (Nat.le_succ _)))
      have HO7 : Hid (Own .u8 5 (w.heap.size + 1) w7 (.slice b7 m7 d7) (Z ++ Y3 ++ Th.encL (ps.take 0))) := Lib.hid (by simpa [Th.encL] using hO7.out)
      clear HX6 HB6 HO6 HE6 hs6 hl6 hn7 hO7 hB7
      go_wp2
      rename World => wo
      go_loopw [3, 6] (fun s x wr => ∃ (k : Nat) (ao : Option Addr) (no co : Nat), k ≤ n3 ∧ x = .int .i64 k ∧ s = .slice ao no co ∧ Hid (Own .u8 5 (w.heap.size + 1) wr (.slice ao no co) (Z ++ Y3 ++ Th.encL (ps.take k))) ∧ Hid (BoxL w.heap.size [.slice a1 n1 c1, .slice a2 n2 c2, .slice a3 n3 c3] wr) ∧ Hid (Below w.heap.size w wr)) (fun _ x _ => n3 - (intOf x).toNat)
      case atStart => exact ⟨0, b7, m7, d7, by omega, rfl, rfl, HO7, HX7, HB7⟩
      case round =>
        clear HO7 HX7 HB7 i8 i4
        obtain ⟨j, ao', no', co', hj, rfl, rfl, hO, hX, hB⟩ := hrel
        obtain ⟨x0, x1, x2, -⟩ := hX.out.open3
        have i8 : IntKind.i64.wrap ((j : Int) + 1) = (j : Int) + 1 := IntWalk.i64_in _ (by omega)
        by_cases hlt2 : j < n3
        · have i4 : (j : Int) < n3 := by omega
          obtain ⟨g, u, rfl, -, -, -, hu, v1, v2, v3, p0, p1, p2, hTu⟩ := (HP.out wr hB.out).get hlt2
          have hum := List.mem_of_getElem? hu
          have KQ := Lib.hid (KS.out u hum _ _ _ wr hTu)
          have HUL := Lib.hid (HKL.out u hum)
          have HSN := Lib.hid (Th.encL_snoc hu)
          obtain ⟨⟨e1, f1, g1, e2, f2, g2, e3, f3, g3⟩, rfl, rfl, rfl, -⟩ := (TAt.ts u hTu).shape
          simp only at p0 p1 p2 KQ
          generalize u.enc = ue at *
          clear hTu hum hu
          go_wp2_with fail
          refine KQ.out.mono ?_
          rintro e w8 ⟨a8, n8, c8, rfl, hn8, hO8, hr⟩
          have HO8 := Lib.hid (hO.out.below hr.out)
          have HE8 := Lib.hid hO8.out.els
          have HX8 := Lib.hid (hX.out.keep hr.out)
          have HB8 := Lib.hid (hB.out.trans (hr.out.mono hB.out.size))
          have hs8 : w.heap.size + 1 ≤ w8.heap.size := HX8.out.1
          have hl8 : (Z ++ Y3 ++ Th.encL (ps.take j)).length + ue.length ≤ 1000000000000 := by
            have h1 := HY.out
            have h2 := HTL.out j
            have h3 := HUL.out
            simp only [List.length_append]
            omega
          clear hr hn8 hO8 hO hX hB x0 x1 x2 p0 p1 p2
          go_wp2_with (at_builtin; refine push_all rfl _ _ 39 rfl .u8 5 1 Try.underlying39 HI.out (by decide) (w.heap.size + 1) (.slice ao' no' co') (Z ++ Y3 ++ Th.encL (ps.take j)) (.slice a8 n8 c8) ue rfl rfl HO8.out HE8.out hs8 hl8 ?_; intro a9 n9 c9 w9 hn9 hO9 hB9)
          have HOZ : Hid (Own .u8 5 (w.heap.size + 1) w9 (.slice a9 n9 c9) (Z ++ Y3 ++ Th.encL (ps.take (j + 1)))) := Lib.hid (by rw [HSN.out, ← List.append_assoc]; exact hO9.out)
          have HXZ := Lib.hid (HX8.out.keep2 (Nat.lt_succ_self _) hB9.out)
          have HBZ := Lib.hid (HB8.out.trans (hB9.out.mono (Nat.le_succ _)))
          clear hO9 hB9 hn9 HO8 HE8 HX8 HB8 hs8 hl8
          go_wp2
          go_roundw
          case rel => exact ⟨j + 1, a9, n9, c9, by omega, by go_num, rfl, HOZ, HXZ, HBZ⟩
          case measure => simp [intOf]; omega
        · have i4 : ¬ (j : Int) < n3 := by omega
          have HOE : Hid (Own .u8 5 w.heap.size wr (.slice ao' no' co') EN) := Lib.hid (by rw [← HEN2.out j (by omega)]; exact own_base hO.out (Nat.le_succ _))
          clear hO
          go_wp2
          go_ret
          exact makes_of HOE.out hB.out

theorem renc_all : ∀ M : Nat, REncK M
  | 0 => fun u hu => by have := u.size_pos; omega
  | M + 1 => renc_step M (Lib.hid (renc_all M))

end Go.Proofs.Ytejllfpcffeogaa
