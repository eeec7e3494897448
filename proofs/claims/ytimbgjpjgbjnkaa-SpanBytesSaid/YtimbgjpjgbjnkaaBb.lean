/- Encode of the reference of span. -/
import Derived.Test.YtimbgjpjgbjnkaaWfBa
import Derived.Test.YtimbgjpjgbjnkaaRef02i
namespace Go.Proofs.Ytimbgjpjgbjnkaa
open Go.RowKit Go.Shelf

set_option maxHeartbeats 1000000 in
theorem sbool_any (b : Bool) (w : World) :
    Calls Try.prog 80 #[.bool b] w fun e w' => Makes .u8 5 [if b then 1 else 0] w e w' := by
  cases b
  · go_enter Try.func80, Try.ntmps80
    go_wp2
    go_ret
    exact makes_of (own_lit w _ [0] (by decide)) ((Below.refl _ w).alloc (Nat.le_refl _) _)
  · go_enter Try.func80, Try.ntmps80
    go_wp2
    go_ret
    exact makes_of (own_lit w _ [1] (by decide)) ((Below.refl _ w).alloc (Nat.le_refl _) _)

def TwoB (N : Nat) (k : Nat) : Prop := k = N ∨ k = N + 1

theorem nums4 {a b c d : Int} (h1 : I64 a) (h2 : I64 b) (h3 : I64 c) (h4 : I64 d) : Nums [a, b, c, d] := fun z hz => by
  simp only [List.mem_cons, List.not_mem_nil, or_false] at hz
  rcases hz with rfl | rfl | rfl | rfl
  · exact i64_wf h1
  · exact i64_wf h2
  · exact i64_wf h3
  · exact i64_wf h4

theorem far_of_own {k : IntKind} {E : TypeId} {B : Nat} {w : World} {v : Value} {zs : List Int} {F : Nat → Prop} (h : Own k E B w v zs) (hF : ∀ j, F j → w.heap.size ≤ j) : Far F v := fun g hg hFg => by
  have := (World.ownsRow.lt h g hg).2
  have := hF g hFg
  omega

set_option maxHeartbeats 8000000 in
set_option maxRecDepth 100000 in
theorem gencode_any (sv : Value) (xs : List Iv) (w : World) (h : REls RIv w sv xs) (hwf : ∀ x ∈ xs, x.wf) (hl : xs.length ≤ 100000) :
    Calls Try.prog 39 #[sv] w (Makes .u8 5 (encS xs) w) := by
  obtain ⟨a, cap, rfl⟩ := h.shape
  have hz : (Hm.uv (Hm.zig (xs.length : Int))).length ≤ 10 := Hm.uv_len (Hm.zig_lt (by omega))
  have k1 := sint_any (xs.length : Int) w (by omega)
  have htl := fun k => ivL_take hwf k
  have hfin : ∀ k, xs.length ≤ k → Hm.uv (Hm.zig (xs.length : Int)) ++ ivC.encL (xs.take k) = encS xs := fun k hk => by rw [List.take_of_length_le hk]; rfl
  generalize encS xs = EN at *
  generalize hu : Hm.uv (Hm.zig (xs.length : Int)) = U at *
  have HI := Lib.hid Try.infoU8
  have HE := Lib.hid h
  have HWF := Lib.hid hwf
  have K1 := Lib.hid k1
  have HTL := Lib.hid htl
  have HFIN := Lib.hid hfin
  have HZ := Lib.hid hz
  generalize hn : xs.length = n at *
  have HN := Lib.hid hn
  clear h hwf k1 htl hfin hu hz hn
  go_enter Try.func39, Try.ntmps39
  go_wp2_with fail
  refine (K1.out).mono ?_
  rintro e w1 ⟨a1, n1, c1, rfl, HN1, O1, B1⟩
  have hO1 : Hid (Own .u8 5 w.heap.size w1 (.slice a1 n1 c1) (U ++ ivC.encL (xs.take 0))) := Lib.hid (by rw [List.take_zero]; unfold Codec.encL; simpa using O1.out)
  clear O1 K1
  go_wp2
  go_loopw [3, 4] (fun v i wr => ∃ k : Nat, k ≤ n ∧ i = .int .i64 k ∧ ∃ ao no co, v = .slice ao no co ∧ Hid (Own .u8 5 w.heap.size wr (.slice ao no co) (U ++ ivC.encL (xs.take k))) ∧ Hid (Below w.heap.size w wr)) (fun _ i _ => n - (intOf i).toNat)
  case atStart => exact ⟨0, Nat.zero_le _, rfl, a1, n1, c1, rfl, hO1, B1⟩
  case round =>
    obtain ⟨k, hk, rfl, ao, no, co, rfl, hO, hB⟩ := hrel
    by_cases hlt : k < n
    · have hki : (k : Int) < n := by omega
      obtain ⟨x, hx⟩ : ∃ x, xs[k]? = some x := ⟨_, List.getElem?_eq_getElem (by rw [HN.out]; exact hlt)⟩
      have hEw := HE.out.below hB.out
      obtain ⟨g, rfl, -⟩ := hEw.get hlt
      obtain ⟨t0, t1, t2, t3, t4, t5, t6, t7⟩ := iv8_at hEw hx
      have hxw := HWF.out x (List.mem_of_getElem? hx)
      have hsn := ivC.encL_snoc hx
      have hxl := ivC_len hxw
      rw [ivC_enc] at hsn hxl
      have hyl : (U ++ ivC.encL (xs.take k)).length ≤ 5000000 := by rw [List.length_append]; have := HTL.out k; have := HZ.out; omega
      obtain ⟨xa, xb, xc, xd, xp, xq, xr, xs'⟩ := x
      simp only at t0 t1 t2 t3 t4 t5 t6 t7 hsn hxl
      have hfin2 : U ++ ivC.encL (xs.take (k + 1)) = U ++ ivC.encL (xs.take k) ++ encs [xa, xb, xc, xd] ++ [if xp then 1 else 0] ++ [if xq then 1 else 0] ++ [if xr then 1 else 0] ++ [if xs' then 1 else 0] := by rw [hsn]; simp [encs, List.append_assoc]
      have hF2 := Lib.hid hfin2
      have hnum := nums4 hxw.1 hxw.2.1 hxw.2.2.1 hxw.2.2.2
      have h4 : ∀ j, (encs ([xa, xb, xc, xd].take j)).length ≤ 40 := fun j => by
        have h1 := encs_len ([xa, xb, xc, xd].take j) fun z hz => hnum z (List.mem_of_mem_take hz)
        have : ([xa, xb, xc, xd].take j).length ≤ 4 := by rw [List.length_take]; simp; omega
        omega
      generalize U ++ ivC.encL (xs.take k) = Y0 at *
      have hX0 := (BoxL.made wr #[.int .i64 xa, .int .i64 xb, .int .i64 xc, .int .i64 xd, .bool xp, .bool xq, .bool xr, .bool xs'] 27).under (.cells #[.int .i64 xa, .int .i64 xb, .int .i64 xc, .int .i64 xd] 3)
      have hL0 := Els.new .i64 (wr.alloc (.cells #[.int .i64 xa, .int .i64 xb, .int .i64 xc, .int .i64 xd, .bool xp, .bool xq, .bool xr, .bool xs'] 27)) 3 [xa, xb, xc, xd]
      have hbl : Below wr.heap.size wr ((wr.alloc (.cells #[.int .i64 xa, .int .i64 xb, .int .i64 xc, .int .i64 xd, .bool xp, .bool xq, .bool xr, .bool xs'] 27)).alloc (.cells #[.int .i64 xa, .int .i64 xb, .int .i64 xc, .int .i64 xd] 3)) := ((Below.refl _ _).alloc (Nat.le_refl _) _).alloc (by simp) _
      have hsz : ((wr.alloc (.cells #[.int .i64 xa, .int .i64 xb, .int .i64 xc, .int .i64 xd, .bool xp, .bool xq, .bool xr, .bool xs'] 27)).alloc (.cells #[.int .i64 xa, .int .i64 xb, .int .i64 xc, .int .i64 xd] 3)).heap.size = wr.heap.size + 1 + 1 := by simp
      rw [World.size_alloc] at hL0
      have hL0' : Els .i64 ((wr.alloc (.cells #[.int .i64 xa, .int .i64 xb, .int .i64 xc, .int .i64 xd, .bool xp, .bool xq, .bool xr, .bool xs'] 27)).alloc (.cells #[.int .i64 xa, .int .i64 xb, .int .i64 xc, .int .i64 xd] 3)) (.slice (some ⟨wr.heap.size + 1, 0, none⟩) 4 4) [xa, xb, xc, xd] := hL0
      have hfar := far_of_own (F := TwoB wr.heap.size) hO.out (fun j hj => by rcases hj with h | h <;> omega)
      obtain ⟨W0, hW0e⟩ : ∃ W0, W0 = (wr.alloc (.cells #[.int .i64 xa, .int .i64 xb, .int .i64 xc, .int .i64 xd, .bool xp, .bool xq, .bool xr, .bool xs'] 27)).alloc (.cells #[.int .i64 xa, .int .i64 xb, .int .i64 xc, .int .i64 xd] 3) := ⟨_, rfl⟩
      rw [← hW0e] at hX0 hL0' hbl hsz
      have HO0 := Lib.hid (hO.out.below hbl)
      have HFAR := Lib.hid hfar
      have HX := Lib.hid hX0
      have HL4 := Lib.hid hL0'
      have HB0 := Lib.hid (hB.out.trans (hbl.mono hB.out.size))
      have HK0 : Hid (KeepF (TwoB wr.heap.size) W0 W0) := Lib.hid (KeepF.refl _ _)
      have HSZ := Lib.hid hsz
      have HNUM := Lib.hid hnum
      have HYL := Lib.hid hyl
      have HL44 := Lib.hid h4
      have HE40 : Hid (encs ([xa, xb, xc, xd].take 4) = encs [xa, xb, xc, xd]) := Lib.hid rfl
      have HSN : Hid (∀ j, j < 4 → encs ([xa, xb, xc, xd].take (j + 1)) = encs ([xa, xb, xc, xd].take j) ++ Hm.uv (Hm.zig ([xa, xb, xc, xd][j]?.getD 0))) := Lib.hid fun j hj => by rw [take_snoc' _ j (by simpa using hj), encs_snoc]
      have HST0 : Hid (Y0 ++ encs ([xa, xb, xc, xd].take 0) = Y0) := Lib.hid (by simp [encs])
      clear hx hEw hxw hsn hxl hyl hfin2 hnum h4 hX0 hL0 hL0' hbl hsz hfar hO hB
      go_upto_region 7 with (fail)
      rw [← hW0e]
      generalize wr.heap.size = N at *
      generalize [xa, xb, xc, xd] = zs4 at *
      clear hW0e t0 t1 t2 t3 t4 t5 t6 t7
      obtain ⟨wo, rfl⟩ : ∃ wo : World, wo = wr := ⟨_, rfl⟩
      go_wp2
      go_loopw [3, 7] (fun v i wq => ∃ j : Nat, j ≤ 4 ∧ i = .int .i64 j ∧ ∃ ao no co, v = .slice ao no co ∧ Hid (Own .u8 5 w.heap.size wq (.slice ao no co) (Y0 ++ encs (zs4.take j))) ∧ Hid (Far (TwoB N) (.slice ao no co)) ∧ Hid (KeepF (TwoB N) W0 wq) ∧ Hid (Below w.heap.size w wq)) (fun _ i _ => 4 - (intOf i).toNat)
      case atStart => exact ⟨0, by omega, rfl, ao, no, co, rfl, Lib.hid (by rw [HST0.out]; exact HO0.out), HFAR, HK0, HB0⟩
      case round =>
        obtain ⟨j, hj, rfl, ao, no, co, rfl, hO, hFa, hK, hB⟩ := hrel
        by_cases hlt4 : j < 4
        · have hji : (j : Int) < 4 := by omega
          have hElw : Els .i64 wr (.slice (some ⟨N + 1, 0, none⟩) 4 4) zs4 := by
            rcases HL4.out with ⟨he, hz⟩ | ⟨b, off, cap, hb, he, hle, hc⟩
            · exact .inl ⟨he, hz⟩
            · simp only [Value.slice.injEq, Option.some.injEq, Addr.mk.injEq] at he
              obtain ⟨⟨rfl, rfl, _⟩, h44, rfl⟩ := he
              exact .inr ⟨N + 1, 0, 4, Nat.lt_of_lt_of_le hb hK.out.1, by rw [← h44], hle, fun m hm => (cell_of_block (hK.out.2 (N + 1) (.inr rfl) hb) _).trans (hc m hm)⟩
          obtain ⟨b, off, hbo, hcx⟩ := hElw.at j hlt4
          cases hbo
          rw [Nat.zero_add] at hcx
          have hxv := wf_at HNUM.out j
          have hul := Hm.uv_len (Hm.zig_lt hxv)
          have K2 := Lib.hid (sint_any (zs4[j]?.getD 0) wr hxv)
          have HUL := Lib.hid hul
          have hsn := HSN.out j hlt4
          have HSJ := Lib.hid hsn
          clear hElw hxv hul hsn
          go_wp2_with fail
          refine K2.out.mono ?_
          rintro e w2 ⟨a2, n2, c2, rfl, hn2, hO2, hB2⟩
          have HO3 := Lib.hid (hO.out.below hB2.out)
          have HB3 := Lib.hid (hB.out.trans (hB2.out.mono hB.out.size))
          have HK3 := Lib.hid (hK.out.trans (KeepF.of_below hB2.out))
          have hs3 := HB3.out.size
          have HFL : Hid (∀ k, TwoB N k → k < w2.heap.size) := Lib.hid fun k hk => by
            have := HSZ.out
            have := HK3.out.1
            rcases hk with h | h <;> omega
          go_wp2_with (at_builtin; refine push_all_f rfl _ _ 58 rfl .u8 5 1 Try.underlying58 HI.out (by decide) w.heap.size (.slice ao no co) _ (.slice a2 n2 c2) _ rfl rfl HO3.out hO2.out.els hs3 (by rw [List.length_append]; have h1 := HYL.out; have h2 := HL44.out j; have h3 := HUL.out; omega) ?_; intro a4 n4 c4 w4 hn4 hO4 hB4 hK4)
          have hk4 := hK4.out (TwoB N) HFL.out hFa.out
          have HOZ : Hid (Own .u8 5 w.heap.size w4 (.slice a4 n4 c4) (Y0 ++ encs (zs4.take (j + 1)))) := Lib.hid (by rw [HSJ.out, ← List.append_assoc]; exact hO4.out)
          have HFZ := Lib.hid hk4.2
          have HKZ := Lib.hid (HK3.out.trans hk4.1)
          have HBZ := Lib.hid (HB3.out.trans hB4.out)
          clear hk4
          go_wp2
          go_roundw
          case rel => exact ⟨j + 1, by omega, by go_num, a4, n4, c4, rfl, HOZ, HFZ, HKZ, HBZ⟩
          case measure => simp [intOf]; omega
        · have hji : ¬ (j : Int) < 4 := by omega
          have hj4 : j = 4 := by omega
          have HO_0 : Hid (Own .u8 5 w.heap.size wr (.slice ao no co) (Y0 ++ encs zs4)) := Lib.hid (by have := hO.out; rw [hj4, HE40.out] at this; exact this)
          have HF_0 := hFa
          have HK_0 := hK
          have HB_0 := hB
          have HYE : Hid ((Y0 ++ encs zs4).length ≤ 6000000) := Lib.hid (by rw [List.length_append]; have h1 := HYL.out; have h2 := HL44.out 4; rw [HE40.out] at h2; omega)
          generalize Y0 ++ encs zs4 = Y1 at *
          obtain ⟨w_0, rfl⟩ : ∃ w_0 : World, w_0 = wr := ⟨_, rfl⟩
          clear hO hFa hK hB hj4 HO0 HFAR HK0 HB0
          obtain ⟨x0, x1, x2, x3, x4, x5, x6, x7, -⟩ := (HX.out.keepF (.inl rfl) HK_0.out).open8
          have K5 := Lib.hid (sbool_any xp w_0)
          go_wp2_with fail
          refine K5.out.mono ?_
          rintro e v_0 ⟨a2, n2, c2, rfl, hn2, hO2, hB2⟩
          have HO3 := Lib.hid (HO_0.out.below hB2.out)
          have HB3 := Lib.hid (HB_0.out.trans (hB2.out.mono HB_0.out.size))
          have HK3 := Lib.hid (HK_0.out.trans (KeepF.of_below hB2.out))
          have hs3 := HB3.out.size
          have HFL : Hid (∀ k, TwoB N k → k < v_0.heap.size) := Lib.hid fun k hk => by
            have := HSZ.out
            have := HK3.out.1
            rcases hk with h | h <;> omega
          clear x0 x1 x2 x3 x4 x5 x6 x7 HO_0 HB_0 HK_0 K5
          go_wp2_with (at_builtin; refine push_all_f rfl _ _ 58 rfl .u8 5 1 Try.underlying58 HI.out (by decide) w.heap.size (.slice ao no co) _ (.slice a2 n2 c2) _ rfl rfl HO3.out hO2.out.els hs3 (by have h1 := HYE.out; simp only [List.length_singleton]; omega) ?_; intro b0 m0 d0 w_1 hn4 hO4 hB4 hK4; obtain ⟨x0, x1, x2, x3, x4, x5, x6, x7, -⟩ := (HX.out.keepF (.inl rfl) (HK3.out.trans (hK4.out (TwoB N) HFL.out HF_0.out).1)).open8)
          have hk4 := hK4.out (TwoB N) HFL.out HF_0.out
          have HO_1 := hO4
          have HF_1 := Lib.hid hk4.2
          have HK_1 := Lib.hid (HK3.out.trans hk4.1)
          have HB_1 := Lib.hid (HB3.out.trans hB4.out)
          clear hk4 hK4 hO4 hB4 hn4 HF_0 HO3 HB3 HK3 HFL hs3 hO2 hB2 hn2
          have K6 := Lib.hid (sbool_any xq w_1)
          go_wp2_with fail
          refine K6.out.mono ?_
          rintro e v_1 ⟨a2, n2, c2, rfl, hn2, hO2, hB2⟩
          have HO3 := Lib.hid (HO_1.out.below hB2.out)
          have HB3 := Lib.hid (HB_1.out.trans (hB2.out.mono HB_1.out.size))
          have HK3 := Lib.hid (HK_1.out.trans (KeepF.of_below hB2.out))
          have hs3 := HB3.out.size
          have HFL : Hid (∀ k, TwoB N k → k < v_1.heap.size) := Lib.hid fun k hk => by
            have := HSZ.out
            have := HK3.out.1
            rcases hk with h | h <;> omega
          clear x0 x1 x2 x3 x4 x5 x6 x7 HO_1 HB_1 HK_1 K6
          go_wp2_with (at_builtin; refine push_all_f rfl _ _ 58 rfl .u8 5 1 Try.underlying58 HI.out (by decide) w.heap.size (.slice b0 m0 d0) _ (.slice a2 n2 c2) _ rfl rfl HO3.out hO2.out.els hs3 (by have h1 := HYE.out; simp only [List.length_append, List.length_singleton]; omega) ?_; intro b1 m1 d1 w_2 hn4 hO4 hB4 hK4; obtain ⟨x0, x1, x2, x3, x4, x5, x6, x7, -⟩ := (HX.out.keepF (.inl rfl) (HK3.out.trans (hK4.out (TwoB N) HFL.out HF_1.out).1)).open8)
          have hk4 := hK4.out (TwoB N) HFL.out HF_1.out
          have HO_2 := hO4
          have HF_2 := Lib.hid hk4.2
          have HK_2 := Lib.hid (HK3.out.trans hk4.1)
          have HB_2 := Lib.hid (HB3.out.trans hB4.out)
          clear hk4 hK4 hO4 hB4 hn4 HF_1 HO3 HB3 HK3 HFL hs3 hO2 hB2 hn2
          have K7 := Lib.hid (sbool_any xr w_2)
          go_wp2_with fail
          refine K7.out.mono ?_
          rintro e v_2 ⟨a2, n2, c2, rfl, hn2, hO2, hB2⟩
          have HO3 := Lib.hid (HO_2.out.below hB2.out)
          have HB3 := Lib.hid (HB_2.out.trans (hB2.out.mono HB_2.out.size))
          have HK3 := Lib.hid (HK_2.out.trans (KeepF.of_below hB2.out))
          have hs3 := HB3.out.size
          have HFL : Hid (∀ k, TwoB N k → k < v_2.heap.size) := Lib.hid fun k hk => by
            have := HSZ.out
            have := HK3.out.1
            rcases hk with h | h <;> omega
          clear x0 x1 x2 x3 x4 x5 x6 x7 HO_2 HB_2 HK_2 K7
          go_wp2_with (at_builtin; refine push_all_f rfl _ _ 58 rfl .u8 5 1 Try.underlying58 HI.out (by decide) w.heap.size (.slice b1 m1 d1) _ (.slice a2 n2 c2) _ rfl rfl HO3.out hO2.out.els hs3 (by have h1 := HYE.out; simp only [List.length_append, List.length_singleton]; omega) ?_; intro b2 m2 d2 w_3 hn4 hO4 hB4 hK4; obtain ⟨x0, x1, x2, x3, x4, x5, x6, x7, -⟩ := (HX.out.keepF (.inl rfl) (HK3.out.trans (hK4.out (TwoB N) HFL.out HF_2.out).1)).open8)
          have hk4 := hK4.out (TwoB N) HFL.out HF_2.out
          have HO_3 := hO4
          have HF_3 := Lib.hid hk4.2
          have HK_3 := Lib.hid (HK3.out.trans hk4.1)
          have HB_3 := Lib.hid (HB3.out.trans hB4.out)
          clear hk4 hK4 hO4 hB4 hn4 HF_2 HO3 HB3 HK3 HFL hs3 hO2 hB2 hn2
          have K8 := Lib.hid (sbool_any xs' w_3)
          go_wp2_with fail
          refine K8.out.mono ?_
          rintro e v_3 ⟨a2, n2, c2, rfl, hn2, hO2, hB2⟩
          have HO3 := Lib.hid (HO_3.out.below hB2.out)
          have HB3 := Lib.hid (HB_3.out.trans (hB2.out.mono HB_3.out.size))
          have HK3 := Lib.hid (HK_3.out.trans (KeepF.of_below hB2.out))
          have hs3 := HB3.out.size
          have HFL : Hid (∀ k, TwoB N k → k < v_3.heap.size) := Lib.hid fun k hk => by
            have := HSZ.out
            have := HK3.out.1
            rcases hk with h | h <;> omega
          clear x0 x1 x2 x3 x4 x5 x6 x7 HO_3 HB_3 HK_3 K8
          go_wp2_with (at_builtin; refine push_all_f rfl _ _ 58 rfl .u8 5 1 Try.underlying58 HI.out (by decide) w.heap.size (.slice b2 m2 d2) _ (.slice a2 n2 c2) _ rfl rfl HO3.out hO2.out.els hs3 (by have h1 := HYE.out; simp only [List.length_append, List.length_singleton]; omega) ?_; intro b3 m3 d3 w_4 hn4 hO4 hB4 hK4)
          have hk4 := hK4.out (TwoB N) HFL.out HF_3.out
          have HO_4 := hO4
          have HF_4 := Lib.hid hk4.2
          have HK_4 := Lib.hid (HK3.out.trans hk4.1)
          have HB_4 := Lib.hid (HB3.out.trans hB4.out)
          clear hk4 hK4 hO4 hB4 hn4 HF_3 HO3 HB3 HK3 HFL hs3 hO2 hB2 hn2
          have HOZ : Hid (Own .u8 5 w.heap.size w_4 (.slice b3 m3 d3) (U ++ ivC.encL (xs.take (k + 1)))) := Lib.hid (by rw [hF2.out]; exact HO_4.out)
          go_wp2
          go_roundw
          case rel => exact ⟨k + 1, by omega, by go_num, b3, m3, d3, rfl, HOZ, HB_4⟩
          case measure => simp [intOf]; omega
    · have hki : ¬ (k : Int) < n := by omega
      have hO5 := hO.out
      rw [HFIN.out k (by omega)] at hO5
      have HO5 := Lib.hid hO5
      clear hO5 hO
      go_wp2
      go_ret
      exact makes_of HO5.out hB.out

end Go.Proofs.Ytimbgjpjgbjnkaa
