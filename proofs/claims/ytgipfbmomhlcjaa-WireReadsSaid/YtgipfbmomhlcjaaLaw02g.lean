/- The walk of the law WireReads. -/
import Derived.Test.YtgipfbmomhlcjaaRef02t
import Derived.Test.YtgipfbmomhlcjaaRef02e
namespace Go.Proofs.Ytgipfbmomhlcjaa
open Go.RowKit Go.Shelf

/-- A reference reader that is made of a slice. -/
theorem tw_new {w : World} {a : Option Addr} {n c : Nat} {L : List Int} {T : TypeId} (h : Els .u8 w (.slice a n c) L) (hb : Hm.Byt L) (hl : L.length ≤ 1000) :
    ∃ d, d ≤ w.heap.size ∧ Tw w.heap.size d (w.alloc (.cells #[.slice a n c, .int .i64 0] T)) L 0 ∧ (d = w.heap.size ∨ ∀ N, LowEls N (.slice a n c) → d < N) := by
  have hnew := World.alloc_heap_new w (.cells #[.slice a n c, .int .i64 0] T)
  rcases h with h | ⟨b, off, cap, hlt, he, hle, hc⟩
  · exact ⟨w.heap.size, Nat.le_refl _, ⟨L, ⟨_, T, hnew, .inl h⟩, fun _ => rfl, hb, hl⟩, .inl rfl⟩
  · by_cases h0 : L = []
    · subst h0
      simp at he
      obtain ⟨rfl, rfl, rfl⟩ := he
      exact ⟨w.heap.size, Nat.le_refl _, ⟨[], ⟨_, T, hnew, .inl ⟨.inr ⟨_, _, rfl⟩, rfl⟩⟩, fun _ => rfl, hb, hl⟩, .inl rfl⟩
    · cases he
      refine ⟨b, Nat.le_of_lt hlt, ⟨L, ⟨_, T, hnew, .inr ⟨by omega, by simp; omega, .inr ⟨off, c, rfl, hle, fun j hj => cell_alloc_l _ (hc j hj)⟩⟩⟩, fun _ => rfl, hb, hl⟩, .inr fun N hN => ?_⟩
      rcases hN with (he | ⟨x, c2, he⟩) | ⟨b2, o2, n2, c2, hb2, he⟩
      · cases he
      · simp only [Value.slice.injEq] at he
        exact absurd (List.eq_nil_of_length_eq_zero he.2.1) h0
      · cases he
        exact hb2

theorem byt_set' {zs : List Int} (h : Hm.Byt zs) (k : Nat) {v : Int} (hv : 0 ≤ v ∧ v < 256) : Hm.Byt (zs.set k v) := byt_set h k v hv

set_option maxRecDepth 100000 in
set_option maxHeartbeats 16000000 in
theorem law_reads (a0 : Option Addr) (len0 cap0 : Nat) (z0 : List Int) (a1 : Option Addr) (len1 cap1 : Nat) (z1 : List Int) (m1 m2 : Int) (a4 : Option Addr) (len4 cap4 : Nat) (z4 : List Int) (w : World)
    (v0 : Came .u8 w a0 len0 cap0 z0) (v1 : Came .i64 w a1 len1 cap1 z1) (v2 : (Lit.int .i64 m1).wf = true) (v3 : (Lit.int .u8 m2).wf = true) (v4 : Came .i64 w a4 len4 cap4 z4) :
    Calls Try.prog 4 #[.slice a0 len0 cap0, .slice a1 len1 cap1, .int .i64 m1, .int .u8 m2, .slice a4 len4 cap4] w fun e w' => e = .returned (.bool true) ∧ Below w.heap.size w w' := by
  have k1 := vals_any a1 len1 cap1 _ w v1.els (fun z hz => v1.wf z (List.mem_of_mem_take hz)) v1.lenle
  have e0 := v0.els
  have c0 := v0.cap
  have kf := fun W (h : Below w.heap.size w W) => few_any 60 _ _ W (by decide) (e0.below h) c0
  have hzb := ((v0.byt).take len0).take 60
  have hzl : ((z0.take len0).take 60).length ≤ 60 := List.length_take_le _ _
  generalize (z0.take len0).take 60 = fs at *
  have V4 := Lib.hid v4.els
  have W4 := Lib.hid v4.wf
  have L4 := v4.lenle
  have V2 := Lib.hid v2
  have HC := Lib.hid (u8_of_wf v3)
  have K1 := Lib.hid k1
  have KF := Lib.hid kf
  have HZB := Lib.hid hzb
  have HZL := Lib.hid hzl
  have HB0 := Lib.hid (Below.refl w.heap.size w)
  clear v0 v1 v2 v3 v4 k1 kf e0 c0 hzb hzl
  go_enter Try.func4, Try.ntmps4
  go_wp2_with fail
  refine K1.out.mono ?_
  rintro e w1 ⟨a, n, c, ts, rfl, hV, hS, hn, hn8, hB1⟩
  have HB1 := Lib.hid hB1.out
  have HVE := Lib.hid hV.out.els
  have HGd : Hid (∀ x ∈ ts.map (·.1), x.Good) := fun x hx => by
    obtain ⟨t, ht, rfl⟩ := List.mem_map.1 hx
    exact (hS.out t ht).1
  have hLs := encVs_small hS.out
  have HLs := Lib.hid (show (encVs (ts.map (·.1))).length ≤ 400 by have := hn.out; omega)
  clear hB1 hLs hV hS hn
  generalize ts.map (·.1) = xs at *
  go_wp2_with fail
  refine (sencode_any a n c xs w1 HVE.out HGd.out (by omega)).mono ?_
  rintro e w2 ⟨a2, n2, c2, rfl, HN2, O2, hB⟩
  have B2 := Lib.hid hB.out
  have HB2 := Lib.hid (HB1.out.trans (hB.out.mono HB1.out.size))
  have HE2 := Lib.hid O2.out.els
  clear hB
  have hn2 : n2 ≤ 400 := by rw [HN2.out]; exact HLs.out
  have hs1 : w.heap.size ≤ w1.heap.size := HB1.out.size
  have HTb := Lib.hid (encVs_byt HGd.out)
  have h3 : n2 = 0 ∨ 0 < n2 := by omega
  rcases h3 with h0 | h0
  obtain ⟨T3, hT3⟩ : ∃ T, T = encVs xs := ⟨_, rfl⟩
  have HO3 := Lib.hid O2.out
  have HT3 := Lib.hid HTb.out
  have HL3 := Lib.hid HLs.out
  have B3 := Lib.hid B2.out
  rw [← hT3] at HO3 HT3 HL3
  obtain ⟨w3, rfl⟩ : ∃ w3, w3 = w2 := ⟨_, rfl⟩
  obtain ⟨a3, rfl⟩ : ∃ a3, a3 = a2 := ⟨_, rfl⟩
  have hn0 : (n2 : Int) ≤ 0 := by omega
  clear HE2 O2 HN2 B2 HTb hT3 h0
  go_wp2_with fail
  rotate_left 1
  obtain ⟨j, hj, hjn⟩ := around_nat m1 n2 h0
  have k3 := fun W => around_any m1 n2 W (by omega) (by omega) V2.out
  rw [hj] at k3
  have K3 := Lib.hid k3
  obtain ⟨g, rfl, hg, hgs, hcy, hfy⟩ := O2.out.open HN2.out h0
  have hck := hcy j hjn
  have hfk := hfy j
  have HO3 := Lib.hid (O2.out.set HN2.out j m2)
  have HL3 := Lib.hid (show ((encVs xs).set j m2).length ≤ 400 by rw [List.length_set]; exact HLs.out)
  have B3 := Lib.hid (B2.out.setCell (p := ⟨g, j, none⟩) hg (.int .u8 m2))
  have HT3 := Lib.hid (byt_set' HTb.out j HC.out)
  have hn0 : 0 < (n2 : Int) := by omega
  clear k3 hj hcy hfy
  go_wp2_with fail
  refine (K3.out _).mono ?_
  rintro e w' ⟨rfl, rfl⟩
  go_wp2_with fail
  clear HE2 O2 HN2 B2 HTb hck hfk hn0 h0 K3
  generalize (encVs xs).set j m2 = T3 at *
  generalize w2.setCell ⟨g, j, none⟩ (.int .u8 m2) = w3 at *
  generalize (some (⟨g, 0, none⟩ : Addr)) = a3 at *
  all_goals
    have hs3 : w1.heap.size ≤ w3.heap.size := B3.out.size
    have HB3 := Lib.hid (HB1.out.trans (B3.out.mono hs1))
    refine (KF.out _ HB3.out).mono ?_
    rintro e w30 ⟨a30, n30, c30, rfl, HN30, O30, B30⟩
    have HB30 := Lib.hid (HB3.out.trans (B30.out.mono HB3.out.size))
    have HT30 := Lib.hid (HO3.out.els.below B30.out)
    have HF30 := Lib.hid O30.out.els
    go_wp2_with fail
    go_loopw [13] (fun v wr => ∃ i : Nat, i ≤ 2 ∧ v = .int .i64 i ∧ Hid (Below (w30.heap.size + 1) (w30.alloc (.cells #[.slice a30 n30 c30, .slice a3 n2 c2] 24)) wr)) (fun v _ => 2 - (intOf v).toNat)
    case atStart => exact ⟨0, Nat.zero_le _, rfl, Below.refl _ _⟩
    case round =>
      obtain ⟨i, hi, rfl, hBi⟩ := hrel
      obtain ⟨wo, rfl⟩ : ∃ wo : World, wo = wr := ⟨_, rfl⟩
      have hsz : (w30.alloc (.cells #[.slice a30 n30 c30, .slice a3 n2 c2] 24)).heap.size = w30.heap.size + 1 := by simp
      have hso : w30.heap.size + 1 ≤ wo.heap.size := by have := hBi.out.size; omega
      have HBo := Lib.hid (HB30.out.trans ((below_new' (hBi.out.mono (Nat.le_succ _))).mono HB30.out.size))
      have hblk : Hid (wo.heap[w30.heap.size]? = some (.cells #[.slice a30 n30 c30, .slice a3 n2 c2] 24 (0, 0))) := (hBi.out.block _ (Nat.lt_succ_self _)).trans (heap_new w30 _)
      have hBo2 : Below w30.heap.size w30 wo := below_new' (hBi.out.mono (Nat.le_succ _))
      have hall : i < 2 → ∃ ax nx cx Lx, wo.cell? ⟨w30.heap.size, i, none⟩ = some (.slice ax nx cx) ∧ Hid (Els .u8 wo (.slice ax nx cx) Lx) ∧ Hid (Hm.Byt Lx) ∧ Hid (Lx.length ≤ 1000) := by
        intro hi2
        rcases (show i = 0 ∨ i = 1 by omega) with rfl | rfl
        · exact ⟨_, _, _, fs, by simp [World.cell?, hblk.out], HF30.out.below hBo2, HZB.out, (by have := HZL.out; show _ ≤ _; omega)⟩
        · exact ⟨_, _, _, T3, by simp [World.cell?, hblk.out], HT30.out.below hBo2, HT3.out, (by have := HL3.out; show _ ≤ _; omega)⟩
      have HALL := Lib.hid hall
      clear hall hBo2
      by_cases hi2 : i < 2
      · obtain ⟨ax, nx, cx, Lx, hcx, hEx, hBx, hLx⟩ := HALL.out hi2
        have hi2' : (i : Int) < 2 := by omega
        have KR := Lib.hid (rread_any _ Lx wo (by have := hLx.out; omega) hEx.out)
        go_wp2_with fail
        refine KR.out.mono ?_
        rintro e w40 ⟨p5, d5, rfl, hp5, hd5, hl5, R5, B40⟩
        have hs40 : wo.heap.size ≤ w40.heap.size := B40.out.size
        have hp5l := R5.out.lt
        obtain ⟨d6, hd6, T6, hd6b⟩ := tw_new (T := 47) (hEx.out.below B40.out) hBx.out hLx.out
        have T6h := Lib.hid T6
        have hd65 : d6 ≠ p5 := by
          rcases hd6b with h | h
          · omega
          · have := h _ hEx.out.lows
            omega
        have hcx40 : w40.cell? ⟨w30.heap.size, i, none⟩ = some (.slice ax nx cx) := (B40.out.cell (p := ⟨w30.heap.size, i, none⟩) (by show w30.heap.size < wo.heap.size; omega)).trans hcx
        have HB40 := Lib.hid (hBi.out.trans (B40.out.mono hso))
        have R5b := Lib.hid (R5.out.below ((Below.refl _ w40).alloc (Nat.le_refl _) (.cells #[.slice ax nx cx, .int .i64 0] 47)))
        have S0 : Hid (Hm.Okay Lx 0 ∧ Hm.Byt Lx ∧ Lx.length ≤ 1000) := ⟨.inl rfl, hBx.out, hLx.out⟩
        clear T6 hd6b
        go_wp2_with fail
        go_loopw [16] (fun v wr => ∃ k : Nat, ∃ l1 : List Int, ∃ e1 : Int, k ≤ len4 ∧ k ≤ 10 ∧ v = .int .i64 k ∧ Hid (Rd p5 d5 wr l1 e1) ∧ Hid (Tw w40.heap.size d6 wr l1 e1) ∧ Hid (Hm.Okay l1 e1 ∧ Hm.Byt l1 ∧ l1.length ≤ 1000) ∧ Hid (Below wo.heap.size (w40.alloc (.cells #[.slice ax nx cx, .int .i64 0] 47)) wr)) (fun v _ => 10 - (intOf v).toNat)
        case atStart => exact ⟨0, Lx, 0, Nat.zero_le _, Nat.zero_le _, rfl, R5b.out, T6h.out, S0.out, Below.refl _ _⟩
        case round =>
          obtain ⟨k, l1, e1, hk4, hk10, rfl, hR, hT, hD, hBl⟩ := hrel
          have hsr : w40.heap.size + 1 ≤ wr.heap.size := by have := hBl.out.size; simp at this; omega
          have hcase : (k < len4 ∧ k < 10) ∨ k = len4 ∨ (k < len4 ∧ k = 10) := by omega
          rcases hcase with ⟨hka, hkb⟩ | hka | ⟨hka, hkb⟩
          · have hkb' : (k : Int) < 10 := by omega
            have HBw : Below w.heap.size w wr := HBo.out.trans (((B40.out.alloc B40.out.size _).trans hBl.out).mono HBo.out.size)
            obtain ⟨b4, off4, rfl, hcx4⟩ := (V4.out.below HBw).at k hka
            have kq := fun W => around_any ((z4.take len4)[k]?.getD 0) 6 W (by decide) (by decide) (i64_wf (wf_at (fun z hz => W4.out z (List.mem_of_mem_take hz)) k))
            obtain ⟨q, hq, hq6⟩ := around_nat ((z4.take len4)[k]?.getD 0) 6 (by decide)
            have hq' : aroundI ((z4.take len4)[k]?.getD 0) 6 = (q : Int) := hq
            rw [hq'] at kq
            have KQ := Lib.hid kq
            have K8 := Lib.hid (read_any p5 d5 q l1 e1 wr hR.out (by omega) (by omega) hD.out.2.1 (by have := hD.out.2.2; omega))
            have hgd := (rdV_good hD.out.2.1 hD.out.2.2 (show q ≤ 5 by omega) e1).1
            have hlf := rdV_left hD.out.2.1 (show q ≤ 5 by omega) e1
            have HD2 := Lib.hid (show Hm.Okay (rdV q l1 e1).2.1 (rdV q l1 e1).2.2 ∧ Hm.Byt (rdV q l1 e1).2.1 ∧ (rdV q l1 e1).2.1.length ≤ 1000 from ⟨rdV_okay (by omega) hD.out.1, hlf.1, Nat.le_trans hlf.2 hD.out.2.2⟩)
            have HGX := Lib.hid hgd
            have KT := Lib.hid (fun W (hT2 : Tw w40.heap.size d6 W l1 e1) (hd2 : d6 < W.heap.size) => tread_any w40.heap.size d6 q l1 e1 W hT2 hd2 (by omega) hD.out.1 hD.out.2.1 hD.out.2.2)
            generalize (z4.take len4)[k]?.getD 0 = zk at *
            generalize (rdV q l1 e1).2.1 = l1' at *
            generalize (rdV q l1 e1).2.2 = e1' at *
            generalize (rdV q l1 e1).1 = x at *
            clear kq hq hq' hgd hlf HBw
            go_wp2_with fail
            refine (KQ.out _).mono ?_
            rintro e w' ⟨rfl, rfl⟩
            go_wp2_with fail
            refine K8.out.mono ?_
            rintro e w50 ⟨bv, lv, rfl, hb5, hl5', hf5, hf5', hR5, hG5⟩
            have hs50 : wr.heap.size ≤ w50.heap.size := hG5.out.size
            have hT5 := Lib.hid (hT.out.other hG5.out (by omega) hd65)
            have hB5 := Lib.hid (hBl.out.trans (grown_to hG5.out hp5 (by omega)))
            go_wp2_with fail
            refine (KT.out _ hT5.out (by omega)).mono ?_
            rintro e w51 ⟨bv2, lv2, rfl, hb6, hl6, hT6, hG6⟩
            have hR6 := Lib.hid (hR5.out.other hG6.out (by omega) (by omega))
            have hB6 := Lib.hid (hB5.out.trans (grown_to hG6.out hs40 (by omega)))
            have hbb := Lib.hid (hb5.out.past (hf5.out.off (by omega)) hG6.out)
            have hbl := Lib.hid (hl5'.out.past (hf5'.out.off (by omega)) hG6.out)
            go_wp2_with fail
            refine (same_any x.kind x.u x.n x.b x.l bv lv bv2 lv2 w51 hbb.out hbl.out hb6.out hl6.out HGX.out.bl HGX.out.ll).mono ?_
            rintro e w52 ⟨rfl, hB52⟩
            have B52 := Lib.hid hB52
            have hR7 := Lib.hid (hR6.out.below B52.out)
            have hT7 := Lib.hid (hT6.out.below B52.out)
            have hs51 : w50.heap.size ≤ w51.heap.size := hG6.out.size
            have hB7 := Lib.hid (hB6.out.trans (B52.out.mono (by omega)))
            have KE1 := Lib.hid (rend_any _ _ _ _ w52 hR7.out (by have := HD2.out.2.2; omega))
            have KE2 := Lib.hid (tend_any _ _ _ _ w52 hT7.out HD2.out.1)
            generalize Hm.rEnd l1' e1' = te at *
            clear hB52
            go_wp2_with fail
            refine KE1.out.mono ?_
            rintro e w' ⟨rfl, rfl⟩
            go_wp2_with fail
            refine KE2.out.mono ?_
            rintro e w' ⟨rfl, rfl⟩
            go_wp2_with fail
            go_roundw
            case rel => exact ⟨k + 1, l1', e1', by omega, by omega, by go_num, hR7.out, hT7.out, HD2.out, hB7.out⟩
            case measure => simp [intOf]; omega
          · have hge4 : len4 ≤ k := by omega
            have HBf := Lib.hid (HB40.out.trans (((Below.refl _ w40).alloc (by omega) _).trans (hBl.out.mono hso)))
            clear hka
            go_wp2_with fail
            go_roundw
            case rel => exact ⟨i + 1, by omega, by go_num, HBf.out⟩
            case measure => simp [intOf]; omega
          · have hge10 : (10 : Int) ≤ k := by omega
            have HBf := Lib.hid (HB40.out.trans (((Below.refl _ w40).alloc (by omega) _).trans (hBl.out.mono hso)))
            clear hkb
            go_wp2_with fail
            go_roundw
            case rel => exact ⟨i + 1, by omega, by go_num, HBf.out⟩
            case measure => simp [intOf]; omega
      · have hi2' : (2 : Int) ≤ i := by omega
        have HB41 := Lib.hid HBo.out
        clear hi2
        go_wp2_with fail
        refine (lives_any _).mono ?_
        rintro e w42 ⟨rfl, hB⟩
        have B42 := Lib.hid hB
        have HB42 := Lib.hid (HB41.out.trans (hB.mono HB41.out.size))
        clear hB
        go_wp2_with fail
        go_ret
        exact ⟨rfl, HB42.out⟩

end Go.Proofs.Ytgipfbmomhlcjaa
