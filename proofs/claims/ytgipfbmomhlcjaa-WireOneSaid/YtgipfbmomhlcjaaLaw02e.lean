/- The walk of the law WireOne. -/
import Derived.Test.YtgipfbmomhlcjaaOne
import Derived.Test.YtgipfbmomhlcjaaLaw02b
namespace Go.Proofs.Ytgipfbmomhlcjaa
open Go.RowKit Go.Shelf

theorem byt_set' {zs : List Int} (h : Hm.Byt zs) (k : Nat) {v : Int} (hv : 0 ≤ v ∧ v < 256) : Hm.Byt (zs.set k v) := byt_set h k v hv

theorem kept_rd {p d B : Nat} {w w' : World} {l : List Int} {e : Int} (h : Rd p d w l e) (hp : p < B) (hd : d < B) (hB : Below B w w') : Rd p d w' l e :=
  h.keep hB.size (hB.block p hp) fun _ => hB.block d hd

theorem Els.below2 {k : IntKind} {N : Nat} {w w' : World} {sv : Value} {zs : List Int} (h : Els k w sv zs) (_hN : N ≤ w.heap.size) (hB : Below N w w') (hl : LowEls N sv) : Els k w' sv zs := h.low hl hB

/-- The state of a loop that collects what a reader returns. -/
structure Coll (p d B : Nat) (T : List Int) (w : World) (v : Value) (ts : List VT) (l : List Int) (e : Int) : Prop where
  own : VOwn B w v ts
  far : FarAll B ts
  back : Back2 T (ts.map (·.1)) l e
  rd : Rd p d w l e

/-- What read and append leave. -/
theorem Coll.step {p d B k : Nat} {T : List Int} {wr w8 w10 : World} {v v' : Value} {ts : List VT} {l : List Int} {e : Int} {bv lv : Value} (h : Coll p d B T wr v ts l e) (hk : k ≤ 5) (hB : B ≤ wr.heap.size) (hp : p < B) (hd : d < B)
    (hbf : Far wr.heap.size bv) (hlf : Far wr.heap.size lv) (hR : Rd p d w8 (rdV k l e).2.1 (rdV k l e).2.2) (hO : VOwn B w10 v' (ts ++ [((rdV k l e).1, bv, lv)])) (hB10 : Below B w8 w10) :
    Coll p d B T w10 v' (ts ++ [((rdV k l e).1, bv, lv)]) (rdV k l e).2.1 (rdV k l e).2.2 where
  own := hO
  far := fun t ht => by
    rcases List.mem_append.1 ht with ht | ht
    · exact h.far t ht
    · simp at ht
      subst ht
      exact ⟨hbf.mono hB, hlf.mono hB⟩
  back := by
    rw [List.map_append]
    exact h.back.step hk
  rd := kept_rd hR hp hd hB10

set_option maxRecDepth 100000 in
set_option maxHeartbeats 16000000 in
theorem law_one (a0 : Option Addr) (len0 cap0 : Nat) (z0 : List Int) (a1 : Option Addr) (len1 cap1 : Nat) (z1 : List Int) (m1 m2 : Int) (a4 : Option Addr) (len4 cap4 : Nat) (z4 : List Int) (w : World)
    (v0 : Came .u8 w a0 len0 cap0 z0) (v1 : Came .i64 w a1 len1 cap1 z1) (v2 : (Lit.int .i64 m1).wf = true) (v3 : (Lit.int .u8 m2).wf = true) (v4 : Came .i64 w a4 len4 cap4 z4) :
    Calls Try.prog 6 #[.slice a0 len0 cap0, .slice a1 len1 cap1, .int .i64 m1, .int .u8 m2, .slice a4 len4 cap4] w fun e w' => e = .returned (.bool true) ∧ Below w.heap.size w w' := by
  have k1 := vals_any a1 len1 cap1 _ w v1.els (fun z hz => v1.wf z (List.mem_of_mem_take hz)) v1.lenle
  have e0 := v0.els
  have c0 := v0.cap
  have kf := fun W (h : Below w.heap.size w W) => few_any 60 _ _ W (by decide) (e0.below h) c0
  have hzb := ((v0.byt).take len0).take 60
  have hzl : ((z0.take len0).take 60).length ≤ 60 := List.length_take_le _ _
  generalize (z0.take len0).take 60 = fs at *
  have V4 := Lib.hid v4.els
  have W4 := Lib.hid v4.wf
  have L4 := v4.lenle
  have V2 := Lib.hid v2
  have HC := Lib.hid (u8_of_wf v3)
  have K1 := Lib.hid k1
  have KF := Lib.hid kf
  have HZB := Lib.hid hzb
  have HZL := Lib.hid hzl
  have HB0 := Lib.hid (Below.refl w.heap.size w)
  clear v0 v1 v2 v3 v4 k1 kf e0 c0 hzb hzl
  go_enter Try.func6, Try.ntmps6
  go_wp2_with fail
  refine K1.out.mono ?_
  rintro e w1 ⟨a, n, c, ts, rfl, hV, hS, hn, hn8, hB1⟩
  have HB1 := Lib.hid hB1.out
  have HVE := Lib.hid hV.out.els
  have HGd : Hid (∀ x ∈ ts.map (·.1), x.Good) := fun x hx => by
    obtain ⟨t, ht, rfl⟩ := List.mem_map.1 hx
    exact (hS.out t ht).1
  have hLs := encVs_small hS.out
  have hxl : Hid (n = (ts.map (·.1)).length) := by show _ = _; rw [List.length_map]; exact hn.out
  have HLs := Lib.hid (show (encVs (ts.map (·.1))).length ≤ 400 by have := hn.out; omega)
  clear hB1 hLs hV hS hn
  generalize ts.map (·.1) = xs at *
  go_wp2_with fail
  refine (encode_any a n c xs w1 HVE.out HGd.out (by omega)).mono ?_
  rintro e w2 ⟨a2, n2, c2, rfl, HN2, O2, hB⟩
  have B2 := Lib.hid hB.out
  have HB2 := Lib.hid (HB1.out.trans (hB.out.mono HB1.out.size))
  have HE2 := Lib.hid O2.out.els
  clear hB
  have hn2 : n2 ≤ 400 := by rw [HN2.out]; exact HLs.out
  have hs1 : w.heap.size ≤ w1.heap.size := HB1.out.size
  have HTb := Lib.hid (encVs_byt HGd.out)
  have h3 : n2 = 0 ∨ 0 < n2 := by omega
  rcases h3 with h0 | h0
  obtain ⟨T3, hT3⟩ : ∃ T, T = encVs xs := ⟨_, rfl⟩
  have HO3 := Lib.hid O2.out
  have HT3 := Lib.hid HTb.out
  have HL3 := Lib.hid HLs.out
  have B3 := Lib.hid B2.out
  rw [← hT3] at HO3 HT3 HL3
  obtain ⟨w3, rfl⟩ : ∃ w3, w3 = w2 := ⟨_, rfl⟩
  subst h0
  clear HE2 O2 HN2 B2 HTb hT3
  go_wp2_with fail
  generalize Value.slice a2 0 c2 = sv3 at *
  rotate_left 1
  obtain ⟨j, hj, hjn⟩ := around_nat m1 n2 h0
  have k3 := fun W => around_any m1 n2 W (by omega) (by omega) V2.out
  rw [hj] at k3
  have K3 := Lib.hid k3
  obtain ⟨g, rfl, hg, hgs, hcy, hfy⟩ := O2.out.open HN2.out h0
  have hck := hcy j hjn
  have hfk := hfy j
  have HO3 := Lib.hid (O2.out.set HN2.out j m2)
  have HL3 := Lib.hid (show ((encVs xs).set j m2).length ≤ 400 by rw [List.length_set]; exact HLs.out)
  have B3 := Lib.hid (B2.out.setCell (p := ⟨g, j, none⟩) hg (.int .u8 m2))
  have HT3 := Lib.hid (byt_set' HTb.out j HC.out)
  have hn0 : 0 < (n2 : Int) := by omega
  clear k3 hj hcy hfy
  go_wp2_with fail
  refine (K3.out _).mono ?_
  rintro e w' ⟨rfl, rfl⟩
  go_wp2_with fail
  clear HE2 O2 HN2 B2 HTb hck hfk hn0 h0 K3
  generalize (encVs xs).set j m2 = T3 at *
  generalize w2.setCell ⟨g, j, none⟩ (.int .u8 m2) = w3 at *
  generalize Value.slice (some (⟨g, 0, none⟩ : Addr)) n2 c2 = sv3 at *
  all_goals
  refine (rread_any sv3 T3 w3 (by have := HL3.out; omega) HO3.out.els).mono ?_
  rintro e w4 ⟨p4, d4, rfl, hp4, hd4, hl4, R4, B4⟩
  have hs3 : w1.heap.size ≤ w3.heap.size := B3.out.size
  have hs4 : w3.heap.size ≤ w4.heap.size := B4.out.size
  have hp4l := R4.out.lt
  have HB4 := Lib.hid (HB1.out.trans ((B3.out.trans (B4.out.mono hs3)).mono hs1))
  have D4 := Lib.hid (B3.out.trans (B4.out.mono hs3))
  have CS : Hid (Coll p4 d4 w4.heap.size T3 w4 (.slice none 0 0) [] T3 0) := ⟨VOwn.nil _ _, (fun _ h => nomatch h), Back2.start HT3.out (by have := HL3.out; omega), R4.out⟩
  go_wp2_with fail
  go_loopw [14, 15] (fun v i wr => ∃ k : Nat, ∃ ao : Option Addr, ∃ no co : Nat, ∃ ts : List VT, ∃ l1 : List Int, ∃ e1 : Int, k ≤ n ∧ i = .int .i64 k ∧ v = .slice ao no co ∧ Hid (ts.length = k) ∧ Hid (Coll p4 d4 w4.heap.size T3 wr (.slice ao no co) ts l1 e1) ∧ Hid (Below w3.heap.size w4 wr)) (fun _ i _ => n - (intOf i).toNat)
  case atStart => exact ⟨0, none, 0, 0, [], T3, 0, Nat.zero_le _, rfl, rfl, rfl, CS.out, Below.refl _ _⟩
  case round =>
    obtain ⟨k, ao, no, co, ts, l1, e1, hk, rfl, rfl, hlt, hC, hBl⟩ := hrel
    have hsr : w4.heap.size ≤ wr.heap.size := hBl.out.size
    by_cases hlk : k < n
    · obtain ⟨x, hx⟩ : ∃ x, xs[k]? = some x := ⟨_, List.getElem?_eq_getElem (by rw [← hxl.out]; exact hlk)⟩
      have hgx := HGd.out x (List.mem_of_getElem? hx)
      obtain ⟨b, off, bv, lv, rfl, h0, h1, h2, h3, h4, _, _, _, _⟩ := HVE.out.at (D4.out.trans (hBl.out.mono hs3)) hx
      have K8 := Lib.hid (read_any p4 d4 x.kind l1 e1 wr hC.out.rd (by omega) hgx.kind hC.out.back.2.1 (by have := hC.out.back.2.2.1; omega))
      have HKD := Lib.hid hgx.kind
      clear hx hgx
      go_wp2_with fail
      (with_reducible refine K8.out.mono ?_)
      rintro e w8 ⟨bv8, lv8, rfl, hb8, hl8, hf8, hf8', hR8, hG8⟩
      obtain ⟨ab, cb, rfl⟩ := hb8.out.shape
      obtain ⟨al, cl, rfl⟩ := hl8.out.shape
      have hs8 : wr.heap.size ≤ w8.heap.size := hG8.out.size
      have hB8 := Lib.hid (hBl.out.trans (grown_to hG8.out hp4 (by omega)))
      have hV8 := Lib.hid (hC.out.own.past hC.out.far hp4l hG8.out)
      have hst := Lib.hid (fun w10 v' hO hB10 => Coll.step (k := x.kind) (v' := v') (w10 := w10) hC.out HKD.out (by omega) hp4l hl4 hf8.out hf8'.out hR8.out hO hB10)
      have hofb := Lib.hid (off_of_far hC.out.own hf8.out (Nat.le_refl _))
      have hofl := Lib.hid (off_of_far hC.out.own hf8'.out (Nat.le_refl _))
      generalize (rdV x.kind l1 e1).2.1 = l1' at *
      generalize (rdV x.kind l1 e1).2.2 = e1' at *
      generalize (rdV x.kind l1 e1).1 = x' at *
      clear h0 h1 h2 h3 h4
      go_wp2_with (at_builtin; refine push_vals rfl _ _ rfl w4.heap.size (.slice ao no co) ts [(x', Value.slice ab x'.b.length cb, Value.slice al x'.l.length cl)] _ _ rfl rfl _ rfl rfl hV8.out (by omega) (by have := hlt.out; simp; omega) (fun t ht => by simp at ht; subst ht; exact ⟨rfl, rfl⟩) (fun t ht => by simp at ht; subst ht; exact ⟨hb8.out, hl8.out, fun g hg => ⟨hofb.out g hg, hofl.out g hg⟩⟩) ?_; intro an nn cn wn hnn hVn hBn)
      go_roundw
      case rel => exact ⟨k + 1, an, nn, cn, ts ++ [(x', Value.slice ab x'.b.length cb, Value.slice al x'.l.length cl)], l1', e1', by omega, by go_num, rfl, (by show _ = _; rw [List.length_append, hlt.out]; rfl), hst.out _ _ hVn.out hBn.out, hB8.out.trans (hBn.out.mono hs4)⟩
      case measure => simp [intOf]; omega
    · have hge : n ≤ k := by omega
      have HBr := Lib.hid (HB4.out.trans (hBl.out.mono (by omega)))
      have hne := Lib.hid hC.out.own.els
      have hel3 := Lib.hid ((HO3.out.els.below B4.out).below2 hs4 hBl.out HO3.out.els.lows)
      clear hlk
      have K20 := Lib.hid (rend_any _ _ _ _ wr hC.out.rd (by have := hC.out.back.2.2.1; omega))
      rcases Classical.em (Hm.rEnd l1 e1 = 0) with hE | hE
      have hfn := Lib.hid (hC.out.back.fin hE)
      rw [hE] at K20
      clear hE
      go_wp2_with fail
      refine K20.out.mono ?_
      rintro e w' ⟨rfl, rfl⟩
      go_wp2_with fail
      refine (encode_any ao no co _ _ hne.out hC.out.back.1 (by have := hne.out.1; rw [List.length_map, hlt.out] at this; omega)).mono ?_
      rintro e w20 ⟨a20, n20, c20, rfl, HN20, O20, B20⟩
      have HB20 := Lib.hid (HBr.out.trans (B20.out.mono HBr.out.size))
      have hef := Lib.hid (hel3.out.below B20.out)
      go_wp2_with fail
      refine (sameBytes_any _ _ _ _ _ O20.out.els hef.out (by rw [hfn.out]; have := HL3.out; omega)).mono ?_
      rintro e w21 ⟨rfl, hB21⟩
      have HBp := Lib.hid (HB20.out.trans (hB21.mono HB20.out.size))
      rw [decide_eq_true hfn.out]
      clear hB21 hef HB20 O20 HN20 B20 hfn K20
      go_wp2_with fail
      obtain ⟨wp, rfl⟩ : ∃ wp, wp = w21 := ⟨_, rfl⟩
      rotate_left 1
      have te2 : (Hm.rEnd l1 e1 == 0) = false := by rw [beq_eq_false_iff_ne]; exact hE
      generalize Hm.rEnd l1 e1 = t1 at *
      have HBp := Lib.hid HBr.out
      clear hE
      go_wp2_with fail
      refine K20.out.mono ?_
      rintro e w' ⟨rfl, rfl⟩
      go_wp2_with fail
      clear te2 K20
      obtain ⟨wp, rfl⟩ : ∃ wp, wp = wr := ⟨_, rfl⟩
      all_goals
        refine (KF.out _ HBp.out).mono ?_
        rintro e w30 ⟨a30, n30, c30, rfl, HN30, O30, B30⟩
        have HB30 := Lib.hid (HBp.out.trans (B30.out.mono HBp.out.size))
        have hs30 : wp.heap.size ≤ w30.heap.size := B30.out.size
        go_wp2_with fail
        refine (rread_any _ _ _ (by have := HZL.out; omega) O30.out.els).mono ?_
        rintro e w31 ⟨p5, d5, rfl, hp5, hd5, hl5, R5, B31⟩
        have HB31 := Lib.hid (HB30.out.trans (B31.out.mono HB30.out.size))
        have hs31 : w30.heap.size ≤ w31.heap.size := B31.out.size
        have hp5l := R5.out.lt
        have CS5 : Hid (Coll p5 d5 w31.heap.size fs w31 (.slice none 0 0) [] fs 0) := ⟨VOwn.nil _ _, (fun _ h => nomatch h), Back2.start HZB.out (by have := HZL.out; omega), R5.out⟩
        go_wp2_with fail
        go_loopw [14, 17] (fun v i wr => ∃ k : Nat, ∃ ao : Option Addr, ∃ no co : Nat, ∃ ts : List VT, ∃ l1 : List Int, ∃ e1 : Int, k ≤ len4 ∧ k ≤ 10 ∧ i = .int .i64 k ∧ v = .slice ao no co ∧ Hid (ts.length = k) ∧ Hid (Coll p5 d5 w31.heap.size fs wr (.slice ao no co) ts l1 e1) ∧ Hid (Below w30.heap.size w31 wr)) (fun _ i _ => 10 - (intOf i).toNat)
        case atStart => exact ⟨0, none, 0, 0, [], fs, 0, Nat.zero_le _, Nat.zero_le _, rfl, rfl, rfl, CS5.out, Below.refl _ _⟩
        case round =>
          obtain ⟨k2, ao2, no2, co2, ts2, l2, e2, hk4, hk10, rfl, rfl, hlt2, hC2, hBl2⟩ := hrel
          have hsr2 : w31.heap.size ≤ wr.heap.size := hBl2.out.size
          have HBr2 := Lib.hid (HB31.out.trans (hBl2.out.mono (by have := HB30.out.size; omega)))
          have hne2 := Lib.hid hC2.out.own.els
          have hel5 := Lib.hid ((O30.out.els.below B31.out).low O30.out.els.lows hBl2.out)
          have hcase : (k2 < len4 ∧ k2 < 10) ∨ k2 = len4 ∨ (k2 < len4 ∧ k2 = 10) := by omega
          rcases hcase with ⟨hka, hkb⟩ | hka | ⟨hka, hkb⟩
          · have hkb' : (k2 : Int) < 10 := by omega
            by_cases hE3 : Hm.rEnd l2 e2 = 0
            · have K43 := Lib.hid (rend_any _ _ _ _ wr hC2.out.rd (by have := hC2.out.back.2.2.1; omega))
              rw [hE3] at K43
              go_wp2_with fail
              refine K43.out.mono ?_
              rintro e w' ⟨rfl, rfl⟩
              by_cases hE2 : Hm.rEnd l2 e2 = 0
              · go_wp2_with fail
                refine (rend_any _ _ _ _ _ hC2.out.rd (by have := hC2.out.back.2.2.1; omega)).mono ?_
                rintro e w' ⟨rfl, rfl⟩
                rw [hE2]
                go_wp2_with fail
                refine (encode_any ao2 no2 co2 _ _ hne2.out hC2.out.back.1 (by have := hne2.out.1; rw [List.length_map, hlt2.out] at this; omega)).mono ?_
                rintro e w40 ⟨a40, n40, c40, rfl, HN40, O40, B40⟩
                have HB40 := Lib.hid (HBr2.out.trans (B40.out.mono HBr2.out.size))
                have hef := Lib.hid (hel5.out.below B40.out)
                go_wp2_with fail
                refine (sameBytes_any _ _ _ _ _ O40.out.els hef.out (by rw [hC2.out.back.fin hE2]; have := HZL.out; omega)).mono ?_
                rintro e w41 ⟨rfl, hB41⟩
                have HB41 := Lib.hid (HB40.out.trans (hB41.mono HB40.out.size))
                rw [decide_eq_true (hC2.out.back.fin hE2)]
                go_wp2_with fail
                refine (lives_any _).mono ?_
                rintro e w42 ⟨rfl, hB⟩
                have B42 := Lib.hid hB
                have HB42 := Lib.hid (HB41.out.trans (hB.mono HB41.out.size))
                clear hB
                go_wp2_with fail
                go_ret
                exact ⟨rfl, HB42.out⟩
              · exact absurd hE3 hE2
            · have te2 : (Hm.rEnd l2 e2 == 0) = false := by rw [beq_eq_false_iff_ne]; exact hE3
              have te3 : (Hm.rEnd l2 e2 != 0) = true := by rw [bne_iff_ne]; exact hE3
              have K43 := Lib.hid (rend_any _ _ _ _ wr hC2.out.rd (by have := hC2.out.back.2.2.1; omega))
              generalize Hm.rEnd l2 e2 = t2 at *
              obtain ⟨b4, off4, rfl, hcx4⟩ := (V4.out.below HBr2.out).at k2 hka
              have kq := fun W => around_any ((z4.take len4)[k2]?.getD 0) 6 W (by decide) (by decide) (i64_wf (wf_at (fun z hz => W4.out z (List.mem_of_mem_take hz)) k2))
              obtain ⟨q, hq, hq6⟩ := around_nat ((z4.take len4)[k2]?.getD 0) 6 (by decide)
              have hq' : aroundI ((z4.take len4)[k2]?.getD 0) 6 = (q : Int) := hq
              rw [hq'] at kq
              have KQ := Lib.hid kq
              have K8 := Lib.hid (read_any p5 d5 q l2 e2 wr hC2.out.rd (by omega) (by omega) hC2.out.back.2.1 (by have := hC2.out.back.2.2.1; omega))
              generalize (z4.take len4)[k2]?.getD 0 = zk at *
              clear hE3 kq hq hq'
              go_wp2_with fail
              refine K43.out.mono ?_
              rintro e w' ⟨rfl, rfl⟩
              go_wp2_with fail
              refine (KQ.out _).mono ?_
              rintro e w' ⟨rfl, rfl⟩
              go_wp2_with fail
              refine K8.out.mono ?_
              rintro e w8 ⟨bv8, lv8, rfl, hb8, hl8, hf8, hf8', hR8, hG8⟩
              obtain ⟨ab, cb, rfl⟩ := hb8.out.shape
              obtain ⟨al, cl, rfl⟩ := hl8.out.shape
              have hs8 : wr.heap.size ≤ w8.heap.size := hG8.out.size
              have hB8 := Lib.hid (hBl2.out.trans (grown_to hG8.out hp5 (by omega)))
              have hV8 := Lib.hid (hC2.out.own.past hC2.out.far hp5l hG8.out)
              have hst := Lib.hid (fun w10 v' hO hB10 => Coll.step (k := q) (v' := v') (w10 := w10) hC2.out (by omega) (by omega) hp5l hl5 hf8.out hf8'.out hR8.out hO hB10)
              have hofb := Lib.hid (off_of_far hC2.out.own hf8.out (Nat.le_refl _))
              have hofl := Lib.hid (off_of_far hC2.out.own hf8'.out (Nat.le_refl _))
              generalize (rdV q l2 e2).2.1 = l1' at *
              generalize (rdV q l2 e2).2.2 = e1' at *
              generalize (rdV q l2 e2).1 = x' at *
              go_wp2_with (at_builtin; refine push_vals rfl _ _ rfl w31.heap.size (.slice ao2 no2 co2) ts2 [(x', Value.slice ab x'.b.length cb, Value.slice al x'.l.length cl)] _ _ rfl rfl _ rfl rfl hV8.out (by omega) (by have := hlt2.out; simp; omega) (fun t ht => by simp at ht; subst ht; exact ⟨rfl, rfl⟩) (fun t ht => by simp at ht; subst ht; exact ⟨hb8.out, hl8.out, fun g hg => ⟨hofb.out g hg, hofl.out g hg⟩⟩) ?_; intro an nn cn wn hnn hVn hBn)
              go_roundw
              case rel => exact ⟨k2 + 1, an, nn, cn, ts2 ++ [(x', Value.slice ab x'.b.length cb, Value.slice al x'.l.length cl)], l1', e1', by omega, by omega, by go_num, rfl, (by show _ = _; rw [List.length_append, hlt2.out]; rfl), hst.out _ _ hVn.out hBn.out, hB8.out.trans (hBn.out.mono hs31)⟩
              case measure => simp [intOf]; omega
          · have hge4 : len4 ≤ k2 := by omega
            clear hka
            by_cases hE2 : Hm.rEnd l2 e2 = 0
            · go_wp2_with fail
              refine (rend_any _ _ _ _ _ hC2.out.rd (by have := hC2.out.back.2.2.1; omega)).mono ?_
              rintro e w' ⟨rfl, rfl⟩
              rw [hE2]
              go_wp2_with fail
              refine (encode_any ao2 no2 co2 _ _ hne2.out hC2.out.back.1 (by have := hne2.out.1; rw [List.length_map, hlt2.out] at this; omega)).mono ?_
              rintro e w40 ⟨a40, n40, c40, rfl, HN40, O40, B40⟩
              have HB40 := Lib.hid (HBr2.out.trans (B40.out.mono HBr2.out.size))
              have hef := Lib.hid (hel5.out.below B40.out)
              go_wp2_with fail
              refine (sameBytes_any _ _ _ _ _ O40.out.els hef.out (by rw [hC2.out.back.fin hE2]; have := HZL.out; omega)).mono ?_
              rintro e w41 ⟨rfl, hB41⟩
              have HB41 := Lib.hid (HB40.out.trans (hB41.mono HB40.out.size))
              rw [decide_eq_true (hC2.out.back.fin hE2)]
              go_wp2_with fail
              refine (lives_any _).mono ?_
              rintro e w42 ⟨rfl, hB⟩
              have B42 := Lib.hid hB
              have HB42 := Lib.hid (HB41.out.trans (hB.mono HB41.out.size))
              clear hB
              go_wp2_with fail
              go_ret
              exact ⟨rfl, HB42.out⟩
            · have te2 : (Hm.rEnd l2 e2 == 0) = false := by rw [beq_eq_false_iff_ne]; exact hE2
              have te3 : (Hm.rEnd l2 e2 != 0) = true := by rw [bne_iff_ne]; exact hE2
              have K44 := Lib.hid (rend_any _ _ _ _ wr hC2.out.rd (by have := hC2.out.back.2.2.1; omega))
              generalize Hm.rEnd l2 e2 = t2 at *
              clear hE2
              go_wp2_with fail
              refine K44.out.mono ?_
              rintro e w' ⟨rfl, rfl⟩
              have HB41 := Lib.hid HBr2.out
              go_wp2_with fail
              refine (lives_any _).mono ?_
              rintro e w42 ⟨rfl, hB⟩
              have B42 := Lib.hid hB
              have HB42 := Lib.hid (HB41.out.trans (hB.mono HB41.out.size))
              clear hB
              go_wp2_with fail
              go_ret
              exact ⟨rfl, HB42.out⟩
          · have hge10 : (10 : Int) ≤ k2 := by omega
            clear hkb
            by_cases hE2 : Hm.rEnd l2 e2 = 0
            · go_wp2_with fail
              refine (rend_any _ _ _ _ _ hC2.out.rd (by have := hC2.out.back.2.2.1; omega)).mono ?_
              rintro e w' ⟨rfl, rfl⟩
              rw [hE2]
              go_wp2_with fail
              refine (encode_any ao2 no2 co2 _ _ hne2.out hC2.out.back.1 (by have := hne2.out.1; rw [List.length_map, hlt2.out] at this; omega)).mono ?_
              rintro e w40 ⟨a40, n40, c40, rfl, HN40, O40, B40⟩
              have HB40 := Lib.hid (HBr2.out.trans (B40.out.mono HBr2.out.size))
              have hef := Lib.hid (hel5.out.below B40.out)
              go_wp2_with fail
              refine (sameBytes_any _ _ _ _ _ O40.out.els hef.out (by rw [hC2.out.back.fin hE2]; have := HZL.out; omega)).mono ?_
              rintro e w41 ⟨rfl, hB41⟩
              have HB41 := Lib.hid (HB40.out.trans (hB41.mono HB40.out.size))
              rw [decide_eq_true (hC2.out.back.fin hE2)]
              go_wp2_with fail
              refine (lives_any _).mono ?_
              rintro e w42 ⟨rfl, hB⟩
              have B42 := Lib.hid hB
              have HB42 := Lib.hid (HB41.out.trans (hB.mono HB41.out.size))
              clear hB
              go_wp2_with fail
              go_ret
              exact ⟨rfl, HB42.out⟩
            · have te2 : (Hm.rEnd l2 e2 == 0) = false := by rw [beq_eq_false_iff_ne]; exact hE2
              have te3 : (Hm.rEnd l2 e2 != 0) = true := by rw [bne_iff_ne]; exact hE2
              have K44 := Lib.hid (rend_any _ _ _ _ wr hC2.out.rd (by have := hC2.out.back.2.2.1; omega))
              generalize Hm.rEnd l2 e2 = t2 at *
              clear hE2
              go_wp2_with fail
              refine K44.out.mono ?_
              rintro e w' ⟨rfl, rfl⟩
              have HB41 := Lib.hid HBr2.out
              go_wp2_with fail
              refine (lives_any _).mono ?_
              rintro e w42 ⟨rfl, hB⟩
              have B42 := Lib.hid hB
              have HB42 := Lib.hid (HB41.out.trans (hB.mono HB41.out.size))
              clear hB
              go_wp2_with fail
              go_ret
              exact ⟨rfl, HB42.out⟩

end Go.Proofs.Ytgipfbmomhlcjaa
