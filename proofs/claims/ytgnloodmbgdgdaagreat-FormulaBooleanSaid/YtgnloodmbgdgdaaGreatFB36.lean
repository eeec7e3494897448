import Derived.Test.YtgnloodmbgdgdaaGreatFB35
import Derived.Test.YtgnloodmbgdgdaaGreatFB21
namespace Go.Proofs.YtgnloodmbgdgdaaGreat
open Go.RowKit Go.Shelf
theorem LieF.since {S : Nat → Prop} {w w' : World} {rs : List Fr} {ks : List Fo} (h : LieF S w rs ks) (hs : Since w w') : LieF S w' rs ks := h.keep ⟨hs.size, fun b _ hl => hs.block b hl⟩ fun _ _ h => h
theorem LieF.pf {S : Nat → Prop} {w w' : World} {v v' : Value} {rs : List Fr} {ks : List Fo} (h : LieF S w rs ks) (hp : PF v w w' v') (hS : ∀ k, S k → v.ownBlock ≠ some k) : LieF S w' rs ks := h.keep ⟨hp.1.1, fun b hb hl => hp.1.2 b (hS b hb) hl⟩ fun _ _ h => h
theorem flatP_take (op : Int) (idle : Fo) {ks : List Fo} {k : Nat} {u : Fo} (h : ks[k]? = some u) : flatP op idle (ks.take (k + 1)) = flatP op idle (ks.take k) ++ (if fcmp u idle = 0 then [] else if u.op = op then u.ks else [u]) := by
 rw [List.take_add_one, h, flatP_app]
 show _ ++ flatP op idle [u] = _
 rw [flatP_cons]
 simp [flatP]
theorem joinP_dec {op : Int} {ks : List Fo} {idle dec : Fo} (h : dec ∈ ks) : joinP op ks idle dec = dec := by
 unfold joinP
 rw [if_pos]
 rw [List.any_eq_true]
 exact ⟨dec, h, decide_eq_true (fcmp_ord.self dec)⟩
theorem joinP_out {op : Int} {ks : List Fo} {idle dec : Fo} (h : ∀ x ∈ ks, x ≠ dec) : joinP op ks idle dec = outP op (ascO fcmp (flatP op idle ks)) idle := by
 unfold joinP
 rw [if_neg]
 rw [List.any_eq_true]
 rintro ⟨x, hx, h0⟩
 exact h x hx (fcmp_ord.eq_iff.1 (of_decide_eq_true h0))
theorem kids_rows {S : Nat → Prop} {W V : World} {u : Fo} {c : Value} {a : Option Addr} {m d : Nat} (h : FS S W u c (.slice a m d)) (hb : Since W V) (hS : ∀ b, S b → b < W.heap.size) : ∃ nrs : List Fr, RFl RFo V (.slice a m d) nrs ∧ LieF S V nrs u.ks := by
 obtain ⟨op, n, is, ks⟩ := u
 obtain ⟨-, h3⟩ := h.parts
 obtain ⟨rs, h1, h2, h4, h5⟩ := FSl.rows h3
 have h6 := h1.keepS h2 (w' := V) ⟨hb.size, fun b hb2 _ => hb.block b (hS b hb2)⟩
 refine ⟨rs, h6.rfl', h4, fun j r t hr ht => ?_⟩
 obtain ⟨r', hr', hF⟩ := h5 j t ht
 rw [hr] at hr'
 cases hr'
 have h7 := hF.since hb hS
 exact ⟨h7.1, h7.2.1, FS.mono (fun k hk => ⟨hk, Nat.lt_of_lt_of_le (hS k hk) hb.size⟩) _ h7.2.2⟩
set_option maxHeartbeats 16000000 in
set_option maxRecDepth 100000 in
theorem joined_any (op : Int) (ks : List Fo) (idle dec : Fo) (S0 : Nat → Prop) (vk : Value) (ri rd : Fr) (W : World) (hS0 : ∀ k, S0 k → k < W.heap.size) (hK : FSl S0 W vk ks) (hi : FSr S0 W idle ri) (hd : FSr S0 W dec rd) (hks : Fo.sizes ks ≤ 1000000) (hok : ∀ k ∈ ks, OkF k) (oi : OkF idle) (od : OkF dec) :
  Calls Tryz.prog 126 #[.int .i64 op, vk, ri.v, rd.v] W (FoOut S0 (joinP op ks idle dec) W) := by
 obtain ⟨a3, c3, rfl⟩ := FSl.shape hK
 have hkl := Fo.sizes_len ks
 have KI := Lib.hid fun (u : Fo) (r : Fr) (V : World) (hu : FSr S0 V u r) (ok : OkF u) (hV : Since W V) => equalF_any hu (hi.since hV hS0) (fun b hb => Nat.lt_of_lt_of_le (hS0 b hb) hV.size) ok oi
 have KD := Lib.hid fun (u : Fo) (r : Fr) (V : World) (hu : FSr S0 V u r) (ok : OkF u) (hV : Since W V) => equalF_any hu (hd.since hV hS0) (fun b hb => Nat.lt_of_lt_of_le (hS0 b hb) hV.size) ok od
 have HI := Lib.hid hi
 have HD := Lib.hid hd
 obtain ⟨io, iq, ia, im, ic, ie, ik, id⟩ := ri
 obtain ⟨jo, jq, ja, jm, jc, je, jk, jd⟩ := rd
 simp only [Fr.v] at KI KD ⊢
 obtain ⟨W3, hW3⟩ : ∃ W3, W3 = ((W.alloc (.cells #[.int .i64 io, .int .i64 iq, .slice ia im ic, .slice ie ik id] 29)).alloc (.cells #[.int .i64 jo, .int .i64 jq, .slice ja jm jc, .slice je jk jd] 29)).alloc (.cells #[.int .i64 0, .int .i64 0, .slice none 0 0, .slice none 0 0] 29) := ⟨_, rfl⟩
 have hz1 : (W.alloc (.cells #[.int .i64 io, .int .i64 iq, .slice ia im ic, .slice ie ik id] 29)).heap.size = W.heap.size + 1 := World.size_alloc _ _
 have hz2 : ((W.alloc (.cells #[.int .i64 io, .int .i64 iq, .slice ia im ic, .slice ie ik id] 29)).alloc (.cells #[.int .i64 jo, .int .i64 jq, .slice ja jm jc, .slice je jk jd] 29)).heap.size = W.heap.size + 1 + 1 := by rw [World.size_alloc, hz1]
 have hz3 : W3.heap.size = W.heap.size + 1 + 1 + 1 := by rw [hW3, World.size_alloc, hz2]
 have hXi : BoxL W.heap.size [.int .i64 io, .int .i64 iq, .slice ia im ic, .slice ie ik id] W3 := by rw [hW3]; exact ((BoxL.made W _ _).under _).under _
 have hXd : BoxL (W.heap.size + 1) [.int .i64 jo, .int .i64 jq, .slice ja jm jc, .slice je jk jd] W3 := by
  have := BoxL.made (W.alloc (.cells #[.int .i64 io, .int .i64 iq, .slice ia im ic, .slice ie ik id] 29)) #[.int .i64 jo, .int .i64 jq, .slice ja jm jc, .slice je jk jd] 29
  rw [hz1] at this
  rw [hW3]
  exact this.under _
 have hR : BoxL (W.heap.size + 1 + 1) [.int .i64 0, .int .i64 0, .slice none 0 0, .slice none 0 0] W3 := by
  have := BoxL.made ((W.alloc (.cells #[.int .i64 io, .int .i64 iq, .slice ia im ic, .slice ie ik id] 29)).alloc (.cells #[.int .i64 jo, .int .i64 jq, .slice ja jm jc, .slice je jk jd] 29)) #[.int .i64 0, .int .i64 0, .slice none 0 0, .slice none 0 0] 29
  rw [hz2] at this
  rw [hW3]
  exact this
 have hS3 : Since W W3 := by rw [hW3]; exact Since.alloc (Since.alloc (Since.alloc (since_r _) _) _) _
 have HXI := Lib.hid hXi
 have HXD := Lib.hid hXd
 have HR := Lib.hid hR
 have HS3 := Lib.hid hS3
 have HZ3 := Lib.hid hz3
 have HSW : Hid (∀ w, Since W3 w → Since W w) := Lib.hid fun w h => Since.step hS3 h
 have HKD := Lib.hid fun (j : Nat) (hj : j < ks.length) => kid_at hK hj
 have HS0 := Lib.hid hS0
 have HOK := Lib.hid hok
 have HKS := Lib.hid hks
 have HOI := Lib.hid oi
 have HL0 : Hid (LieF S0 W3 [] (flatP op idle (ks.take 0))) := Lib.hid (by simpa [flatP] using LieF.nil S0 W3)
 have HO0 : Hid (ROwn RFo 29 W3.heap.size W3 (.slice none 0 0) []) := Lib.hid (ROwn.nil _ _ _ _)
 have HN0 : Hid (∀ x ∈ ks.take 0, x ≠ dec) := Lib.hid fun x hx => by simp at hx
 have HSR : Hid (Since W3 W3) := Lib.hid (since_r _)
 have hn6 : ks.length ≤ 1000000 := by omega
 clear hXi hXd hR hS3 hz1 hz2 hz3 hK hi hd hS0 hok hks oi od hkl
 generalize hnk : ks.length = n at *
 have HNK := Lib.hid hnk
 clear hnk
 go_enter Tryz.func126, Tryz.ntmps126
 go_upto_region 1 with (fail)
 rw [← hW3]
 clear hW3
 go_wp2
 go_loopw [9, 14] (fun l v wr => ∃ (k : Nat) (a : Option Addr) (m c : Nat) (rs : List Fr), k ≤ n ∧ l = .slice a m c ∧ v = .int .i64 k ∧ Hid (ROwn RFo 29 W3.heap.size wr (.slice a m c) rs) ∧ Hid (LieF S0 wr rs (flatP op idle (ks.take k))) ∧ Hid (∀ x ∈ ks.take k, x ≠ dec) ∧ Hid (Since W3 wr)) (fun _ v _ => n - (intOf v).toNat)
 case atStart => exact ⟨0, none, 0, 0, [], by omega, rfl, rfl, HO0, HL0, HN0, HSR⟩
 case round =>
  obtain ⟨k, a, m, c, rs, hk, rfl, rfl, hO, hL, hN, hS⟩ := hrel
  clear HO0 HL0 HN0 HSR
  by_cases hlt : k < n
  ·have j1 : (k : Int) < n := by omega
   obtain ⟨g3, u, ua, um, ud, va, vm, vd, rfl, hSg, hg3, hcap, hu, u0, u1, u2, u3, hFu⟩ := HKD.out k hlt
   have hBw := HSW.out wr hS.out
   have r0 : wr.cell? ⟨g3, k * 4, none⟩ = some (.int .i64 u.op) := Since.cell hBw u0
   have r1 : wr.cell? ⟨g3, k * 4 + 1, none⟩ = some (.int .i64 u.n) := Since.cell hBw u1
   have r2 : wr.cell? ⟨g3, k * 4 + 2, none⟩ = some (.slice ua um ud) := Since.cell hBw u2
   have r3 : wr.cell? ⟨g3, k * 4 + 3, none⟩ = some (.slice va vm vd) := Since.cell hBw u3
   obtain ⟨wx, hwx⟩ : ∃ wx, wx = wr.alloc (.cells #[.int .i64 u.op, .int .i64 u.n, .slice ua um ud, .slice va vm vd] 29) := ⟨_, rfl⟩
   have hSx : Since wr wx := by rw [hwx]; exact Since.alloc (since_r _) _
   have hX5 : BoxL wr.heap.size [.int .i64 u.op, .int .i64 u.n, .slice ua um ud, .slice va vm vd] wx := by rw [hwx]; exact BoxL.made wr _ _
   have HSX := Lib.hid (Since.step hS.out hSx)
   have huk := HOK.out u (List.mem_of_getElem? hu)
   have hF0 : FSr S0 W u ⟨u.op, u.n, ua, um, ud, va, vm, vd⟩ := ⟨rfl, rfl, hFu⟩
   have HF0 := Lib.hid hF0
   have KQD := Lib.hid (KD.out u ⟨u.op, u.n, ua, um, ud, va, vm, vd⟩ wx (hF0.since (HSW.out wx HSX.out) HS0.out) huk (HSW.out wx HSX.out))
   have KQI := Lib.hid fun (V : World) (hV : Since W3 V) => KI.out u ⟨u.op, u.n, ua, um, ud, va, vm, vd⟩ V (hF0.since (HSW.out V hV) HS0.out) huk (HSW.out V hV)
   have HFL := Lib.hid (flatP_take op idle hu)
   have HKR := Lib.hid fun (V : World) (hV : Since W3 V) => kids_rows hFu (HSW.out V hV) HS0.out
   have HU := Lib.hid hu
   have HX5 := Lib.hid hX5
   have HOX := Lib.hid (ROwn.below hO.out hSx)
   have HLX := Lib.hid (hL.out.since hSx)
   have hlen : rs.length + u.size ≤ 1000000 := by
    have h1 := hL.out.1
    have h2 := Fo.sizes_len (flatP op idle (ks.take k))
    have h3 := flatP_sizes op idle (ks.take k)
    have h4 := Fo.sizes_snoc hu
    have h5 := Fo.sizes_take ks (k + 1)
    have h6 := HKS.out
    omega
   have hul : u.ks.length < u.size := by
    have h1 := u.size_eq
    have h2 := Fo.sizes_len u.ks
    omega
   simp only at KQD KQI
   obtain ⟨o0, o1, o2, o3, -⟩ := hX5.open4
   obtain ⟨d0, d1, d2, d3, -⟩ := (HXD.out.keep HSX.out).open4
   clear hu hFu u0 u1 u2 u3 hBw hX5 hF0 huk
   go_upto_region 6 with (fail)
   rw [← hwx]
   clear hwx hSx r0 r1 r2 r3
   go_wp2_with fail
   (with_reducible refine KQD.out.mono ?_)
   rintro e w4 ⟨rfl, hr⟩
   have HS4 := Lib.hid (Since.step HSX.out hr)
   have HX4 := Lib.hid (HX5.out.keep hr)
   have HO4 := Lib.hid (ROwn.below HOX.out hr)
   have HL4 := Lib.hid (HLX.out.since hr)
   clear hr o0 o1 o2 o3 d0 d1 d2 d3 HX5 HOX HLX KQD
   obtain ⟨o0, o1, o2, o3, -⟩ := HX4.out.open4
   obtain ⟨d0, d1, d2, d3, -⟩ := (HXD.out.keep HS4.out).open4
   by_cases hdec : u = dec
   ·have hmem : dec ∈ ks := by rw [← hdec]; exact List.mem_of_getElem? HU.out
    have hJ := joinP_dec (op := op) (idle := idle) hmem
    rw [decide_eq_true hdec]
    have hSW4 := HSW.out w4 HS4.out
    obtain ⟨z0, z1, z2, z3, zf0, zf1, zf2, zf3, -⟩ := (HR.out.keep HS4.out).all4
    have hD4 := HD.out.since hSW4 HS0.out
    have hfin := put4_end (S0 := S0) (f := dec) (N := W.heap.size + 1 + 1) hSW4 (by omega) ⟨jo, jq, ja, jm, jc, je, jk, jd⟩ ⟨hD4.1, hD4.2.1, FS.mono (fun b hb => ⟨.inl ⟨hb, HS0.out b hb⟩, Nat.lt_of_lt_of_le (HS0.out b hb) hSW4.size⟩) _ hD4.2.2⟩ _ _ rfl rfl
    rw [← hJ] at hfin
    have HFI := Lib.hid hfin
    unfold put4 at HFI
    clear hfin hD4 hSW4 hJ hmem hdec KQI HFL HKR hlen hul
    go_wp2
    exact bodyPost_ret (v := .agg #[.int .i64 jo, .int .i64 jq, .slice ja jm jc, .slice je jk jd]) (by simp [results, Tryz.results126, go_sem, z0, z1, z2, z3]) rfl HFI.out
   ·rw [decide_eq_false hdec]
    have HN4 : Hid (∀ x ∈ ks.take (k + 1), x ≠ dec) := Lib.hid fun x hx => by
     rw [List.take_add_one, HU.out] at hx
     rcases List.mem_append.1 hx with hx | hx
     ·exact hN.out x hx
     ·simp at hx; rw [hx]; exact hdec
    have KQ4 := Lib.hid (KQI.out w4 HS4.out)
    obtain ⟨i0, i1, i2, i3, -⟩ := (HXI.out.keep HS4.out).open4
    clear hdec KQI d0 d1 d2 d3
    go_wp2_with fail
    (with_reducible refine KQ4.out.mono ?_)
    rintro e w5 ⟨rfl, hr⟩
    have HS5 := Lib.hid (Since.step HS4.out hr)
    have HX5 := Lib.hid (HX4.out.keep hr)
    have HO5 := Lib.hid (ROwn.below HO4.out hr)
    have HL5 := Lib.hid (HL4.out.since hr)
    clear hr o0 o1 o2 o3 i0 i1 i2 i3 HX4 HO4 HL4 KQ4
    obtain ⟨o0, o1, o2, o3, -⟩ := HX5.out.open4
    by_cases hidl : u = idle
    ·have hf : flatP op idle (ks.take (k + 1)) = flatP op idle (ks.take k) := by rw [HFL.out, if_pos (fcmp_ord.eq_iff.2 hidl), List.append_nil]
     have HL6 : Hid (LieF S0 w5 rs (flatP op idle (ks.take (k + 1)))) := Lib.hid (by rw [hf]; exact HL5.out)
     rw [decide_eq_true hidl]
     clear hidl hf HFL HKR HL5 hlen hul
     go_wp2
     go_roundw
     case rel => exact ⟨k + 1, a, m, c, rs, by omega, rfl, by go_num, HO5, HL6, HN4, HS5⟩
     case measure => simp [intOf] <;> omega
    ·rw [decide_eq_false hidl]
     have hzB : W3.heap.size ≤ w5.heap.size := HS5.out.size
     have hfc : fcmp u idle ≠ 0 := fun e => hidl (fcmp_ord.eq_iff.1 e)
     have HSO : Hid (∀ b, S0 b → (.slice a m c : Value).ownBlock ≠ some b) := Lib.hid fun b hb e => by
      have h1 := (HO5.out.lt b e).1
      have h2 := HS0.out b hb
      have h3 := HZ3.out
      omega
     by_cases hop : u.op = op
     ·have hf : flatP op idle (ks.take (k + 1)) = flatP op idle (ks.take k) ++ u.ks := by rw [HFL.out, if_neg hfc, if_pos hop]
      obtain ⟨nrs, hRF, hNL⟩ := HKR.out w5 HS5.out
      have hl2 : rs.length + nrs.length ≤ 1000000000 := by have := hNL.1; omega
      have HRF := Lib.hid hRF
      have HNL := Lib.hid (show LieF S0 w5 (rs ++ nrs) (flatP op idle (ks.take (k + 1))) by rw [hf]; exact HL5.out.app hNL)
      have hopb : (u.op == op) = true := by simpa using hop
      clear hidl hf HFL HKR HL5 hfc hlen hul hRF hNL
      go_wp2_with (at_builtin; refine push_rows_f rfl _ _ 23 rfl RFo 29 64 _ Tryz.underlying23 Tryz.infoFo rfl (by decide) W3.heap.size (.slice a m c) rs nrs _ rfl rfl HO5.out HRF.out hzB hl2 ?_; intro a6 m6 c6 w6 hn6 hO6 hB6 hP6)
      have HL6 := Lib.hid (HNL.out.pf hP6.out HSO.out)
      have HS6 : Hid (Since W3 w6) := Lib.hid (Below.trans HS5.out hB6.out)
      go_roundw
      case rel => exact ⟨k + 1, a6, m6, c6, rs ++ nrs, by omega, rfl, by go_num, hO6, HL6, HN4, HS6⟩
      case measure => simp [intOf] <;> omega
     ·have hf : flatP op idle (ks.take (k + 1)) = flatP op idle (ks.take k) ++ [u] := by rw [HFL.out, if_neg hfc, if_neg hop]
      have hl2 : rs.length + 1 ≤ 1000000000 := by omega
      have hT5 := HF0.out.since (HSW.out w5 HS5.out) HS0.out
      have HNL := Lib.hid (show LieF S0 w5 (rs ++ [⟨u.op, u.n, ua, um, ud, va, vm, vd⟩]) (flatP op idle (ks.take (k + 1))) by
       rw [hf]
       exact HL5.out.snoc ⟨hT5.1, hT5.2.1, FS.mono (fun b hb => ⟨hb, Nat.lt_of_lt_of_le (HS0.out b hb) (HSW.out w5 HS5.out).size⟩) _ hT5.2.2⟩)
      have hopb : (u.op == op) = false := by simpa using hop
      clear hidl hf HFL HKR HL5 hfc hlen hul hT5
      go_wp2_with (at_builtin; refine push_row_f rfl _ _ 23 rfl RFo 29 64 _ Tryz.underlying23 Tryz.infoFo rfl (by decide) W3.heap.size (.slice a m c) rs [⟨u.op, u.n, ua, um, ud, va, vm, vd⟩] _ _ rfl rfl _ 1 rfl rfl rfl HO5.out hzB hl2 ?_; intro a6 m6 c6 w6 hn6 hO6 hB6 hP6)
      have HL6 := Lib.hid (HNL.out.pf hP6.out HSO.out)
      have HS6 : Hid (Since W3 w6) := Lib.hid (Below.trans HS5.out hB6.out)
      go_roundw
      case rel => exact ⟨k + 1, a6, m6, c6, rs ++ [⟨u.op, u.n, ua, um, ud, va, vm, vd⟩], by omega, rfl, by go_num, hO6, HL6, HN4, HS6⟩
      case measure => simp [intOf] <;> omega
  ·have j1 : ¬ (k : Int) < n := by omega
   have hk1 : ks.take k = ks := List.take_of_length_le (by rw [HNK.out]; omega)
   rw [hk1] at hL hN
   have HJ := Lib.hid (joinP_out (op := op) (idle := idle) hN.out)
   have HSO : Hid (∀ b, S0 b → (.slice a m c : Value).ownBlock ≠ some b) := Lib.hid fun b hb e => by
    have h1 := (hO.out.lt b e).1
    have h2 := HS0.out b hb
    have h3 := HZ3.out
    omega
   have hfl : ∀ p ∈ flatP op idle ks, OkF p := fun p hp => by
    rcases flatP_mem hp with ⟨h, -, -⟩ | ⟨v, hv, -, -, h⟩
    ·exact HOK.out p h
    ·have h1 := HOK.out v hv
     have h2 := v.size_eq
     have h3 := Fo.sizes_mem h
     exact ⟨by have := h1.1; omega, ((Fo.wf_eq v).1 h1.2).2 p h⟩
   have hln : (flatP op idle ks).length ≤ 1000000 := by
    have h2 := Fo.sizes_len (flatP op idle ks)
    have h3 := flatP_sizes op idle ks
    have h6 := HKS.out
    omega
   have KS := Lib.hid (sortF_any W3.heap.size (.slice a m c) S0 rs _ wr hO.out hL.out HSO.out hfl (by omega))
   have HFL := Lib.hid hfl
   clear hk1 hN hL hO hfl HKD
   go_wp2_with fail
   refine KS.out.mono ?_
   rintro e w6 ⟨rs6, ps6, ⟨rfl, hO6, hP6, hB6⟩, hL6, hPm, hPw⟩
   have hps : ∀ p ∈ ps6, OkF p := fun p hp => HFL.out p (hPm.mem_iff.1 hp)
   have KC := Lib.hid (compF_any S0 W3.heap.size (.slice a m c) rs6 ps6 w6 hO6 (hL6.pf hP6 HSO.out) HSO.out hps (by rw [hPm.length_eq]; exact hln))
   have HAS := Lib.hid (sorted_asc hPm hPw)
   have HS6 : Hid (Since W3 w6) := Lib.hid (Below.trans hS.out hB6)
   clear hO6 hP6 hB6 hL6 hPm hPw hps KS HFL hln hS
   have HJL : Hid (joinP op ks idle dec = outP op (Lib.compact ps6) idle) := Lib.hid (by rw [HAS.out]; exact HJ.out)
   clear HJ
   generalize Lib.compact ps6 = L at *
   go_wp2_with fail
   refine KC.out.mono ?_
   rintro e w7 ⟨a7, n7, c7, rs7, rfl, hO7, hL7, hP7, hB7⟩
   have HL7 := Lib.hid (hL7.out.pf hP7.out HSO.out)
   have HS7 : Hid (Since W3 w7) := Lib.hid (Below.trans HS6.out hB7.out)
   have HN7 : Hid (n7 = L.length) := Lib.hid (by rw [← HL7.out.1]; exact hO7.out.els.len)
   have hSW7 := HSW.out w7 HS7.out
   obtain ⟨z0, z1, z2, z3, zf0, zf1, zf2, zf3, -⟩ := (HR.out.keep HS7.out).all4
   have HW7 := Lib.hid hSW7
   clear hL7 hP7 hB7 HS6 KC HAS hSW7
   have HJ := HJL
   clear HJL
   by_cases h0 : n7 = 0
   ·subst h0
    have hL0 : L = [] := List.eq_nil_of_length_eq_zero HN7.out.symm
    have hI7 := HI.out.since HW7.out HS0.out
    have hfin := put4_end (S0 := S0) (f := idle) (N := W.heap.size + 1 + 1) HW7.out (by omega) ⟨io, iq, ia, im, ic, ie, ik, id⟩ ⟨hI7.1, hI7.2.1, FS.mono (fun b hb => ⟨.inl ⟨hb, HS0.out b hb⟩, Nat.lt_of_lt_of_le (HS0.out b hb) HW7.out.size⟩) _ hI7.2.2⟩ _ _ rfl rfl
    rw [← show joinP op ks idle dec = idle by rw [HJ.out, hL0]; rfl] at hfin
    have HFI := Lib.hid hfin
    unfold put4 at HFI
    obtain ⟨i0, i1, i2, i3, -⟩ := (HXI.out.keep HS7.out).open4
    clear hfin hI7 hL0 hO7 HL7 HN7
    go_wp2
    exact bodyPost_ret (v := .agg #[.int .i64 io, .int .i64 iq, .slice ia im ic, .slice ie ik id]) (by simp [results, Tryz.results126, go_sem, z0, z1, z2, z3]) rfl HFI.out
   ·have b0 : ((n7 : Int) == 0) = false := by rw [beq_eq_false_iff_ne]; omega
    by_cases h1 : n7 = 1
    ·subst h1
     obtain ⟨x, hx⟩ : ∃ x, L = [x] := List.length_eq_one_iff.1 HN7.out.symm
     subst hx
     have hrl := HL7.out.1
     obtain ⟨r, hr⟩ : ∃ r, rs7 = [r] := List.length_eq_one_iff.1 (by rw [hrl]; rfl)
     subst hr
     have hT := HL7.out.2 0 r x rfl rfl
     obtain ⟨b, e, hb, hcap, hat⟩ := hO7.out.els.get (j := 0) (by omega)
     subst e
     have q := fun i v hv => hat 0 r rfl i v hv
     obtain ⟨xo, xn, xa, xm, xc, xe, xf, xd⟩ := r
     have q0 := q 0 _ rfl
     have q1 := q 1 _ rfl
     have q2 := q 2 _ rfl
     have q3 := q 3 _ rfl
     simp only [Nat.zero_mul, Nat.zero_add] at q0 q1 q2 q3
     have hfin := put4_end (S0 := S0) (f := x) (N := W.heap.size + 1 + 1) HW7.out (by omega) ⟨xo, xn, xa, xm, xc, xe, xf, xd⟩ ⟨hT.1, hT.2.1, FS.mono (fun b hb => ⟨.inl ⟨hb.1, HS0.out b hb.1⟩, hb.2⟩) _ hT.2.2⟩ _ _ rfl rfl
     rw [← show joinP op ks idle dec = x from HJ.out] at hfin
     have HFI := Lib.hid hfin
     unfold put4 at HFI
     clear hfin hT hat q hO7 HL7 HN7 hrl hb
     go_wp2
     exact bodyPost_ret (v := .agg #[.int .i64 xo, .int .i64 xn, .slice xa xm xc, .slice xe xf xd]) (by simp [results, Tryz.results126, go_sem, z0, z1, z2, z3]) rfl HFI.out
    ·have b1 : ((n7 : Int) == 1) = false := by rw [beq_eq_false_iff_ne]; omega
     have hout : outP op L idle = .mk op 0 [] L := by
      unfold outP
      match L, HN7.out with
      | [], h => exact absurd h h0
      | [x], h => exact absurd h h1
      | x :: y :: l, _ => rfl
     have hnb : ∀ b, (.slice a7 n7 c7 : Value).ownBlock = some b → W3.heap.size ≤ b ∧ b < w7.heap.size := fun b e => hO7.out.lt b e
     have hfin := put4_end (S0 := S0) (f := .mk op 0 [] L) (N := W.heap.size + 1 + 1) HW7.out (by omega) ⟨op, 0, none, 0, 0, a7, n7, c7⟩ ⟨rfl, rfl, FS.of (.inl ⟨.inl rfl, rfl⟩) (.inl (.inl rfl)) (FSl.of hO7.out.els (hO7.out.ins.mono fun b hb => ⟨.inr (by have := HZ3.out; omega), hb.2⟩) HL7.out.1 fun j r t hr ht => by
      have hT := HL7.out.2 j r t hr ht
      exact ⟨hT.1, hT.2.1, FS.mono (fun b hb => ⟨.inl ⟨hb.1, HS0.out b hb.1⟩, hb.2⟩) _ hT.2.2⟩)⟩ _ _ rfl rfl
     rw [← hout, ← HJ.out] at hfin
     have HFI := Lib.hid hfin
     unfold put4 at HFI
     clear hfin hout hnb hO7 HL7 HN7
     go_wp2
     exact bodyPost_ret (v := .agg #[.int .i64 op, .int .i64 0, .slice none 0 0, .slice a7 n7 c7]) (by simp [results, Tryz.results126, go_sem, z0, z1, z2, z3]) rfl HFI.out
end Go.Proofs.YtgnloodmbgdgdaaGreat
