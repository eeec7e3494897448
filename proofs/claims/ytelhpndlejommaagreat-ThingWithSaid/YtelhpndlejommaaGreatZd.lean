/- Encode of package thing. -/
import Derived.Test.YtelhpndlejommaaGreatWf
import Derived.Test.YtelhpndlejommaaGreatZa
import Derived.Test.YtelhpndlejommaaGreatYf
namespace Go.Proofs.YtelhpndlejommaaGreat
open Go.RowKit Go.Shelf

set_option maxHeartbeats 1000000 in
set_option maxRecDepth 100000 in
theorem numbers_any (t n d : Int) (w : World) :
    Calls Tryz.prog 68 #[.agg #[.int .i64 t, .int .i64 n, .int .i64 d]] w fun e w' => e = .returned (.agg #[.int .i64 t, .int .i64 n, .int .i64 d]) ∧ Below w.heap.size w w' := by
  go_enter Tryz.func68, Tryz.ntmps68
  go_wp2
  exact bodyPost_ret (v := .agg #[.int .i64 t, .int .i64 n, .int .i64 d]) (by simp [results, Tryz.results68, go_sem]) rfl ⟨rfl, ((Below.refl _ _).alloc (Nat.le_refl _) _).alloc (by simp) _⟩

/-- What write does of things of up to m nodes. -/
def WriteK (m : Nat) : Prop := ∀ (u : Th), u.size ≤ m → u.wf → u.wt ≤ 100000000 → ∀ (F : Nat → Prop) (p B : Nat) (zs : List Int) (x y z : Value) (W : World), (∀ k, F k → k < W.heap.size) → zs.length + 10 * u.wt ≤ 2000000000 → WrF F p B W zs → TAt p W u x y z →
  Calls Tryz.prog 54 #[.pointer (some ⟨p, 0, none⟩), .agg #[x, y, z]] W (WOut F p B (zs ++ u.enc) W)

theorem encs_take {vs : List Va} (h : ∀ v ∈ vs, v.wf) (k : Nat) : (encs (numsL (vs.take k))).length ≤ 30 * vs.length := by
  have h1 := encs_len (numsL (vs.take k)) (numsL_wf fun v hv => h v (List.mem_of_mem_take hv))
  rw [numsL_len] at h1
  have : (vs.take k).length ≤ vs.length := by rw [List.length_take]; omega
  omega

theorem encL_take {ps : List Th} (h : ∀ u ∈ ps, u.wf) (hw : Th.wts ps ≤ 100000000) (k : Nat) : (Th.encL (ps.take k)).length ≤ 10 * Th.wts (ps.take k) :=
  Th.encL_len _ (Th.wfs_all.2 fun u hu => h u (List.mem_of_mem_take hu)) (Nat.le_trans (Th.wts_take ps k) hw)

set_option maxHeartbeats 8000000 in
set_option maxRecDepth 100000 in
theorem write_step (m : Nat) (KW : Hid (WriteK m)) : WriteK (m + 1) := by
  intro u hu hwf hwt F p B zs x y z W hF hz hW hT
  obtain ⟨a1, c1, a2, c2, a3, c3, rfl, rfl, rfl, hE1, hE2, hP, hL1, hL2⟩ := hT.shape
  obtain ⟨⟨⟨hx1, hx2⟩, hx3, hx4⟩, hx5⟩ := (Th.wf_eq u).1 hwf
  have henc := u.enc_eq
  have hwt2 := u.wt_eq
  have hse := u.size_eq
  have hn1 := hE1.len
  generalize u.enc = EN at *
  generalize u.size = us at *
  generalize u.wt = uw at *
  generalize u.cs = cs at *
  generalize u.vs = vs at *
  generalize u.ps = ps at *
  have hpl := Th.wts_len ps
  have hE0 := encs_len cs (nums_of hx1)
  have hU1 := Hm.uv_len (n := cs.length) (by omega)
  have hU2 := Hm.uv_len (Hm.zig_lt (n := (vs.length : Int)) (by omega))
  have hU3 := Hm.uv_len (Hm.zig_lt (n := (ps.length : Int)) (by omega))
  have hV := encs_take hx3
  have hPL := encL_take hx5 (by omega)
  have hsm : Th.sizes ps ≤ m := by omega
  obtain ⟨W0, hW0⟩ : ∃ W0, W0 = W.alloc (.cells #[.slice a1 cs.length c1, .slice a2 vs.length c2, .slice a3 ps.length c3] 27) := ⟨_, rfl⟩
  have hWB := hW.wr.lt
  obtain ⟨G, hGd⟩ : ∃ G : Nat → Prop, ∀ k, G k ↔ (F k ∨ k = W.heap.size) := ⟨fun k => F k ∨ k = W.heap.size, fun _ => Iff.rfl⟩
  have hB0 : Below p W W0 := by rw [hW0]; exact (Below.refl _ _).alloc (by omega) _
  have hW1 : WrF G p B W0 zs := by rw [hW0]; exact (hW.under _).mono fun k h => (hGd k).1 h
  have hX : BoxL W.heap.size [.slice a1 cs.length c1, .slice a2 vs.length c2, .slice a3 ps.length c3] W0 := by rw [hW0]; exact BoxL.made W _ _
  have hF1 : ∀ k, G k → k < W0.heap.size := fun k hk => by
    rw [hW0, World.size_alloc]
    rcases (hGd k).1 hk with h | h
    · have := hF k h; omega
    · omega
  have hK0 : KeepF F W W0 := by rw [hW0]; exact KeepF.of_below ((Below.refl _ _).alloc (Nat.le_refl _) _)
  have hsz0 : W.heap.size < W0.heap.size := by rw [hW0, World.size_alloc]; omega
  -- the calls
  have k1 := wints_f G p B a1 cs.length c1 cs zs W0 hF1 (by omega) hx2 (nums_of hx1) (hE1.low hL1 hB0) hW1 hL1
  have k2 := fun (W1 : World) (h : KeepF G W0 W1) (hw : WrF G p B W1 (zs ++ (Hm.uv cs.length ++ encs cs))) => wint_f G p B (vs.length : Int) _ W1 (fun k hk => Nat.lt_of_lt_of_le (hF1 k hk) h.1) (by omega) (by simp only [List.length_append]; omega) hw
  have k3 := fun (n : Int) (hn : I64 n) (ys : List Int) (W1 : World) (h : KeepF G W0 W1) (hy : ys.length ≤ 3000000000) (hw : WrF G p B W1 ys) => wint_f G p B n ys W1 (fun k hk => Nat.lt_of_lt_of_le (hF1 k hk) h.1) hn (by omega) hw
  have k5 := fun (u : Th) (hu : u ∈ ps) (ys : List Int) (x y z : Value) (W1 : World) (h : KeepF G W0 W1) (hy : ys.length + 10 * u.wt ≤ 2000000000) (hw : WrF G p B W1 ys) (hT : TAt p W1 u x y z) => KW.out u (sizes_le hsm hu) (hx5 u hu) (by have := Th.wts_mem hu; omega) G p B ys x y z W1 (fun k hk => Nat.lt_of_lt_of_le (hF1 k hk) h.1) hy hw hT
  have hFN : G W.heap.size := (hGd _).2 (.inr rfl)
  have hGF : ∀ k, F k → G k := fun k hk => (hGd k).2 (.inl hk)
  have hps6 : ps.length ≤ 1000000000 := by omega
  -- lists
  have hl1 : (zs ++ (Hm.uv cs.length ++ encs cs) ++ Hm.uv (Hm.zig (vs.length : Int))).length ≤ zs.length + 20 + 10 * cs.length := by simp only [List.length_append]; omega
  have hsum : zs.length + 30 + 10 * cs.length + 30 * vs.length + 10 * Th.wts ps ≤ 2000000000 := by omega
  have hfin : zs ++ (Hm.uv cs.length ++ encs cs) ++ Hm.uv (Hm.zig (vs.length : Int)) ++ encs (numsL vs) ++ Hm.uv (Hm.zig (ps.length : Int)) ++ Th.encL ps = zs ++ EN := by rw [henc]; simp only [List.append_assoc]
  generalize hZ1 : zs ++ (Hm.uv cs.length ++ encs cs) = Z1 at *
  generalize hZ2 : Z1 ++ Hm.uv (Hm.zig (vs.length : Int)) = Z2 at *
  have hl2 : ∀ k, (Z2 ++ encs (numsL (vs.take k))).length ≤ zs.length + 20 + 10 * cs.length + 30 * vs.length := fun k => by rw [List.length_append]; have := hV k; omega
  have hl4 : (Z2 ++ encs (numsL vs) ++ Hm.uv (Hm.zig (ps.length : Int))).length ≤ zs.length + 30 + 10 * cs.length + 30 * vs.length := by have := hl2 vs.length; rw [List.take_length] at this; rw [List.length_append]; omega
  generalize hZ4 : Z2 ++ encs (numsL vs) ++ Hm.uv (Hm.zig (ps.length : Int)) = Z4 at *
  have hl5 : ∀ k u, ps[k]? = some u → (Z4 ++ Th.encL (ps.take k)).length + 10 * u.wt ≤ 2000000000 := fun k u hu => by
    have h1 := hPL k
    have h2 := Th.wts_snoc hu
    have h3 := Th.wts_take ps (k + 1)
    rw [List.length_append]
    omega
  have HZ4 := Lib.hid hZ4
  have HFIN := Lib.hid hfin
  have HL2 := Lib.hid hl2
  have HL5 := Lib.hid hl5
  have HX := Lib.hid hX
  have HGN := Lib.hid hFN
  have HGF := Lib.hid hGF
  have HB0 := Lib.hid hB0
  have HK0 := Lib.hid hK0
  have K1 := Lib.hid k1
  have K2 := Lib.hid k2
  have K3 := Lib.hid k3
  have K5 := Lib.hid k5
  have HV3 := Lib.hid hx3
  have HE2 := Lib.hid hE2
  have HLE2 := Lib.hid hL2
  have HPP := Lib.hid hP
  have HPI : Hid (I64 (ps.length : Int)) := Lib.hid ⟨by omega, by omega⟩
  have HLQ : Hid (∀ k, (Z2 ++ encs (numsL (vs.take k))).length ≤ 2999999900) := Lib.hid fun k => by have := hl2 k; omega
  have HSUM := Lib.hid hsum
  generalize hnv : vs.length = nv at *
  generalize hnp : ps.length = np at *
  generalize cs.length = nc at *
  have HNV := Lib.hid hnv
  have HNP := Lib.hid hnp
  clear hT hwf hwt hz hF hu hE1 hE2 hP hL1 hL2 hx1 hx3 hx5 henc hwt2 hse hn1 hpl hE0 hU1 hU2 hU3 hV hPL hsm hW hW1 hX hF1 hK0 hFN hGF k1 k2 k3 k5 hl1 hsum hfin hZ1 hZ2 hl2 hl4 hZ4 hl5 hB0 hGd KW hnv hnp hWB hx2
  go_enter Tryz.func54, Tryz.ntmps54
  go_upto_region 1 with (fail)
  rw [← hW0]
  generalize W.heap.size = N at *
  clear hW0
  obtain ⟨q0, q1, q2, -⟩ := HX.out.open3
  go_wp2_with fail
  refine (K1.out).mono ?_
  rintro e W1 ⟨rfl, hW1, hB1, hK1⟩
  have k22 := Lib.hid (K2.out W1 hK1.out hW1.out)
  obtain ⟨r0, r1, r2, -⟩ := (HX.out.keepF HGN.out hK1.out).open3
  have HB1 := Lib.hid (HB0.out.trans hB1.out)
  clear q0 q1 q2 K1 K2 hB1 HB0
  go_wp2_with fail
  refine (k22.out).mono ?_
  rintro e W2 ⟨rfl, hW2, hB2, hK2⟩
  have HB2 := Lib.hid (HB1.out.trans hB2.out)
  have HK2 := Lib.hid (hK1.out.trans hK2.out)
  have HW2 := Lib.hid hW2.out
  obtain ⟨s0, s1, s2, -⟩ := (HX.out.keepF HGN.out HK2.out).open3
  clear r0 r1 r2 k22 hB2 HB1 hK1 hW1 hK2
  have hle : p ≤ W2.heap.size := by have := HW2.out.wr.lt; omega
  go_wp2
  go_loopw [22] (fun x wr => ∃ k : Nat, k ≤ nv ∧ x = .int .i64 k ∧ Hid (WrF G p B wr (Z2 ++ encs (numsL (vs.take k)))) ∧ Hid (Below p W wr) ∧ Hid (KeepF G W0 wr)) (fun x _ => nv - (intOf x).toNat)
  case atStart => exact ⟨0, Nat.zero_le _, rfl, Lib.hid (by simpa [numsL, encs] using HW2.out), HB2, HK2⟩
  case round =>
    obtain ⟨k, hk, rfl, hW, hB, hK⟩ := hrel
    have hpw : p ≤ wr.heap.size := by have := hW.out.wr.lt; omega
    by_cases hlt : k < nv
    · have hki : (k : Int) < nv := by omega
      obtain ⟨v, hv⟩ : ∃ v, vs[k]? = some v := ⟨_, List.getElem?_eq_getElem (by rw [HNV.out]; exact hlt)⟩
      have hER := HE2.out.low HLE2.out hB.out
      obtain ⟨b, rfl, -⟩ := hER.get hlt
      obtain ⟨t0, t1, t2, -⟩ := va_at hER hv
      have hvw := HV3.out v (List.mem_of_getElem? hv)
      have hsn := encs_v hv
      have hlq := HLQ.out k
      have hlq1 := HLQ.out (k + 1)
      obtain ⟨vt, vn, vd⟩ := v
      simp only at t0 t1 t2 hsn
      have hs0 : Z2 ++ encs (numsL (vs.take (k + 1))) = Z2 ++ encs (numsL (vs.take k)) ++ Hm.uv (Hm.zig vt) ++ Hm.uv (Hm.zig vn) ++ Hm.uv (Hm.zig vd) := by rw [hsn]; simp only [List.append_assoc]
      rw [hs0] at hlq1
      generalize hY : Z2 ++ encs (numsL (vs.take k)) = Y at *
      have hy1 : (Y ++ Hm.uv (Hm.zig vt)).length ≤ 3000000000 := by simp only [List.length_append] at hlq1 ⊢; omega
      have hy2 : (Y ++ Hm.uv (Hm.zig vt) ++ Hm.uv (Hm.zig vn)).length ≤ 3000000000 := by simp only [List.length_append] at hlq1 ⊢; omega
      have kk1 := fun (wq : World) (h1 : KeepF G W0 wq) (h2 : WrF G p B wq Y) => K3.out vt hvw.1 Y wq h1 (by omega) h2
      have kk2 := fun (wq : World) (h1 : KeepF G W0 wq) (h2 : WrF G p B wq (Y ++ Hm.uv (Hm.zig vt))) => K3.out vn hvw.2.1 _ wq h1 hy1 h2
      have kk3 := fun (wq : World) (h1 : KeepF G W0 wq) (h2 : WrF G p B wq (Y ++ Hm.uv (Hm.zig vt) ++ Hm.uv (Hm.zig vn))) => K3.out vd hvw.2.2 _ wq h1 hy2 h2
      have KK1 := Lib.hid kk1
      have KK2 := Lib.hid kk2
      have KK3 := Lib.hid kk3
      have HS0 := Lib.hid hs0
      have i0 : ∀ w, (Instr.index 89 (.agg #[.int .i64 vt, .int .i64 vn, .int .i64 vd]) (.int .i64 0)).run Tryz.prog w = .ok (.int .i64 vt) w := fun _ => by kernel_rfl
      have i1 : ∀ w, (Instr.index 89 (.agg #[.int .i64 vt, .int .i64 vn, .int .i64 vd]) (.int .i64 1)).run Tryz.prog w = .ok (.int .i64 vn) w := fun _ => by kernel_rfl
      have i2 : ∀ w, (Instr.index 89 (.agg #[.int .i64 vt, .int .i64 vn, .int .i64 vd]) (.int .i64 2)).run Tryz.prog w = .ok (.int .i64 vd) w := fun _ => by kernel_rfl
      clear kk1 kk2 kk3 hvw hsn hlq hlq1 hs0 hy1 hy2 hER hv hY
      go_wp2_with fail
      refine (numbers_any vt vn vd _).mono ?_
      rintro e w2 ⟨rfl, hr⟩
      have hr2 := below_new hr
      have HW5 := Lib.hid (hW.out.below hr2)
      have HB5 := Lib.hid (hB.out.trans (hr2.mono hpw))
      have HK5 := Lib.hid (hK.out.trans (KeepF.of_below hr2))
      obtain ⟨wo, rfl⟩ : ∃ wo : World, wo = wr := ⟨_, rfl⟩
      clear hr hr2 hW hB hK
      go_wp2
      go_loopw [28] (fun x wq => ((x = .int .i64 0 ∧ Hid (WrF G p B wq Y)) ∨ (x = .int .i64 1 ∧ Hid (WrF G p B wq (Y ++ Hm.uv (Hm.zig vt)))) ∨ (x = .int .i64 2 ∧ Hid (WrF G p B wq (Y ++ Hm.uv (Hm.zig vt) ++ Hm.uv (Hm.zig vn)))) ∨ (x = .int .i64 3 ∧ Hid (WrF G p B wq (Y ++ Hm.uv (Hm.zig vt) ++ Hm.uv (Hm.zig vn) ++ Hm.uv (Hm.zig vd))))) ∧ Hid (Below p W wq) ∧ Hid (KeepF G W0 wq)) (fun x _ => (3 - intOf x).toNat)
      case atStart => exact ⟨.inl ⟨rfl, HW5⟩, HB5, HK5⟩
      case round =>
        obtain ⟨hcase, hB3, hK3⟩ := hrel
        rcases hcase with ⟨rfl, hW3⟩ | ⟨rfl, hW3⟩ | ⟨rfl, hW3⟩ | ⟨rfl, hW3⟩
        · have kc := Lib.hid (KK1.out wr hK3.out hW3.out)
          go_wp2_with fail
          refine (kc.out).mono ?_
          rintro e w3 ⟨rfl, hW4, hB4, hK4⟩
          have HB6 := Lib.hid (hB3.out.trans hB4.out)
          have HK6 := Lib.hid (hK3.out.trans hK4.out)
          go_wp2
          go_roundw
          case rel => exact ⟨.inr (.inl ⟨rfl, hW4⟩), HB6, HK6⟩
          case measure => simp [intOf]
        · have kc := Lib.hid (KK2.out wr hK3.out hW3.out)
          go_wp2_with fail
          refine (kc.out).mono ?_
          rintro e w3 ⟨rfl, hW4, hB4, hK4⟩
          have HB6 := Lib.hid (hB3.out.trans hB4.out)
          have HK6 := Lib.hid (hK3.out.trans hK4.out)
          go_wp2
          go_roundw
          case rel => exact ⟨.inr (.inr (.inl ⟨rfl, hW4⟩)), HB6, HK6⟩
          case measure => simp [intOf]
        · have kc := Lib.hid (KK3.out wr hK3.out hW3.out)
          go_wp2_with fail
          refine (kc.out).mono ?_
          rintro e w3 ⟨rfl, hW4, hB4, hK4⟩
          have HB6 := Lib.hid (hB3.out.trans hB4.out)
          have HK6 := Lib.hid (hK3.out.trans hK4.out)
          go_wp2
          go_roundw
          case rel => exact ⟨.inr (.inr (.inr ⟨rfl, hW4⟩)), HB6, HK6⟩
          case measure => simp [intOf]
        · have hW6 : Hid (WrF G p B wr (Z2 ++ encs (numsL (vs.take (k + 1))))) := Lib.hid (by rw [HS0.out]; exact hW3.out)
          go_wp2
          go_roundw
          case rel => exact ⟨k + 1, by omega, by go_num, hW6, hB3, hK3⟩
          case measure => simp [intOf]; omega
    · have hkn : k = nv := by omega
      subst hkn
      have hki : ¬ (k : Int) < k := by omega
      have hta : vs.take k = vs := List.take_of_length_le (by rw [HNV.out]; omega)
      have hW' := hW.out
      have hlq := HLQ.out k
      rw [hta] at hW' hlq
      obtain ⟨s0, s1, s2, -⟩ := (HX.out.keepF HGN.out hK.out).open3
      have k6 := K3.out (np : Int) HPI.out _ wr hK.out (by omega) hW'
      rw [HZ4.out] at k6
      have K6 := Lib.hid k6
      have hW := Lib.hid hW'
      clear hW' hlq hta k6
      go_wp2_with fail
      refine (K6.out).mono ?_
      rintro e W3 ⟨rfl, hW3, hB3, hK3⟩
      have HB3 := Lib.hid (hB.out.trans hB3.out)
      have HK3 := Lib.hid (hK.out.trans hK3.out)
      obtain ⟨u0, u1, u2, -⟩ := (HX.out.keepF HGN.out HK3.out).open3
      clear s0 s1 s2 hB hK hB3 hK3 hW K6
      obtain ⟨wo, rfl⟩ : ∃ wo : World, wo = wr := ⟨_, rfl⟩
      go_wp2
      go_loopw [44] (fun x wr => ∃ k : Nat, k ≤ np ∧ x = .int .i64 k ∧ Hid (WrF G p B wr (Z4 ++ Th.encL (ps.take k))) ∧ Hid (Below p W wr) ∧ Hid (KeepF G W0 wr)) (fun x _ => np - (intOf x).toNat)
      case atStart => exact ⟨0, Nat.zero_le _, rfl, Lib.hid (by simpa [Th.encL] using hW3.out), HB3, HK3⟩
      case round =>
        obtain ⟨j, hj, rfl, hW, hB, hK⟩ := hrel
        have hpw2 : p ≤ wr.heap.size := by have := hW.out.wr.lt; omega
        by_cases hlt2 : j < np
        · have hji : (j : Int) < np := by omega
          obtain ⟨g, u, rfl, hgB, hgs, hcap, hu, x, y, z, t0, t1, t2, hT⟩ := (HPP.out.low hB.out).get hlt2
          obtain ⟨xa, xc, ya, yc, za, zc, rfl, rfl, rfl, -⟩ := hT.shape
          have hba : ∀ o : Obj, Below wr.heap.size wr (wr.alloc o) := fun o => (Below.refl _ _).alloc (Nat.le_refl _) o
          have k7 := fun o => K5.out u (List.mem_of_getElem? hu) _ _ _ _ (wr.alloc o) (hK.out.trans (KeepF.of_below (hba o))) (HL5.out j u hu) (hW.out.below (hba o)) (hT.low ((hba o).mono hpw2))
          have hsn := Th.encL_snoc hu
          have hs0 : Z4 ++ Th.encL (ps.take j) ++ u.enc = Z4 ++ Th.encL (ps.take (j + 1)) := by rw [hsn, List.append_assoc]
          rw [hs0] at k7
          generalize u.cs.length = m1 at *
          generalize u.vs.length = m2 at *
          generalize u.ps.length = m3 at *
          have K7 := Lib.hid k7
          clear k7 hT hsn hs0 hba hu hgB hgs hcap
          go_wp2_with fail
          refine (K7.out _).mono ?_
          rintro e w3 ⟨rfl, hW4, hB4, hK4⟩
          have HB6 := Lib.hid ((hB.out.alloc hpw2 _).trans hB4.out)
          have HK6 := Lib.hid ((hK.out.trans (KeepF.of_below ((Below.refl _ _).alloc (Nat.le_refl _) _))).trans hK4.out)
          go_wp2
          go_roundw
          case rel => exact ⟨j + 1, by omega, by go_num, hW4, HB6, HK6⟩
          case measure => simp [intOf]; omega
        · have hjn : j = np := by omega
          subst hjn
          have hji : ¬ (j : Int) < j := by omega
          have hta : ps.take j = ps := List.take_of_length_le (by rw [HNP.out]; omega)
          have hW' := hW.out
          rw [hta, HFIN.out] at hW'
          have HWZ := Lib.hid (hW'.mono HGF.out)
          have HKZ := Lib.hid (HK0.out.trans (hK.out.mono HGF.out))
          clear hW' hta hW
          go_wp2_with fail
          go_end0
          exact ⟨rfl, HWZ, hB, HKZ⟩

theorem write_all : ∀ m : Nat, m ≤ 1000000 → WriteK m := by
  intro m
  induction m with
  | zero => intro _ u hu; have := u.size_pos; omega
  | succ m ih => intro hm; exact write_step m (Lib.hid (ih (by omega)))

theorem valid_parts {t : Th} (h : validT t = 0) : t.size ≤ 96 ∧ t.deep ≤ 8 ∧ t.good := by
  unfold validT at h
  split at h
  · cases h
  · next h1 =>
    split at h
    · next h2 => exact ⟨by omega, by omega, Th.goodB_iff.1 h2⟩
    · cases h

theorem valid_cases (t : Th) : validT t = 0 ∨ validT t = 1 ∨ validT t = 4 := by
  unfold validT
  split
  · exact .inr (.inr rfl)
  · split
    · exact .inl rfl
    · exact .inr (.inl rfl)

/-- What Encode leaves. -/
def EncP (V : Int) (EN : List Int) (w : World) (e : Ending) (w' : World) : Prop :=
  (V = 0 ∧ ∃ a n c, e = .returned (.tuple #[.slice a n c, .int .i64 0]) ∧ Hid (n = EN.length) ∧ Hid (Own .u8 5 w.heap.size w' (.slice a n c) EN) ∧ Hid (Below w.heap.size w w')) ∨
  (V ≠ 0 ∧ e = .returned (.tuple #[.slice none 0 0, .int .i64 V]) ∧ Hid (Below w.heap.size w w'))

set_option maxHeartbeats 4000000 in
set_option maxRecDepth 100000 in
theorem tenc_any (t : Th) (ht : t.size ≤ 1000000) (hwf : t.wf) (a b c : Value) (w : World) (h : TAt w.heap.size w t a b c) :
    Calls Tryz.prog 25 #[.agg #[a, b, c]] w (EncP (validT t) t.enc w) := by
  obtain ⟨a1, c1, a2, c2, a3, c3, rfl, rfl, rfl, -⟩ := h.shape
  have hab := fun o : Obj => h.under o
  have XA := Lib.hid (BoxL.made w #[.slice a1 t.cs.length c1, .slice a2 t.vs.length c2, .slice a3 t.ps.length c3] 27)
  have K1 := Lib.hid (tvalid_any t ht hwf _ _ _ _ (hab (.cells #[.slice a1 t.cs.length c1, .slice a2 t.vs.length c2, .slice a3 t.ps.length c3] 27)))
  have hk2 : validT t = 0 → ∀ (W : World) (T : TypeId), Below w.heap.size w W → Calls Tryz.prog 54 #[.pointer (some ⟨W.heap.size, 0, none⟩), .agg #[.slice a1 t.cs.length c1, .slice a2 t.vs.length c2, .slice a3 t.ps.length c3]] (W.alloc (.cells #[.slice none 0 0] T)) (WOut (fun _ => False) W.heap.size (W.heap.size + 1) t.enc (W.alloc (.cells #[.slice none 0 0] T))) := fun hv W T hB => by
    have hg := valid_parts hv
    have hw := Th.good_wt t hg.2.2
    have := write_all t.size ht t (Nat.le_refl _) hwf (by omega) (fun _ => False) W.heap.size (W.heap.size + 1) [] _ _ _ (W.alloc (.cells #[.slice none 0 0] T)) (fun k hk => hk.elim) (by simp; omega) (WrF.new W T (fun k hk => hk.elim)) (TAt.mono hB.size t (h.low (hB.alloc hB.size (.cells #[.slice none 0 0] T))))
    rw [List.nil_append] at this
    exact this
  have hk3 : validT t = 0 → ∀ (W : World) (p B : Nat), WrF (fun _ => False) p B W t.enc → Calls Tryz.prog 55 #[.pointer (some ⟨p, 0, none⟩)] W (Makes .u8 5 t.enc W) := fun hv W p B hW => by
    have hg := valid_parts hv
    have hw := Th.good_wt t hg.2.2
    have hl := Th.enc_len t hwf (by omega)
    exact (wdone_any p B t.enc W (by omega) hW.wr)
  generalize t.enc = EN at *
  have HK2 := Lib.hid hk2
  have HK3 := Lib.hid hk3
  have hvc : validT t = 0 ∨ (validT t ≠ 0 ∧ (validT t != 0) = true) := by
    by_cases h0 : validT t = 0
    · exact .inl h0
    · exact .inr ⟨h0, bne_iff_ne.2 h0⟩
  generalize validT t = V at *
  generalize t.cs.length = m1 at *
  generalize t.vs.length = m2 at *
  generalize t.ps.length = m3 at *
  have HB0 := Lib.hid ((Below.refl w.heap.size w).alloc (Nat.le_refl _) (.cells #[.slice a1 m1 c1, .slice a2 m2 c2, .slice a3 m3 c3] 27))
  clear h hab hwf ht hk2 hk3
  rcases hvc with rfl | ⟨hv0, hv1⟩
  · have HK2' := Lib.hid (HK2.out rfl)
    have HK3' := Lib.hid (HK3.out rfl)
    clear HK2 HK3
    obtain ⟨x0, x1, x2, -, -, -, x3⟩ := XA.out.open3
    go_enter Tryz.func25, Tryz.ntmps25
    go_wp2_with fail
    refine (K1.out).mono ?_
    rintro e w1 ⟨rfl, hr⟩
    have X1 := Lib.hid (XA.out.keep hr)
    have HB1 := Lib.hid (below_new hr)
    clear hr x0 x1 x2 x3
    obtain ⟨x0, x1, x2, -, -, -, x3⟩ := X1.out.open3
    go_wp2_with fail
    refine (HK2'.out _ _ HB1.out).mono ?_
    rintro e w2 ⟨rfl, hW2, hB2, hK2⟩
    have HB2 := Lib.hid ((HB1.out.alloc HB1.out.size _).trans (hB2.out.mono HB1.out.size))
    have K3 := Lib.hid (HK3'.out _ _ _ hW2.out)
    clear hB2 hK2 HK2' HK3' x0 x1 x2 x3 X1 HB1 XA K1
    go_wp2_with fail
    refine (K3.out).mono ?_
    rintro e w3 ⟨a4, n4, c4, rfl, HN4, O4, B4⟩
    go_wp2
    go_ret2
    exact .inl ⟨rfl, a4, n4, c4, rfl, HN4, Lib.hid (own_baseR O4.out HB2.out.size), Lib.hid (Since.step HB2.out B4.out)⟩
  · have HV0 := Lib.hid hv0
    clear HK2 HK3 hv0
    obtain ⟨x0, x1, x2, -, -, -, x3⟩ := XA.out.open3
    go_enter Tryz.func25, Tryz.ntmps25
    go_wp2_with fail
    refine (K1.out).mono ?_
    rintro e w1 ⟨rfl, hr⟩
    have HB1 := Lib.hid (below_new hr)
    clear hr x0 x1 x2 x3
    go_wp2
    go_ret2
    exact .inr ⟨HV0.out, rfl, HB1⟩

end Go.Proofs.YtelhpndlejommaaGreat
