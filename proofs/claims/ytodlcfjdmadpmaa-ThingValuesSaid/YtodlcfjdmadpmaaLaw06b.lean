/- The law ThingValues. -/
import Derived.Test.YtodlcfjdmadpmaaZf
import Derived.Test.YtodlcfjdmadpmaaRpl
import Derived.Test.YtodlcfjdmadpmaaBox
import Derived.Deep.CutBlock
namespace Go.Proofs.Ytodlcfjdmadpmaa
open Go.RowKit Go.Shelf

/-- Ratios in a row. -/
def RRa : RowOf (Int × Int) where
  cells x := [.int .i64 x.1, .int .i64 x.2]
  k := 2
  len _ := rfl
  one x v h := by simp at h; rcases h with rfl | rfl <;> rfl
  pos := by decide

theorem Try.infoRa : (Try.prog.info? 32).map (fun i => (i.zero, i.size, i.bytes)) = some (some (.agg #[.int .i64 0, .int .i64 0]), 2, 16) := by kernel_rfl

theorem ra_at {w : World} {b n c : Nat} {P : List (Int × Int)} {j : Nat} {p : Int × Int} (h : REls RRa w (.slice (some ⟨b, 0, none⟩) n c) P) (hp : P[j]? = some p) :
    w.cell? ⟨b, j * 2, none⟩ = some (.int .i64 p.1) ∧ w.cell? ⟨b, j * 2 + 1, none⟩ = some (.int .i64 p.2) := by
  have hn := h.len
  have hj : j < n := by rw [hn]; exact (List.getElem?_eq_some_iff.1 hp).1
  obtain ⟨b', e, hb, hc, hat⟩ := h.get hj
  cases e
  have g := fun i u hu => hat j p hp i u hu
  exact ⟨g 0 _ rfl, g 1 _ rfl⟩

/-- A thing with one value. -/
def oneV (a n d : Int) : Th := .mk [] [⟨a, n, d⟩] []

theorem oneV_valid (a n d : Int) : validT (oneV a n d) = if Qm.Ok n d ∧ d ≤ 65536 ∧ 0 ≤ a ∧ a < 32 then 0 else 1 := by
  have e1 : (oneV a n d).size = 1 := by simp [oneV, Th.size, Th.sizes]
  have e2 : (oneV a n d).deep = 1 := by simp [oneV, Th.deep, Th.deeps]
  unfold validT
  rw [e1, e2, if_neg (by omega)]
  by_cases h : Qm.Ok n d ∧ d ≤ 65536 ∧ 0 ≤ a ∧ a < 32
  · rw [if_pos h, if_pos]
    refine Th.goodB_t ⟨⟨Inc.nil 64, fun v hv => ?_, inc_one h.2.2.1 h.2.2.2⟩, trivial⟩
    rw [List.mem_singleton.1 hv]
    exact ⟨h.1, h.2.1⟩
  · rw [if_neg h, if_neg]
    intro hg
    obtain ⟨⟨_, h2, h3⟩, _⟩ := Th.goodB_iff.1 hg
    have h4 := h2 ⟨a, n, d⟩ (List.mem_singleton.2 rfl)
    have h5 := h3 0 a rfl
    exact h ⟨h4.1, h4.2, h5.1, h5.2.1⟩

theorem oneV_at (w : World) (a n d : Int) (T T2 : TypeId) : TAt ((w.alloc (.cells #[.int .i64 a, .int .i64 n, .int .i64 d] T)).alloc (.cells #[.slice none 0 0, .slice (some ⟨w.heap.size, 0, none⟩) 1 1, .slice none 0 0] T2)).heap.size ((w.alloc (.cells #[.int .i64 a, .int .i64 n, .int .i64 d] T)).alloc (.cells #[.slice none 0 0, .slice (some ⟨w.heap.size, 0, none⟩) 1 1, .slice none 0 0] T2)) (oneV a n d) (.slice none 0 0) (.slice (some ⟨w.heap.size, 0, none⟩) 1 1) (.slice none 0 0) := by
  have e2 := (ROwn.new RVa T w [⟨a, n, d⟩] #[.int .i64 a, .int .i64 n, .int .i64 d] rfl (by unfold maxLen; simp)).els
  exact (tat_of els_nil e2 ps_nil).under _

theorem oneV_wf {a n d : Int} (ha : I64 a) (hn : I64 n) (hd : I64 d) : (oneV a n d).wf := by
  refine ⟨⟨⟨fun z hz => (by cases hz), by simp⟩, fun v hv => ?_, by simp⟩, trivial⟩
  rw [List.mem_singleton.1 hv]
  exact ⟨ha, hn, hd⟩

/-- The walk's rows: what holds between a round's start and its end. -/
def RatsOk (L : List (Int × Int)) : Prop := ∀ p ∈ L, I64 p.1 ∧ I64 p.2

theorem newR_nums {n d a b : Int} (h : Qm.newR n d = (a, b, 0)) : I64 a ∧ I64 b := by
  unfold Qm.newR at h
  split at h
  · simp at h
  · next h0 =>
    rcases Qm.ofR_out (n := n) h0 with e | ⟨x, y, e, o, _⟩
    · rw [e] at h; simp at h
    · rw [e] at h
      simp only [Prod.mk.injEq, and_true] at h
      obtain ⟨rfl, rfl⟩ := h
      exact ⟨⟨by have := o.2.2.1; omega, by have := o.2.2.2.1; omega⟩, ⟨by have := o.1; omega, by have := o.2.1; omega⟩⟩

set_option maxHeartbeats 16000000 in
set_option maxRecDepth 100000 in
theorem law_values (a0 a1 a2 : Int) (w : World) (w0 : (Lit.int .i64 a0).wf = true) (w1 : (Lit.int .i64 a1).wf = true) (w2 : (Lit.int .i64 a2).wf = true) :
    Calls Try.prog 6 #[.int .i64 a0, .int .i64 a1, .int .i64 a2] w fun e w' => e = .returned (.bool true) ∧ Below w.heap.size w w' := by
  have i0 := i64_of_wf w0
  have i1 := i64_of_wf w1
  have i2 := i64_of_wf w2
  have hlit : RatsOk [(a0, a1), (a0, 1), (1, a1), (1, 65536), (1, 65537), (0, 0)] := fun p hp => by
    have o1 : I64 1 := ⟨by decide, by decide⟩
    simp only [List.mem_cons, List.not_mem_nil, or_false] at hp
    rcases hp with rfl | rfl | rfl | rfl | rfl | rfl
    · exact ⟨i0, i1⟩
    · exact ⟨i0, o1⟩
    · exact ⟨o1, i1⟩
    · exact ⟨o1, ⟨by decide, by decide⟩⟩
    · exact ⟨o1, ⟨by decide, by decide⟩⟩
    · exact ⟨⟨by decide, by decide⟩, ⟨by decide, by decide⟩⟩
  have hO := ROwn.new RRa 32 w [(a0, a1), (a0, 1), (1, a1), (1, 65536), (1, 65537), (0, 0)] #[.int .i64 a0, .int .i64 a1, .int .i64 a0, .int .i64 1, .int .i64 1, .int .i64 a1, .int .i64 1, .int .i64 65536, .int .i64 1, .int .i64 65537, .int .i64 0, .int .i64 0] rfl (by unfold maxLen; simp)
  have hB : Below w.heap.size w (w.alloc (.cells #[.int .i64 a0, .int .i64 a1, .int .i64 a0, .int .i64 1, .int .i64 1, .int .i64 a1, .int .i64 1, .int .i64 65536, .int .i64 1, .int .i64 65537, .int .i64 0, .int .i64 0] 32)) := (Below.refl _ _).alloc (Nat.le_refl _) _
  obtain ⟨W1, hW1⟩ : ∃ W1, W1 = w.alloc (.cells #[.int .i64 a0, .int .i64 a1, .int .i64 a0, .int .i64 1, .int .i64 1, .int .i64 a1, .int .i64 1, .int .i64 65536, .int .i64 1, .int .i64 65537, .int .i64 0, .int .i64 0] 32) := ⟨_, rfl⟩
  rw [← hW1] at hO hB
  have hK : ∃ (x y k : Int) , (∀ W, Calls Try.prog 32 #[.int .i64 a0, .int .i64 a1] W fun e w' => e = .returned (.tuple #[.agg #[.int .i64 x, .int .i64 y], .int .i64 k]) ∧ Below W.heap.size W w') ∧ ((k = 0 ∧ I64 x ∧ I64 y) ∨ (k == 0) = false) := by
    refine ⟨(Qm.newR a0 a1).1, (Qm.newR a0 a1).2.1, (Qm.newR a0 a1).2.2, fun W => rnew_any a0 a1 W i0 i1, ?_⟩
    by_cases hk : (Qm.newR a0 a1).2.2 = 0
    · exact .inl ⟨hk, newR_nums (Prod.ext rfl (Prod.ext rfl hk))⟩
    · exact .inr (beq_eq_false_iff_ne.2 hk)
  obtain ⟨x, y, k, kN, hk⟩ := hK
  have KN := Lib.hid kN
  have HLIT := Lib.hid hlit
  have HO1 := Lib.hid hO
  have HB1 := Lib.hid hB
  have HI2 : Hid (I64 a2) := Lib.hid i2
  obtain ⟨i21, i22⟩ := i2
  have HLN : Hid ([(a0, a1), (a0, 1), (1, a1), (1, 65536), (1, 65537), (0, 0)].length = 6) := Lib.hid rfl
  have h6 : [(a0, a1), (a0, 1), (1, a1), (1, 65536), (1, 65537), (0, 0)].length = 6 := rfl
  rw [h6] at HO1
  generalize [(a0, a1), (a0, 1), (1, a1), (1, 65536), (1, 65537), ((0 : Int), (0 : Int))] = L0 at *
  clear hlit hO hB kN i0 i1 w0 w1 w2 h6
  go_enter Try.func6, Try.ntmps6
  go_upto_region 2 with (fail)
  rw [← hW1]
  clear hW1
  go_wp2_with fail
  refine (KN.out _).mono ?_
  rintro e W2 ⟨rfl, hr⟩
  have hN := Lib.hid (BoxL.made W2 #[.int .i64 x, .int .i64 y] 32)
  have HS2 : Hid (Since W1 (W2.alloc (.cells #[.int .i64 x, .int .i64 y] 32))) := Lib.hid (Below.alloc hr hr.size _)
  obtain ⟨W3, hW3⟩ : ∃ W3, W3 = W2.alloc (.cells #[.int .i64 x, .int .i64 y] 32) := ⟨_, rfl⟩
  rw [← hW3] at hN HS2
  have HB3 := Lib.hid (HB1.out.trans (Below.mono HS2.out HB1.out.size))
  have HO3 := Lib.hid (HO1.out.below HS2.out)
  clear hr HO1 KN
  go_upto_if 35 with (fail)
  rw [← hW3]
  generalize W2.heap.size = N2 at *
  clear hW3
  go_cut [7] (fun v wx => ∃ L ao no co, v = .slice ao no co ∧ no ≤ 7 ∧ Hid (RatsOk L) ∧ Hid (REls RRa wx (.slice ao no co) L) ∧ Hid (Below w.heap.size w wx))
  case first =>
    rcases hk with ⟨rfl, ix, iy⟩ | hk0
    · obtain ⟨x0, x1, -, -, -⟩ := hN.out.open2
      have hH := HB3.out.size
      have hl : L0.length + 1 ≤ 1000000000 := by have := HLN.out; omega
      go_wp2_with (at_builtin; refine push_row rfl _ _ _ rfl RRa 32 16 _ Try.underlying57 Try.infoRa rfl (by decide) w.heap.size (.slice (some ⟨w.heap.size, 0, none⟩) 6 6) L0 [(x, y)] _ _ rfl rfl _ 1 rfl rfl rfl HO3.out hH hl ?_; intro an nn cn wn hnn hOn hBn)
      go_meet
      have hn7 : nn ≤ 7 := by have := hnn.out; have := HLN.out; omega
      refine ⟨L0 ++ [(x, y)], an, nn, cn, rfl, hn7, Lib.hid (fun p hp => ?_), Lib.hid hOn.out.els, Lib.hid (HB3.out.trans hBn.out)⟩
      rcases List.mem_append.1 hp with hp | hp
      · exact HLIT.out p hp
      · rw [List.mem_singleton.1 hp]; exact ⟨ix, iy⟩
    · go_wp2_with fail
      go_meet
      exact ⟨L0, _, _, _, rfl, by omega, HLIT, Lib.hid HO3.out.els, HB3⟩
  case rest =>
  obtain ⟨L, ao, no, co, rfl, hno, hL, hE, hB⟩ := hcut
  rename World => wo
  have HNO := Lib.hid hE.out.len
  have HS0 : Hid (Since wo wo) := Lib.hid (Below.refl _ _)
  obtain ⟨q, hq⟩ : ∃ q, q = IntKind.i64.wrap (a2.tdiv 2) := ⟨_, rfl⟩
  have hqr : -4611686018427387904 ≤ q ∧ q ≤ 4611686018427387904 := by
    have h1 : -4611686018427387904 ≤ a2.tdiv 2 ∧ a2.tdiv 2 ≤ 4611686018427387904 := by
      have e1 : a2 = 2 * a2.tdiv 2 + a2.tmod 2 := (Int.mul_tdiv_add_tmod a2 2).symm
      have e2 := tmod_le a2 2 (by decide)
      omega
    rw [IntWalk.i64_in _ (by omega)] at hq
    omega
  have hq' := hq.symm
  obtain ⟨hq1, hq2⟩ := hqr
  clear hq HO3 HB3 HS2 hN hk HLIT HLN HB1
  go_wp2
  go_loopw [10] (fun v wr => ∃ i : Nat, i ≤ no ∧ v = .int .i64 i ∧ Hid (Since wo wr)) (fun v _ => no + 1 - (intOf v).toNat)
  case atStart => exact ⟨0, by omega, rfl, HS0⟩
  case round =>
    obtain ⟨i, hi, rfl, hS⟩ := hrel
    by_cases hlt : i < no
    · have j1 : (i : Int) < no := by omega
      obtain ⟨p, hp⟩ : ∃ p, L[i]? = some p := ⟨_, List.getElem?_eq_getElem (by rw [← HNO.out]; exact hlt)⟩
      obtain ⟨pi1, pi2⟩ := hL.out p (List.mem_of_getElem? hp)
      have hEw := hE.out.below hS.out
      obtain ⟨g, rfl, -⟩ := hEw.get hlt
      obtain ⟨t0, t1⟩ := ra_at hEw hp
      obtain ⟨pn, pd⟩ := p
      simp only at t0 t1 pi1 pi2
      have hT := oneV_at wr a2 pn pd 61 29
      have hX := BoxL.made (wr.alloc (.cells #[.int .i64 a2, .int .i64 pn, .int .i64 pd] 61)) #[.slice none 0 0, .slice (some ⟨wr.heap.size, 0, none⟩) 1 1, .slice none 0 0] 29
      rw [World.size_alloc] at hX
      have hBA : Since wr ((wr.alloc (.cells #[.int .i64 a2, .int .i64 pn, .int .i64 pd] 61)).alloc (.cells #[.slice none 0 0, .slice (some ⟨wr.heap.size, 0, none⟩) 1 1, .slice none 0 0] 29)) := ((Below.refl _ _).alloc (Nat.le_refl _) _).alloc (by simp) _
      obtain ⟨wA, hwA⟩ : ∃ wA, wA = (wr.alloc (.cells #[.int .i64 a2, .int .i64 pn, .int .i64 pd] 61)).alloc (.cells #[.slice none 0 0, .slice (some ⟨wr.heap.size, 0, none⟩) 1 1, .slice none 0 0] 29) := ⟨_, rfl⟩
      rw [← hwA] at hT hX hBA
      have HT := Lib.hid hT
      have HX := Lib.hid hX
      have HSA := Lib.hid (Since.step hS.out hBA)
      have tA0 := Lib.hid (Since.cell hBA t0)
      have tA1 := Lib.hid (Since.cell hBA t1)
      have kv := fun W => rvalid_any pn pd W pi1 pi2
      have kt := fun W (h : Since wA W) => tvalid_any (oneV a2 pn pd) (by simp [oneV, Th.size, Th.sizes]) (oneV_wf HI2.out pi1 pi2) _ _ _ W (hT.below h)
      rw [oneV_valid] at kt
      have kx := fun (n : Int) W (h : Since wA W) => tvalue_any (oneV a2 pn pd) n _ _ _ W (hT.below h) (by simp [oneV, Th.vs])
      have kx1 := kx a2
      have kx2 := kx (q + 1)
      have e1 : valV (oneV a2 pn pd).vs a2 = (pn, pd, true) := by simp [oneV, Th.vs, valV]
      rw [e1] at kx1
      have hF : ∃ F : Bool, F = decide (Qm.Ok pn pd ∧ pd ≤ 65536 ∧ 0 ≤ a2 ∧ a2 < 32) := ⟨_, rfl⟩
      obtain ⟨F, hF⟩ := hF
      have HFD := Lib.hid hF
      have hkt : ∀ W (h : Since wA W), Calls Try.prog 9 #[.agg #[.slice none 0 0, .slice (some ⟨wr.heap.size, 0, none⟩) 1 1, .slice none 0 0]] W fun e w' => e = .returned (.int .i64 (if F then 0 else 1)) ∧ Below W.heap.size W w' := fun W h => by
        have := kt W h
        rw [hF]
        by_cases hc : Qm.Ok pn pd ∧ pd ≤ 65536 ∧ 0 ≤ a2 ∧ a2 < 32
        · rw [if_pos hc] at this; rw [decide_eq_true hc]; exact this
        · rw [if_neg hc] at this; rw [decide_eq_false hc]; exact this
      have ho : ∃ (o : Bool) (on' od : Int), valV (oneV a2 pn pd).vs (q + 1) = (on', od, o) ∧ ((q + 1 == a2) = o) := by
        by_cases hc : a2 = q + 1
        · exact ⟨true, pn, pd, by simp [oneV, Th.vs, valV, hc], by simp [hc]⟩
        · exact ⟨false, 0, 0, by simp [oneV, Th.vs, valV, hc], by rw [beq_eq_false_iff_ne]; omega⟩
      obtain ⟨o, on', od, ho1, ho2⟩ := ho
      rw [ho1] at kx2
      unfold rv at kv
      unfold ValOut at kx1 kx2
      simp only at kx1 kx2
      have KV := Lib.hid kv
      have KT := Lib.hid hkt
      have KX1 := Lib.hid kx1
      have KX2 := Lib.hid kx2
      have HO2 := Lib.hid ho2
      clear kv kt hkt kx kx1 kx2 e1 hT hX hBA hp hEw ho1 hF hS ho2
      go_upto_region 9 with (fail)
      rw [← hwA]
      generalize hgN : wr.heap.size = N at *
      clear hwA hgN t0 t1
      have t0 := tA0.out
      have t1 := tA1.out
      go_cut [12] (fun s wx => s = .bool F ∧ Hid (Since wA wx))
      case first =>
        have hvi : (Qm.validI pn pd = 0 ∧ Qm.Ok pn pd) ∨ (Qm.validI pn pd = 1 ∧ ¬ Qm.Ok pn pd) := by
          unfold Qm.validI
          by_cases hc : Qm.Ok pn pd
          · exact .inl ⟨by rw [if_pos hc], hc⟩
          · exact .inr ⟨by rw [if_neg hc], hc⟩
        generalize Qm.validI pn pd = V at *
        have HKV := KV
        clear KV KT KX1 KX2 HT HX
        rcases hvi with ⟨rfl, hok⟩ | ⟨rfl, hok⟩
        · have HOK := Lib.hid hok
          clear hok
          by_cases c2 : pd ≤ 65536
          · by_cases c3 : a2 ≥ 0
            · by_cases c4 : a2 < 32
              · have hf : F = true := by rw [HFD.out]; exact decide_eq_true ⟨HOK.out, c2, c3, c4⟩
                subst hf
                go_wp2_with fail
                refine (HKV.out _).mono ?_
                rintro e w5 ⟨rfl, hr⟩
                have u0 := Since.cell hr t0
                have u1 := Since.cell hr t1
                go_wp2_with fail
                go_meet
                exact ⟨rfl, Lib.hid hr⟩
              · have hf : F = false := by rw [HFD.out]; exact decide_eq_false fun h => c4 h.2.2.2
                subst hf
                go_wp2_with fail
                refine (HKV.out _).mono ?_
                rintro e w5 ⟨rfl, hr⟩
                have u0 := Since.cell hr t0
                have u1 := Since.cell hr t1
                go_wp2_with fail
                go_meet
                exact ⟨by rw [decide_eq_false (by omega)], Lib.hid hr⟩
            · have hf : F = false := by rw [HFD.out]; exact decide_eq_false fun h => c3 h.2.2.1
              subst hf
              go_wp2_with fail
              refine (HKV.out _).mono ?_
              rintro e w5 ⟨rfl, hr⟩
              have u0 := Since.cell hr t0
              have u1 := Since.cell hr t1
              go_wp2_with fail
              go_meet
              exact ⟨rfl, Lib.hid hr⟩
          · have hf : F = false := by rw [HFD.out]; exact decide_eq_false fun h => c2 h.2.1
            subst hf
            go_wp2_with fail
            refine (HKV.out _).mono ?_
            rintro e w5 ⟨rfl, hr⟩
            have u0 := Since.cell hr t0
            have u1 := Since.cell hr t1
            go_wp2_with fail
            go_meet
            exact ⟨rfl, Lib.hid hr⟩
        · have hf : F = false := by rw [HFD.out]; exact decide_eq_false fun h => hok h.1
          subst hf
          clear hok
          go_wp2_with fail
          refine (HKV.out _).mono ?_
          rintro e w5 ⟨rfl, hr⟩
          have u0 := Since.cell hr t0
          have u1 := Since.cell hr t1
          go_wp2_with fail
          go_meet
          exact ⟨rfl, Lib.hid hr⟩
      case rest =>
      obtain ⟨rfl, hS5⟩ := hcut
      rename World => w5
      obtain ⟨x0, x1, x2, -, -, -, -⟩ := (HX.out.keep hS5.out).open3
      clear t0 t1 KV HFD
      go_wp2_with fail
      refine (KX1.out _ hS5.out).mono ?_
      rintro e w6 ⟨rfl, hr⟩
      have hS6 : Since wA (w6.alloc (.cells #[.int .i64 pn, .int .i64 pd] 32)) := Below.alloc (Since.step hS5.out hr) (Below.size (Since.step hS5.out hr)) _
      have hM := BoxL.made w6 #[.int .i64 pn, .int .i64 pd] 32
      obtain ⟨w7, hw7⟩ : ∃ w7, w7 = w6.alloc (.cells #[.int .i64 pn, .int .i64 pd] 32) := ⟨_, rfl⟩
      rw [← hw7] at hS6 hM
      have HS6 := Lib.hid hS6
      have HM := Lib.hid hM
      clear x0 x1 x2 hr hS5 hS6 hM
      obtain ⟨x0, x1, x2, -, -, -, -⟩ := (HX.out.keep HS6.out).open3
      go_upto_region 11 with (fail)
      rw [← hw7]
      generalize w6.heap.size = M at *
      clear hw7
      go_wp2_with fail
      refine (KX2.out _ HS6.out).mono ?_
      rintro e w8 ⟨rfl, hr⟩
      have hM8 := HM.out.keep hr
      have hS8 : Since wA (w8.alloc (.cells #[.int .i64 on', .int .i64 od] 32)) := Below.alloc (Since.step HS6.out hr) (Below.size (Since.step HS6.out hr)) _
      have hM9 := hM8.under (.cells #[.int .i64 on', .int .i64 od] 32)
      obtain ⟨w9, hw9⟩ : ∃ w9, w9 = w8.alloc (.cells #[.int .i64 on', .int .i64 od] 32) := ⟨_, rfl⟩
      rw [← hw9] at hS8 hM9
      have HS9 := Lib.hid hS8
      clear x0 x1 x2 hr hM8 hS8 HS6 HM
      obtain ⟨x0, x1, x2, -, -, -, -⟩ := (HX.out.keep HS9.out).open3
      obtain ⟨m0, m1, -, -, -⟩ := hM9.open2
      have t0 := Since.cell HS9.out tA0.out
      have t1 := Since.cell HS9.out tA1.out
      go_upto_region 12 with (fail)
      rw [← hw9]
      generalize w8.heap.size = M8 at *
      clear hw9 hM9
      go_cut [124] (fun s wx => s = .bool false ∧ Hid (Since wA wx))
      case first =>
        have hSd : Since w9 w9.drew := Below.drew (Below.refl _ _)
        have ho2 := HO2.out
        have n1 : IntKind.i64.wrap (q + 1) = q + 1 := IntWalk.i64_in _ (by omega)
        have HS9' := HS9
        cases F
        · have kt1 := fun W (h : Since w9 W) => (KT.out W (Since.step HS9'.out h)).mono (R' := fun e w' => e = .returned (.int .i64 1) ∧ Since w9 w') fun e w' hq => ⟨hq.1, Since.step h hq.2⟩
          have KT' := Lib.hid kt1
          clear kt1 KT KX1 KX2 HT HX
          cases o
          all_goals
            go_region_held3 (fun w' => w'.cell? ⟨N + 1, 0, none⟩ = some (.slice none 0 0) ∧ w'.cell? ⟨N + 1, 1, none⟩ = some (.slice (some ⟨N, 0, none⟩) 1 1) ∧ w'.cell? ⟨N + 1, 2, none⟩ = some (.slice none 0 0) ∧ w'.cell? ⟨M, 0, none⟩ = some (.int .i64 pn) ∧ w'.cell? ⟨M, 1, none⟩ = some (.int .i64 pd) ∧ w'.cell? ⟨g, i * 2, none⟩ = some (.int .i64 pn) ∧ w'.cell? ⟨g, i * 2 + 1, none⟩ = some (.int .i64 pd) ∧ Since w9 w')
              (first | exact ⟨Since.cell hSd x0, Since.cell hSd x1, Since.cell hSd x2, Since.cell hSd m0, Since.cell hSd m1, Since.cell hSd t0, Since.cell hSd t1, hSd⟩ | exact ⟨Since.cell hB x0, Since.cell hB x1, Since.cell hB x2, Since.cell hB m0, Since.cell hB m1, Since.cell hB t0, Since.cell hB t1, hB⟩)
              ((go_at_call 9; refine (KT'.out _ (by first | exact hB | exact hSd)).mono ?_; rintro e w' ⟨rfl, hB⟩))
            have HBB := Lib.hid (Since.step HS9'.out hB)
            clear hB
            go_wp2_with fail
            go_meet
            exact ⟨rfl, HBB⟩
        · have kt1 := fun W (h : Since w9 W) => (KT.out W (Since.step HS9'.out h)).mono (R' := fun e w' => e = .returned (.int .i64 0) ∧ Since w9 w') fun e w' hq => ⟨hq.1, Since.step h hq.2⟩
          have KT' := Lib.hid kt1
          clear kt1 KT KX1 KX2 HT HX
          cases o
          all_goals
            refine wp_region_noPanic ?_
            refine wp_region_held_drew (S := fun w' => w'.cell? ⟨N + 1, 0, none⟩ = some (.slice none 0 0) ∧ w'.cell? ⟨N + 1, 1, none⟩ = some (.slice (some ⟨N, 0, none⟩) 1 1) ∧ w'.cell? ⟨N + 1, 2, none⟩ = some (.slice none 0 0) ∧ w'.cell? ⟨M, 0, none⟩ = some (.int .i64 pn) ∧ w'.cell? ⟨M, 1, none⟩ = some (.int .i64 pd) ∧ w'.cell? ⟨g, i * 2, none⟩ = some (.int .i64 pn) ∧ w'.cell? ⟨g, i * 2 + 1, none⟩ = some (.int .i64 pd) ∧ Since w9 w') (by kernel_rfl) ⟨Since.cell hSd x0, Since.cell hSd x1, Since.cell hSd x2, Since.cell hSd m0, Since.cell hSd m1, Since.cell hSd t0, Since.cell hSd t1, hSd⟩ (fun hHeld => ?_)
            refine wpAnyH_take (i := 0) (oi := { dst := some 90, op := Op.load 29 (Operand.tmp 11), type := 29, pos := _, after := #[], guard := none }) (v := ?_) rfl (by kernel_rfl) (by kernel_rfl) (by kernel_rfl) (fun _ _ _ h => h) (Or.inl ⟨by rfl, ?_⟩) (by assumption) ?_
            rotate_left 1
            · (intro w hSw; (try dsimp only at hSw); go_simp; first | done | with_reducible rfl)
            try simp only [Act.put, List.setIfInBounds_toArray, List.set_cons_zero, List.set_cons_succ]
            refine wpAnyH_take (i := 3) (oi := { dst := some 93, op := Op.move (Operand.tmp 12), type := 4, pos := _, after := #[], guard := none }) (v := ?_) rfl (by kernel_rfl) (by kernel_rfl) (by kernel_rfl) (fun _ _ _ h => h) (Or.inl ⟨by rfl, ?_⟩) (by assumption) ?_
            rotate_left 1
            · (intro w hSw; (try dsimp only at hSw); go_simp; first | done | with_reducible rfl)
            try simp only [Act.put, List.setIfInBounds_toArray, List.set_cons_zero, List.set_cons_succ]
            refine wpAnyH_ready (rs := [1]) (by kernel_rfl) (by simp) ?_
            refine AllReadyH.cons (o := { dst := some 91, op := Op.call { callee := Callee.value (Operand.func 9), args := #[Operand.tmp 90], argTypes := #[29] }, type := 25, pos := _, after := #[{ on := 0, ground := Ground.data }], guard := none }) rfl (fun K hK => ?_) AllReadyH.nil
            go_simp
            go_at_call 9
            refine (KT'.out _ hSd).mono ?_
            rintro e W1 ⟨rfl, hB1⟩
            go_wp2_with fail
            refine hK.out _ _ ?_ (fun hHeld => ?_)
            · exact ⟨Since.cell hB1 x0, Since.cell hB1 x1, Since.cell hB1 x2, Since.cell hB1 m0, Since.cell hB1 m1, Since.cell hB1 t0, Since.cell hB1 t1, hB1⟩
            clear hK K
            try simp only [Act.put, List.setIfInBounds_toArray, List.set_cons_zero, List.set_cons_succ]
            refine wpAnyH_take (i := 2) (oi := { dst := some 92, op := Op.binOp BinOp.eql 25 (Operand.tmp 91) (Operand.const (Value.int IntKind.i64 0)) 25, type := 4, pos := _, after := #[{ on := 1, ground := Ground.data }], guard := none }) (v := ?_) rfl (by kernel_rfl) (by kernel_rfl) (by kernel_rfl) (fun _ _ _ h => h) (Or.inl ⟨by rfl, ?_⟩) (by assumption) ?_
            rotate_left 1
            · (intro w hSw; (try dsimp only at hSw); go_simp; first | done | with_reducible rfl)
            try simp only [Act.put, List.setIfInBounds_toArray, List.set_cons_zero, List.set_cons_succ]
            refine wpAnyH_take (i := 4) (oi := { dst := some 94, op := Op.binOp BinOp.neq 4 (Operand.tmp 92) (Operand.tmp 93) 4, type := 4, pos := _, after := #[{ on := 2, ground := Ground.data }, { on := 3, ground := Ground.data }], guard := none }) (v := ?_) rfl (by kernel_rfl) (by kernel_rfl) (by kernel_rfl) (fun _ _ _ h => h) (Or.inl ⟨by rfl, ?_⟩) (by assumption) ?_
            rotate_left 1
            · (intro w hSw; (try dsimp only at hSw); go_simp; first | done | with_reducible rfl)
            try simp only [Act.put, List.setIfInBounds_toArray, List.set_cons_zero, List.set_cons_succ]
            refine wpAnyH_take (i := 5) (oi := { dst := some 95, op := Op.move (Operand.tmp 94), type := 4, pos := _, after := #[{ on := 4, ground := Ground.data }, { on := 1, ground := Ground.chain }], guard := none }) (v := ?_) rfl (by kernel_rfl) (by kernel_rfl) (by kernel_rfl) (fun _ _ _ h => h) (Or.inl ⟨by rfl, ?_⟩) (by assumption) ?_
            rotate_left 1
            · (intro w hSw; (try dsimp only at hSw); go_simp; first | done | with_reducible rfl)
            try simp only [Act.put, List.setIfInBounds_toArray, List.set_cons_zero, List.set_cons_succ]
            refine wpAnyH_take (i := 6) (oi := { dst := some 96, op := Op.move (Operand.tmp 12), type := 4, pos := _, after := #[{ on := 5, ground := Ground.guard }], guard := some (5, false) }) (v := ?_) rfl (by kernel_rfl) (by kernel_rfl) (by kernel_rfl) (fun _ _ _ h => h) (Or.inl ⟨by rfl, ?_⟩) (by assumption) ?_
            rotate_left 1
            · (intro w hSw; (try dsimp only at hSw); go_simp; first | done | with_reducible rfl)
            try simp only [Act.put, List.setIfInBounds_toArray, List.set_cons_zero, List.set_cons_succ]
            refine wpAnyH_take (i := 7) (oi := { dst := some 97, op := Op.unOp UnOp.not 4 (Operand.tmp 96), type := 4, pos := _, after := #[{ on := 6, ground := Ground.data }, { on := 5, ground := Ground.guard }], guard := some (5, false) }) (v := ?_) rfl (by kernel_rfl) (by kernel_rfl) (by kernel_rfl) (fun _ _ _ h => h) (Or.inl ⟨by rfl, ?_⟩) (by assumption) ?_
            rotate_left 1
            · (intro w hSw; (try dsimp only at hSw); go_simp; first | done | with_reducible rfl)
            try simp only [Act.put, List.setIfInBounds_toArray, List.set_cons_zero, List.set_cons_succ]
            refine wpAnyH_take (i := 8) (oi := { dst := some 98, op := Op.move (Operand.tmp 97), type := 4, pos := _, after := #[{ on := 7, ground := Ground.data }, { on := 5, ground := Ground.chain }, { on := 5, ground := Ground.guard }], guard := some (5, false) }) (v := ?_) rfl (by kernel_rfl) (by kernel_rfl) (by kernel_rfl) (fun _ _ _ h => h) (Or.inl ⟨by rfl, ?_⟩) (by assumption) ?_
            rotate_left 1
            · (intro w hSw; (try dsimp only at hSw); go_simp; first | done | with_reducible rfl)
            try simp only [Act.put, List.setIfInBounds_toArray, List.set_cons_zero, List.set_cons_succ]
            refine wpAnyH_take (i := 9) (oi := { dst := some 99, op := Op.load 29 (Operand.tmp 11), type := 29, pos := _, after := #[{ on := 8, ground := Ground.guard }], guard := some (8, true) }) (v := undef) rfl (by kernel_rfl) (by kernel_rfl) (by kernel_rfl) (fun _ _ _ h => h) (Or.inr ⟨by rfl, rfl⟩) (by assumption) ?_
            try simp only [Act.put, List.setIfInBounds_toArray, List.set_cons_zero, List.set_cons_succ]
            refine wpAnyH_take (i := 10) (oi := { dst := some 100, op := Op.call { callee := Callee.value (Operand.func 9), args := #[Operand.tmp 99], argTypes := #[29] }, type := 25, pos := _, after := #[{ on := 9, ground := Ground.data }, { on := 8, ground := Ground.chain }, { on := 8, ground := Ground.guard }], guard := some (8, true) }) (v := undef) rfl (by kernel_rfl) (by kernel_rfl) (by kernel_rfl) (fun _ _ _ h => h) (Or.inr ⟨by rfl, rfl⟩) (by assumption) ?_
            try simp only [Act.put, List.setIfInBounds_toArray, List.set_cons_zero, List.set_cons_succ]
            refine wpAnyH_take (i := 11) (oi := { dst := some 101, op := Op.binOp BinOp.neq 25 (Operand.tmp 100) (Operand.const (Value.int IntKind.i64 1)) 25, type := 4, pos := _, after := #[{ on := 10, ground := Ground.data }, { on := 8, ground := Ground.guard }], guard := some (8, true) }) (v := undef) rfl (by kernel_rfl) (by kernel_rfl) (by kernel_rfl) (fun _ _ _ h => h) (Or.inr ⟨by rfl, rfl⟩) (by assumption) ?_
            try simp only [Act.put, List.setIfInBounds_toArray, List.set_cons_zero, List.set_cons_succ]
            refine wpAnyH_take (i := 12) (oi := { dst := some 102, op := Op.pick (Operand.tmp 98) (Operand.tmp 101) (Operand.const (Value.bool false)), type := 4, pos := _, after := #[{ on := 8, ground := Ground.data }, { on := 11, ground := Ground.data }, { on := 5, ground := Ground.guard }], guard := some (5, false) }) (v := ?_) rfl (by kernel_rfl) (by kernel_rfl) (by kernel_rfl) (fun _ _ _ h => h) (Or.inl ⟨by rfl, ?_⟩) (by assumption) ?_
            rotate_left 1
            · (intro w hSw; (try dsimp only at hSw); go_simp; first | done | with_reducible rfl)
            try simp only [Act.put, List.setIfInBounds_toArray, List.set_cons_zero, List.set_cons_succ]
            refine wpAnyH_take (i := 13) (oi := { dst := some 103, op := Op.pick (Operand.tmp 95) (Operand.const (Value.bool true)) (Operand.tmp 102), type := 4, pos := _, after := #[{ on := 5, ground := Ground.data }, { on := 12, ground := Ground.data }], guard := none }) (v := ?_) rfl (by kernel_rfl) (by kernel_rfl) (by kernel_rfl) (fun _ _ _ h => h) (Or.inl ⟨by rfl, ?_⟩) (by assumption) ?_
            rotate_left 1
            · (intro w hSw; (try dsimp only at hSw); go_simp; first | done | with_reducible rfl)
            try simp only [Act.put, List.setIfInBounds_toArray, List.set_cons_zero, List.set_cons_succ]
            refine wpAnyH_take (i := 14) (oi := { dst := some 104, op := Op.move (Operand.tmp 103), type := 4, pos := _, after := #[{ on := 13, ground := Ground.data }, { on := 10, ground := Ground.chain }], guard := none }) (v := ?_) rfl (by kernel_rfl) (by kernel_rfl) (by kernel_rfl) (fun _ _ _ h => h) (Or.inl ⟨by rfl, ?_⟩) (by assumption) ?_
            rotate_left 1
            · (intro w hSw; (try dsimp only at hSw); go_simp; first | done | with_reducible rfl)
            try simp only [Act.put, List.setIfInBounds_toArray, List.set_cons_zero, List.set_cons_succ]
            refine wpAnyH_take (i := 15) (oi := { dst := some 105, op := Op.move (Operand.tmp 14), type := 4, pos := _, after := #[{ on := 14, ground := Ground.guard }], guard := some (14, false) }) (v := ?_) rfl (by kernel_rfl) (by kernel_rfl) (by kernel_rfl) (fun _ _ _ h => h) (Or.inl ⟨by rfl, ?_⟩) (by assumption) ?_
            rotate_left 1
            · (intro w hSw; (try dsimp only at hSw); go_simp; first | done | with_reducible rfl)
            try simp only [Act.put, List.setIfInBounds_toArray, List.set_cons_zero, List.set_cons_succ]
            refine wpAnyH_take (i := 16) (oi := { dst := some 106, op := Op.unOp UnOp.not 4 (Operand.tmp 105), type := 4, pos := _, after := #[{ on := 15, ground := Ground.data }, { on := 14, ground := Ground.guard }], guard := some (14, false) }) (v := ?_) rfl (by kernel_rfl) (by kernel_rfl) (by kernel_rfl) (fun _ _ _ h => h) (Or.inl ⟨by rfl, ?_⟩) (by assumption) ?_
            rotate_left 1
            · (intro w hSw; (try dsimp only at hSw); go_simp; first | done | with_reducible rfl)
            try simp only [Act.put, List.setIfInBounds_toArray, List.set_cons_zero, List.set_cons_succ]
            refine wpAnyH_take (i := 17) (oi := { dst := some 107, op := Op.pick (Operand.tmp 104) (Operand.const (Value.bool true)) (Operand.tmp 106), type := 4, pos := _, after := #[{ on := 14, ground := Ground.data }, { on := 16, ground := Ground.data }], guard := none }) (v := ?_) rfl (by kernel_rfl) (by kernel_rfl) (by kernel_rfl) (fun _ _ _ h => h) (Or.inl ⟨by rfl, ?_⟩) (by assumption) ?_
            rotate_left 1
            · (intro w hSw; (try dsimp only at hSw); go_simp; first | done | with_reducible rfl)
            try simp only [Act.put, List.setIfInBounds_toArray, List.set_cons_zero, List.set_cons_succ]
            refine wpAnyH_take (i := 18) (oi := { dst := some 108, op := Op.move (Operand.tmp 107), type := 4, pos := _, after := #[{ on := 17, ground := Ground.data }, { on := 14, ground := Ground.chain }], guard := none }) (v := ?_) rfl (by kernel_rfl) (by kernel_rfl) (by kernel_rfl) (fun _ _ _ h => h) (Or.inl ⟨by rfl, ?_⟩) (by assumption) ?_
            rotate_left 1
            · (intro w hSw; (try dsimp only at hSw); go_simp; first | done | with_reducible rfl)
            try simp only [Act.put, List.setIfInBounds_toArray, List.set_cons_zero, List.set_cons_succ]
            refine wpAnyH_take (i := 19) (oi := { dst := some 109, op := Op.load 32 (Operand.tmp 13), type := 32, pos := _, after := #[{ on := 18, ground := Ground.guard }], guard := some (18, false) }) (v := ?_) rfl (by kernel_rfl) (by kernel_rfl) (by kernel_rfl) (fun _ _ _ h => h) (Or.inl ⟨by rfl, ?_⟩) (by assumption) ?_
            rotate_left 1
            · (intro w hSw; (try dsimp only at hSw); go_simp; first | done | with_reducible rfl)
            try simp only [Act.put, List.setIfInBounds_toArray, List.set_cons_zero, List.set_cons_succ]
            refine wpAnyH_take (i := 20) (oi := { dst := some 110, op := Op.move (Operand.tmp 7), type := 57, pos := _, after := #[{ on := 18, ground := Ground.guard }], guard := some (18, false) }) (v := ?_) rfl (by kernel_rfl) (by kernel_rfl) (by kernel_rfl) (fun _ _ _ h => h) (Or.inl ⟨by rfl, ?_⟩) (by assumption) ?_
            rotate_left 1
            · (intro w hSw; (try dsimp only at hSw); go_simp; first | done | with_reducible rfl)
            try simp only [Act.put, List.setIfInBounds_toArray, List.set_cons_zero, List.set_cons_succ]
            refine wpAnyH_take (i := 21) (oi := { dst := some 111, op := Op.move (Operand.tmp 10), type := 3, pos := _, after := #[{ on := 18, ground := Ground.guard }], guard := some (18, false) }) (v := ?_) rfl (by kernel_rfl) (by kernel_rfl) (by kernel_rfl) (fun _ _ _ h => h) (Or.inl ⟨by rfl, ?_⟩) (by assumption) ?_
            rotate_left 1
            · (intro w hSw; (try dsimp only at hSw); go_simp; first | done | with_reducible rfl)
            try simp only [Act.put, List.setIfInBounds_toArray, List.set_cons_zero, List.set_cons_succ]
            refine wpAnyH_take (i := 22) (oi := { dst := some 112, op := Op.indexAddr 57 (Operand.tmp 110) (Operand.tmp 111), type := 0, pos := _, after := #[{ on := 20, ground := Ground.data }, { on := 21, ground := Ground.data }, { on := 18, ground := Ground.guard }], guard := some (18, false) }) (v := ?_) rfl (by kernel_rfl) (by kernel_rfl) (by kernel_rfl) (fun _ _ _ h => h) (Or.inl ⟨by rfl, ?_⟩) (by assumption) ?_
            rotate_left 1
            · (intro w hSw; (try dsimp only at hSw); go_simp; first | done | with_reducible rfl)
            try simp only [Act.put, List.setIfInBounds_toArray, List.set_cons_zero, List.set_cons_succ]
            refine wpAnyH_take (i := 23) (oi := { dst := some 113, op := Op.load 32 (Operand.tmp 112), type := 32, pos := _, after := #[{ on := 22, ground := Ground.data }, { on := 18, ground := Ground.guard }], guard := some (18, false) }) (v := ?_) rfl (by kernel_rfl) (by kernel_rfl) (by kernel_rfl) (fun _ _ _ h => h) (Or.inl ⟨by rfl, ?_⟩) (by assumption) ?_
            rotate_left 1
            · (intro w hSw; (try dsimp only at hSw); go_simp; first | done | with_reducible rfl)
            try simp only [Act.put, List.setIfInBounds_toArray, List.set_cons_zero, List.set_cons_succ]
            refine wpAnyH_take (i := 24) (oi := { dst := some 114, op := Op.binOp BinOp.neq 32 (Operand.tmp 109) (Operand.tmp 113) 32, type := 4, pos := _, after := #[{ on := 19, ground := Ground.data }, { on := 23, ground := Ground.data }, { on := 18, ground := Ground.guard }], guard := some (18, false) }) (v := ?_) rfl (by kernel_rfl) (by kernel_rfl) (by kernel_rfl) (fun _ _ _ h => h) (Or.inl ⟨by rfl, ?_⟩) (by assumption) ?_
            rotate_left 1
            · (intro w hSw; (try dsimp only at hSw); go_simp; first | done | with_reducible rfl)
            try simp only [Act.put, List.setIfInBounds_toArray, List.set_cons_zero, List.set_cons_succ]
            refine wpAnyH_take (i := 25) (oi := { dst := some 115, op := Op.pick (Operand.tmp 108) (Operand.const (Value.bool true)) (Operand.tmp 114), type := 4, pos := _, after := #[{ on := 18, ground := Ground.data }, { on := 24, ground := Ground.data }], guard := none }) (v := ?_) rfl (by kernel_rfl) (by kernel_rfl) (by kernel_rfl) (fun _ _ _ h => h) (Or.inl ⟨by rfl, ?_⟩) (by assumption) ?_
            rotate_left 1
            · (intro w hSw; (try dsimp only at hSw); go_simp; first | done | with_reducible rfl)
            try simp only [Act.put, List.setIfInBounds_toArray, List.set_cons_zero, List.set_cons_succ]
            refine wpAnyH_take (i := 26) (oi := { dst := some 116, op := Op.move (Operand.tmp 115), type := 4, pos := _, after := #[{ on := 25, ground := Ground.data }, { on := 18, ground := Ground.chain }], guard := none }) (v := ?_) rfl (by kernel_rfl) (by kernel_rfl) (by kernel_rfl) (fun _ _ _ h => h) (Or.inl ⟨by rfl, ?_⟩) (by assumption) ?_
            rotate_left 1
            · (intro w hSw; (try dsimp only at hSw); go_simp; first | done | with_reducible rfl)
            try simp only [Act.put, List.setIfInBounds_toArray, List.set_cons_zero, List.set_cons_succ]
            refine wpAnyH_take (i := 27) (oi := { dst := some 117, op := Op.move (Operand.tmp 16), type := 4, pos := _, after := #[{ on := 26, ground := Ground.guard }], guard := some (26, false) }) (v := ?_) rfl (by kernel_rfl) (by kernel_rfl) (by kernel_rfl) (fun _ _ _ h => h) (Or.inl ⟨by rfl, ?_⟩) (by assumption) ?_
            rotate_left 1
            · (intro w hSw; (try dsimp only at hSw); go_simp; first | done | with_reducible rfl)
            try simp only [Act.put, List.setIfInBounds_toArray, List.set_cons_zero, List.set_cons_succ]
            refine wpAnyH_take (i := 28) (oi := { dst := some 118, op := Op.move (Operand.tmp 2), type := 3, pos := _, after := #[{ on := 26, ground := Ground.guard }], guard := some (26, false) }) (v := ?_) rfl (by kernel_rfl) (by kernel_rfl) (by kernel_rfl) (fun _ _ _ h => h) (Or.inl ⟨by rfl, ?_⟩) (by assumption) ?_
            rotate_left 1
            · (intro w hSw; (try dsimp only at hSw); go_simp; first | done | with_reducible rfl)
            try simp only [Act.put, List.setIfInBounds_toArray, List.set_cons_zero, List.set_cons_succ]
            refine wpAnyH_take (i := 29) (oi := { dst := some 119, op := Op.binOp BinOp.quo 3 (Operand.tmp 118) (Operand.const (Value.int IntKind.i64 2)) 3, type := 3, pos := _, after := #[{ on := 28, ground := Ground.data }, { on := 26, ground := Ground.guard }], guard := some (26, false) }) (v := ?_) rfl (by kernel_rfl) (by kernel_rfl) (by kernel_rfl) (fun _ _ _ h => h) (Or.inl ⟨by rfl, ?_⟩) (by assumption) ?_
            rotate_left 1
            · (intro w hSw; (try dsimp only at hSw); go_simp; first | done | with_reducible rfl)
            try simp only [Act.put, List.setIfInBounds_toArray, List.set_cons_zero, List.set_cons_succ]
            refine wpAnyH_take (i := 30) (oi := { dst := some 120, op := Op.binOp BinOp.add 3 (Operand.tmp 119) (Operand.const (Value.int IntKind.i64 1)) 3, type := 3, pos := _, after := #[{ on := 29, ground := Ground.data }, { on := 26, ground := Ground.guard }], guard := some (26, false) }) (v := ?_) rfl (by kernel_rfl) (by kernel_rfl) (by kernel_rfl) (fun _ _ _ h => h) (Or.inl ⟨by rfl, ?_⟩) (by assumption) ?_
            rotate_left 1
            · (intro w hSw; (try dsimp only at hSw); go_simp; first | done | with_reducible rfl)
            try simp only [Act.put, List.setIfInBounds_toArray, List.set_cons_zero, List.set_cons_succ]
            refine wpAnyH_take (i := 31) (oi := { dst := some 121, op := Op.move (Operand.tmp 2), type := 3, pos := _, after := #[{ on := 26, ground := Ground.guard }], guard := some (26, false) }) (v := ?_) rfl (by kernel_rfl) (by kernel_rfl) (by kernel_rfl) (fun _ _ _ h => h) (Or.inl ⟨by rfl, ?_⟩) (by assumption) ?_
            rotate_left 1
            · (intro w hSw; (try dsimp only at hSw); go_simp; first | done | with_reducible rfl)
            try simp only [Act.put, List.setIfInBounds_toArray, List.set_cons_zero, List.set_cons_succ]
            refine wpAnyH_take (i := 32) (oi := { dst := some 122, op := Op.binOp BinOp.eql 3 (Operand.tmp 120) (Operand.tmp 121) 3, type := 4, pos := _, after := #[{ on := 30, ground := Ground.data }, { on := 31, ground := Ground.data }, { on := 26, ground := Ground.guard }], guard := some (26, false) }) (v := ?_) rfl (by kernel_rfl) (by kernel_rfl) (by kernel_rfl) (fun _ _ _ h => h) (Or.inl ⟨by rfl, ?_⟩) (by assumption) ?_
            rotate_left 1
            · (intro w hSw; (try dsimp only at hSw); go_simp; first | done | with_reducible rfl)
            try simp only [Act.put, List.setIfInBounds_toArray, List.set_cons_zero, List.set_cons_succ]
            refine wpAnyH_take (i := 33) (oi := { dst := some 123, op := Op.binOp BinOp.neq 4 (Operand.tmp 117) (Operand.tmp 122) 4, type := 4, pos := _, after := #[{ on := 27, ground := Ground.data }, { on := 32, ground := Ground.data }, { on := 26, ground := Ground.guard }], guard := some (26, false) }) (v := ?_) rfl (by kernel_rfl) (by kernel_rfl) (by kernel_rfl) (fun _ _ _ h => h) (Or.inl ⟨by rfl, ?_⟩) (by assumption) ?_
            rotate_left 1
            · (intro w hSw; (try dsimp only at hSw); go_simp; first | done | with_reducible rfl)
            try simp only [Act.put, List.setIfInBounds_toArray, List.set_cons_zero, List.set_cons_succ]
            refine wpAnyH_take (i := 34) (oi := { dst := some 124, op := Op.pick (Operand.tmp 116) (Operand.const (Value.bool true)) (Operand.tmp 123), type := 4, pos := _, after := #[{ on := 26, ground := Ground.data }, { on := 33, ground := Ground.data }], guard := none }) (v := ?_) rfl (by kernel_rfl) (by kernel_rfl) (by kernel_rfl) (fun _ _ _ h => h) (Or.inl ⟨by rfl, ?_⟩) (by assumption) ?_
            rotate_left 1
            · (intro w hSw; (try dsimp only at hSw); go_simp; first | done | with_reducible rfl)
            try simp only [Act.put, List.setIfInBounds_toArray, List.set_cons_zero, List.set_cons_succ]
            refine wpAnyH_done (by kernel_rfl) ?_ _
            refine NoPanic.normal ?_
            have HBB := Lib.hid (Since.step HS9.out hB1)
            clear hB1
            go_wp2_with fail
            go_meet
            exact ⟨rfl, HBB⟩
      case rest =>
      obtain ⟨rfl, hS12⟩ := hcut
      have HSR := Lib.hid (Since.step HSA.out hS12.out)
      clear hS12
      go_wp2
      go_roundw
      case rel => exact ⟨i + 1, by omega, by go_num, HSR⟩
      case measure => simp [intOf]; omega
    · have j1 : ¬ (i : Int) < no := by omega
      have HBF := Lib.hid (hB.out.trans (Below.mono hS.out hB.out.size))
      go_wp2_with fail
      refine (lives06_any _).mono ?_
      rintro e wz ⟨rfl, hrz⟩
      have HBZ := Lib.hid (HBF.out.trans (hrz.mono HBF.out.size))
      clear hrz
      go_wp2
      go_ret
      exact ⟨rfl, HBZ.out⟩

end Go.Proofs.Ytodlcfjdmadpmaa
