import Derived.Test.YtimbgjpjgbjnkaaBoxSp2
import Derived.Deep.DeepCutAuto
/- Contracts of package span: Valid. -/
namespace Go.Proofs.Ytimbgjpjgbjnkaa
open Go.RowKit Go.Shelf

/-- All are valid, in order, with gaps between them. -/
def Fit (xs : List Iv) : Prop := (∀ (i : Nat) (x : Iv), xs[i]? = some x → x.good = true) ∧ ∀ (i : Nat) (x y : Iv), xs[i]? = some x → xs[i + 1]? = some y → x.to.key < y.from.key

open Classical in
/-- What Valid returns. -/
noncomputable def validL (xs : List Iv) : Int := if Fit xs then (if 32 < xs.length then 4 else 0) else 1

theorem Fit.nil : Fit [] := ⟨fun i x h => by simp at h, fun i x y h => by simp at h⟩

theorem Fit.take {xs : List Iv} (h : Fit xs) (k : Nat) : Fit (xs.take k) := by
  constructor
  · intro i x hx
    rw [List.getElem?_take] at hx
    split at hx
    · exact h.1 i x hx
    · cases hx
  · intro i x y hx hy
    rw [List.getElem?_take] at hx hy
    split at hx
    · split at hy
      · exact h.2 i x y hx hy
      · cases hy
    · cases hx

theorem Fit.snoc {xs : List Iv} {k : Nat} {x : Iv} (h : Fit (xs.take k)) (hx : xs[k]? = some x) (hg : x.good = true) (hc : ∀ y, 0 < k → xs[k - 1]? = some y → y.to.key < x.from.key) : Fit (xs.take (k + 1)) := by
  constructor
  · intro i y hy
    rw [List.getElem?_take] at hy
    split at hy
    · by_cases e : i = k
      · subst e
        rw [hx] at hy
        cases hy
        exact hg
      · exact h.1 i y (by rw [List.getElem?_take, if_pos (by omega)]; exact hy)
    · cases hy
  · intro i y z hy hz
    rw [List.getElem?_take] at hy hz
    split at hz
    · rw [if_pos (by omega)] at hy
      by_cases e : i + 1 = k
      · subst e
        rw [hx] at hz
        cases hz
        exact hc y (by omega) hy
      · exact h.2 i y z (by rw [List.getElem?_take, if_pos (by omega)]; exact hy) (by rw [List.getElem?_take, if_pos (by omega)]; exact hz)
    · cases hz

theorem BoxL.store3 {W : World} {N : Nat} {a b c x y z : Value} (h : BoxL N [a, b, c] W) : BoxL N [x, y, z] (((W.setCell ⟨N, 0, none⟩ x).setCell ⟨N, 1, none⟩ y).setCell ⟨N, 2, none⟩ z) := by
  obtain ⟨c0, c1, c2, f0, f1, f2, hz⟩ := h.open3
  refine ⟨?_, fun i v hv => ?_⟩
  · have := (((Below.refl N W).setCell (p := ⟨N, 0, none⟩) (Nat.le_refl _) x).setCell (p := ⟨N, 1, none⟩) (Nat.le_refl _) y).setCell (p := ⟨N, 2, none⟩) (Nat.le_refl _) z
    exact Nat.lt_of_lt_of_le hz this.size
  · rw [World.frozen?_setCell, World.frozen?_setCell, World.frozen?_setCell]
    match i with
    | 0 =>
      cases hv
      refine ⟨?_, f0⟩
      rw [World.cell?_setCell_other _ ⟨N, 2, none⟩ ⟨N, 0, none⟩ _ (by simp), World.cell?_setCell_other _ ⟨N, 1, none⟩ ⟨N, 0, none⟩ _ (by simp)]
      exact World.cell?_setCell_same _ _ _ c0
    | 1 =>
      cases hv
      refine ⟨?_, f1⟩
      rw [World.cell?_setCell_other _ ⟨N, 2, none⟩ ⟨N, 1, none⟩ _ (by simp)]
      exact World.cell?_setCell_same _ _ _ ((World.cell?_setCell_other _ ⟨N, 0, none⟩ ⟨N, 1, none⟩ _ (by simp)).trans c1)
    | 2 =>
      cases hv
      refine ⟨?_, f2⟩
      exact World.cell?_setCell_same _ _ _ ((World.cell?_setCell_other _ ⟨N, 1, none⟩ ⟨N, 2, none⟩ _ (by simp)).trans ((World.cell?_setCell_other _ ⟨N, 0, none⟩ ⟨N, 2, none⟩ _ (by simp)).trans c2))
    | i + 3 => simp at hv

/-- The cells of an element. -/
theorem iv_at {w : World} {b n c : Nat} {xs : List Iv} {j : Nat} {x : Iv} (h : REls RIv w (.slice (some ⟨b, 0, none⟩) n c) xs) (hx : xs[j]? = some x) :
    w.cell? ⟨b, j * 8, none⟩ = some (.int .i64 x.a) ∧ w.cell? ⟨b, j * 8 + 1, none⟩ = some (.int .i64 x.b) ∧ w.cell? ⟨b, j * 8 + 2, none⟩ = some (.int .i64 x.c) ∧ w.cell? ⟨b, j * 8 + 3, none⟩ = some (.int .i64 x.d)
    ∧ w.cell? ⟨b, j * 8 + 4, none⟩ = some (.bool x.p) ∧ w.cell? ⟨b, j * 8 + 5, none⟩ = some (.bool x.q) ∧ w.cell? ⟨b, j * 8 + 6, none⟩ = some (.bool x.r) ∧ w.cell? ⟨b, j * 8 + 7, none⟩ = some (.bool x.s) ∧ b < w.heap.size := by
  have hn := h.len
  have hj : j < n := by rw [hn]; exact (List.getElem?_eq_some_iff.1 hx).1
  obtain ⟨b', e, hb, hc, hat⟩ := h.get hj
  cases e
  have g := fun i v hv => hat j x hx i v hv
  exact ⟨g 0 _ rfl, g 1 _ rfl, g 2 _ rfl, g 3 _ rfl, g 4 _ rfl, g 5 _ rfl, g 6 _ rfl, g 7 _ rfl, hb⟩

/-- The cut behind the k-th interval. -/
def lastC (xs : List Iv) (k : Nat) : Cut := if k = 0 then ⟨0, 0, false⟩ else match xs[k - 1]? with | some x => x.to | none => ⟨0, 0, false⟩

theorem lastC_succ {xs : List Iv} {k : Nat} {x : Iv} (h : xs[k]? = some x) : lastC xs (k + 1) = x.to := by
  unfold lastC
  rw [if_neg (by omega), Nat.add_sub_cancel, h]

theorem good_parts {x : Iv} (h : x.good = true) : x.from.Ok ∧ x.to.Ok ∧ x.from.key < x.to.key := by
  unfold Iv.good at h
  simp only [Bool.and_eq_true, decide_eq_true_eq] at h
  exact ⟨from_ok h.1.1, to_ok h.1.2, h.2⟩

set_option maxHeartbeats 8000000 in
set_option maxRecDepth 100000 in
theorem svalid_any (sv : Value) (xs : List Iv) (w : World) (h : REls RIv w sv xs) (hwf : ∀ x ∈ xs, x.wf) (hl : xs.length ≤ 1000000) :
    Calls Try.prog 19 #[sv] w fun e w' => e = .returned (.int .i64 (validL xs)) ∧ Below w.heap.size w w' := by
  obtain ⟨a, cap, rfl⟩ := h.shape
  have HE := Lib.hid h
  have HWF := Lib.hid hwf
  generalize hn : xs.length = n at *
  have HN := Lib.hid hn
  clear h hwf hn
  have HB0 := Lib.hid ((Below.refl w.heap.size w).alloc (Nat.le_refl _) (.cells #[.int .i64 0, .int .i64 0, .bool false] 75))
  have X0 := Lib.hid (BoxL.made w #[.int .i64 0, .int .i64 0, .bool false] 75)
  go_enter Try.func19, Try.ntmps19
  go_wp2
  go_loopw [10] (fun x wr => ∃ k : Nat, k ≤ n ∧ x = .int .i64 k ∧ Hid (Fit (xs.take k)) ∧ Hid (BoxL w.heap.size [.int .i64 (lastC xs k).n, .int .i64 (lastC xs k).d, .bool (lastC xs k).a] wr) ∧ Hid (Below w.heap.size w wr)) (fun x _ => n - (intOf x).toNat)
  case atStart => exact ⟨0, by omega, rfl, Fit.nil, X0, HB0⟩
  case round =>
    obtain ⟨k, hk, rfl, hF, hX, hB⟩ := hrel
    by_cases hlt : k < n
    · have hki : (k : Int) < n := by omega
      obtain ⟨x, hx⟩ : ∃ x, xs[k]? = some x := ⟨xs[k]'(by rw [HN.out]; exact hlt), List.getElem?_eq_getElem _⟩
      obtain ⟨b, rfl, -⟩ := HE.out.get hlt
      obtain ⟨g0, g1, g2, g3, g4, g5, g6, g7, hb⟩ := iv_at (HE.out.below hB.out) hx
      have k1 := Lib.hid fun W => viv_any x W (HWF.out x (List.mem_of_getElem? hx))
      have k3 := Lib.hid fun W => bounds_any x W
      have k4 := Lib.hid fun (h : x.good = true) (c : Cut) (hc : c.Ok) W => scmp_any c x.from W hc (good_parts h).1
      have HX := Lib.hid hx
      have hXx := Lib.hid (cell_new8 wr (.int .i64 x.a) (.int .i64 x.b) (.int .i64 x.c) (.int .i64 x.d) (.bool x.p) (.bool x.q) (.bool x.r) (.bool x.s) 27)
      have hX1 := Lib.hid (hX.out.under (.cells #[.int .i64 x.a, .int .i64 x.b, .int .i64 x.c, .int .i64 x.d, .bool x.p, .bool x.q, .bool x.r, .bool x.s] 27))
      have hB1 := Lib.hid (hB.out.alloc hB.out.size (.cells #[.int .i64 x.a, .int .i64 x.b, .int .i64 x.c, .int .i64 x.d, .bool x.p, .bool x.q, .bool x.r, .bool x.s] 27))
      clear hx hX hB
      generalize hG : x.good = G at *
      generalize hFc : x.from = fc at *
      generalize hTc : x.to = tc at *
      have HG := Lib.hid hG
      have HFc := Lib.hid hFc
      have HTc := Lib.hid hTc
      clear hG hFc hTc
      generalize hLc : lastC xs k = lc at *
      have HLc := Lib.hid hLc
      clear hLc
      obtain ⟨xa, xb, xc, xd, xp, xq, xr, xs'⟩ := x
      obtain ⟨fn, fd, fa⟩ := fc
      obtain ⟨tn, td, ta⟩ := tc
      obtain ⟨ln, ld, la⟩ := lc
      unfold Iv.v Cut.v at *
      simp only at *
      have hlok : ∀ _ : 0 < k, Cut.Ok ⟨ln, ld, la⟩ := by
        intro h0
        obtain ⟨y, hy⟩ : ∃ y, xs[k - 1]? = some y := ⟨xs[k - 1]'(by rw [HN.out]; omega), List.getElem?_eq_getElem _⟩
        have hg := hF.out.1 (k - 1) y (by rw [List.getElem?_take, if_pos (by omega)]; exact hy)
        have e := HLc.out
        unfold lastC at e
        rw [if_neg (by omega), hy] at e
        rw [← e]
        exact (good_parts hg).2.1
      have HLok := Lib.hid hlok
      clear hlok
      cases G
      case false =>
        have hE := Lib.hid (show validL xs = 1 from by unfold validL; rw [if_neg (fun hf => by have := hf.1 k _ HX.out; rw [HG.out] at this; cases this)])
        clear k3 k4 HFc HTc HLc hF HLok
        go_wp2_with fail
        refine (k1.out _).mono ?_
        rintro e w1 ⟨rfl, hB⟩
        have H1 := Lib.hid (hB1.out.trans (hB.mono hB1.out.size))
        clear hB
        go_wp2
        go_ret
        exact ⟨ret_int hE.out.symm, H1.out⟩
      case true =>
        have K4 := Lib.hid (k4.out rfl)
        clear k4
        go_wp2_with fail
        refine (k1.out _).mono ?_
        rintro e w1 ⟨rfl, hB⟩
        have H1 := Lib.hid (hB1.out.trans (hB.mono hB1.out.size))
        have XX := Lib.hid (hXx.out.keep hB)
        have XL := Lib.hid (hX1.out.keep hB)
        clear hB hB1 hXx hX1 g0 g1 g2 g3 g4 g5 g6 g7 hb
        obtain ⟨a0, a1, a2, a3, a4, a5, a6, a7, a8⟩ := XX.out.open8
        go_wp2_with fail
        refine (k3.out _).mono ?_
        rintro e w2 ⟨rfl, hB⟩
        have H2 := Lib.hid (((H1.out.trans (hB.mono H1.out.size)).alloc (H1.out.trans (hB.mono H1.out.size)).size (.cells #[.int .i64 fn, .int .i64 fd, .bool fa] 75)).alloc (Nat.le_trans (H1.out.trans (hB.mono H1.out.size)).size (by simp)) (.cells #[.int .i64 tn, .int .i64 td, .bool ta] 75))
        have XL2 := Lib.hid (((XL.out.keep hB).under (.cells #[.int .i64 fn, .int .i64 fd, .bool fa] 75)).under (.cells #[.int .i64 tn, .int .i64 td, .bool ta] 75))
        have xt := BoxL.made (w2.alloc (.cells #[.int .i64 fn, .int .i64 fd, .bool fa] 75)) #[.int .i64 tn, .int .i64 td, .bool ta] 75
        rw [size_alloc] at xt
        have XT := Lib.hid xt
        clear hB H1 XX XL a0 a1 a2 a3 a4 a5 a6 a7 a8 xt
        obtain ⟨l0, l1, l2, m0, m1, m2, l3⟩ := XL2.out.open3
        by_cases hk0 : k = 0
        · have hk0' : (k : Int) ≤ 0 := by omega
          go_wp2
          go_roundw
          case rel =>
            refine ⟨k + 1, by omega, by go_num, Fit.snoc hF.out HX.out HG.out (fun y h0 _ => by omega), ?_, ?_⟩
            · show BoxL _ _ _
              rw [lastC_succ HX.out, HTc.out]
              exact XL2.out.store3
            · exact ((H2.out.setCell (p := ⟨w.heap.size, 0, none⟩) (Nat.le_refl _) _).setCell (p := ⟨w.heap.size, 1, none⟩) (Nat.le_refl _) _).setCell (p := ⟨w.heap.size, 2, none⟩) (Nat.le_refl _) _
          case measure => simp [intOf]; omega
        · have hk0' : 0 < (k : Int) := by omega
          go_wp2_with fail
          refine (K4.out ⟨ln, ld, la⟩ (HLok.out (by omega)) _).mono ?_
          rintro e w3 ⟨rfl, hB⟩
          have H3 := Lib.hid (H2.out.trans (hB.mono H2.out.size))
          have XL3 := Lib.hid (XL2.out.keep hB)
          have XT3 := Lib.hid (XT.out.keep hB)
          clear hB H2 XL2 XT l0 l1 l2 m0 m1 m2 l3
          obtain ⟨l0, l1, l2, m0, m1, m2, l3⟩ := XL3.out.open3
          obtain ⟨t0, t1, t2, -, -, -, t3⟩ := XT3.out.open3
          by_cases hlt2 : Cut.key ⟨ln, ld, la⟩ < Cut.key ⟨fn, fd, fa⟩
          · have hV : cmpC ⟨ln, ld, la⟩ ⟨fn, fd, fa⟩ = -1 := by unfold cmpC; rw [if_pos hlt2]
            rw [hV]
            have HF2 : Hid (Fit (xs.take (k + 1))) := Fit.snoc hF.out HX.out HG.out (fun y h0 hy => by
              have e := HLc.out
              unfold lastC at e
              rw [if_neg (by omega), hy] at e
              rw [HFc.out]
              have e' : y.to = ⟨ln, ld, la⟩ := e
              rw [e']
              exact hlt2)
            clear hlt2 hV
            go_wp2
            go_roundw
            case rel =>
              refine ⟨k + 1, by omega, by go_num, HF2, ?_, ?_⟩
              · show BoxL _ _ _
                rw [lastC_succ HX.out, HTc.out]
                exact XL3.out.store3
              · exact ((H3.out.setCell (p := ⟨w.heap.size, 0, none⟩) (Nat.le_refl _) _).setCell (p := ⟨w.heap.size, 1, none⟩) (Nat.le_refl _) _).setCell (p := ⟨w.heap.size, 2, none⟩) (Nat.le_refl _) _
            case measure => simp [intOf]; omega
          · have hE := Lib.hid (show validL xs = 1 from by
              unfold validL
              rw [if_neg (fun hf => by
                obtain ⟨y, hy⟩ : ∃ y, xs[k - 1]? = some y := ⟨xs[k - 1]'(by rw [HN.out]; omega), List.getElem?_eq_getElem _⟩
                have e := HLc.out
                unfold lastC at e
                rw [if_neg (by omega), hy] at e
                have e' : y.to = ⟨ln, ld, la⟩ := e
                have := hf.2 (k - 1) y _ hy (by rw [show k - 1 + 1 = k by omega]; exact HX.out)
                rw [HFc.out, e'] at this
                exact hlt2 this)])
            have hV : 0 ≤ cmpC ⟨ln, ld, la⟩ ⟨fn, fd, fa⟩ := by unfold cmpC; rw [if_neg hlt2]; split <;> omega
            generalize cmpC ⟨ln, ld, la⟩ ⟨fn, fd, fa⟩ = V at *
            clear hlt2
            go_wp2
            go_ret
            exact ⟨ret_int hE.out.symm, H3.out⟩
    · have hki : (n : Int) ≤ (k : Int) := by omega
      have hfit : Fit xs := by
        have := hF.out
        rwa [List.take_of_length_le (by rw [HN.out]; omega)] at this
      have hnn := HN.out
      by_cases h32 : 32 < n
      · have hE := Lib.hid (show validL xs = 4 from by unfold validL; rw [if_pos hfit, if_pos (by omega)])
        have h32' : (32 : Int) < (n : Int) := by omega
        clear hfit hnn hX
        go_wp2
        go_ret
        exact ⟨ret_int hE.out.symm, hB.out⟩
      · have hE := Lib.hid (show validL xs = 0 from by unfold validL; rw [if_pos hfit, if_neg (by omega)])
        have h32' : (n : Int) ≤ 32 := by omega
        clear hfit hnn hX
        go_wp2
        go_ret
        exact ⟨ret_int hE.out.symm, hB.out⟩

end Go.Proofs.Ytimbgjpjgbjnkaa

/- Contracts of package span: Has, Equal, limited. -/
namespace Go.Proofs.Ytimbgjpjgbjnkaa
open Go.RowKit Go.Shelf

/-- Whether an interval has a number. -/
noncomputable def hasI (n d : Int) (x : Iv) : Bool := x.good && decide (x.from.key ≤ 2 * kR n d) && decide (2 * kR n d + 1 ≤ x.to.key)

theorem key_before (n d : Int) : Cut.key ⟨n, d, false⟩ = 2 * kR n d := by unfold Cut.key; simp
theorem key_after (n d : Int) : Cut.key ⟨n, d, true⟩ = 2 * kR n d + 1 := by unfold Cut.key; simp

theorem cmpC_le {x y : Cut} : decide (cmpC x y ≤ 0) = decide (x.key ≤ y.key) := by
  unfold cmpC
  by_cases h1 : x.key < y.key
  · rw [if_pos h1, decide_eq_true (show x.key ≤ y.key by omega)]; rfl
  · rw [if_neg h1]
    by_cases h2 : x.key = y.key
    · rw [if_pos h2, decide_eq_true (show x.key ≤ y.key by omega)]; rfl
    · rw [if_neg h2, decide_eq_false (show ¬ x.key ≤ y.key by omega)]; rfl

set_option maxHeartbeats 8000000 in
set_option maxRecDepth 100000 in
theorem has1_any (x : Iv) (N : Nat) (n d : Int) (w : World) (hx : x.wf) (ho : Qm.Ok n d) (hb : BoxL N [.int .i64 n, .int .i64 d] w) :
    Calls Try.prog 55 #[x.v, .pointer (some ⟨N, 0, none⟩)] w fun e w' => e = .returned (.bool (hasI n d x)) ∧ Below w.heap.size w w' := by
  have k1 := Lib.hid fun W => viv_any x W hx
  have k3 := Lib.hid fun W => bounds_any x W
  have k4 := Lib.hid fun (h : x.good = true) W => scmp_any x.from ⟨n, d, false⟩ W (good_parts h).1 ho
  have k5 := Lib.hid fun (h : x.good = true) W => scmp_any ⟨n, d, true⟩ x.to W ho (good_parts h).2.1
  have HB0 := Lib.hid ((Below.refl w.heap.size w).alloc (Nat.le_refl _) (.cells #[.int .i64 x.a, .int .i64 x.b, .int .i64 x.c, .int .i64 x.d, .bool x.p, .bool x.q, .bool x.r, .bool x.s] 27))
  have XA := Lib.hid (cell_new8 w (.int .i64 x.a) (.int .i64 x.b) (.int .i64 x.c) (.int .i64 x.d) (.bool x.p) (.bool x.q) (.bool x.r) (.bool x.s) 27)
  have XR := Lib.hid (hb.under (.cells #[.int .i64 x.a, .int .i64 x.b, .int .i64 x.c, .int .i64 x.d, .bool x.p, .bool x.q, .bool x.r, .bool x.s] 27))
  have hG : hasI n d x = (x.good && decide (x.from.key ≤ 2 * kR n d) && decide (2 * kR n d + 1 ≤ x.to.key)) := rfl
  rw [← key_after n d, ← key_before n d, ← cmpC_le, ← cmpC_le] at hG
  rw [hG]
  clear hG hx hb ho
  generalize x.good = G at *
  generalize x.from = F at *
  generalize x.to = T at *
  obtain ⟨a, b, c, dd, p, q, r, s⟩ := x
  generalize hV1 : cmpC F ⟨n, d, false⟩ = V1 at *
  generalize hV2 : cmpC ⟨n, d, true⟩ T = V2 at *
  clear hV1 hV2
  obtain ⟨fn, fd, fa⟩ := F
  obtain ⟨tn, td, ta⟩ := T
  unfold Iv.v Cut.v at *
  simp only at *
  cases G
  case false =>
    go_enter Try.func55, Try.ntmps55
    go_wp2_with fail
    refine (k1.out _).mono ?_
    rintro e w1 ⟨rfl, hB⟩
    have H1 := Lib.hid (HB0.out.trans (hB.mono HB0.out.size))
    clear hB
    go_wp2
    go_ret
    exact ⟨rfl, H1.out⟩
  case true =>
    have K4 := Lib.hid (k4.out rfl)
    have K5 := Lib.hid (k5.out rfl)
    clear k4 k5
    rw [Bool.true_and]
    by_cases hv1 : V1 ≤ 0
    · rw [decide_eq_true hv1, Bool.true_and]
      go_enter Try.func55, Try.ntmps55
      go_wp2_with fail
      refine (k1.out _).mono ?_
      rintro e w1 ⟨rfl, hB⟩
      have H1 := Lib.hid (HB0.out.trans (hB.mono HB0.out.size))
      have XX := Lib.hid (XA.out.keep hB)
      have XR1 := Lib.hid (XR.out.keep hB)
      clear hB XA XR
      obtain ⟨a0, a1, a2, a3, a4, a5, a6, a7, a8⟩ := XX.out.open8
      go_wp2_with fail
      refine (k3.out _).mono ?_
      rintro e w2 ⟨rfl, hB⟩
      have H2 := Lib.hid (((H1.out.trans (hB.mono H1.out.size)).alloc (H1.out.trans (hB.mono H1.out.size)).size (.cells #[.int .i64 fn, .int .i64 fd, .bool fa] 75)).alloc (Nat.le_trans (H1.out.trans (hB.mono H1.out.size)).size (by simp)) (.cells #[.int .i64 tn, .int .i64 td, .bool ta] 75))
      have XR2 := Lib.hid (((XR1.out.keep hB).under (.cells #[.int .i64 fn, .int .i64 fd, .bool fa] 75)).under (.cells #[.int .i64 tn, .int .i64 td, .bool ta] 75))
      have xt := BoxL.made (w2.alloc (.cells #[.int .i64 fn, .int .i64 fd, .bool fa] 75)) #[.int .i64 tn, .int .i64 td, .bool ta] 75
      rw [size_alloc] at xt
      have XT := Lib.hid xt
      clear hB H1 XX XR1 a0 a1 a2 a3 a4 a5 a6 a7 a8 xt
      obtain ⟨r0, r1, -, -, r2⟩ := XR2.out.open2
      go_wp2_with fail
      refine (K4.out _).mono ?_
      rintro e w3 ⟨rfl, hB⟩
      have H3 := Lib.hid (H2.out.trans (hB.mono H2.out.size))
      have XR3 := Lib.hid (XR2.out.keep hB)
      have XT3 := Lib.hid (XT.out.keep hB)
      clear hB H2 XR2 XT r0 r1 r2
      obtain ⟨r0, r1, -, -, r2⟩ := XR3.out.open2
      obtain ⟨t0, t1, t2, -, -, -, t3⟩ := XT3.out.open3
      go_wp2_with fail
      refine (K5.out _).mono ?_
      rintro e w4 ⟨rfl, hB⟩
      have H4 := Lib.hid (H3.out.trans (hB.mono H3.out.size))
      clear hB
      go_wp2
      go_ret
      exact ⟨rfl, H4.out⟩
    · rw [decide_eq_false hv1, Bool.false_and]
      have hv1' : decide (V1 ≤ 0) = false := decide_eq_false hv1
      go_enter Try.func55, Try.ntmps55
      go_wp2_with fail
      refine (k1.out _).mono ?_
      rintro e w1 ⟨rfl, hB⟩
      have H1 := Lib.hid (HB0.out.trans (hB.mono HB0.out.size))
      have XX := Lib.hid (XA.out.keep hB)
      have XR1 := Lib.hid (XR.out.keep hB)
      clear hB XA XR
      obtain ⟨a0, a1, a2, a3, a4, a5, a6, a7, a8⟩ := XX.out.open8
      go_wp2_with fail
      refine (k3.out _).mono ?_
      rintro e w2 ⟨rfl, hB⟩
      have H2 := Lib.hid (((H1.out.trans (hB.mono H1.out.size)).alloc (H1.out.trans (hB.mono H1.out.size)).size (.cells #[.int .i64 fn, .int .i64 fd, .bool fa] 75)).alloc (Nat.le_trans (H1.out.trans (hB.mono H1.out.size)).size (by simp)) (.cells #[.int .i64 tn, .int .i64 td, .bool ta] 75))
      have XR2 := Lib.hid (((XR1.out.keep hB).under (.cells #[.int .i64 fn, .int .i64 fd, .bool fa] 75)).under (.cells #[.int .i64 tn, .int .i64 td, .bool ta] 75))
      have xt := BoxL.made (w2.alloc (.cells #[.int .i64 fn, .int .i64 fd, .bool fa] 75)) #[.int .i64 tn, .int .i64 td, .bool ta] 75
      rw [size_alloc] at xt
      have XT := Lib.hid xt
      clear hB H1 XX XR1 a0 a1 a2 a3 a4 a5 a6 a7 a8 xt
      obtain ⟨r0, r1, -, -, r2⟩ := XR2.out.open2
      go_wp2_with fail
      refine (K4.out _).mono ?_
      rintro e w3 ⟨rfl, hB⟩
      have H3 := Lib.hid (H2.out.trans (hB.mono H2.out.size))
      have XR3 := Lib.hid (XR2.out.keep hB)
      have XT3 := Lib.hid (XT.out.keep hB)
      clear hB H2 XR2 XT r0 r1 r2
      obtain ⟨r0, r1, -, -, r2⟩ := XR3.out.open2
      obtain ⟨t0, t1, t2, -, -, -, t3⟩ := XT3.out.open3
      go_wp2
      go_ret
      exact ⟨rfl, H3.out⟩

/-- What IndexFunc returns. -/
def Idx (b : Bool) (w : World) (e : Ending) (w' : World) : Prop := ∃ v : Int, e = .returned (.int .i64 v) ∧ (0 ≤ v ↔ b = true) ∧ Below w.heap.size w w'

set_option maxHeartbeats 8000000 in
set_option maxRecDepth 100000 in
theorem index_any (sv : Value) (xs : List Iv) (N : Nat) (n d : Int) (w : World) (h : REls RIv w sv xs) (hwf : ∀ x ∈ xs, x.wf) (hl : xs.length ≤ 1000000) (ho : Qm.Ok n d) (hb : BoxL N [.int .i64 n, .int .i64 d] w) :
    Calls Try.prog 91 #[sv, .func (.func 55) #[] #[.pointer (some ⟨N, 0, none⟩)]] w (Idx (xs.any (hasI n d)) w) := by
  obtain ⟨a, cap, rfl⟩ := h.shape
  have HE := Lib.hid h
  have HWF := Lib.hid hwf
  have HX := Lib.hid hb
  have HO := Lib.hid ho
  generalize hn : xs.length = m at *
  have HN := Lib.hid hn
  clear h hwf hn hb ho
  go_enter Try.func91, Try.ntmps91
  go_wp2
  go_loopw [8] (fun x wr => ∃ k : Nat, k ≤ m ∧ x = .int .i64 k ∧ Hid ((xs.take k).any (hasI n d) = false) ∧ Hid (Below w.heap.size w wr)) (fun x _ => m - (intOf x).toNat)
  case atStart => exact ⟨0, by omega, rfl, rfl, Below.refl _ _⟩
  case round =>
    obtain ⟨k, hk, rfl, hF, hB⟩ := hrel
    by_cases hlt : k < m
    · have hki : (k : Int) < m := by omega
      obtain ⟨x, hx⟩ : ∃ x, xs[k]? = some x := ⟨xs[k]'(by rw [HN.out]; exact hlt), List.getElem?_eq_getElem _⟩
      obtain ⟨b, rfl, -⟩ := HE.out.get hlt
      obtain ⟨g0, g1, g2, g3, g4, g5, g6, g7, hb⟩ := iv_at (HE.out.below hB.out) hx
      have k1 := Lib.hid (has1_any x N n d wr (HWF.out x (List.mem_of_getElem? hx)) HO.out (HX.out.keep hB.out))
      have hany : (xs.take (k + 1)).any (hasI n d) = hasI n d x := by
        rw [List.take_add_one, hx, List.any_append, hF.out]
        simp
      have hmem : hasI n d x = true → xs.any (hasI n d) = true := fun h => List.any_eq_true.2 ⟨x, List.mem_of_getElem? hx, h⟩
      have HA := Lib.hid hany
      have HM := Lib.hid hmem
      clear hx hany hmem
      generalize hasI n d x = G at *
      obtain ⟨xa, xb, xc, xd, xp, xq, xr, xs'⟩ := x
      unfold Iv.v at *
      simp only at *
      go_wp2_with fail
      refine (k1.out).mono ?_
      rintro e w1 ⟨rfl, hB1⟩
      have H1 := Lib.hid (hB.out.trans (hB1.mono hB.out.size))
      clear hB1 hB
      cases G
      case false =>
        go_wp2
        go_roundw
        case rel => exact ⟨k + 1, by omega, by go_num, HA, H1⟩
        case measure => simp [intOf]; omega
      case true =>
        go_wp2
        go_ret
        exact ⟨k, rfl, ⟨fun _ => HM.out (by first | rfl | trivial), fun _ => by omega⟩, H1.out⟩
    · have hki : (m : Int) ≤ (k : Int) := by omega
      have hall : xs.any (hasI n d) = false := by
        have := hF.out
        rwa [List.take_of_length_le (by rw [HN.out]; omega)] at this
      have HA := Lib.hid hall
      clear hall
      go_wp2
      go_ret
      exact ⟨-1, rfl, ⟨fun h => by omega, fun h => by rw [HA.out] at h; cases h⟩, hB.out⟩

theorem contains_any (sv : Value) (xs : List Iv) (N : Nat) (n d : Int) (w : World) (h : REls RIv w sv xs) (hwf : ∀ x ∈ xs, x.wf) (hl : xs.length ≤ 1000000) (ho : Qm.Ok n d) (hb : BoxL N [.int .i64 n, .int .i64 d] w) :
    Calls Try.prog 54 #[sv, .func (.func 55) #[] #[.pointer (some ⟨N, 0, none⟩)]] w fun e w' => e = .returned (.bool (xs.any (hasI n d))) ∧ Below w.heap.size w w' := by
  have k1 := Lib.hid (index_any sv xs N n d w h hwf hl ho hb)
  clear h hwf hb
  go_enter Try.func54, Try.ntmps54
  go_wp2_with fail
  refine (k1.out).mono ?_
  rintro e w1 ⟨v, rfl, hv, hB⟩
  have HV := Lib.hid (show decide (0 ≤ v) = xs.any (hasI n d) from by
    by_cases h : 0 ≤ v
    · rw [decide_eq_true h, hv.1 h]
    · rw [decide_eq_false h]
      exact (Bool.eq_false_iff.2 fun hh => h (hv.2 hh)).symm)
  have HB := Lib.hid hB
  clear hv hB
  go_wp2
  go_ret
  exact ⟨ret_bool HV.out, HB.out⟩

/-- What Has returns. -/
noncomputable def hasL (xs : List Iv) (n d : Int) : Bool := decide (Qm.Ok n d) && xs.any (hasI n d)

set_option maxHeartbeats 2000000 in
set_option maxRecDepth 100000 in
theorem shas_any (sv : Value) (xs : List Iv) (n d : Int) (w : World) (h : REls RIv w sv xs) (hwf : ∀ x ∈ xs, x.wf) (hl : xs.length ≤ 1000000) (hn : I64 n) (hd : I64 d) :
    Calls Try.prog 23 #[sv, rv n d] w fun e w' => e = .returned (.bool (hasL xs n d)) ∧ Below w.heap.size w w' := by
  have HB0 := Lib.hid ((Below.refl w.heap.size w).alloc (Nat.le_refl _) (.cells #[.int .i64 n, .int .i64 d] 25))
  have XA := Lib.hid (BoxL.made w #[.int .i64 n, .int .i64 d] 25)
  have k1 := fun w => rvalid_any n d w hn hd
  unfold rv at *
  by_cases ho : Qm.Ok n d
  · have hE : hasL xs n d = xs.any (hasI n d) := by unfold hasL; rw [decide_eq_true ho, Bool.true_and]
    have k2 := Lib.hid fun W (h0 : Below w.heap.size w W) (hb : BoxL w.heap.size [.int .i64 n, .int .i64 d] W) => contains_any sv xs w.heap.size n d W (h.below h0) hwf hl ho hb
    rw [hE, Qm.validI_ok.2 ho] at *
    have K1 := Lib.hid k1
    clear k1 hE h hwf ho
    go_enter Try.func23, Try.ntmps23
    go_wp2_with fail
    refine (K1.out _).mono ?_
    rintro e w1 ⟨rfl, hB⟩
    have H1 := Lib.hid (HB0.out.trans (hB.mono HB0.out.size))
    have X1 := Lib.hid (XA.out.keep hB)
    clear hB
    go_wp2_with fail
    refine (k2.out _ H1.out X1.out).mono ?_
    rintro e w2 ⟨rfl, hB⟩
    have H2 := Lib.hid (H1.out.trans (hB.mono H1.out.size))
    clear hB
    go_wp2
    go_ret
    exact ⟨rfl, H2.out⟩
  · have hE : hasL xs n d = false := by unfold hasL; rw [decide_eq_false ho, Bool.false_and]
    have hz : Qm.validI n d = 1 := (Qm.validI_two n d).resolve_left fun h => ho (Qm.validI_ok.1 h)
    rw [hE]
    rw [hz] at k1
    have K1 := Lib.hid k1
    clear k1 hE h hwf ho hz
    go_enter Try.func23, Try.ntmps23
    go_wp2_with fail
    refine (K1.out _).mono ?_
    rintro e w1 ⟨rfl, hB⟩
    have H1 := Lib.hid (HB0.out.trans (hB.mono HB0.out.size))
    clear hB
    go_wp2
    go_ret
    exact ⟨rfl, H1.out⟩

end Go.Proofs.Ytimbgjpjgbjnkaa

