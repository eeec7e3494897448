/- Contracts of the reference of span: Valid, Has, Equal. -/
import Derived.Test.YtimbgjpjgbjnkaaGb
import Derived.Deep.RegionHeld3
namespace Go.Proofs.Ytimbgjpjgbjnkaa
open Go.RowKit Go.Shelf

set_option maxHeartbeats 8000000 in
set_option maxRecDepth 100000 in
theorem gvalid_any (sv : Value) (xs : List Iv) (w : World) (h : REls RIv w sv xs) (hl : xs.length ≤ 1000000) :
    Calls Try.prog 20 #[sv] w fun e w' => e = .returned (.int .i64 (validL xs)) ∧ Below w.heap.size w w' := by
  obtain ⟨a, cap, rfl⟩ := h.shape
  have HE := Lib.hid h
  generalize hn : xs.length = n at *
  have HN := Lib.hid hn
  clear h hn
  go_enter Try.func20, Try.ntmps20
  go_wp2
  go_loopw [3] (fun x wr => ∃ k : Nat, k ≤ n ∧ x = .int .i64 k ∧ Hid (Fit (xs.take k)) ∧ Hid (Below w.heap.size w wr)) (fun x _ => n - (intOf x).toNat)
  case atStart => exact ⟨0, by omega, rfl, Fit.nil, Below.refl _ _⟩
  case round =>
    obtain ⟨k, hk, rfl, hF, hB⟩ := hrel
    by_cases hlt : k < n
    · have hki : (k : Int) < n := by omega
      obtain ⟨x, hx⟩ : ∃ x, xs[k]? = some x := ⟨xs[k]'(by rw [HN.out]; exact hlt), List.getElem?_eq_getElem _⟩
      obtain ⟨b, rfl, -⟩ := HE.out.get hlt
      have HEr := Lib.hid (HE.out.below hB.out)
      obtain ⟨g0, g1, g2, g3, g4, g5, g6, g7, hb⟩ := iv_at HEr.out hx
      have k1 := Lib.hid fun W => good_any x W
      have HX := Lib.hid hx
      clear hx
      cases hG : x.good
      case false =>
        have hE := Lib.hid (show validL xs = 1 from by unfold validL; rw [if_neg (fun hf => by have := hf.1 k _ HX.out; rw [hG] at this; cases this)])
        rw [hG] at k1
        clear hG
        obtain ⟨xa, xb, xc, xd, xp, xq, xr, xs'⟩ := x
        unfold Iv.v at *
        simp only at *
        go_wp2_with fail
        refine (k1.out _).mono ?_
        rintro e w1 ⟨rfl, hB1⟩
        have H1 := Lib.hid (hB.out.trans (hB1.mono hB.out.size))
        clear hB1 g0 g1 g2 g3 g4 g5 g6 g7
        go_wp2_with fail
        go_quiet (fail)
        go_wp2
        go_ret
        exact ⟨ret_int hE.out.symm, below_drewN H1.out _⟩
      case true =>
        have HG := Lib.hid hG
        rw [hG] at k1
        clear hG
        by_cases hk0 : k = 0
        · have hk0' : (k : Int) ≤ 0 := by omega
          have hd : decide (0 < (k : Int)) = false := decide_eq_false (by omega)
          have hd2 : decide (0 < k) = false := decide_eq_false (by omega)
          have HF2 : Hid (Fit (xs.take (k + 1))) := Fit.snoc hF.out HX.out HG.out (fun y h0 _ => by omega)
          have HK0 := Lib.hid hk0
          clear hk0
          obtain ⟨xa, xb, xc, xd, xp, xq, xr, xs'⟩ := x
          unfold Iv.v at *
          simp only at *
          go_wp2_with fail
          refine (k1.out _).mono ?_
          rintro e w1 ⟨rfl, hB1⟩
          have H1 := Lib.hid (hB.out.trans (hB1.mono hB.out.size))
          clear hB1 g0 g1 g2 g3 g4 g5 g6 g7
          go_wp2_with fail
          go_quiet (fail)
          go_wp2
          go_roundw
          case rel => exact ⟨k + 1, by omega, by go_num, HF2, below_drewN H1.out _⟩
          case measure => simp [intOf]; omega
        · have hk1 : 0 < (k : Int) := by omega
          have hk1' : 0 < k := by omega
          have hd2 : decide (0 < k) = true := decide_eq_true (by omega)
          obtain ⟨y, hy⟩ : ∃ y, xs[k - 1]? = some y := ⟨xs[k - 1]'(by rw [HN.out]; omega), List.getElem?_eq_getElem _⟩
          have hgy : y.good = true := hF.out.1 (k - 1) y (by rw [List.getElem?_take, if_pos (by omega)]; exact hy)
          obtain ⟨p0, p1, p2, p3, p4, p5, p6, p7, pb⟩ := iv_at HEr.out hy
          have k2 := fun W => apart_any y x W hgy HG.out
          have HY := Lib.hid hy
          have hT : Hid (decide (y.to.key < x.from.key) = true → Fit (xs.take (k + 1))) := fun h => Fit.snoc hF.out HX.out HG.out (fun z h0 hz => by
            rw [HY.out] at hz
            cases hz
            exact of_decide_eq_true h)
          have hE : Hid (decide (y.to.key < x.from.key) = false → validL xs = 1) := fun h => by
            unfold validL
            rw [if_neg (fun hf => by
              have := hf.2 (k - 1) y x HY.out (by rw [show k - 1 + 1 = k by omega]; exact HX.out)
              exact of_decide_eq_false h this)]
          clear hgy hy
          generalize decide (y.to.key < x.from.key) = G2 at *
          have K2 := Lib.hid k2
          have HK0 := Lib.hid hk0
          clear k2 hk0
          obtain ⟨xa, xb, xc, xd, xp, xq, xr, xs'⟩ := x
          obtain ⟨ya, yb, yc, yd, yp, yq, yr, ys'⟩ := y
          unfold Iv.v at *
          simp only at *
          go_wp2_with fail
          refine (k1.out _).mono ?_
          rintro e w1 ⟨rfl, hB1⟩
          have H1 := Lib.hid (hB.out.trans (hB1.mono hB.out.size))
          have hS1 : Since wr w1 := hB1
          have q0 := Since.cell hS1 g0
          have q1 := Since.cell hS1 g1
          have q2 := Since.cell hS1 g2
          have q3 := Since.cell hS1 g3
          have q4 := Since.cell hS1 g4
          have q5 := Since.cell hS1 g5
          have q6 := Since.cell hS1 g6
          have q7 := Since.cell hS1 g7
          have r0 := Since.cell hS1 p0
          have r1 := Since.cell hS1 p1
          have r2 := Since.cell hS1 p2
          have r3 := Since.cell hS1 p3
          have r4 := Since.cell hS1 p4
          have r5 := Since.cell hS1 p5
          have r6 := Since.cell hS1 p6
          have r7 := Since.cell hS1 p7
          clear hB1 hS1 g0 g1 g2 g3 g4 g5 g6 g7 p0 p1 p2 p3 p4 p5 p6 p7
          have hS0 : Since w1 w1 := Below.refl _ _
          have hSd : Since w1 w1.drew := Below.drew hS0
          have n1 : (k : Int) - 1 < n := by omega
          have n2 : 0 ≤ (k : Int) - 1 := by omega
          have n5 : (1 : Int) ≤ (k : Int) := by omega
          have n6 : (k : Int) ≤ (n : Int) := by omega
          have n7 : k ≤ n := by omega
          have n8 : 1 ≤ k := by omega
          have n3 : ((k : Int) - 1).toNat = k - 1 := by omega
          have n4 : IntKind.i64.wrap ((k : Int) - 1) = (k : Int) - 1 := IntWalk.i64_in _ (by omega)
          go_wp2_with fail
          go_region_held3 (fun w' => w'.cell? ⟨b, k * 8, none⟩ = some (.int .i64 xa) ∧ w'.cell? ⟨b, k * 8 + 1, none⟩ = some (.int .i64 xb) ∧ w'.cell? ⟨b, k * 8 + 2, none⟩ = some (.int .i64 xc) ∧ w'.cell? ⟨b, k * 8 + 3, none⟩ = some (.int .i64 xd)
              ∧ w'.cell? ⟨b, k * 8 + 4, none⟩ = some (.bool xp) ∧ w'.cell? ⟨b, k * 8 + 5, none⟩ = some (.bool xq) ∧ w'.cell? ⟨b, k * 8 + 6, none⟩ = some (.bool xr) ∧ w'.cell? ⟨b, k * 8 + 7, none⟩ = some (.bool xs')
              ∧ w'.cell? ⟨b, (k - 1) * 8, none⟩ = some (.int .i64 ya) ∧ w'.cell? ⟨b, (k - 1) * 8 + 1, none⟩ = some (.int .i64 yb) ∧ w'.cell? ⟨b, (k - 1) * 8 + 2, none⟩ = some (.int .i64 yc) ∧ w'.cell? ⟨b, (k - 1) * 8 + 3, none⟩ = some (.int .i64 yd)
              ∧ w'.cell? ⟨b, (k - 1) * 8 + 4, none⟩ = some (.bool yp) ∧ w'.cell? ⟨b, (k - 1) * 8 + 5, none⟩ = some (.bool yq) ∧ w'.cell? ⟨b, (k - 1) * 8 + 6, none⟩ = some (.bool yr) ∧ w'.cell? ⟨b, (k - 1) * 8 + 7, none⟩ = some (.bool ys') ∧ Since w1 w')
            (first | exact ⟨q0, q1, q2, q3, q4, q5, q6, q7, r0, r1, r2, r3, r4, r5, r6, r7, hSd⟩ | exact ⟨Since.cell hB2 q0, Since.cell hB2 q1, Since.cell hB2 q2, Since.cell hB2 q3, Since.cell hB2 q4, Since.cell hB2 q5, Since.cell hB2 q6, Since.cell hB2 q7, Since.cell hB2 r0, Since.cell hB2 r1, Since.cell hB2 r2, Since.cell hB2 r3, Since.cell hB2 r4, Since.cell hB2 r5, Since.cell hB2 r6, Since.cell hB2 r7, hB2⟩)
            ((go_at_call 51; refine (K2.out _).mono ?_; rintro e w' ⟨rfl, hr⟩; have hB2 := Since.step hSd hr; clear hr))
          have HBB := Lib.hid (H1.out.trans (Below.mono hB2 H1.out.size))
          clear hB2 hS0 hSd q0 q1 q2 q3 q4 q5 q6 q7 r0 r1 r2 r3 r4 r5 r6 r7 n1 n2 n3 n4 n5 n6 n7 n8
          cases G2
          case true =>
            have HF2 := Lib.hid (hT.out rfl)
            go_wp2
            go_roundw
            case rel => exact ⟨k + 1, by omega, by go_num, HF2, HBB⟩
            case measure => simp [intOf]; omega
          case false =>
            have HE2 := Lib.hid (hE.out rfl)
            go_wp2
            go_ret
            exact ⟨ret_int HE2.out.symm, HBB.out⟩
    · have hki : (n : Int) ≤ (k : Int) := by omega
      have hfit : Fit xs := by
        have := hF.out
        rwa [List.take_of_length_le (by rw [HN.out]; omega)] at this
      have hnn := HN.out
      by_cases h32 : 32 < n
      · have hE := Lib.hid (show validL xs = 4 from by unfold validL; rw [if_pos hfit, if_pos (by omega)])
        have h32' : (32 : Int) < (n : Int) := by omega
        clear hfit hnn
        go_wp2
        go_ret
        exact ⟨ret_int hE.out.symm, hB.out⟩
      · have hE := Lib.hid (show validL xs = 0 from by unfold validL; rw [if_pos hfit, if_neg (by omega)])
        have h32' : (n : Int) ≤ 32 := by omega
        clear hfit hnn
        go_wp2
        go_ret
        exact ⟨ret_int hE.out.symm, hB.out⟩

end Go.Proofs.Ytimbgjpjgbjnkaa
