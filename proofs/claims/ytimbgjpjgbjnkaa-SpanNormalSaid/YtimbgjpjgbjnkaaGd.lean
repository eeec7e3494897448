/- Contracts of the reference of span: Has, Equal. -/
import Derived.Test.YtimbgjpjgbjnkaaGc
namespace Go.Proofs.Ytimbgjpjgbjnkaa
open Go.RowKit Go.Shelf

set_option maxHeartbeats 8000000 in
set_option maxRecDepth 100000 in
theorem ghas_any (sv : Value) (xs : List Iv) (n d : Int) (w : World) (h : REls RIv w sv xs) (hl : xs.length ≤ 1000000) :
    Calls Try.prog 24 #[sv, rv n d] w fun e w' => e = .returned (.bool (hasL xs n d)) ∧ Below w.heap.size w w' := by
  obtain ⟨a, cap, rfl⟩ := h.shape
  have HB0 := Lib.hid ((Below.refl w.heap.size w).alloc (Nat.le_refl _) (.cells #[.int .i64 n, .int .i64 d] 25))
  have XA := Lib.hid (BoxL.made w #[.int .i64 n, .int .i64 d] 25)
  have k1 := fun w => valid_any n d w
  have kin := fun (x : Iv) (hg : x.good = true) (ho : Qm.Ok n d) W => in_any x n d W hg ho
  unfold rv at *
  by_cases ho : Qm.Ok n d
  · have hE : hasL xs n d = xs.any (hasI n d) := by unfold hasL; rw [decide_eq_true ho, Bool.true_and]
    rw [hE, Qm.validI_ok.2 ho] at *
    have K1 := Lib.hid k1
    have KIN := Lib.hid fun x hg => kin x hg ho
    have HE := Lib.hid h
    generalize hm : xs.length = m at *
    have HN := Lib.hid hm
    clear k1 kin hE h ho hm
    go_enter Try.func24, Try.ntmps24
    go_wp2_with fail
    refine (K1.out _).mono ?_
    rintro e w1 ⟨rfl, hB⟩
    have H1 := Lib.hid (HB0.out.trans (hB.mono HB0.out.size))
    have X1 := Lib.hid (XA.out.keep hB)
    clear hB HB0 XA
    go_wp2
    go_loopw [5] (fun x wr => ∃ k : Nat, k ≤ m ∧ x = .int .i64 k ∧ Hid ((xs.take k).any (hasI n d) = false) ∧ Hid (BoxL w.heap.size [.int .i64 n, .int .i64 d] wr) ∧ Hid (Below w.heap.size w wr)) (fun x _ => m - (intOf x).toNat)
    case atStart => exact ⟨0, by omega, rfl, rfl, X1, H1⟩
    case round =>
      obtain ⟨k, hk, rfl, hF, hX, hB⟩ := hrel
      by_cases hlt : k < m
      · have hki : (k : Int) < m := by omega
        obtain ⟨x, hx⟩ : ∃ x, xs[k]? = some x := ⟨xs[k]'(by rw [HN.out]; exact hlt), List.getElem?_eq_getElem _⟩
        obtain ⟨b, rfl, -⟩ := HE.out.get hlt
        obtain ⟨g0, g1, g2, g3, g4, g5, g6, g7, hb⟩ := iv_at (HE.out.below hB.out) hx
        have k2 := Lib.hid fun W => good_any x W
        have hany : (xs.take (k + 1)).any (hasI n d) = hasI n d x := by
          rw [List.take_add_one, hx, List.any_append, hF.out]
          simp
        have hmem : hasI n d x = true → xs.any (hasI n d) = true := fun h => List.any_eq_true.2 ⟨x, List.mem_of_getElem? hx, h⟩
        have hbad : x.good = false → hasI n d x = false := fun h => by unfold hasI; rw [h]; rfl
        have HA := Lib.hid hany
        have HM := Lib.hid hmem
        have HBD := Lib.hid hbad
        clear hx hany hmem hbad
        cases hG : x.good
        case false =>
          have hI := HBD.out hG
          rw [hI] at HA
          rw [hG] at k2
          have HA2 := Lib.hid HA.out
          clear hG hI HA HM HBD KIN
          obtain ⟨xa, xb, xc, xd, xp, xq, xr, xs'⟩ := x
          unfold Iv.v at *
          simp only at *
          go_wp2_with fail
          refine (k2.out _).mono ?_
          rintro e w2 ⟨rfl, hB2⟩
          have H2 := Lib.hid (hB.out.trans (hB2.mono hB.out.size))
          have X2 := Lib.hid (hX.out.keep hB2)
          clear hB2 g0 g1 g2 g3 g4 g5 g6 g7 hX hB
          go_wp2_with fail
          go_quiet (fail)
          go_wp2
          go_roundw
          case rel => exact ⟨k + 1, by omega, by go_num, HA2, Lib.hid (X2.out.keep (below_drewN (Below.refl _ _) _)), Lib.hid (below_drewN H2.out _)⟩
          case measure => simp [intOf]; omega
        case true =>
          have K3 := Lib.hid (KIN.out x hG)
          rw [hG] at k2
          clear hG HBD
          generalize hasI n d x = G at *
          obtain ⟨xa, xb, xc, xd, xp, xq, xr, xs'⟩ := x
          unfold Iv.v at *
          simp only at *
          go_wp2_with fail
          refine (k2.out _).mono ?_
          rintro e w2 ⟨rfl, hB2⟩
          have H2 := Lib.hid (hB.out.trans (hB2.mono hB.out.size))
          have X2 := Lib.hid (hX.out.keep hB2)
          have hS1 : Since wr w2 := hB2
          have q0 := Since.cell hS1 g0
          have q1 := Since.cell hS1 g1
          have q2 := Since.cell hS1 g2
          have q3 := Since.cell hS1 g3
          have q4 := Since.cell hS1 g4
          have q5 := Since.cell hS1 g5
          have q6 := Since.cell hS1 g6
          have q7 := Since.cell hS1 g7
          clear hB2 hS1 g0 g1 g2 g3 g4 g5 g6 g7 hX hB
          obtain ⟨r0, r1, -, -, r2⟩ := X2.out.open2
          have hS0 : Since w2 w2 := Below.refl _ _
          have hSd : Since w2 w2.drew := Below.drew hS0
          go_wp2_with fail
          go_region_held3 (fun w' => w'.cell? ⟨b, k * 8, none⟩ = some (.int .i64 xa) ∧ w'.cell? ⟨b, k * 8 + 1, none⟩ = some (.int .i64 xb) ∧ w'.cell? ⟨b, k * 8 + 2, none⟩ = some (.int .i64 xc) ∧ w'.cell? ⟨b, k * 8 + 3, none⟩ = some (.int .i64 xd)
              ∧ w'.cell? ⟨b, k * 8 + 4, none⟩ = some (.bool xp) ∧ w'.cell? ⟨b, k * 8 + 5, none⟩ = some (.bool xq) ∧ w'.cell? ⟨b, k * 8 + 6, none⟩ = some (.bool xr) ∧ w'.cell? ⟨b, k * 8 + 7, none⟩ = some (.bool xs')
              ∧ w'.cell? ⟨w.heap.size, 0, none⟩ = some (.int .i64 n) ∧ w'.cell? ⟨w.heap.size, 1, none⟩ = some (.int .i64 d) ∧ Since w2 w')
            (first | exact ⟨q0, q1, q2, q3, q4, q5, q6, q7, r0, r1, hSd⟩ | exact ⟨Since.cell hB2 q0, Since.cell hB2 q1, Since.cell hB2 q2, Since.cell hB2 q3, Since.cell hB2 q4, Since.cell hB2 q5, Since.cell hB2 q6, Since.cell hB2 q7, Since.cell hB2 r0, Since.cell hB2 r1, hB2⟩)
            ((go_at_call 57; refine (K3.out _).mono ?_; rintro e w' ⟨rfl, hr⟩; have hB2 := Since.step hSd hr; clear hr))
          have HBB := Lib.hid (H2.out.trans (Below.mono hB2 H2.out.size))
          have XBB := Lib.hid (X2.out.keep hB2)
          clear hB2 hS0 hSd q0 q1 q2 q3 q4 q5 q6 q7 r0 r1 r2
          cases G
          case false =>
            go_wp2
            go_roundw
            case rel => exact ⟨k + 1, by omega, by go_num, HA, XBB, HBB⟩
            case measure => simp [intOf]; omega
          case true =>
            have HM2 := Lib.hid (HM.out (by first | rfl | trivial))
            go_wp2
            go_ret
            exact ⟨ret_bool HM2.out.symm, HBB.out⟩
      · have hki : (m : Int) ≤ (k : Int) := by omega
        have hall : xs.any (hasI n d) = false := by
          have := hF.out
          rwa [List.take_of_length_le (by rw [HN.out]; omega)] at this
        have HA := Lib.hid hall
        clear hall
        go_wp2
        go_ret
        exact ⟨ret_bool HA.out.symm, hB.out⟩
  · have hE : hasL xs n d = false := by unfold hasL; rw [decide_eq_false ho, Bool.false_and]
    have hz : Qm.validI n d = 1 := (Qm.validI_two n d).resolve_left fun h => ho (Qm.validI_ok.1 h)
    rw [hE]
    rw [hz] at k1
    have K1 := Lib.hid k1
    clear k1 kin hE h ho hz
    go_enter Try.func24, Try.ntmps24
    go_wp2_with fail
    refine (K1.out _).mono ?_
    rintro e w1 ⟨rfl, hB⟩
    have H1 := Lib.hid (HB0.out.trans (hB.mono HB0.out.size))
    clear hB
    go_wp2
    go_ret
    exact ⟨rfl, H1.out⟩

end Go.Proofs.Ytimbgjpjgbjnkaa
