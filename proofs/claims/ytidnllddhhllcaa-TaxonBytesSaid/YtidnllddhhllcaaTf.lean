/- The generator of lists of classes: Some; Has. -/
import Derived.Test.YtidnllddhhllcaaTe
namespace Go.Proofs.Ytidnllddhhllcaa
open Go.RowKit Go.Shelf

/-- What Some leaves. -/
def SomePost (w : World) (e : Ending) (w' : World) : Prop := ∃ zs : List Int, zs.length ≤ 6 ∧ Makes .i64 3 zs w e w'

set_option maxHeartbeats 8000000 in
set_option maxRecDepth 100000 in
theorem some_any (pv sv : Value) (P : List (List Int)) (zs : List Int) (w : World) (hL : LE w pv P) (hl : Els .i64 w sv zs) (hw : Wfs zs) (h1 : 1 ≤ P.length) (hm : P.length ≤ 64) :
    Calls Try.prog 24 #[pv, sv] w (SomePost w) := by
  obtain ⟨pa, pc, rfl⟩ := LIn.shape hL
  obtain ⟨a, cap, rfl⟩ := hl.shape
  have hP1 := h1
  have k2 := fun (W : World) (hB : Below w.heap.size w W) (i : Nat) (hi : i ≤ 1000) => pick_any _ zs i (50 * (P.length : Int) + 3) W (hl.below hB) hw (by omega) (by omega) (by omega)
  have hr2 := fun i => pickI_range zs i (50 * (P.length : Int) + 3) (by omega)
  have K2 := Lib.hid k2
  have HR2 := Lib.hid hr2
  have HI0 := Lib.hid Try.infoI64
  generalize hn : P.length = n at *
  generalize zs.length = m at *
  have hn1 : (1 : Int) ≤ n := by omega
  have hn2 : (n : Int) ≤ 64 := by omega
  clear k2 hr2 hl hw hL hn
  go_enter Try.func24, Try.ntmps24
  go_wp2
  go_loopw [5, 6] (fun v i wr => ∃ k : Nat, k ≤ 6 ∧ i = .int .i64 k ∧ ∃ ap np cp zl, v = .slice ap np cp ∧ Hid (np = zl.length) ∧ Hid (zl.length = k) ∧ Hid (Own .i64 3 w.heap.size wr (.slice ap np cp) zl) ∧ Hid (Below w.heap.size w wr)) (fun _ i _ => 6 - (intOf i).toNat)
  case atStart => exact ⟨0, Nat.zero_le _, rfl, none, 0, 0, [], rfl, rfl, rfl, Lib.hid (World.ownsRow_nil _ _ _ _), Lib.hid (Below.refl _ _)⟩
  case round =>
    obtain ⟨k, hk, rfl, ap, np, cp, zl, rfl, hnp, hzk, hO, hB⟩ := hrel
    by_cases hlt : k < m
    · have hki : decide ((k : Int) < (m : Int)) = true := decide_eq_true (by omega)
      by_cases hlt6 : k < 6
      · have hk6 : decide ((k : Int) < 6) = true := decide_eq_true (by omega)
        have k3 := K2.out wr hB.out k (by omega)
        obtain ⟨r1, r2⟩ := HR2.out k
        generalize pickI zs k (50 * (n : Int) + 3) = z at *
        have K3 := Lib.hid k3
        clear k3
        by_cases hz : z < 50 * (n : Int)
        · have hzb : decide (z < 50 * (n : Int)) = true := decide_eq_true hz
          go_wp2_with fail
          refine (K3.out).mono ?_
          rintro e w' ⟨rfl, rfl⟩
          go_wp2_with (at_builtin; refine push_own rfl _ _ 22 rfl .i64 3 8 Try.underlying22 HI0.out (by decide) w.heap.size (.slice ap np cp) zl _ _ rfl rfl hO.out hB.out.size (by have := hzk.out; omega) ?_; intro a2 n2 c2 w2 hn2 hO2 hB2)
          go_roundw
          case rel => exact ⟨k + 1, by omega, by go_num, a2, n2, c2, _, rfl, Lib.hid (by rw [List.length_append]; exact hn2.out), Lib.hid (by rw [List.length_append, hzk.out]; rfl), hO2, Lib.hid (hB.out.trans hB2.out)⟩
          case measure => simp [intOf]; omega
        · have hzb : decide (z < 50 * (n : Int)) = false := decide_eq_false hz
          have hj : z - 50 * (n : Int) = 0 ∨ z - 50 * (n : Int) = 1 ∨ z - 50 * (n : Int) = 2 := by omega
          have HB2 := Lib.hid hB.out.size
          rcases hj with hj | hj | hj
          all_goals
            go_wp2_with fail
            refine (K3.out).mono ?_
            rintro e w' ⟨rfl, rfl⟩
            go_upto_region 9 with (fail)
            have hBx := (Below.refl wr.heap.size wr).alloc (Nat.le_refl _) (.cells #[.int .i64 (-1), .int .i64 (n : Int), .int .i64 64] 3)
            generalize wr.alloc (.cells #[.int .i64 (-1), .int .i64 (n : Int), .int .i64 64] 3) = wx at *
            have HO3 := Lib.hid (hO.out.below hBx)
            have HB3 := Lib.hid (Since.step hB.out hBx)
            clear hBx
            go_wp2_with (at_builtin; refine push_own rfl _ _ 22 rfl .i64 3 8 Try.underlying22 HI0.out (by decide) w.heap.size (.slice ap np cp) zl _ _ rfl rfl HO3.out HB3.out.size (by have := hzk.out; omega) ?_; intro a2 n2 c2 w2 hn2 hO2 hB2)
            go_roundw
            case rel => exact ⟨k + 1, by omega, by go_num, a2, n2, c2, _, rfl, Lib.hid (by rw [List.length_append]; exact hn2.out), Lib.hid (by rw [List.length_append, hzk.out]; rfl), hO2, Lib.hid (HB3.out.trans hB2.out)⟩
            case measure => simp [intOf]; omega
      · have hk6 : decide ((k : Int) < 6) = false := decide_eq_false (by omega)
        go_wp2
        go_ret
        exact ⟨zl, by rw [hzk.out]; exact hk, ap, np, cp, rfl, hnp, hO, hB⟩
    · have hki : decide ((k : Int) < (m : Int)) = false := decide_eq_false (by omega)
      go_wp2
      go_ret
      exact ⟨zl, by rw [hzk.out]; exact hk, ap, np, cp, rfl, hnp, hO, hB⟩

/-- What Has returns. -/
def hasB (zs : List Int) (x : Int) : Bool := zs.any fun z => z == x

set_option maxHeartbeats 2000000 in
theorem has_any (sv : Value) (zs : List Int) (x : Int) (w : World) (h : Els .i64 w sv zs) (hl : zs.length ≤ 100000) :
    Calls Try.prog 36 #[sv, .int .i64 x] w fun e w' => e = .returned (.bool (hasB zs x)) ∧ w = w' := by
  obtain ⟨a, cap, rfl⟩ := h.shape
  have HE := Lib.hid h
  generalize hm : zs.length = m at *
  have HM := Lib.hid hm
  clear h hm
  go_enter Try.func36, Try.ntmps36
  go_wp2
  go_loopw [5] (fun i wr => ∃ k : Nat, k ≤ m ∧ i = .int .i64 k ∧ Hid (((zs.take k).any fun z => z == x) = false) ∧ wr = w) (fun i _ => m - (intOf i).toNat)
  case atStart => exact ⟨0, Nat.zero_le _, rfl, rfl, rfl⟩
  case round =>
    obtain ⟨k, hk, rfl, hF, rfl⟩ := hrel
    by_cases hlt : k < m
    · obtain ⟨b, off, rfl, hcl⟩ := HE.out.at k hlt
      have hki : (k : Int) < m := by omega
      have hgk : zs[k]? = some (zs[k]?.getD 0) := by rw [List.getElem?_eq_getElem (by rw [HM.out]; exact hlt)]; rfl
      generalize zs[k]?.getD 0 = z at *
      have hsn : ((zs.take (k + 1)).any fun z => z == x) = (z == x) := by
        rw [List.take_add_one, hgk, List.any_append, hF.out]; simp
      have hyes : (z == x) = true → hasB zs x = true := fun h => List.any_eq_true.2 ⟨z, List.mem_of_getElem? hgk, h⟩
      have HSN := Lib.hid hsn
      have HY := Lib.hid hyes
      clear hsn hyes hgk
      by_cases hz : (z == x) = true
      · have HZ := Lib.hid hz
        go_wp2
        go_ret
        exact ⟨ret_bool (HY.out HZ.out).symm, rfl⟩
      · have hz' : (z == x) = false := by simpa using hz
        have HZ := Lib.hid hz'
        clear hz
        go_wp2
        go_roundw
        case rel => exact ⟨k + 1, by omega, by go_num, Lib.hid (by rw [HSN.out]; exact HZ.out), by first | rfl | trivial⟩
        case measure => simp [intOf]; omega
    · have hki : ¬ (k : Int) < m := by omega
      have hend : hasB zs x = false := by
        have := hF.out
        rwa [List.take_of_length_le (by rw [HM.out]; omega)] at this
      have HEn := Lib.hid hend
      clear hend
      go_wp2
      go_ret
      exact ⟨ret_bool HEn.out.symm, rfl⟩

end Go.Proofs.Ytidnllddhhllcaa
