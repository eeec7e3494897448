/- The example of the section: lives. -/
import Derived.Test.YtgipfbmomhlcjaaRead3
namespace Go.Proofs.Ytgipfbmomhlcjaa
open Go.RowKit Go.Shelf

theorem grown_to {p B : Nat} {a b : World} (h : a.grownBy b (some p)) (hB : B ≤ p) (hs : B ≤ a.heap.size) : Below B a b :=
  (Below.refl B a).grown h hs (fun k e => by cases e; exact hB)

/-- Another reader's step leaves a reader as it was. -/
theorem Rd.other {p d p2 : Nat} {w w' : World} {l : List Int} {e : Int} (h : Rd p d w l e) (hG : w.grownBy w' (some p2)) (hp : p ≠ p2) (hd : d ≠ p2) : Rd p d w' l e :=
  h.keep hG.size (hG.block p h.lt (by simpa using hp)) fun hl => hG.block d hl (by simpa using hd)

theorem live_facts : Hm.uv 300 = [172, 2] ∧ Hm.uv (Hm.zig (-1)) = [1] ∧ Hm.uv 2 = [2] ∧ Hm.rU [172, 2, 1, 2, 97, 98] 0 = (300, [1, 2, 97, 98], 0) ∧ Hm.rU [1, 2, 97, 98] 0 = (1, [2, 97, 98], 0) ∧
    Hm.rRaw [2, 97, 98] 0 = ([97, 98], [], 0) ∧ Hm.rU [128, 0] 0 = (0, [], 2) := by
  refine ⟨?_, ?_, ?_, ?_, ?_, ?_, ?_⟩
  · rw [Hm.uv_big (by decide), Hm.uv_small (by decide)]; rfl
  · rw [show Hm.zig (-1) = 1 from by decide, Hm.uv_small (by decide)]; rfl
  · rw [Hm.uv_small (by decide)]; rfl
  · decide
  · decide
  · decide
  · decide

theorem lit_byt {l : List Int} (h : ∀ z ∈ l, 0 ≤ z ∧ z < 256) : Hm.Byt l := h

set_option maxRecDepth 100000 in
set_option maxHeartbeats 2000000 in
theorem lives_any (w : World) :
    Calls Try.prog 18 #[] w fun e w' => e = .returned (.bool true) ∧ Below w.heap.size w w' := by
  obtain ⟨f1, f2, f3, f4, f5, f6, f7⟩ := live_facts
  have k1 := fun p B W (h : Wr p B W []) => wuint_any p B 300 [] W (by decide) (by decide) h
  rw [f1] at k1
  have k2 := fun p B W (h : Wr p B W [172, 2]) => wint_any p B (-1) [172, 2] W (by decide) (by decide) h
  rw [f2] at k2
  have k3 := fun p B W (h : Wr p B W [172, 2, 1]) => wtext_any p B { data := #[97, 98] } [172, 2, 1] W (by decide) (by decide) h
  rw [show ({ data := #[97, 98] } : ByteArray).size = 2 from rfl, f3] at k3
  have k4 := fun p B W (h : Wr p B W [172, 2, 1, 2, 97, 98]) => wdone_any p B [172, 2, 1, 2, 97, 98] W (by decide) h
  have k5 := fun sv W (h : Els .u8 W sv [172, 2, 1, 2, 97, 98]) => rread_any sv [172, 2, 1, 2, 97, 98] W (by decide) h
  have k6 := fun sv W (h : Els .u8 W sv [128, 0]) => rread_any sv [128, 0] W (by decide) h
  have k7 := fun p d W (h : Rd p d W [172, 2, 1, 2, 97, 98] 0) => ruint_any p d _ _ W h (lit_byt (by decide)) (by decide)
  have k8 := fun p d W (h : Rd p d W [1, 2, 97, 98] 0) => rint_any p d _ _ W h (lit_byt (by decide)) (by decide)
  have k9 := fun p d W (h : Rd p d W [2, 97, 98] 0) => rtext_any p d _ _ W h (lit_byt (by decide)) (by decide)
  have k10 := fun p d W (h : Rd p d W [128, 0] 0) => rint_any p d _ _ W h (lit_byt (by decide)) (by decide)
  have k11 := fun sv sv2 W (h : Els .u8 W sv [172, 2, 1, 2, 97, 98]) (h2 : Els .u8 W sv2 [172, 2, 1, 2, 97, 98]) => (sameBytes_any sv sv2 _ _ W h h2 (by decide)).mono fun e w' hh => And.intro (hh.1.trans (ret_bool (b := true) (decide_eq_true rfl))) hh.2
  have k12 := fun p d W (h : Rd p d W [] 0) => rend_any p d _ _ W h (by decide)
  have k13 := fun p d W (h : Rd p d W [] 2) => rend_any p d _ _ W h (by decide)
  rw [f4] at k7
  rw [f5] at k8
  rw [f6] at k9
  rw [f7] at k10
  dsimp only at k7 k8 k9 k10
  rw [show Hm.unzig 1 = -1 from by decide] at k8
  rw [show strOfNums [97, 98] = { data := #[97, 98] } from rfl] at k9
  rw [show Hm.rEnd [] 0 = 0 from by decide] at k12
  rw [show Hm.rEnd [] 2 = 2 from by decide] at k13
  have K1 := Lib.hid k1
  have K2 := Lib.hid k2
  have K3 := Lib.hid k3
  have K4 := Lib.hid k4
  have K5 := Lib.hid k5
  have K6 := Lib.hid k6
  have K7 := Lib.hid k7
  have K8 := Lib.hid k8
  have K9 := Lib.hid k9
  have K10 := Lib.hid k10
  have K11 := Lib.hid k11
  have K12 := Lib.hid k12
  have K13 := Lib.hid k13
  clear k1 k2 k3 k4 k5 k6 k7 k8 k9 k10 k11 k12 k13 f1 f2 f3 f4 f5 f6 f7
  go_enter Try.func18, Try.ntmps18
  go_wp2_with fail
  refine (K1.out w.heap.size (w.heap.size + 1) _ (Wr.new w _)).mono ?_
  rintro e w1 ⟨rfl, W1, B1⟩
  have W1_ := Lib.hid W1
  clear W1
  have W1 := W1_
  clear W1_
  have B1_ := Lib.hid B1
  clear B1
  have B1 := B1_
  clear B1_
  have HB1 := Lib.hid (below_new' B1.out)
  go_wp2_with fail
  refine (K2.out _ _ _ W1.out).mono ?_
  rintro e w2 ⟨rfl, W2, B2⟩
  have W2_ := Lib.hid W2
  clear W2
  have W2 := W2_
  clear W2_
  have B2_ := Lib.hid B2
  clear B2
  have B2 := B2_
  clear B2_
  have HB2 := Lib.hid (HB1.out.trans B2.out)
  go_wp2_with fail
  refine (K3.out _ _ _ W2.out).mono ?_
  rintro e w3 ⟨rfl, W3, B3⟩
  have W3_ := Lib.hid W3
  clear W3
  have W3 := W3_
  clear W3_
  have B3_ := Lib.hid B3
  clear B3
  have B3 := B3_
  clear B3_
  have HB3 := Lib.hid (HB2.out.trans B3.out)
  go_wp2_with fail
  refine (K4.out _ _ _ W3.out).mono ?_
  rintro e w4 ⟨a4, n4, c4, rfl, HN4, O4, B4⟩
  have HB4 := Lib.hid (HB3.out.trans (B4.out.mono HB3.out.size))
  have HE4 := Lib.hid O4.out.els
  go_wp2_with fail
  refine (K5.out _ _ HE4.out).mono ?_
  rintro e w5 ⟨p5, d5, rfl, hp5, hd5, hl5, R5, B5⟩
  have HB5 := Lib.hid (HB4.out.trans (B5.out.mono HB4.out.size))
  go_wp2_with fail
  refine (K6.out _ _ (Els.new .u8 w5 _ [128, 0])).mono ?_
  rintro e w6 ⟨p6, d6, rfl, hp6, hd6, hl6, R6, B6⟩
  have BB6 := Lib.hid (below_new B6.out)
  have hq6 : w5.heap.size ≤ p6 ∧ w5.heap.size ≤ d6 := by simp at hp6 hd6; omega
  obtain ⟨hq6, he6⟩ := hq6
  have C6 := Lib.hid (B5.out.trans (BB6.out.mono B5.out.size))
  have hp5l := R5.out.lt
  have R5b := Lib.hid (R5.out.below BB6.out)
  have hs6 := Lib.hid C6.out.size
  clear hp6 hd6
  go_wp2_with fail
  refine (K7.out _ _ _ R5b.out).mono ?_
  rintro e w7 ⟨rfl, R7, G7⟩
  have R7_ := Lib.hid R7
  clear R7
  have R7 := R7_
  clear R7_
  have G7_ := Lib.hid G7
  clear G7
  have G7 := G7_
  clear G7_
  have C7 := Lib.hid (C6.out.trans (grown_to G7.out hp5 C6.out.size))
  have R6c := Lib.hid (R6.out.other G7.out (by omega) (by omega))
  go_wp2_with fail
  refine (K8.out _ _ _ R7.out).mono ?_
  rintro e w8 ⟨rfl, R8, G8⟩
  have R8_ := Lib.hid R8
  clear R8
  have R8 := R8_
  clear R8_
  have G8_ := Lib.hid G8
  clear G8
  have G8 := G8_
  clear G8_
  have C8 := Lib.hid (C7.out.trans (grown_to G8.out hp5 C7.out.size))
  have R6d := Lib.hid (R6c.out.other G8.out (by omega) (by omega))
  go_wp2_with fail
  refine (K9.out _ _ _ R8.out).mono ?_
  rintro e w9 ⟨rfl, R9, G9⟩
  have R9_ := Lib.hid R9
  clear R9
  have R9 := R9_
  clear R9_
  have G9_ := Lib.hid G9
  clear G9
  have G9 := G9_
  clear G9_
  have C9 := Lib.hid (C8.out.trans (grown_to G9.out hp5 C8.out.size))
  have R6e := Lib.hid (R6d.out.other G9.out (by omega) (by omega))
  go_wp2_with fail
  refine (K10.out _ _ _ R6e.out).mono ?_
  rintro e w10 ⟨rfl, R10, G10⟩
  have R10_ := Lib.hid R10
  clear R10
  have R10 := R10_
  clear R10_
  have G10_ := Lib.hid G10
  clear G10
  have G10 := G10_
  clear G10_
  have C10 := Lib.hid (C9.out.trans (grown_to G10.out (by have := B5.out.size; omega) C9.out.size))
  have R9b := Lib.hid (R9.out.other G10.out (by omega) (by omega))
  have HE10 := Lib.hid ((HE4.out.below C10.out).below ((Below.refl _ w10).alloc (Nat.le_refl _) (.cells (([172, 2, 1, 2, 97, 98] : List Int).map (Value.int .u8)).toArray 5)))
  go_wp2_with fail
  refine (K11.out _ _ _ HE10.out (Els.new .u8 w10 _ [172, 2, 1, 2, 97, 98])).mono ?_
  rintro e w11 ⟨rfl, hB11⟩
  have B11 := Lib.hid (below_new hB11)
  have HB11 := Lib.hid (HB4.out.trans ((C10.out.trans (B11.out.mono C10.out.size)).mono HB4.out.size))
  have R9c := Lib.hid (R9b.out.below B11.out)
  have R10b := Lib.hid (R10.out.below B11.out)
  clear hB11
  go_wp2_with fail
  refine (K12.out _ _ _ R9c.out).mono ?_
  rintro e w' ⟨rfl, rfl⟩
  go_wp2_with fail
  refine (K13.out _ _ _ R10b.out).mono ?_
  rintro e w' ⟨rfl, rfl⟩
  go_wp2_with fail
  go_ret
  exact ⟨rfl, HB11.out⟩

end Go.Proofs.Ytgipfbmomhlcjaa
