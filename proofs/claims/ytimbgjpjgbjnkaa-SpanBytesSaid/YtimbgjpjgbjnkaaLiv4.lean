/- The examples of the section: lives. -/
import Derived.Test.YtimbgjpjgbjnkaaLim
import Derived.Test.YtimbgjpjgbjnkaaOpbOpc
import Derived.Test.YtimbgjpjgbjnkaaPk5
import Derived.Test.YtimbgjpjgbjnkaaIv2
namespace Go.Proofs.Ytimbgjpjgbjnkaa
open Go.RowKit Go.Shelf

theorem lit_els (T : TypeId) (w : World) (xs : List Iv) (cs : Array Value) (hcs : cs.toList = xs.flatMap RIv.cells) (hl : xs.length ≤ 1000) : REls RIv (w.alloc (.cells cs T)) (.slice (some ⟨w.heap.size, 0, none⟩) xs.length xs.length) xs := (ROwn.new RIv T w xs cs hcs (by unfold maxLen; omega)).els

set_option maxHeartbeats 2000000 in
set_option maxRecDepth 100000 in
theorem whole_any (n : Int) (w : World) : Calls Try.prog 16 #[.int .i64 n] w fun e w' => e = .returned (.agg #[.int .i64 n, .int .i64 1]) ∧ Below w.heap.size w w' := by
  have XR := Lib.hid (BoxL.made w #[.int .i64 0, .int .i64 0] 25)
  have HB0 := Lib.hid ((Below.refl w.heap.size w).alloc (Nat.le_refl _) (.cells #[.int .i64 0, .int .i64 0] 25))
  go_enter Try.func16, Try.ntmps16
  go_wp2
  exact bodyPost_ret (v := .agg #[.int .i64 n, .int .i64 1]) (by simp [results, Try.results16, go_sem]) rfl ⟨rfl, (Below.refl _ _).alloc (Nat.le_refl _) _⟩

set_option maxHeartbeats 8000000 in
set_option maxRecDepth 100000 in
theorem lives04_any (w : World) : Calls Try.prog 25 #[] w fun e w' => e = .returned (.bool true) ∧ Below w.heap.size w w' := by
  have kw := Lib.hid fun (n : Int) W => whole_any n W
  go_enter Try.func25, Try.ntmps25
  have HB0 : Hid (Below w.heap.size w w) := Lib.hid (Below.refl _ _)
  go_wp2_with fail
  refine (kw.out 1 _).mono ?_
  rintro e w1 ⟨rfl, hr⟩
  have H1 := Lib.hid (HB0.out.trans (hr.mono HB0.out.size))
  clear hr
  go_wp2_with fail
  refine (kw.out 2 _).mono ?_
  rintro e w2 ⟨rfl, hr⟩
  have H2 := Lib.hid (H1.out.trans (hr.mono H1.out.size))
  clear H1
  clear hr
  have hal3 : Below w2.heap.size w2 (w2.alloc (.cells #[.int .i64 1, .int .i64 1, .int .i64 2, .int .i64 1, .bool false, .bool true, .bool false, .bool false] 27)) := (Below.refl _ _).alloc (Nat.le_refl _) _
  have RA_3 := Lib.hid (lit_els 27 w2 [eA] #[.int .i64 1, .int .i64 1, .int .i64 2, .int .i64 1, .bool false, .bool true, .bool false, .bool false] rfl (by simp))
  have H3 := Lib.hid (H2.out.trans (hal3.mono H2.out.size))
  clear hal3
  clear H2
  go_wp2_with fail
  refine (kw.out 2 _).mono ?_
  rintro e w4 ⟨rfl, hr⟩
  have H4 := Lib.hid (H3.out.trans (hr.mono H3.out.size))
  have RA_4 := Lib.hid (RA_3.out.below hr)
  clear RA_3
  clear H3
  clear hr
  go_wp2_with fail
  refine (kw.out 3 _).mono ?_
  rintro e w5 ⟨rfl, hr⟩
  have H5 := Lib.hid (H4.out.trans (hr.mono H4.out.size))
  have RA_5 := Lib.hid (RA_4.out.below hr)
  clear RA_4
  clear H4
  clear hr
  have hal6 : Below w5.heap.size w5 (w5.alloc (.cells #[.int .i64 2, .int .i64 1, .int .i64 3, .int .i64 1, .bool false, .bool false, .bool false, .bool false] 27)) := (Below.refl _ _).alloc (Nat.le_refl _) _
  have RB_6 := Lib.hid (lit_els 27 w5 [eB] #[.int .i64 2, .int .i64 1, .int .i64 3, .int .i64 1, .bool false, .bool false, .bool false, .bool false] rfl (by simp))
  have H6 := Lib.hid (H5.out.trans (hal6.mono H5.out.size))
  have RA_6 := Lib.hid (RA_5.out.below hal6)
  clear RA_5
  clear hal6
  clear H5
  go_wp2_with fail
  refine (union_any _ _ [eA] [eB] _ RA_6.out RB_6.out (fit_one gA).wf (fit_one gB).wf (by simp) (by simp)).mono ?_
  rintro e w7 ⟨a1, n1, c1, rfl, hE1, hr⟩
  rw [ex1] at hE1 ⊢
  have H7 := Lib.hid (H6.out.trans (hr.out.mono H6.out.size))
  have RA_7 := Lib.hid (RA_6.out.below hr.out)
  have RB_7 := Lib.hid (RB_6.out.below hr.out)
  clear RA_6
  clear RB_6
  clear H6
  have RU_7 := hE1
  clear hr hE1
  go_wp2_with fail
  refine (kw.out 2 _).mono ?_
  rintro e w8 ⟨rfl, hr⟩
  have H8 := Lib.hid (H7.out.trans (hr.mono H7.out.size))
  have RA_8 := Lib.hid (RA_7.out.below hr)
  have RB_8 := Lib.hid (RB_7.out.below hr)
  have RU_8 := Lib.hid (RU_7.out.below hr)
  clear RA_7
  clear RB_7
  clear RU_7
  clear H7
  clear hr
  go_wp2_with fail
  refine (kw.out 3 _).mono ?_
  rintro e w9 ⟨rfl, hr⟩
  have H9 := Lib.hid (H8.out.trans (hr.mono H8.out.size))
  have RA_9 := Lib.hid (RA_8.out.below hr)
  have RB_9 := Lib.hid (RB_8.out.below hr)
  have RU_9 := Lib.hid (RU_8.out.below hr)
  clear RA_8
  clear RB_8
  clear RU_8
  clear H8
  clear hr
  have hal10 : Below w9.heap.size w9 (w9.alloc (.cells #[.int .i64 2, .int .i64 1, .int .i64 3, .int .i64 1, .bool true, .bool false, .bool false, .bool false] 27)) := (Below.refl _ _).alloc (Nat.le_refl _) _
  have RC_10 := Lib.hid (lit_els 27 w9 [eC] #[.int .i64 2, .int .i64 1, .int .i64 3, .int .i64 1, .bool true, .bool false, .bool false, .bool false] rfl (by simp))
  have H10 := Lib.hid (H9.out.trans (hal10.mono H9.out.size))
  have RA_10 := Lib.hid (RA_9.out.below hal10)
  clear RA_9
  have RB_10 := Lib.hid (RB_9.out.below hal10)
  clear RB_9
  have RU_10 := Lib.hid (RU_9.out.below hal10)
  clear RU_9
  clear hal10
  clear H9
  go_wp2_with fail
  refine (union_any _ _ [eA] [eC] _ RA_10.out RC_10.out (fit_one gA).wf (fit_one gC).wf (by simp) (by simp)).mono ?_
  rintro e w11 ⟨a2, n2, c2, rfl, hE2, hr⟩
  rw [ex2] at hE2 ⊢
  have hn2 := hE2.out.len
  simp at hn2
  subst hn2
  have H11 := Lib.hid (H10.out.trans (hr.out.mono H10.out.size))
  have RA_11 := Lib.hid (RA_10.out.below hr.out)
  have RB_11 := Lib.hid (RB_10.out.below hr.out)
  have RU_11 := Lib.hid (RU_10.out.below hr.out)
  have RC_11 := Lib.hid (RC_10.out.below hr.out)
  clear RA_10
  clear RB_10
  clear RU_10
  clear RC_10
  clear H10
  clear hr hE2
  go_wp2_with fail
  refine (not_any _ [eA] _ RA_11.out (fit_one gA).wf (by simp)).mono ?_
  rintro e w12 ⟨a3, n3, c3, rfl, hE3, hr⟩
  rw [ex3] at hE3 ⊢
  have H12 := Lib.hid (H11.out.trans (hr.out.mono H11.out.size))
  have RA_12 := Lib.hid (RA_11.out.below hr.out)
  have RB_12 := Lib.hid (RB_11.out.below hr.out)
  have RU_12 := Lib.hid (RU_11.out.below hr.out)
  have RC_12 := Lib.hid (RC_11.out.below hr.out)
  clear RA_11
  clear RB_11
  clear RU_11
  clear RC_11
  clear H11
  have RN_12 := hE3
  clear hr hE3
  have hal13 : Below w12.heap.size w12 (w12.alloc (.cells #[.int .i64 1, .int .i64 3, .int .i64 1, .int .i64 2, .bool true, .bool true, .bool false, .bool false] 27)) := (Below.refl _ _).alloc (Nat.le_refl _) _
  have RG_13 := Lib.hid (lit_els 27 w12 [eG] #[.int .i64 1, .int .i64 3, .int .i64 1, .int .i64 2, .bool true, .bool true, .bool false, .bool false] rfl (by simp))
  have H13 := Lib.hid (H12.out.trans (hal13.mono H12.out.size))
  have RA_13 := Lib.hid (RA_12.out.below hal13)
  clear RA_12
  have RB_13 := Lib.hid (RB_12.out.below hal13)
  clear RB_12
  have RU_13 := Lib.hid (RU_12.out.below hal13)
  clear RU_12
  have RC_13 := Lib.hid (RC_12.out.below hal13)
  clear RC_12
  have RN_13 := Lib.hid (RN_12.out.below hal13)
  clear RN_12
  clear hal13
  clear H12
  go_wp2_with fail
  refine (pick_any _ [eG] _ RG_13.out (fit_one gG).wf (by simp)).mono ?_
  rintro e w14 ⟨hr, hp⟩
  have hres : e = .returned (.tuple #[.agg #[.int .i64 2, .int .i64 5], .bool true, .int .i64 0]) := by
    rcases hp with ⟨h1, _⟩ | ⟨_, h1, _⟩ | ⟨_, _, r, h1, h2⟩
    · exact absurd ex4.1 h1
    · cases h1
    · rw [h2, ex4_one h1]; rfl
  subst hres
  clear hp
  have H14 := Lib.hid (H13.out.trans (hr.mono H13.out.size))
  have RA_14 := Lib.hid (RA_13.out.below hr)
  have RB_14 := Lib.hid (RB_13.out.below hr)
  have RU_14 := Lib.hid (RU_13.out.below hr)
  have RC_14 := Lib.hid (RC_13.out.below hr)
  have RN_14 := Lib.hid (RN_13.out.below hr)
  have RG_14 := Lib.hid (RG_13.out.below hr)
  clear RA_13
  clear RB_13
  clear RU_13
  clear RC_13
  clear RN_13
  clear RG_13
  clear H13
  clear hr
  have hal : Below w14.heap.size w14 (w14.alloc (.cells #[.int .i64 2, .int .i64 5] 25)) := (Below.refl _ _).alloc (Nat.le_refl _) _
  have H15 := Lib.hid (H14.out.trans (hal.mono H14.out.size))
  have RA_15 := Lib.hid (RA_14.out.below hal)
  clear RA_14
  have RB_15 := Lib.hid (RB_14.out.below hal)
  clear RB_14
  have RU_15 := Lib.hid (RU_14.out.below hal)
  clear RU_14
  have RC_15 := Lib.hid (RC_14.out.below hal)
  clear RC_14
  have RN_15 := Lib.hid (RN_14.out.below hal)
  clear RN_14
  have RG_15 := Lib.hid (RG_14.out.below hal)
  clear RG_14
  clear hal H14
  go_wp2_with fail
  refine (kw.out 1 _).mono ?_
  rintro e w16 ⟨rfl, hr⟩
  have H16 := Lib.hid (H15.out.trans (hr.mono H15.out.size))
  have RA_16 := Lib.hid (RA_15.out.below hr)
  have RB_16 := Lib.hid (RB_15.out.below hr)
  have RU_16 := Lib.hid (RU_15.out.below hr)
  have RC_16 := Lib.hid (RC_15.out.below hr)
  have RN_16 := Lib.hid (RN_15.out.below hr)
  have RG_16 := Lib.hid (RG_15.out.below hr)
  clear RA_15
  clear RB_15
  clear RU_15
  clear RC_15
  clear RN_15
  clear RG_15
  clear H15
  clear hr
  go_wp2_with fail
  refine (kw.out 3 _).mono ?_
  rintro e w17 ⟨rfl, hr⟩
  have H17 := Lib.hid (H16.out.trans (hr.mono H16.out.size))
  have RA_17 := Lib.hid (RA_16.out.below hr)
  have RB_17 := Lib.hid (RB_16.out.below hr)
  have RU_17 := Lib.hid (RU_16.out.below hr)
  have RC_17 := Lib.hid (RC_16.out.below hr)
  have RN_17 := Lib.hid (RN_16.out.below hr)
  have RG_17 := Lib.hid (RG_16.out.below hr)
  clear RA_16
  clear RB_16
  clear RU_16
  clear RC_16
  clear RN_16
  clear RG_16
  clear H16
  clear hr
  have hal18 : Below w17.heap.size w17 (w17.alloc (.cells #[.int .i64 1, .int .i64 1, .int .i64 3, .int .i64 1, .bool false, .bool false, .bool false, .bool false] 27)) := (Below.refl _ _).alloc (Nat.le_refl _) _
  have RD_18 := Lib.hid (lit_els 27 w17 [eD] #[.int .i64 1, .int .i64 1, .int .i64 3, .int .i64 1, .bool false, .bool false, .bool false, .bool false] rfl (by simp))
  have H18 := Lib.hid (H17.out.trans (hal18.mono H17.out.size))
  have RA_18 := Lib.hid (RA_17.out.below hal18)
  clear RA_17
  have RB_18 := Lib.hid (RB_17.out.below hal18)
  clear RB_17
  have RU_18 := Lib.hid (RU_17.out.below hal18)
  clear RU_17
  have RC_18 := Lib.hid (RC_17.out.below hal18)
  clear RC_17
  have RN_18 := Lib.hid (RN_17.out.below hal18)
  clear RN_17
  have RG_18 := Lib.hid (RG_17.out.below hal18)
  clear RG_17
  clear hal18
  clear H17
  go_wp2_with fail
  refine (gequal_any _ _ [eD] [eD] _ RU_18.out RD_18.out (by simp)).mono ?_
  rintro e w19 ⟨rfl, hr⟩
  have H19 := Lib.hid (H18.out.trans (hr.mono H18.out.size))
  have RA_19 := Lib.hid (RA_18.out.below hr)
  have RB_19 := Lib.hid (RB_18.out.below hr)
  have RU_19 := Lib.hid (RU_18.out.below hr)
  have RC_19 := Lib.hid (RC_18.out.below hr)
  have RN_19 := Lib.hid (RN_18.out.below hr)
  have RG_19 := Lib.hid (RG_18.out.below hr)
  have RD_19 := Lib.hid (RD_18.out.below hr)
  clear RA_18
  clear RB_18
  clear RU_18
  clear RC_18
  clear RN_18
  clear RG_18
  clear RD_18
  clear H18
  clear hr
  have hd1 : decide ([eD] = [eD]) = true := by simp
  rw [hd1]
  go_wp2_with fail
  refine (kw.out 1 _).mono ?_
  rintro e w20 ⟨rfl, hr⟩
  have H20 := Lib.hid (H19.out.trans (hr.mono H19.out.size))
  have RA_20 := Lib.hid (RA_19.out.below hr)
  have RB_20 := Lib.hid (RB_19.out.below hr)
  have RU_20 := Lib.hid (RU_19.out.below hr)
  have RC_20 := Lib.hid (RC_19.out.below hr)
  have RN_20 := Lib.hid (RN_19.out.below hr)
  have RG_20 := Lib.hid (RG_19.out.below hr)
  have RD_20 := Lib.hid (RD_19.out.below hr)
  clear RA_19
  clear RB_19
  clear RU_19
  clear RC_19
  clear RN_19
  clear RG_19
  clear RD_19
  clear H19
  clear hr
  go_wp2_with fail
  refine (kw.out 2 _).mono ?_
  rintro e w21 ⟨rfl, hr⟩
  have H21 := Lib.hid (H20.out.trans (hr.mono H20.out.size))
  have RA_21 := Lib.hid (RA_20.out.below hr)
  have RB_21 := Lib.hid (RB_20.out.below hr)
  have RU_21 := Lib.hid (RU_20.out.below hr)
  have RC_21 := Lib.hid (RC_20.out.below hr)
  have RN_21 := Lib.hid (RN_20.out.below hr)
  have RG_21 := Lib.hid (RG_20.out.below hr)
  have RD_21 := Lib.hid (RD_20.out.below hr)
  clear RA_20
  clear RB_20
  clear RU_20
  clear RC_20
  clear RN_20
  clear RG_20
  clear RD_20
  clear H20
  clear hr
  have hal22 : Below w21.heap.size w21 (w21.alloc (.cells #[.int .i64 0, .int .i64 0, .int .i64 1, .int .i64 1, .bool false, .bool true, .bool true, .bool false, .int .i64 2, .int .i64 1, .int .i64 0, .int .i64 0, .bool false, .bool false, .bool false, .bool true] 27)) := (Below.refl _ _).alloc (Nat.le_refl _) _
  have RX_22 := Lib.hid (lit_els 27 w21 [eE, eF] #[.int .i64 0, .int .i64 0, .int .i64 1, .int .i64 1, .bool false, .bool true, .bool true, .bool false, .int .i64 2, .int .i64 1, .int .i64 0, .int .i64 0, .bool false, .bool false, .bool false, .bool true] rfl (by simp))
  have H22 := Lib.hid (H21.out.trans (hal22.mono H21.out.size))
  have RA_22 := Lib.hid (RA_21.out.below hal22)
  clear RA_21
  have RB_22 := Lib.hid (RB_21.out.below hal22)
  clear RB_21
  have RU_22 := Lib.hid (RU_21.out.below hal22)
  clear RU_21
  have RC_22 := Lib.hid (RC_21.out.below hal22)
  clear RC_21
  have RN_22 := Lib.hid (RN_21.out.below hal22)
  clear RN_21
  have RG_22 := Lib.hid (RG_21.out.below hal22)
  clear RG_21
  have RD_22 := Lib.hid (RD_21.out.below hal22)
  clear RD_21
  clear hal22
  clear H21
  go_wp2_with fail
  refine (gequal_any _ _ [eE, eF] [eE, eF] _ RN_22.out RX_22.out (by simp)).mono ?_
  rintro e w23 ⟨rfl, hr⟩
  have H23 := Lib.hid (H22.out.trans (hr.mono H22.out.size))
  have RA_23 := Lib.hid (RA_22.out.below hr)
  have RB_23 := Lib.hid (RB_22.out.below hr)
  have RU_23 := Lib.hid (RU_22.out.below hr)
  have RC_23 := Lib.hid (RC_22.out.below hr)
  have RN_23 := Lib.hid (RN_22.out.below hr)
  have RG_23 := Lib.hid (RG_22.out.below hr)
  have RD_23 := Lib.hid (RD_22.out.below hr)
  have RX_23 := Lib.hid (RX_22.out.below hr)
  clear RA_22
  clear RB_22
  clear RU_22
  clear RC_22
  clear RN_22
  clear RG_22
  clear RD_22
  clear RX_22
  clear H22
  clear hr
  have hd2 : decide ([eE, eF] = [eE, eF]) = true := by simp
  rw [hd2]
  go_wp2
  go_ret
  exact ⟨rfl, H23.out⟩

end Go.Proofs.Ytimbgjpjgbjnkaa
