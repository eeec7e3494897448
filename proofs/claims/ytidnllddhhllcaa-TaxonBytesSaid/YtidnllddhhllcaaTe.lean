/- The examples of chapter taxon hold. -/
import Derived.Test.YtidnllddhhllcaaTd
namespace Go.Proofs.Ytidnllddhhllcaa
open Go.RowKit Go.Shelf

/-- The world with the literal of the first example. -/
def litW4 (w : World) : World := (((w.alloc (.cells #[.int .i64 0] 3)).alloc (.cells #[.int .i64 0] 3)).alloc (.cells #[.int .i64 1, .int .i64 2] 3)).alloc (.cells #[.slice none 0 0, .slice (some ⟨w.heap.size, 0, none⟩) 1 1, .slice (some ⟨w.heap.size + 1, 0, none⟩) 1 1, .slice (some ⟨w.heap.size + 1 + 1, 0, none⟩) 2 2] 22)

theorem lit4 (w : World) : LE (litW4 w) (.slice (some ⟨w.heap.size + 1 + 1 + 1, 0, none⟩) 4 4) exP ∧ Below w.heap.size w (litW4 w) := by
  have ha := Els.new .i64 w 3 [0]
  have hb := Els.new .i64 (w.alloc (.cells #[.int .i64 0] 3)) 3 [0]
  have hc := Els.new .i64 ((w.alloc (.cells #[.int .i64 0] 3)).alloc (.cells #[.int .i64 0] 3)) 3 [1, 2]
  have s1 : (w.alloc (.cells #[.int .i64 0] 3)).heap.size = w.heap.size + 1 := by simp
  have s2 : ((w.alloc (.cells #[.int .i64 0] 3)).alloc (.cells #[.int .i64 0] 3)).heap.size = w.heap.size + 1 + 1 := by simp
  have s3 : (((w.alloc (.cells #[.int .i64 0] 3)).alloc (.cells #[.int .i64 0] 3)).alloc (.cells #[.int .i64 1, .int .i64 2] 3)).heap.size = w.heap.size + 1 + 1 + 1 := by simp
  rw [s1] at hb
  rw [s2] at hc
  have b2 := (Below.refl _ (w.alloc (.cells #[.int .i64 0] 3))).alloc (Nat.le_refl _) (.cells #[.int .i64 0] 3)
  have b3 := (Below.refl _ ((w.alloc (.cells #[.int .i64 0] 3)).alloc (.cells #[.int .i64 0] 3))).alloc (Nat.le_refl _) (.cells #[.int .i64 1, .int .i64 2] 3)
  have h := lit_p (T := 22) ((ha.below b2).below b3) (hb.below b3) hc rfl
  rw [s3] at h
  refine ⟨h, ?_⟩
  unfold litW4
  exact ((((Below.refl _ w).alloc (Nat.le_refl _) _).alloc (by simp) _).alloc (by simp; omega) _).alloc (by simp; omega) _

/-- The world with the literal of the second example. -/
def litW2 (w : World) : World := ((w.alloc (.cells #[.int .i64 1] 3)).alloc (.cells #[.int .i64 0] 3)).alloc (.cells #[.slice (some ⟨w.heap.size, 0, none⟩) 1 1, .slice (some ⟨w.heap.size + 1, 0, none⟩) 1 1] 22)

theorem lit2 (w : World) : LE (litW2 w) (.slice (some ⟨w.heap.size + 1 + 1, 0, none⟩) 2 2) exQ ∧ Below w.heap.size w (litW2 w) := by
  have ha := Els.new .i64 w 3 [1]
  have hb := Els.new .i64 (w.alloc (.cells #[.int .i64 1] 3)) 3 [0]
  have s1 : (w.alloc (.cells #[.int .i64 1] 3)).heap.size = w.heap.size + 1 := by simp
  have s2 : ((w.alloc (.cells #[.int .i64 1] 3)).alloc (.cells #[.int .i64 0] 3)).heap.size = w.heap.size + 1 + 1 := by simp
  rw [s1] at hb
  have b2 := (Below.refl _ (w.alloc (.cells #[.int .i64 1] 3))).alloc (Nat.le_refl _) (.cells #[.int .i64 0] 3)
  have h := lit_q (T := 22) (ha.below b2) hb rfl
  rw [s2] at h
  refine ⟨h, ?_⟩
  unfold litW2
  exact (((Below.refl _ w).alloc (Nat.le_refl _) _).alloc (by simp) _).alloc (by simp; omega) _

/-- A literal of numbers. -/
theorem lit_ints (w : World) (zs : List Int) (cs : Array Value) (n : Nat) (hcs : cs = (zs.map (Value.int .i64)).toArray) (hn : n = zs.length) : Els .i64 (w.alloc (.cells cs 3)) (.slice (some ⟨w.heap.size, 0, none⟩) n n) zs := by
  subst hcs
  subst hn
  exact Els.new .i64 w 3 zs

set_option maxHeartbeats 8000000 in
set_option maxRecDepth 100000 in
theorem lives05 (w : World) : Calls Try.prog 17 #[] w fun e w' => e = .returned (.bool true) ∧ Below w.heap.size w w' := by
  have k1 := fun (sv : Value) (W : World) (h : LE W sv exP) => new_ok sv exP W h (by decide) (by decide) exP_good
  have k2 := fun (sv : Value) (W : World) (h : LE W sv exQ) => new_err sv exQ W h (by decide) (by decide) exQ_err (by decide)
  have k3 := fun (N : Nat) (sv : Value) (W : World) (h : TxAt N exP W) (hl : Els .i64 W sv [1]) => tup_any N exP sv [1] W h hl (by decide)
  have k4 := fun (N : Nat) (W : World) (h : TxAt N exP W) => tdown_any N exP 1 W h
  have k5 := fun (N : Nat) (sv : Value) (W : World) (h : TxAt N exP W) (hl : Els .i64 W sv [0, 1, 2]) => tleast_any N exP sv [0, 1, 2] W h hl (by decide)
  have k6 := fun (N : Nat) (W : World) (h : TxAt N exP W) => tis_any N exP 3 0 W h
  have k7 := fun (N : Nat) (W : World) (h : TxAt N exP W) => tis_any N exP 0 3 W h
  rw [ex_up, show noneE exP.length [1] = 0 from by decide] at k3
  rw [ex_down, show downE exP.length 1 = 0 from by decide] at k4
  rw [ex_least, show noneE exP.length [0, 1, 2] = 0 from by decide] at k5
  rw [ex_is] at k6
  rw [ex_is2] at k7
  have k8 := fun (sv sv2 : Value) (W : World) (h1 : Els .i64 W sv [0, 1]) (h2 : Els .i64 W sv2 [0, 1]) => sameInts_any sv sv2 _ _ W h1 h2 (by decide)
  have k9 := fun (sv sv2 : Value) (W : World) (h1 : Els .i64 W sv [1, 3]) (h2 : Els .i64 W sv2 [1, 3]) => sameInts_any sv sv2 _ _ W h1 h2 (by decide)
  have k10 := fun (sv sv2 : Value) (W : World) (h1 : Els .i64 W sv [1, 2]) (h2 : Els .i64 W sv2 [1, 2]) => sameInts_any sv sv2 _ _ W h1 h2 (by decide)
  have e0 := Lib.hid (Below.refl w.heap.size w)
  have K1 := Lib.hid k1
  have K2 := Lib.hid k2
  have K3 := Lib.hid k3
  have K4 := Lib.hid k4
  have K5 := Lib.hid k5
  have K6 := Lib.hid k6
  have K7 := Lib.hid k7
  have K8 := Lib.hid k8
  have K9 := Lib.hid k9
  have K10 := Lib.hid k10
  clear k1 k2 k3 k4 k5 k6 k7 k8 k9 k10
  go_enter Try.func17, Try.ntmps17
  have l4 := lit4 w
  have L4 := Lib.hid l4
  clear l4
  go_wp2_with fail
  refine (K1.out _ _ L4.out.1).mono ?_
  rintro e w1 ⟨N, rfl, X1, B1⟩
  have H1 := Lib.hid (Since.step L4.out.2 B1.out)
  have L2 := Lib.hid (lit2 w1)
  go_wp2_with fail
  refine (K2.out _ _ L2.out.1).mono ?_
  rintro e w2 ⟨rfl, B2⟩
  have H2 := Lib.hid (Since.step (Since.step H1.out L2.out.2) B2)
  have X2 := Lib.hid ((X1.out.below L2.out.2).below B2)
  clear B2 X1 B1
  go_wp2_with fail
  refine (K3.out N _ _ (X2.out.below ((Below.refl _ _).alloc (Nat.le_refl _) _)) (lit_ints w2 [1] _ _ rfl rfl)).mono ?_
  rintro e w3 ⟨a3, n3, c3, rfl, HN3, O3, B3⟩
  have HA3 := Lib.hid (Since.step ((Below.refl w2.heap.size w2).alloc (Nat.le_refl _) _) B3.out)
  have H3 := Lib.hid (Since.step H2.out HA3.out)
  have X3 := Lib.hid (X2.out.below HA3.out)
  have E3 := Lib.hid O3.out.els
  clear O3 X2
  go_wp2_with fail
  refine (K4.out N _ X3.out).mono ?_
  rintro e w4 ⟨a4, n4, c4, rfl, HN4, O4, B4⟩
  have H4 := Lib.hid (Since.step H3.out B4.out)
  have X4 := Lib.hid (X3.out.below B4.out)
  have E34 := Lib.hid (E3.out.below B4.out)
  have E4 := Lib.hid O4.out.els
  clear O4 X3 E3
  go_wp2_with fail
  refine (K5.out N _ _ (X4.out.below ((Below.refl _ _).alloc (Nat.le_refl _) _)) (lit_ints w4 [0, 1, 2] _ _ rfl rfl)).mono ?_
  rintro e w5 ⟨a5, n5, c5, rfl, HN5, O5, B5⟩
  have HA5 := Lib.hid (Since.step ((Below.refl w4.heap.size w4).alloc (Nat.le_refl _) _) B5.out)
  have H5 := Lib.hid (Since.step H4.out HA5.out)
  have X5 := Lib.hid (X4.out.below HA5.out)
  have E35 := Lib.hid (E34.out.below HA5.out)
  have E45 := Lib.hid (E4.out.below HA5.out)
  have E5 := Lib.hid O5.out.els
  clear O5 X4 E34 E4
  go_wp2_with fail
  refine (K6.out N _ X5.out).mono ?_
  rintro e w' ⟨rfl, rfl⟩
  go_wp2_with fail
  refine (K7.out N _ X5.out).mono ?_
  rintro e w' ⟨rfl, rfl⟩
  go_wp2_with fail
  refine (K8.out _ _ _ (E35.out.below ((Below.refl _ _).alloc (Nat.le_refl _) _)) (lit_ints _ [0, 1] _ _ rfl rfl)).mono ?_
  rintro e w6 ⟨rfl, B6⟩
  have HA6 := Lib.hid (Since.step ((Below.refl _ _).alloc (Nat.le_refl _) _) B6)
  have H6 := Lib.hid (Since.step H5.out HA6.out)
  have E46 := Lib.hid (E45.out.below HA6.out)
  have E56 := Lib.hid (E5.out.below HA6.out)
  clear B6
  go_wp2_with fail
  refine (K9.out _ _ _ (E46.out.below ((Below.refl _ _).alloc (Nat.le_refl _) _)) (lit_ints _ [1, 3] _ _ rfl rfl)).mono ?_
  rintro e w7 ⟨rfl, B7⟩
  have HA7 := Lib.hid (Since.step ((Below.refl _ _).alloc (Nat.le_refl _) _) B7)
  have H7 := Lib.hid (Since.step H6.out HA7.out)
  have E57 := Lib.hid (E56.out.below HA7.out)
  clear B7
  go_wp2_with fail
  refine (K10.out _ _ _ (E57.out.below ((Below.refl _ _).alloc (Nat.le_refl _) _)) (lit_ints _ [1, 2] _ _ rfl rfl)).mono ?_
  rintro e w8 ⟨rfl, B8⟩
  have HA8 := Lib.hid (Since.step ((Below.refl _ _).alloc (Nat.le_refl _) _) B8)
  have H8 := Lib.hid (Since.step H7.out HA8.out)
  clear B8
  go_wp2
  go_ret
  exact ⟨rfl, H8.out⟩

end Go.Proofs.Ytidnllddhhllcaa
