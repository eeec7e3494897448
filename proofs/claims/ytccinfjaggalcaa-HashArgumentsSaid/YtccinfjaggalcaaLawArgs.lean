/- The walk of the law HashArguments. -/
import Derived.Test.YtccinfjaggalcaaRows1
namespace Go.Proofs.Ytccinfjaggalcaa
open Go.RowKit Go.Shelf

set_option maxHeartbeats 2000000 in
theorem law_args (a0 : Option Addr) (len0 cap0 : Nat) (z0 : List Int) (a1 : Option Addr) (len1 cap1 : Nat) (z1 : List Int) (w : World) (w0 : Came .i64 w a0 len0 cap0 z0) (w1 : Came .u8 w a1 len1 cap1 z1) :
    Calls Try.prog 10 #[.slice a0 len0 cap0, .slice a1 len1 cap1] w fun e w' => e = .returned (.bool true) ∧ Below w.heap.size w w' := by
  have e0 := w0.els
  have e1 := w1.els
  have c0 := w0.cap
  have c1 := w1.cap
  have hz := ((w1.byt).take len1).take 30
  have hl0 : ((z0.take len0).take 10).length ≤ 10 := List.length_take_le _ _
  have hl1 : ((z1.take len1).take 30).length ≤ 30 := List.length_take_le _ _
  clear w0 w1
  have k1 := fun W (h : Below w.heap.size w W) => ints_any 10 _ _ W (by decide) (e0.below h) c0
  have k2 := fun W (h : Below w.heap.size w W) => few_any 30 _ _ W (by decide) (e1.below h) c1
  generalize (z0.take len0).take 10 = zs at *
  generalize (z1.take len1).take 30 = cs at *
  have K1 := Lib.hid k1
  have K2 := Lib.hid k2
  have hs : ({ data := #[115, 97, 109, 101] } : ByteArray).size ≤ 140737488351232 := by decide
  have k3 := fun sv W (h : Els .i64 W sv zs) => sum_els { data := #[115, 97, 109, 101] } sv zs W hs (by omega) h
  have k4 := fun sv W (h : Els .u8 W sv cs) => bytes_els { data := #[115, 97, 109, 101] } sv cs W hs (by omega) hz h
  generalize Hm.sumI (Hm.bs { data := #[115, 97, 109, 101] }) zs = h1 at *
  generalize Hm.bytesI (Hm.bs { data := #[115, 97, 109, 101] }) cs = h2 at *
  have K3 := Lib.hid k3
  have K4 := Lib.hid k4
  have k5 := fun sv sv2 W (h : Els .i64 W sv zs) (h2 : Els .i64 W sv2 zs) => (sameInts_any sv sv2 zs zs W h h2 (by omega)).mono fun e w' hh => And.intro (hh.1.trans (ret_bool (b := true) (decide_eq_true rfl))) hh.2
  have k6 := fun sv sv2 W (h : Els .u8 W sv cs) (h2 : Els .u8 W sv2 cs) => (sameBytes_any sv sv2 cs cs W h h2 (by omega)).mono fun e w' hh => And.intro (hh.1.trans (ret_bool (b := true) (decide_eq_true rfl))) hh.2
  have K5 := Lib.hid k5
  have K6 := Lib.hid k6
  clear e0 e1 c0 c1 hz hl0 hl1 k1 k2 k3 k4 hs k5 k6
  go_enter Try.func10, Try.ntmps10
  have HB0 := Lib.hid (Below.refl w.heap.size w)
  go_wp2_with fail
  refine (K1.out _ HB0.out).mono ?_
  rintro e w1 ⟨a1, n1, c1, rfl, HN1, O1, hB⟩
  have B1 := Lib.hid hB.out
  have HB1 := Lib.hid (HB0.out.trans (hB.out.mono HB0.out.size))
  have HE1 := Lib.hid O1.out.els
  clear hB
  go_wp2_with fail
  refine (K2.out _ HB1.out).mono ?_
  rintro e w2 ⟨a2, n2, c2, rfl, HN2, O2, hB⟩
  have B2 := Lib.hid hB.out
  have HB2 := Lib.hid (HB1.out.trans (hB.out.mono HB1.out.size))
  have HE2 := Lib.hid O2.out.els
  clear hB
  go_wp2_with fail
  refine (K3.out _ _ (HE1.out.below B2.out)).mono ?_
  rintro e w3 ⟨rfl, hB⟩
  have B3 := Lib.hid hB
  have HB3 := Lib.hid (HB2.out.trans (hB.mono HB2.out.size))
  clear hB
  go_wp2_with fail
  refine (K4.out _ _ (HE2.out.below B3.out)).mono ?_
  rintro e w4 ⟨rfl, hB⟩
  have B4 := Lib.hid hB
  have HB4 := Lib.hid (HB3.out.trans (hB.mono HB3.out.size))
  clear hB
  go_wp2_with fail
  refine (K1.out _ HB4.out).mono ?_
  rintro e w5 ⟨a5, n5, c5, rfl, HN5, O5, hB⟩
  have B5 := Lib.hid hB.out
  have HB5 := Lib.hid (HB4.out.trans (hB.out.mono HB4.out.size))
  have HE5 := Lib.hid O5.out.els
  clear hB
  go_wp2_with fail
  refine (K5.out _ _ _ ((((HE1.out.below B2.out).below B3.out).below B4.out).below B5.out) HE5.out).mono ?_
  rintro e w6 ⟨rfl, hB⟩
  have B6 := Lib.hid hB
  have HB6 := Lib.hid (HB5.out.trans (hB.mono HB5.out.size))
  clear hB
  go_wp2_with fail
  refine (K2.out _ HB6.out).mono ?_
  rintro e w7 ⟨a7, n7, c7, rfl, HN7, O7, hB⟩
  have B7 := Lib.hid hB.out
  have HB7 := Lib.hid (HB6.out.trans (hB.out.mono HB6.out.size))
  have HE7 := Lib.hid O7.out.els
  clear hB
  go_wp2_with fail
  refine (K6.out _ _ _ (((((HE2.out.below B3.out).below B4.out).below B5.out).below B6.out).below B7.out) HE7.out).mono ?_
  rintro e w8 ⟨rfl, hB⟩
  have B8 := Lib.hid hB
  have HB8 := Lib.hid (HB7.out.trans (hB.mono HB7.out.size))
  clear hB
  go_wp2_with fail
  refine (K3.out _ _ (((((((HE1.out.below B2.out).below B3.out).below B4.out).below B5.out).below B6.out).below B7.out).below B8.out)).mono ?_
  rintro e w9 ⟨rfl, hB⟩
  have B9 := Lib.hid hB
  have HB9 := Lib.hid (HB8.out.trans (hB.mono HB8.out.size))
  clear hB
  go_wp2_with fail
  refine (K4.out _ _ (((((((HE2.out.below B3.out).below B4.out).below B5.out).below B6.out).below B7.out).below B8.out).below B9.out)).mono ?_
  rintro e w10 ⟨rfl, hB⟩
  have B10 := Lib.hid hB
  have HB10 := Lib.hid (HB9.out.trans (hB.mono HB9.out.size))
  clear hB
  go_wp2_with fail
  refine (lives_any _).mono ?_
  rintro e w11 ⟨rfl, hB⟩
  have B11 := Lib.hid hB
  have HB11 := Lib.hid (HB10.out.trans (hB.mono HB10.out.size))
  clear hB
  go_wp2_with fail
  go_ret
  exact ⟨rfl, HB11.out⟩
end Go.Proofs.Ytccinfjaggalcaa
