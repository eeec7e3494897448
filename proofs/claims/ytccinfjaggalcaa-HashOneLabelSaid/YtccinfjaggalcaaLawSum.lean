/- The walks of the laws HashSum and HashBytes. -/
import Derived.Test.YtccinfjaggalcaaRows1
import Derived.Test.YtccinfjaggalcaaRefS
namespace Go.Proofs.Ytccinfjaggalcaa
open Go.RowKit Go.Shelf

theorem small_size (s : ByteArray) (n : Nat) (hn : n ≤ 1000) : (s.extract 0 n).size ≤ 1000 := Nat.le_trans (extract_size s n) hn

set_option maxHeartbeats 2000000 in
theorem law_sum (a0 : ByteArray) (a1 : Option Addr) (len1 cap1 : Nat) (z1 : List Int) (w : World) (w1 : Came .i64 w a1 len1 cap1 z1) :
    Calls Try.prog 3 #[.string a0, .slice a1 len1 cap1] w fun e w' => e = .returned (.bool true) ∧ Below w.heap.size w w' := by
  have e1 := w1.els
  have c1 := w1.cap
  have hl1 : ((z1.take len1).take 12).length ≤ 12 := List.length_take_le _ _
  clear w1
  have k0 := fun W => short_any a0 40 W (by decide)
  have hs := small_size a0 40 (by decide)
  have k1 := fun W (h : Below w.heap.size w W) => ints_any 12 _ _ W (by decide) (e1.below h) c1
  generalize (z1.take len1).take 12 = zs at *
  generalize a0.extract 0 40 = s at *
  have k2 := fun sv W (h : Els .i64 W sv zs) => sum_els s sv zs W (by omega) (by omega) h
  have k3 := fun sv W (h : Els .i64 W sv zs) => refsum_els s sv zs W hs (by omega) h
  have k4 := fun W => sum_nil s none 0 W (by omega)
  have k5 := fun W => refsum_els s (.slice none 0 0) [] W hs (by decide) (.inl ⟨.inl rfl, rfl⟩)
  generalize Hm.sumI (Hm.bs s) zs = h1 at *
  generalize Hm.sumI (Hm.bs s) [] = h2 at *
  have K0 := Lib.hid k0
  have K1 := Lib.hid k1
  have K2 := Lib.hid k2
  have K3 := Lib.hid k3
  have K4 := Lib.hid k4
  have K5 := Lib.hid k5
  have HB0 := Lib.hid (Below.refl w.heap.size w)
  clear e1 c1 hl1 k0 k1 k2 k3 k4 k5 hs
  go_enter Try.func3, Try.ntmps3
  go_wp2_with fail
  refine (K0.out _).mono ?_
  rintro e w' ⟨rfl, rfl⟩
  go_wp2_with fail
  refine (K1.out _ HB0.out).mono ?_
  rintro e w1 ⟨a1, n1, c1, rfl, HN1, O1, hB⟩
  have B1 := Lib.hid hB.out
  have HB1 := Lib.hid (HB0.out.trans (hB.out.mono HB0.out.size))
  have HE1 := Lib.hid O1.out.els
  clear hB
  go_wp2_with fail
  refine (K2.out _ _ HE1.out).mono ?_
  rintro e w2 ⟨rfl, hB⟩
  have B2 := Lib.hid hB
  have HB2 := Lib.hid (HB1.out.trans (hB.mono HB1.out.size))
  clear hB
  go_wp2_with fail
  refine (K3.out _ _ (HE1.out.below B2.out)).mono ?_
  rintro e w3 ⟨rfl, hB⟩
  have B3 := Lib.hid hB
  have HB3 := Lib.hid (HB2.out.trans (hB.mono HB2.out.size))
  clear hB
  go_wp2_with fail
  refine (K4.out _).mono ?_
  rintro e w4 ⟨rfl, hB⟩
  have B4 := Lib.hid hB
  have HB4 := Lib.hid (HB3.out.trans (hB.mono HB3.out.size))
  clear hB
  go_wp2_with fail
  refine (K5.out _).mono ?_
  rintro e w5 ⟨rfl, hB⟩
  have B5 := Lib.hid hB
  have HB5 := Lib.hid (HB4.out.trans (hB.mono HB4.out.size))
  clear hB
  go_wp2_with fail
  refine (lives_any _).mono ?_
  rintro e w6 ⟨rfl, hB⟩
  have B6 := Lib.hid hB
  have HB6 := Lib.hid (HB5.out.trans (hB.mono HB5.out.size))
  clear hB
  go_wp2_with fail
  go_ret
  exact ⟨rfl, HB6.out⟩

set_option maxHeartbeats 2000000 in
theorem law_bytes (a0 : ByteArray) (a1 : Option Addr) (len1 cap1 : Nat) (z1 : List Int) (a2 a3 : Int) (w : World) (w1 : Came .u8 w a1 len1 cap1 z1) :
    Calls Try.prog 4 #[.string a0, .slice a1 len1 cap1, .int .u64 a2, .int .u64 a3] w fun e w' => e = .returned (.bool true) ∧ Below w.heap.size w w' := by
  have e1 := w1.els
  have c1 := w1.cap
  have hz := ((w1.byt).take len1).take 60
  have hl1 : ((z1.take len1).take 60).length ≤ 60 := List.length_take_le _ _
  clear w1
  have k0 := fun W => short_any a0 20 W (by decide)
  have hs := small_size a0 20 (by decide)
  have k1 := fun W (h : Below w.heap.size w W) => few_any 60 _ _ W (by decide) (e1.below h) c1
  generalize (z1.take len1).take 60 = zs at *
  generalize a0.extract 0 20 = s at *
  have k2 := fun sv W (h : Els .u8 W sv zs) => bytes_els s sv zs W (by omega) (by omega) hz h
  have k3 := fun sv W (h : Els .u8 W sv zs) => refbytes_els s sv zs W hs (by omega) hz h
  have k4 := fun W => pair_any a2 a3 W
  have k5 := fun W => refpair_any a2 a3 W
  generalize Hm.bytesI (Hm.bs s) zs = h1 at *
  generalize Hm.pairI a2 a3 = h2 at *
  have K0 := Lib.hid k0
  have K1 := Lib.hid k1
  have K2 := Lib.hid k2
  have K3 := Lib.hid k3
  have K4 := Lib.hid k4
  have K5 := Lib.hid k5
  have HB0 := Lib.hid (Below.refl w.heap.size w)
  clear e1 c1 hz hl1 k0 k1 k2 k3 k4 k5 hs
  go_enter Try.func4, Try.ntmps4
  go_wp2_with fail
  refine (K0.out _).mono ?_
  rintro e w' ⟨rfl, rfl⟩
  go_wp2_with fail
  refine (K1.out _ HB0.out).mono ?_
  rintro e w1 ⟨a1, n1, c1, rfl, HN1, O1, hB⟩
  have B1 := Lib.hid hB.out
  have HB1 := Lib.hid (HB0.out.trans (hB.out.mono HB0.out.size))
  have HE1 := Lib.hid O1.out.els
  clear hB
  go_wp2_with fail
  refine (K2.out _ _ HE1.out).mono ?_
  rintro e w2 ⟨rfl, hB⟩
  have B2 := Lib.hid hB
  have HB2 := Lib.hid (HB1.out.trans (hB.mono HB1.out.size))
  clear hB
  go_wp2_with fail
  refine (K3.out _ _ (HE1.out.below B2.out)).mono ?_
  rintro e w3 ⟨rfl, hB⟩
  have B3 := Lib.hid hB
  have HB3 := Lib.hid (HB2.out.trans (hB.mono HB2.out.size))
  clear hB
  go_wp2_with fail
  refine (K4.out _).mono ?_
  rintro e w4 ⟨rfl, hB⟩
  have B4 := Lib.hid hB
  have HB4 := Lib.hid (HB3.out.trans (hB.mono HB3.out.size))
  clear hB
  go_wp2_with fail
  refine (K5.out _).mono ?_
  rintro e w5 ⟨rfl, hB⟩
  have B5 := Lib.hid hB
  have HB5 := Lib.hid (HB4.out.trans (hB.mono HB4.out.size))
  clear hB
  go_wp2_with fail
  refine (lives_any _).mono ?_
  rintro e w6 ⟨rfl, hB⟩
  have B6 := Lib.hid hB
  have HB6 := Lib.hid (HB5.out.trans (hB.mono HB5.out.size))
  clear hB
  go_wp2_with fail
  go_ret
  exact ⟨rfl, HB6.out⟩
end Go.Proofs.Ytccinfjaggalcaa
