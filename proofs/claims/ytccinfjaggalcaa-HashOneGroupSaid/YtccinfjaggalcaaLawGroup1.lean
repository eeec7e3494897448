/- The walk of the law HashOneGroup. -/
import Derived.Test.YtccinfjaggalcaaRows2
namespace Go.Proofs.Ytccinfjaggalcaa
open Go.RowKit Go.Shelf

set_option maxRecDepth 100000 in
set_option maxHeartbeats 4000000 in
theorem law_group1 (a0 : ByteArray) (a1 : Option Addr) (len1 cap1 : Nat) (z1 : List Int) (a2 a3 a4 : Int) (w : World) (w1 : Came .u8 w a1 len1 cap1 z1) (w2 : (Lit.int .i64 a2).wf = true) :
    Calls Try.prog 6 #[.string a0, .slice a1 len1 cap1, .int .i64 a2, .int .u8 a3, .int .u8 a4] w fun e w' => e = .returned (.bool true) ∧ Below w.heap.size w w' := by
  obtain ⟨j0, ji, jz0, jz1, jz2⟩ := info_parts Try.infoU8
  have JI := Lib.hid ji
  have JZ := Lib.hid jz0
  have JZ1 := Lib.hid jz1
  have JZ2 := Lib.hid jz2
  have e1 := w1.els
  have c1 := w1.cap
  have hz := ((w1.byt).take len1).take 39
  have hl1 : ((z1.take len1).take 39).length ≤ 39 := List.length_take_le _ _
  clear w1 ji jz0 jz1 jz2
  have k0 := fun W => short_any a0 20 W (by decide)
  have hs := small_size a0 20 (by decide)
  have k1 := fun W (h : Below w.heap.size w W) => few_any 39 _ _ W (by decide) (e1.below h) c1
  generalize (z1.take len1).take 39 = zs at *
  generalize a0.extract 0 20 = s at *
  have k2 := fun sv xs W (h : Els .u8 W sv xs) (hb : Hm.Byt xs) (hl : xs.length ≤ 40) => bytes_els s sv xs W (by omega) (by omega) hb h
  have k5 := fun sv xs W (h : Els .u8 W sv xs) (hl : xs.length ≤ 40) (hc : ∀ b l c, sv = .slice b l c → c ≤ maxLen) => (few_any 40 sv xs W (by decide) h hc).mono fun e w' hh => by rwa [List.take_of_length_le hl] at hh
  have k6 := fun (n : Nat) W (h : 0 < n) (hn : n ≤ 40) => around_any a2 n W (by omega) (by omega) w2
  have hxs : Hm.Byt (zs ++ [65]) := fun z h => by
    rcases List.mem_append.1 h with h | h
    · exact hz z h
    · simp at h; subst h; decide
  have K0 := Lib.hid k0
  have K1 := Lib.hid k1
  have K2 := Lib.hid k2
  have K5 := Lib.hid k5
  have K6 := Lib.hid k6
  have HXS := Lib.hid hxs
  have HB0 := Lib.hid (Below.refl w.heap.size w)
  clear e1 c1 hz hs k0 k1 k2 k5 k6 hxs w2
  go_enter Try.func6, Try.ntmps6
  go_wp2_with fail
  refine (K0.out _).mono ?_
  rintro e w' ⟨rfl, rfl⟩
  go_wp2_with fail
  refine (K1.out _ HB0.out).mono ?_
  rintro e w1 ⟨a1, n1, c1, rfl, HN1, O1, hB⟩
  have B1 := Lib.hid hB.out
  have HB1 := Lib.hid (HB0.out.trans (hB.out.mono HB0.out.size))
  have HE1 := Lib.hid O1.out.els
  clear hB
  go_wp2_with (at_builtin; refine wpList_append_own _ rfl _ _ 30 rfl w.heap.size 5 j0 (.int .u8 0) 1 1 Try.underlying30 JI.out JZ.out JZ1.out JZ2.out rfl (by decide) _ zs.length _ rfl (O1.out.alloc _) ⟨w1.heap.size, 0, none⟩ 1 1 [.int .u8 65] rfl rfl (one_new _ _ _) (by simp [Value.oneCell']) (by unfold maxLen; omega) (by omega) (by have := B1.out.size; simp; omega) ?_; intro v2 w2 hown' hgrow _; have HG := Lib.hid hgrow; obtain ⟨a2', n2, c2, rfl, HN2, O2⟩ := Own.slice (Own.more hown'); clear hown' hgrow)
  have HB2 := Lib.hid ((HB1.out.alloc HB1.out.size _).grown HG.out (by have := B1.out.size; simp; omega) (fun j hj => O1.out.lt j hj))
  have hn2 := HN2.out
  rw [List.length_append] at hn2
  have hn2a : 0 < n2 := by simp at hn2; omega
  have hn2b : n2 ≤ 40 := by simp at hn2; omega
  clear hn2 HG
  have HE2 := Lib.hid O2.out.els
  have HCAP := Lib.hid O2.out.cap
  generalize zs ++ [65] = xs at *
  refine (K5.out _ xs _ HE2.out (by rw [← HN2.out]; exact hn2b) HCAP.out).mono ?_
  rintro e w3 ⟨a3, n3, c3, rfl, HN3, O3, hB⟩
  have B3 := Lib.hid hB.out
  have HB3 := Lib.hid (HB2.out.trans (hB.out.mono HB2.out.size))
  have HE3 := Lib.hid O3.out.els
  clear hB
  have hn3 : n3 = n2 := by rw [HN3.out, HN2.out]
  subst hn3
  go_wp2_with fail
  refine (K6.out _ _ hn2a hn2b).mono ?_
  rintro e w' ⟨rfl, rfl⟩
  obtain ⟨k, hk, hkn⟩ := around_nat a2 n3 hn2a
  rw [hk]
  clear hk
  obtain ⟨g, rfl, hg, hgs, hcy, hfy⟩ := O3.out.open HN3.out hn2a
  have hck := hcy k hkn
  have hfk := hfy k
  have HCY := Lib.hid hcy
  have HFY := Lib.hid hfy
  clear hcy hfy
  by_cases hA : k + 1 < n3
  · by_cases h8 : (k + 1) % 8 = 0
    · have t8 : (((k : Int) + 1) % 8 != 0) = false := by rw [bne_eq_false_iff_eq]; omega
      clear h8
      have hyy : Hm.Byt (xs.set k (bits .xor .u8 (xs[k]?.getD 0) a3)) := byt_set HXS.out _ _ (xor_u8 _ _)
      have hyl : xs.length = (xs.set k (bits .xor .u8 (xs[k]?.getD 0) a3)).length := by simp
      have hq := Hm.bytesI_group (s := Hm.bs s) HXS.out hyy hyl (k / 8) (fun i hi => by rw [List.getElem?_set_ne (by intro h; subst h; exact hi rfl)])
      have o4 := O3.out.set HN3.out k (bits .xor .u8 (xs[k]?.getD 0) a3)
      have b4 := B3.out.setCell (p := ⟨g, k, none⟩) hg (.int .u8 (bits .xor .u8 (xs[k]?.getD 0) a3))
      have hxl : xs.length ≤ 40 := by rw [← HN3.out]; exact hn2b
      have k7 := fun sv W (h : Els .u8 W sv xs) => K2.out sv xs W h HXS.out hxl
      have k8 := fun sv W (h : Els .u8 W sv (xs.set k (bits .xor .u8 (xs[k]?.getD 0) a3))) => K2.out sv (xs.set k (bits .xor .u8 (xs[k]?.getD 0) a3)) W h hyy (by rw [← hyl]; exact hxl)
      have k9 := fun sv sv2 W (h : Els .u8 W sv xs) (h2 : Els .u8 W sv2 (xs.set k (bits .xor .u8 (xs[k]?.getD 0) a3))) => sameBytes_any sv sv2 xs (xs.set k (bits .xor .u8 (xs[k]?.getD 0) a3)) W h h2 (by omega)
      generalize xs.set k (bits .xor .u8 (xs[k]?.getD 0) a3) = ys at *
      generalize Hm.bytesI (Hm.bs s) xs = h1 at *
      generalize Hm.bytesI (Hm.bs s) ys = h2 at *
      generalize decide (xs = ys) = d at *
      have K7 := Lib.hid k7
      have K8 := Lib.hid k8
      have K9 := Lib.hid k9
      have HB4 := Lib.hid (HB2.out.trans (b4.mono HB2.out.size))
      have HE4 := Lib.hid o4.els
      have HEX := Lib.hid (HE2.out.below b4)
      clear hyy hyl hxl k7 k8 k9 o4 b4
      go_wp2_with fail
      refine (K7.out _ _ HEX.out).mono ?_
      rintro e w5 ⟨rfl, hB⟩
      have B5 := Lib.hid hB
      have HB5 := Lib.hid (HB4.out.trans (hB.mono HB4.out.size))
      clear hB
      go_wp2_with fail
      refine (K8.out _ _ (HE4.out.below B5.out)).mono ?_
      rintro e w6 ⟨rfl, hB⟩
      have B6 := Lib.hid hB
      have HB6 := Lib.hid (HB5.out.trans (hB.mono HB5.out.size))
      clear hB
      go_wp2_with fail
      refine (K9.out _ _ _ ((HEX.out.below B5.out).below B6.out) ((HE4.out.below B5.out).below B6.out)).mono ?_
      rintro e w7 ⟨rfl, hB⟩
      have B7 := Lib.hid hB
      have HB7 := Lib.hid (HB6.out.trans (hB.mono HB6.out.size))
      clear hB
      go_wp2_with fail
      refine (lives_any _).mono ?_
      rintro e w8 ⟨rfl, hB⟩
      have B8 := Lib.hid hB
      have HB8 := Lib.hid (HB7.out.trans (hB.mono HB7.out.size))
      clear hB
      go_wp2_with fail
      go_ret
      exact ⟨rfl, HB8.out⟩
    · have t8 : (((k : Int) + 1) % 8 != 0) = true := by rw [bne_iff_ne]; omega
      have hck1 := HCY.out (k + 1) hA
      have hfk1 := HFY.out (k + 1)
      have hyy : Hm.Byt ((xs.set k (bits .xor .u8 (xs[k]?.getD 0) a3)).set (k + 1) (bits .xor .u8 (xs[k + 1]?.getD 0) a4)) := byt_set (byt_set HXS.out _ _ (xor_u8 _ _)) _ _ (xor_u8 _ _)
      have hyl : xs.length = ((xs.set k (bits .xor .u8 (xs[k]?.getD 0) a3)).set (k + 1) (bits .xor .u8 (xs[k + 1]?.getD 0) a4)).length := by simp
      have hq := Hm.bytesI_group (s := Hm.bs s) HXS.out hyy hyl (k / 8) (fun i hi => by rw [List.getElem?_set_ne (by omega), List.getElem?_set_ne (by intro h; subst h; exact hi rfl)])
      have o4 := (O3.out.set HN3.out k (bits .xor .u8 (xs[k]?.getD 0) a3)).set (by rw [List.length_set]; exact HN3.out) (k + 1) (bits .xor .u8 (xs[k + 1]?.getD 0) a4)
      have b4 := (B3.out.setCell (p := ⟨g, k, none⟩) hg (.int .u8 (bits .xor .u8 (xs[k]?.getD 0) a3))).setCell (p := ⟨g, k + 1, none⟩) hg (.int .u8 (bits .xor .u8 (xs[k + 1]?.getD 0) a4))
      have hxl : xs.length ≤ 40 := by rw [← HN3.out]; exact hn2b
      have k7 := fun sv W (h : Els .u8 W sv xs) => K2.out sv xs W h HXS.out hxl
      have k8 := fun sv W (h : Els .u8 W sv ((xs.set k (bits .xor .u8 (xs[k]?.getD 0) a3)).set (k + 1) (bits .xor .u8 (xs[k + 1]?.getD 0) a4))) => K2.out sv ((xs.set k (bits .xor .u8 (xs[k]?.getD 0) a3)).set (k + 1) (bits .xor .u8 (xs[k + 1]?.getD 0) a4)) W h hyy (by rw [← hyl]; exact hxl)
      have k9 := fun sv sv2 W (h : Els .u8 W sv xs) (h2 : Els .u8 W sv2 ((xs.set k (bits .xor .u8 (xs[k]?.getD 0) a3)).set (k + 1) (bits .xor .u8 (xs[k + 1]?.getD 0) a4))) => sameBytes_any sv sv2 xs ((xs.set k (bits .xor .u8 (xs[k]?.getD 0) a3)).set (k + 1) (bits .xor .u8 (xs[k + 1]?.getD 0) a4)) W h h2 (by omega)
      generalize (xs.set k (bits .xor .u8 (xs[k]?.getD 0) a3)).set (k + 1) (bits .xor .u8 (xs[k + 1]?.getD 0) a4) = ys at *
      generalize Hm.bytesI (Hm.bs s) xs = h1 at *
      generalize Hm.bytesI (Hm.bs s) ys = h2 at *
      generalize decide (xs = ys) = d at *
      have K7 := Lib.hid k7
      have K8 := Lib.hid k8
      have K9 := Lib.hid k9
      have HB4 := Lib.hid (HB2.out.trans (b4.mono HB2.out.size))
      have HE4 := Lib.hid o4.els
      have HEX := Lib.hid (HE2.out.below b4)
      clear hyy hyl hxl k7 k8 k9 o4 b4
      go_wp2_with fail
      refine (K7.out _ _ HEX.out).mono ?_
      rintro e w5 ⟨rfl, hB⟩
      have B5 := Lib.hid hB
      have HB5 := Lib.hid (HB4.out.trans (hB.mono HB4.out.size))
      clear hB
      go_wp2_with fail
      refine (K8.out _ _ (HE4.out.below B5.out)).mono ?_
      rintro e w6 ⟨rfl, hB⟩
      have B6 := Lib.hid hB
      have HB6 := Lib.hid (HB5.out.trans (hB.mono HB5.out.size))
      clear hB
      go_wp2_with fail
      refine (K9.out _ _ _ ((HEX.out.below B5.out).below B6.out) ((HE4.out.below B5.out).below B6.out)).mono ?_
      rintro e w7 ⟨rfl, hB⟩
      have B7 := Lib.hid hB
      have HB7 := Lib.hid (HB6.out.trans (hB.mono HB6.out.size))
      clear hB
      go_wp2_with fail
      refine (lives_any _).mono ?_
      rintro e w8 ⟨rfl, hB⟩
      have B8 := Lib.hid hB
      have HB8 := Lib.hid (HB7.out.trans (hB.mono HB7.out.size))
      clear hB
      go_wp2_with fail
      go_ret
      exact ⟨rfl, HB8.out⟩
  · have hA' : decide ((k : Int) + 1 < n3) = false := by rw [decide_eq_false_iff_not]; omega
    have hyy : Hm.Byt (xs.set k (bits .xor .u8 (xs[k]?.getD 0) a3)) := byt_set HXS.out _ _ (xor_u8 _ _)
    have hyl : xs.length = (xs.set k (bits .xor .u8 (xs[k]?.getD 0) a3)).length := by simp
    have hq := Hm.bytesI_group (s := Hm.bs s) HXS.out hyy hyl (k / 8) (fun i hi => by rw [List.getElem?_set_ne (by intro h; subst h; exact hi rfl)])
    have o4 := O3.out.set HN3.out k (bits .xor .u8 (xs[k]?.getD 0) a3)
    have b4 := B3.out.setCell (p := ⟨g, k, none⟩) hg (.int .u8 (bits .xor .u8 (xs[k]?.getD 0) a3))
    have hxl : xs.length ≤ 40 := by rw [← HN3.out]; exact hn2b
    have k7 := fun sv W (h : Els .u8 W sv xs) => K2.out sv xs W h HXS.out hxl
    have k8 := fun sv W (h : Els .u8 W sv (xs.set k (bits .xor .u8 (xs[k]?.getD 0) a3))) => K2.out sv (xs.set k (bits .xor .u8 (xs[k]?.getD 0) a3)) W h hyy (by rw [← hyl]; exact hxl)
    have k9 := fun sv sv2 W (h : Els .u8 W sv xs) (h2 : Els .u8 W sv2 (xs.set k (bits .xor .u8 (xs[k]?.getD 0) a3))) => sameBytes_any sv sv2 xs (xs.set k (bits .xor .u8 (xs[k]?.getD 0) a3)) W h h2 (by omega)
    generalize xs.set k (bits .xor .u8 (xs[k]?.getD 0) a3) = ys at *
    generalize Hm.bytesI (Hm.bs s) xs = h1 at *
    generalize Hm.bytesI (Hm.bs s) ys = h2 at *
    generalize decide (xs = ys) = d at *
    have K7 := Lib.hid k7
    have K8 := Lib.hid k8
    have K9 := Lib.hid k9
    have HB4 := Lib.hid (HB2.out.trans (b4.mono HB2.out.size))
    have HE4 := Lib.hid o4.els
    have HEX := Lib.hid (HE2.out.below b4)
    clear hyy hyl hxl k7 k8 k9 o4 b4
    go_wp2_with fail
    refine (K7.out _ _ HEX.out).mono ?_
    rintro e w5 ⟨rfl, hB⟩
    have B5 := Lib.hid hB
    have HB5 := Lib.hid (HB4.out.trans (hB.mono HB4.out.size))
    clear hB
    go_wp2_with fail
    refine (K8.out _ _ (HE4.out.below B5.out)).mono ?_
    rintro e w6 ⟨rfl, hB⟩
    have B6 := Lib.hid hB
    have HB6 := Lib.hid (HB5.out.trans (hB.mono HB5.out.size))
    clear hB
    go_wp2_with fail
    refine (K9.out _ _ _ ((HEX.out.below B5.out).below B6.out) ((HE4.out.below B5.out).below B6.out)).mono ?_
    rintro e w7 ⟨rfl, hB⟩
    have B7 := Lib.hid hB
    have HB7 := Lib.hid (HB6.out.trans (hB.mono HB6.out.size))
    clear hB
    go_wp2_with fail
    refine (lives_any _).mono ?_
    rintro e w8 ⟨rfl, hB⟩
    have B8 := Lib.hid hB
    have HB8 := Lib.hid (HB7.out.trans (hB.mono HB7.out.size))
    clear hB
    go_wp2_with fail
    go_ret
    exact ⟨rfl, HB8.out⟩
end Go.Proofs.Ytccinfjaggalcaa
