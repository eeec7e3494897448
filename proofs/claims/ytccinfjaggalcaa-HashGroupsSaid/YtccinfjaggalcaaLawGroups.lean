/- The walk of the law HashGroups. -/
import Derived.Test.YtccinfjaggalcaaLawSum
namespace Go.Proofs.Ytccinfjaggalcaa
open Go.RowKit Go.Shelf

set_option maxRecDepth 100000 in
set_option maxHeartbeats 2000000 in
theorem law_groups (a0 : ByteArray) (a1 : Option Addr) (len1 cap1 : Nat) (z1 : List Int) (w : World) (w1 : Came .u8 w a1 len1 cap1 z1) :
    Calls Try.prog 8 #[.string a0, .slice a1 len1 cap1] w fun e w' => e = .returned (.bool true) ∧ Below w.heap.size w w' := by
  obtain ⟨i0, hi, hz0, hz1, hz2⟩ := info_parts Try.infoI64
  have HI := Lib.hid hi
  have HZ := Lib.hid hz0
  have HZ1 := Lib.hid hz1
  have HZ2 := Lib.hid hz2
  obtain ⟨j0, ji, jz0, jz1, jz2⟩ := info_parts Try.infoU8
  have JI := Lib.hid ji
  have JZ := Lib.hid jz0
  have JZ1 := Lib.hid jz1
  have JZ2 := Lib.hid jz2
  have e1 := w1.els
  have c1 := w1.cap
  have hz := ((w1.byt).take len1).take 60
  have hl1 : ((z1.take len1).take 60).length ≤ 60 := List.length_take_le _ _
  clear w1 hi hz0 hz1 hz2 ji jz0 jz1 jz2
  have k0 := fun W => short_any a0 20 W (by decide)
  have hs := small_size a0 20 (by decide)
  have k1 := fun W (h : Below w.heap.size w W) => few_any 60 _ _ W (by decide) (e1.below h) c1
  generalize (z1.take len1).take 60 = zs at *
  generalize a0.extract 0 20 = s at *
  have k2 := fun sv W (h : Els .u8 W sv zs) => bytes_els s sv zs W (by omega) (by omega) hz h
  have hz0 : Hm.Byt (zs ++ [0]) := fun z h => by
    rcases List.mem_append.1 h with h | h
    · exact hz z h
    · simp at h; subst h; decide
  have k3 := fun sv W (h : Els .u8 W sv (zs ++ [0])) => bytes_els s sv (zs ++ [0]) W (by omega) (by rw [List.length_append]; simp; omega) hz0 h
  have k4 := fun sv W (h : Els .i64 W sv (Hm.upto (fun j => IntKind.i64.wrap ((Hm.words zs)[j]?.getD 0)) (Hm.words zs).length ++ [(zs.length : Int)])) =>
    (sum_els s sv _ W (by omega) (by rw [List.length_append, Hm.upto_length, Hm.words_length]; simp; omega) h).mono fun e w' hh => And.intro (hh.1.trans (ret_int (Hm.bytesI_eq64 _ zs))) hh.2
  have k5 := fun sv W (h : Els .u8 W sv zs) (hc : ∀ b l c, sv = .slice b l c → c ≤ maxLen) => (few_any 60 sv zs W (by decide) h hc).mono fun e w' hh => by rwa [List.take_of_length_le hl1] at hh
  have k6 := fun sv W (h : Els .u8 W sv zs) => words_any sv zs W (by omega) hz h
  have hne := fun h => Hm.bytesI_tail (Hm.bs s) zs h
  generalize Hm.bytesI (Hm.bs s) zs = h1 at *
  generalize Hm.bytesI (Hm.bs s) (zs ++ [0]) = h2 at *
  have K0 := Lib.hid k0
  have K1 := Lib.hid k1
  have K2 := Lib.hid k2
  have K3 := Lib.hid k3
  have K4 := Lib.hid k4
  have K5 := Lib.hid k5
  have K6 := Lib.hid k6
  have HNE := Lib.hid hne
  have HB0 := Lib.hid (Below.refl w.heap.size w)
  clear e1 c1 hz hz0 k0 k1 k2 k3 k4 k5 k6 hs hne
  go_enter Try.func8, Try.ntmps8
  go_wp2_with fail
  refine (K0.out _).mono ?_
  rintro e w' ⟨rfl, rfl⟩
  go_wp2_with fail
  refine (K1.out _ HB0.out).mono ?_
  rintro e w1 ⟨a1, n1, c1, rfl, HN1, O1, hB⟩
  have B1 := Lib.hid hB.out
  have HB1 := Lib.hid (HB0.out.trans (hB.out.mono HB0.out.size))
  have HE1 := Lib.hid O1.out.els
  clear hB
  go_wp2_with fail
  refine (K6.out _ _ HE1.out).mono ?_
  rintro e w2 ⟨a2, n2, c2, rfl, HN2, O2, hB⟩
  have B2 := Lib.hid hB.out
  have HB2 := Lib.hid (HB1.out.trans (hB.out.mono HB1.out.size))
  have HE2 := Lib.hid O2.out.els
  clear hB
  have hnw := HN2.out
  rw [Hm.words_length] at hnw
  have hn1 : n2 ≤ 150 := by omega
  have hnb : n1 ≤ 60 := by rw [HN1.out]; exact hl1
  clear hnw
  go_wp2_with fail
  go_loopw [8, 9] (fun v i wr => ∃ k : Nat, k ≤ n2 ∧ i = .int .i64 k ∧ Hid (wr.ownsRow w2.heap.size 3 1 v k ((Hm.upto (fun j => IntKind.i64.wrap ((Hm.words zs)[j]?.getD 0)) k).map (Value.int .i64))) ∧ Hid (Below w2.heap.size w2 wr)) (fun _ i _ => n2 - (intOf i).toNat)
  case atStart => exact ⟨0, Nat.zero_le _, rfl, World.ownsRow_nil _ _ _ _, Below.refl _ _⟩
  case round =>
    obtain ⟨k, hk, rfl, hown, hB⟩ := hrel
    by_cases hlt : k < n2
    · obtain ⟨b, off, rfl, hcx⟩ := (HE2.out.below hB.out).at k hlt
      have hw64 := IntWalk.i64_left ((Hm.words zs)[k]?.getD 0)
      have HW64 := Lib.hid hw64
      clear hw64
      go_wp2_with (at_builtin; refine wpList_append_own _ rfl _ _ 22 rfl w2.heap.size 3 i0 (.int .i64 0) 1 8 Try.underlying22 HI.out HZ.out HZ1.out HZ2.out rfl (by decide) _ k _ rfl (hown.out.alloc _) ⟨wr.heap.size, 0, none⟩ 1 1 [.int .i64 (wrap64 ((Hm.words zs)[k]?.getD 0))] rfl rfl (one_new _ _ _) (by simp [Value.oneCell']) (by unfold maxLen; omega) (by omega) (by have := hB.out.size; simp; omega) ?_; intro v' w2 hown' hgrow _; have HO := Lib.hid hown'; have HG := Lib.hid hgrow; clear hown' hgrow)
      go_roundw
      case rel => exact ⟨k + 1, by omega, by go_num, own_snoc (by rw [HW64.out]; exact HO.out), (hB.out.alloc hB.out.size _).grown HG.out (by have := hB.out.size; simp; omega) (fun j hj => (hown.out.lt j hj).1)⟩
      case measure => simp [intOf]; omega
    · have hge : n2 ≤ k := by omega
      have hke : k = n2 := by omega
      have HK := Lib.hid hke
      clear hke
      have B3 := hB
      have HB3 := Lib.hid (HB2.out.trans (B3.out.mono HB2.out.size))
      obtain ⟨w3, rfl⟩ : ∃ w3, w3 = wr := ⟨_, rfl⟩
      go_wp2_with fail
      refine (K2.out _ _ ((HE1.out.below B2.out).below B3.out)).mono ?_
      rintro e w4 ⟨rfl, hB⟩
      have B4 := Lib.hid hB
      have HB4 := Lib.hid (HB3.out.trans (hB.mono HB3.out.size))
      clear hB
      have HOW := Lib.hid (owns_below hown.out B4.out)
      have HBW := Lib.hid (B3.out.trans (B4.out.mono B3.out.size))
      go_wp2_with (at_builtin; refine wpList_append_own _ rfl _ _ 22 rfl w2.heap.size 3 i0 (.int .i64 0) 1 8 Try.underlying22 HI.out HZ.out HZ1.out HZ2.out rfl (by decide) _ k _ rfl (HOW.out.alloc _) ⟨w4.heap.size, 0, none⟩ 1 1 [.int .i64 n1] rfl rfl (one_new _ _ _) (by simp [Value.oneCell']) (by unfold maxLen; omega) (by omega) (by have := HBW.out.size; simp; omega) ?_; intro v' w5 hown' hgrow _; have HO := Lib.hid hown'; have HG := Lib.hid hgrow; clear hown' hgrow)
      have HB5 := Lib.hid (HB2.out.trans (((HBW.out.alloc HBW.out.size _).grown HG.out (by have := HBW.out.size; simp; omega) (fun j hj => (HOW.out.lt j hj).1)).mono HB2.out.size))
      have B5 := Lib.hid ((((Below.refl w1.heap.size w1).trans B2.out).trans ((HBW.out.alloc HBW.out.size _).grown HG.out (by have := HBW.out.size; simp; omega) (fun j hj => (HOW.out.lt j hj).1) |>.mono B2.out.size)))
      have HE5 := Lib.hid (HE1.out.below B5.out)
      have HOE : Hid (Els .i64 w5 v' (Hm.upto (fun j => IntKind.i64.wrap ((Hm.words zs)[j]?.getD 0)) (Hm.words zs).length ++ [(zs.length : Int)])) := by
        have := (own_push HO.out).els
        rwa [HK.out, HN2.out, HN1.out] at this
      clear HO HG HOW HBW hown
      refine (K4.out _ _ HOE.out).mono ?_
      rintro e w6 ⟨rfl, hB⟩
      have B6 := Lib.hid hB
      have HB6 := Lib.hid (HB5.out.trans (hB.mono HB5.out.size))
      clear hB
      go_wp2_with fail
      refine (K5.out _ _ (HE5.out.below B6.out) O1.out.cap).mono ?_
      rintro e w7 ⟨a7, n7, c7, rfl, HN7, O7, hB⟩
      have B7 := Lib.hid hB.out
      have HB7 := Lib.hid (HB6.out.trans (hB.out.mono HB6.out.size))
      have HE7 := Lib.hid O7.out.els
      clear hB
      have hl2 : zs.length ≤ 60 := hl1
      by_cases h8 : n1 % 8 = 0
      · have t8 : ((n1 : Int) % 8 == 0) = true := by rw [beq_iff_eq]; omega
        clear h8
        go_wp2_with (at_builtin; refine wpList_append_own _ rfl _ _ 30 rfl w6.heap.size 5 j0 (.int .u8 0) 1 1 Try.underlying30 JI.out JZ.out JZ1.out JZ2.out rfl (by decide) _ zs.length _ rfl (O7.out.alloc _) ⟨w7.heap.size, 0, none⟩ 1 1 [.int .u8 0] rfl rfl (one_new _ _ _) (by simp [Value.oneCell']) (by unfold maxLen; omega) (by omega) (by have := B7.out.size; simp; omega) ?_; intro v8 w8 hown' hgrow _; have HO := Lib.hid hown'; have HG := Lib.hid hgrow; clear hown' hgrow)
        have B8 := Lib.hid ((B7.out.alloc B7.out.size _).grown HG.out (by have := B7.out.size; simp; omega) (fun j hj => O7.out.lt j hj))
        have HB8 := Lib.hid (HB6.out.trans (B8.out.mono HB6.out.size))
        refine (lives_any _).mono ?_
        rintro e w9 ⟨rfl, hB⟩
        have B9 := Lib.hid hB
        have HB9 := Lib.hid (HB8.out.trans (hB.mono HB8.out.size))
        clear hB
        go_wp2_with fail
        go_ret
        exact ⟨rfl, HB9.out⟩
      · have t8 : ((n1 : Int) % 8 == 0) = false := by rw [beq_eq_false_iff_ne]; omega
        have tne : (h2 != h1) = true := by rw [bne_iff_ne]; exact HNE.out (by rw [← HN1.out]; exact h8)
        clear h8
        go_wp2_with (at_builtin; refine wpList_append_own _ rfl _ _ 30 rfl w6.heap.size 5 j0 (.int .u8 0) 1 1 Try.underlying30 JI.out JZ.out JZ1.out JZ2.out rfl (by decide) _ zs.length _ rfl (O7.out.alloc _) ⟨w7.heap.size, 0, none⟩ 1 1 [.int .u8 0] rfl rfl (one_new _ _ _) (by simp [Value.oneCell']) (by unfold maxLen; omega) (by omega) (by have := B7.out.size; simp; omega) ?_; intro v8 w8 hown' hgrow _; have HO := Lib.hid hown'; have HG := Lib.hid hgrow; clear hown' hgrow)
        have B8 := Lib.hid ((B7.out.alloc B7.out.size _).grown HG.out (by have := B7.out.size; simp; omega) (fun j hj => O7.out.lt j hj))
        have HB8 := Lib.hid (HB6.out.trans (B8.out.mono HB6.out.size))
        have HE8 := Lib.hid (Own.more HO.out).els
        refine (K3.out _ _ HE8.out).mono ?_
        rintro e w9 ⟨rfl, hB⟩
        have B9 := Lib.hid hB
        have HB9 := Lib.hid (HB8.out.trans (hB.mono HB8.out.size))
        clear hB
        go_wp2_with fail
        refine (K2.out _ _ (((HE5.out.below B6.out).below B8.out).below B9.out)).mono ?_
        rintro e w10 ⟨rfl, hB⟩
        have B10 := Lib.hid hB
        have HB10 := Lib.hid (HB9.out.trans (hB.mono HB9.out.size))
        clear hB
        go_wp2_with fail
        refine (lives_any _).mono ?_
        rintro e w11 ⟨rfl, hB⟩
        have B11 := Lib.hid hB
        have HB11 := Lib.hid (HB10.out.trans (hB.mono HB10.out.size))
        clear hB
        go_wp2_with fail
        go_ret
        exact ⟨rfl, HB11.out⟩
end Go.Proofs.Ytccinfjaggalcaa
