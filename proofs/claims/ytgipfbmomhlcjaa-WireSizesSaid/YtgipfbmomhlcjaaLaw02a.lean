/- The walks of the laws WireSizes, WireHash and WireOwn. -/
import Derived.Test.YtgipfbmomhlcjaaWlives
import Derived.Test.YtgipfbmomhlcjaaHash
namespace Go.Proofs.Ytgipfbmomhlcjaa
open Go.RowKit Go.Shelf

/-- How many bytes a number has behind the first one. -/
def ulen (r : Nat) : Nat := if r = 0 then 0 else (Hm.uv r).length

theorem ulen_step {r : Nat} (h : 0 < r) : ulen r = 1 + ulen (r / 128) := by
  unfold ulen
  rw [if_neg (by omega)]
  by_cases h2 : r < 128
  · rw [Hm.uv_small h2, if_pos (by omega)]
    rfl
  · rw [Hm.uv_big (by omega), if_neg (by omega), List.length_cons]
    omega

theorem uv_ulen (k : Nat) : (Hm.uv k).length = 1 + ulen (k / 128) := by
  by_cases h : k = 0
  · subst h
    rw [Hm.uv_small (by omega)]
    rfl
  · have := ulen_step (r := k) (by omega)
    rw [← this]
    unfold ulen
    rw [if_neg h]

theorem uv_one {n : Nat} (h : n < 128) : (Hm.uv n).length = 1 := by rw [Hm.uv_small h]; rfl

theorem uv_inj {m n : Nat} (hm : m < 18446744073709551616) (hn : n < 18446744073709551616) (h : Hm.uv m = Hm.uv n) : m = n := by
  have h1 := Hm.rU_uv hm []
  have h2 := Hm.rU_uv hn []
  rw [h, h2] at h1
  exact (congrArg Prod.fst h1).symm

set_option maxRecDepth 100000 in
set_option maxHeartbeats 2000000 in
theorem law_sizes (a0 a1 a2 : Int) (w : World) (w0 : (Lit.int .u64 a0).wf = true) (w1 : (Lit.int .i64 a1).wf = true) (w2 : (Lit.int .i64 a2).wf = true) :
    Calls Try.prog 8 #[.int .u64 a0, .int .i64 a1, .int .i64 a2] w fun e w' => e = .returned (.bool true) ∧ Below w.heap.size w w' := by
  have hu : 0 ≤ a0 ∧ a0 ≤ 18446744073709551615 := by
    simpa [Lit.wf, IntKind.min, IntKind.max, IntKind.signed, IntKind.bits] using w0
  obtain ⟨u, rfl⟩ := Int.eq_ofNat_of_zero_le hu.1
  have k0 := fun W => around_any a2 64 W (by decide) (by decide) w2
  obtain ⟨s, hs, hs64⟩ := around_nat a2 64 (by decide)
  have hs' : aroundI a2 64 = (s : Int) := hs
  rw [hs'] at k0
  have k1 := fun W => bound_any a1 63 W (by decide) (by decide) w1
  have hr := boundI_range a1 63 (by decide)
  generalize boundI a1 63 = m at *
  obtain ⟨k, hk⟩ : ∃ k : Nat, (u : Int) / 2 ^ s = (k : Int) := ⟨u / 2 ^ s, by rw [Int.natCast_ediv, Int.natCast_pow]; rfl⟩
  have hkl : (k : Int) ≤ 18446744073709551615 := by
    rw [← hk]
    exact Int.le_trans (Int.ediv_le_self _ (by omega)) hu.2
  have hk64 : k < 18446744073709551616 := by omega
  have HL := Lib.hid (Hm.uv_len hk64)
  have HK := Lib.hid hk64
  have HZ := Lib.hid (uv_ulen k)
  have K0 := Lib.hid k0
  have K1 := Lib.hid k1
  have HU := Lib.hid hu
  obtain ⟨hr1, hr2⟩ := hr
  have HM1 := Lib.hid (uv_one (n := Hm.zig m) (by unfold Hm.zig; split <;> omega))
  have HM2 := Lib.hid (uv_one (n := Hm.zig (-m)) (by unfold Hm.zig; split <;> omega))
  clear w0 w1 w2 hs hs' k0 k1 hu hk64
  have HB0 := Lib.hid (Below.refl w.heap.size w)
  go_enter Try.func8, Try.ntmps8
  go_wp2_with fail
  refine (K0.out _).mono ?_
  rintro e w' ⟨rfl, rfl⟩
  go_wp2_with fail
  go_loop [8, 9] (fun v i => ∃ z r : Nat, z ≤ 11 ∧ (r : Int) ≤ 18446744073709551615 ∧ v = .int .i64 z ∧ i = .int .u64 r ∧ Hid ((Hm.uv k).length = z + ulen r)) (fun _ i => (intOf i).toNat)
  case atStart => exact ⟨1, k / 128, by decide, by omega, rfl, by go_num, HZ.out⟩
  case round =>
    obtain ⟨z, r, hz, hr, rfl, rfl, hD⟩ := hrel
    by_cases hr0 : r = 0
    · subst hr0
      have hz2 : Hid ((Hm.uv k).length = z) := hD
      go_wp2_with fail
      go_wp2_with fail
      refine (wuint_any w.heap.size (w.heap.size + 1) k [] _ HK.out (by decide) (Wr.new w _)).mono ?_
      rintro e w1 ⟨rfl, W1, B1⟩
      have W1_ := Lib.hid W1
      clear W1
      have W1 := W1_
      clear W1_
      have B1_ := Lib.hid B1
      clear B1
      have B1 := B1_
      clear B1_
      have HB1 := Lib.hid (below_new' B1.out)
      go_wp2_with fail
      refine (K1.out _).mono ?_
      rintro e w' ⟨rfl, rfl⟩
      go_wp2_with fail
      refine (wint_any w1.heap.size (w1.heap.size + 1) m [] _ (by omega) (by decide) (Wr.new w1 _)).mono ?_
      rintro e w3 ⟨rfl, W3, B3⟩
      have W3_ := Lib.hid W3
      clear W3
      have W3 := W3_
      clear W3_
      have B3_ := Lib.hid B3
      clear B3
      have B3 := B3_
      clear B3_
      go_wp2_with fail
      refine (wint_any _ _ (-m) _ _ (by omega) (by rw [List.nil_append, HM1.out]; decide) W3.out).mono ?_
      rintro e w4 ⟨rfl, W4, B4⟩
      have W4_ := Lib.hid W4
      clear W4
      have W4 := W4_
      clear W4_
      have B4_ := Lib.hid B4
      clear B4
      have B4 := B4_
      clear B4_
      go_wp2_with fail
      refine (wbool_any _ _ (decide (0 < m)) _ _ (by rw [List.nil_append, List.length_append, HM1.out, HM2.out]; decide) W4.out).mono ?_
      rintro e w5 ⟨rfl, W5, B5⟩
      have W5_ := Lib.hid W5
      clear W5
      have W5 := W5_
      clear W5_
      have B5_ := Lib.hid B5
      clear B5
      have B5 := B5_
      clear B5_
      have C3 := Lib.hid (below_new' B3.out)
      have C5 := Lib.hid ((C3.out.trans B4.out).trans B5.out)
      have W1b := Lib.hid (W1.out.below C5.out)
      have HB5 := Lib.hid (HB1.out.trans (C5.out.mono HB1.out.size))
      go_wp2_with fail
      refine (wdone_any _ _ _ _ (by rw [List.nil_append]; have := HL.out; omega) W1b.out).mono ?_
      rintro e w6 ⟨a6, n6, c6, rfl, HN6, O6, hB⟩
      have B6 := Lib.hid hB.out
      have HB6 := Lib.hid (HB5.out.trans (hB.out.mono HB5.out.size))
      have HE6 := Lib.hid O6.out.els
      clear hB
      obtain rfl : n6 = z := by rw [HN6.out, List.nil_append, hz2.out]
      have W5b := Lib.hid (W5.out.below B6.out)
      go_wp2_with fail
      refine (wdone_any _ _ _ _ (by rw [List.nil_append, List.length_append, List.length_append, HM1.out, HM2.out]; simp) W5b.out).mono ?_
      rintro e w7 ⟨a7, n7, c7, rfl, HN7, O7, hB⟩
      have B7 := Lib.hid hB.out
      have HB7 := Lib.hid (HB6.out.trans (hB.out.mono HB6.out.size))
      have HE7 := Lib.hid O7.out.els
      clear hB
      obtain rfl : n7 = 3 := by rw [HN7.out, List.nil_append, List.length_append, List.length_append, HM1.out, HM2.out]; rfl
      go_wp2_with fail
      refine (lives_any _).mono ?_
      rintro e w8 ⟨rfl, hB⟩
      have B8 := Lib.hid hB
      have HB8 := Lib.hid (HB7.out.trans (hB.mono HB7.out.size))
      clear hB
      go_wp2_with fail
      go_ret
      exact ⟨rfl, HB8.out⟩
    · have hr1 : 0 < (r : Int) := by omega
      have hz3 : z ≤ 10 := by have h1 := hD.out; have h2 := HL.out; have h3 := ulen_step (r := r) (by omega); omega
      have HST := Lib.hid (ulen_step (r := r) (by omega))
      clear hr0
      go_wp2_with fail
      go_round
      case rel => exact ⟨z + 1, r / 128, by omega, by omega, by go_num, by go_num, (by show _ = _; rw [hD.out, HST.out]; omega)⟩
      case measure => simp [intOf]; omega

set_option maxRecDepth 100000 in
set_option maxHeartbeats 2000000 in
theorem law_hash (a0 a1 a2 : Int) (a3 : ByteArray) (w : World) (w0 : (Lit.int .u64 a0).wf = true) (w1 : (Lit.int .u64 a1).wf = true) (w2 : (Lit.int .i64 a2).wf = true) :
    Calls Try.prog 10 #[.int .u64 a0, .int .u64 a1, .int .i64 a2, .string a3] w fun e w' => e = .returned (.bool true) ∧ Below w.heap.size w w' := by
  have hu : 0 ≤ a0 ∧ a0 ≤ 18446744073709551615 := by
    simpa [Lit.wf, IntKind.min, IntKind.max, IntKind.signed, IntKind.bits] using w0
  have hv : 0 ≤ a1 ∧ a1 ≤ 18446744073709551615 := by
    simpa [Lit.wf, IntKind.min, IntKind.max, IntKind.signed, IntKind.bits] using w1
  obtain ⟨u, rfl⟩ := Int.eq_ofNat_of_zero_le hu.1
  obtain ⟨v, rfl⟩ := Int.eq_ofNat_of_zero_le hv.1
  have k0 := fun W => around_any a2 56 W (by decide) (by decide) w2
  obtain ⟨s, hs, hs56⟩ := around_nat a2 56 (by decide)
  have hs' : aroundI a2 56 = (s : Int) := hs
  rw [hs'] at k0
  have cut : ∀ x : Nat, x < 18446744073709551616 → x / 2 ^ (8 + s) < 72057594037927936 := fun x hx => by
    rw [Nat.pow_add, ← Nat.div_div_eq_div_mul]
    have : x / 2 ^ 8 < 72057594037927936 := by omega
    exact Nat.lt_of_le_of_lt (Nat.div_le_self _ _) this
  have cut1 := cut u (by omega)
  have cut2 := cut v (by omega)
  obtain ⟨m, hm, hml⟩ : ∃ k : Nat, (u : Int) / 2 ^ (8 + s) = (k : Int) ∧ k < 72057594037927936 := ⟨u / 2 ^ (8 + s), by rw [Int.natCast_ediv, Int.natCast_pow]; rfl, cut1⟩
  obtain ⟨n, hn, hnl⟩ : ∃ k : Nat, (v : Int) / 2 ^ (8 + s) = (k : Int) ∧ k < 72057594037927936 := ⟨v / 2 ^ (8 + s), by rw [Int.natCast_ediv, Int.natCast_pow]; rfl, cut2⟩
  clear cut cut1 cut2
  have k5 := fun W => short_any a3 20 W (by decide)
  have hsz := small_size a3 20 (by decide)
  generalize a3.extract 0 20 = str at *
  have lm : (Hm.uv m).length ≤ 8 := Hm.uv_le 7 m (by have : (128 : Nat) ^ (7 + 1) = 72057594037927936 := (by decide); omega)
  have ln : (Hm.uv n).length ≤ 8 := Hm.uv_le 7 n (by have : (128 : Nat) ^ (7 + 1) = 72057594037927936 := (by decide); omega)
  have hq := fun (hl : (Hm.uv m).length = (Hm.uv n).length) => Hm.bytesI_group (s := Hm.bs str) (Hm.uv_byt m) (Hm.uv_byt n) hl 0 (fun i hi => by rw [List.getElem?_eq_none (by omega), List.getElem?_eq_none (by omega)])
  have k6 := fun sv W (h : Els .u8 W sv (Hm.uv m)) => bytes_els str sv (Hm.uv m) W (by omega) (by omega) (Hm.uv_byt m) h
  have k7 := fun sv W (h : Els .u8 W sv (Hm.uv n)) => bytes_els str sv (Hm.uv n) W (by omega) (by omega) (Hm.uv_byt n) h
  have kd : decide (Hm.uv m = Hm.uv n) = ((m : Int) == (n : Int)) := by
    by_cases h : m = n
    · subst h; simp
    · have h2 : Hm.uv m ≠ Hm.uv n := fun e => h (uv_inj (by omega) (by omega) e)
      rw [decide_eq_false h2]
      symm
      rw [beq_eq_false_iff_ne]
      omega
  have kne : (Hm.uv m).length ≠ (Hm.uv n).length → m ≠ n := fun h e => h (by rw [e])
  rw [kd] at hq
  have kw1 := fun p B W (h : Wr p B W []) => wuint_any p B m [] W (by omega) (by decide) h
  have kw2 := fun p B W (h : Wr p B W []) => wuint_any p B n [] W (by omega) (by decide) h
  have kd1 := fun p B W (h : Wr p B W (Hm.uv m)) => wdone_any p B _ W (by omega) h
  have kd2 := fun p B W (h : Wr p B W (Hm.uv n)) => wdone_any p B _ W (by omega) h
  rw [List.nil_append] at kw1 kw2
  generalize Hm.bytesI (Hm.bs str) (Hm.uv m) = h1 at *
  generalize Hm.bytesI (Hm.bs str) (Hm.uv n) = h2 at *
  generalize Hm.uv m = em at *
  generalize Hm.uv n = en at *
  have K0 := Lib.hid k0
  have K5 := Lib.hid k5
  have K6 := Lib.hid k6
  have K7 := Lib.hid k7
  have KW1 := Lib.hid kw1
  have KW2 := Lib.hid kw2
  have KD1 := Lib.hid kd1
  have KD2 := Lib.hid kd2
  have HQ := Lib.hid hq
  have HNE := Lib.hid kne
  have LM := Lib.hid lm
  have LN := Lib.hid ln
  have hml2 : (m : Int) ≤ 72057594037927935 := by omega
  have hnl2 : (n : Int) ≤ 72057594037927935 := by omega
  clear w0 w1 w2 hs hs' k0 hu hv hml hnl hsz lm ln hq k5 k6 k7 kd kne kw1 kw2 kd1 kd2
  have HB0 := Lib.hid (Below.refl w.heap.size w)
  go_enter Try.func10, Try.ntmps10
  go_wp2_with fail
  refine (K0.out _).mono ?_
  rintro e w' ⟨rfl, rfl⟩
  go_wp2_with fail
  go_wp2_with fail
  refine (KW1.out w.heap.size (w.heap.size + 1) _ (Wr.new w _)).mono ?_
  rintro e w1 ⟨rfl, W1, B1⟩
  have W1_ := Lib.hid W1
  clear W1
  have W1 := W1_
  clear W1_
  have B1_ := Lib.hid B1
  clear B1
  have B1 := B1_
  clear B1_
  have HB1 := Lib.hid (below_new' B1.out)
  go_wp2_with fail
  refine (KW2.out w1.heap.size (w1.heap.size + 1) _ (Wr.new w1 _)).mono ?_
  rintro e w2 ⟨rfl, W2, B2⟩
  have W2_ := Lib.hid W2
  clear W2
  have W2 := W2_
  clear W2_
  have B2_ := Lib.hid B2
  clear B2
  have B2 := B2_
  clear B2_
  have C2 := Lib.hid (below_new' B2.out)
  have W1b := Lib.hid (W1.out.below C2.out)
  have HB2 := Lib.hid (HB1.out.trans (C2.out.mono HB1.out.size))
  go_wp2_with fail
  refine (KD1.out _ _ _ W1b.out).mono ?_
  rintro e w3 ⟨a3, n3, c3, rfl, HN3, O3, hB⟩
  have B3 := Lib.hid hB.out
  have HB3 := Lib.hid (HB2.out.trans (hB.out.mono HB2.out.size))
  have HE3 := Lib.hid O3.out.els
  clear hB
  have W2b := Lib.hid (W2.out.below B3.out)
  go_wp2_with fail
  refine (KD2.out _ _ _ W2b.out).mono ?_
  rintro e w4 ⟨a4, n4, c4, rfl, HN4, O4, hB⟩
  have B4 := Lib.hid hB.out
  have HB4 := Lib.hid (HB3.out.trans (hB.out.mono HB3.out.size))
  have HE4 := Lib.hid O4.out.els
  clear hB
  go_wp2_with fail
  refine (K5.out _).mono ?_
  rintro e w' ⟨rfl, rfl⟩
  have hn3 : n3 ≤ 8 := by rw [HN3.out]; exact LM.out
  by_cases hl : n3 = n4
  · have hqq := HQ.out (by rw [← HN3.out, ← HN4.out]; exact hl)
    subst hl
    obtain ⟨q, hmq⟩ : ∃ q, q = ((m : Int) == (n : Int)) := ⟨_, rfl⟩
    rw [← hmq] at hqq
    have hmq2 := hmq.symm
    clear hmq
    have HB4b := Lib.hid HB4.out
    have HE3b := Lib.hid (HE3.out.below B4.out)
    go_wp2_with fail
    refine (K6.out _ _ HE3b.out).mono ?_
    rintro e w6 ⟨rfl, hB⟩
    have HB6 := Lib.hid (HB4.out.trans (hB.mono HB4.out.size))
    have HE4b := Lib.hid (HE4.out.below hB)
    clear hB
    go_wp2_with fail
    refine (K7.out _ _ HE4b.out).mono ?_
    rintro e w7 ⟨rfl, hB⟩
    have HB7 := Lib.hid (HB6.out.trans (hB.mono HB6.out.size))
    clear hB
    go_wp2_with fail
    refine (lives_any _).mono ?_
    rintro e w8 ⟨rfl, hB⟩
    have B8 := Lib.hid hB
    have HB8 := Lib.hid (HB7.out.trans (hB.mono HB7.out.size))
    clear hB
    go_wp2_with fail
    go_ret
    exact ⟨rfl, HB8.out⟩
  · have hmn : ((m : Int) != (n : Int)) = true := by
      rw [bne_iff_ne]
      have := HNE.out (by rw [← HN3.out, ← HN4.out]; exact hl)
      omega
    have hl2 : ((n3 : Int) != (n4 : Int)) = true := by rw [bne_iff_ne]; omega
    clear hl
    have HB5 := Lib.hid HB4.out
    go_wp2_with fail
    refine (lives_any _).mono ?_
    rintro e w6 ⟨rfl, hB⟩
    have B6 := Lib.hid hB
    have HB6 := Lib.hid (HB5.out.trans (hB.mono HB5.out.size))
    clear hB
    go_wp2_with fail
    go_ret
    exact ⟨rfl, HB6.out⟩

end Go.Proofs.Ytgipfbmomhlcjaa
