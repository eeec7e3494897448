/- The walk of the law HashOneLabel. -/
import Derived.Laws.BytesArg
import Derived.Laws.BitsAllLaws
import Derived.Test.YtccinfjaggalcaaLawWord1
namespace Go.Proofs.Ytccinfjaggalcaa
open Go.RowKit Go.Shelf

theorem bs_nums {xs : List Int} (h : Hm.Byt xs) : Hm.bs (strOfNums xs) = xs := by
  rw [Hm.bs, strOfNums_data, List.map_map]
  conv => rhs; rw [← List.map_id xs]
  apply List.map_congr_left
  intro z hz
  have := h z hz
  show ((UInt8.ofNat z.toNat).toNat : Int) = z
  rw [UInt8.toNat_ofNat']
  omega

theorem bs_append (a b : ByteArray) : Hm.bs (a ++ b) = Hm.bs a ++ Hm.bs b := by
  rw [Hm.bs, Hm.bs, Hm.bs, ByteArray.data_append, Array.toList_append, List.map_append]

theorem xor_same (a b : Int) (ha : 0 ≤ a ∧ a < 256) (hb : 0 ≤ b ∧ b < 256) : bits .xor .u8 a b = a ↔ b = 0 := by
  obtain ⟨A, rfl⟩ := Int.eq_ofNat_of_zero_le ha.1
  obtain ⟨B, rfl⟩ := Int.eq_ofNat_of_zero_le hb.1
  rw [u8_xor _ _ ha.1 ha.2 hb.1 hb.2]
  simp only [Int.toNat_natCast]
  constructor
  · intro h
    have h : A ^^^ B = A := by omega
    have h2 : A ^^^ (A ^^^ B) = A ^^^ A := by rw [h]
    rw [← Nat.xor_assoc, Nat.xor_self, Nat.zero_xor] at h2
    omega
  · intro h
    have h : B = 0 := by omega
    rw [h, Nat.xor_zero]

theorem label_test {xs : List Int} (hx : Hm.Byt xs) (k : Nat) (hk : k < xs.length) (b : Int) (hb : 0 ≤ b ∧ b < 256) (ws : List Int) :
    (Hm.sumI (Hm.bs (strOfNums xs)) ws == Hm.sumI (Hm.bs (strOfNums (xs.set k (bits .xor .u8 (xs[k]?.getD 0) b)))) ws) = (b == 0) := by
  have hy := byt_set hx k _ (xor_u8 (xs[k]?.getD 0) b)
  rw [bs_nums hx, bs_nums hy, Hm.sumI_label hx hy (by simp) (k / 8) (fun i hi => by rw [List.getElem?_set_ne (by intro h; subst h; exact hi rfl)])]
  have hk0 : xs[k]?.getD 0 = xs[k] := by rw [List.getElem?_eq_getElem hk]; rfl
  have h := xor_same (xs[k]?.getD 0) b (hx.at k) hb
  by_cases hb0 : b = 0
  · rw [h.2 hb0, hk0, List.set_getElem_self, hb0]
    simp
  · rw [beq_eq_false_iff_ne.2 hb0]
    apply decide_eq_false
    intro e
    apply hb0
    apply h.1
    have e2 : (xs.set k (bits .xor .u8 (xs[k]?.getD 0) b))[k]? = xs[k]? := by rw [← e]
    rw [List.getElem?_set_self hk, List.getElem?_eq_getElem hk] at e2
    rw [hk0]
    exact Option.some.inj e2

theorem conv_els {w : World} {a : Option Addr} {n c : Nat} {xs : List Int} (h : Els .u8 w (.slice a n c) xs) (h0 : 0 < n) :
    (convert 30 9 (.slice a n c)).run Try.prog w = .ok (.string (strOfNums xs)) w := by
  rcases h with ⟨he, rfl⟩ | ⟨b, off, cap, hb, he, hl, hc⟩
  · obtain ⟨a, cap, he⟩ := he.shape
    cases he
    omega
  · cases he
    exact run_convert_bytes_arg w 30 5 Try.underlying30 Try.underlying5 b off _ _ xs rfl (fun i hi => by rw [hc i hi, List.getD_eq_getElem?_getD]) 9 Try.underlying9


set_option maxRecDepth 100000 in
set_option maxHeartbeats 4000000 in
theorem law_label1 (a0 : ByteArray) (a1 : Option Addr) (len1 cap1 : Nat) (z1 : List Int) (a2 a3 : Int) (w : World) (w1 : Came .i64 w a1 len1 cap1 z1) (w2 : (Lit.int .i64 a2).wf = true) (w3 : (Lit.int .u8 a3).wf = true) :
    Calls Try.prog 7 #[.string a0, .slice a1 len1 cap1, .int .i64 a2, .int .u8 a3] w fun e w' => e = .returned (.bool true) ∧ Below w.heap.size w w' := by
  have h3 : 0 ≤ a3 ∧ a3 < 256 := by
    have : 0 ≤ a3 ∧ a3 ≤ 255 := by
      simpa [Lit.wf, IntKind.min, IntKind.max, IntKind.signed, IntKind.bits] using w3
    omega
  have e1 := w1.els
  have c1 := w1.cap
  have hl1 : ((z1.take len1).take 6).length ≤ 6 := List.length_take_le _ _
  clear w1 w3
  have k0 := fun W => short_any a0 29 W (by decide)
  have hs := extract_size a0 29
  have k1 := fun W (h : Below w.heap.size w W) => ints_any 6 _ _ W (by decide) (e1.below h) c1
  generalize (z1.take len1).take 6 = zs at *
  generalize a0.extract 0 29 = s at *
  have k2 := fun t sv W (ht : t.size ≤ 1000) (h : Els .i64 W sv zs) => sum_els t sv zs W (by omega) (by omega) h
  have k5 := fun sv xs W (h : Els .u8 W sv xs) (hl : xs.length ≤ 30) (hc : ∀ b l c, sv = .slice b l c → c ≤ maxLen) => (few_any 30 sv xs W (by decide) h hc).mono fun e w' hh => by rwa [List.take_of_length_le hl] at hh
  have k6 := fun (n : Nat) W (h : 0 < n) (hn : n ≤ 30) => around_any a2 n W (by omega) (by omega) w2
  have K0 := Lib.hid k0
  have K1 := Lib.hid k1
  have K2 := Lib.hid k2
  have K5 := Lib.hid k5
  have K6 := Lib.hid k6
  have H3 := Lib.hid h3
  have HB0 := Lib.hid (Below.refl w.heap.size w)
  clear e1 c1 k0 k1 k2 k5 k6 w2 h3
  have kc := fun (w : World) => run_bytes_of_string (P := Try.prog) w 9 30 5 (s ++ { data := #[120] }) Try.underlying9 Try.underlying30 Try.underlying5
  go_enter Try.func7, Try.ntmps7
  go_wp2_with fail
  refine (K1.out _ HB0.out).mono ?_
  rintro e w1 ⟨a1, n1, c1, rfl, HN1, O1, hB⟩
  have B1 := Lib.hid hB.out
  have HB1 := Lib.hid (HB0.out.trans (hB.out.mono HB0.out.size))
  have HE1 := Lib.hid O1.out.els
  clear hB
  go_wp2_with fail
  refine (K0.out _).mono ?_
  rintro e w' ⟨rfl, rfl⟩
  go_wp2_with fail
  have ht : (s ++ { data := #[120] } : ByteArray).size = s.size + 1 := by rw [ByteArray.size_append]; rfl
  have hcap := grownCap_ge w1 (s.size + 1) 0 5
  have hcm := grownCap_le_maxLen w1 (s.size + 1) 0 5 (by unfold maxLen; omega)
  generalize grownCap w1 (s.size + 1) 0 5 = cb at *
  generalize hW : World.drew (w1.alloc (Obj.cells (bytesRow (s ++ { data := #[120] }) cb) 5 ((bytesRow (s ++ { data := #[120] }) cb).size, (bytesRow (s ++ { data := #[120] }) cb).size + 1))) = w2
  obtain ⟨hE2, hB2⟩ := bytes_world0 w1 (s ++ { data := #[120] }) cb _ _ (by rw [ht]; exact hcap) w2 hW.symm
  have HB2 := Lib.hid (HB1.out.trans (hB2.mono HB1.out.size))
  have B2 := Lib.hid hB2
  have hxs := Hm.bs_byt (s ++ { data := #[120] })
  rw [ht] at hE2
  have hn2a : 0 < s.size + 1 := by omega
  have hn2b : s.size + 1 ≤ 30 := by omega
  generalize Hm.bs (s ++ { data := #[120] }) = xs at *
  clear hW hcap kc hB2 ht
  generalize s.size + 1 = n2 at *
  generalize s ++ { data := #[120] } = t at *
  have HXS := Lib.hid hxs
  have HE2 := Lib.hid hE2
  have HN2 := Lib.hid hE2.len
  have HCM : Hid (∀ b l c, Value.slice (some ⟨w1.heap.size, 0, none⟩) n2 cb = .slice b l c → c ≤ maxLen) := by
    intro b l c h
    cases h
    exact hcm
  clear hxs hE2 hcm
  refine (K5.out _ xs _ HE2.out (by rw [← HN2.out]; exact hn2b) HCM.out).mono ?_
  rintro e w3 ⟨a3, n3, c3, rfl, HN3, O3, hB⟩
  have B3 := Lib.hid hB.out
  have HB3 := Lib.hid (HB2.out.trans (hB.out.mono HB2.out.size))
  have HE3 := Lib.hid O3.out.els
  clear hB
  have hn3 : n3 = n2 := by rw [HN3.out, HN2.out]
  subst hn3
  go_wp2_with fail
  refine (K6.out _ _ hn2a hn2b).mono ?_
  rintro e w' ⟨rfl, rfl⟩
  obtain ⟨k, hk, hkn⟩ := around_nat a2 n3 hn2a
  rw [hk]
  clear hk
  obtain ⟨g, rfl, hg, hgs, hcy, hfy⟩ := O3.out.open HN3.out hn2a
  have hck := hcy k hkn
  have hfk := hfy k
  clear hcy hfy
  have hkl : k < xs.length := by rw [← HN3.out]; exact hkn
  have hq := label_test HXS.out k hkl a3 H3.out zs
  have hxl : (strOfNums xs).size ≤ 1000 := by rw [strOfNums_size, ← HN3.out]; omega
  have hyl : (strOfNums (xs.set k (bits .xor .u8 (xs[k]?.getD 0) a3))).size ≤ 1000 := by rw [strOfNums_size, List.length_set, ← HN3.out]; omega
  have o4 := O3.out.set HN3.out k (bits .xor .u8 (xs[k]?.getD 0) a3)
  have b4 := B3.out.setCell (p := ⟨g, k, none⟩) hg (.int .u8 (bits .xor .u8 (xs[k]?.getD 0) a3))
  have HB4 := Lib.hid (HB2.out.trans (b4.mono HB2.out.size))
  have HE4 := Lib.hid o4.els
  have HEX := Lib.hid (HE2.out.below b4)
  have HEZ := Lib.hid ((HE1.out.below B2.out).below b4)
  clear o4 b4 hkl
  go_wp2_with fail
  generalize hw4 : w3.setCell ⟨g, k, none⟩ (.int .u8 (bits .xor .u8 (xs[k]?.getD 0) a3)) = w4 at *
  clear hw4 hck hfk
  have ka := fun W (hS : Since w4 W) => conv_els (HEX.out.below hS) hn2a
  have kb := fun W (hS : Since w4 W) => conv_els (HE4.out.below hS) hn2a
  have k7 := fun W (hS : Since w4 W) => (K2.out _ _ W hxl (HEZ.out.below hS)).mono fun e W' hh => And.intro hh.1 (hS.step hh.2)
  have k8 := fun W (hS : Since w4 W) => (K2.out _ _ W hyl (HEZ.out.below hS)).mono fun e W' hh => And.intro hh.1 (hS.step hh.2)
  have k9 := fun W (hS : Since w4 W) => (lives_any W).mono fun e W' hh => And.intro hh.1 (hS.step hh.2)
  generalize bits .xor .u8 (xs[k]?.getD 0) a3 = u at *
  generalize Hm.sumI (Hm.bs (strOfNums xs)) zs = h1 at *
  generalize Hm.sumI (Hm.bs (strOfNums (xs.set k u))) zs = h2 at *
  generalize strOfNums xs = t1 at *
  generalize strOfNums (xs.set k u) = t2 at *
  have K7 := Lib.hid k7
  have K8 := Lib.hid k8
  have K9 := Lib.hid k9
  clear k7 k8 k9 hxl hyl hl1
  have hS0 : Since w4 w4 := Below.refl _ _
  have hSd : Since w4 w4.drew := Below.drew hS0
  generalize hqq : (a3 == 0) = q at *
  go_region_held3 (fun w' => Since w4 w')
    (first | exact hSd | exact hB)
    ((first
      | (go_at_call_of 13 (Value.string t1); refine (K7.out _ (by first | exact hB | exact hSd)).mono ?_; rintro e w' ⟨rfl, hB⟩)
      | (go_at_call_of 13 (Value.string t2); refine (K8.out _ (by first | exact hB | exact hSd)).mono ?_; rintro e w' ⟨rfl, hB⟩)
      | (go_at_call 15; refine (K9.out _ (by first | exact hB | exact hSd)).mono ?_; rintro e w' ⟨rfl, hB⟩)))

  go_wp2
  go_ret
  exact ⟨rfl, Below.trans HB4.out (Below.mono hB HB4.out.size)⟩
end Go.Proofs.Ytccinfjaggalcaa
