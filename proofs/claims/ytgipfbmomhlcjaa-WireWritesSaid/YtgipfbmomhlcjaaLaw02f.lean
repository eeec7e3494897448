/- The walk of the law WireWrites. -/
import Derived.Test.YtgipfbmomhlcjaaRef02e
namespace Go.Proofs.Ytgipfbmomhlcjaa
open Go.RowKit Go.Shelf

theorem encVs_append (xs ys : List V) : encVs (xs ++ ys) = encVs xs ++ encVs ys := by simp [encVs]

theorem encVs_take_len (xs : List V) (k : Nat) : (encVs (xs.take k)).length ≤ (encVs xs).length := by
  have e : encVs xs = encVs (xs.take k) ++ encVs (xs.drop k) := by rw [← encVs_append, List.take_append_drop]
  rw [e, List.length_append]
  omega

theorem vels_take {w : World} {a : Option Addr} {n c : Nat} {xs : List V} (h : VEls w a n c xs) (j : Nat) (hj : j ≤ n) : VEls w a j c (xs.take j) := by
  refine ⟨by rw [List.length_take, ← h.1]; omega, Nat.le_trans hj h.2.1, fun i x hx => ?_⟩
  have hi : i < j := by
    have := (List.getElem?_eq_some_iff.1 hx).1
    rw [List.length_take] at this
    omega
  rw [List.getElem?_take_of_lt hi] at hx
  exact h.2.2 i x hx

/-- The five values behind the generated ones. -/
theorem five_len {u : Nat} {n : Int} {b l : List Int} (hu : u < 18446744073709551616) (hn : -9223372036854775808 ≤ n ∧ n ≤ 9223372036854775807) (hb : b.length ≤ 200) (hl : l.length ≤ 20) (hw : Nums l) :
    (encVs [(⟨0, u, 0, [], []⟩ : V), ⟨1, 0, n, [], []⟩, ⟨4, 0, 0, b, []⟩, ⟨5, 0, 0, [], l⟩, ⟨2, 0, 1, [], []⟩]).length ≤ 500 := by
  have h1 := Hm.uv_len hu
  have h2 := Hm.uv_len (Hm.zig_lt hn)
  have h3 := Hm.uv_len (n := b.length) (by omega)
  have h4 := Hm.uv_len (n := l.length) (by omega)
  have h5 := encs_len l hw
  have e : encVs [(⟨0, u, 0, [], []⟩ : V), ⟨1, 0, n, [], []⟩, ⟨4, 0, 0, b, []⟩, ⟨5, 0, 0, [], l⟩, ⟨2, 0, 1, [], []⟩] = Hm.uv u ++ (Hm.uv (Hm.zig n) ++ ((Hm.uv b.length ++ b) ++ ((Hm.uv l.length ++ encs l) ++ ([1] ++ [])))) := rfl
  rw [e]
  simp only [List.length_append, List.length_cons, List.length_nil]
  omega

set_option maxRecDepth 100000 in
set_option maxHeartbeats 8000000 in
theorem law_writes (a0 : Option Addr) (len0 cap0 : Nat) (z0 : List Int) (m1 m2 : Int) (a3 : Option Addr) (len3 cap3 : Nat) (z3 : List Int) (a4 : Option Addr) (len4 cap4 : Nat) (z4 : List Int) (w : World)
    (v0 : Came .i64 w a0 len0 cap0 z0) (v1 : (Lit.int .u64 m1).wf = true) (v2 : (Lit.int .i64 m2).wf = true) (v3 : Came .u8 w a3 len3 cap3 z3) (v4 : Came .i64 w a4 len4 cap4 z4) :
    Calls Try.prog 3 #[.slice a0 len0 cap0, .int .u64 m1, .int .i64 m2, .slice a3 len3 cap3, .slice a4 len4 cap4] w fun e w' => e = .returned (.bool true) ∧ Below w.heap.size w w' := by
  have k1 := vals_any a0 len0 cap0 _ w v0.els (fun z hz => v0.wf z (List.mem_of_mem_take hz)) v0.lenle
  have hu : 0 ≤ m1 ∧ m1 ≤ 18446744073709551615 := by
    simpa [Lit.wf, IntKind.min, IntKind.max, IntKind.signed, IntKind.bits] using v1
  obtain ⟨u, rfl⟩ := Int.eq_ofNat_of_zero_le hu.1
  have hu2 := Lib.hid (show u < 18446744073709551616 by omega)
  have hm2 := Lib.hid (i64_of_wf v2)
  have e3 := v3.els
  have c3 := v3.cap
  have e4 := v4.els
  have c4 := v4.cap
  have k2 := fun W (h : Below w.heap.size w W) => few_any 200 _ _ W (by decide) (e3.below h) c3
  have k3 := fun W (h : Below w.heap.size w W) => ints_any 20 _ _ W (by decide) (e4.below h) c4
  have hb3 := ((v3.byt).take len3).take 200
  have hl3 : ((z3.take len3).take 200).length ≤ 200 := List.length_take_le _ _
  have hw4 : Nums ((z4.take len4).take 20) := fun z h => v4.wf z (List.mem_of_mem_take (List.mem_of_mem_take h))
  have hl4 : ((z4.take len4).take 20).length ≤ 20 := List.length_take_le _ _
  generalize (z3.take len3).take 200 = fs at *
  generalize (z4.take len4).take 20 = ns at *
  have HF := Lib.hid (five_len hu2.out hm2.out hl3 hl4 hw4)
  have g4 := Lib.hid (good34 (.inr rfl) hb3 (by omega) : (⟨4, 0, 0, fs, []⟩ : V).Good)
  have g5 := Lib.hid (good5 hw4 (by omega))
  have K1 := Lib.hid k1
  have K2 := Lib.hid k2
  have K3 := Lib.hid k3
  have HB0 := Lib.hid (Below.refl w.heap.size w)
  clear v0 v1 v2 v3 v4 k1 k2 k3 hu e3 c3 e4 c4 hb3 hl3 hw4 hl4
  go_enter Try.func3, Try.ntmps3
  go_wp2_with fail
  refine K1.out.mono ?_
  rintro e w1 ⟨a, n, c, ts, rfl, hV, hS, hn, hn8, hB1⟩
  have HB1 := Lib.hid hB1.out
  go_wp2_with fail
  refine (K2.out _ HB1.out).mono ?_
  rintro e w2 ⟨a2, n2, c2, rfl, HN2, O2, hB⟩
  have B2 := Lib.hid hB.out
  have HB2 := Lib.hid (HB1.out.trans (hB.out.mono HB1.out.size))
  have HE2 := Lib.hid O2.out.els
  clear hB
  go_wp2_with fail
  refine (K3.out _ HB2.out).mono ?_
  rintro e w3 ⟨a3, n3, c3, rfl, HN3, O3, hB⟩
  have B3 := Lib.hid hB.out
  have HB3 := Lib.hid (HB2.out.trans (hB.out.mono HB2.out.size))
  have HE3 := Lib.hid O3.out.els
  clear hB
  have hs1 : w.heap.size ≤ w1.heap.size := HB1.out.size
  have hs2 : w1.heap.size ≤ w2.heap.size := B2.out.size
  have hs3 : w2.heap.size ≤ w3.heap.size := B3.out.size
  have hV3 := Lib.hid ((hV.out.below B2.out).below B3.out)
  have hEf := Lib.hid (HE2.out.below B3.out)
  have of2 := Lib.hid (off_of_far hV.out (own_far O2.out) (Nat.le_refl _))
  have of3 := Lib.hid (off_of_far hV.out (own_far O3.out) hs2)
  go_wp2_with (at_builtin; refine push_vals rfl _ _ rfl w.heap.size (.slice a n c) ts [((⟨0, u, 0, [], []⟩ : V), Value.slice none 0 0, Value.slice none 0 0), ((⟨1, 0, m2, [], []⟩ : V), Value.slice none 0 0, Value.slice none 0 0), ((⟨4, 0, 0, fs, []⟩ : V), Value.slice a2 n2 c2, Value.slice none 0 0), ((⟨5, 0, 0, [], ns⟩ : V), Value.slice none 0 0, Value.slice a3 n3 c3), ((⟨2, 0, 1, [], []⟩ : V), Value.slice none 0 0, Value.slice none 0 0)] _ _ rfl rfl _ rfl rfl hV3.out HB3.out.size (by have := hn.out; simp; omega) (fun t ht => by simp at ht; rcases ht with rfl | rfl | rfl | rfl | rfl <;> exact ⟨rfl, rfl⟩) (fun t ht => by simp at ht; rcases ht with rfl | rfl | rfl | rfl | rfl; (· exact ⟨emp_els _ _, emp_els _ _, fun g _ => ⟨.inl (.inl rfl), .inl (.inl rfl)⟩⟩); (· exact ⟨emp_els _ _, emp_els _ _, fun g _ => ⟨.inl (.inl rfl), .inl (.inl rfl)⟩⟩); (· exact ⟨hEf.out, emp_els _ _, fun g hg => ⟨of2.out g hg, .inl (.inl rfl)⟩⟩); (· exact ⟨emp_els _ _, HE3.out, fun g hg => ⟨.inl (.inl rfl), of3.out g hg⟩⟩); (· exact ⟨emp_els _ _, emp_els _ _, fun g _ => ⟨.inl (.inl rfl), .inl (.inl rfl)⟩⟩)) ?_; intro a4 n4 c4 w4 hn4 hV4 hB4)
  have HB4 := Lib.hid (HB3.out.trans hB4.out)
  have hn13 : n4 ≤ 13 := by have h1 := hn4.out; have h2 := hn.out; rw [List.length_append] at h1; simp at h1; omega
  have HVE := Lib.hid hV4.out.els
  have hxl : Hid (n4 = ((ts ++ [((⟨0, u, 0, [], []⟩ : V), Value.slice none 0 0, Value.slice none 0 0), ((⟨1, 0, m2, [], []⟩ : V), Value.slice none 0 0, Value.slice none 0 0), ((⟨4, 0, 0, fs, []⟩ : V), Value.slice a2 n2 c2, Value.slice none 0 0), ((⟨5, 0, 0, [], ns⟩ : V), Value.slice none 0 0, Value.slice a3 n3 c3), ((⟨2, 0, 1, [], []⟩ : V), Value.slice none 0 0, Value.slice none 0 0)]).map (·.1)).length) := by show _ = _; rw [List.length_map]; exact hn4.out
  have HGd : Hid (∀ x ∈ (ts ++ [((⟨0, u, 0, [], []⟩ : V), Value.slice none 0 0, Value.slice none 0 0), ((⟨1, 0, m2, [], []⟩ : V), Value.slice none 0 0, Value.slice none 0 0), ((⟨4, 0, 0, fs, []⟩ : V), Value.slice a2 n2 c2, Value.slice none 0 0), ((⟨5, 0, 0, [], ns⟩ : V), Value.slice none 0 0, Value.slice a3 n3 c3), ((⟨2, 0, 1, [], []⟩ : V), Value.slice none 0 0, Value.slice none 0 0)]).map (·.1), x.Good) := fun x hx => by
    rw [List.map_append, List.mem_append] at hx
    rcases hx with hx | hx
    · obtain ⟨t, ht, rfl⟩ := List.mem_map.1 hx
      exact (hS.out t ht).1
    · simp at hx
      rcases hx with rfl | rfl | rfl | rfl | rfl
      · exact good0 hu2.out
      · exact good1 hm2.out
      · exact g4.out
      · exact g5.out
      · exact good2 (.inr rfl)
  have HLs : Hid ((encVs ((ts ++ [((⟨0, u, 0, [], []⟩ : V), Value.slice none 0 0, Value.slice none 0 0), ((⟨1, 0, m2, [], []⟩ : V), Value.slice none 0 0, Value.slice none 0 0), ((⟨4, 0, 0, fs, []⟩ : V), Value.slice a2 n2 c2, Value.slice none 0 0), ((⟨5, 0, 0, [], ns⟩ : V), Value.slice none 0 0, Value.slice a3 n3 c3), ((⟨2, 0, 1, [], []⟩ : V), Value.slice none 0 0, Value.slice none 0 0)]).map (·.1))).length ≤ 900) := by
    show _ ≤ 900
    rw [List.map_append, encVs_append, List.length_append]
    have h1 := encVs_small hS.out
    have h2 := HF.out
    have h3 := hn.out
    simp only [List.map_cons, List.map_nil]
    omega
  clear hV hS hn hB1 hn4 hV4 hB4 hV3 hEf of2 of3 g4 g5 HF hu2 hm2
  generalize (ts ++ [((⟨0, u, 0, [], []⟩ : V), Value.slice none 0 0, Value.slice none 0 0), ((⟨1, 0, m2, [], []⟩ : V), Value.slice none 0 0, Value.slice none 0 0), ((⟨4, 0, 0, fs, []⟩ : V), Value.slice a2 n2 c2, Value.slice none 0 0), ((⟨5, 0, 0, [], ns⟩ : V), Value.slice none 0 0, Value.slice a3 n3 c3), ((⟨2, 0, 1, [], []⟩ : V), Value.slice none 0 0, Value.slice none 0 0)]).map (·.1) = xs at *
  go_loopw [13] (fun v wr => ∃ k : Nat, k ≤ n4 ∧ v = .int .i64 k ∧ Hid (Wr w4.heap.size (w4.heap.size + 1) wr (encVs (xs.take k))) ∧ Hid (Below w4.heap.size w4 wr)) (fun v _ => n4 - (intOf v).toNat)
  case atStart => exact ⟨0, Nat.zero_le _, rfl, Wr.new w4 _, (Below.refl _ w4).alloc (Nat.le_refl _) _⟩
  case round =>
    obtain ⟨k, hk, rfl, hW, hB⟩ := hrel
    by_cases hlt : k < n4
    · obtain ⟨x, hx⟩ : ∃ x, xs[k]? = some x := ⟨_, List.getElem?_eq_getElem (by rw [← hxl.out]; exact hlt)⟩
      have hgx := HGd.out x (List.mem_of_getElem? hx)
      have hst := Lib.hid (take_snoc_v xs k x hx)
      obtain ⟨b, off, bv, lv, rfl, h0, h1, h2, h3, h4, h5, h6, h7, h8⟩ := HVE.out.at hB.out hx
      have hzl : (encVs (xs.take k)).length ≤ 70000000000 := by have h9 := encVs_take_len xs k; have h10 := HLs.out; omega
      have K := Lib.hid (write_any w4.heap.size (w4.heap.size + 1) x bv lv _ wr hgx hzl h5.out h6.out h7.out h8.out hW.out)
      have hcap := HVE.out.2.1
      have hkc : k + 1 ≤ c4 := by omega
      clear hx hgx hzl hcap
      go_wp2_with fail
      (with_reducible refine K.out.mono ?_)
      rintro e w5 ⟨rfl, hW5, hB5⟩
      have HW5 : Hid (Wr w4.heap.size (w4.heap.size + 1) w5 (encVs (xs.take (k + 1)))) := by show Wr _ _ _ _; rw [hst.out, encVs_snoc]; exact hW5
      have HB5 := Lib.hid (hB.out.trans hB5)
      have hs5 : w4.heap.size ≤ w5.heap.size := HB5.out.size
      have HTL := Lib.hid (show (encVs (xs.take (k + 1))).length ≤ 900 from Nat.le_trans (encVs_take_len xs (k + 1)) HLs.out)
      have KD := Lib.hid (wdone_any w4.heap.size (w4.heap.size + 1) (encVs (xs.take (k + 1))) w5.drew (by have := HTL.out; omega) HW5.out)
      have KE := Lib.hid (fun W (h : Below w5.heap.size w5 W) => sencode_any _ (k + 1) c4 (xs.take (k + 1)) W (((vels_take HVE.out (k + 1) hlt).below HB5.out).below h) (fun y hy => HGd.out y (List.mem_of_mem_take hy)) (by omega))
      have KS := Lib.hid (fun sv sv2 W (h1 : Els .u8 W sv (encVs (xs.take (k + 1)))) (h2 : Els .u8 W sv2 (encVs (xs.take (k + 1)))) => (sameBytes_any sv sv2 _ _ W h1 h2 (Nat.le_trans HTL.out (by decide))).mono fun e w' hh => And.intro (hh.1.trans (ret_bool (b := true) (decide_eq_true rfl))) hh.2)
      have hk1 : (k : Int) + 1 ≤ c4 := by omega
      have hS0 : Since w5 w5 := Below.refl _ _
      have hSd : Since w5 w5.drew := Below.drew hS0
      clear hW5 hB5 h0 h1 h2 h3 h4
      go_wp2_with fail
      have hsum1 : (0 : Int) ≤ (k : Int) + 1 := by omega
      have hsum2 : ((k : Int) + 1).toNat = k + 1 := by omega
      have hsum : IntKind.i64.wrap ((k : Int) + 1) = (k : Int) + 1 := IntWalk.i64_in _ (by omega)
      go_region_held3 (fun w' => Since w5 w')
        (first | exact hSd | exact hS8 | exact hS7 | exact hS6)
        ((first
          | (go_at_call 16; refine KD.out.mono ?_; rintro e w6 ⟨a6, n6, c6, rfl, HN6, O6, B6⟩; have hS6 : Since w5 w6 := (Below.drew hS0).trans B6.out)
          | (go_at_call 17; refine (KE.out _ hS6).mono ?_; rintro e w7 ⟨a7, n7, c7, rfl, HN7, O7, B7⟩; have hS7 : Since w5 w7 := Since.step hS6 B7.out)
          | (go_at_call 15; refine (KS.out _ _ _ (O6.out.els.below B7.out) O7.out.els).mono ?_; rintro e w8 ⟨rfl, hB8⟩; have hS8 : Since w5 w8 := Since.step hS7 hB8)))
      have HB8 := Lib.hid hS8
      clear hsum hsum1 hsum2 hS0 hSd hS6 hS7 hS8
      go_wp2_with fail
      go_roundw
      case rel => exact ⟨k + 1, by omega, by go_num, HW5.out.below HB8.out, HB5.out.trans (Below.mono HB8.out hs5)⟩
      case measure => simp [intOf]; omega
    · obtain rfl : k = n4 := by omega
      have HB5 := Lib.hid (HB4.out.trans (hB.out.mono HB4.out.size))
      clear hlt
      go_wp2_with fail
      refine (lives_any _).mono ?_
      rintro e w6 ⟨rfl, hB⟩
      have B6 := Lib.hid hB
      have HB6 := Lib.hid (HB5.out.trans (hB.mono HB5.out.size))
      clear hB
      go_wp2_with fail
      go_ret
      exact ⟨rfl, HB6.out⟩

end Go.Proofs.Ytgipfbmomhlcjaa
