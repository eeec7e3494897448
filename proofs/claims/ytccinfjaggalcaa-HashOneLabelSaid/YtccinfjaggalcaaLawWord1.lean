/- The walk of the law HashOneWord. -/
import Derived.Deep.RegionHeld3
import Derived.Deep.RegionWith
import Derived.Test.YtccinfjaggalcaaRows2
namespace Go.Proofs.Ytccinfjaggalcaa
open Go.RowKit Go.Shelf

/-- Nothing that lay in wb has turned. -/
def Since (wb W : World) : Prop := Below wb.heap.size wb W
theorem Since.cell {wb W : World} (h : Since wb W) {p : Addr} {v : Value} (hv : wb.cell? p = some v) : W.cell? p = some v :=
  (Below.cell h (block_there hv)).trans hv
theorem Since.step {wb W W' : World} (h : Since wb W) (k : Below W.heap.size W W') : Since wb W' := Below.trans h (k.mono (Below.size h))

set_option maxRecDepth 100000 in
set_option maxHeartbeats 4000000 in
theorem law_word1 (a0 : ByteArray) (a1 : Option Addr) (len1 cap1 : Nat) (z1 : List Int) (a2 a3 : Int) (w : World) (w1 : Came .i64 w a1 len1 cap1 z1) (w2 : (Lit.int .i64 a2).wf = true) (w3 : (Lit.int .i64 a3).wf = true) :
    Calls Try.prog 5 #[.string a0, .slice a1 len1 cap1, .int .i64 a2, .int .i64 a3] w fun e w' => e = .returned (.bool true) ∧ Below w.heap.size w w' := by
  obtain ⟨j0, ji, jz0, jz1, jz2⟩ := info_parts Try.infoI64
  have JI := Lib.hid ji
  have JZ := Lib.hid jz0
  have JZ1 := Lib.hid jz1
  have JZ2 := Lib.hid jz2
  have e1 := w1.els
  have c1 := w1.cap
  have hz := fun z (h : z ∈ (z1.take len1).take 9) => w1.wf z (List.mem_of_mem_take (List.mem_of_mem_take h))
  have hl1 : ((z1.take len1).take 9).length ≤ 9 := List.length_take_le _ _
  clear w1 ji jz0 jz1 jz2
  have k0 := fun W => short_any a0 20 W (by decide)
  have hs := small_size a0 20 (by decide)
  have k1 := fun W (h : Below w.heap.size w W) => ints_any 9 _ _ W (by decide) (e1.below h) c1
  generalize (z1.take len1).take 9 = zs at *
  generalize a0.extract 0 20 = s at *
  have k2 := fun sv xs W (h : Els .i64 W sv xs) (hl : xs.length ≤ 10) => sum_els s sv xs W (by omega) (by omega) h
  have k5 := fun sv xs W (h : Els .i64 W sv xs) (hl : xs.length ≤ 10) (hc : ∀ b l c, sv = .slice b l c → c ≤ maxLen) => (ints_any 10 sv xs W (by decide) h hc).mono fun e w' hh => by rwa [List.take_of_length_le hl] at hh
  have k6 := fun (n : Nat) W (h : 0 < n) (hn : n ≤ 10) => around_any a2 n W (by omega) (by omega) w2
  have hxs : ∀ z ∈ zs ++ [7], (Lit.int .i64 z).wf = true := fun z h => by
    rcases List.mem_append.1 h with h | h
    · exact hz z h
    · simp at h; subst h; decide
  have K0 := Lib.hid k0
  have K1 := Lib.hid k1
  have K2 := Lib.hid k2
  have K5 := Lib.hid k5
  have K6 := Lib.hid k6
  have HXS := Lib.hid hxs
  have HW3 := Lib.hid w3
  have HB0 := Lib.hid (Below.refl w.heap.size w)
  clear e1 c1 hz hs k0 k1 k2 k5 k6 hxs w2 w3
  go_enter Try.func5, Try.ntmps5
  go_wp2_with fail
  refine (K0.out _).mono ?_
  rintro e w' ⟨rfl, rfl⟩
  go_wp2_with fail
  refine (K1.out _ HB0.out).mono ?_
  rintro e w1 ⟨a1, n1, c1, rfl, HN1, O1, hB⟩
  have B1 := Lib.hid hB.out
  have HB1 := Lib.hid (HB0.out.trans (hB.out.mono HB0.out.size))
  have HE1 := Lib.hid O1.out.els
  clear hB
  go_wp2_with (at_builtin; refine wpList_append_own _ rfl _ _ 22 rfl w.heap.size 3 j0 (.int .i64 0) 1 8 Try.underlying22 JI.out JZ.out JZ1.out JZ2.out rfl (by decide) _ zs.length _ rfl (O1.out.alloc _) ⟨w1.heap.size, 0, none⟩ 1 1 [.int .i64 7] rfl rfl (one_new _ _ _) (by simp [Value.oneCell']) (by unfold maxLen; omega) (by omega) (by have := B1.out.size; simp; omega) ?_; intro v2 w2 hown' hgrow _; have HG := Lib.hid hgrow; obtain ⟨a2', n2, c2, rfl, HN2, O2⟩ := Own.slice (Own.more hown'); clear hown' hgrow)
  have HB2 := Lib.hid ((HB1.out.alloc HB1.out.size _).grown HG.out (by have := B1.out.size; simp; omega) (fun j hj => O1.out.lt j hj))
  have hn2 := HN2.out
  rw [List.length_append] at hn2
  have hn2a : 0 < n2 := by simp at hn2; omega
  have hn2b : n2 ≤ 10 := by simp at hn2; omega
  clear hn2 HG
  have HE2 := Lib.hid O2.out.els
  have HCAP := Lib.hid O2.out.cap
  generalize zs ++ [7] = xs at *
  refine (K5.out _ xs _ HE2.out (by rw [← HN2.out]; exact hn2b) HCAP.out).mono ?_
  rintro e w3 ⟨a3, n3, c3, rfl, HN3, O3, hB⟩
  have B3 := Lib.hid hB.out
  have HB3 := Lib.hid (HB2.out.trans (hB.out.mono HB2.out.size))
  have HE3 := Lib.hid O3.out.els
  clear hB
  have hn3 : n3 = n2 := by rw [HN3.out, HN2.out]
  subst hn3
  go_wp2_with fail
  refine (K6.out _ _ hn2a hn2b).mono ?_
  rintro e w' ⟨rfl, rfl⟩
  obtain ⟨k, hk, hkn⟩ := around_nat a2 n3 hn2a
  rw [hk]
  clear hk
  obtain ⟨g2, rfl, hg2, hgs2, hcx, _⟩ := O2.out.open HN2.out hn2a
  have HCX := Lib.hid ((Below.cell (p := ⟨g2, k, none⟩) B3.out hgs2).trans (hcx k hkn))
  obtain ⟨g, rfl, hg, hgs, hcy, hfy⟩ := O3.out.open HN3.out hn2a
  have hck := hcy k hkn
  have hfk := hfy k
  clear hcx hcy hfy
  have hkl : k < xs.length := by rw [← HN3.out]; exact hkn
  have hq := Hm.sumI_word (Hm.bs s) xs k a3 hkl (HXS.out _ (by rw [List.getElem?_eq_getElem hkl]; exact List.getElem_mem hkl)) HW3.out
  have hxl : xs.length ≤ 10 := by rw [← HN3.out]; exact hn2b
  have hyl : (xs.set k a3).length ≤ 10 := by rw [List.length_set]; exact hxl
  have o4 := O3.out.set HN3.out k a3
  have b4 := B3.out.setCell (p := ⟨g, k, none⟩) hg (.int .i64 a3)
  have hx4 : (w3.setCell ⟨g, k, none⟩ (.int .i64 a3)).cell? ⟨g2, k, none⟩ = some (.int .i64 (xs[k]?.getD 0)) := by
    rw [World.cell?_setCell_other _ _ _ _ (by intro h; cases h; omega)]
    exact HCX.out
  have HX4 := Lib.hid hx4
  have HB4 := Lib.hid (HB2.out.trans (b4.mono HB2.out.size))
  have HE4 := Lib.hid o4.els
  have HEX := Lib.hid (HE2.out.below b4)
  clear hx4 o4 b4 hkl
  go_wp2_with fail
  generalize hw4 : w3.setCell ⟨g, k, none⟩ (.int .i64 a3) = w4 at *
  clear hw4 hck hfk
  have k7 := fun W (hS : Since w4 W) => (K2.out _ xs W (HEX.out.below hS) hxl).mono fun e W' hh => And.intro hh.1 (hS.step hh.2)
  have k8 := fun W (hS : Since w4 W) => (K2.out _ _ W (HE4.out.below hS) hyl).mono fun e W' hh => And.intro hh.1 (hS.step hh.2)
  have k9 := fun W (hS : Since w4 W) => (lives_any W).mono fun e W' hh => And.intro hh.1 (hS.step hh.2)
  generalize xs[k]?.getD 0 = x at *
  generalize Hm.sumI (Hm.bs s) xs = h1 at *
  generalize Hm.sumI (Hm.bs s) (xs.set k a3) = h2 at *
  have K7 := Lib.hid k7
  have K8 := Lib.hid k8
  have K9 := Lib.hid k9
  clear k7 k8 k9 hxl hyl hl1
  have hki : (k : Int) < (n3 : Int) := by omega
  have hS0 : Since w4 w4 := Below.refl _ _
  have hx4 := HX4.out
  have hSd : Since w4 w4.drew := Below.drew hS0
  generalize hqq : (x == a3) = q at *
  go_region_held3 (fun w' => w'.cell? ⟨g2, k, none⟩ = some (.int .i64 x) ∧ Since w4 w')
    (first | exact ⟨Since.cell hSd hx4, hSd⟩ | exact ⟨Since.cell hB hx4, hB⟩)
    ((first
      | (go_at_call_of 13 (Value.slice (some ⟨g2, 0, none⟩) n3 c2); refine (K7.out _ (by first | exact hB | exact hSd)).mono ?_; rintro e w' ⟨rfl, hB⟩)
      | (go_at_call_of 13 (Value.slice (some ⟨g, 0, none⟩) n3 c3); refine (K8.out _ (by first | exact hB | exact hSd)).mono ?_; rintro e w' ⟨rfl, hB⟩)
      | (go_at_call 15; refine (K9.out _ (by first | exact hB | exact hSd)).mono ?_; rintro e w' ⟨rfl, hB⟩)))
  go_wp2
  go_ret
  exact ⟨rfl, Below.trans HB4.out (Below.mono hB HB4.out.size)⟩
end Go.Proofs.Ytccinfjaggalcaa
