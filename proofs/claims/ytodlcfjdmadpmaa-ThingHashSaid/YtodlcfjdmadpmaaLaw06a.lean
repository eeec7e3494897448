/- The law ThingHash. -/
import Derived.Test.YtodlcfjdmadpmaaZe
import Derived.Test.YtodlcfjdmadpmaaHash
namespace Go.Proofs.Ytodlcfjdmadpmaa
open Go.RowKit Go.Shelf

theorem one_at (w : World) (i : Int) (T : TypeId) : TAt (w.alloc (.cells #[.int .i64 i] T)).heap.size (w.alloc (.cells #[.int .i64 i] T)) (.mk [i] [] []) (.slice (some ⟨w.heap.size, 0, none⟩) 1 1) (.slice none 0 0) (.slice none 0 0) :=
  tat_of (Els.new .i64 w T [i]) (rels_nil (R := RVa)) ps_nil

theorem one_good {i : Int} (h : 0 ≤ i ∧ i < 64) : (Th.mk [i] [] []).good := ⟨⟨inc_one h.1 h.2, fun v hv => (by cases hv), Inc.nil 32⟩, trivial⟩

theorem one_valid {i : Int} (h : 0 ≤ i ∧ i < 64) : validT (.mk [i] [] []) = 0 := by
  have e1 : (Th.mk [i] [] []).size = 1 := by simp [Th.size, Th.sizes]
  have e2 : (Th.mk [i] [] []).deep = 1 := by simp [Th.deep, Th.deeps]
  unfold validT
  rw [e1, e2, if_neg (by omega), if_pos (Th.goodB_t (one_good h))]

theorem one_wf {i : Int} (h : 0 ≤ i ∧ i < 64) : (Th.mk [i] [] []).wf := by
  refine ⟨⟨⟨fun z hz => ?_, by simp⟩, fun v hv => (by cases hv), by simp⟩, trivial⟩
  rw [List.mem_singleton.1 hz]
  exact ⟨by omega, by omega⟩

theorem one_enc {i : Int} (h : 0 ≤ i ∧ i < 64) : (Th.mk [i] [] []).enc = [1, 2 * i, 0, 0] := by
  have hu : ∀ n : Nat, n < 128 → Hm.uv n = [(n : Int)] := fun n hn => Hm.uv_small hn
  have hz : Hm.zig i = (2 * i).toNat := by unfold Hm.zig; rw [if_neg (by omega)]
  have h2 : (2 * i).toNat < 128 := by omega
  have h3 : (((2 * i).toNat : Nat) : Int) = 2 * i := by omega
  have hz0 : Hm.zig ((0 : Nat) : Int) = 0 := by decide
  simp only [Th.enc, Th.encL, numsL, encs, List.length_cons, List.length_nil, List.map_cons, List.map_nil, List.flatten_cons, List.flatten_nil, List.flatMap_nil, hz, hu _ h2, h3, hu 1 (by omega), hz0, hu 0 (by omega)]
  rfl

set_option maxHeartbeats 4000000 in
set_option maxRecDepth 100000 in
theorem law_hash6 (a0 a1 : Int) (a2 : ByteArray) (w : World) (w0 : (Lit.int .i64 a0).wf = true) (w1 : (Lit.int .i64 a1).wf = true) :
    Calls Try.prog 7 #[.int .i64 a0, .int .i64 a1, .string a2] w fun e w' => e = .returned (.bool true) ∧ Below w.heap.size w w' := by
  have k0 := fun W => short_any a2 20 W (by decide)
  have hs := small_size a2 20 (by decide)
  generalize a2.extract 0 20 = s at *
  have hr1 := aroundI_range a0 64 (by decide)
  have hr2 := aroundI_range a1 64 (by decide)
  have k1 := fun W => around_any a0 64 W (by decide) (by decide) w0
  have k2 := fun W => around_any a1 64 W (by decide) (by decide) w1
  generalize aroundI a0 64 = i at *
  generalize aroundI a1 64 = k at *
  have ke := fun (n : Int) (h : 0 ≤ n ∧ n < 64) W => tenc_any (.mk [n] [] []) (by simp [Th.size, Th.sizes]) (one_wf h) _ _ _ _ (one_at W n 3)
  have k3 := ke i hr1
  have k4 := ke k hr2
  rw [one_valid hr1, one_enc hr1] at k3
  rw [one_valid hr2, one_enc hr2] at k4
  have byt4 : ∀ n : Int, 0 ≤ n ∧ n < 64 → Hm.Byt [1, 2 * n, 0, 0] := fun n h z hz => by
    simp only [List.mem_cons, List.not_mem_nil, or_false] at hz
    rcases hz with rfl | rfl | rfl | rfl <;> omega
  have kb := fun (sv : Value) (n : Int) (h : 0 ≤ n ∧ n < 64) W (hE : Els .u8 W sv [1, 2 * n, 0, 0]) => bytes_els s sv [1, 2 * n, 0, 0] W (by omega) (by simp) (byt4 n h) hE
  have hg : ∃ q : Bool, ((Hm.bytesI (Hm.bs s) [1, 2 * i, 0, 0] == Hm.bytesI (Hm.bs s) [1, 2 * k, 0, 0]) = q) ∧ ((i == k) = q) := by
    have h1 := Hm.bytesI_group (s := Hm.bs s) (byt4 i hr1) (byt4 k hr2) rfl 0 (fun m hm => by
      match m with
      | 0 => exact absurd rfl hm
      | 1 => exact absurd rfl hm
      | 2 => exact absurd rfl hm
      | 3 => exact absurd rfl hm
      | m + 4 => rfl)
    by_cases e : i = k
    · subst e
      exact ⟨true, by simp, by simp⟩
    · refine ⟨false, ?_, by simpa using e⟩
      rw [h1, decide_eq_false]
      intro hh
      simp only [List.cons.injEq, true_and, and_true] at hh
      omega
  have k5 := fun sv W hE => kb sv i hr1 W hE
  have k6 := fun sv W hE => kb sv k hr2 W hE
  generalize Hm.bytesI (Hm.bs s) [1, 2 * i, 0, 0] = b1 at *
  generalize Hm.bytesI (Hm.bs s) [1, 2 * k, 0, 0] = b2 at *
  obtain ⟨q, hq1, hq2⟩ := hg
  have K0 := Lib.hid k0
  have K1 := Lib.hid k1
  have K2 := Lib.hid k2
  have K3 := Lib.hid k3
  have K4 := Lib.hid k4
  have K5 := Lib.hid k5
  have K6 := Lib.hid k6
  have HB0 := Lib.hid (Below.refl w.heap.size w)
  clear k0 k1 k2 k3 k4 k5 k6 ke kb byt4 hs hr1 hr2 w0 w1
  go_enter Try.func7, Try.ntmps7
  go_wp2_with fail
  refine (K0.out _).mono ?_
  rintro e w' ⟨rfl, rfl⟩
  go_wp2_with fail
  refine (K1.out _).mono ?_
  rintro e w' ⟨rfl, rfl⟩
  go_wp2_with fail
  refine (K2.out _).mono ?_
  rintro e w' ⟨rfl, rfl⟩
  go_wp2_with fail
  refine (K3.out _).mono ?_
  rintro e w1 hE
  rcases hE with ⟨_, x1, n1, c1, rfl, HN1, O1, B1⟩ | ⟨h, _⟩
  rotate_left 1
  · exact absurd rfl h
  have HB1 := Lib.hid ((HB0.out.alloc HB0.out.size (.cells #[.int .i64 i] 3)).trans (B1.out.mono (Nat.le_trans HB0.out.size (by simp))))
  have E1 := Lib.hid O1.out.els
  clear O1 B1
  go_wp2_with fail
  refine (K4.out _).mono ?_
  rintro e w2 hE
  rcases hE with ⟨_, x2, n2, c2, rfl, HN2, O2, B2⟩ | ⟨h, _⟩
  rotate_left 1
  · exact absurd rfl h
  have hb2 : Below w1.heap.size w1 w2 := below_new B2.out
  have HB2 := Lib.hid (HB1.out.trans (hb2.mono HB1.out.size))
  have E1' := Lib.hid (E1.out.below hb2)
  have E2 := Lib.hid O2.out.els
  have hn1 : n1 = 4 := HN1.out
  have hn2 : n2 = 4 := HN2.out
  obtain rfl : n2 = n1 := by omega
  have hn8 : ¬ (n2 : Int) > 8 := by omega
  have hnn : ((n2 : Int) != (n2 : Int)) = false := by simp
  clear hn1 hn2 HN1 HN2 O2 B2 hb2 E1 HB0 HB1
  go_wp2_with fail
  refine (K5.out _ _ E1'.out).mono ?_
  rintro e w3 ⟨rfl, hr3⟩
  have HB3 := Lib.hid (HB2.out.trans (hr3.mono HB2.out.size))
  have E2' := Lib.hid (E2.out.below hr3)
  clear hr3 E2 E1' HB2
  go_wp2_with fail
  refine (K6.out _ _ E2'.out).mono ?_
  rintro e w4 ⟨rfl, hr4⟩
  have HB4 := Lib.hid (HB3.out.trans (hr4.mono HB3.out.size))
  clear hr4 HB3 E2'
  cases q
  all_goals
    go_wp2_with fail
    refine (lives06_any _).mono ?_
    rintro e w5 ⟨rfl, hr5⟩
    have HB5 := Lib.hid (HB4.out.trans (hr5.mono HB4.out.size))
    clear hr5
    go_wp2
    go_ret
    exact ⟨rfl, HB5.out⟩

end Go.Proofs.Ytodlcfjdmadpmaa
