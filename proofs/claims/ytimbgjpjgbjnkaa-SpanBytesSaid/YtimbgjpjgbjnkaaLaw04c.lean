/- The law SpanAlgebra. -/
import Derived.Test.YtimbgjpjgbjnkaaLiv4
namespace Go.Proofs.Ytimbgjpjgbjnkaa
open Go.RowKit Go.Shelf

theorem came_wfs4 {w : World} {a : Option Addr} {len cap : Nat} {zs : List Int} (h : Came .i64 w a len cap zs) : ∀ z ∈ zs.take len, (Lit.int .i64 z).wf = true := fun z hz => h.wf z (List.mem_of_mem_take hz)

theorem came_len4 {w : World} {a : Option Addr} {len cap : Nat} {zs : List Int} (h : Came .i64 w a len cap zs) (hr : cap * 8 ≤ 140737488351232) : (zs.take len).length ≤ 100000000000000 := by
  rw [List.length_take]
  rcases h with ⟨_, rfl, _, rfl⟩ | ⟨x, _, hl, _, hz, _⟩
  · simp
  · omega

/-- A union of sets with few intervals. -/
theorem op_union {a b : List Iv} (ha : Fit a) (hb : Fit b) (hl : a.length + b.length ≤ 32) : ∃ L, Fit L ∧ (∀ κ, inL L κ ↔ unionS a b κ) ∧ L.length ≤ a.length + b.length ∧ opL (unionS a b) a b = (L, 0) := by
  obtain ⟨L, h1, h2⟩ := union_exists a b (fun x hx => ha.good hx) (fun x hx => hb.good hx)
  have h3 : L.length ≤ a.length + b.length := by
    have := fit_count h1 h2 (B := (a.map fun x => x.from.key) ++ (b.map fun x => x.from.key)) fun κ h => by
      obtain ⟨h4, h5⟩ := h
      rw [List.mem_append]
      rcases h4 with h4 | h4
      · exact .inl (rise_in ⟨h4, fun h => h5 (.inl h)⟩)
      · exact .inr (rise_in ⟨h4, fun h => h5 (.inr h)⟩)
    rwa [List.length_append, List.length_map, List.length_map] at this
  refine ⟨L, h1, h2, h3, ?_⟩
  unfold opL
  rw [if_neg (by simp [valid_fit ha (by omega)]), if_neg (by simp [valid_fit hb (by omega)]), ← theSet_is h1 h2]
  unfold limL
  rw [if_neg (by omega)]

theorem op_meet {a b : List Iv} (ha : Fit a) (hb : Fit b) (hl : a.length + b.length ≤ 32) : ∃ L, Fit L ∧ (∀ κ, inL L κ ↔ meetS a b κ) ∧ L.length ≤ a.length + b.length ∧ opL (meetS a b) a b = (L, 0) := by
  obtain ⟨L, h1, h2⟩ := meet_exists a b (fun x hx => ha.good hx) (fun x hx => hb.good hx)
  have h3 : L.length ≤ a.length + b.length := by
    have := fit_count h1 h2 (B := (a.map fun x => x.from.key) ++ (b.map fun x => x.from.key)) fun κ h => by
      obtain ⟨h4, h5⟩ := h
      rw [List.mem_append]
      by_cases h6 : inL a (κ - 1)
      · exact .inr (rise_in ⟨h4.2, fun h => h5 ⟨h6, h⟩⟩)
      · exact .inl (rise_in ⟨h4.1, h6⟩)
    rwa [List.length_append, List.length_map, List.length_map] at this
  refine ⟨L, h1, h2, h3, ?_⟩
  unfold opL
  rw [if_neg (by simp [valid_fit ha (by omega)]), if_neg (by simp [valid_fit hb (by omega)]), ← theSet_is h1 h2]
  unfold limL
  rw [if_neg (by omega)]

theorem op_not {a : List Iv} (ha : Fit a) (hl : a.length + 1 ≤ 32) : ∃ L, Fit L ∧ (∀ κ, inL L κ ↔ notS a κ) ∧ L.length ≤ a.length + 1 ∧ notL a = (L, 0) := by
  obtain ⟨L, h1, h2⟩ := not_exists' a (fun x hx => ha.good hx)
  have h3 : L.length ≤ a.length + 1 := by
    have := fit_count h1 h2 (B := lowC.key :: (a.map fun x => x.to.key)) fun κ h => by
      obtain ⟨h4, h5⟩ := h
      rw [List.mem_cons]
      by_cases h6 : κ = lowC.key
      · exact .inl h6
      · refine .inr (fall_in (Classical.byContradiction fun h7 => h5 ⟨?_, ?_, h7⟩) h4.2.2)
        · have := h4.1; omega
        · have := h4.2.1; omega
    rwa [List.length_cons, List.length_map] at this
  refine ⟨L, h1, h2, h3, ?_⟩
  unfold notL
  rw [if_neg (by simp [valid_fit ha (by omega)]), ← theSet_is h1 h2]
  unfold limL
  rw [if_neg (by omega)]

/-- What calls give. -/
def UCall (x y L : List Iv) : Prop := ∀ (sv tv : Value) (W : World), REls RIv W sv x → REls RIv W tv y → Calls Try.prog 28 #[sv, tv] W (Two L 0 W)
def MCall (x y L : List Iv) : Prop := ∀ (sv tv : Value) (W : World), REls RIv W sv x → REls RIv W tv y → Calls Try.prog 29 #[sv, tv] W (Two L 0 W)
def NCall (x L : List Iv) : Prop := ∀ (sv : Value) (W : World), REls RIv W sv x → Calls Try.prog 26 #[sv] W (Two L 0 W)
def WCall (x y : List Iv) (q : Bool) : Prop := ∀ (sv tv : Value) (W : World), REls RIv W sv x → REls RIv W tv y → Calls Try.prog 30 #[sv, tv] W fun e w' => e = .returned (.tuple #[.bool q, .int .i64 0]) ∧ Below W.heap.size W w'

theorem ucall {x y L : List Iv} (hx : Fit x) (hy : Fit y) (h1 : x.length ≤ 32) (h2 : y.length ≤ 32) (he : opL (unionS x y) x y = (L, 0)) : UCall x y L := fun sv tv W h h' => by
  have := union_any sv tv x y W h h' hx.wf hy.wf (by omega) (by omega)
  rwa [he] at this
theorem mcall {x y L : List Iv} (hx : Fit x) (hy : Fit y) (h1 : x.length ≤ 32) (h2 : y.length ≤ 32) (he : opL (meetS x y) x y = (L, 0)) : MCall x y L := fun sv tv W h h' => by
  have := meet_any sv tv x y W h h' hx.wf hy.wf (by omega) (by omega)
  rwa [he] at this
theorem ncall {x L : List Iv} (hx : Fit x) (h1 : x.length ≤ 32) (he : notL x = (L, 0)) : NCall x L := fun sv W h => by
  have := not_any sv x W h hx.wf (by omega)
  rwa [he] at this

open Classical in
theorem wcall {x y M N : List Iv} (hx : Fit x) (hy : Fit y) (h1 : x.length ≤ 32) (h2 : y.length ≤ 32) (hN : ∀ κ, inL N κ ↔ notS y κ) (hM : ∀ κ, inL M κ ↔ meetS x N κ) (hf : Fit M) : WCall x y (decide (M.length = 0)) := fun sv tv W h h' => by
  have := within_any sv tv x y W h h' hx.wf hy.wf (by omega) (by omega)
  have he : withinL x y = (decide (M.length = 0), 0) := by
    unfold withinL
    rw [if_neg (by simp [valid_fit hx h1]), if_neg (by simp [valid_fit hy h2])]
    have hl := left_none (a := x) (b := y) hf fun κ => by
      rw [hM κ]
      unfold meetS
      rw [hN κ]
      unfold notS
      constructor
      · rintro ⟨a1, a2⟩
        exact ⟨a1, a2.2.2⟩
      · rintro ⟨a1, a2⟩
        have hb := in_bounds (fun z hz => hx.good hz) a1
        exact ⟨a1, hb.1, hb.2, a2⟩
    by_cases h0 : M.length = 0
    · rw [decide_eq_true h0, decide_eq_true (hl.1 h0)]
    · rw [decide_eq_false h0, decide_eq_false (mt hl.2 h0)]
  rwa [he] at this

theorem alg_all {a b c : List Iv} (ha : Fit a) (hb : Fit b) (hc : Fit c) (la : a.length ≤ 4) (lb : b.length ≤ 4) (lc : c.length ≤ 4) : ∃ (U1 U2 U3 N1 N2 N3 M1 M2 : List Iv) (q0 : Bool),
    UCall a b U1 ∧ UCall b a U1 ∧ UCall U1 c U2 ∧ UCall b c U3 ∧ UCall a U3 U2 ∧ NCall a N1 ∧ NCall b N2 ∧ NCall N1 a ∧ NCall U1 N3 ∧ MCall N1 N2 N3 ∧ MCall a b M1 ∧ MCall b a M1 ∧ MCall a N2 M2 ∧ WCall a b q0 ∧ q0 = decide (M2.length = 0) ∧ a.length ≤ 1000 ∧ U1.length ≤ 1000 ∧ U2.length ≤ 1000 ∧ N3.length ≤ 1000 ∧ M1.length ≤ 1000 := by
  obtain ⟨U1, f1, i1, l1, e1⟩ := op_union ha hb (by omega)
  obtain ⟨U1', f1', i1', l1', e1'⟩ := op_union hb ha (by omega)
  obtain ⟨U2, f2, i2, l2, e2⟩ := op_union f1 hc (by omega)
  obtain ⟨U3, f3, i3, l3, e3⟩ := op_union hb hc (by omega)
  obtain ⟨U2', f2', i2', l2', e2'⟩ := op_union ha f3 (by omega)
  obtain ⟨N1, g1, j1, m1, d1⟩ := op_not ha (by omega)
  obtain ⟨N2, g2, j2, m2, d2⟩ := op_not hb (by omega)
  obtain ⟨A', g3, j3, m3, d3⟩ := op_not g1 (by omega)
  obtain ⟨N3, g4, j4, m4, d4⟩ := op_not f1 (by omega)
  obtain ⟨N3', g5, j5, m5, d5⟩ := op_meet g1 g2 (by omega)
  obtain ⟨M1, g6, j6, m6, d6⟩ := op_meet ha hb (by omega)
  obtain ⟨M1', g7, j7, m7, d7⟩ := op_meet hb ha (by omega)
  obtain ⟨M2, g8, j8, m8, d8⟩ := op_meet ha g2 (by omega)
  have q1 : U1' = U1 := Fit.one f1' f1 fun κ => by rw [i1, i1']; unfold unionS; exact Or.comm
  have q2 : U2' = U2 := Fit.one f2' f2 fun κ => by rw [i2, i2']; unfold unionS; rw [i1, i3]; unfold unionS; exact (or_assoc).symm
  have q3 : A' = a := Fit.one g3 ha fun κ => by
    rw [j3]
    unfold notS
    rw [j1]
    unfold notS
    constructor
    · rintro ⟨h1, h2, h3⟩
      exact Classical.byContradiction fun hn => h3 ⟨h1, h2, hn⟩
    · intro hk
      have hbd := in_bounds (fun z hz => ha.good hz) hk
      exact ⟨hbd.1, hbd.2, fun h => h.2.2 hk⟩
  have q4 : N3' = N3 := Fit.one g5 g4 fun κ => by
    rw [j5, j4]
    unfold meetS notS
    rw [j1, j2, i1]
    unfold notS unionS
    constructor
    · rintro ⟨⟨h1, h2, h3⟩, _, _, h4⟩
      exact ⟨h1, h2, fun h => h.elim h3 h4⟩
    · rintro ⟨h1, h2, h3⟩
      exact ⟨⟨h1, h2, fun h => h3 (.inl h)⟩, h1, h2, fun h => h3 (.inr h)⟩
  have q5 : M1' = M1 := Fit.one g7 g6 fun κ => by rw [j7, j6]; unfold meetS; exact And.comm
  subst q1 q2 q3 q4 q5
  exact ⟨_, _, U3, N1, N2, _, _, M2, _, ucall ha hb (by omega) (by omega) e1, ucall hb ha (by omega) (by omega) e1', ucall f1 hc (by omega) (by omega) e2, ucall hb hc (by omega) (by omega) e3, ucall ha f3 (by omega) (by omega) e2', ncall ha (by omega) d1, ncall hb (by omega) d2, ncall g1 (by omega) d3, ncall f1 (by omega) d4, mcall g1 g2 (by omega) (by omega) d5, mcall ha hb (by omega) (by omega) d6, mcall hb ha (by omega) (by omega) d7, mcall ha g2 (by omega) (by omega) d8, wcall ha hb (by omega) (by omega) j2 j8 g8, rfl, by omega, by omega, by omega, by omega, by omega⟩

set_option maxHeartbeats 16000000 in
set_option maxRecDepth 100000 in
theorem law_algebra (a0 : Option Addr) (len0 cap0 : Nat) (z0 : List Int) (a1 : Option Addr) (len1 cap1 : Nat) (z1 : List Int) (a2 : Option Addr) (len2 cap2 : Nat) (z2 : List Int) (w : World) (w0 : Came .i64 w a0 len0 cap0 z0) (w1 : Came .i64 w a1 len1 cap1 z1) (w2 : Came .i64 w a2 len2 cap2 z2) :
    Calls Try.prog 5 #[.slice a0 len0 cap0, .slice a1 len1 cap1, .slice a2 len2 cap2] w fun e w' => e = .returned (.bool true) ∧ Below w.heap.size w w' := by
  have KS0 := Lib.hid fun W (hB : Below w.heap.size w W) => set_any a0 len0 cap0 (z0.take len0) 4 W (w0.els.below hB) (came_wfs4 w0) (by decide)
  have KS1 := Lib.hid fun W (hB : Below w.heap.size w W) => set_any a1 len1 cap1 (z1.take len1) 4 W (w1.els.below hB) (came_wfs4 w1) (by decide)
  have KS2 := Lib.hid fun W (hB : Below w.heap.size w W) => set_any a2 len2 cap2 (z2.take len2) 4 W (w2.els.below hB) (came_wfs4 w2) (by decide)
  have KE := Lib.hid fun (sv tv : Value) (xs : List Iv) (W : World) (h : REls RIv W sv xs) (h' : REls RIv W tv xs) (hl : xs.length ≤ 1000) => (equal_any sv tv xs xs W h h' (by omega)).mono (R' := fun e w' => e = .returned (.bool true) ∧ Below W.heap.size W w') fun e w' hh => ⟨hh.1.trans (ret_bool (decide_eq_true rfl)), hh.2⟩
  have HB0 : Hid (Below w.heap.size w w) := Lib.hid (Below.refl _ _)
  clear w0 w1 w2
  go_enter Try.func5, Try.ntmps5
  go_wp2_with fail
  refine (KS0.out _ HB0.out).mono ?_
  rintro e w1 ⟨L1, a1, n1, c1, hf, hl, rfl, hE, hr⟩
  have HF0 := Lib.hid hf
  have HL0 := Lib.hid hl
  have H1 := Lib.hid (HB0.out.trans (hr.out.mono HB0.out.size))
  clear HB0
  have RA_1 := hE
  clear hr hE hf hl
  go_wp2_with fail
  refine (KS1.out _ H1.out).mono ?_
  rintro e w2 ⟨L2, a2, n2, c2, hf, hl, rfl, hE, hr⟩
  have HF1 := Lib.hid hf
  have HL1 := Lib.hid hl
  have H2 := Lib.hid (H1.out.trans (hr.out.mono H1.out.size))
  have RA_2 := Lib.hid (RA_1.out.below hr.out)
  clear RA_1
  clear H1
  have RB_2 := hE
  clear hr hE hf hl
  go_wp2_with fail
  refine (KS2.out _ H2.out).mono ?_
  rintro e w3 ⟨L3, a3, n3, c3, hf, hl, rfl, hE, hr⟩
  have HF2 := Lib.hid hf
  have HL2 := Lib.hid hl
  have H3 := Lib.hid (H2.out.trans (hr.out.mono H2.out.size))
  have RA_3 := Lib.hid (RA_2.out.below hr.out)
  have RB_3 := Lib.hid (RB_2.out.below hr.out)
  clear RA_2 RB_2
  clear H2
  have RC_3 := hE
  clear hr hE hf hl
  obtain ⟨U1, U2, U3, N1, N2, N3, M1, M2, q0, HU1, HU2, HU3, HU4, HU5, HN1, HN2, HN3, HN4, HM1, HM2, HM3, HM4, HWI, hq0, HG0, HG1, HG2, HG3, HG4⟩ := alg_all HF0.out HF1.out HF2.out HL0.out HL1.out HL2.out
  have XHU1 := Lib.hid HU1
  have XHU2 := Lib.hid HU2
  have XHU3 := Lib.hid HU3
  have XHU4 := Lib.hid HU4
  have XHU5 := Lib.hid HU5
  have XHN1 := Lib.hid HN1
  have XHN2 := Lib.hid HN2
  have XHN3 := Lib.hid HN3
  have XHN4 := Lib.hid HN4
  have XHM1 := Lib.hid HM1
  have XHM2 := Lib.hid HM2
  have XHM3 := Lib.hid HM3
  have XHM4 := Lib.hid HM4
  have XHWI := Lib.hid HWI
  have Xhq0 := Lib.hid hq0
  have XHG0 := Lib.hid HG0
  have XHG1 := Lib.hid HG1
  have XHG2 := Lib.hid HG2
  have XHG3 := Lib.hid HG3
  have XHG4 := Lib.hid HG4
  clear HU1 HU2 HU3 HU4 HU5 HN1 HN2 HN3 HN4 HM1 HM2 HM3 HM4 HWI hq0 HG0 HG1 HG2 HG3 HG4 HF0 HF1 HF2 HL0 HL1 HL2
  go_wp2_with fail
  refine (XHU1.out _   _   _ RA_3.out RB_3.out).mono ?_
  rintro e w4 ⟨a4, n4, c4, rfl, hE, hr⟩
  have H4 := Lib.hid (H3.out.trans (hr.out.mono H3.out.size))
  have RA_4 := Lib.hid (RA_3.out.below hr.out)
  have RB_4 := Lib.hid (RB_3.out.below hr.out)
  have RC_4 := Lib.hid (RC_3.out.below hr.out)
  clear RA_3 RB_3 RC_3
  clear H3
  have RAB_4 := hE
  clear hr hE
  go_wp2_with fail
  refine (XHU2.out _   _   _ RB_4.out RA_4.out).mono ?_
  rintro e w5 ⟨a5, n5, c5, rfl, hE, hr⟩
  have H5 := Lib.hid (H4.out.trans (hr.out.mono H4.out.size))
  have RA_5 := Lib.hid (RA_4.out.below hr.out)
  have RB_5 := Lib.hid (RB_4.out.below hr.out)
  have RC_5 := Lib.hid (RC_4.out.below hr.out)
  have RAB_5 := Lib.hid (RAB_4.out.below hr.out)
  clear RA_4 RB_4 RC_4 RAB_4
  clear H4
  have RBA_5 := hE
  clear hr hE
  go_wp2_with fail
  refine (XHU3.out _   _   _ RAB_5.out RC_5.out).mono ?_
  rintro e w6 ⟨a6, n6, c6, rfl, hE, hr⟩
  have H6 := Lib.hid (H5.out.trans (hr.out.mono H5.out.size))
  have RA_6 := Lib.hid (RA_5.out.below hr.out)
  have RB_6 := Lib.hid (RB_5.out.below hr.out)
  have RC_6 := Lib.hid (RC_5.out.below hr.out)
  have RAB_6 := Lib.hid (RAB_5.out.below hr.out)
  have RBA_6 := Lib.hid (RBA_5.out.below hr.out)
  clear RA_5 RB_5 RC_5 RAB_5 RBA_5
  clear H5
  have RL_6 := hE
  clear hr hE
  go_wp2_with fail
  refine (XHU4.out _   _   _ RB_6.out RC_6.out).mono ?_
  rintro e w7 ⟨a7, n7, c7, rfl, hE, hr⟩
  have H7 := Lib.hid (H6.out.trans (hr.out.mono H6.out.size))
  have RA_7 := Lib.hid (RA_6.out.below hr.out)
  have RB_7 := Lib.hid (RB_6.out.below hr.out)
  have RC_7 := Lib.hid (RC_6.out.below hr.out)
  have RAB_7 := Lib.hid (RAB_6.out.below hr.out)
  have RBA_7 := Lib.hid (RBA_6.out.below hr.out)
  have RL_7 := Lib.hid (RL_6.out.below hr.out)
  clear RA_6 RB_6 RC_6 RAB_6 RBA_6 RL_6
  clear H6
  have RBC_7 := hE
  clear hr hE
  go_wp2_with fail
  refine (XHU5.out _   _   _ RA_7.out RBC_7.out).mono ?_
  rintro e w8 ⟨a8, n8, c8, rfl, hE, hr⟩
  have H8 := Lib.hid (H7.out.trans (hr.out.mono H7.out.size))
  have RA_8 := Lib.hid (RA_7.out.below hr.out)
  have RB_8 := Lib.hid (RB_7.out.below hr.out)
  have RC_8 := Lib.hid (RC_7.out.below hr.out)
  have RAB_8 := Lib.hid (RAB_7.out.below hr.out)
  have RBA_8 := Lib.hid (RBA_7.out.below hr.out)
  have RL_8 := Lib.hid (RL_7.out.below hr.out)
  have RBC_8 := Lib.hid (RBC_7.out.below hr.out)
  clear RA_7 RB_7 RC_7 RAB_7 RBA_7 RL_7 RBC_7
  clear H7
  have RR_8 := hE
  clear hr hE
  go_wp2_with fail
  refine (KE.out _ _ _ _ RAB_8.out RBA_8.out XHG1.out).mono ?_
  rintro e w9 ⟨rfl, hr⟩
  have H9 := Lib.hid (H8.out.trans (hr.mono H8.out.size))
  have RA_9 := Lib.hid (RA_8.out.below hr)
  have RB_9 := Lib.hid (RB_8.out.below hr)
  have RC_9 := Lib.hid (RC_8.out.below hr)
  have RAB_9 := Lib.hid (RAB_8.out.below hr)
  have RBA_9 := Lib.hid (RBA_8.out.below hr)
  have RL_9 := Lib.hid (RL_8.out.below hr)
  have RBC_9 := Lib.hid (RBC_8.out.below hr)
  have RR_9 := Lib.hid (RR_8.out.below hr)
  clear RA_8 RB_8 RC_8 RAB_8 RBA_8 RL_8 RBC_8 RR_8
  clear H8
  clear hr
  go_wp2_with fail
  refine (KE.out _ _ _ _ RL_9.out RR_9.out XHG2.out).mono ?_
  rintro e w10 ⟨rfl, hr⟩
  have H10 := Lib.hid (H9.out.trans (hr.mono H9.out.size))
  have RA_10 := Lib.hid (RA_9.out.below hr)
  have RB_10 := Lib.hid (RB_9.out.below hr)
  have RC_10 := Lib.hid (RC_9.out.below hr)
  have RAB_10 := Lib.hid (RAB_9.out.below hr)
  have RBA_10 := Lib.hid (RBA_9.out.below hr)
  have RL_10 := Lib.hid (RL_9.out.below hr)
  have RBC_10 := Lib.hid (RBC_9.out.below hr)
  have RR_10 := Lib.hid (RR_9.out.below hr)
  clear RA_9 RB_9 RC_9 RAB_9 RBA_9 RL_9 RBC_9 RR_9
  clear H9
  clear hr
  go_wp2_with fail
  refine (XHN1.out _   _ RA_10.out).mono ?_
  rintro e w11 ⟨a11, n11, c11, rfl, hE, hr⟩
  have H11 := Lib.hid (H10.out.trans (hr.out.mono H10.out.size))
  have RA_11 := Lib.hid (RA_10.out.below hr.out)
  have RB_11 := Lib.hid (RB_10.out.below hr.out)
  have RC_11 := Lib.hid (RC_10.out.below hr.out)
  have RAB_11 := Lib.hid (RAB_10.out.below hr.out)
  have RBA_11 := Lib.hid (RBA_10.out.below hr.out)
  have RL_11 := Lib.hid (RL_10.out.below hr.out)
  have RBC_11 := Lib.hid (RBC_10.out.below hr.out)
  have RR_11 := Lib.hid (RR_10.out.below hr.out)
  clear RA_10 RB_10 RC_10 RAB_10 RBA_10 RL_10 RBC_10 RR_10
  clear H10
  have RNA_11 := hE
  clear hr hE
  go_wp2_with fail
  refine (XHN2.out _   _ RB_11.out).mono ?_
  rintro e w12 ⟨a12, n12, c12, rfl, hE, hr⟩
  have H12 := Lib.hid (H11.out.trans (hr.out.mono H11.out.size))
  have RA_12 := Lib.hid (RA_11.out.below hr.out)
  have RB_12 := Lib.hid (RB_11.out.below hr.out)
  have RC_12 := Lib.hid (RC_11.out.below hr.out)
  have RAB_12 := Lib.hid (RAB_11.out.below hr.out)
  have RBA_12 := Lib.hid (RBA_11.out.below hr.out)
  have RL_12 := Lib.hid (RL_11.out.below hr.out)
  have RBC_12 := Lib.hid (RBC_11.out.below hr.out)
  have RR_12 := Lib.hid (RR_11.out.below hr.out)
  have RNA_12 := Lib.hid (RNA_11.out.below hr.out)
  clear RA_11 RB_11 RC_11 RAB_11 RBA_11 RL_11 RBC_11 RR_11 RNA_11
  clear H11
  have RNB_12 := hE
  clear hr hE
  go_wp2_with fail
  refine (XHN3.out _   _ RNA_12.out).mono ?_
  rintro e w13 ⟨a13, n13, c13, rfl, hE, hr⟩
  have H13 := Lib.hid (H12.out.trans (hr.out.mono H12.out.size))
  have RA_13 := Lib.hid (RA_12.out.below hr.out)
  have RB_13 := Lib.hid (RB_12.out.below hr.out)
  have RC_13 := Lib.hid (RC_12.out.below hr.out)
  have RAB_13 := Lib.hid (RAB_12.out.below hr.out)
  have RBA_13 := Lib.hid (RBA_12.out.below hr.out)
  have RL_13 := Lib.hid (RL_12.out.below hr.out)
  have RBC_13 := Lib.hid (RBC_12.out.below hr.out)
  have RR_13 := Lib.hid (RR_12.out.below hr.out)
  have RNA_13 := Lib.hid (RNA_12.out.below hr.out)
  have RNB_13 := Lib.hid (RNB_12.out.below hr.out)
  clear RA_12 RB_12 RC_12 RAB_12 RBA_12 RL_12 RBC_12 RR_12 RNA_12 RNB_12
  clear H12
  have RBK_13 := hE
  clear hr hE
  go_wp2_with fail
  refine (XHN4.out _   _ RAB_13.out).mono ?_
  rintro e w14 ⟨a14, n14, c14, rfl, hE, hr⟩
  have H14 := Lib.hid (H13.out.trans (hr.out.mono H13.out.size))
  have RA_14 := Lib.hid (RA_13.out.below hr.out)
  have RB_14 := Lib.hid (RB_13.out.below hr.out)
  have RC_14 := Lib.hid (RC_13.out.below hr.out)
  have RAB_14 := Lib.hid (RAB_13.out.below hr.out)
  have RBA_14 := Lib.hid (RBA_13.out.below hr.out)
  have RL_14 := Lib.hid (RL_13.out.below hr.out)
  have RBC_14 := Lib.hid (RBC_13.out.below hr.out)
  have RR_14 := Lib.hid (RR_13.out.below hr.out)
  have RNA_14 := Lib.hid (RNA_13.out.below hr.out)
  have RNB_14 := Lib.hid (RNB_13.out.below hr.out)
  have RBK_14 := Lib.hid (RBK_13.out.below hr.out)
  clear RA_13 RB_13 RC_13 RAB_13 RBA_13 RL_13 RBC_13 RR_13 RNA_13 RNB_13 RBK_13
  clear H13
  have RNO_14 := hE
  clear hr hE
  go_wp2_with fail
  refine (XHM1.out _   _   _ RNA_14.out RNB_14.out).mono ?_
  rintro e w15 ⟨a15, n15, c15, rfl, hE, hr⟩
  have H15 := Lib.hid (H14.out.trans (hr.out.mono H14.out.size))
  have RA_15 := Lib.hid (RA_14.out.below hr.out)
  have RB_15 := Lib.hid (RB_14.out.below hr.out)
  have RC_15 := Lib.hid (RC_14.out.below hr.out)
  have RAB_15 := Lib.hid (RAB_14.out.below hr.out)
  have RBA_15 := Lib.hid (RBA_14.out.below hr.out)
  have RL_15 := Lib.hid (RL_14.out.below hr.out)
  have RBC_15 := Lib.hid (RBC_14.out.below hr.out)
  have RR_15 := Lib.hid (RR_14.out.below hr.out)
  have RNA_15 := Lib.hid (RNA_14.out.below hr.out)
  have RNB_15 := Lib.hid (RNB_14.out.below hr.out)
  have RBK_15 := Lib.hid (RBK_14.out.below hr.out)
  have RNO_15 := Lib.hid (RNO_14.out.below hr.out)
  clear RA_14 RB_14 RC_14 RAB_14 RBA_14 RL_14 RBC_14 RR_14 RNA_14 RNB_14 RBK_14 RNO_14
  clear H14
  have RBO_15 := hE
  clear hr hE
  go_wp2_with fail
  refine (XHM2.out _   _   _ RA_15.out RB_15.out).mono ?_
  rintro e w16 ⟨a16, n16, c16, rfl, hE, hr⟩
  have H16 := Lib.hid (H15.out.trans (hr.out.mono H15.out.size))
  have RA_16 := Lib.hid (RA_15.out.below hr.out)
  have RB_16 := Lib.hid (RB_15.out.below hr.out)
  have RC_16 := Lib.hid (RC_15.out.below hr.out)
  have RAB_16 := Lib.hid (RAB_15.out.below hr.out)
  have RBA_16 := Lib.hid (RBA_15.out.below hr.out)
  have RL_16 := Lib.hid (RL_15.out.below hr.out)
  have RBC_16 := Lib.hid (RBC_15.out.below hr.out)
  have RR_16 := Lib.hid (RR_15.out.below hr.out)
  have RNA_16 := Lib.hid (RNA_15.out.below hr.out)
  have RNB_16 := Lib.hid (RNB_15.out.below hr.out)
  have RBK_16 := Lib.hid (RBK_15.out.below hr.out)
  have RNO_16 := Lib.hid (RNO_15.out.below hr.out)
  have RBO_16 := Lib.hid (RBO_15.out.below hr.out)
  clear RA_15 RB_15 RC_15 RAB_15 RBA_15 RL_15 RBC_15 RR_15 RNA_15 RNB_15 RBK_15 RNO_15 RBO_15
  clear H15
  have RM_16 := hE
  clear hr hE
  go_wp2_with fail
  refine (XHM3.out _   _   _ RB_16.out RA_16.out).mono ?_
  rintro e w17 ⟨a17, n17, c17, rfl, hE, hr⟩
  have H17 := Lib.hid (H16.out.trans (hr.out.mono H16.out.size))
  have RA_17 := Lib.hid (RA_16.out.below hr.out)
  have RB_17 := Lib.hid (RB_16.out.below hr.out)
  have RC_17 := Lib.hid (RC_16.out.below hr.out)
  have RAB_17 := Lib.hid (RAB_16.out.below hr.out)
  have RBA_17 := Lib.hid (RBA_16.out.below hr.out)
  have RL_17 := Lib.hid (RL_16.out.below hr.out)
  have RBC_17 := Lib.hid (RBC_16.out.below hr.out)
  have RR_17 := Lib.hid (RR_16.out.below hr.out)
  have RNA_17 := Lib.hid (RNA_16.out.below hr.out)
  have RNB_17 := Lib.hid (RNB_16.out.below hr.out)
  have RBK_17 := Lib.hid (RBK_16.out.below hr.out)
  have RNO_17 := Lib.hid (RNO_16.out.below hr.out)
  have RBO_17 := Lib.hid (RBO_16.out.below hr.out)
  have RM_17 := Lib.hid (RM_16.out.below hr.out)
  clear RA_16 RB_16 RC_16 RAB_16 RBA_16 RL_16 RBC_16 RR_16 RNA_16 RNB_16 RBK_16 RNO_16 RBO_16 RM_16
  clear H16
  have RW_17 := hE
  clear hr hE
  go_wp2_with fail
  refine (XHM4.out _   _   _ RA_17.out RNB_17.out).mono ?_
  rintro e w18 ⟨a18, n18, c18, rfl, hE, hr⟩
  have H18 := Lib.hid (H17.out.trans (hr.out.mono H17.out.size))
  have RA_18 := Lib.hid (RA_17.out.below hr.out)
  have RB_18 := Lib.hid (RB_17.out.below hr.out)
  have RC_18 := Lib.hid (RC_17.out.below hr.out)
  have RAB_18 := Lib.hid (RAB_17.out.below hr.out)
  have RBA_18 := Lib.hid (RBA_17.out.below hr.out)
  have RL_18 := Lib.hid (RL_17.out.below hr.out)
  have RBC_18 := Lib.hid (RBC_17.out.below hr.out)
  have RR_18 := Lib.hid (RR_17.out.below hr.out)
  have RNA_18 := Lib.hid (RNA_17.out.below hr.out)
  have RNB_18 := Lib.hid (RNB_17.out.below hr.out)
  have RBK_18 := Lib.hid (RBK_17.out.below hr.out)
  have RNO_18 := Lib.hid (RNO_17.out.below hr.out)
  have RBO_18 := Lib.hid (RBO_17.out.below hr.out)
  have RM_18 := Lib.hid (RM_17.out.below hr.out)
  have RW_18 := Lib.hid (RW_17.out.below hr.out)
  clear RA_17 RB_17 RC_17 RAB_17 RBA_17 RL_17 RBC_17 RR_17 RNA_17 RNB_17 RBK_17 RNO_17 RBO_17 RM_17 RW_17
  clear H17
  have RO_18 := hE
  clear hr hE
  go_wp2_with fail
  refine (XHWI.out _ _ _ RA_18.out RB_18.out).mono ?_
  rintro e w19 ⟨rfl, hr⟩
  have H19 := Lib.hid (H18.out.trans (hr.mono H18.out.size))
  have RA_19 := Lib.hid (RA_18.out.below hr)
  have RB_19 := Lib.hid (RB_18.out.below hr)
  have RC_19 := Lib.hid (RC_18.out.below hr)
  have RAB_19 := Lib.hid (RAB_18.out.below hr)
  have RBA_19 := Lib.hid (RBA_18.out.below hr)
  have RL_19 := Lib.hid (RL_18.out.below hr)
  have RBC_19 := Lib.hid (RBC_18.out.below hr)
  have RR_19 := Lib.hid (RR_18.out.below hr)
  have RNA_19 := Lib.hid (RNA_18.out.below hr)
  have RNB_19 := Lib.hid (RNB_18.out.below hr)
  have RBK_19 := Lib.hid (RBK_18.out.below hr)
  have RNO_19 := Lib.hid (RNO_18.out.below hr)
  have RBO_19 := Lib.hid (RBO_18.out.below hr)
  have RM_19 := Lib.hid (RM_18.out.below hr)
  have RW_19 := Lib.hid (RW_18.out.below hr)
  have RO_19 := Lib.hid (RO_18.out.below hr)
  clear RA_18 RB_18 RC_18 RAB_18 RBA_18 RL_18 RBC_18 RR_18 RNA_18 RNB_18 RBK_18 RNO_18 RBO_18 RM_18 RW_18 RO_18
  clear H18
  clear hr
  have hno := RO_19.out.len
  have HNO := Lib.hid hno
  clear hno
  go_wp2_with fail
  refine (KE.out _ _ _ _ RBK_19.out RA_19.out XHG0.out).mono ?_
  rintro e w20 ⟨rfl, hr⟩
  have H20 := Lib.hid (H19.out.trans (hr.mono H19.out.size))
  have RA_20 := Lib.hid (RA_19.out.below hr)
  have RB_20 := Lib.hid (RB_19.out.below hr)
  have RC_20 := Lib.hid (RC_19.out.below hr)
  have RAB_20 := Lib.hid (RAB_19.out.below hr)
  have RBA_20 := Lib.hid (RBA_19.out.below hr)
  have RL_20 := Lib.hid (RL_19.out.below hr)
  have RBC_20 := Lib.hid (RBC_19.out.below hr)
  have RR_20 := Lib.hid (RR_19.out.below hr)
  have RNA_20 := Lib.hid (RNA_19.out.below hr)
  have RNB_20 := Lib.hid (RNB_19.out.below hr)
  have RBK_20 := Lib.hid (RBK_19.out.below hr)
  have RNO_20 := Lib.hid (RNO_19.out.below hr)
  have RBO_20 := Lib.hid (RBO_19.out.below hr)
  have RM_20 := Lib.hid (RM_19.out.below hr)
  have RW_20 := Lib.hid (RW_19.out.below hr)
  have RO_20 := Lib.hid (RO_19.out.below hr)
  clear RA_19 RB_19 RC_19 RAB_19 RBA_19 RL_19 RBC_19 RR_19 RNA_19 RNB_19 RBK_19 RNO_19 RBO_19 RM_19 RW_19 RO_19
  clear H19
  clear hr
  go_wp2_with fail
  refine (KE.out _ _ _ _ RNO_20.out RBO_20.out XHG3.out).mono ?_
  rintro e w21 ⟨rfl, hr⟩
  have H21 := Lib.hid (H20.out.trans (hr.mono H20.out.size))
  have RA_21 := Lib.hid (RA_20.out.below hr)
  have RB_21 := Lib.hid (RB_20.out.below hr)
  have RC_21 := Lib.hid (RC_20.out.below hr)
  have RAB_21 := Lib.hid (RAB_20.out.below hr)
  have RBA_21 := Lib.hid (RBA_20.out.below hr)
  have RL_21 := Lib.hid (RL_20.out.below hr)
  have RBC_21 := Lib.hid (RBC_20.out.below hr)
  have RR_21 := Lib.hid (RR_20.out.below hr)
  have RNA_21 := Lib.hid (RNA_20.out.below hr)
  have RNB_21 := Lib.hid (RNB_20.out.below hr)
  have RBK_21 := Lib.hid (RBK_20.out.below hr)
  have RNO_21 := Lib.hid (RNO_20.out.below hr)
  have RBO_21 := Lib.hid (RBO_20.out.below hr)
  have RM_21 := Lib.hid (RM_20.out.below hr)
  have RW_21 := Lib.hid (RW_20.out.below hr)
  have RO_21 := Lib.hid (RO_20.out.below hr)
  clear RA_20 RB_20 RC_20 RAB_20 RBA_20 RL_20 RBC_20 RR_20 RNA_20 RNB_20 RBK_20 RNO_20 RBO_20 RM_20 RW_20 RO_20
  clear H20
  clear hr
  go_wp2_with fail
  refine (KE.out _ _ _ _ RM_21.out RW_21.out XHG4.out).mono ?_
  rintro e w22 ⟨rfl, hr⟩
  have H22 := Lib.hid (H21.out.trans (hr.mono H21.out.size))
  have RA_22 := Lib.hid (RA_21.out.below hr)
  have RB_22 := Lib.hid (RB_21.out.below hr)
  have RC_22 := Lib.hid (RC_21.out.below hr)
  have RAB_22 := Lib.hid (RAB_21.out.below hr)
  have RBA_22 := Lib.hid (RBA_21.out.below hr)
  have RL_22 := Lib.hid (RL_21.out.below hr)
  have RBC_22 := Lib.hid (RBC_21.out.below hr)
  have RR_22 := Lib.hid (RR_21.out.below hr)
  have RNA_22 := Lib.hid (RNA_21.out.below hr)
  have RNB_22 := Lib.hid (RNB_21.out.below hr)
  have RBK_22 := Lib.hid (RBK_21.out.below hr)
  have RNO_22 := Lib.hid (RNO_21.out.below hr)
  have RBO_22 := Lib.hid (RBO_21.out.below hr)
  have RM_22 := Lib.hid (RM_21.out.below hr)
  have RW_22 := Lib.hid (RW_21.out.below hr)
  have RO_22 := Lib.hid (RO_21.out.below hr)
  clear RA_21 RB_21 RC_21 RAB_21 RBA_21 RL_21 RBC_21 RR_21 RNA_21 RNB_21 RBK_21 RNO_21 RBO_21 RM_21 RW_21 RO_21
  clear H21
  clear hr
  have hcase : (q0 = true ∧ n18 = 0) ∨ (q0 = false ∧ ((n18 : Int) == 0) = false) := by
    by_cases h : M2.length = 0
    · exact .inl ⟨by rw [Xhq0.out]; exact decide_eq_true h, by rw [HNO.out]; exact h⟩
    · exact .inr ⟨by rw [Xhq0.out]; exact decide_eq_false h, by rw [beq_eq_false_iff_ne, HNO.out]; omega⟩
  rcases hcase with ⟨rfl, hnz⟩ | ⟨rfl, hnz⟩
  all_goals
    try subst hnz
    go_wp2_with fail
    refine (lives04_any _).mono ?_
    rintro e w99 ⟨rfl, hr⟩
    have H99 := Lib.hid (H22.out.trans (hr.mono H22.out.size))
    clear hr
    go_wp2
    go_ret
    exact ⟨rfl, H99.out⟩

end Go.Proofs.Ytimbgjpjgbjnkaa
