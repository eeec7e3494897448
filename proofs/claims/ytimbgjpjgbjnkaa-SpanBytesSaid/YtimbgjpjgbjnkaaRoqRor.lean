import Derived.Test.YtimbgjpjgbjnkaaRop
/- Contracts of the reference of span: Combine, Within. -/
namespace Go.Proofs.Ytimbgjpjgbjnkaa
open Go.RowKit Go.Shelf

open Classical in
/-- Whether a list's intervals have a number. -/
noncomputable def inB (xs : List Iv) (κ : Int) : Bool := decide (inL xs κ)

open Classical in
theorem inB_iff (xs : List Iv) (κ : Int) : inB xs κ = true ↔ inL xs κ := by unfold inB; rw [decide_eq_true_eq]

theorem inB_not (xs : List Iv) (κ : Int) : inB xs κ = false ↔ ¬ inL xs κ := by rw [← inB_iff]; simp

/-- The numbers of two sets, combined. -/
def combS (f : Bool → Bool → Bool) (a b : List Iv) (κ : Int) : Prop := lowC.key ≤ κ ∧ κ < highC.key ∧ f (inB a κ) (inB b κ) = true

theorem opL_congr {S S' : Int → Prop} {a b : List Iv} (h : validL a = 0 → validL b = 0 → ∀ κ, S κ ↔ S' κ) : opL S a b = opL S' a b := by
  unfold opL
  by_cases h1 : validL a = 0
  · by_cases h2 : validL b = 0
    · rw [if_neg (by simp [h1]), if_neg (by simp [h2]), if_neg (by simp [h1]), if_neg (by simp [h2])]
      congr 2
      exact funext fun κ => propext (h h1 h2 κ)
    · rw [if_neg (by simp [h1]), if_pos h2, if_neg (by simp [h1]), if_pos h2]
  · rw [if_pos h1, if_pos h1]

theorem comb_union (a b : List Iv) : opL (combS (fun x y => x || y) a b) a b = opL (unionS a b) a b := opL_congr fun h1 h2 κ => by
  unfold combS unionS
  rw [Bool.or_eq_true, inB_iff, inB_iff]
  refine ⟨fun h => h.2.2, fun hk => ?_⟩
  rcases hk with hk | hk
  · exact ⟨(in_bounds (fit_all h1) hk).1, (in_bounds (fit_all h1) hk).2, .inl hk⟩
  · exact ⟨(in_bounds (fit_all h2) hk).1, (in_bounds (fit_all h2) hk).2, .inr hk⟩

theorem comb_meet (a b : List Iv) : opL (combS (fun x y => x && y) a b) a b = opL (meetS a b) a b := opL_congr fun h1 h2 κ => by
  unfold combS meetS
  rw [Bool.and_eq_true, inB_iff, inB_iff]
  exact ⟨fun h => h.2.2, fun hk => ⟨(in_bounds (fit_all h1) hk.1).1, (in_bounds (fit_all h1) hk.1).2, hk⟩⟩

theorem validL_nil : validL [] = 0 := by
  unfold validL
  rw [if_pos Fit.nil, if_neg (by simp)]

theorem comb_not (a : List Iv) : opL (combS (fun x _ => !x) a []) a [] = notL a := by
  have h : ∀ κ, combS (fun x _ => !x) a [] κ ↔ notS a κ := fun κ => by
    unfold combS notS
    rw [Bool.not_eq_true', inB_not]
  have e : combS (fun x _ => !x) a [] = notS a := funext fun κ => propext (h κ)
  unfold opL notL
  rw [e, if_neg (show ¬ validL [] ≠ 0 from by simp [validL_nil])]

theorem zip_take {f : Bool → Bool → Bool} {cs ds : List Bool} {k : Nat} {x y : Bool} (hx : cs[k]? = some x) (hy : ds[k]? = some y) : (List.zipWith f cs ds).take (k + 1) = (List.zipWith f cs ds).take k ++ [f x y] := by
  rw [List.take_add_one]
  congr 1
  rw [List.getElem?_zipWith, hx, hy]
  rfl

theorem comb_cells {P : List (Int × Int)} (hP : PtsOk P) {f : Bool → Bool → Bool} {a b : List Iv} (ha : ∀ x ∈ a, x.good = true) (hb : ∀ x ∈ b, x.good = true) (hla : ∀ x ∈ a, Lims x P) (hlb : ∀ x ∈ b, Lims x P) (κ : Int) :
    inC P (List.zipWith f (cellsB a P) (cellsB b P)) (List.zipWith f (cellsB a P) (cellsB b P)).length κ ↔ combS f a b κ := by
  refine inC_iff (by rw [List.length_zipWith, cellsB_len, cellsB_len]; omega) (fun κ h => ⟨h.1, h.2.1⟩) (fun c κ hc h1 h2 => ?_) κ
  rw [List.getElem?_zipWith, cellsB_at a P hc, cellsB_at b P hc]
  have e1 := cells_in hP ha hla hc h1 h2
  have e2 := cells_in hP hb hlb hc h1 h2
  have b1 := loC_le hP (c := 0) (d := c) (Nat.zero_le _) (by omega)
  have b2 := loC_le hP (c := c + 1) (d := 2 * P.length + 1) (by omega) (Nat.le_refl _)
  rw [loC_zero] at b1
  rw [loC_end] at b2
  unfold combS
  generalize (a.any fun x => covB x P c) = q1 at *
  generalize (b.any fun x => covB x P c) = q2 at *
  have f1 : inB a κ = q1 := by
    cases q1
    · exact (inB_not _ _).2 fun h => by have := e1.1 h; cases this
    · exact (inB_iff _ _).2 (e1.2 rfl)
  have f2 : inB b κ = q2 := by
    cases q2
    · exact (inB_not _ _).2 fun h => by have := e2.1 h; cases this
    · exact (inB_iff _ _).2 (e2.2 rfl)
  rw [f1, f2]
  constructor
  · intro h
    simpa using h.2.2
  · intro h
    exact ⟨by omega, by omega, by simpa using h⟩

/-- The three ways of Combine. -/
def How (how : Int) (f : Bool → Bool → Bool) : Prop := (how = 0 ∧ f = fun x y => x || y) ∨ (how = 1 ∧ f = fun x y => x && y) ∨ (how = 2 ∧ f = fun x _ => !x)

/-- The loop of Combine. -/
def CombRel (f : Bool → Bool → Bool) (cs ds : List Bool) (T : TypeId) (k : Nat) (w : World) (v : Value) (wr : World) : Prop := ∃ a n c, v = .slice a n c ∧ Hid (ROwn RBool T w.heap.size wr (.slice a n c) ((List.zipWith f cs ds).take k)) ∧ Hid (Below w.heap.size w wr)

set_option maxHeartbeats 16000000 in
set_option maxRecDepth 100000 in
theorem gcombine_any (sv tv : Value) (a b : List Iv) (how : Int) (f : Bool → Bool → Bool) (w : World) (hh : How how f) (h : REls RIv w sv a) (h' : REls RIv w tv b) (hla : a.length ≤ 100000) (hlb : b.length ≤ 100000) :
    Calls Try.prog 27 #[sv, tv, .int .i64 how] w (Two (opL (combS f a b) a b).1 (opL (combS f a b) a b).2 w) := by
  have k1 := gvalid_any sv a w h (by omega)
  have k2 := fun W (hB : Below w.heap.size w W) => gvalid_any tv b W (h'.below hB) (by omega)
  have KP := Lib.hid fun (hg : ∀ x ∈ a, x.good = true) (hg' : ∀ x ∈ b, x.good = true) W (hB : Below w.heap.size w W) => points_any _ [a, b] _ (LEls.new2 (h.below hB) (h'.below hB) 23) (fun ys hy => by simp at hy; rcases hy with rfl | rfl; (· exact hg); (· exact hg')) (fun ys hy => by simp at hy; rcases hy with rfl | rfl; (· exact hla); (· exact hlb)) (by simp)
  have KCa := Lib.hid fun (hg : ∀ x ∈ a, x.good = true) P pv W (hB : Below w.heap.size w W) (hP : PtsOk P) (hL : ∀ x ∈ a, Lims x P) (hp : PSl W pv P) (hpl : P.length ≤ 10000000) => cells_any sv pv a P W (h.below hB) hg hL (by omega) hP hp hpl
  have KCb := Lib.hid fun (hg : ∀ x ∈ b, x.good = true) P pv W (hB : Below w.heap.size w W) (hP : PtsOk P) (hL : ∀ x ∈ b, Lims x P) (hp : PSl W pv P) (hpl : P.length ≤ 10000000) => cells_any tv pv b P W (h'.below hB) hg hL (by omega) hP hp hpl
  obtain ⟨a1, c1, rfl⟩ := h.shape
  obtain ⟨a2, c2, rfl⟩ := h'.shape
  generalize hn1 : a.length = n1 at *
  generalize hn2 : b.length = n2 at *
  clear h h' hn1 hn2
  have HH := Lib.hid hh
  clear hh
  by_cases hva : validL a = 0
  rotate_left 1
  · have hop : Hid (opL (combS f a b) a b = ([], validL a)) := Lib.hid (by unfold opL; rw [if_pos hva])
    have hz : (validL a != 0) = true := by simpa using hva
    generalize validL a = q at *
    have K1 := Lib.hid k1
    clear k1 k2 hva KP KCa KCb
    go_enter Try.func27, Try.ntmps27
    go_wp2_with fail
    refine (K1.out).mono ?_
    rintro e w1 ⟨rfl, hr⟩
    have H1 := Lib.hid hr
    clear hr
    go_wp2
    go_ret2
    rw [hop.out]
    exact two_err H1.out
  by_cases hvb : validL b = 0
  rotate_left 1
  · have hop : Hid (opL (combS f a b) a b = ([], validL b)) := Lib.hid (by unfold opL; rw [if_neg (by simp [hva]), if_pos hvb])
    have hz : (validL b != 0) = true := by simpa using hvb
    rw [hva] at k1
    generalize validL b = q at *
    have K1 := Lib.hid k1
    have K2 := Lib.hid k2
    clear k1 k2 hvb hva KP KCa KCb
    go_enter Try.func27, Try.ntmps27
    go_wp2_with fail
    refine (K1.out).mono ?_
    rintro e w1 ⟨rfl, hr⟩
    have H1 := Lib.hid hr
    clear hr
    go_wp2_with fail
    refine (K2.out _ H1.out).mono ?_
    rintro e w2 ⟨rfl, hr⟩
    have H2 := Lib.hid (H1.out.trans (hr.mono H1.out.size))
    clear hr
    go_wp2
    go_ret2
    rw [hop.out]
    exact two_err H2.out
  have hop : Hid (opL (combS f a b) a b = limL (theSet (combS f a b))) := Lib.hid (by unfold opL; rw [if_neg (by simp [hva]), if_neg (by simp [hvb])])
  rw [hva] at k1
  rw [hvb] at k2
  have HGA := Lib.hid (fit_all hva)
  have HGB := Lib.hid (fit_all hvb)
  have K1 := Lib.hid k1
  have K2 := Lib.hid k2
  clear k1 k2 hvb hva
  go_enter Try.func27, Try.ntmps27
  go_wp2_with fail
  refine (K1.out).mono ?_
  rintro e w1 ⟨rfl, hr⟩
  have H1 := Lib.hid hr
  clear hr
  go_wp2_with fail
  refine (K2.out _ H1.out).mono ?_
  rintro e w2 ⟨rfl, hr⟩
  have H2 := Lib.hid (H1.out.trans (hr.mono H1.out.size))
  have K3 := Lib.hid (KP.out HGA.out HGB.out w2 H2.out)
  have H20 := Lib.hid (H2.out.alloc H2.out.size (.cells #[.slice a1 n1 c1, .slice a2 n2 c2] 23))
  clear hr KP K1 K2
  go_wp2_with fail
  refine (K3.out).mono ?_
  rintro e w3 ⟨P, pv, hP, hL, hPl, rfl, hp, hr⟩
  have H3 := Lib.hid (H20.out.trans (hr.mono H20.out.size))
  have HP := Lib.hid hP
  have HLA := Lib.hid fun x hx => hL a (by simp) x hx
  have HLB := Lib.hid fun x hx => hL b (by simp) x hx
  have HV := Lib.hid hp
  have hpl : P.length ≤ 10000000 := by simp at hPl; omega
  have K4 := Lib.hid (KCa.out HGA.out P pv w3 H3.out HP.out HLA.out hp hpl)
  have K5 := Lib.hid fun W (hB : Below w3.heap.size w3 W) => KCb.out HGB.out P pv W (H3.out.trans (hB.mono H3.out.size)) HP.out HLB.out (hp.below hB) hpl
  have HCS := Lib.hid (comb_cells (f := f) HP.out HGA.out HGB.out HLA.out HLB.out)
  obtain ⟨pa, pc, rfl⟩ := hp.shape
  clear hr hP hL hp K3 hPl KCa KCb HLA HLB HGA HGB
  generalize hpn : P.length = pn at *
  have HPN := Lib.hid hpn
  clear hpn
  go_wp2_with fail
  refine (K4.out).mono ?_
  rintro e w4 ⟨ca, cn, cc, rfl, hcn, hO, hr⟩
  have H4 := Lib.hid (H3.out.trans (hr.out.mono H3.out.size))
  have HO4 := Lib.hid hO
  have HR4 := Lib.hid hr.out
  clear hr hO K4
  go_wp2_with fail
  refine (K5.out _ HR4.out).mono ?_
  rintro e w5 ⟨da, dn, dc, rfl, hdn, hO, hr⟩
  have H5 := Lib.hid (H4.out.trans (hr.out.mono H4.out.size))
  have HEa := Lib.hid (HO4.out.els.below hr.out)
  have HEb := Lib.hid hO.els
  have HR5 := Lib.hid (HR4.out.trans (hr.out.mono HR4.out.size))
  have hcl := hcn.out
  have hdl := hdn.out
  rw [cellsB_len, HPN.out] at hcl hdl
  subst hcl hdl
  have HCL := Lib.hid hcn.out
  have HDL := Lib.hid hdn.out
  generalize cellsB a P = cs at *
  generalize cellsB b P = ds at *
  have HLZ : Hid ((List.zipWith f cs ds).length = 2 * pn + 1) := Lib.hid (by rw [List.length_zipWith, ← HCL.out, ← HDL.out]; omega)
  clear hr hO K5 HO4 HR4 hcn hdn
  go_wp2
  go_loopw [13, 14] (fun v x wr => ∃ k : Nat, k ≤ 2 * pn + 1 ∧ x = .int .i64 k ∧ CombRel f cs ds 4 k w5 v wr) (fun _ x _ => 2 * pn + 2 - (intOf x).toNat)
  case atStart => exact ⟨0, by omega, rfl, none, 0, 0, rfl, ROwn.nil _ _ _ _, Below.refl _ _⟩
  case round =>
    obtain ⟨k, hk, rfl, ao, no, co, rfl, hO, hB⟩ := hrel
    by_cases hlt : k < 2 * pn + 1
    · have hki : (k : Int) < 2 * (pn : Int) + 1 := by omega
      obtain ⟨x, hx⟩ : ∃ x, cs[k]? = some x := ⟨cs[k]'(by rw [← HCL.out]; exact hlt), List.getElem?_eq_getElem _⟩
      obtain ⟨y, hy⟩ : ∃ y, ds[k]? = some y := ⟨ds[k]'(by rw [← HDL.out]; exact hlt), List.getElem?_eq_getElem _⟩
      obtain ⟨cb, rfl, -⟩ := HEa.out.get (j := k) hlt
      obtain ⟨db, rfl, -⟩ := HEb.out.get (j := k) hlt
      have hcx := bool_at (HEa.out.below hB.out) hx
      have hcy := bool_at (HEb.out.below hB.out) hy
      have hzt := zip_take (f := f) hx hy
      have hll : ((List.zipWith f cs ds).take k).length + 1 ≤ 1000000000 := by rw [List.length_take, HLZ.out]; omega
      generalize (List.zipWith f cs ds).take k = zk at *
      have HZT := Lib.hid hzt
      have hz := hB.out.size
      clear hx hy hzt
      rcases HH.out with ⟨rfl, rfl⟩ | ⟨rfl, rfl⟩ | ⟨rfl, rfl⟩ <;> cases x <;> cases y
      all_goals
        go_wp2_with (at_builtin; refine push_row rfl _ _ _ rfl RBool 4 1 _ Try.underlying72 Try.infoBool rfl (by decide) w5.heap.size (.slice ao no co) zk [_] _ _ rfl rfl _ 1 rfl rfl rfl hO.out hz hll ?_; intro an nn cn wn hnn hOn hBn)
        have HOn := Lib.hid (HZT.out ▸ hOn.out)
        have HBn := Lib.hid (hB.out.trans hBn.out)
        clear hOn hBn
        go_wp2
        go_roundw
        case rel => exact ⟨k + 1, by omega, by go_num, an, nn, cn, rfl, HOn, HBn⟩
        case measure => simp [intOf]; omega
    · have hki : 2 * (pn : Int) + 1 ≤ (k : Int) := by omega
      have H6 := Lib.hid (H5.out.trans (hB.out.mono H5.out.size))
      have hfull : Hid (ROwn RBool 4 w5.heap.size wr (.slice ao no co) (List.zipWith f cs ds)) := by
        have := hO.out
        rw [List.take_of_length_le (by rw [HLZ.out]; omega)] at this
        exact this
      have K6 := Lib.hid (of04_any (.slice pa pn pc) _ P (List.zipWith f cs ds) wr HP.out (HV.out.below (HR5.out.trans (hB.out.mono HR5.out.size))) hfull.out.els (by rw [HLZ.out, HPN.out]) (by rw [HPN.out]; exact hpl))
      clear hO hfull
      go_wp2_with fail
      refine (K6.out).mono ?_
      intro e w7 hof
      have H7 := two_ofOut hof HCS.out H6.out
      rw [← hop.out] at H7
      have H7 := Lib.hid H7
      clear hof K6
      obtain ⟨a4, n4, c4, rfl, hE4, hB4⟩ := H7.out
      clear H7
      go_wp2
      go_ret2
      exact ⟨a4, n4, c4, rfl, hE4, hB4⟩

end Go.Proofs.Ytimbgjpjgbjnkaa

/- Contracts of the reference of span: Within. -/
namespace Go.Proofs.Ytimbgjpjgbjnkaa
open Go.RowKit Go.Shelf

theorem within_cells {P : List (Int × Int)} (hP : PtsOk P) {a b : List Iv} (ha : ∀ x ∈ a, x.good = true) (hb : ∀ x ∈ b, x.good = true) (hla : ∀ x ∈ a, Lims x P) (hlb : ∀ x ∈ b, Lims x P) :
    (∀ κ, inL a κ → inL b κ) ↔ ∀ (k : Nat) (x y : Bool), (cellsB a P)[k]? = some x → (cellsB b P)[k]? = some y → x = true → y = true := by
  constructor
  · intro h k x y hx hy hxt
    have hk : k ≤ 2 * P.length := by have := (List.getElem?_eq_some_iff.1 hx).1; rw [cellsB_len] at this; omega
    have hs := loC_step hP hk
    rw [cellsB_at a P hk] at hx
    rw [cellsB_at b P hk] at hy
    cases hx
    cases hy
    exact (cells_in hP hb hlb hk (Int.le_refl _) hs).1 (h _ ((cells_in hP ha hla hk (Int.le_refl _) hs).2 hxt))
  · intro h κ hk
    have hbd := in_bounds ha hk
    obtain ⟨d, hd, h2, h3⟩ := cell_of (P := P) (κ := κ) (2 * P.length + 1) (by rw [loC_zero]; exact hbd.1) (by rw [loC_end]; exact hbd.2)
    have := h d _ _ (cellsB_at a P (by omega)) (cellsB_at b P (by omega)) ((cells_in hP ha hla (by omega) h2 h3).1 hk)
    exact (cells_in hP hb hlb (by omega) h2 h3).2 this

open Classical in
set_option maxHeartbeats 16000000 in
set_option maxRecDepth 100000 in
theorem gwithin_any (sv tv : Value) (a b : List Iv) (w : World) (h : REls RIv w sv a) (h' : REls RIv w tv b) (hla : a.length ≤ 100000) (hlb : b.length ≤ 100000) :
    Calls Try.prog 31 #[sv, tv] w fun e w' => e = .returned (.tuple #[.bool (withinL a b).1, .int .i64 (withinL a b).2]) ∧ Below w.heap.size w w' := by
  have k1 := gvalid_any sv a w h (by omega)
  have k2 := fun W (hB : Below w.heap.size w W) => gvalid_any tv b W (h'.below hB) (by omega)
  have KP := Lib.hid fun (hg : ∀ x ∈ a, x.good = true) (hg' : ∀ x ∈ b, x.good = true) W (hB : Below w.heap.size w W) => points_any _ [a, b] _ (LEls.new2 (h.below hB) (h'.below hB) 23) (fun ys hy => by simp at hy; rcases hy with rfl | rfl; (· exact hg); (· exact hg')) (fun ys hy => by simp at hy; rcases hy with rfl | rfl; (· exact hla); (· exact hlb)) (by simp)
  have KCa := Lib.hid fun (hg : ∀ x ∈ a, x.good = true) P pv W (hB : Below w.heap.size w W) (hP : PtsOk P) (hL : ∀ x ∈ a, Lims x P) (hp : PSl W pv P) (hpl : P.length ≤ 10000000) => cells_any sv pv a P W (h.below hB) hg hL (by omega) hP hp hpl
  have KCb := Lib.hid fun (hg : ∀ x ∈ b, x.good = true) P pv W (hB : Below w.heap.size w W) (hP : PtsOk P) (hL : ∀ x ∈ b, Lims x P) (hp : PSl W pv P) (hpl : P.length ≤ 10000000) => cells_any tv pv b P W (h'.below hB) hg hL (by omega) hP hp hpl
  obtain ⟨a1, c1, rfl⟩ := h.shape
  obtain ⟨a2, c2, rfl⟩ := h'.shape
  generalize hn1 : a.length = n1 at *
  generalize hn2 : b.length = n2 at *
  clear h h' hn1 hn2
  by_cases hva : validL a = 0
  rotate_left 1
  · have hop : Hid (withinL a b = (false, validL a)) := Lib.hid (by unfold withinL; rw [if_pos hva])
    have hz : (validL a != 0) = true := by simpa using hva
    generalize validL a = q at *
    have K1 := Lib.hid k1
    clear k1 k2 hva KP KCa KCb
    go_enter Try.func31, Try.ntmps31
    go_wp2_with fail
    refine (K1.out).mono ?_
    rintro e w1 ⟨rfl, hr⟩
    have H1 := Lib.hid hr
    clear hr
    go_wp2
    go_ret2
    rw [hop.out]
    exact ⟨rfl, H1.out⟩
  by_cases hvb : validL b = 0
  rotate_left 1
  · have hop : Hid (withinL a b = (false, validL b)) := Lib.hid (by unfold withinL; rw [if_neg (by simp [hva]), if_pos hvb])
    have hz : (validL b != 0) = true := by simpa using hvb
    rw [hva] at k1
    generalize validL b = q at *
    have K1 := Lib.hid k1
    have K2 := Lib.hid k2
    clear k1 k2 hvb hva KP KCa KCb
    go_enter Try.func31, Try.ntmps31
    go_wp2_with fail
    refine (K1.out).mono ?_
    rintro e w1 ⟨rfl, hr⟩
    have H1 := Lib.hid hr
    clear hr
    go_wp2_with fail
    refine (K2.out _ H1.out).mono ?_
    rintro e w2 ⟨rfl, hr⟩
    have H2 := Lib.hid (H1.out.trans (hr.mono H1.out.size))
    clear hr
    go_wp2
    go_ret2
    rw [hop.out]
    exact ⟨rfl, H2.out⟩
  have hop : Hid (∀ P cs ds, PtsOk P → (∀ x ∈ a, Lims x P) → (∀ x ∈ b, Lims x P) → cs = cellsB a P → ds = cellsB b P → withinL a b = (decide (∀ (k : Nat) (x y : Bool), cs[k]? = some x → ds[k]? = some y → x = true → y = true), 0)) := fun P cs ds hP hL hL' e1 e2 => by
    subst e1 e2
    unfold withinL
    rw [if_neg (by simp [hva]), if_neg (by simp [hvb])]
    have hiff := within_cells hP (fit_all hva) (fit_all hvb) hL hL'
    by_cases hc : ∀ κ, inL a κ → inL b κ
    · rw [decide_eq_true hc, decide_eq_true (hiff.1 hc)]
    · rw [decide_eq_false hc, decide_eq_false (mt hiff.2 hc)]
  rw [hva] at k1
  rw [hvb] at k2
  have HGA := Lib.hid (fit_all hva)
  have HGB := Lib.hid (fit_all hvb)
  have K1 := Lib.hid k1
  have K2 := Lib.hid k2
  clear k1 k2 hvb hva
  go_enter Try.func31, Try.ntmps31
  go_wp2_with fail
  refine (K1.out).mono ?_
  rintro e w1 ⟨rfl, hr⟩
  have H1 := Lib.hid hr
  clear hr
  go_wp2_with fail
  refine (K2.out _ H1.out).mono ?_
  rintro e w2 ⟨rfl, hr⟩
  have H2 := Lib.hid (H1.out.trans (hr.mono H1.out.size))
  have K3 := Lib.hid (KP.out HGA.out HGB.out w2 H2.out)
  have H20 := Lib.hid (H2.out.alloc H2.out.size (.cells #[.slice a1 n1 c1, .slice a2 n2 c2] 23))
  clear hr KP K1 K2
  go_wp2_with fail
  refine (K3.out).mono ?_
  rintro e w3 ⟨P, pv, hP, hL, hPl, rfl, hp, hr⟩
  have H3 := Lib.hid (H20.out.trans (hr.mono H20.out.size))
  have HP := Lib.hid hP
  have HLA := Lib.hid fun x hx => hL a (by simp) x hx
  have HLB := Lib.hid fun x hx => hL b (by simp) x hx
  have HV := Lib.hid hp
  have hpl : P.length ≤ 10000000 := by simp at hPl; omega
  have K4 := Lib.hid (KCa.out HGA.out P pv w3 H3.out HP.out HLA.out hp hpl)
  have K5 := Lib.hid fun W (hB : Below w3.heap.size w3 W) => KCb.out HGB.out P pv W (H3.out.trans (hB.mono H3.out.size)) HP.out HLB.out (hp.below hB) hpl
  have HCS := Lib.hid fun cs ds => hop.out P cs ds HP.out HLA.out HLB.out
  obtain ⟨pa, pc, rfl⟩ := hp.shape
  clear hr hP hL hp K3 hPl KCa KCb HLA HLB HGA HGB
  generalize hpn : P.length = pn at *
  have HPN := Lib.hid hpn
  clear hpn
  go_wp2_with fail
  refine (K4.out).mono ?_
  rintro e w4 ⟨ca, cn, cc, rfl, hcn, hO, hr⟩
  have H4 := Lib.hid (H3.out.trans (hr.out.mono H3.out.size))
  have HO4 := Lib.hid hO
  have HR4 := Lib.hid hr.out
  clear hr hO K4
  go_wp2_with fail
  refine (K5.out _ HR4.out).mono ?_
  rintro e w5 ⟨da, dn, dc, rfl, hdn, hO, hr⟩
  have H5 := Lib.hid (H4.out.trans (hr.out.mono H4.out.size))
  have HEa := Lib.hid (HO4.out.els.below hr.out)
  have HEb := Lib.hid hO.els
  have HR5 := Lib.hid (HR4.out.trans (hr.out.mono HR4.out.size))
  have hcl := hcn.out
  have hdl := hdn.out
  rw [cellsB_len, HPN.out] at hcl hdl
  subst hcl hdl
  have HCL := Lib.hid hcn.out
  have HDL := Lib.hid hdn.out
  have hw := HCS.out (cellsB a P) (cellsB b P) rfl rfl
  generalize cellsB a P = cs at *
  generalize cellsB b P = ds at *
  have HW := Lib.hid hw
  clear hw hr hO K5 HO4 HR4 hcn hdn hop HCS
  go_wp2
  go_loopw [11] (fun x wr => ∃ k : Nat, k ≤ 2 * pn + 1 ∧ x = .int .i64 k ∧ Hid (∀ (i : Nat) (x y : Bool), i < k → cs[i]? = some x → ds[i]? = some y → x = true → y = true) ∧ Hid (Below w5.heap.size w5 wr)) (fun x _ => 2 * pn + 2 - (intOf x).toNat)
  case atStart => exact ⟨0, by omega, rfl, fun i x y hi => by omega, Below.refl _ _⟩
  case round =>
    obtain ⟨k, hk, rfl, hF, hB⟩ := hrel
    have H6 := Lib.hid (H5.out.trans (hB.out.mono H5.out.size))
    by_cases hlt : k < 2 * pn + 1
    · have hki : (k : Int) < 2 * (pn : Int) + 1 := by omega
      obtain ⟨x, hx⟩ : ∃ x, cs[k]? = some x := ⟨cs[k]'(by rw [← HCL.out]; exact hlt), List.getElem?_eq_getElem _⟩
      obtain ⟨y, hy⟩ : ∃ y, ds[k]? = some y := ⟨ds[k]'(by rw [← HDL.out]; exact hlt), List.getElem?_eq_getElem _⟩
      obtain ⟨cb, rfl, -⟩ := HEa.out.get (j := k) hlt
      obtain ⟨db, rfl, -⟩ := HEb.out.get (j := k) hlt
      have hcx := bool_at (HEa.out.below hB.out) hx
      have hcy := bool_at (HEb.out.below hB.out) hy
      by_cases hbad : x = true ∧ y = false
      · obtain ⟨rfl, rfl⟩ := hbad
        have hno : Hid (withinL a b = (false, 0)) := Lib.hid (by
          rw [HW.out]
          rw [decide_eq_false fun h => by have := h k true false hx hy rfl; cases this])
        clear hx hy
        go_wp2
        go_ret2
        rw [hno.out]
        exact ⟨rfl, H6.out⟩
      · have hF2 : Hid (∀ (i : Nat) (x y : Bool), i < k + 1 → cs[i]? = some x → ds[i]? = some y → x = true → y = true) := fun i x' y' hi h1 h2 h3 => by
          by_cases e : i = k
          · subst e
            rw [hx] at h1
            rw [hy] at h2
            cases h1
            cases h2
            cases hy' : y
            · exact absurd ⟨h3, hy'⟩ hbad
            · rfl
          · exact hF.out i x' y' (by omega) h1 h2 h3
        have hc3 : x = false ∨ (x = true ∧ y = true) := by
          cases x
          · exact .inl rfl
          · refine .inr ⟨rfl, ?_⟩
            cases hy' : y
            · exact absurd ⟨rfl, hy'⟩ hbad
            · rfl
        clear hx hy hbad
        rcases hc3 with rfl | ⟨rfl, rfl⟩
        all_goals
          go_wp2
          go_roundw
          case rel => exact ⟨k + 1, by omega, by go_num, hF2, hB⟩
          case measure => simp [intOf]; omega
    · have hki : 2 * (pn : Int) + 1 ≤ (k : Int) := by omega
      have hyes : Hid (withinL a b = (true, 0)) := Lib.hid (by
        rw [HW.out]
        rw [decide_eq_true fun i x y h1 h2 h3 => hF.out i x y (by have := (List.getElem?_eq_some_iff.1 h1).1; have := HCL.out; omega) h1 h2 h3])
      go_wp2
      go_ret2
      rw [hyes.out]
      exact ⟨rfl, H6.out⟩

end Go.Proofs.Ytimbgjpjgbjnkaa

