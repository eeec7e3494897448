import Derived.Test.YtimbgjpjgbjnkaaOpsEx
import Derived.Test.YtimbgjpjgbjnkaaGe
/- Contracts of package span: Union, Meet, Not, Normal, Within. -/
namespace Go.Proofs.Ytimbgjpjgbjnkaa
open Go.RowKit Go.Shelf

set_option maxHeartbeats 4000000 in
set_option maxRecDepth 100000 in
theorem union_any (sv tv : Value) (a b : List Iv) (w : World) (h : REls RIv w sv a) (h' : REls RIv w tv b) (ha : ∀ x ∈ a, x.wf) (hb : ∀ x ∈ b, x.wf) (hla : a.length ≤ 100000) (hlb : b.length ≤ 100000) :
    Calls Try.prog 28 #[sv, tv] w (Two (opL (unionS a b) a b).1 (opL (unionS a b) a b).2 w) := by
  obtain ⟨a1, c1, rfl⟩ := h.shape
  obtain ⟨a2, c2, rfl⟩ := h'.shape
  have kc := combine_any 60 (by simp) hasU _ [a, b] _ (LEls.new2 h h' 23) (fun xs hx => by simp at hx; rcases hx with rfl | rfl; (· exact ha); (· exact hb)) (fun xs hx => by simp at hx; rcases hx with rfl | rfl; (· exact hla); (· exact hlb)) (by simp) (by simp) clU
  rw [firstE_two] at kc
  have KC := Lib.hid kc
  have HB0 := Lib.hid ((Below.refl w.heap.size w).alloc (Nat.le_refl _) (.cells #[.slice a1 a.length c1, .slice a2 b.length c2] 23))
  have HE : Hid (∀ (e1 : Int) (w' : World), (if validL a ≠ 0 then validL a else validL b) = e1 → e1 ≠ 0 → Below w.heap.size w w' → Two (opL (unionS a b) a b).1 (opL (unionS a b) a b).2 w (.returned (.tuple #[.slice none 0 0, .int .i64 e1])) w') := fun e1 w' he hne hB => by
    unfold opL
    by_cases hv : validL a ≠ 0
    · rw [if_pos hv] at he ⊢
      rw [he]
      exact two_err hB
    · rw [if_neg hv] at he ⊢
      rw [if_pos (by rw [he]; exact hne), he]
      exact two_err hB
  have HG : Hid ((if validL a ≠ 0 then validL a else validL b) = 0 → opL (unionS a b) a b = limL (theSet (unionS a b)) ∧ ∀ κ, setS hasU [a, b] κ ↔ unionS a b κ) := fun he => by
    have hva : validL a = 0 := by
      apply Classical.byContradiction
      intro hn
      rw [if_pos hn] at he
      exact hn he
    rw [if_neg (by simp [hva])] at he
    refine ⟨by unfold opL; rw [if_neg (by simp [hva]), if_neg (by simp [he])], fun κ => ?_⟩
    exact setU a b (fit_all hva) (fit_all he) κ
  clear kc h h' ha hb hla hlb
  generalize a.length = n1 at *
  generalize b.length = n2 at *
  generalize (if validL a ≠ 0 then validL a else validL b) = e1 at *
  go_enter Try.func28, Try.ntmps28
  go_wp2_with fail
  refine (KC.out).mono ?_
  rintro e w1 (⟨hne, rfl, hB⟩ | ⟨he, L, a3, n3, c3, hf, hi, rfl, hO, hB⟩)
  · have H1 := Lib.hid (HB0.out.trans (hB.mono HB0.out.size))
    have HNE := Lib.hid hne
    clear hB hne KC
    go_wp2_with fail
    refine (limited_any none 0 0 [] e1 _ (.inl ⟨.inl rfl, rfl⟩)).mono ?_
    rintro e w' ⟨rfl, ⟨hl, _⟩ | ⟨_, rfl⟩⟩
    · simp at hl
    go_wp2
    go_ret2
    exact HE.out _ _ rfl HNE.out H1.out
  · have H1 := Lib.hid (HB0.out.trans (hB.mono HB0.out.size))
    obtain ⟨hop, hset⟩ := HG.out he
    have HI := Lib.hid fun κ => (hi κ).trans (hset κ)
    have HF := Lib.hid hf
    have HO := Lib.hid hO.els
    have HOP := Lib.hid hop
    clear hB hi hf hO hop hset KC
    go_wp2_with fail
    refine (limited_any a3 n3 c3 L 0 _ HO.out).mono ?_
    rintro e w' ⟨rfl, hlim⟩
    rcases hlim with ⟨hl, rfl⟩ | ⟨hl, rfl⟩
    · have HL := Lib.hid hl
      clear hl
      go_wp2
      go_ret2
      rw [HOP.out]
      exact two_of HF.out HI.out HO.out H1.out (.inl ⟨HL.out, rfl⟩)
    · have HL := Lib.hid hl
      clear hl
      go_wp2
      go_ret2
      rw [HOP.out]
      exact two_of HF.out HI.out HO.out H1.out (.inr ⟨HL.out, rfl⟩)

set_option maxHeartbeats 4000000 in
set_option maxRecDepth 100000 in
theorem meet_any (sv tv : Value) (a b : List Iv) (w : World) (h : REls RIv w sv a) (h' : REls RIv w tv b) (ha : ∀ x ∈ a, x.wf) (hb : ∀ x ∈ b, x.wf) (hla : a.length ≤ 100000) (hlb : b.length ≤ 100000) :
    Calls Try.prog 29 #[sv, tv] w (Two (opL (meetS a b) a b).1 (opL (meetS a b) a b).2 w) := by
  obtain ⟨a1, c1, rfl⟩ := h.shape
  obtain ⟨a2, c2, rfl⟩ := h'.shape
  have kc := combine_any 61 (by simp) hasM _ [a, b] _ (LEls.new2 h h' 23) (fun xs hx => by simp at hx; rcases hx with rfl | rfl; (· exact ha); (· exact hb)) (fun xs hx => by simp at hx; rcases hx with rfl | rfl; (· exact hla); (· exact hlb)) (by simp) (by simp) clM
  rw [firstE_two] at kc
  have KC := Lib.hid kc
  have HB0 := Lib.hid ((Below.refl w.heap.size w).alloc (Nat.le_refl _) (.cells #[.slice a1 a.length c1, .slice a2 b.length c2] 23))
  have HE : Hid (∀ (e1 : Int) (w' : World), (if validL a ≠ 0 then validL a else validL b) = e1 → e1 ≠ 0 → Below w.heap.size w w' → Two (opL (meetS a b) a b).1 (opL (meetS a b) a b).2 w (.returned (.tuple #[.slice none 0 0, .int .i64 e1])) w') := fun e1 w' he hne hB => by
    unfold opL
    by_cases hv : validL a ≠ 0
    · rw [if_pos hv] at he ⊢
      rw [he]
      exact two_err hB
    · rw [if_neg hv] at he ⊢
      rw [if_pos (by rw [he]; exact hne), he]
      exact two_err hB
  have HG : Hid ((if validL a ≠ 0 then validL a else validL b) = 0 → opL (meetS a b) a b = limL (theSet (meetS a b)) ∧ ∀ κ, setS hasM [a, b] κ ↔ meetS a b κ) := fun he => by
    have hva : validL a = 0 := by
      apply Classical.byContradiction
      intro hn
      rw [if_pos hn] at he
      exact hn he
    rw [if_neg (by simp [hva])] at he
    refine ⟨by unfold opL; rw [if_neg (by simp [hva]), if_neg (by simp [he])], fun κ => ?_⟩
    exact setM a b (fit_all hva) κ
  clear kc h h' ha hb hla hlb
  generalize a.length = n1 at *
  generalize b.length = n2 at *
  generalize (if validL a ≠ 0 then validL a else validL b) = e1 at *
  go_enter Try.func29, Try.ntmps29
  go_wp2_with fail
  refine (KC.out).mono ?_
  rintro e w1 (⟨hne, rfl, hB⟩ | ⟨he, L, a3, n3, c3, hf, hi, rfl, hO, hB⟩)
  · have H1 := Lib.hid (HB0.out.trans (hB.mono HB0.out.size))
    have HNE := Lib.hid hne
    clear hB hne KC
    go_wp2_with fail
    refine (limited_any none 0 0 [] e1 _ (.inl ⟨.inl rfl, rfl⟩)).mono ?_
    rintro e w' ⟨rfl, ⟨hl, _⟩ | ⟨_, rfl⟩⟩
    · simp at hl
    go_wp2
    go_ret2
    exact HE.out _ _ rfl HNE.out H1.out
  · have H1 := Lib.hid (HB0.out.trans (hB.mono HB0.out.size))
    obtain ⟨hop, hset⟩ := HG.out he
    have HI := Lib.hid fun κ => (hi κ).trans (hset κ)
    have HF := Lib.hid hf
    have HO := Lib.hid hO.els
    have HOP := Lib.hid hop
    clear hB hi hf hO hop hset KC
    go_wp2_with fail
    refine (limited_any a3 n3 c3 L 0 _ HO.out).mono ?_
    rintro e w' ⟨rfl, hlim⟩
    rcases hlim with ⟨hl, rfl⟩ | ⟨hl, rfl⟩
    · have HL := Lib.hid hl
      clear hl
      go_wp2
      go_ret2
      rw [HOP.out]
      exact two_of HF.out HI.out HO.out H1.out (.inl ⟨HL.out, rfl⟩)
    · have HL := Lib.hid hl
      clear hl
      go_wp2
      go_ret2
      rw [HOP.out]
      exact two_of HF.out HI.out HO.out H1.out (.inr ⟨HL.out, rfl⟩)

set_option maxHeartbeats 4000000 in
set_option maxRecDepth 100000 in
theorem not_any (sv : Value) (a : List Iv) (w : World) (h : REls RIv w sv a) (ha : ∀ x ∈ a, x.wf) (hla : a.length ≤ 100000) :
    Calls Try.prog 26 #[sv] w (Two (notL a).1 (notL a).2 w) := by
  obtain ⟨a1, c1, rfl⟩ := h.shape
  have kc := combine_any 59 (by simp) hasNot _ [a] _ (LEls.new1 h 23) (fun xs hx => by simp at hx; subst hx; exact ha) (fun xs hx => by simp at hx; subst hx; exact hla) (by simp) (by simp) clNot
  rw [firstE_one] at kc
  have KC := Lib.hid kc
  have HB0 := Lib.hid ((Below.refl w.heap.size w).alloc (Nat.le_refl _) (.cells #[.slice a1 a.length c1] 23))
  have HE : Hid (∀ (e1 : Int) (w' : World), validL a = e1 → e1 ≠ 0 → Below w.heap.size w w' → Two (notL a).1 (notL a).2 w (.returned (.tuple #[.slice none 0 0, .int .i64 e1])) w') := fun e1 w' he hne hB => by
    unfold notL
    rw [if_pos (by rw [he]; exact hne), he]
    exact two_err hB
  have HG : Hid (validL a = 0 → notL a = limL (theSet (notS a)) ∧ ∀ κ, setS hasNot [a] κ ↔ notS a κ) := fun he => by
    refine ⟨by unfold notL; rw [if_neg (by simp [he])], fun κ => ?_⟩
    exact setNot a κ
  clear kc h ha hla
  generalize a.length = n1 at *
  generalize hva : validL a = e1 at *
  clear hva
  go_enter Try.func26, Try.ntmps26
  go_wp2_with fail
  refine (KC.out).mono ?_
  rintro e w1 (⟨hne, rfl, hB⟩ | ⟨he, L, a3, n3, c3, hf, hi, rfl, hO, hB⟩)
  · have H1 := Lib.hid (HB0.out.trans (hB.mono HB0.out.size))
    have HNE := Lib.hid hne
    clear hB hne KC
    go_wp2_with fail
    refine (limited_any none 0 0 [] e1 _ (.inl ⟨.inl rfl, rfl⟩)).mono ?_
    rintro e w' ⟨rfl, ⟨hl, _⟩ | ⟨_, rfl⟩⟩
    · simp at hl
    go_wp2
    go_ret2
    exact HE.out _ _ rfl HNE.out H1.out
  · have H1 := Lib.hid (HB0.out.trans (hB.mono HB0.out.size))
    obtain ⟨hop, hset⟩ := HG.out he
    have HI := Lib.hid fun κ => (hi κ).trans (hset κ)
    have HF := Lib.hid hf
    have HO := Lib.hid hO.els
    have HOP := Lib.hid hop
    clear hB hi hf hO hop hset KC
    go_wp2_with fail
    refine (limited_any a3 n3 c3 L 0 _ HO.out).mono ?_
    rintro e w' ⟨rfl, hlim⟩
    rcases hlim with ⟨hl, rfl⟩ | ⟨hl, rfl⟩
    · have HL := Lib.hid hl
      clear hl
      go_wp2
      go_ret2
      rw [HOP.out]
      exact two_of HF.out HI.out HO.out H1.out (.inl ⟨HL.out, rfl⟩)
    · have HL := Lib.hid hl
      clear hl
      go_wp2
      go_ret2
      rw [HOP.out]
      exact two_of HF.out HI.out HO.out H1.out (.inr ⟨HL.out, rfl⟩)

end Go.Proofs.Ytimbgjpjgbjnkaa

/- Contracts of package span: Within, Normal, Equal. -/
namespace Go.Proofs.Ytimbgjpjgbjnkaa
open Go.RowKit Go.Shelf

theorem left_none {L : List Iv} {a b : List Iv} (hf : Fit L) (h : ∀ κ, inL L κ ↔ inL a κ ∧ ¬ inL b κ) : (L.length = 0 ↔ ∀ κ, inL a κ → inL b κ) := by
  constructor
  · intro h0 κ ha
    apply Classical.byContradiction
    intro hb
    have := (h κ).2 ⟨ha, hb⟩
    rw [List.eq_nil_of_length_eq_zero h0] at this
    exact inL_nil κ this
  · intro hall
    cases L with
    | nil => rfl
    | cons x xs =>
      have h1 := (h x.from.key).1 (inL_cons.2 (.inl ⟨Int.le_refl _, (good_parts hf.head).2.2⟩))
      exact absurd (hall _ h1.1) h1.2

open Classical in
set_option maxHeartbeats 4000000 in
set_option maxRecDepth 100000 in
theorem within_any (sv tv : Value) (a b : List Iv) (w : World) (h : REls RIv w sv a) (h' : REls RIv w tv b) (ha : ∀ x ∈ a, x.wf) (hb : ∀ x ∈ b, x.wf) (hla : a.length ≤ 100000) (hlb : b.length ≤ 100000) :
    Calls Try.prog 30 #[sv, tv] w fun e w' => e = .returned (.tuple #[.bool (withinL a b).1, .int .i64 (withinL a b).2]) ∧ Below w.heap.size w w' := by
  obtain ⟨a1, c1, rfl⟩ := h.shape
  obtain ⟨a2, c2, rfl⟩ := h'.shape
  have kc := combine_any 62 (by simp) hasW _ [a, b] _ (LEls.new2 h h' 23) (fun xs hx => by simp at hx; rcases hx with rfl | rfl; (· exact ha); (· exact hb)) (fun xs hx => by simp at hx; rcases hx with rfl | rfl; (· exact hla); (· exact hlb)) (by simp) (by simp) clW
  rw [firstE_two] at kc
  have KC := Lib.hid kc
  have HB0 := Lib.hid ((Below.refl w.heap.size w).alloc (Nat.le_refl _) (.cells #[.slice a1 a.length c1, .slice a2 b.length c2] 23))
  have HE : Hid (∀ e1 : Int, (if validL a ≠ 0 then validL a else validL b) = e1 → e1 ≠ 0 → withinL a b = (false, e1)) := fun e1 he hne => by
    unfold withinL
    by_cases hv : validL a ≠ 0
    · rw [if_pos hv] at he ⊢
      rw [he]
    · rw [if_neg hv] at he ⊢
      rw [if_pos (by rw [he]; exact hne), he]
  have HG : Hid ((if validL a ≠ 0 then validL a else validL b) = 0 → ∀ L, Fit L → (∀ κ, inL L κ ↔ setS hasW [a, b] κ) → withinL a b = (decide (L.length = 0), 0)) := fun he L hf hi => by
    have hva : validL a = 0 := by
      apply Classical.byContradiction
      intro hn
      rw [if_pos hn] at he
      exact hn he
    rw [if_neg (by simp [hva])] at he
    unfold withinL
    rw [if_neg (by simp [hva]), if_neg (by simp [he])]
    have := left_none hf fun κ => (hi κ).trans (setW a b (fit_all hva) κ)
    by_cases h0 : L.length = 0
    · rw [decide_eq_true h0, decide_eq_true (this.1 h0)]
    · rw [decide_eq_false h0, decide_eq_false (mt this.2 h0)]
  clear kc h h' ha hb hla hlb
  generalize a.length = n1 at *
  generalize b.length = n2 at *
  generalize (if validL a ≠ 0 then validL a else validL b) = e1 at *
  generalize withinL a b = R at *
  go_enter Try.func30, Try.ntmps30
  go_wp2_with fail
  refine (KC.out).mono ?_
  rintro e w1 (⟨hne, rfl, hB⟩ | ⟨he, L, a3, n3, c3, hf, hi, rfl, hO, hB⟩)
  · have H1 := Lib.hid (HB0.out.trans (hB.mono HB0.out.size))
    have hR := HE.out _ rfl hne
    have hz : (e1 == 0) = false := by simpa using hne
    subst hR
    clear hB hne KC HE HG
    go_wp2
    go_ret2
    exact ⟨rfl, H1.out⟩
  · have H1 := Lib.hid (HB0.out.trans (hB.mono HB0.out.size))
    have hR := HG.out he L hf hi
    have hn := hO.els.len
    rw [← hn] at hR
    subst hR
    clear hB hi hf hO hn KC HE HG
    by_cases h0 : n3 = 0
    · subst h0
      go_wp2
      go_ret2
      exact ⟨rfl, H1.out⟩
    · have hz : ((n3 : Int) == 0) = false := by rw [beq_eq_false_iff_ne]; omega
      have hd := Lib.hid (decide_eq_false h0)
      clear h0
      go_wp2
      go_ret2
      exact ⟨congrArg (fun z => Ending.returned (.tuple #[.bool z, .int .i64 0])) hd.out.symm, H1.out⟩

set_option maxHeartbeats 8000000 in
set_option maxRecDepth 100000 in
theorem normal_any (sv : Value) (xs : List Iv) (w : World) (h : REls RIv w sv xs) (hwf : ∀ x ∈ xs, x.wf) (hl : xs.length ≤ 100000) :
    Calls Try.prog 17 #[sv] w (Two (normL xs).1 (normL xs).2 w) := by
  obtain ⟨a, cap, rfl⟩ := h.shape
  have HE := Lib.hid h
  have HWF := Lib.hid hwf
  have KS := Lib.hid fun (hg : ∀ x ∈ xs, x.good = true) W (hB : Below w.heap.size w W) => sweep_any 46 (by simp) hasN _ [xs] _ (LEls.new1 (h.below hB) 23) (fun ys hy => by simp at hy; subst hy; exact hg) (fun ys hy => by simp at hy; subst hy; exact hl) (by simp) (by simp) clN
  generalize hn : xs.length = n at *
  have HN := Lib.hid hn
  clear h hwf hn
  go_enter Try.func17, Try.ntmps17
  go_wp2
  go_loopw [8] (fun x wr => ∃ k : Nat, k ≤ n ∧ x = .int .i64 k ∧ Hid (∀ x ∈ xs.take k, x.good = true) ∧ Hid (Below w.heap.size w wr)) (fun x _ => n - (intOf x).toNat)
  case atStart => exact ⟨0, by omega, rfl, fun x hx => by simp at hx, Below.refl _ _⟩
  case round =>
    obtain ⟨k, hk, rfl, hF, hB⟩ := hrel
    by_cases hlt : k < n
    · have hki : (k : Int) < n := by omega
      obtain ⟨x, hx⟩ : ∃ x, xs[k]? = some x := ⟨xs[k]'(by rw [HN.out]; exact hlt), List.getElem?_eq_getElem _⟩
      obtain ⟨b, rfl, -⟩ := HE.out.get hlt
      obtain ⟨g0, g1, g2, g3, g4, g5, g6, g7, hb⟩ := iv_at (HE.out.below hB.out) hx
      have kv := Lib.hid fun W => viv_any x W (HWF.out x (List.mem_of_getElem? hx))
      have HX := Lib.hid hx
      clear hx
      have hB1 := Lib.hid (hB.out.alloc hB.out.size (.cells #[.int .i64 x.a, .int .i64 x.b, .int .i64 x.c, .int .i64 x.d, .bool x.p, .bool x.q, .bool x.r, .bool x.s] 27))
      clear hB
      cases hG : x.good
      case false =>
        have hno : Hid (normL xs = ([], 1)) := Lib.hid (by
          unfold normL
          rw [if_neg (fun hh => by have := hh x (List.mem_of_getElem? HX.out); rw [hG] at this; cases this)])
        rw [hG] at kv
        clear hG HX
        obtain ⟨xa, xb, xc, xd, xp, xq, xr, xs'⟩ := x
        unfold Iv.v at kv
        simp only at *
        go_wp2_with fail
        refine (kv.out _).mono ?_
        rintro e w1 ⟨rfl, hr⟩
        have H1 := Lib.hid (hB1.out.trans (hr.mono hB1.out.size))
        clear hr
        go_wp2
        go_ret2
        rw [hno.out]
        exact two_err H1.out
      case true =>
        have hF2 : Hid (∀ x ∈ xs.take (k + 1), x.good = true) := fun y hy => by
          rw [List.take_add_one, HX.out, List.mem_append] at hy
          rcases hy with hy | hy
          · exact hF.out y hy
          · simp at hy
            rw [hy]
            exact hG
        rw [hG] at kv
        clear hG HX
        obtain ⟨xa, xb, xc, xd, xp, xq, xr, xs'⟩ := x
        unfold Iv.v at kv
        simp only at *
        go_wp2_with fail
        refine (kv.out _).mono ?_
        rintro e w1 ⟨rfl, hr⟩
        have H1 := Lib.hid (hB1.out.trans (hr.mono hB1.out.size))
        clear hr g0 g1 g2 g3 g4 g5 g6 g7
        go_wp2
        go_roundw
        case rel => exact ⟨k + 1, by omega, by go_num, hF2, H1⟩
        case measure => simp [intOf]; omega
    · have hki : (n : Int) ≤ (k : Int) := by omega
      have hall : ∀ x ∈ xs, x.good = true := by
        have := hF.out
        rwa [List.take_of_length_le (by rw [HN.out]; omega)] at this
      have hno : Hid (normL xs = limL (theSet (inL xs))) := Lib.hid (by
        unfold normL
        rw [if_pos hall])
      have HS := Lib.hid fun κ => setN xs hall κ
      have KC := Lib.hid (KS.out hall wr hB.out)
      have HB0 := Lib.hid (hB.out.alloc hB.out.size (.cells #[.slice a n cap] 23))
      clear hall KS hF
      go_wp2_with fail
      refine (KC.out).mono ?_
      rintro e w1 ⟨L, hf, hi, a3, n3, c3, rfl, hn3, hO, hr⟩
      have H1 := Lib.hid (HB0.out.trans (hr.out.mono HB0.out.size))
      have HI := Lib.hid fun κ => (hi κ).trans (HS.out κ)
      have HF := Lib.hid hf
      have HO := Lib.hid hO.els
      clear hr hi hf hO hn3 KC
      go_wp2_with fail
      refine (limited_any a3 n3 c3 L 0 _ HO.out).mono ?_
      rintro e w' ⟨rfl, hlim⟩
      rcases hlim with ⟨hl', rfl⟩ | ⟨hl', rfl⟩
      · have HL := Lib.hid hl'
        clear hl'
        go_wp2
        go_ret2
        rw [hno.out]
        exact two_of HF.out HI.out HO.out H1.out (.inl ⟨HL.out, rfl⟩)
      · have HL := Lib.hid hl'
        clear hl'
        go_wp2
        go_ret2
        rw [hno.out]
        exact two_of HF.out HI.out HO.out H1.out (.inr ⟨HL.out, rfl⟩)

set_option maxHeartbeats 8000000 in
set_option maxRecDepth 100000 in
theorem sequal_any (sv tv : Value) (xs ys : List Iv) (w : World) (h : REls RIv w sv xs) (h' : REls RIv w tv ys) (hl : xs.length ≤ 1000000) :
    Calls Try.prog 52 #[sv, tv] w fun e w' => e = .returned (.bool (decide (xs = ys))) ∧ Below w.heap.size w w' := by
  obtain ⟨a, cap, rfl⟩ := h.shape
  obtain ⟨a', cap', rfl⟩ := h'.shape
  have HE := Lib.hid h
  have HE' := Lib.hid h'
  by_cases hlen : xs.length = ys.length
  · rw [← hlen] at HE' ⊢
    generalize hm : xs.length = m at *
    have HN := Lib.hid hm
    have HN' := Lib.hid hlen
    clear h h' hlen hm
    go_enter Try.func52, Try.ntmps52
    go_wp2
    go_loopw [13] (fun x wr => ∃ k : Nat, k ≤ m ∧ x = .int .i64 k ∧ Hid (xs.take k = ys.take k) ∧ Hid (Below w.heap.size w wr)) (fun x _ => m - (intOf x).toNat)
    case atStart => exact ⟨0, by omega, rfl, rfl, Below.refl _ _⟩
    case round =>
      obtain ⟨k, hk, rfl, hF, hB⟩ := hrel
      by_cases hlt : k < m
      · have hki : (k : Int) < m := by omega
        obtain ⟨x, hx⟩ : ∃ x, xs[k]? = some x := ⟨xs[k]'(by rw [HN.out]; exact hlt), List.getElem?_eq_getElem _⟩
        obtain ⟨y, hy⟩ : ∃ y, ys[k]? = some y := ⟨ys[k]'(by rw [← HN'.out]; exact hlt), List.getElem?_eq_getElem _⟩
        obtain ⟨b, rfl, -⟩ := HE.out.get hlt
        obtain ⟨b', rfl, -⟩ := HE'.out.get hlt
        obtain ⟨g0, g1, g2, g3, g4, g5, g6, g7, hb⟩ := iv_at (HE.out.below hB.out) hx
        obtain ⟨l0, l1, l2, l3, l4, l5, l6, l7, lb⟩ := iv_at (HE'.out.below hB.out) hy
        by_cases hxy : x = y
        · have HF2 := Lib.hid (ne_snoc hF.out hx hy hxy)
          subst hxy
          clear hx hy hF
          obtain ⟨xa, xb, xc, xd, xp, xq, xr, xs'⟩ := x
          simp only at *
          go_wp2_with fail
          go_quiet (fail)
          go_wp2
          go_roundw
          case rel => exact ⟨k + 1, by omega, by go_num, HF2, Lib.hid (below_drewN hB.out _)⟩
          case measure => simp [intOf]; omega
        · have hE := Lib.hid (show decide (xs = ys) = false from decide_eq_false fun h => hxy (by rw [h] at hx; rw [hx] at hy; cases hy; rfl))
          have hc := iv_ne hxy
          clear hx hy hF hxy
          obtain ⟨xa, xb, xc, xd, xp, xq, xr, xs'⟩ := x
          obtain ⟨ya, yb, yc, yd, yp, yq, yr, ys'⟩ := y
          simp only at *
          rcases hc with h1 | ⟨rfl, h1⟩ | ⟨rfl, rfl, h1⟩ | ⟨rfl, rfl, rfl, h1⟩ | ⟨rfl, rfl, rfl, rfl, h1⟩ | ⟨rfl, rfl, rfl, rfl, rfl, h1⟩ | ⟨rfl, rfl, rfl, rfl, rfl, rfl, h1⟩ | ⟨rfl, rfl, rfl, rfl, rfl, rfl, rfl, h1⟩
          all_goals
            go_wp2_with fail
            go_quiet (fail)
            go_wp2
            go_ret
            exact ⟨ret_bool hE.out.symm, below_drewN hB.out _⟩
      · have hki : (m : Int) ≤ (k : Int) := by omega
        have hE := Lib.hid (show decide (xs = ys) = true from decide_eq_true (by
          have := hF.out
          rwa [List.take_of_length_le (by rw [HN.out]; omega), List.take_of_length_le (by rw [← HN'.out]; omega)] at this))
        go_wp2
        go_ret
        exact ⟨ret_bool hE.out.symm, hB.out⟩
  · have hE := Lib.hid (show decide (xs = ys) = false from decide_eq_false fun h => hlen (by rw [h]))
    generalize xs.length = m at *
    generalize ys.length = m' at *
    have h1 : ((m : Int) != (m' : Int)) = true := by rw [bne_iff_ne]; omega
    clear h h' hlen
    go_enter Try.func52, Try.ntmps52
    go_wp2
    go_ret
    exact ⟨ret_bool hE.out.symm, Below.refl _ _⟩

theorem equal_any (sv tv : Value) (xs ys : List Iv) (w : World) (h : REls RIv w sv xs) (h' : REls RIv w tv ys) (hl : xs.length ≤ 1000000) :
    Calls Try.prog 22 #[sv, tv] w fun e w' => e = .returned (.bool (decide (xs = ys))) ∧ Below w.heap.size w w' := by
  have K := Lib.hid (sequal_any sv tv xs ys w h h' hl)
  obtain ⟨a1, c1, rfl⟩ := h.shape
  obtain ⟨a2, c2, rfl⟩ := h'.shape
  clear h h'
  generalize decide (xs = ys) = q at *
  generalize xs.length = n1 at *
  generalize ys.length = n2 at *
  go_enter Try.func22, Try.ntmps22
  go_wp2_with fail
  refine (K.out).mono ?_
  rintro e w1 ⟨rfl, hr⟩
  have H1 := Lib.hid hr
  clear hr
  go_wp2
  go_ret
  exact ⟨rfl, H1.out⟩

end Go.Proofs.Ytimbgjpjgbjnkaa

