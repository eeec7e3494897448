import Derived.Test.YtimbgjpjgbjnkaaPaPb
import Derived.Test.YtimbgjpjgbjnkaaSp6
import Derived.Test.YtimbgjpjgbjnkaaSwmSwm2
/- Contracts of the reference of span: Points. -/
namespace Go.Proofs.Ytimbgjpjgbjnkaa
open Go.RowKit Go.Shelf

/-- An interval's limits are among the points. -/
def Lims (x : Iv) (P : List (Int × Int)) : Prop := (x.r = false → (x.a, x.b) ∈ P) ∧ (x.s = false → (x.c, x.d) ∈ P)

theorem Lims.mono {x : Iv} {P Q : List (Int × Int)} (h : Lims x P) (hs : ∀ q ∈ P, q ∈ Q) : Lims x Q := ⟨fun hr => hs _ (h.1 hr), fun hr => hs _ (h.2 hr)⟩

/-- What Points leaves. -/
def PtsOut (xss : List (List Iv)) (w : World) (e : Ending) (w' : World) : Prop := ∃ P v, PtsOk P ∧ (∀ xs ∈ xss, ∀ x ∈ xs, Lims x P) ∧ P.length ≤ 200000 * xss.length ∧ e = .returned v ∧ PSl w' v P ∧ Below w.heap.size w w'

/-- The inner loop of Points. -/
def PtsIn (xss : List (List Iv)) (i k : Nat) (xs : List Iv) (w : World) (v : Value) (wr : World) : Prop := ∃ P, Hid (PtsOk P) ∧ Hid (∀ j ys, j < i → xss[j]? = some ys → ∀ x ∈ ys, Lims x P) ∧ Hid (∀ x ∈ xs.take k, Lims x P) ∧ P.length ≤ 200000 * i + 2 * k ∧ Hid (PSl wr v P) ∧ Hid (Below w.heap.size w wr)

/-- The outer loop of Points. -/
def PtsOu (xss : List (List Iv)) (i : Nat) (w : World) (v : Value) (wr : World) : Prop := ∃ P, Hid (PtsOk P) ∧ Hid (∀ j ys, j < i → xss[j]? = some ys → ∀ x ∈ ys, Lims x P) ∧ P.length ≤ 200000 * i ∧ Hid (PSl wr v P) ∧ Hid (Below w.heap.size w wr)

set_option maxHeartbeats 8000000 in
set_option maxRecDepth 100000 in
theorem points_any (sv : Value) (xss : List (List Iv)) (w : World) (h : LEls w sv xss) (hg : ∀ xs ∈ xss, ∀ x ∈ xs, x.good = true) (hl : ∀ xs ∈ xss, xs.length ≤ 100000) (hm : xss.length ≤ 10) :
    Calls Try.prog 32 #[sv] w (PtsOut xss w) := by
  obtain ⟨b, cap, rfl, hcap, hb, hat⟩ := h
  have HAT := Lib.hid hat
  have HG := Lib.hid hg
  have HL := Lib.hid hl
  generalize hm' : xss.length = m at *
  have HM := Lib.hid hm'
  clear hat hg hm' hl hcap hb
  go_enter Try.func32, Try.ntmps32
  go_wp2
  go_loopw [3, 4] (fun v x wr => ∃ i : Nat, i ≤ m ∧ x = .int .i64 i ∧ PtsOu xss i w v wr) (fun _ x _ => m - (intOf x).toNat)
  case atStart => exact ⟨0, by omega, rfl, [], PtsOk.nil, fun j ys hj => by omega, by simp, .inl ⟨rfl, rfl⟩, Below.refl _ _⟩
  case round =>
    obtain ⟨i, hi, rfl, P, hP, hF, hPl, hv, hB⟩ := hrel
    by_cases hlt : i < m
    · have hii : (i : Int) < m := by omega
      obtain ⟨xs, hx⟩ : ∃ xs, xss[i]? = some xs := ⟨xss[i]'(by rw [HM.out]; exact hlt), List.getElem?_eq_getElem _⟩
      obtain ⟨vi, hvi, hR⟩ := HAT.out i xs hx
      have hxm := List.mem_of_getElem? hx
      have HGX := Lib.hid (HG.out xs hxm)
      have hxl := HL.out xs hxm
      have HX := Lib.hid hx
      have HR := Lib.hid hR
      have HC := Lib.hid hvi
      obtain ⟨ai, ci, rfl⟩ := hR.shape
      generalize hl' : xs.length = l at *
      have HLN := Lib.hid hl'
      clear hx hxm hvi hR hl'
      have HS0 : Hid (PtsIn xss i 0 xs w u3 wr) := Lib.hid ⟨P, hP, hF, fun x hx => by simp at hx, by omega, hv, hB⟩
      have hci := Since.cell hB.out HC.out
      clear hP hF hPl hv hB
      go_wp2
      rename World => wo
      go_loopw [3, 5] (fun v x wr => ∃ k : Nat, k ≤ l ∧ x = .int .i64 k ∧ PtsIn xss i k xs w v wr) (fun _ x _ => l - (intOf x).toNat)
      case atStart => exact ⟨0, by omega, rfl, HS0.out⟩
      case round =>
        obtain ⟨k, hk, rfl, P, hP, hF, hF2, hPl, hv, hB⟩ := hrel
        clear HS0 hci
        have hci := Since.cell hB.out HC.out
        by_cases hlt2 : k < l
        · have hki : (k : Int) < l := by omega
          obtain ⟨x, hx⟩ : ∃ x, xs[k]? = some x := ⟨xs[k]'(by rw [HLN.out]; exact hlt2), List.getElem?_eq_getElem _⟩
          obtain ⟨b2, rfl, -⟩ := HR.out.get hlt2
          obtain ⟨g0, g1, g2, g3, g4, g5, g6, g7, hb2⟩ := iv_at (HR.out.below hB.out) hx
          have hgx := HGX.out x (List.mem_of_getElem? hx)
          have hlo := good_lo hgx
          have hhi := good_hi hgx
          have HXK := Lib.hid hx
          clear hx hgx
          obtain ⟨xa, xb, xc, xd, xp, xq, xr, xs'⟩ := x
          simp only at *
          have XX := Lib.hid (cell_new8 wr (.int .i64 xa) (.int .i64 xb) (.int .i64 xc) (.int .i64 xd) (.bool xp) (.bool xq) (.bool xr) (.bool xs') 27)
          have hV1 := Lib.hid (hv.out.below ((Below.refl _ wr).alloc (Nat.le_refl _) (.cells #[.int .i64 xa, .int .i64 xb, .int .i64 xc, .int .i64 xd, .bool xp, .bool xq, .bool xr, .bool xs'] 27)))
          have hB1 := Lib.hid (hB.out.alloc hB.out.size (.cells #[.int .i64 xa, .int .i64 xb, .int .i64 xc, .int .i64 xd, .bool xp, .bool xq, .bool xr, .bool xs'] 27))
          clear hv hB
          have HSN : Hid (∀ (Q : List (Int × Int)) (hQ : ∀ q ∈ P, q ∈ Q) (hL : Lims ⟨xa, xb, xc, xd, xp, xq, xr, xs'⟩ Q), (∀ j ys, j < i → xss[j]? = some ys → ∀ x ∈ ys, Lims x Q) ∧ ∀ x ∈ xs.take (k + 1), Lims x Q) := fun Q hQ hL => ⟨fun j ys hj hy x hx => (hF.out j ys hj hy x hx).mono hQ, fun x hx => by
            rw [List.take_add_one, HXK.out, List.mem_append] at hx
            rcases hx with hx | hx
            · exact (hF2.out x hx).mono hQ
            · simp at hx
              rw [hx]
              exact hL⟩
          have hPm : P.length ≤ 2000000 := by omega
          rcases hlo with ⟨rfl, -⟩ | ⟨rfl, hsa, -⟩ <;> rcases hhi with ⟨rfl, -⟩ | ⟨rfl, hsc, -⟩
          · have HN1 := Lib.hid (HSN.out P (fun q h => h) ⟨fun h => (by cases h), fun h => (by cases h)⟩)
            go_wp2
            go_roundw
            case rel => exact ⟨k + 1, by omega, by go_num, P, hP, Lib.hid HN1.out.1, Lib.hid HN1.out.2, by omega, hV1, hB1⟩
            case measure => simp [intOf]; omega
          · have kp := Lib.hid fun (v : Value) (Q : List (Int × Int)) W (h1 : PSl W v Q) (h2 : PtsOk Q) (h3 : Q.length ≤ 10000000) => put_any v Q xc xd W h1 h2 hsc h3
            unfold rv at kp
            clear hsc
            go_wp2_with fail
            refine (kp.out _ P _ hV1.out hP.out (by omega)).mono ?_
            rintro e w2 ⟨Q, v2, hQ, hQm, hQl, rfl, hv2, hB2⟩
            have HN1 := Lib.hid (HSN.out Q (fun q h => (hQm q).2 (.inl h)) ⟨fun h => (by cases h), fun _ => (hQm _).2 (.inr rfl)⟩)
            have HQ := Lib.hid hQ
            have HV2 := Lib.hid hv2
            have HB2 := Lib.hid (hB1.out.trans (hB2.mono hB1.out.size))
            clear hQ hQm hv2 hB2
            go_wp2
            go_roundw
            case rel => exact ⟨k + 1, by omega, by go_num, Q, HQ, Lib.hid HN1.out.1, Lib.hid HN1.out.2, by omega, HV2, HB2⟩
            case measure => simp [intOf]; omega
          · have kp := Lib.hid fun (v : Value) (Q : List (Int × Int)) W (h1 : PSl W v Q) (h2 : PtsOk Q) (h3 : Q.length ≤ 10000000) => put_any v Q xa xb W h1 h2 hsa h3
            unfold rv at kp
            clear hsa
            go_wp2_with fail
            refine (kp.out _ P _ hV1.out hP.out (by omega)).mono ?_
            rintro e w2 ⟨Q, v2, hQ, hQm, hQl, rfl, hv2, hB2⟩
            have HN1 := Lib.hid (HSN.out Q (fun q h => (hQm q).2 (.inl h)) ⟨fun _ => (hQm _).2 (.inr rfl), fun h => (by cases h)⟩)
            have HQ := Lib.hid hQ
            have HV2 := Lib.hid hv2
            have HB2 := Lib.hid (hB1.out.trans (hB2.mono hB1.out.size))
            obtain ⟨a0, a1, a2, a3, a4, a5, a6, a7, a8⟩ := (XX.out.keep hB2).open8
            clear hQ hQm hv2 hB2
            go_wp2
            go_roundw
            case rel => exact ⟨k + 1, by omega, by go_num, Q, HQ, Lib.hid HN1.out.1, Lib.hid HN1.out.2, by omega, HV2, HB2⟩
            case measure => simp [intOf]; omega
          · have kp := Lib.hid fun (v : Value) (Q : List (Int × Int)) W (h1 : PSl W v Q) (h2 : PtsOk Q) (h3 : Q.length ≤ 10000000) => put_any v Q xa xb W h1 h2 hsa h3
            have kp2 := Lib.hid fun (v : Value) (Q : List (Int × Int)) W (h1 : PSl W v Q) (h2 : PtsOk Q) (h3 : Q.length ≤ 10000000) => put_any v Q xc xd W h1 h2 hsc h3
            unfold rv at kp kp2
            clear hsa hsc
            go_wp2_with fail
            refine (kp.out _ P _ hV1.out hP.out (by omega)).mono ?_
            rintro e w2 ⟨Q, v2, hQ, hQm, hQl, rfl, hv2, hB2⟩
            have HQ := Lib.hid hQ
            have HQM := Lib.hid hQm
            have HV2 := Lib.hid hv2
            have HB2 := Lib.hid (hB1.out.trans (hB2.mono hB1.out.size))
            obtain ⟨a0, a1, a2, a3, a4, a5, a6, a7, a8⟩ := (XX.out.keep hB2).open8
            clear hQ hQm hv2 hB2
            go_wp2_with fail
            refine (kp2.out _ _ _ HV2.out HQ.out (by omega)).mono ?_
            rintro e w3 ⟨Q', v3, hQ', hQm', hQl', rfl, hv3, hB3⟩
            have HN1 := Lib.hid (HSN.out Q' (fun q h => (hQm' q).2 (.inl ((HQM.out q).2 (.inl h)))) ⟨fun _ => (hQm' _).2 (.inl ((HQM.out _).2 (.inr rfl))), fun _ => (hQm' _).2 (.inr rfl)⟩)
            have HQ' := Lib.hid hQ'
            have HV3 := Lib.hid hv3
            have HB3 := Lib.hid (HB2.out.trans (hB3.mono HB2.out.size))
            clear hQ' hQm' hv3 hB3 a0 a1 a2 a3 a4 a5 a6 a7 a8
            go_wp2
            go_roundw
            case rel => exact ⟨k + 1, by omega, by go_num, Q', HQ', Lib.hid HN1.out.1, Lib.hid HN1.out.2, by omega, HV3, HB3⟩
            case measure => simp [intOf]; omega
        · have hki : (l : Int) ≤ (k : Int) := by omega
          have HFN : Hid (∀ j ys, j < i + 1 → xss[j]? = some ys → ∀ x ∈ ys, Lims x P) := fun j ys hj hy x hxx => by
            by_cases hji : j < i
            · exact hF.out j ys hji hy x hxx
            · have : j = i := by omega
              subst this
              rw [HX.out] at hy
              cases hy
              have := hF2.out
              rw [List.take_of_length_le (by rw [HLN.out]; omega)] at this
              exact this x hxx
          go_wp2
          go_roundw
          case rel => exact ⟨i + 1, by omega, by go_num, P, hP, HFN, by omega, hv, hB⟩
          case measure => simp [intOf]; omega
    · have hki : (m : Int) ≤ (i : Int) := by omega
      have HFN : Hid (∀ xs ∈ xss, ∀ x ∈ xs, Lims x P) := fun xs hxs x hx => by
        obtain ⟨j, hj⟩ := List.getElem?_of_mem hxs
        exact hF.out j xs (by have := (List.getElem?_eq_some_iff.1 hj).1; have := HM.out; omega) hj x hx
      go_wp2
      go_ret
      exact ⟨P, _, hP.out, HFN.out, by rw [HM.out]; omega, rfl, hv.out, hB.out⟩

end Go.Proofs.Ytimbgjpjgbjnkaa

/- Mathematics of the cells between points. -/
namespace Go.Proofs.Ytimbgjpjgbjnkaa
open Go.RowKit Go.Shelf

/-- The cut where a cell begins. -/
def cutAt (P : List (Int × Int)) (c : Nat) : Cut := if c = 0 then lowC else match P[(c - 1) / 2]? with | some p => ⟨p.1, p.2, c % 2 == 0⟩ | none => highC

noncomputable def loC (P : List (Int × Int)) (c : Nat) : Int := (cutAt P c).key

theorem cutAt_zero (P : List (Int × Int)) : cutAt P 0 = lowC := rfl

theorem cutAt_odd {P : List (Int × Int)} {j : Nat} {p : Int × Int} (h : P[j]? = some p) : cutAt P (2 * j + 1) = ⟨p.1, p.2, false⟩ := by
  unfold cutAt
  rw [if_neg (by omega), show (2 * j + 1 - 1) / 2 = j by omega, h]
  have : ((2 * j + 1) % 2 == 0) = false := by rw [beq_eq_false_iff_ne]; omega
  simp only [this]

theorem cutAt_even {P : List (Int × Int)} {j : Nat} {p : Int × Int} (h : P[j]? = some p) : cutAt P (2 * j + 2) = ⟨p.1, p.2, true⟩ := by
  unfold cutAt
  rw [if_neg (by omega), show (2 * j + 2 - 1) / 2 = j by omega, h]
  have : ((2 * j + 2) % 2 == 0) = true := by rw [beq_iff_eq]; omega
  simp only [this]

theorem cutAt_end (P : List (Int × Int)) : cutAt P (2 * P.length + 1) = highC := by
  unfold cutAt
  rw [if_neg (by omega), show (2 * P.length + 1 - 1) / 2 = P.length by omega, List.getElem?_eq_none (Nat.le_refl _)]

theorem cutAt_cases (P : List (Int × Int)) (c : Nat) (hc : c ≤ 2 * P.length + 1) : (c = 0 ∧ cutAt P c = lowC) ∨ (∃ j p, c = 2 * j + 1 ∧ P[j]? = some p ∧ cutAt P c = ⟨p.1, p.2, false⟩) ∨ (∃ j p, c = 2 * j + 2 ∧ P[j]? = some p ∧ cutAt P c = ⟨p.1, p.2, true⟩) ∨ (c = 2 * P.length + 1 ∧ cutAt P c = highC) := by
  by_cases h0 : c = 0
  · exact .inl ⟨h0, by rw [h0]; rfl⟩
  · by_cases hh : (c - 1) / 2 < P.length
    · have hp : P[(c - 1) / 2]? = some P[(c - 1) / 2] := List.getElem?_eq_getElem hh
      by_cases ho : c % 2 = 1
      · refine .inr (.inl ⟨(c - 1) / 2, _, by omega, hp, ?_⟩)
        have := cutAt_odd hp
        rw [show 2 * ((c - 1) / 2) + 1 = c by omega] at this
        exact this
      · refine .inr (.inr (.inl ⟨(c - 1) / 2, _, by omega, hp, ?_⟩))
        have := cutAt_even hp
        rw [show 2 * ((c - 1) / 2) + 2 = c by omega] at this
        exact this
    · have : c = 2 * P.length + 1 := by omega
      exact .inr (.inr (.inr ⟨this, by rw [this]; exact cutAt_end P⟩))

theorem cutAt_any {P : List (Int × Int)} (h : PtsOk P) {c : Nat} (hc : c ≤ 2 * P.length + 1) : AnyC (cutAt P c) := by
  rcases cutAt_cases P c hc with ⟨_, e⟩ | ⟨j, p, _, hp, e⟩ | ⟨j, p, _, hp, e⟩ | ⟨_, e⟩
  · rw [e]; exact .inl rfl
  · rw [e]; exact .inr (.inr (h.1 p (List.mem_of_getElem? hp)))
  · rw [e]; exact .inr (.inr (h.1 p (List.mem_of_getElem? hp)))
  · rw [e]; exact .inr (.inl rfl)

theorem cutAt_from {P : List (Int × Int)} (h : PtsOk P) {c : Nat} (hc : c ≤ 2 * P.length) : FromC (cutAt P c) := by
  rcases cutAt_cases P c (by omega) with ⟨_, e⟩ | ⟨j, p, _, hp, e⟩ | ⟨j, p, _, hp, e⟩ | ⟨hh, e⟩
  · rw [e]; exact .inl rfl
  · rw [e]; exact .inr (h.1 p (List.mem_of_getElem? hp))
  · rw [e]; exact .inr (h.1 p (List.mem_of_getElem? hp))
  · omega

theorem cutAt_to {P : List (Int × Int)} (h : PtsOk P) {c : Nat} (h0 : 0 < c) (hc : c ≤ 2 * P.length + 1) : ToC (cutAt P c) := by
  rcases cutAt_cases P c hc with ⟨_, e⟩ | ⟨j, p, _, hp, e⟩ | ⟨j, p, _, hp, e⟩ | ⟨hh, e⟩
  · omega
  · rw [e]; exact .inr (h.1 p (List.mem_of_getElem? hp))
  · rw [e]; exact .inr (h.1 p (List.mem_of_getElem? hp))
  · rw [e]; exact .inl rfl

theorem loC_odd {P : List (Int × Int)} {j : Nat} {p : Int × Int} (h : P[j]? = some p) : loC P (2 * j + 1) = 2 * kP p := by
  unfold loC
  rw [cutAt_odd h]
  unfold Cut.key kP
  simp

theorem loC_even {P : List (Int × Int)} {j : Nat} {p : Int × Int} (h : P[j]? = some p) : loC P (2 * j + 2) = 2 * kP p + 1 := by
  unfold loC
  rw [cutAt_even h]
  unfold Cut.key kP
  simp

theorem pts_lt {P : List (Int × Int)} (h : PtsOk P) {i j : Nat} {p q : Int × Int} (hij : i < j) (hp : P[i]? = some p) (hq : P[j]? = some q) : kP p < kP q := by
  have := List.pairwise_iff_getElem.1 h.2 i j (List.getElem?_eq_some_iff.1 hp).1 (List.getElem?_eq_some_iff.1 hq).1 hij
  rw [(List.getElem?_eq_some_iff.1 hp).2, (List.getElem?_eq_some_iff.1 hq).2] at this
  exact this

theorem loC_step {P : List (Int × Int)} (h : PtsOk P) {c : Nat} (hc : c ≤ 2 * P.length) : loC P c < loC P (c + 1) := by
  rcases cutAt_cases P c (by omega) with ⟨rfl, e⟩ | ⟨j, p, rfl, hp, e⟩ | ⟨j, p, rfl, hp, e⟩ | ⟨hh, e⟩
  · have h1 := cutAt_to h (c := 1) (by omega) (by omega)
    show lowC.key < (cutAt P 1).key
    rcases h1 with h1 | h1
    · rw [h1]; exact low_high
    · exact (key_small h1).1
  · rw [loC_odd hp, show 2 * j + 1 + 1 = 2 * j + 2 from rfl, loC_even hp]
    omega
  · rw [loC_even hp]
    by_cases hn : j + 1 < P.length
    · have hq : P[j + 1]? = some P[j + 1] := List.getElem?_eq_getElem hn
      have := pts_lt h (by omega) hp hq
      rw [show 2 * j + 2 + 1 = 2 * (j + 1) + 1 by omega, loC_odd hq]
      omega
    · have hl : 2 * j + 2 + 1 = 2 * P.length + 1 := by have := (List.getElem?_eq_some_iff.1 hp).1; omega
      have hs := key_small (c := ⟨p.1, p.2, true⟩) (h.1 p (List.mem_of_getElem? hp))
      have he : loC P (2 * j + 2) = Cut.key ⟨p.1, p.2, true⟩ := by unfold loC; rw [cutAt_even hp]
      rw [loC_even hp] at he
      rw [he, hl]
      unfold loC
      rw [cutAt_end]
      exact hs.2
  · omega

theorem loC_mono {P : List (Int × Int)} (h : PtsOk P) {c d : Nat} (hcd : c < d) (hd : d ≤ 2 * P.length + 1) : loC P c < loC P d := by
  induction d with
  | zero => omega
  | succ d ih =>
    have h1 := loC_step h (c := d) (by omega)
    by_cases e : c = d
    · rw [e]; exact h1
    · have := ih (by omega) (by omega)
      omega

theorem loC_le {P : List (Int × Int)} (h : PtsOk P) {c d : Nat} (hcd : c ≤ d) (hd : d ≤ 2 * P.length + 1) : loC P c ≤ loC P d := by
  by_cases e : c = d
  · rw [e]; exact Int.le_refl _
  · have := loC_mono h (c := c) (d := d) (by omega) hd; omega

theorem loC_zero (P : List (Int × Int)) : loC P 0 = lowC.key := rfl
theorem loC_end (P : List (Int × Int)) : loC P (2 * P.length + 1) = highC.key := by unfold loC; rw [cutAt_end]

/-- Each number between is in a cell. -/
theorem cell_of {P : List (Int × Int)} {κ : Int} : ∀ c, loC P 0 ≤ κ → κ < loC P c → ∃ d, d < c ∧ loC P d ≤ κ ∧ κ < loC P (d + 1)
  | 0, h1, h2 => by omega
  | c + 1, h1, h2 => by
    by_cases h : loC P c ≤ κ
    · exact ⟨c, by omega, h, h2⟩
    · obtain ⟨d, hd, h3⟩ := cell_of c h1 (by omega)
      exact ⟨d, by omega, h3⟩

/-- An interval's ends are where cells begin. -/
theorem lims_from {P : List (Int × Int)} {x : Iv} (hx : x.good = true) (hl : Lims x P) : ∃ c, c ≤ 2 * P.length ∧ x.from.key = loC P c := by
  rcases good_lo hx with ⟨_, e⟩ | ⟨e1, _, e⟩
  · exact ⟨0, by omega, by rw [e]; rfl⟩
  · obtain ⟨j, hj⟩ := List.getElem?_of_mem (hl.1 e1)
    have hjl := (List.getElem?_eq_some_iff.1 hj).1
    cases hp : x.p
    · exact ⟨2 * j + 1, by omega, by rw [e, hp]; unfold loC; rw [cutAt_odd hj]⟩
    · exact ⟨2 * j + 2, by omega, by rw [e, hp]; unfold loC; rw [cutAt_even hj]⟩

theorem lims_to {P : List (Int × Int)} {x : Iv} (hx : x.good = true) (hl : Lims x P) : ∃ c, 0 < c ∧ c ≤ 2 * P.length + 1 ∧ x.to.key = loC P c := by
  rcases good_hi hx with ⟨_, e⟩ | ⟨e1, _, e⟩
  · exact ⟨2 * P.length + 1, by omega, by omega, by rw [e, loC_end]⟩
  · obtain ⟨j, hj⟩ := List.getElem?_of_mem (hl.2 e1)
    have hjl := (List.getElem?_eq_some_iff.1 hj).1
    cases hp : x.q
    · exact ⟨2 * j + 2, by omega, by omega, by rw [e, hp]; unfold loC; rw [cutAt_even hj]; rfl⟩
    · exact ⟨2 * j + 1, by omega, by omega, by rw [e, hp]; unfold loC; rw [cutAt_odd hj]; rfl⟩

/-- Whether an interval has a cell. -/
noncomputable def covB (x : Iv) (P : List (Int × Int)) (c : Nat) : Bool := decide (x.from.key ≤ loC P c) && decide (loC P c < x.to.key)

/-- In a cell an interval has all or none. -/
theorem cov_cell {P : List (Int × Int)} (h : PtsOk P) {x : Iv} (hx : x.good = true) (hl : Lims x P) {c : Nat} {κ : Int} (hc : c ≤ 2 * P.length) (h1 : loC P c ≤ κ) (h2 : κ < loC P (c + 1)) : (x.from.key ≤ κ ∧ κ < x.to.key) ↔ covB x P c = true := by
  obtain ⟨i, hi, e1⟩ := lims_from hx hl
  obtain ⟨j, hj0, hj, e2⟩ := lims_to hx hl
  unfold covB
  rw [Bool.and_eq_true, decide_eq_true_eq, decide_eq_true_eq, e1, e2]
  constructor
  · rintro ⟨a1, a2⟩
    refine ⟨?_, by omega⟩
    by_cases hic : i ≤ c
    · exact loC_le h hic (by omega)
    · have := loC_le h (c := c + 1) (d := i) (by omega) (by omega)
      omega
  · rintro ⟨a1, a2⟩
    refine ⟨by omega, ?_⟩
    by_cases hjc : j ≤ c
    · have := loC_le h hjc (by omega)
      omega
    · have := loC_le h (c := c + 1) (d := j) (by omega) hj
      omega

/-- The cells of a list. -/
noncomputable def cellsB (xs : List Iv) (P : List (Int × Int)) : List Bool := (List.range (2 * P.length + 1)).map fun c => xs.any fun x => covB x P c

theorem cells_in {P : List (Int × Int)} (h : PtsOk P) {xs : List Iv} (hx : ∀ x ∈ xs, x.good = true) (hl : ∀ x ∈ xs, Lims x P) {c : Nat} {κ : Int} (hc : c ≤ 2 * P.length) (h1 : loC P c ≤ κ) (h2 : κ < loC P (c + 1)) : inL xs κ ↔ (xs.any fun x => covB x P c) = true := by
  rw [List.any_eq_true]
  constructor
  · rintro ⟨x, hm, hk⟩
    exact ⟨x, hm, (cov_cell h (hx x hm) (hl x hm) hc h1 h2).1 hk⟩
  · rintro ⟨x, hm, hk⟩
    exact ⟨x, hm, (cov_cell h (hx x hm) (hl x hm) hc h1 h2).2 hk⟩

/-- What covers says, as it says it, of a point. -/
theorem cov_odd {P : List (Int × Int)} {x : Iv} (hx : x.good = true) {j : Nat} {p : Int × Int} (hp : P[j]? = some p) : hasI p.1 p.2 x = covB x P (2 * j + 1) := by
  unfold hasI covB
  rw [hx, Bool.true_and, loC_odd hp]
  unfold kP
  congr 1

/-- What covers says, as it says it, of what lies between points. -/
theorem cov_even {P : List (Int × Int)} (h : PtsOk P) {x : Iv} (hx : x.good = true) (hl : Lims x P) {j : Nat} (hj : j ≤ P.length) :
    decide (x.from.key ≤ loC P (2 * j)) = (x.r || (decide (1 ≤ j) && !decide (kP (P[j - 1]?.getD (0, 1)) < kR x.a x.b))) ∧ decide (loC P (2 * j) < x.to.key) = (x.s || (decide (j < P.length) && !decide (kR x.c x.d < kP (P[j]?.getD (0, 1))))) := by
  constructor
  · rcases good_lo hx with ⟨e1, e⟩ | ⟨e1, hs, e⟩
    · rw [e1, Bool.true_or, e]
      exact decide_eq_true (loC_le h (c := 0) (d := 2 * j) (Nat.zero_le _) (by omega))
    · rw [e1, Bool.false_or, e]
      by_cases h1 : 1 ≤ j
      · obtain ⟨i, rfl⟩ : ∃ i, j = i + 1 := ⟨j - 1, by omega⟩
        have hp : P[i]? = some P[i] := List.getElem?_eq_getElem (by omega)
        rw [decide_eq_true h1, Bool.true_and, show i + 1 - 1 = i from rfl, hp, show 2 * (i + 1) = 2 * i + 2 by omega, loC_even hp, Option.getD_some]
        unfold Cut.key kP
        simp only
        by_cases h2 : kR P[i].1 P[i].2 < kR x.a x.b
        · rw [decide_eq_true h2]
          apply decide_eq_false
          cases x.p <;> simp <;> omega
        · rw [decide_eq_false h2]
          apply decide_eq_true
          cases x.p <;> simp <;> omega
      · rw [decide_eq_false h1, Bool.false_and, show j = 0 by omega]
        apply decide_eq_false
        have := (small_keys x.p hs).1
        show ¬ _ ≤ lowC.key
        omega
  · rcases good_hi hx with ⟨e1, e⟩ | ⟨e1, hs, e⟩
    · rw [e1, Bool.true_or, e]
      have := loC_mono h (c := 2 * j) (d := 2 * P.length + 1) (by omega) (Nat.le_refl _)
      rw [loC_end] at this
      exact decide_eq_true this
    · rw [e1, Bool.false_or, e]
      obtain ⟨i, hi⟩ := List.getElem?_of_mem (hl.2 e1)
      have hil := (List.getElem?_eq_some_iff.1 hi).1
      have hkey : Cut.key ⟨x.c, x.d, !x.q⟩ = 2 * kR x.c x.d + if x.q then 0 else 1 := by unfold Cut.key; cases x.q <;> rfl
      rw [hkey]
      by_cases h1 : j < P.length
      · have hp : P[j]? = some P[j] := List.getElem?_eq_getElem h1
        rw [decide_eq_true h1, Bool.true_and, hp, Option.getD_some]
        have hki : kP (x.c, x.d) = kR x.c x.d := rfl
        by_cases h2 : kR x.c x.d < kP P[j]
        · rw [decide_eq_true h2]
          apply decide_eq_false
          have hij : i < j := by
            apply Classical.byContradiction
            intro hn
            by_cases e : i = j
            · rw [e, hp] at hi
              have h4 := Option.some.inj hi
              rw [h4, hki] at h2
              omega
            · have := pts_lt h (show j < i by omega) hp hi
              omega
          have h3 := loC_le h (c := 2 * i + 2) (d := 2 * j) (by omega) (by omega)
          rw [loC_even hi, hki] at h3
          cases x.q <;> simp <;> omega
        · rw [decide_eq_false h2]
          apply decide_eq_true
          have h3 := loC_mono h (c := 2 * j) (d := 2 * j + 1) (by omega) (by omega)
          rw [loC_odd hp] at h3
          cases x.q <;> simp <;> omega
      · rw [decide_eq_false h1, Bool.false_and, show j = P.length by omega]
        apply decide_eq_false
        have h3 := loC_le h (c := 2 * i + 2) (d := 2 * P.length) (by omega) (by omega)
        rw [loC_even hi] at h3
        have : kP (x.c, x.d) = kR x.c x.d := rfl
        cases x.q <;> simp <;> omega

end Go.Proofs.Ytimbgjpjgbjnkaa

/- Contracts of the reference of span: covers. -/
namespace Go.Proofs.Ytimbgjpjgbjnkaa
open Go.RowKit Go.Shelf

set_option maxHeartbeats 8000000 in
set_option maxRecDepth 100000 in
theorem covers_odd (x : Iv) (P : List (Int × Int)) (j : Nat) (z : Int) (sv : Value) (w : World) (hz : z = 2 * (j : Int) + 1) (hx : x.good = true) (hP : PtsOk P) (hj : j < P.length) (h : PSl w sv P) (hl : P.length ≤ 10000000) :
    Calls Try.prog 89 #[x.v, sv, .int .i64 z] w fun e w' => e = .returned (.bool (covB x P (2 * j + 1))) ∧ Below w.heap.size w w' := by
  obtain ⟨p, hp⟩ : ∃ p, P[j]? = some p := ⟨P[j], List.getElem?_eq_getElem hj⟩
  rw [← cov_odd hx hp]
  have ki := Lib.hid fun W => in_any x p.1 p.2 W hx (hP.1 p (List.mem_of_getElem? hp)).1
  obtain ⟨a, cap, rfl⟩ := h.shape
  generalize hn : P.length = n at *
  obtain ⟨b, rfl, -⟩ := h.els.get hj
  obtain ⟨p0, p1, hb⟩ := rat_at h.els hp
  have h1 : (z == 0) = false := by rw [beq_eq_false_iff_ne]; omega
  have h2 : z % 2 = 1 := by omega
  have h3 : z.tmod 2 = 1 := by rw [Int.tmod_eq_emod_of_nonneg (by omega)]; exact h2
  have h4 : z.tdiv 2 = (j : Int) := by rw [Int.tdiv_eq_ediv_of_nonneg (by omega)]; omega
  have h5 : z / 2 = (j : Int) := by omega
  have hz0 : 0 ≤ z := by omega
  have hz1 : z ≤ 100000000 := by omega
  have hji : (j : Int) < n := by omega
  have h6 : IntKind.i64.wrap (j : Int) = (j : Int) := IntWalk.i64_in _ (by omega)
  have h7 : IntKind.i64.wrap (z.tdiv 2) = (j : Int) := by rw [h4]; exact h6
  have h8 : IntKind.i64.wrap (z / 2) = (j : Int) := by rw [h5]; exact h6
  generalize hasI p.1 p.2 x = G at *
  obtain ⟨pn, pd⟩ := p
  obtain ⟨xa, xb, xc, xd, xp, xq, xr, xs'⟩ := x
  unfold Iv.v rv at *
  simp only at *
  have XX := Lib.hid (cell_new8 w (.int .i64 xa) (.int .i64 xb) (.int .i64 xc) (.int .i64 xd) (.bool xp) (.bool xq) (.bool xr) (.bool xs') 27)
  have HB0 := Lib.hid ((Below.refl w.heap.size w).alloc (Nat.le_refl _) (.cells #[.int .i64 xa, .int .i64 xb, .int .i64 xc, .int .i64 xd, .bool xp, .bool xq, .bool xr, .bool xs'] 27))
  have HP0 := Lib.hid (Since.cell (wb := w) HB0.out p0)
  have HP1 := Lib.hid (Since.cell (wb := w) HB0.out p1)
  clear hz hx hP hp h hn p0 p1 h1
  go_enter Try.func89, Try.ntmps89
  go_upto_region 2 with (fail)
  generalize w.alloc (.cells #[.int .i64 xa, .int .i64 xb, .int .i64 xc, .int .i64 xd, .bool xp, .bool xq, .bool xr, .bool xs'] 27) = W1 at *
  obtain ⟨x0, x1, x2, x3, x4, x5, x6, x7, x8⟩ := XX.out.open8
  have q0 := HP0.out
  have q1 := HP1.out
  have hS0 : Since W1 W1 := Below.refl _ _
  have hSd : Since W1 W1.drew := Below.drew hS0
  go_region_held3 (fun w' => w'.cell? ⟨w.heap.size, 0, none⟩ = some (.int .i64 xa) ∧ w'.cell? ⟨w.heap.size, 1, none⟩ = some (.int .i64 xb) ∧ w'.cell? ⟨w.heap.size, 2, none⟩ = some (.int .i64 xc) ∧ w'.cell? ⟨w.heap.size, 3, none⟩ = some (.int .i64 xd)
      ∧ w'.cell? ⟨w.heap.size, 4, none⟩ = some (.bool xp) ∧ w'.cell? ⟨w.heap.size, 5, none⟩ = some (.bool xq) ∧ w'.cell? ⟨w.heap.size, 6, none⟩ = some (.bool xr) ∧ w'.cell? ⟨w.heap.size, 7, none⟩ = some (.bool xs')
      ∧ w'.cell? ⟨b, j * 2, none⟩ = some (.int .i64 pn) ∧ w'.cell? ⟨b, j * 2 + 1, none⟩ = some (.int .i64 pd) ∧ Since W1 w')
    (first | exact ⟨x0, x1, x2, x3, x4, x5, x6, x7, q0, q1, hSd⟩ | exact ⟨Since.cell hB2 x0, Since.cell hB2 x1, Since.cell hB2 x2, Since.cell hB2 x3, Since.cell hB2 x4, Since.cell hB2 x5, Since.cell hB2 x6, Since.cell hB2 x7, Since.cell hB2 q0, Since.cell hB2 q1, hB2⟩)
    ((go_at_call 57; refine (ki.out _).mono ?_; rintro e w' ⟨rfl, hr⟩; have hB2 := Since.step hSd hr; clear hr))
  have HBB := Lib.hid (HB0.out.trans (Below.mono hB2 HB0.out.size))
  go_wp2
  go_ret
  exact ⟨rfl, HBB.out⟩

/-- The three ways of one side of covers. -/
def Side (r : Bool) (c : Bool) (L B : Bool) : Prop := (r = true ∧ B = true) ∨ (r = false ∧ c = false ∧ B = false) ∨ (r = false ∧ c = true ∧ B = !L)

theorem side_of (r c L : Bool) : Side r c L (r || (c && !L)) := by cases r <;> cases c <;> cases L <;> simp [Side]

set_option maxHeartbeats 8000000 in
set_option maxRecDepth 100000 in
theorem covers_even (x : Iv) (P : List (Int × Int)) (j : Nat) (z : Int) (sv : Value) (w : World) (hz : z = 2 * (j : Int)) (hx : x.good = true) (hP : PtsOk P) (hlx : Lims x P) (hj : j ≤ P.length) (h : PSl w sv P) (hl : P.length ≤ 10000000) :
    Calls Try.prog 89 #[x.v, sv, .int .i64 z] w fun e w' => e = .returned (.bool (covB x P (2 * j))) ∧ Below w.heap.size w w' := by
  have hcov := cov_even hP hx hlx hj
  unfold covB
  rw [hcov.1, hcov.2]
  have hs1 := side_of x.r (decide (1 ≤ j)) (decide (kP (P[j - 1]?.getD (0, 1)) < kR x.a x.b))
  have hs2 := side_of x.s (decide (j < P.length)) (decide (kR x.c x.d < kP (P[j]?.getD (0, 1))))
  generalize (x.r || (decide (1 ≤ j) && !decide (kP (P[j - 1]?.getD (0, 1)) < kR x.a x.b))) = B1 at *
  generalize (x.s || (decide (j < P.length) && !decide (kR x.c x.d < kP (P[j]?.getD (0, 1))))) = B2 at *
  have k1 : ∀ (hr : x.r = false) (h1 : 1 ≤ j), ∃ p : Int × Int, P[j - 1]? = some p ∧ ∀ W, Calls Try.prog 84 #[rv p.1 p.2, rv x.a x.b] W fun e w' => e = .returned (.bool (decide (kP (P[j - 1]?.getD (0, 1)) < kR x.a x.b))) ∧ Below W.heap.size W w' := fun hr h1 => by
    have hp : P[j - 1]? = some P[j - 1] := List.getElem?_eq_getElem (by omega)
    have o1 := (hP.1 _ (List.mem_of_getElem? hp)).1
    have o2 : Qm.Ok x.a x.b := by rcases good_lo hx with ⟨e, _⟩ | ⟨_, h, _⟩; (· rw [hr] at e; cases e); (· exact h.1)
    refine ⟨_, hp, fun W => (less_any _ _ _ _ W o1 o2).mono fun e w' hh => ⟨hh.1.trans (ret_bool ?_), hh.2⟩⟩
    rw [hp, Option.getD_some]
    exact decide_eq_decide.2 (kR_lt o1.1 o1.2.1 o2.1 o2.2.1).symm
  have k2 : ∀ (hr : x.s = false) (h1 : j < P.length), ∃ p : Int × Int, P[j]? = some p ∧ ∀ W, Calls Try.prog 84 #[rv x.c x.d, rv p.1 p.2] W fun e w' => e = .returned (.bool (decide (kR x.c x.d < kP (P[j]?.getD (0, 1))))) ∧ Below W.heap.size W w' := fun hr h1 => by
    have hp : P[j]? = some P[j] := List.getElem?_eq_getElem h1
    have o1 := (hP.1 _ (List.mem_of_getElem? hp)).1
    have o2 : Qm.Ok x.c x.d := by rcases good_hi hx with ⟨e, _⟩ | ⟨_, h, _⟩; (· rw [hr] at e; cases e); (· exact h.1)
    refine ⟨_, hp, fun W => (less_any _ _ _ _ W o2 o1).mono fun e w' hh => ⟨hh.1.trans (ret_bool ?_), hh.2⟩⟩
    rw [hp, Option.getD_some]
    exact decide_eq_decide.2 (kR_lt o2.1 o2.2.1 o1.1 o1.2.1).symm
  have K1 := Lib.hid k1
  have K2 := Lib.hid k2
  have HS1 := Lib.hid hs1
  have HS2 := Lib.hid hs2
  obtain ⟨a, cap, rfl⟩ := h.shape
  have HE := Lib.hid h.els
  generalize hn : P.length = n at *
  have h1 : (z % 2 == 1) = false := by rw [beq_eq_false_iff_ne]; omega
  have h2 : z % 2 = 0 := by omega
  have h5 : z / 2 = (j : Int) := by omega
  have hz0 : 0 ≤ z := by omega
  have hz1 : z ≤ 100000000 := by omega
  have hjn : (j : Int) ≤ n := by omega
  clear hcov hs1 hs2 k1 k2 h hn hx hP hlx hz
  obtain ⟨xa, xb, xc, xd, xp, xq, xr, xs'⟩ := x
  unfold Iv.v rv at *
  simp only at *
  have XX := Lib.hid (cell_new8 w (.int .i64 xa) (.int .i64 xb) (.int .i64 xc) (.int .i64 xd) (.bool xp) (.bool xq) (.bool xr) (.bool xs') 27)
  have HB0 := Lib.hid ((Below.refl w.heap.size w).alloc (Nat.le_refl _) (.cells #[.int .i64 xa, .int .i64 xb, .int .i64 xc, .int .i64 xd, .bool xp, .bool xq, .bool xr, .bool xs'] 27))
  have HE1 := Lib.hid (HE.out.below HB0.out)
  go_enter Try.func89, Try.ntmps89
  go_upto_region 5 with (fail)
  generalize w.alloc (.cells #[.int .i64 xa, .int .i64 xb, .int .i64 xc, .int .i64 xd, .bool xp, .bool xq, .bool xr, .bool xs'] 27) = W1 at *
  obtain ⟨x0, x1, x2, x3, x4, x5, x6, x7, x8⟩ := XX.out.open8
  have hS0 : Since W1 W1 := Below.refl _ _
  have hSd : Since W1 W1.drew := Below.drew hS0
  go_cut [9] (fun v wx => v = .bool B1 ∧ Hid (Since W1 wx))
  case first =>
    clear HS2 K2 h1 h2 h5
    rcases HS1.out with ⟨rfl, rfl⟩ | ⟨rfl, hc, rfl⟩ | ⟨rfl, hc, rfl⟩
    · go_quiet (fail)
      go_wp2_with fail
      go_meet
      exact ⟨rfl, Lib.hid (below_drewN (Below.refl _ _) _)⟩
    · have hj0 : j = 0 := by have := of_decide_eq_false hc; omega
      subst hj0
      clear hc
      go_quiet (fail)
      go_wp2_with fail
      go_meet
      exact ⟨rfl, Lib.hid (below_drewN (Below.refl _ _) _)⟩
    · have hj1 : 1 ≤ j := of_decide_eq_true hc
      obtain ⟨p, hp, kp⟩ := K1.out rfl hj1
      obtain ⟨b, rfl, -⟩ := HE1.out.get (j := j - 1) (by omega)
      obtain ⟨q0, q1, -⟩ := rat_at HE1.out hp
      have KP := Lib.hid kp
      clear hc hp kp K1 HS1
      generalize decide (kP (P[j - 1]?.getD (0, 1)) < kR xa xb) = L1 at *
      obtain ⟨pn, pd⟩ := p
      simp only at *
      have n1 : (j : Int) - 1 < n := by omega
      have n2 : 0 ≤ (j : Int) - 1 := by omega
      have n3 : ((j : Int) - 1).toNat = j - 1 := by omega
      have n4 : IntKind.i64.wrap ((j : Int) - 1) = (j : Int) - 1 := IntWalk.i64_in _ (by omega)
      have n5 : (1 : Int) ≤ (j : Int) := by omega
      have n7 : j ≤ n := by omega
      have n8 : 0 < j := by omega
      have n9 : decide (0 ≤ (j : Int) - 1) = true := decide_eq_true n2
      go_region_held3 (fun w' => w'.cell? ⟨w.heap.size, 0, none⟩ = some (.int .i64 xa) ∧ w'.cell? ⟨w.heap.size, 1, none⟩ = some (.int .i64 xb) ∧ w'.cell? ⟨w.heap.size, 6, none⟩ = some (.bool false) ∧ w'.cell? ⟨b, (j - 1) * 2, none⟩ = some (.int .i64 pn) ∧ w'.cell? ⟨b, (j - 1) * 2 + 1, none⟩ = some (.int .i64 pd) ∧ Since W1 w')
        (first | exact ⟨x0, x1, x6, q0, q1, hSd⟩ | exact ⟨Since.cell hB2 x0, Since.cell hB2 x1, Since.cell hB2 x6, Since.cell hB2 q0, Since.cell hB2 q1, hB2⟩)
        ((go_at_call 84; refine (KP.out _).mono ?_; rintro e w' ⟨rfl, hr⟩; have hB2 := Since.step hSd hr; clear hr))
      go_wp2_with fail
      go_meet
      exact ⟨rfl, Lib.hid hB2⟩
  case rest =>
    obtain ⟨rfl, hS⟩ := hcut
    have X2 := Lib.hid (XX.out.keep hS.out)
    have HB2 := Lib.hid (HB0.out.trans (Below.mono hS.out HB0.out.size))
    have HE2 := Lib.hid (HE1.out.below hS.out)
    clear hS0 hSd x0 x1 x2 x3 x4 x5 x6 x7 x8 hS XX HB0 HE1 HE
    rename World => W2
    obtain ⟨x0, x1, x2, x3, x4, x5, x6, x7, x8⟩ := X2.out.open8
    have hS0 : Since W2 W2 := Below.refl _ _
    have hSd : Since W2 W2.drew := Below.drew hS0
    rw [h5]
    go_wp2_with fail
    go_cut [10] (fun v wx => v = .bool B2 ∧ Hid (Since W2 wx))
    case first =>
      clear HS1 K1 h1 h2 h5
      rcases HS2.out with ⟨rfl, rfl⟩ | ⟨rfl, hc, rfl⟩ | ⟨rfl, hc, rfl⟩
      · go_quiet (fail)
        go_wp2_with fail
        go_meet
        exact ⟨rfl, Lib.hid (below_drewN (Below.refl _ _) _)⟩
      · have hj0 : j = n := by have := of_decide_eq_false hc; omega
        subst hj0
        clear hc
        go_quiet (fail)
        go_wp2_with fail
        go_meet
        exact ⟨rfl, Lib.hid (below_drewN (Below.refl _ _) _)⟩
      · have hj1 : j < n := of_decide_eq_true hc
        obtain ⟨p, hp, kp⟩ := K2.out rfl hj1
        obtain ⟨b, rfl, -⟩ := HE2.out.get hj1
        obtain ⟨q0, q1, -⟩ := rat_at HE2.out hp
        have KP := Lib.hid kp
        clear hc hp kp K2 HS2
        generalize decide (kR xc xd < kP (P[j]?.getD (0, 1))) = L1 at *
        obtain ⟨pn, pd⟩ := p
        simp only at *
        have n1 : (j : Int) < n := by omega
        have n9 : decide ((j : Int) < (n : Int)) = true := decide_eq_true n1
        go_region_held3 (fun w' => w'.cell? ⟨w.heap.size, 2, none⟩ = some (.int .i64 xc) ∧ w'.cell? ⟨w.heap.size, 3, none⟩ = some (.int .i64 xd) ∧ w'.cell? ⟨w.heap.size, 7, none⟩ = some (.bool false) ∧ w'.cell? ⟨b, j * 2, none⟩ = some (.int .i64 pn) ∧ w'.cell? ⟨b, j * 2 + 1, none⟩ = some (.int .i64 pd) ∧ Since W2 w')
          (first | exact ⟨x2, x3, x7, q0, q1, hSd⟩ | exact ⟨Since.cell hB2 x2, Since.cell hB2 x3, Since.cell hB2 x7, Since.cell hB2 q0, Since.cell hB2 q1, hB2⟩)
          ((go_at_call 84; refine (KP.out _).mono ?_; rintro e w' ⟨rfl, hr⟩; have hB2 := Since.step hSd hr; clear hr))
        go_wp2_with fail
        go_meet
        exact ⟨rfl, Lib.hid hB2⟩
    case rest =>
      obtain ⟨rfl, hS⟩ := hcut
      have HB3 := Lib.hid (HB2.out.trans (Below.mono hS.out HB2.out.size))
      clear hS0 hSd x0 x1 x2 x3 x4 x5 x6 x7 x8 hS HS1 HS2 K1 K2
      cases B1 <;> cases B2
      all_goals
        go_wp2
        go_ret
        exact ⟨rfl, HB3.out⟩

end Go.Proofs.Ytimbgjpjgbjnkaa

/- Contracts of the reference of span: Cells. -/
namespace Go.Proofs.Ytimbgjpjgbjnkaa
open Go.RowKit Go.Shelf

/-- Truth values in a row. -/
def RBool : RowOf Bool where
  cells x := [.bool x]
  k := 1
  len _ := rfl
  one x v h := by simp at h; rcases h with rfl; rfl
  pos := by decide

theorem Try.infoBool : (Try.prog.info? 4).map (fun i => (i.zero, i.size, i.bytes)) = some (some (.bool false), 1, 1) := by kernel_rfl

theorem covers_any (x : Iv) (P : List (Int × Int)) (c : Nat) (sv : Value) (w : World) (hx : x.good = true) (hP : PtsOk P) (hlx : Lims x P) (hc : c ≤ 2 * P.length) (h : PSl w sv P) (hl : P.length ≤ 10000000) :
    Calls Try.prog 89 #[x.v, sv, .int .i64 (c : Int)] w fun e w' => e = .returned (.bool (covB x P c)) ∧ Below w.heap.size w w' := by
  by_cases ho : c % 2 = 1
  · have := covers_odd x P (c / 2) (c : Int) sv w (by omega) hx hP (by omega) h hl
    rwa [show 2 * (c / 2) + 1 = c by omega] at this
  · have := covers_even x P (c / 2) (c : Int) sv w (by omega) hx hP hlx (by omega) h hl
    rwa [show 2 * (c / 2) = c by omega] at this

theorem cellsB_len (xs : List Iv) (P : List (Int × Int)) : (cellsB xs P).length = 2 * P.length + 1 := by simp [cellsB]

theorem cellsB_take (xs : List Iv) (P : List (Int × Int)) {c : Nat} (hc : c < 2 * P.length + 1) : (cellsB xs P).take (c + 1) = (cellsB xs P).take c ++ [xs.any fun x => covB x P c] := by
  rw [List.take_add_one]
  congr 1
  simp [cellsB, hc]

/-- What holds of the outer loop of Cells. -/
def CelRel (xs : List Iv) (P : List (Int × Int)) (T : TypeId) (c : Nat) (w : World) (v : Value) (wr : World) : Prop := ∃ a n cc, v = .slice a n cc ∧ Hid (ROwn RBool T w.heap.size wr (.slice a n cc) ((cellsB xs P).take c)) ∧ Hid (Below w.heap.size w wr)

set_option maxHeartbeats 8000000 in
set_option maxRecDepth 100000 in
theorem cells_any (sv pv : Value) (xs : List Iv) (P : List (Int × Int)) (w : World) (h : REls RIv w sv xs) (hg : ∀ x ∈ xs, x.good = true) (hlx : ∀ x ∈ xs, Lims x P) (hl : xs.length ≤ 1000000) (hP : PtsOk P) (hp : PSl w pv P) (hpl : P.length ≤ 10000000) :
    Calls Try.prog 48 #[sv, pv] w (RMakes RBool 4 (cellsB xs P) w) := by
  have KC := Lib.hid fun (x : Iv) (hx : x ∈ xs) (c : Nat) (hc : c ≤ 2 * P.length) W (hB : Below w.heap.size w W) => covers_any x P c pv W (hg x hx) hP (hlx x hx) hc (hp.below hB) hpl
  have HT := Lib.hid fun c (hc : c < 2 * P.length + 1) => cellsB_take xs P hc
  have HL := Lib.hid (cellsB_len xs P)
  obtain ⟨a, cap, rfl⟩ := h.shape
  obtain ⟨pa, pcap, rfl⟩ := hp.shape
  have HE := Lib.hid h
  generalize hm : xs.length = m at *
  have HM := Lib.hid hm
  generalize hn : P.length = n at *
  have HN := Lib.hid hn
  clear h hg hlx hm hP hp hn
  go_enter Try.func48, Try.ntmps48
  go_wp2
  go_loopw [5, 6] (fun v x wr => ∃ c : Nat, c ≤ 2 * n + 1 ∧ x = .int .i64 c ∧ CelRel xs P 4 c w v wr) (fun _ x _ => 2 * n + 2 - (intOf x).toNat)
  case atStart => exact ⟨0, by omega, rfl, none, 0, 0, rfl, ROwn.nil _ _ _ _, Below.refl _ _⟩
  case round =>
    obtain ⟨c, hc, rfl, ao, no, co, rfl, hO, hB⟩ := hrel
    by_cases hlt : c < 2 * n + 1
    · have hci : (c : Int) ≤ 2 * (n : Int) := by omega
      have HTC := Lib.hid (HT.out c (by omega))
      generalize hkc : (cellsB xs P).take c = ck at *
      have hckl : ck.length ≤ 100000000 := by rw [← hkc, List.length_take]; omega
      have HKC := Lib.hid hkc
      clear hkc
      go_wp2
      rename World => wo
      go_loopw [7, 8] (fun f x wr => ∃ i : Nat, i ≤ m ∧ x = .int .i64 i ∧ ∃ q : Bool, f = .bool q ∧ Hid (q = (xs.take i).any fun x => covB x P c) ∧ Hid (ROwn RBool 4 w.heap.size wr (.slice ao no co) ck) ∧ Hid (Below w.heap.size w wr)) (fun _ x _ => m - (intOf x).toNat)
      case atStart => exact ⟨0, by omega, rfl, false, rfl, rfl, hO, hB⟩
      case round =>
        obtain ⟨i, hi, rfl, q, rfl, hq, hO2, hB2⟩ := hrel
        clear hO hB
        by_cases hlt2 : i < m
        · have hii : (i : Int) < m := by omega
          obtain ⟨x, hx⟩ : ∃ x, xs[i]? = some x := ⟨xs[i]'(by rw [HM.out]; exact hlt2), List.getElem?_eq_getElem _⟩
          obtain ⟨b2, rfl, -⟩ := HE.out.get hlt2
          obtain ⟨g0, g1, g2, g3, g4, g5, g6, g7, hb2⟩ := iv_at (HE.out.below hB2.out) hx
          have kc := Lib.hid (KC.out x (List.mem_of_getElem? hx) c (by omega) wr hB2.out)
          have hq2 : Hid ((q || covB x P c) = (xs.take (i + 1)).any fun x => covB x P c) := by
            show _ = _
            rw [List.take_add_one, hx, List.any_append, hq.out]
            simp
          clear hx hq
          generalize covB x P c = s at *
          obtain ⟨xa, xb, xc, xd, xp, xq, xr, xs'⟩ := x
          unfold Iv.v at kc
          simp only at *
          go_wp2_with fail
          refine (kc.out).mono ?_
          rintro e w2 ⟨rfl, hr⟩
          have HB3 := Lib.hid (hB2.out.trans (hr.mono hB2.out.size))
          have HO3 := Lib.hid (hO2.out.below hr)
          clear hr g0 g1 g2 g3 g4 g5 g6 g7 hO2 hB2
          cases q
          case true =>
            have hq3 : Hid (true = (xs.take (i + 1)).any fun x => covB x P c) := by simpa using hq2
            go_wp2
            go_roundw
            case rel => exact ⟨i + 1, by omega, by go_num, true, rfl, hq3, HO3, HB3⟩
            case measure => simp [intOf]; omega
          case false =>
            have hq3 : Hid (s = (xs.take (i + 1)).any fun x => covB x P c) := by simpa using hq2
            go_wp2
            go_roundw
            case rel => exact ⟨i + 1, by omega, by go_num, s, rfl, hq3, HO3, HB3⟩
            case measure => simp [intOf]; omega
        · have hii : (m : Int) ≤ (i : Int) := by omega
          have hqa : Hid (ck ++ [q] = (cellsB xs P).take (c + 1)) := by
            show _ = _
            rw [HTC.out, hq.out, List.take_of_length_le (by rw [HM.out]; omega)]
          have hz7 : w.heap.size ≤ wr.heap.size := hB2.out.size
          have hc1 : ck.length + 1 ≤ 1000000000 := by omega
          clear hq
          go_wp2_with (at_builtin; refine push_row rfl _ _ _ rfl RBool 4 1 _ Try.underlying72 Try.infoBool rfl (by decide) w.heap.size (.slice ao no co) ck [q] _ _ rfl rfl _ 1 rfl rfl rfl hO2.out hz7 hc1 ?_; intro an nn cn wn hnn hOn hBn)
          have HO4 : Hid (ROwn RBool 4 w.heap.size wn (.slice an nn cn) ((cellsB xs P).take (c + 1))) := by
            have := hOn.out
            rw [hqa.out] at this
            exact this
          have HB4 := Lib.hid (hB2.out.trans hBn.out)
          clear hOn hBn hO2 hB2
          go_wp2
          go_roundw
          case rel => exact ⟨c + 1, by omega, by go_num, an, nn, cn, rfl, HO4, HB4⟩
          case measure => simp [intOf]; omega
    · have hci : 2 * (n : Int) < (c : Int) := by omega
      have HO3 : Hid (ROwn RBool 4 w.heap.size wr (.slice ao no co) (cellsB xs P)) := by
        have := hO.out
        rw [List.take_of_length_le (by rw [HL.out]; omega)] at this
        exact this
      go_wp2
      go_ret
      exact rmakes_of HO3.out hB.out

end Go.Proofs.Ytimbgjpjgbjnkaa

