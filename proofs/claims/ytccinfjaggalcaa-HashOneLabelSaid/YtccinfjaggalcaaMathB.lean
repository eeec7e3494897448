/- Plain mathematics of the hash: one word, one group of bytes, one byte of the label more or less gives another hash. -/
import Derived.Test.YtccinfjaggalcaaMath
namespace Go.Proofs.Ytccinfjaggalcaa.Hm
open Go.RowKit

theorem foldl_state (ws : List Int) {a b : Int} (ha : IntKind.u64.wrap a = a) (hb : IntKind.u64.wrap b = b) (h : ws.foldl mixI a = ws.foldl mixI b) : a = b := by
  induction ws generalizing a b with
  | nil => exact h
  | cons w r ih =>
    have h1 := ih (mixI_id a w) (mixI_id b w) h
    have h2 := mixI_state h1
    rwa [ha, hb] at h2

theorem foldl_id (ws : List Int) {a : Int} (ha : IntKind.u64.wrap a = a) : IntKind.u64.wrap (ws.foldl mixI a) = ws.foldl mixI a := by
  induction ws generalizing a with
  | nil => exact ha
  | cons w r ih => exact ih (mixI_id a w)

theorem foldl_one (ws vs : List Int) (hl : ws.length = vs.length) (j : Nat) (hne : ∀ i : Nat, i ≠ j → ws[i]? = vs[i]?) (a : Int) (h : ws.foldl mixI a = vs.foldl mixI a) :
    ∀ i : Nat, IntKind.u64.wrap (ws[i]?.getD 0) = IntKind.u64.wrap (vs[i]?.getD 0) := by
  induction ws generalizing vs j a with
  | nil =>
    cases vs with
    | nil => intro i; rfl
    | cons v q => simp at hl
  | cons w r ih =>
    cases vs with
    | nil => simp at hl
    | cons v q =>
      have hl' : r.length = q.length := by simpa using hl
      cases j with
      | zero =>
        have e : r = q := by
          apply List.ext_getElem?
          intro i
          have := hne (i + 1) (by omega)
          simpa using this
        subst e
        have h1 := foldl_state r (mixI_id a w) (mixI_id a v) h
        have h2 := mixI_word h1
        intro i
        cases i with
        | zero => simpa using h2
        | succ i => rfl
      | succ j =>
        have e : w = v := by simpa using hne 0 (by omega)
        subst e
        have h1 := ih q hl' j (fun i hi => by simpa using hne (i + 1) (by omega)) (mixI a w) h
        intro i
        cases i with
        | zero => rfl
        | succ i => simpa using h1 i

theorem leI_inj {g h : List Int} (hg : Byt g) (hh : Byt h) (hl : g.length = h.length) (e : leI g = leI h) : g = h := by
  induction g generalizing h with
  | nil => cases h with
    | nil => rfl
    | cons d q => simp at hl
  | cons c r ih =>
    cases h with
    | nil => simp at hl
    | cons d q =>
      have hc := hg c (by simp)
      have hd := hh d (by simp)
      have e : c + 256 * leI r = d + 256 * leI q := e
      have e1 : c = d := by omega
      have e2 : leI r = leI q := by omega
      rw [e1, ih (fun z hz => hg z (by simp [hz])) (fun z hz => hh z (by simp [hz])) (by simpa using hl) e2]

theorem wordAt_range {zs : List Int} (hz : Byt zs) (j : Nat) : IntKind.u64.wrap (wordAt zs j) = wordAt zs j := by
  have h := leI_range ((hz.drop (8 * j)).take 8)
  have hp : ∀ n : Nat, n ≤ 8 → (256 : Int) ^ n ≤ 18446744073709551616 := by
    intro n hn
    have : n = 0 ∨ n = 1 ∨ n = 2 ∨ n = 3 ∨ n = 4 ∨ n = 5 ∨ n = 6 ∨ n = 7 ∨ n = 8 := by omega
    rcases this with rfl | rfl | rfl | rfl | rfl | rfl | rfl | rfl | rfl <;> decide
  have h2 := hp ((zs.drop (8 * j)).take 8).length (List.length_take_le _ _)
  unfold wordAt
  rw [IntKind.wrap_u64, Int.emod_eq_of_lt h.1 (by omega)]

theorem words_at (zs : List Int) (j : Nat) (h : j < (zs.length + 7) / 8) : (words zs)[j]? = some (wordAt zs j) := by
  simp [words, upto, h]

theorem words_inj {zs ys : List Int} (hz : Byt zs) (hy : Byt ys) (hl : zs.length = ys.length) (h : ∀ j, wordAt zs j = wordAt ys j) : zs = ys := by
  apply List.ext_getElem?
  intro i
  have hc := leI_inj ((hz.drop (8 * (i / 8))).take 8) ((hy.drop (8 * (i / 8))).take 8) (by simp [hl]) (h (i / 8))
  have h1 : ∀ l : List Int, ((l.drop (8 * (i / 8))).take 8)[i % 8]? = l[i]? := by
    intro l
    rw [List.getElem?_take_of_lt (Nat.mod_lt _ (by decide)), List.getElem?_drop, Nat.div_add_mod]
  rw [← h1 zs, ← h1 ys, hc]

/-- Words that differ in one place at most, and the same hash: the same bytes. -/
theorem same_of_fold {zs ys : List Int} (hz : Byt zs) (hy : Byt ys) (hl : zs.length = ys.length) (j : Nat) (hne : ∀ i : Nat, i / 8 ≠ j → zs[i]? = ys[i]?) (a : Int)
    (h : (words zs).foldl mixI a = (words ys).foldl mixI a) : zs = ys := by
  have hw : ∀ i, i ≠ j → wordAt zs i = wordAt ys i := by
    intro i hi
    unfold wordAt
    congr 1
    apply List.ext_getElem?
    intro m
    by_cases hm : m < 8
    · rw [List.getElem?_take_of_lt hm, List.getElem?_take_of_lt hm, List.getElem?_drop, List.getElem?_drop]
      exact hne _ (by omega)
    · rw [List.getElem?_eq_none (by rw [List.length_take]; omega), List.getElem?_eq_none (by rw [List.length_take]; omega)]
  have hwl : (words zs).length = (words ys).length := by rw [words_length, words_length, hl]
  have h1 := foldl_one (words zs) (words ys) hwl j (fun i hi => by
    by_cases hlt : i < (zs.length + 7) / 8
    · rw [words_at zs i hlt, words_at ys i (by omega), hw i hi]
    · rw [List.getElem?_eq_none (by rw [words_length]; omega), List.getElem?_eq_none (by rw [words_length]; omega)]) a h
  apply words_inj hz hy hl
  intro i
  by_cases hlt : i < (zs.length + 7) / 8
  · have h2 := h1 i
    rw [words_at zs i hlt, words_at ys i (by omega)] at h2
    simpa only [Option.getD_some, wordAt_range hz, wordAt_range hy] using h2
  · have e : ∀ l : List Int, l.length ≤ 8 * i → wordAt l i = 0 := by
      intro l h
      unfold wordAt
      rw [List.drop_of_length_le h]
      rfl
    rw [e zs (by omega), e ys (by omega)]

theorem beginI_id (zs : List Int) (c : Int) : IntKind.u64.wrap (beginI zs c) = beginI zs c := mixI_id _ _

theorem bytesI_group {s zs ys : List Int} (hz : Byt zs) (hy : Byt ys) (hl : zs.length = ys.length) (j : Nat) (hne : ∀ i : Nat, i / 8 ≠ j → zs[i]? = ys[i]?) :
    (bytesI s zs == bytesI s ys) = decide (zs = ys) := by
  by_cases h : zs = ys
  · subst h; simp
  · rw [decide_eq_false h, beq_eq_false_iff_ne]
    intro e
    apply h
    unfold bytesI at e
    rw [← hl] at e
    generalize hb : beginI s (((zs.length : Int) + 7) / 8 + 1) = b at e
    have ib : IntKind.u64.wrap b = b := by rw [← hb]; exact beginI_id _ _
    have e := mixI_state e
    simp only [mixI_id] at e
    have e := mixI_state e
    rw [foldl_id _ ib, foldl_id _ ib] at e
    exact same_of_fold hz hy hl j hne _ e

theorem sumI_label {zs ys : List Int} (hz : Byt zs) (hy : Byt ys) (hl : zs.length = ys.length) (j : Nat) (hne : ∀ i : Nat, i / 8 ≠ j → zs[i]? = ys[i]?) (ws : List Int) :
    (sumI zs ws == sumI ys ws) = decide (zs = ys) := by
  by_cases h : zs = ys
  · subst h; simp
  · rw [decide_eq_false h, beq_eq_false_iff_ne]
    intro e
    apply h
    unfold sumI at e
    have e := mixI_state e
    rw [foldl_id _ (beginI_id _ _), foldl_id _ (beginI_id _ _)] at e
    have e := foldl_state ws (beginI_id _ _) (beginI_id _ _) e
    unfold beginI at e
    have e := mixI_state e
    simp only [mixI_id] at e
    rw [hl] at e
    have e := mixI_state e
    have z0 : IntKind.u64.wrap 0 = 0 := IntWalk.u64_in 0 ⟨by omega, by omega⟩
    rw [foldl_id _ z0, foldl_id _ z0] at e
    exact same_of_fold hz hy hl j hne _ e

theorem sumI_word (s xs : List Int) (k : Nat) (v : Int) (hk : k < xs.length) (hx : (Lit.int .i64 (xs[k]?.getD 0)).wf = true) (hv : (Lit.int .i64 v).wf = true) :
    (sumI s xs == sumI s (xs.set k v)) = (xs[k]?.getD 0 == v) := by
  by_cases h : xs[k]?.getD 0 = v
  · have e : xs.set k v = xs := by
      apply List.ext_getElem?
      intro i
      rw [List.getElem?_set]
      split
      · next hi => subst hi; rw [← h, List.getElem?_eq_getElem hk]; simp
      · rfl
    rw [e, h]; simp
  · rw [beq_eq_false_iff_ne.2 h, beq_eq_false_iff_ne]
    intro e
    apply h
    unfold sumI at e
    have e := mixI_state e
    rw [List.length_set, foldl_id _ (beginI_id _ _), foldl_id _ (beginI_id _ _)] at e
    have h1 := foldl_one xs (xs.set k v) (by simp) k (fun i hi => by rw [List.getElem?_set_ne (Ne.symm hi)]) _ e k
    rw [List.getElem?_set_self hk, Option.getD_some, IntKind.wrap_u64, IntKind.wrap_u64] at h1
    have b1 : -9223372036854775808 ≤ xs[k]?.getD 0 ∧ xs[k]?.getD 0 ≤ 9223372036854775807 := by
      simpa [Lit.wf, IntKind.min, IntKind.max, IntKind.signed, IntKind.bits] using hx
    have b2 : -9223372036854775808 ≤ v ∧ v ≤ 9223372036854775807 := by
      simpa [Lit.wf, IntKind.min, IntKind.max, IntKind.signed, IntKind.bits] using hv
    omega

end Go.Proofs.Ytccinfjaggalcaa.Hm
