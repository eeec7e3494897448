/- Mathematics of Parse: parseP and the reference's Parse are the same. -/
import Derived.Test.YtloddocibfbkpaaDoorPmath
namespace Go.Proofs.YtloddocibfbkpaaDoor
open Go.RowKit

theorem finP_bad {q : Bool} {l : List UInt8} {a b : Int} (h : q = true ∨ l ≠ []) : finP q l a b = (0, 0, 2) := by unfold finP; rw [if_pos h]

theorem finP_good {a b : Int} : finP false [] a b = Qm.newR a b := by unfold finP; rw [if_neg (by simp)]

theorem one_pow_zero : ((1 * (10 : Int) ^ 0) == 1) = true := by decide

/-- A digit is no mark. -/
theorem isD_mark {c : UInt8} (h : isD c = true) : c ≠ 47 ∧ c ≠ 46 := by
  obtain ⟨h1, _⟩ := isD_iff.1 h
  constructor
  · rintro rfl; exact absurd h1 (by decide)
  · rintro rfl; exact absurd h1 (by decide)

theorem frac_ref (sg : Int) (hsg : sg = 1 ∨ sg = -1) (l1 : List UInt8) : fracP sg (dg 15 0 1 l1).1 ((dg 15 0 1 l1).2.1 == 1) (dg 15 0 1 l1).2.2 = refF sg l1 := by
  rw [dg_eq]
  show fracP sg (valF 0 (l1.take (min 15 (cntD l1)))) ((1 * 10 ^ min 15 (cntD l1)) == 1) (l1.drop (min 15 (cntD l1))) = refF sg l1
  by_cases h0 : cntD l1 < 1
  · -- no digit
    have e0 : cntD l1 = 0 := by omega
    have er : refF sg l1 = (0, 0, 2) := by unfold refF; rw [if_pos (.inl h0)]
    rw [er, e0, Nat.min_zero, one_pow_zero]
    unfold fracP
    split
    · exact finP_bad (.inl (by simp))
    · split
      · exact finP_bad (.inl (by simp))
      · exact finP_bad (.inl rfl)
  · by_cases h15 : 15 < cntD l1
    · -- too many
      have er : refF sg l1 = (0, 0, 2) := by unfold refF; rw [if_pos (.inr h15)]
      rw [er, Nat.min_eq_left (by omega)]
      obtain ⟨c, r, hc, hd⟩ := cntD_head h15
      obtain ⟨m1, m2⟩ := isD_mark hd
      rw [hc]
      unfold fracP
      rw [if_neg (by simp [m1]), if_neg (by simp [m2])]
      exact finP_bad (.inr (by simp))
    · rw [Nat.min_eq_right (by omega), pow_one10 (by omega)]
      have hall := cntD_all l1
      have hrange := valF_range (l1.take (cntD l1)) hall
      have hlen : (l1.take (cntD l1)).length = cntD l1 := by rw [List.length_take]; have := cntD_le l1; omega
      rw [hlen] at hrange
      have hp15 := pow_le10 (show cntD l1 ≤ 15 by omega)
      have h1015 : (10 : Int) ^ 15 = 1000000000000000 := by decide
      unfold refF
      rw [if_neg (by omega)]
      have hC := valC_val (l1.take (cntD l1)) hall 0 0 (by omega) (.inl ⟨by omega, rfl⟩)
      have hCe : valC 0 (l1.take (cntD l1)) = valF 0 (l1.take (cntD l1)) := by omega
      generalize hrest : l1.drop (cntD l1) = rest at *
      match rest with
      | [] =>
        unfold fracP
        rw [if_neg (by simp), if_neg (by simp), finP_good]
        simp only
        rw [hCe, if_neg (by omega)]
        unfold Qm.newR
        rw [if_neg (by omega)]
      | c :: r =>
        simp only
        have hallr := cntD_all r
        have hler := cntD_le r
        by_cases h47 : c = 47
        · subst h47
          unfold fracP
          rw [if_pos (by simp), List.tail_cons, dg_eq]
          show finP (false || (1 * 10 ^ min 7 (cntD r) == 1)) (r.drop (min 7 (cntD r))) _ _ = _
          by_cases hk0 : cntD r < 1
          · have e0 : cntD r = 0 := by omega
            rw [if_pos (.inr (.inl hk0)), e0, Nat.min_zero]
            exact finP_bad (.inl (by decide))
          · by_cases hk7 : 7 < cntD r
            · rw [if_pos (.inr (.inr (.inr (.inl ⟨rfl, hk7⟩)))), Nat.min_eq_left (by omega)]
              exact finP_bad (.inr (by intro h; have := congrArg List.length h; rw [List.length_drop] at this; simp at this; omega))
            · rw [Nat.min_eq_right (by omega), pow_one10 (by omega)]
              by_cases hend : cntD r < r.length
              · rw [if_pos (.inr (.inr (.inl hend)))]
                exact finP_bad (.inr (by intro h; have := congrArg List.length h; rw [List.length_drop] at this; simp at this; omega))
              · rw [if_neg (by simp; omega), if_pos rfl]
                have et : r.take (cntD r) = r := List.take_of_length_le (by omega)
                have ed : r.drop (cntD r) = [] := List.drop_of_length_le (by omega)
                have hr := valF_range r (by rw [et] at hallr; exact hallr)
                have hpr := pow_le10 (show r.length ≤ 7 by omega)
                have h107 : (10 : Int) ^ 7 = 10000000 := by decide
                have hCr := valC_val r (by rw [et] at hallr; exact hallr) 0 0 (by omega) (.inl ⟨by omega, rfl⟩)
                have hCre : valC 0 r = valF 0 r := by omega
                rw [et, ed, Bool.false_or, finP_good, hCre, hCe]
                unfold Qm.newR
                by_cases hd0 : valF 0 r = 0
                · rw [if_pos hd0, if_pos hd0]
                · rw [if_neg hd0, if_neg hd0, if_neg (by omega)]
        · by_cases h46 : c = 46
          · subst h46
            unfold fracP
            rw [if_neg (by simp), if_pos (by simp), List.tail_cons, dg_eq]
            show finP (false || (1 * 10 ^ min 6 (cntD r) == 1)) (r.drop (min 6 (cntD r))) (sg * (min (valF 0 (l1.take (cntD l1))) 1099511627777 * (1 * 10 ^ min 6 (cntD r)) + valF 0 (r.take (min 6 (cntD r))))) (1 * 10 ^ min 6 (cntD r)) = _
            by_cases hk0 : cntD r < 1
            · have e0 : cntD r = 0 := by omega
              rw [if_pos (.inr (.inl hk0)), e0, Nat.min_zero]
              exact finP_bad (.inl (by decide))
            · by_cases hk6 : 6 < cntD r
              · rw [if_pos (.inr (.inr (.inr (.inr ⟨by decide, hk6⟩)))), Nat.min_eq_left (by omega)]
                exact finP_bad (.inr (by intro h; have := congrArg List.length h; rw [List.length_drop] at this; simp at this; omega))
              · rw [Nat.min_eq_right (by omega), pow_one10 (by omega)]
                by_cases hend : cntD r < r.length
                · rw [if_pos (.inr (.inr (.inl hend)))]
                  exact finP_bad (.inr (by intro h; have := congrArg List.length h; rw [List.length_drop] at this; simp at this; omega))
                · rw [if_neg (by simp; omega), if_neg (by decide)]
                  have et : r.take (cntD r) = r := List.take_of_length_le (by omega)
                  have ed : r.drop (cntD r) = [] := List.drop_of_length_le (by omega)
                  rw [et] at hallr
                  have hr := valF_range r hallr
                  have ek : r.length = cntD r := by omega
                  rw [ek] at hr
                  have hpr := pow_le10 (show cntD r ≤ 6 by omega)
                  have h106 : (10 : Int) ^ 6 = 1000000 := by decide
                  have hpp := pow_pos10 (cntD r)
                  have happ : ∀ d ∈ l1.take (cntD l1) ++ r, isD d = true := fun d hd => by
                    rcases List.mem_append.1 hd with h | h
                    · exact hall d h
                    · exact hallr d h
                  have hV : valF 0 (l1.take (cntD l1) ++ r) = valF 0 (l1.take (cntD l1)) * 10 ^ cntD r + valF 0 r := by rw [valF_append, valF_shift, ek]
                  have hCa := valC_val (l1.take (cntD l1) ++ r) happ 0 0 (by omega) (.inl ⟨by omega, rfl⟩)
                  rw [hV] at hCa
                  rw [et, ed, Bool.false_or, finP_good, Int.one_mul]
                  generalize valC 0 (l1.take (cntD l1) ++ r) = C at *
                  generalize valF 0 (l1.take (cntD l1)) = n1 at *
                  generalize valF 0 r = f at *
                  generalize (10 : Int) ^ cntD r = q at *
                  unfold Qm.newR
                  rw [if_neg (by omega)]
                  rcases Int.lt_or_le 1099511627777 n1 with hb | hb
                  · have em : min n1 1099511627777 = 1099511627777 := by omega
                    have g1 : 1099511627777 * q ≤ n1 * q := Int.mul_le_mul_of_nonneg_right (by omega) (by omega)
                    rw [em, ofR_great (by omega) (by rcases hsg with rfl | rfl <;> omega)]
                    by_cases hC46 : 4600000000000000000 ≤ C
                    · rw [if_pos hC46]
                    · rw [if_neg hC46, ofR_great (by omega) (by rcases hsg with rfl | rfl <;> omega)]
                  · have em : min n1 1099511627777 = n1 := by omega
                    have g1 : n1 * q ≤ 1099511627777 * 1000000 := Int.mul_le_mul hb (by omega) (by omega) (by omega)
                    rw [em, if_neg (by omega)]
                    have : C = n1 * q + f := by omega
                    rw [this]
          · unfold fracP
            rw [if_neg (by simp [h47]), if_neg (by simp [h46]), if_pos (.inl ⟨h46, h47⟩)]
            exact finP_bad (.inr (by simp))

theorem parse_ref (l : List UInt8) : parseP l = refP l := by
  unfold parseP refP
  split
  · exact frac_ref (-1) (.inr rfl) l.tail
  · exact frac_ref 1 (.inl rfl) l

end Go.Proofs.YtloddocibfbkpaaDoor
