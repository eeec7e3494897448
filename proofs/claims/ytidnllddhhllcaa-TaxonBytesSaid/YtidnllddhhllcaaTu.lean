/- The encoding of lists of parents, and what is read of bytes: mathematics. -/
import Derived.Test.YtidnllddhhllcaaWpure
import Derived.Test.YtidnllddhhllcaaTt
namespace Go.Proofs.Ytidnllddhhllcaa
open Go.RowKit Go.Shelf

/-- The encoding of a list of parents. -/
def encRow (l : List Int) : List Int := Hm.uv l.length ++ encs l

/-- The encoding of lists of parents. -/
def encP (P : List (List Int)) : List Int := Hm.uv (Hm.zig (P.length : Int)) ++ (P.map encRow).flatten

/-- What reading k lists comes to, where acc has come before. -/
def rowsI : Nat → List Int → Int → List (List Int) → List (List Int) × List Int × Int
  | 0, l, e, acc => (acc, l, e)
  | k + 1, l, e, acc => rowsI k (Hm.rInts l e).2.1 (Hm.rInts l e).2.2 (acc ++ [(Hm.rInts l e).1])

/-- The lists that bytes encode. -/
def dec (b : List Int) : Option (List (List Int)) :=
  if Hm.unzig (Hm.rU b 0).1 < 0 ∨ 64 < Hm.unzig (Hm.rU b 0).1 then none
  else if Hm.rEnd (rowsI (Hm.unzig (Hm.rU b 0).1).toNat (Hm.rU b 0).2.1 (Hm.rU b 0).2.2 []).2.1 (rowsI (Hm.unzig (Hm.rU b 0).1).toNat (Hm.rU b 0).2.1 (Hm.rU b 0).2.2 []).2.2 = 0
    then some (rowsI (Hm.unzig (Hm.rU b 0).1).toNat (Hm.rU b 0).2.1 (Hm.rU b 0).2.2 []).1 else none

theorem rowsI_enc (P : List (List Int)) (hw : ∀ l ∈ P, Nums l) (hl : ∀ l ∈ P, l.length ≤ 1000000) : ∀ acc rest, rowsI P.length ((P.map encRow).flatten ++ rest) 0 acc = (acc ++ P, rest, 0) := by
  induction P with
  | nil => intro acc rest; simp [rowsI]
  | cons c P ih =>
    intro acc rest
    have h1 := rInts_enc c ((P.map encRow).flatten ++ rest) (hw c (List.mem_cons_self ..)) (by have := hl c (List.mem_cons_self ..); omega)
    have e : ((c :: P).map encRow).flatten ++ rest = Hm.uv c.length ++ encs c ++ ((P.map encRow).flatten ++ rest) := by
      rw [List.map_cons, List.flatten_cons, encRow]
      simp only [List.append_assoc]
    rw [List.length_cons, rowsI, e, h1]
    rw [ih (fun l h => hw l (List.mem_cons_of_mem _ h)) (fun l h => hl l (List.mem_cons_of_mem _ h)), List.append_assoc]
    rfl

theorem rowsI_err (k : Nat) {e : Int} (h : e ≠ 0) : ∀ acc, (rowsI k [] e acc).2.2 = e := by
  induction k with
  | zero => intro acc; rfl
  | succ k ih =>
    intro acc
    rw [rowsI, rInts_err h]
    exact ih _

theorem rInts_okay {l : List Int} {e : Int} (h : Hm.Okay l e) : Hm.Okay (Hm.rInts l e).2.1 (Hm.rInts l e).2.2 := by
  unfold Hm.rInts
  refine rIs_okay _ _ _ _ ?_
  rcases rLen_okay e h with h1 | h1
  · exact .inl h1
  · exact .inr ⟨h1.1, h1.2.2⟩

theorem rInts_byt {l : List Int} (hb : Hm.Byt l) (e : Int) : Hm.Byt (Hm.rInts l e).2.1 ∧ (Hm.rInts l e).2.1.length ≤ l.length := by
  unfold Hm.rInts
  have h := rLen_le hb e
  have := rIs_left (Hm.rLen l e).1 (Hm.rLen l e).2.1 (Hm.rLen l e).2.2 [] h.2.2
  exact ⟨this.1, by omega⟩

theorem rowsI_one (k : Nat) : ∀ (l l2 : List Int) (acc R : List (List Int)), Hm.Byt l → rowsI k l 0 acc = (R, l2, 0) → ∃ Q, R = acc ++ Q ∧ Q.length = k ∧ l = (Q.map encRow).flatten ++ l2 := by
  induction k with
  | zero =>
    intro l l2 acc R _ h
    rw [rowsI] at h
    simp only [Prod.mk.injEq] at h
    obtain ⟨rfl, rfl, _⟩ := h
    exact ⟨[], by simp, rfl, by simp⟩
  | succ k ih =>
    intro l l2 acc R hb h
    rw [rowsI] at h
    by_cases h0 : (Hm.rInts l 0).2.2 = 0
    · have hr : Hm.rInts l 0 = ((Hm.rInts l 0).1, (Hm.rInts l 0).2.1, 0) := Prod.ext rfl (Prod.ext rfl h0)
      rw [h0] at h
      obtain ⟨h1, _⟩ := rInts_one hb hr
      obtain ⟨Q, hR, hQ, hl⟩ := ih _ _ _ _ (rInts_byt hb 0).1 h
      refine ⟨(Hm.rInts l 0).1 :: Q, by rw [hR, List.append_assoc]; rfl, by rw [List.length_cons, hQ], ?_⟩
      rw [List.map_cons, List.flatten_cons, encRow, List.append_assoc, ← hl]
      exact h1
    · rcases rInts_okay (l := l) (e := 0) (.inl rfl) with h1 | h1
      · exact absurd h1 h0
      · rw [h1.2] at h
        have := rowsI_err k h0 (acc ++ [(Hm.rInts l 0).1])
        rw [h] at this
        exact absurd this.symm h0

theorem rowsI_len (k : Nat) : ∀ (l : List Int) (e : Int) (acc : List (List Int)) (m : Nat), Hm.Byt l → l.length ≤ m → (∀ x ∈ acc, x.length ≤ m) → (rowsI k l e acc).1.length = acc.length + k ∧ ∀ x ∈ (rowsI k l e acc).1, x.length ≤ m := by
  induction k with
  | zero => intro l e acc m _ _ h; exact ⟨rfl, h⟩
  | succ k ih =>
    intro l e acc m hb hl h
    rw [rowsI]
    have h1 := rInts_byt hb e
    have h2 := (rInts_nums hb e).2
    have := ih (Hm.rInts l e).2.1 (Hm.rInts l e).2.2 (acc ++ [(Hm.rInts l e).1]) m h1.1 (by omega) (mem_snoc_le (p := fun x => x.length ≤ m) h (by omega))
    exact ⟨by rw [this.1, List.length_append]; simp; omega, this.2⟩

theorem encRow_byt (l : List Int) : Hm.Byt (encRow l) := Hm.byt_append (Hm.uv_byt _) (encs_byt _)

theorem rows_byt (P : List (List Int)) : Hm.Byt (P.map encRow).flatten := by
  induction P with
  | nil => exact Hm.byt_nil
  | cons c P ih => rw [List.map_cons, List.flatten_cons]; exact Hm.byt_append (encRow_byt c) ih

theorem encP_byt (P : List (List Int)) : Hm.Byt (encP P) := Hm.byt_append (Hm.uv_byt _) (rows_byt P)

theorem rU_encP {P : List (List Int)} (h : P.length ≤ 1000000) : Hm.rU (encP P) 0 = (Hm.zig (P.length : Int), (P.map encRow).flatten, 0) := by
  unfold encP
  exact Hm.rU_uv (Hm.zig_lt (by omega)) _

theorem dec_enc {P : List (List Int)} (hw : ∀ l ∈ P, Nums l) (hl : ∀ l ∈ P, l.length ≤ 1000000) (h : P.length ≤ 64) : dec (encP P) = some P := by
  have h1 := rowsI_enc P hw hl [] []
  rw [List.append_nil, List.nil_append] at h1
  unfold dec
  rw [rU_encP (by omega)]
  simp only [Hm.unzig_zig, Int.toNat_natCast]
  rw [if_neg (by omega), h1, if_pos (by simp [Hm.rEnd])]

theorem dec_big {P : List (List Int)} (h1 : 64 < P.length) (h2 : P.length ≤ 1000000) : dec (encP P) = none := by
  unfold dec
  rw [rU_encP h2]
  simp only [Hm.unzig_zig]
  rw [if_pos (by omega)]

theorem dec_one {b : List Int} {P : List (List Int)} (hb : Hm.Byt b) (h : dec b = some P) : b = encP P ∧ P.length ≤ 64 ∧ ∀ l ∈ P, l.length ≤ b.length := by
  unfold dec at h
  by_cases hc : Hm.unzig (Hm.rU b 0).1 < 0 ∨ 64 < Hm.unzig (Hm.rU b 0).1
  · rw [if_pos hc] at h; cases h
  · rw [if_neg hc] at h
    have hleft := Hm.rU_left hb 0
    have hlen := rowsI_len (Hm.unzig (Hm.rU b 0).1).toNat (Hm.rU b 0).2.1 (Hm.rU b 0).2.2 [] b.length hleft.1 hleft.2 (fun x hx => by simp at hx)
    generalize hR : rowsI (Hm.unzig (Hm.rU b 0).1).toNat (Hm.rU b 0).2.1 (Hm.rU b 0).2.2 [] = R at *
    obtain ⟨Q, l2, e2⟩ := R
    simp only at h hlen
    by_cases h0 : Hm.rEnd l2 e2 = 0
    · rw [if_pos h0] at h
      injection h with h
      subst h
      have he2 : e2 = 0 := by
        unfold Hm.rEnd at h0
        by_cases hq : e2 = 0 ∧ 0 < l2.length
        · exact hq.1
        · rw [if_neg hq] at h0; exact h0
      subst he2
      have hl2 : l2 = [] := by
        unfold Hm.rEnd at h0
        by_cases hq : (0 : Int) = 0 ∧ 0 < l2.length
        · rw [if_pos hq] at h0; cases h0
        · exact List.eq_nil_of_length_eq_zero (by omega)
      subst hl2
      have he1 : (Hm.rU b 0).2.2 = 0 := by
        rcases Hm.rU_okay (l := b) (e := 0) (.inl rfl) with h1 | h1
        · exact h1
        · rw [h1.2.1, h1.2.2] at hR
          simp only [show (Hm.unzig 0).toNat = 0 from rfl, rowsI] at hR
          injection hR with _ h2
          injection h2
      rw [he1] at hR
      obtain ⟨Q2, hQ, hn, hl⟩ := rowsI_one _ _ _ _ _ hleft.1 hR
      rw [List.nil_append] at hQ
      subst hQ
      have hr : Hm.rU b 0 = ((Hm.rU b 0).1, (Hm.rU b 0).2.1, 0) := Prod.ext rfl (Prod.ext rfl he1)
      obtain ⟨h1, _⟩ := Hm.rU_one hb hr
      refine ⟨?_, by omega, hlen.2⟩
      rw [List.append_nil] at hl
      unfold encP
      rw [← hl, show ((Q.length : Nat) : Int) = Hm.unzig (Hm.rU b 0).1 by omega, Hm.zig_unzig]
      exact h1
    · rw [if_neg h0] at h; cases h

end Go.Proofs.Ytidnllddhhllcaa
