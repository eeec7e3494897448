/- Plain mathematics of reading: what is read is good, and no longer than what lay there; errors stick. -/
import Derived.Test.YtelhpndlejommaaGreatWvals
namespace Go.Proofs.YtelhpndlejommaaGreat
open Go.RowKit Go.Shelf

theorem rIs_nums (k : Nat) : ∀ (l : List Int) (e : Int) (acc : List Int), Hm.Byt l → Nums acc → Nums (Hm.rIs k l e acc).1 ∧ (Hm.rIs k l e acc).1.length ≤ acc.length + k := by
  induction k with
  | zero => intro l e acc _ h; rw [Hm.rIs]; exact ⟨h, by simp⟩
  | succ k ih =>
    intro l e acc hb h
    rw [Hm.rIs]
    split
    · have := ih _ (Hm.rU l e).2.2 (acc ++ [Hm.unzig (Hm.rU l e).1]) (Hm.rU_left hb e).1 (nums_snoc h (Hm.unzig_range (rU_lt hb e)))
      refine ⟨this.1, ?_⟩
      have h2 := this.2
      rw [List.length_append] at h2
      simp at h2
      omega
    · exact ⟨nums_nil, by simp⟩

theorem rInts_nums {l : List Int} (hb : Hm.Byt l) (e : Int) : Nums (Hm.rInts l e).1 ∧ (Hm.rInts l e).1.length ≤ l.length := by
  unfold Hm.rInts
  have h := rLen_le hb e
  have := rIs_nums (Hm.rLen l e).1 (Hm.rLen l e).2.1 (Hm.rLen l e).2.2 [] h.2.2 nums_nil
  refine ⟨this.1, ?_⟩
  have h2 := this.2
  simp at h2
  omega

theorem rRaw_len {l : List Int} (hb : Hm.Byt l) (e : Int) : (Hm.rRaw l e).1.length ≤ l.length := by
  unfold Hm.rRaw
  have h := rLen_le hb e
  simp only [List.length_take]
  omega

theorem rIs_left (k : Nat) : ∀ (l : List Int) (e : Int) (acc : List Int), Hm.Byt l → Hm.Byt (Hm.rIs k l e acc).2.1 ∧ (Hm.rIs k l e acc).2.1.length ≤ l.length := by
  induction k with
  | zero => intro l e acc h; rw [Hm.rIs]; exact ⟨h, Nat.le_refl _⟩
  | succ k ih =>
    intro l e acc hb
    have h1 := Hm.rU_left hb e
    rw [Hm.rIs]
    split
    · have := ih _ (Hm.rU l e).2.2 (acc ++ [Hm.unzig (Hm.rU l e).1]) h1.1
      exact ⟨this.1, Nat.le_trans this.2 h1.2⟩
    · exact h1

theorem rB_left {l : List Int} (hb : Hm.Byt l) (e : Int) : Hm.Byt (Hm.rB l e).2.1 ∧ (Hm.rB l e).2.1.length ≤ l.length := by
  cases l with
  | nil => exact ⟨Hm.byt_nil, Nat.le_refl _⟩
  | cons c t =>
    have := rd_byt hb
    show Hm.Byt (if 1 < c then (false, [], if e = 0 then 2 else e) else (decide (c = 1), t, e) : Bool × List Int × Int).2.1 ∧ (if 1 < c then (false, [], if e = 0 then 2 else e) else (decide (c = 1), t, e) : Bool × List Int × Int).2.1.length ≤ _
    split
    · exact ⟨Hm.byt_nil, by simp⟩
    · exact ⟨this.2.2, by simp⟩

theorem rdV_left {l : List Int} {k : Nat} (hb : Hm.Byt l) (hk : k ≤ 5) (e : Int) : Hm.Byt (rdV k l e).2.1 ∧ (rdV k l e).2.1.length ≤ l.length := by
  have hraw : Hm.Byt (Hm.rRaw l e).2.1 ∧ (Hm.rRaw l e).2.1.length ≤ l.length := by
    have h := rLen_le hb e
    unfold Hm.rRaw
    exact ⟨h.2.2.drop _, by simp only [List.length_drop]; omega⟩
  match k, hk with
  | 0, _ => exact Hm.rU_left hb e
  | 1, _ => exact Hm.rU_left hb e
  | 2, _ => exact rB_left hb e
  | 3, _ => exact hraw
  | 4, _ => exact hraw
  | 5, _ =>
    have h := rLen_le hb e
    have h2 := rIs_left (Hm.rLen l e).1 (Hm.rLen l e).2.1 (Hm.rLen l e).2.2 [] h.2.2
    exact ⟨h2.1, Nat.le_trans h2.2 h.2.1⟩

theorem rLen_okay {l : List Int} (e : Int) (h : Hm.Okay l e) : (Hm.rLen l e).2.2 = 0 ∨ (Hm.rLen l e).2.2 ≠ 0 ∧ (Hm.rLen l e).1 = 0 ∧ (Hm.rLen l e).2.1 = [] := by
  unfold Hm.rLen
  split
  · right
    refine ⟨?_, rfl, rfl⟩
    simp only
    split
    · decide
    · assumption
  · exact Hm.rU_okay h

theorem rIs_okay (k : Nat) : ∀ (l : List Int) (e : Int) (acc : List Int), Hm.Okay l e → Hm.Okay (Hm.rIs k l e acc).2.1 (Hm.rIs k l e acc).2.2 := by
  induction k with
  | zero => intro l e acc h; rw [Hm.rIs]; exact h
  | succ k ih =>
    intro l e acc h
    rw [Hm.rIs]
    split
    · next h0 => exact ih _ _ _ (.inl h0)
    · next h0 =>
      rcases Hm.rU_okay h with h1 | h1
      · exact absurd h1 h0
      · exact .inr ⟨h1.1, h1.2.2⟩

/-- Behind a value that is read the reader has an error and nothing left, or none. -/
theorem rdV_okay {l : List Int} {k : Nat} {e : Int} (hk : k ≤ 5) (h : Hm.Okay l e) : Hm.Okay (rdV k l e).2.1 (rdV k l e).2.2 := by
  have hu : Hm.Okay (Hm.rU l e).2.1 (Hm.rU l e).2.2 := by
    rcases Hm.rU_okay h with h1 | h1
    · exact .inl h1
    · exact .inr ⟨h1.1, h1.2.2⟩
  have hr : Hm.Okay (Hm.rRaw l e).2.1 (Hm.rRaw l e).2.2 := by
    unfold Hm.rRaw
    rcases rLen_okay e h with h1 | h1
    · exact .inl h1
    · refine .inr ⟨h1.1, ?_⟩
      simp only
      rw [h1.2.2]
      exact List.drop_nil
  match k, hk with
  | 0, _ => exact hu
  | 1, _ => exact hu
  | 2, _ =>
    cases l with
    | nil =>
      show Hm.Okay [] (if e = 0 then 3 else e)
      split
      · exact .inr ⟨by decide, rfl⟩
      · exact .inr ⟨by assumption, rfl⟩
    | cons c t =>
      show Hm.Okay (if 1 < c then (false, [], if e = 0 then 2 else e) else (decide (c = 1), t, e) : Bool × List Int × Int).2.1 (if 1 < c then (false, [], if e = 0 then 2 else e) else (decide (c = 1), t, e) : Bool × List Int × Int).2.2
      split
      · simp only
        split
        · exact .inr ⟨by decide, rfl⟩
        · exact .inr ⟨by assumption, rfl⟩
      · rcases h with h | ⟨_, h⟩
        · exact .inl h
        · cases h
  | 3, _ => exact hr
  | 4, _ => exact hr
  | 5, _ =>
    show Hm.Okay (Hm.rInts l e).2.1 (Hm.rInts l e).2.2
    unfold Hm.rInts
    rcases rLen_okay e h with h1 | h1
    · exact rIs_okay _ _ _ _ (.inl h1)
    · exact rIs_okay _ _ _ _ (.inr ⟨h1.1, h1.2.2⟩)

end Go.Proofs.YtelhpndlejommaaGreat
