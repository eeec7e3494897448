/- What one reads and writes again: the state of a loop that collects what a reader returns. -/
import Derived.Test.YtgipfbmomhlcjaaLaw02c
namespace Go.Proofs.Ytgipfbmomhlcjaa
open Go.RowKit Go.Shelf

theorem rIs_nums (k : Nat) : ∀ (l : List Int) (e : Int) (acc : List Int), Hm.Byt l → Nums acc → Nums (Hm.rIs k l e acc).1 ∧ (Hm.rIs k l e acc).1.length ≤ acc.length + k := by
  induction k with
  | zero => intro l e acc _ h; rw [Hm.rIs]; exact ⟨h, by simp⟩
  | succ k ih =>
    intro l e acc hb h
    rw [Hm.rIs]
    split
    · have := ih _ (Hm.rU l e).2.2 (acc ++ [Hm.unzig (Hm.rU l e).1]) (Hm.rU_left hb e).1 (nums_snoc h (Hm.unzig_range (rU_lt hb e)))
      refine ⟨this.1, ?_⟩
      have h2 := this.2
      rw [List.length_append] at h2
      simp at h2
      omega
    · exact ⟨nums_nil, by simp⟩

theorem rInts_nums {l : List Int} (hb : Hm.Byt l) (e : Int) : Nums (Hm.rInts l e).1 ∧ (Hm.rInts l e).1.length ≤ l.length := by
  unfold Hm.rInts
  have h := rLen_le hb e
  have := rIs_nums (Hm.rLen l e).1 (Hm.rLen l e).2.1 (Hm.rLen l e).2.2 [] h.2.2 nums_nil
  refine ⟨this.1, ?_⟩
  have h2 := this.2
  simp at h2
  omega

theorem rRaw_len {l : List Int} (hb : Hm.Byt l) (e : Int) : (Hm.rRaw l e).1.length ≤ l.length := by
  unfold Hm.rRaw
  have h := rLen_le hb e
  simp only [List.length_take]
  omega

theorem rdV_good {l : List Int} {k : Nat} (hb : Hm.Byt l) (hl : l.length ≤ 1000) (hk : k ≤ 5) (e : Int) : (rdV k l e).1.Good ∧ (rdV k l e).1.kind = k := by
  match k, hk with
  | 0, _ => exact ⟨good0 (rU_lt hb e), rfl⟩
  | 1, _ => exact ⟨good1 (Hm.unzig_range (rU_lt hb e)), rfl⟩
  | 2, _ => exact ⟨good2 (by split <;> omega), rfl⟩
  | 3, _ => exact ⟨good34 (.inl rfl) (rRaw_byt hb e) (Nat.le_trans (rRaw_len hb e) hl), rfl⟩
  | 4, _ => exact ⟨good34 (.inr rfl) (rRaw_byt hb e) (Nat.le_trans (rRaw_len hb e) hl), rfl⟩
  | 5, _ => exact ⟨good5 (rInts_nums hb e).1 (Nat.le_trans (rInts_nums hb e).2 hl), rfl⟩

theorem rIs_left (k : Nat) : ∀ (l : List Int) (e : Int) (acc : List Int), Hm.Byt l → Hm.Byt (Hm.rIs k l e acc).2.1 ∧ (Hm.rIs k l e acc).2.1.length ≤ l.length := by
  induction k with
  | zero => intro l e acc h; rw [Hm.rIs]; exact ⟨h, Nat.le_refl _⟩
  | succ k ih =>
    intro l e acc hb
    have h1 := Hm.rU_left hb e
    rw [Hm.rIs]
    split
    · have := ih _ (Hm.rU l e).2.2 (acc ++ [Hm.unzig (Hm.rU l e).1]) h1.1
      exact ⟨this.1, Nat.le_trans this.2 h1.2⟩
    · exact h1

theorem rB_left {l : List Int} (hb : Hm.Byt l) (e : Int) : Hm.Byt (Hm.rB l e).2.1 ∧ (Hm.rB l e).2.1.length ≤ l.length := by
  cases l with
  | nil => exact ⟨Hm.byt_nil, Nat.le_refl _⟩
  | cons c t =>
    have := rd_byt hb
    show Hm.Byt (if 1 < c then (false, [], if e = 0 then 2 else e) else (decide (c = 1), t, e) : Bool × List Int × Int).2.1 ∧ (if 1 < c then (false, [], if e = 0 then 2 else e) else (decide (c = 1), t, e) : Bool × List Int × Int).2.1.length ≤ _
    split
    · exact ⟨Hm.byt_nil, by simp⟩
    · exact ⟨this.2.2, by simp⟩

theorem rdV_left {l : List Int} {k : Nat} (hb : Hm.Byt l) (hk : k ≤ 5) (e : Int) : Hm.Byt (rdV k l e).2.1 ∧ (rdV k l e).2.1.length ≤ l.length := by
  have hraw : Hm.Byt (Hm.rRaw l e).2.1 ∧ (Hm.rRaw l e).2.1.length ≤ l.length := by
    have h := rLen_le hb e
    unfold Hm.rRaw
    exact ⟨h.2.2.drop _, by simp only [List.length_drop]; omega⟩
  match k, hk with
  | 0, _ => exact Hm.rU_left hb e
  | 1, _ => exact Hm.rU_left hb e
  | 2, _ => exact rB_left hb e
  | 3, _ => exact hraw
  | 4, _ => exact hraw
  | 5, _ =>
    have h := rLen_le hb e
    have h2 := rIs_left (Hm.rLen l e).1 (Hm.rLen l e).2.1 (Hm.rLen l e).2.2 [] h.2.2
    exact ⟨h2.1, Nat.le_trans h2.2 h.2.1⟩

theorem rLen_okay {l : List Int} (e : Int) (h : Hm.Okay l e) : (Hm.rLen l e).2.2 = 0 ∨ (Hm.rLen l e).2.2 ≠ 0 ∧ (Hm.rLen l e).1 = 0 ∧ (Hm.rLen l e).2.1 = [] := by
  unfold Hm.rLen
  split
  · right
    refine ⟨?_, rfl, rfl⟩
    simp only
    split
    · decide
    · assumption
  · exact Hm.rU_okay h

theorem rIs_okay (k : Nat) : ∀ (l : List Int) (e : Int) (acc : List Int), Hm.Okay l e → Hm.Okay (Hm.rIs k l e acc).2.1 (Hm.rIs k l e acc).2.2 := by
  induction k with
  | zero => intro l e acc h; rw [Hm.rIs]; exact h
  | succ k ih =>
    intro l e acc h
    rw [Hm.rIs]
    split
    · next h0 => exact ih _ _ _ (.inl h0)
    · next h0 =>
      rcases Hm.rU_okay h with h1 | h1
      · exact absurd h1 h0
      · exact .inr ⟨h1.1, h1.2.2⟩

/-- Behind a value that is read the reader has an error and nothing left, or none. -/
theorem rdV_okay {l : List Int} {k : Nat} {e : Int} (hk : k ≤ 5) (h : Hm.Okay l e) : Hm.Okay (rdV k l e).2.1 (rdV k l e).2.2 := by
  have hu : Hm.Okay (Hm.rU l e).2.1 (Hm.rU l e).2.2 := by
    rcases Hm.rU_okay h with h1 | h1
    · exact .inl h1
    · exact .inr ⟨h1.1, h1.2.2⟩
  have hr : Hm.Okay (Hm.rRaw l e).2.1 (Hm.rRaw l e).2.2 := by
    unfold Hm.rRaw
    rcases rLen_okay e h with h1 | h1
    · exact .inl h1
    · refine .inr ⟨h1.1, ?_⟩
      simp only
      rw [h1.2.2]
      exact List.drop_nil
  match k, hk with
  | 0, _ => exact hu
  | 1, _ => exact hu
  | 2, _ =>
    cases l with
    | nil =>
      show Hm.Okay [] (if e = 0 then 3 else e)
      split
      · exact .inr ⟨by decide, rfl⟩
      · exact .inr ⟨by assumption, rfl⟩
    | cons c t =>
      show Hm.Okay (if 1 < c then (false, [], if e = 0 then 2 else e) else (decide (c = 1), t, e) : Bool × List Int × Int).2.1 (if 1 < c then (false, [], if e = 0 then 2 else e) else (decide (c = 1), t, e) : Bool × List Int × Int).2.2
      split
      · simp only
        split
        · exact .inr ⟨by decide, rfl⟩
        · exact .inr ⟨by assumption, rfl⟩
      · rcases h with h | ⟨_, h⟩
        · exact .inl h
        · cases h
  | 3, _ => exact hr
  | 4, _ => exact hr
  | 5, _ =>
    show Hm.Okay (Hm.rInts l e).2.1 (Hm.rInts l e).2.2
    unfold Hm.rInts
    rcases rLen_okay e h with h1 | h1
    · exact rIs_okay _ _ _ _ (.inl h1)
    · exact rIs_okay _ _ _ _ (.inr ⟨h1.1, h1.2.2⟩)

/-- All slices lie from B on. -/
def FarAll (B : Nat) (ts : List VT) : Prop := ∀ t ∈ ts, Far B t.2.1 ∧ Far B t.2.2

theorem VOwn.past {B p : Nat} {w w' : World} {v : Value} {ts : List VT} (h : VOwn B w v ts) (hf : FarAll B ts) (hp : p < B) (hG : w.grownBy w' (some p)) : VOwn B w' v ts := by
  refine ⟨World.ownsRow.kept h.1 hG ?_, fun t ht => ?_⟩
  · by_cases hv : v.ownBlock = none
    · exact .inl hv
    · obtain ⟨g, hg⟩ := Option.ne_none_iff_exists'.1 hv
      have := (World.ownsRow.lt h.1 g hg).1
      refine .inr ?_
      rw [hg]
      simp
      omega
  · obtain ⟨h1, h2, h3⟩ := h.2 t ht
    exact ⟨h1.past ((hf t ht).1.off hp) hG, h2.past ((hf t ht).2.off hp) hG, h3⟩

/-- What has been read of the bytes T, and where the reader stands. -/
def Back2 (T : List Int) (xs : List V) (l : List Int) (e : Int) : Prop := (∀ x ∈ xs, x.Good) ∧ Hm.Byt l ∧ l.length ≤ 1000 ∧ Hm.Okay l e ∧ (e = 0 → T = encVs xs ++ l)

theorem Back2.start {T : List Int} (hb : Hm.Byt T) (hl : T.length ≤ 1000) : Back2 T [] T 0 := ⟨(fun _ h => nomatch h), hb, hl, .inl rfl, fun _ => rfl⟩

theorem Back2.step {T : List Int} {xs : List V} {l : List Int} {e : Int} {k : Nat} (h : Back2 T xs l e) (hk : k ≤ 5) : Back2 T (xs ++ [(rdV k l e).1]) (rdV k l e).2.1 (rdV k l e).2.2 := by
  obtain ⟨h1, h2, h3, h4, h5⟩ := h
  have hl := rdV_left h2 hk e
  refine ⟨?_, hl.1, Nat.le_trans hl.2 h3, rdV_okay hk h4, ?_⟩
  · intro x hx
    rcases List.mem_append.1 hx with hx | hx
    · exact h1 x hx
    · simp at hx
      subst hx
      exact (rdV_good h2 h3 hk e).1
  · intro he
    rcases h4 with h0 | ⟨h0, hn⟩
    · subst h0
      have hr : rdV k l 0 = ((rdV k l 0).1, (rdV k l 0).2.1, 0) := Prod.ext rfl (Prod.ext rfl he)
      have h6 := rdV_one h2 hr
      rw [encVs_snoc, List.append_assoc, ← h6]
      exact h5 rfl
    · subst hn
      rw [rdV_err k h0] at he
      exact absurd he h0

theorem Back2.fin {T : List Int} {xs : List V} {l : List Int} {e : Int} (h : Back2 T xs l e) (he : Hm.rEnd l e = 0) : encVs xs = T := by
  obtain ⟨_, _, _, _, h5⟩ := h
  unfold Hm.rEnd at he
  split at he
  · cases he
  · next h0 =>
    subst he
    have hl : l = [] := by
      cases l with
      | nil => rfl
      | cons c t => exact absurd ⟨rfl, by simp⟩ h0
    subst hl
    have := h5 rfl
    rw [List.append_nil] at this
    exact this.symm

theorem Back2.len {T : List Int} {xs : List V} {l : List Int} {e : Int} (h : Back2 T xs l e) (he : Hm.rEnd l e = 0) : (encVs xs).length = T.length := by rw [h.fin he]

end Go.Proofs.Ytgipfbmomhlcjaa
