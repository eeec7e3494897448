/- Encoders and readers of one kind of thing, put together: mathematics. -/
import Derived.Test.YtejllfpcffeogaaWpure
namespace Go.Proofs.Ytejllfpcffeogaa
open Go.RowKit Go.Shelf

/-- How things of a kind are written and read. -/
structure Codec (α : Type) where
  enc : α → List Int
  rd : List Int → Int → α × List Int × Int
  good : α → Prop
  back : ∀ x, good x → ∀ rest, rd (enc x ++ rest) 0 = (x, rest, 0)
  okay : ∀ l e, Hm.Okay l e → Hm.Okay (rd l e).2.1 (rd l e).2.2
  err : ∀ e, e ≠ 0 → (rd [] e).2.2 = e
  left : ∀ l e, Hm.Byt l → Hm.Byt (rd l e).2.1 ∧ (rd l e).2.1.length ≤ l.length
  num : ∀ l e, Hm.Byt l → good (rd l e).1
  one : ∀ l x l2, Hm.Byt l → rd l 0 = (x, l2, 0) → l = enc x ++ l2

theorem okay_err {l : List Int} {e : Int} (h : Hm.Okay l e) (h0 : e ≠ 0) : l = [] := by
  rcases h with h | h
  · exact absurd h h0
  · exact h.2

/-- Numbers. -/
def intC : Codec Int where
  enc n := Hm.uv (Hm.zig n)
  rd l e := (Hm.unzig (Hm.rU l e).1, (Hm.rU l e).2.1, (Hm.rU l e).2.2)
  good n := -9223372036854775808 ≤ n ∧ n ≤ 9223372036854775807
  back n h rest := by rw [Hm.rU_uv (Hm.zig_lt h), Hm.unzig_zig]
  okay l e h := by
    rcases Hm.rU_okay h with h1 | h1
    · exact .inl h1
    · exact .inr ⟨h1.1, h1.2.2⟩
  err e h := by rw [Hm.rU_err h]
  left l e h := Hm.rU_left h e
  num l e h := Hm.unzig_range (rU_lt h e)
  one l x l2 hb h := by
    simp only [Prod.mk.injEq] at h
    have h1 := (Hm.rU_one hb (n := (Hm.rU l 0).1) (l' := l2) (Prod.ext rfl (Prod.ext h.2.1 h.2.2))).1
    rw [← h.1, Hm.zig_unzig]
    exact h1

/-- Bools. -/
def boolC : Codec Bool where
  enc b := [if b then 1 else 0]
  rd l e := Hm.rB l e
  good _ := True
  back b _ rest := by cases b <;> rfl
  okay l e h := by
    rcases h with rfl | ⟨h, rfl⟩
    · cases l with
      | nil => right; exact ⟨by decide, rfl⟩
      | cons c t =>
        show Hm.Okay (if 1 < c then (false, [], if (0 : Int) = 0 then 2 else 0) else (decide (c = 1), t, 0) : Bool × List Int × Int).2.1 (if 1 < c then (false, [], if (0 : Int) = 0 then 2 else 0) else (decide (c = 1), t, 0) : Bool × List Int × Int).2.2
        split
        · right; exact ⟨by decide, rfl⟩
        · left; rfl
    · rw [rB_err h]; right; exact ⟨h, rfl⟩
  err e h := by rw [rB_err h]
  left l e h := rB_left h e
  num _ _ _ := trivial
  one l x l2 hb h := by
    cases l with
    | nil => exact absurd (show (3 : Int) = 0 from congrArg (fun r => r.2.2) h) (by decide)
    | cons c t =>
      have hc := rd_byt hb
      have h : (if 1 < c then (false, [], if (0 : Int) = 0 then 2 else 0) else (decide (c = 1), t, 0) : Bool × List Int × Int) = (x, l2, 0) := h
      split at h
      · simp at h
      · simp only [Prod.mk.injEq] at h
        obtain ⟨h1, rfl, _⟩ := h
        by_cases h2 : c = 1
        · subst h2; rw [← h1]; rfl
        · have : c = 0 := by omega
          subst this; rw [← h1]; rfl

/-- One behind the other. -/
def Codec.pair {α β : Type} (A : Codec α) (B : Codec β) : Codec (α × β) where
  enc p := A.enc p.1 ++ B.enc p.2
  rd l e := (((A.rd l e).1, (B.rd (A.rd l e).2.1 (A.rd l e).2.2).1), (B.rd (A.rd l e).2.1 (A.rd l e).2.2).2)
  good p := A.good p.1 ∧ B.good p.2
  back p h rest := by rw [List.append_assoc, A.back _ h.1, B.back _ h.2]
  okay l e h := B.okay _ _ (A.okay _ _ h)
  err e h := by
    have h1 := A.err e h
    have h2 := okay_err (A.okay [] e (.inr ⟨h, rfl⟩)) (by rw [h1]; exact h)
    rw [h1, h2]
    exact B.err e h
  left l e h := by
    have h1 := A.left l e h
    have h2 := B.left _ (A.rd l e).2.2 h1.1
    exact ⟨h2.1, Nat.le_trans h2.2 h1.2⟩
  num l e h := ⟨A.num l e h, B.num _ _ (A.left l e h).1⟩
  one l x l2 hb h := by
    have h0 : (A.rd l 0).2.2 = 0 := by
      by_cases h1 : (A.rd l 0).2.2 = 0
      · exact h1
      · have h2 := okay_err (A.okay l 0 (.inl rfl)) h1
        have h3 := B.err _ h1
        rw [h2] at h
        have h4 := congrArg (fun r => r.2.2) h
        simp only at h4
        rw [h3] at h4
        exact h4
    rw [h0] at h
    have e1 := A.one l (A.rd l 0).1 (A.rd l 0).2.1 hb (Prod.ext rfl (Prod.ext rfl h0))
    have e2 := B.one _ (B.rd (A.rd l 0).2.1 0).1 l2 (A.left l 0 hb).1 (Prod.ext rfl (by have := congrArg (fun r => r.2) h; exact this))
    have e3 := congrArg (fun r => r.1) h
    simp only at e3
    rw [← e3, List.append_assoc, ← e2]
    exact e1

/-- The same things, told otherwise. -/
def Codec.iso {α β : Type} (A : Codec α) (f : α → β) (g : β → α) (hf : ∀ x, f (g x) = x) (hg : ∀ x, g (f x) = x) : Codec β where
  enc x := A.enc (g x)
  rd l e := (f (A.rd l e).1, (A.rd l e).2)
  good x := A.good (g x)
  back x h rest := by rw [A.back _ h, hf]
  okay l e h := A.okay l e h
  err e h := A.err e h
  left l e h := A.left l e h
  num l e h := by rw [hg]; exact A.num l e h
  one l x l2 hb h := by
    have e1 := congrArg (fun r => r.1) h
    have e2 := congrArg (fun r => r.2) h
    simp only at e1 e2
    have := A.one l (A.rd l 0).1 l2 hb (Prod.ext rfl e2)
    rw [← e1, hg]
    exact this

/-- What reading k of them comes to, where acc has come before. -/
def Codec.rep {α : Type} (A : Codec α) : Nat → List Int → Int → List α → List α × List Int × Int
  | 0, l, e, acc => (acc, l, e)
  | k + 1, l, e, acc => A.rep k (A.rd l e).2.1 (A.rd l e).2.2 (acc ++ [(A.rd l e).1])

def Codec.encL {α : Type} (A : Codec α) (xs : List α) : List Int := (xs.map A.enc).flatten

theorem Codec.encL_snoc {α : Type} (A : Codec α) {xs : List α} {k : Nat} {x : α} (h : xs[k]? = some x) : A.encL (xs.take (k + 1)) = A.encL (xs.take k) ++ A.enc x := by
  unfold Codec.encL
  rw [List.take_add_one, h, List.map_append, List.flatten_append]
  simp

theorem Codec.rep_back {α : Type} (A : Codec α) : ∀ (xs : List α), (∀ x ∈ xs, A.good x) → ∀ acc rest, A.rep xs.length (A.encL xs ++ rest) 0 acc = (acc ++ xs, rest, 0) := by
  intro xs
  induction xs with
  | nil => intro _ acc rest; simp [Codec.rep, Codec.encL]
  | cons x xs ih =>
    intro h acc rest
    have e : A.encL (x :: xs) ++ rest = A.enc x ++ (A.encL xs ++ rest) := by
      unfold Codec.encL
      rw [List.map_cons, List.flatten_cons, List.append_assoc]
    rw [List.length_cons, Codec.rep, e, A.back x (h x (List.mem_cons_self ..))]
    rw [ih (fun y hy => h y (List.mem_cons_of_mem _ hy)), List.append_assoc]
    rfl

theorem Codec.rep_okay {α : Type} (A : Codec α) (k : Nat) : ∀ l e acc, Hm.Okay l e → Hm.Okay (A.rep k l e acc).2.1 (A.rep k l e acc).2.2 := by
  induction k with
  | zero => intro l e acc h; exact h
  | succ k ih => intro l e acc h; rw [Codec.rep]; exact ih _ _ _ (A.okay l e h)

theorem Codec.rep_err {α : Type} (A : Codec α) (k : Nat) {e : Int} (h : e ≠ 0) : ∀ acc, (A.rep k [] e acc).2.2 = e := by
  induction k with
  | zero => intro acc; rfl
  | succ k ih =>
    intro acc
    have h1 := A.err e h
    have h2 := okay_err (A.okay [] e (.inr ⟨h, rfl⟩)) (by rw [h1]; exact h)
    rw [Codec.rep, h1, h2]
    exact ih _

theorem Codec.rep_left {α : Type} (A : Codec α) (k : Nat) : ∀ l e acc, Hm.Byt l → Hm.Byt (A.rep k l e acc).2.1 ∧ (A.rep k l e acc).2.1.length ≤ l.length := by
  induction k with
  | zero => intro l e acc h; exact ⟨h, Nat.le_refl _⟩
  | succ k ih =>
    intro l e acc h
    have h1 := A.left l e h
    have h2 := ih _ (A.rd l e).2.2 (acc ++ [(A.rd l e).1]) h1.1
    rw [Codec.rep]
    exact ⟨h2.1, Nat.le_trans h2.2 h1.2⟩

theorem Codec.rep_num {α : Type} (A : Codec α) (k : Nat) : ∀ l e acc, Hm.Byt l → (∀ x ∈ acc, A.good x) → (∀ x ∈ (A.rep k l e acc).1, A.good x) ∧ (A.rep k l e acc).1.length = acc.length + k := by
  induction k with
  | zero => intro l e acc _ h; exact ⟨h, rfl⟩
  | succ k ih =>
    intro l e acc hb h
    rw [Codec.rep]
    have := ih (A.rd l e).2.1 (A.rd l e).2.2 (acc ++ [(A.rd l e).1]) (A.left l e hb).1 (fun x hx => by
      rcases List.mem_append.1 hx with hx | hx
      · exact h x hx
      · rw [List.mem_singleton.1 hx]; exact A.num l e hb)
    refine ⟨this.1, ?_⟩
    rw [this.2, List.length_append]
    simp
    omega

theorem Codec.rep_one {α : Type} (A : Codec α) (k : Nat) : ∀ (l l2 : List Int) (acc xs : List α), Hm.Byt l → A.rep k l 0 acc = (xs, l2, 0) → ∃ ys, xs = acc ++ ys ∧ ys.length = k ∧ l = A.encL ys ++ l2 := by
  induction k with
  | zero =>
    intro l l2 acc xs _ h
    rw [Codec.rep] at h
    simp only [Prod.mk.injEq] at h
    obtain ⟨rfl, rfl, _⟩ := h
    exact ⟨[], by simp, rfl, by simp [Codec.encL]⟩
  | succ k ih =>
    intro l l2 acc xs hb h
    rw [Codec.rep] at h
    by_cases h0 : (A.rd l 0).2.2 = 0
    · rw [h0] at h
      obtain ⟨ys, hx, hn, hl⟩ := ih _ _ _ _ (A.left l 0 hb).1 h
      refine ⟨(A.rd l 0).1 :: ys, by rw [hx, List.append_assoc]; rfl, by rw [List.length_cons, hn], ?_⟩
      have e1 := A.one l (A.rd l 0).1 (A.rd l 0).2.1 hb (Prod.ext rfl (Prod.ext rfl h0))
      unfold Codec.encL at hl ⊢
      rw [List.map_cons, List.flatten_cons, List.append_assoc, ← hl]
      exact e1
    · have h2 := okay_err (A.okay l 0 (.inl rfl)) h0
      rw [h2] at h
      have := A.rep_err k h0 (acc ++ [(A.rd l 0).1])
      rw [h] at this
      exact absurd this.symm h0

end Go.Proofs.Ytejllfpcffeogaa
