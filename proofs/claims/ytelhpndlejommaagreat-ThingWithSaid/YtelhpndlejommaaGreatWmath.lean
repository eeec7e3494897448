/- Plain mathematics of the wire: varints, zigzag forms, encodings of values, and what a reader makes of bytes: round trip, one encoding, proper prefixes. -/
import Derived.Test.YtelhpndlejommaaGreatKit
namespace Go.Proofs.YtelhpndlejommaaGreat.Hm
open Go.RowKit

/-- The varint of a number. -/
def uv (n : Nat) : List Int := if n < 128 then [(n : Int)] else ((n % 128 + 128 : Nat) : Int) :: uv (n / 128)
termination_by n
decreasing_by omega

theorem uv_small {n : Nat} (h : n < 128) : uv n = [(n : Int)] := by rw [uv, if_pos h]

theorem uv_big {n : Nat} (h : 128 ≤ n) : uv n = ((n % 128 + 128 : Nat) : Int) :: uv (n / 128) := by rw [uv, if_neg (by omega)]

theorem byt_cons {c : Int} {l : List Int} (hc : 0 ≤ c ∧ c < 256) (hl : Byt l) : Byt (c :: l) := fun z hz => by
  rcases List.mem_cons.1 hz with rfl | h
  · exact hc
  · exact hl z h

theorem byt_append {a b : List Int} (ha : Byt a) (hb : Byt b) : Byt (a ++ b) := fun z hz => by
  rcases List.mem_append.1 hz with h | h
  · exact ha z h
  · exact hb z h

theorem byt_nil : Byt [] := fun z hz => by cases hz

theorem uv_byt (n : Nat) : Byt (uv n) := by
  induction n using Nat.strongRecOn with
  | ind n ih =>
    by_cases h : n < 128
    · rw [uv_small h]
      exact byt_cons (by omega) byt_nil
    · rw [uv_big (by omega)]
      exact byt_cons (by omega) (ih (n / 128) (by omega))

theorem uv_ne (n : Nat) : 1 ≤ (uv n).length := by
  by_cases h : n < 128
  · rw [uv_small h]; simp
  · rw [uv_big (by omega)]; simp

theorem uv_le (k : Nat) : ∀ n, n < 128 ^ (k + 1) → (uv n).length ≤ k + 1 := by
  induction k with
  | zero =>
    intro n h
    rw [uv_small (by omega)]
    simp
  | succ k ih =>
    intro n h
    by_cases h2 : n < 128
    · rw [uv_small h2]; simp
    · rw [uv_big (by omega), List.length_cons]
      have := ih (n / 128) (by rw [Nat.pow_succ] at h; exact Nat.div_lt_of_lt_mul (by rw [Nat.mul_comm]; exact h))
      omega

theorem uv_len {n : Nat} (h : n < 18446744073709551616) : (uv n).length ≤ 10 := uv_le 9 n (Nat.lt_of_lt_of_le h (by decide))

/-- The zigzag form of a number. -/
def zig (n : Int) : Nat := if n < 0 then (-2 * n - 1).toNat else (2 * n).toNat

theorem zig_lt {n : Int} (h : -9223372036854775808 ≤ n ∧ n ≤ 9223372036854775807) : zig n < 18446744073709551616 := by
  unfold zig; split <;> omega

/-- The number with a zigzag form. -/
def unzig (z : Nat) : Int := if z % 2 = 1 then -((z / 2 : Nat) : Int) - 1 else ((z / 2 : Nat) : Int)

theorem unzig_range {z : Nat} (h : z < 18446744073709551616) : -9223372036854775808 ≤ unzig z ∧ unzig z ≤ 9223372036854775807 := by
  unfold unzig; split <;> omega

theorem unzig_zig (n : Int) : unzig (zig n) = n := by
  unfold unzig zig; split <;> split <;> omega

theorem zig_unzig (z : Nat) : zig (unzig z) = z := by
  unfold unzig zig; split <;> split <;> omega

/-- What a reader makes of the bytes from the i-th byte of a varint on, where acc has come before: the number, the bytes that are left, the error. -/
def rdU : Nat → Nat → List Int → Nat × List Int × Int
  | _, _, [] => (0, [], 3)
  | i, acc, c :: l => if (i = 9 ∧ 1 < c) ∨ (0 < i ∧ c = 0) then (0, [], 2) else if c < 128 then (acc + 128 ^ i * c.toNat, l, 0) else rdU (i + 1) (acc + 128 ^ i * (c.toNat % 128)) l

theorem rdU_nil (i acc : Nat) : rdU i acc [] = (0, [], 3) := by rw [rdU]

theorem rdU_bad {i acc : Nat} {c : Int} {l : List Int} (h : (i = 9 ∧ 1 < c) ∨ (0 < i ∧ c = 0)) : rdU i acc (c :: l) = (0, [], 2) := by rw [rdU, if_pos h]

theorem rdU_last {i acc : Nat} {c : Int} {l : List Int} (h : ¬ ((i = 9 ∧ 1 < c) ∨ (0 < i ∧ c = 0))) (hc : c < 128) : rdU i acc (c :: l) = (acc + 128 ^ i * c.toNat, l, 0) := by
  rw [rdU, if_neg h, if_pos hc]

theorem rdU_more {i acc : Nat} {c : Int} {l : List Int} (h : ¬ ((i = 9 ∧ 1 < c) ∨ (0 < i ∧ c = 0))) (hc : 128 ≤ c) : rdU i acc (c :: l) = rdU (i + 1) (acc + 128 ^ i * (c.toNat % 128)) l := by
  rw [rdU, if_neg h, if_neg (by omega)]

/-- What Uint returns and leaves of the bytes l at the error e. -/
def rU (l : List Int) (e : Int) : Nat × List Int × Int := ((rdU 0 0 l).1, (rdU 0 0 l).2.1, if e = 0 then (rdU 0 0 l).2.2 else e)

/-- What Bool returns and leaves. -/
def rB : List Int → Int → Bool × List Int × Int
  | [], e => (false, [], if e = 0 then 3 else e)
  | c :: l, e => if 1 < c then (false, [], if e = 0 then 2 else e) else (decide (c = 1), l, e)

/-- What the length returns and leaves. -/
def rLen (l : List Int) (e : Int) : Nat × List Int × Int :=
  if (rU l e).2.1.length < (rU l e).1 then (0, [], if (rU l e).2.2 = 0 then 3 else (rU l e).2.2) else rU l e

/-- What Text and Raw return and leave. -/
def rRaw (l : List Int) (e : Int) : List Int × List Int × Int := ((rLen l e).2.1.take (rLen l e).1, (rLen l e).2.1.drop (rLen l e).1, (rLen l e).2.2)

/-- What a list's elements come to, where acc has come before. -/
def rIs : Nat → List Int → Int → List Int → List Int × List Int × Int
  | 0, l, e, acc => (acc, l, e)
  | k + 1, l, e, acc => if (rU l e).2.2 = 0 then rIs k (rU l e).2.1 (rU l e).2.2 (acc ++ [unzig (rU l e).1]) else ([], (rU l e).2.1, (rU l e).2.2)

/-- What Ints returns and leaves. -/
def rInts (l : List Int) (e : Int) : List Int × List Int × Int := rIs (rLen l e).1 (rLen l e).2.1 (rLen l e).2.2 []

/-- What End returns. -/
def rEnd (l : List Int) (e : Int) : Int := if e = 0 ∧ 0 < l.length then 2 else e

/-- A reader drops what is left with its first error. -/
def Okay (l : List Int) (e : Int) : Prop := e = 0 ∨ e ≠ 0 ∧ l = []

theorem rdU_okay (l : List Int) : ∀ i acc, (rdU i acc l).2.2 = 0 ∨ (rdU i acc l).2.2 ≠ 0 ∧ (rdU i acc l).1 = 0 ∧ (rdU i acc l).2.1 = [] := by
  induction l with
  | nil => intro i acc; rw [rdU_nil]; right; simp
  | cons c l ih =>
    intro i acc
    by_cases h : (i = 9 ∧ 1 < c) ∨ (0 < i ∧ c = 0)
    · rw [rdU_bad h]; right; simp
    · by_cases hc : c < 128
      · rw [rdU_last h hc]; left; rfl
      · rw [rdU_more h (by omega)]; exact ih _ _

theorem rdU_left (l : List Int) : ∀ i acc, Byt l → Byt (rdU i acc l).2.1 ∧ (rdU i acc l).2.1.length ≤ l.length := by
  induction l with
  | nil => intro i acc _; rw [rdU_nil]; exact ⟨byt_nil, Nat.le_refl _⟩
  | cons c l ih =>
    intro i acc hb
    have hl : Byt l := fun z hz => hb z (List.mem_cons_of_mem _ hz)
    by_cases h : (i = 9 ∧ 1 < c) ∨ (0 < i ∧ c = 0)
    · rw [rdU_bad h]; exact ⟨byt_nil, by simp⟩
    · by_cases hc : c < 128
      · rw [rdU_last h hc]; exact ⟨hl, by simp⟩
      · rw [rdU_more h (by omega)]
        have := ih (i + 1) (acc + 128 ^ i * (c.toNat % 128)) hl
        exact ⟨this.1, by rw [List.length_cons]; omega⟩

theorem pow128_9 : (128 : Nat) ^ 9 = 9223372036854775808 := by decide

theorem pow128_le {i : Nat} (h : i ≤ 8) : (128 : Nat) ^ i ≤ 72057594037927936 := by
  have : (128 : Nat) ^ i ≤ 128 ^ 8 := Nat.pow_le_pow_right (by omega) h
  have e : (128 : Nat) ^ 8 = 72057594037927936 := by decide
  omega

theorem group_le {i g : Nat} (h : i ≤ 8) (hg : g ≤ 127) : 128 ^ i * g ≤ 9151314442816847872 := by
  have h1 := Nat.mul_le_mul (pow128_le h) hg
  omega

/-- A number that is read is the varint that lay there. -/
theorem rdU_one (l : List Int) : ∀ i acc n l', Byt l → i ≤ 9 → rdU i acc l = (n, l', 0) →
    ∃ m, l = uv m ++ l' ∧ n = acc + 128 ^ i * m ∧ (0 < i → 0 < m) ∧ 128 ^ i * m < 18446744073709551616 := by
  induction l with
  | nil => intro i acc n l' _ _ h; rw [rdU_nil] at h; simp at h
  | cons c l ih =>
    intro i acc n l' hb hi h
    have hl : Byt l := fun z hz => hb z (List.mem_cons_of_mem _ hz)
    have hc := hb c (List.mem_cons_self ..)
    by_cases hbad : (i = 9 ∧ 1 < c) ∨ (0 < i ∧ c = 0)
    · rw [rdU_bad hbad] at h; simp at h
    · by_cases hc1 : c < 128
      · rw [rdU_last hbad hc1] at h
        simp only [Prod.mk.injEq] at h
        obtain ⟨rfl, rfl, _⟩ := h
        refine ⟨c.toNat, ?_, rfl, by omega, ?_⟩
        · rw [uv_small (by omega)]
          simp
          omega
        · by_cases h9 : i = 9
          · subst h9
            have : c.toNat ≤ 1 := by omega
            rw [pow128_9]
            omega
          · have := group_le (i := i) (g := c.toNat) (by omega) (by omega)
            omega
      · have h9 : i ≠ 9 := by omega
        rw [rdU_more hbad (by omega)] at h
        obtain ⟨m, h1, h2, h3, h4⟩ := ih (i + 1) _ n l' hl (by omega) h
        have hm := h3 (by omega)
        refine ⟨c.toNat % 128 + 128 * m, ?_, ?_, by omega, ?_⟩
        · rw [uv_big (by omega), h1]
          have e1 : (c.toNat % 128 + 128 * m) % 128 + 128 = c.toNat := by omega
          have e2 : (c.toNat % 128 + 128 * m) / 128 = m := by omega
          rw [e1, e2, Int.toNat_of_nonneg hc.1]
          rfl
        · rw [h2, Nat.pow_succ, Nat.mul_add, Nat.mul_assoc, Nat.add_assoc]
        · rw [Nat.mul_add, ← Nat.mul_assoc, ← Nat.pow_succ, Nat.succ_eq_add_one]
          have hp : 0 < (128 : Nat) ^ i := Nat.pow_pos (by omega)
          have h6 : 128 ^ i * (c.toNat % 128) ≤ 128 ^ i * 127 := Nat.mul_le_mul_left _ (by omega)
          have h7 : 128 ^ (i + 1) * m ≤ 18446744073709551615 := by omega
          -- both are multiples of 128 ^ i, and so is 2 ^ 64 for i ≤ 9
          by_cases h8 : i = 8
          · subst h8
            have e8 : (128 : Nat) ^ 8 = 72057594037927936 := by decide
            have e9 : (128 : Nat) ^ (8 + 1) = 9223372036854775808 := by decide
            rw [e9] at h4 ⊢
            rw [e8]
            omega
          · obtain ⟨q, hq⟩ : ∃ q, 18446744073709551616 = 128 ^ (i + 1) * q := by
              refine ⟨128 ^ (8 - i - 1 + 1) * 2, ?_⟩
              have e9 : (128 : Nat) ^ 9 = 128 ^ (i + 1) * 128 ^ (8 - i - 1 + 1) := by rw [← Nat.pow_add]; congr 1; omega
              rw [← Nat.mul_assoc, ← e9]
            have hmq : m + 1 ≤ q := by
              rw [hq] at h4
              exact Nat.lt_of_mul_lt_mul_left h4
            have h10 : 128 ^ (i + 1) * (m + 1) ≤ 18446744073709551616 := by rw [hq]; exact Nat.mul_le_mul_left _ hmq
            rw [Nat.mul_add, Nat.mul_one] at h10
            have h11 : 128 ^ i * 127 + 128 ^ i = 128 ^ (i + 1) := by rw [Nat.pow_succ]; omega
            omega

/-- The varint of a number is read back. -/
theorem rdU_uv (m : Nat) : ∀ i acc rest, (0 < i → 0 < m) → 128 ^ i * m < 18446744073709551616 → i ≤ 9 → rdU i acc (uv m ++ rest) = (acc + 128 ^ i * m, rest, 0) := by
  induction m using Nat.strongRecOn with
  | ind m ih =>
    intro i acc rest h0 hm hi
    have hp : 0 < (128 : Nat) ^ i := Nat.pow_pos (by omega)
    by_cases h : m < 128
    · rw [uv_small h, List.singleton_append, rdU_last _ (by omega)]
      · simp
      · rintro (⟨rfl, h9⟩ | ⟨h9, h10⟩)
        · rw [pow128_9] at hm; omega
        · omega
    · have h9 : i ≠ 9 := by
        rintro rfl
        rw [pow128_9] at hm
        omega
      rw [uv_big (by omega), List.cons_append, rdU_more (by omega) (by omega)]
      have e : ((m % 128 + 128 : Nat) : Int).toNat % 128 = m % 128 := by omega
      have hs : 128 ^ i * m = 128 ^ i * (m % 128) + 128 ^ (i + 1) * (m / 128) := by
        rw [Nat.pow_succ, Nat.mul_assoc, ← Nat.mul_add]
        congr 1
        omega
      rw [e, ih (m / 128) (by omega) (i + 1) _ rest (by omega) (by omega) (by omega), hs, Nat.add_assoc]

/-- A proper prefix of a varint is too short. -/
theorem rdU_prefix (m : Nat) : ∀ i acc k, (0 < i → 0 < m) → 128 ^ i * m < 18446744073709551616 → i ≤ 9 → k < (uv m).length → rdU i acc ((uv m).take k) = (0, [], 3) := by
  induction m using Nat.strongRecOn with
  | ind m ih =>
    intro i acc k h0 hm hi hk
    have hp : 0 < (128 : Nat) ^ i := Nat.pow_pos (by omega)
    cases k with
    | zero => rw [List.take_zero, rdU_nil]
    | succ k =>
      by_cases h : m < 128
      · rw [uv_small h] at hk; simp at hk
      · have h9 : i ≠ 9 := by
          rintro rfl
          rw [pow128_9] at hm
          omega
        have hs : 128 ^ i * m = 128 ^ i * (m % 128) + 128 ^ (i + 1) * (m / 128) := by
          rw [Nat.pow_succ, Nat.mul_assoc, ← Nat.mul_add]
          congr 1
          omega
        rw [uv_big (by omega)] at hk ⊢
        rw [List.length_cons] at hk
        rw [List.take_succ_cons, rdU_more (by omega) (by omega)]
        exact ih (m / 128) (by omega) (i + 1) _ k (by omega) (by omega) (by omega) (by omega)

theorem rU_uv {m : Nat} (h : m < 18446744073709551616) (rest : List Int) : rU (uv m ++ rest) 0 = (m, rest, 0) := by
  unfold rU
  rw [rdU_uv m 0 0 rest (by omega) (by simpa using h) (by omega)]
  simp

theorem rU_one {l : List Int} {n : Nat} {l' : List Int} (hb : Byt l) (h : rU l 0 = (n, l', 0)) : l = uv n ++ l' ∧ n < 18446744073709551616 := by
  unfold rU at h
  simp only [if_true, Prod.mk.injEq] at h
  have e : rdU 0 0 l = (n, l', 0) := by rw [← h.1, ← h.2.1, ← h.2.2]
  obtain ⟨m, h1, h2, _, h4⟩ := rdU_one l 0 0 n l' hb (by omega) e
  have : n = m := by rw [h2]; simp
  subst this
  exact ⟨h1, by simpa using h4⟩

theorem rU_prefix {m k : Nat} (h : m < 18446744073709551616) (hk : k < (uv m).length) : rU ((uv m).take k) 0 = (0, [], 3) := by
  unfold rU
  rw [rdU_prefix m 0 0 k (by omega) (by simpa using h) (by omega) hk]
  simp

/-- A reader with an error. -/
theorem rU_err {e : Int} (h : e ≠ 0) : rU [] e = (0, [], e) := by
  unfold rU
  rw [rdU_nil, if_neg h]

theorem rU_okay {l : List Int} {e : Int} (h : Okay l e) : (rU l e).2.2 = 0 ∨ (rU l e).2.2 ≠ 0 ∧ (rU l e).1 = 0 ∧ (rU l e).2.1 = [] := by
  rcases h with rfl | ⟨h, rfl⟩
  · have := rdU_okay l 0 0
    unfold rU
    simpa using this
  · rw [rU_err h]
    right
    exact ⟨h, rfl, rfl⟩

theorem rU_left {l : List Int} (hb : Byt l) (e : Int) : Byt (rU l e).2.1 ∧ (rU l e).2.1.length ≤ l.length := rdU_left l 0 0 hb

end Go.Proofs.YtelhpndlejommaaGreat.Hm
