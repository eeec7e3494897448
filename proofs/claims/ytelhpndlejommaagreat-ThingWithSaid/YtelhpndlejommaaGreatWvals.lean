/- Plain mathematics of values: their encodings, and what a reader makes of them: round trip, one encoding, proper prefixes, errors that stick. -/
import Derived.Test.YtelhpndlejommaaGreatRead3
namespace Go.Proofs.YtelhpndlejommaaGreat
open Go.RowKit

/-- A value. -/
structure V where
  kind : Nat
  u : Nat
  n : Int
  b : List Int
  l : List Int

/-- The zero value of a kind. -/
def V.zero (k : Nat) : V := ⟨k, 0, 0, [], []⟩

/-- The encoding of a value. -/
def encV (x : V) : List Int :=
  if x.kind = 0 then Hm.uv x.u else if x.kind = 1 then Hm.uv (Hm.zig x.n) else if x.kind = 2 then [if x.n = 1 then 1 else 0] else if x.kind = 3 ∨ x.kind = 4 then Hm.uv x.b.length ++ x.b else Hm.uv x.l.length ++ encs x.l

/-- What reading a value of a kind returns and leaves. -/
def rdV (k : Nat) (l : List Int) (e : Int) : V × List Int × Int :=
  if k = 0 then (⟨k, (Hm.rU l e).1, 0, [], []⟩, (Hm.rU l e).2) else if k = 1 then (⟨k, 0, Hm.unzig (Hm.rU l e).1, [], []⟩, (Hm.rU l e).2)
  else if k = 2 then (⟨k, 0, if (Hm.rB l e).1 then 1 else 0, [], []⟩, (Hm.rB l e).2) else if k = 3 ∨ k = 4 then (⟨k, 0, 0, (Hm.rRaw l e).1, []⟩, (Hm.rRaw l e).2)
  else (⟨k, 0, 0, [], (Hm.rInts l e).1⟩, (Hm.rInts l e).2)

/-- A list of numbers that a variable of type int can hold. -/
def Nums (l : List Int) : Prop := ∀ z ∈ l, (Lit.int .i64 z).wf = true

theorem i64_wf {a : Int} (h : -9223372036854775808 ≤ a ∧ a ≤ 9223372036854775807) : (Lit.int .i64 a).wf = true := by
  simpa [Lit.wf, IntKind.min, IntKind.max, IntKind.signed, IntKind.bits] using h

/-- A value as they are generated: of its own kind, and not large. -/
structure V.Good (x : V) : Prop where
  kind : x.kind ≤ 5
  u : x.u < 18446744073709551616
  n : -9223372036854775808 ≤ x.n ∧ x.n ≤ 9223372036854775807
  byt : Hm.Byt x.b
  bl : x.b.length ≤ 1000
  nums : Nums x.l
  ll : x.l.length ≤ 1000
  u0 : x.kind ≠ 0 → x.u = 0
  n0 : x.kind ≠ 1 → x.kind ≠ 2 → x.n = 0
  n1 : x.kind = 2 → x.n = 0 ∨ x.n = 1
  b0 : x.kind ≠ 3 → x.kind ≠ 4 → x.b = []
  l0 : x.kind ≠ 5 → x.l = []

theorem encs_cons (c : Int) (l : List Int) : encs (c :: l) = Hm.uv (Hm.zig c) ++ encs l := by simp [encs]

theorem encs_byt (l : List Int) : Hm.Byt (encs l) := by
  induction l with
  | nil => exact Hm.byt_nil
  | cons c l ih => rw [encs_cons]; exact Hm.byt_append (Hm.uv_byt _) ih

theorem encs_ge (l : List Int) : l.length ≤ (encs l).length := by
  induction l with
  | nil => simp
  | cons c l ih =>
    rw [encs_cons, List.length_append, List.length_cons]
    have := Hm.uv_ne (Hm.zig c)
    omega

theorem encV_byt {x : V} (h : Hm.Byt x.b) : Hm.Byt (encV x) := by
  unfold encV
  split
  · exact Hm.uv_byt _
  · split
    · exact Hm.uv_byt _
    · split
      · split <;> exact Hm.byt_cons (by decide) Hm.byt_nil
      · split
        · exact Hm.byt_append (Hm.uv_byt _) h
        · exact Hm.byt_append (Hm.uv_byt _) (encs_byt _)

theorem encV_len {x : V} (h : x.Good) : (encV x).length ≤ 11000 := by
  have h1 := Hm.uv_len h.u
  have h2 := Hm.uv_len (Hm.zig_lt h.n)
  have h3 := Hm.uv_len (n := x.b.length) (by have := h.bl; omega)
  have h4 := Hm.uv_len (n := x.l.length) (by have := h.ll; omega)
  have h5 := encs_len x.l h.nums
  have h6 := h.bl
  have h7 := h.ll
  unfold encV
  split
  · omega
  · split
    · omega
    · split
      · simp
      · split
        · rw [List.length_append]; omega
        · rw [List.length_append]; omega

theorem encV_ne (x : V) : 1 ≤ (encV x).length := by
  unfold encV
  split
  · exact Hm.uv_ne _
  · split
    · exact Hm.uv_ne _
    · split
      · simp
      · split
        · rw [List.length_append]; have := Hm.uv_ne x.b.length; omega
        · rw [List.length_append]; have := Hm.uv_ne x.l.length; omega

theorem rLen_uv {n : Nat} (h : n < 18446744073709551616) (rest : List Int) : Hm.rLen (Hm.uv n ++ rest) 0 = if rest.length < n then (0, [], 3) else (n, rest, 0) := by
  unfold Hm.rLen
  rw [Hm.rU_uv h]
  rfl

theorem rLen_prefix {n k : Nat} (h : n < 18446744073709551616) (hk : k < (Hm.uv n).length) : Hm.rLen ((Hm.uv n).take k) 0 = (0, [], 3) := by
  unfold Hm.rLen
  rw [Hm.rU_prefix h hk]
  rfl

theorem rLen_err {e : Int} (h : e ≠ 0) : Hm.rLen [] e = (0, [], e) := by
  unfold Hm.rLen
  rw [Hm.rU_err h]
  rfl

theorem rLen_one {l l2 : List Int} {n : Nat} (hb : Hm.Byt l) (h : Hm.rLen l 0 = (n, l2, 0)) : l = Hm.uv n ++ l2 ∧ n ≤ l2.length ∧ n < 18446744073709551616 := by
  unfold Hm.rLen at h
  by_cases hc : (Hm.rU l 0).2.1.length < (Hm.rU l 0).1
  · rw [if_pos hc] at h
    simp only [Prod.mk.injEq] at h
    by_cases h0 : (Hm.rU l 0).2.2 = 0
    · rw [if_pos h0] at h
      omega
    · rw [if_neg h0] at h
      exact absurd h.2.2 h0
  · rw [if_neg hc] at h
    rw [h] at hc
    have := Hm.rU_one hb h
    exact ⟨this.1, by simpa using hc, this.2⟩

theorem rRaw_enc (b rest : List Int) (h : b.length < 18446744073709551616) : Hm.rRaw (Hm.uv b.length ++ b ++ rest) 0 = (b, rest, 0) := by
  unfold Hm.rRaw
  rw [List.append_assoc, rLen_uv h, if_neg (by rw [List.length_append]; omega)]
  simp

theorem rRaw_err {e : Int} (h : e ≠ 0) : Hm.rRaw [] e = ([], [], e) := by
  unfold Hm.rRaw
  rw [rLen_err h]
  rfl

theorem rRaw_prefix {b : List Int} {k : Nat} (h : b.length < 18446744073709551616) (hk : k < (Hm.uv b.length ++ b).length) : Hm.rRaw ((Hm.uv b.length ++ b).take k) 0 = ([], [], 3) := by
  unfold Hm.rRaw
  by_cases h1 : k < (Hm.uv b.length).length
  · rw [List.take_append_of_le_length (by omega), rLen_prefix h h1]
    rfl
  · rw [List.length_append] at hk
    have e : (Hm.uv b.length ++ b).take k = Hm.uv b.length ++ b.take (k - (Hm.uv b.length).length) := by rw [List.take_append, List.take_of_length_le (l := Hm.uv b.length) (by omega)]
    rw [e, rLen_uv h, if_pos (by rw [List.length_take]; omega)]
    rfl

theorem rRaw_one {l l2 b : List Int} (hb : Hm.Byt l) (h : Hm.rRaw l 0 = (b, l2, 0)) : l = Hm.uv b.length ++ b ++ l2 := by
  unfold Hm.rRaw at h
  generalize hq : Hm.rLen l 0 = q at h
  obtain ⟨n, l3, e3⟩ := q
  simp only [Prod.mk.injEq] at h
  obtain ⟨rfl, rfl, rfl⟩ := h
  obtain ⟨h1, h2, h3⟩ := rLen_one hb hq
  rw [h1, List.length_take, Nat.min_eq_left h2, List.append_assoc, List.take_append_drop]

theorem rIs_encs (l rest : List Int) (hw : Nums l) : ∀ acc, Hm.rIs l.length (encs l ++ rest) 0 acc = (acc ++ l, rest, 0) := by
  induction l with
  | nil => intro acc; simp [Hm.rIs, encs]
  | cons c l ih =>
    intro acc
    have hc := i64_of_wf (hw c (List.mem_cons_self ..))
    rw [List.length_cons, Hm.rIs, encs_cons, List.append_assoc, Hm.rU_uv (Hm.zig_lt hc), if_pos rfl, Hm.unzig_zig, ih (fun z hz => hw z (List.mem_cons_of_mem _ hz)), List.append_assoc]
    rfl

theorem rIs_prefix (l : List Int) (hw : Nums l) : ∀ acc k, k < (encs l).length → Hm.rIs l.length ((encs l).take k) 0 acc = ([], [], 3) := by
  induction l with
  | nil => intro acc k hk; simp [encs] at hk
  | cons c l ih =>
    intro acc k hk
    have hc := i64_of_wf (hw c (List.mem_cons_self ..))
    rw [encs_cons] at hk ⊢
    rw [List.length_append] at hk
    rw [List.length_cons, Hm.rIs]
    by_cases h1 : k < (Hm.uv (Hm.zig c)).length
    · rw [List.take_append_of_le_length (by omega), Hm.rU_prefix (Hm.zig_lt hc) h1, if_neg (by decide)]
    · have e : (Hm.uv (Hm.zig c) ++ encs l).take k = Hm.uv (Hm.zig c) ++ (encs l).take (k - (Hm.uv (Hm.zig c)).length) := by rw [List.take_append, List.take_of_length_le (l := Hm.uv (Hm.zig c)) (by omega)]
      rw [e, Hm.rU_uv (Hm.zig_lt hc), if_pos rfl]
      exact ih (fun z hz => hw z (List.mem_cons_of_mem _ hz)) _ _ (by omega)

theorem rIs_one (k : Nat) : ∀ (l l2 acc xs : List Int), Hm.Byt l → Hm.rIs k l 0 acc = (xs, l2, 0) → ∃ ys, xs = acc ++ ys ∧ ys.length = k ∧ l = encs ys ++ l2 ∧ Nums ys := by
  induction k with
  | zero =>
    intro l l2 acc xs _ h
    rw [Hm.rIs] at h
    simp only [Prod.mk.injEq] at h
    obtain ⟨rfl, rfl, _⟩ := h
    exact ⟨[], by simp, rfl, by simp [encs], fun z hz => by cases hz⟩
  | succ k ih =>
    intro l l2 acc xs hb h
    rw [Hm.rIs] at h
    by_cases h0 : (Hm.rU l 0).2.2 = 0
    · rw [if_pos h0, h0] at h
      have hr : Hm.rU l 0 = ((Hm.rU l 0).1, (Hm.rU l 0).2.1, 0) := Prod.ext rfl (Prod.ext rfl h0)
      obtain ⟨h1, h2⟩ := Hm.rU_one hb hr
      obtain ⟨ys, hx, hy, hl, hw⟩ := ih _ _ _ _ (Hm.rU_left hb 0).1 h
      refine ⟨Hm.unzig (Hm.rU l 0).1 :: ys, ?_, by rw [List.length_cons, hy], ?_, ?_⟩
      · rw [hx, List.append_assoc]; rfl
      · rw [encs_cons, Hm.zig_unzig, List.append_assoc, ← hl]
        exact h1
      · intro z hz
        rcases List.mem_cons.1 hz with rfl | hz
        · exact i64_wf (Hm.unzig_range h2)
        · exact hw z hz
    · rw [if_neg h0] at h
      simp only [Prod.mk.injEq] at h
      exact absurd h.2.2 h0

theorem rInts_enc (l rest : List Int) (hw : Nums l) (h : l.length < 18446744073709551616) : Hm.rInts (Hm.uv l.length ++ encs l ++ rest) 0 = (l, rest, 0) := by
  unfold Hm.rInts
  have := encs_ge l
  rw [List.append_assoc, rLen_uv h, if_neg (by rw [List.length_append]; omega), rIs_encs l rest hw []]
  rfl

theorem rInts_err {e : Int} (h : e ≠ 0) : Hm.rInts [] e = ([], [], e) := by
  unfold Hm.rInts
  rw [rLen_err h]
  rfl

theorem rInts_prefix {l : List Int} {k : Nat} (hw : Nums l) (h : l.length < 18446744073709551616) (hk : k < (Hm.uv l.length ++ encs l).length) : Hm.rInts ((Hm.uv l.length ++ encs l).take k) 0 = ([], [], 3) := by
  unfold Hm.rInts
  by_cases h1 : k < (Hm.uv l.length).length
  · rw [List.take_append_of_le_length (by omega), rLen_prefix h h1]
    rfl
  · rw [List.length_append] at hk
    have e : (Hm.uv l.length ++ encs l).take k = Hm.uv l.length ++ (encs l).take (k - (Hm.uv l.length).length) := by rw [List.take_append, List.take_of_length_le (l := Hm.uv l.length) (by omega)]
    rw [e, rLen_uv h]
    split
    · rfl
    · exact rIs_prefix l hw [] _ (by omega)

theorem rInts_one {l l2 xs : List Int} (hb : Hm.Byt l) (h : Hm.rInts l 0 = (xs, l2, 0)) : l = Hm.uv xs.length ++ encs xs ++ l2 ∧ Nums xs := by
  unfold Hm.rInts at h
  generalize hq : Hm.rLen l 0 = q at h
  obtain ⟨n, l3, e3⟩ := q
  simp only at h
  by_cases h0 : e3 = 0
  · subst h0
    obtain ⟨h1, h2, h3⟩ := rLen_one hb hq
    have hb3 : Hm.Byt l3 := fun z hz => hb z (by rw [h1]; exact List.mem_append_right _ hz)
    obtain ⟨ys, hx, hy, hl, hw⟩ := rIs_one n l3 l2 [] xs hb3 h
    rw [List.nil_append] at hx
    subst hx
    rw [hy, h1, List.append_assoc, ← hl]
    exact ⟨rfl, hw⟩
  · have hn : n = 0 := by
      unfold Hm.rLen at hq
      by_cases hc : (Hm.rU l 0).2.1.length < (Hm.rU l 0).1
      · rw [if_pos hc] at hq
        exact (congrArg Prod.fst hq).symm
      · rw [if_neg hc] at hq
        rcases Hm.rU_okay (l := l) (e := 0) (.inl rfl) with h1 | h1
        · rw [hq] at h1; exact absurd h1 h0
        · rw [hq] at h1; exact h1.2.1
    subst hn
    rw [Hm.rIs] at h
    simp only [Prod.mk.injEq] at h
    exact absurd h.2.2 h0

theorem rB_err {e : Int} (h : e ≠ 0) : Hm.rB [] e = (false, [], e) := by
  show (false, [], if e = 0 then 3 else e) = _
  rw [if_neg h]

/-- (Round trip.) -/
theorem rdV_enc {x : V} (h : x.Good) (rest : List Int) : rdV x.kind (encV x ++ rest) 0 = (x, rest, 0) := by
  obtain ⟨k, u, n, b, l⟩ := x
  have hk := h.kind
  simp only at hk
  have hu := h.u0
  have hn := h.n0
  have hn1 := h.n1
  have hb := h.b0
  have hl := h.l0
  have hu2 := h.u
  have hn2 := h.n
  have hb2 := h.bl
  have hl2 := h.ll
  have hw := h.nums
  simp only at hu hn hn1 hb hl hu2 hn2 hb2 hl2 hw
  unfold rdV encV
  by_cases h0 : k = 0
  · subst h0
    simp only [if_true, Hm.rU_uv hu2, hn (by omega) (by omega), hb (by omega) (by omega), hl (by omega)]
  · rw [if_neg h0, if_neg h0]
    by_cases h1 : k = 1
    · subst h1
      simp only [if_true, Hm.rU_uv (Hm.zig_lt hn2), Hm.unzig_zig, hu h0, hb (by omega) (by omega), hl (by omega)]
    · rw [if_neg h1, if_neg h1]
      by_cases h2 : k = 2
      · subst h2
        rcases hn1 rfl with rfl | rfl <;> simp [Hm.rB, hu h0, hb (by omega) (by omega), hl (by omega)]
      · rw [if_neg h2, if_neg h2]
        by_cases h3 : k = 3 ∨ k = 4
        · rw [if_pos h3, if_pos h3]
          simp only [rRaw_enc b rest (by omega), hu h0, hn h1 h2, hl (by omega)]
        · rw [if_neg h3, if_neg h3]
          simp only [rInts_enc l rest hw (by omega), hu h0, hn h1 h2, hb (by omega) (by omega)]

/-- A proper prefix of an encoding is too short. -/
theorem rdV_prefix {x : V} (h : x.Good) {k : Nat} (hk : k < (encV x).length) : rdV x.kind ((encV x).take k) 0 = (V.zero x.kind, [], 3) := by
  have hbl := h.bl
  have hll := h.ll
  unfold rdV V.zero
  unfold encV at hk ⊢
  by_cases h0 : x.kind = 0
  · rw [if_pos h0] at hk
    rw [if_pos h0, if_pos h0, Hm.rU_prefix h.u hk]
  · rw [if_neg h0] at hk
    rw [if_neg h0, if_neg h0]
    by_cases h1 : x.kind = 1
    · rw [if_pos h1] at hk
      rw [if_pos h1, if_pos h1, Hm.rU_prefix (Hm.zig_lt h.n) hk]
      rfl
    · rw [if_neg h1] at hk
      rw [if_neg h1, if_neg h1]
      by_cases h2 : x.kind = 2
      · rw [if_pos h2] at hk
        rw [if_pos h2, if_pos h2]
        simp at hk
        subst hk
        rfl
      · rw [if_neg h2] at hk
        rw [if_neg h2, if_neg h2]
        by_cases h3 : x.kind = 3 ∨ x.kind = 4
        · rw [if_pos h3] at hk
          rw [if_pos h3, if_pos h3, rRaw_prefix (by omega) hk]
        · rw [if_neg h3] at hk
          rw [if_neg h3, if_neg h3, rInts_prefix h.nums (by omega) hk]

/-- The first error sticks. -/
theorem rdV_err (k : Nat) {e : Int} (h : e ≠ 0) : rdV k [] e = (V.zero k, [], e) := by
  unfold rdV V.zero
  rw [Hm.rU_err h, rB_err h, rRaw_err h, rInts_err h]
  by_cases h0 : k = 0
  · rw [if_pos h0]
  · rw [if_neg h0]
    by_cases h1 : k = 1
    · rw [if_pos h1]
      have e0 : Hm.unzig 0 = 0 := by decide
      simp only [e0]
    · rw [if_neg h1]
      by_cases h2 : k = 2
      · rw [if_pos h2]; rfl
      · rw [if_neg h2]
        split <;> rfl

/-- (One encoding.) -/
theorem rdV_one {k : Nat} {l l2 : List Int} {x : V} (hb : Hm.Byt l) (h : rdV k l 0 = (x, l2, 0)) : l = encV x ++ l2 := by
  unfold rdV at h
  unfold encV
  by_cases h0 : k = 0
  · rw [if_pos h0] at h
    simp only [Prod.mk.injEq] at h
    obtain ⟨rfl, h⟩ := h
    have hr : Hm.rU l 0 = ((Hm.rU l 0).1, l2, 0) := by rw [← h]
    simp only [h0, if_true]
    exact (Hm.rU_one hb hr).1
  · rw [if_neg h0] at h
    by_cases h1 : k = 1
    · rw [if_pos h1] at h
      simp only [Prod.mk.injEq] at h
      obtain ⟨rfl, h⟩ := h
      have hr : Hm.rU l 0 = ((Hm.rU l 0).1, l2, 0) := by rw [← h]
      simp only [h1, if_true, Hm.zig_unzig]
      exact (Hm.rU_one hb hr).1
    · rw [if_neg h1] at h
      by_cases h2 : k = 2
      · rw [if_pos h2] at h
        simp only [Prod.mk.injEq] at h
        obtain ⟨rfl, h⟩ := h
        simp only [h2, if_true]
        cases l with
        | nil => simp [Hm.rB] at h
        | cons c t =>
          have hc := hb c (List.mem_cons_self ..)
          have hrb : Hm.rB (c :: t) 0 = if 1 < c then (false, [], 2) else (decide (c = 1), t, 0) := rfl
          rw [hrb] at h ⊢
          by_cases c1 : 1 < c
          · rw [if_pos c1] at h; simp at h
          · rw [if_neg c1] at h ⊢
            simp only [Prod.mk.injEq] at h
            obtain ⟨rfl, _⟩ := h
            by_cases c2 : c = 1
            · subst c2; simp
            · obtain rfl : c = 0 := by omega
              simp
      · rw [if_neg h2] at h
        by_cases h3 : k = 3 ∨ k = 4
        · rw [if_pos h3] at h
          simp only [Prod.mk.injEq] at h
          obtain ⟨rfl, h⟩ := h
          simp only [h0, h1, h2, h3, if_true, if_false]
          exact rRaw_one hb (by rw [← h])
        · rw [if_neg h3] at h
          simp only [Prod.mk.injEq] at h
          obtain ⟨rfl, h⟩ := h
          simp only [h0, h1, h2, h3, if_false]
          exact (rInts_one hb (by rw [← h])).1

theorem nums_nil : Nums [] := fun _ hz => nomatch hz

theorem nums_snoc {l : List Int} {z : Int} (h : Nums l) (hz : -9223372036854775808 ≤ z ∧ z ≤ 9223372036854775807) : Nums (l ++ [z]) := fun y hy => by
  rcases List.mem_append.1 hy with hy | hy
  · exact h y hy
  · simp at hy
    subst hy
    exact i64_wf hz

end Go.Proofs.YtelhpndlejommaaGreat
