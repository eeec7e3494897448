import Derived.Test.YtimbgjpjgbjnkaaKit
import Derived.Test.YtimbgjpjgbjnkaaProg
import Derived.Test.YtimbgjpjgbjnkaaSmall
import Derived.OneCell
import Derived.WalkSpells
import Derived.Outline
import Derived.Lib.AppendStr
/- Plain mathematics of the wire: varints, zigzag forms, encodings of values, and what a reader makes of bytes: round trip, one encoding, proper prefixes. -/
namespace Go.Proofs.Ytimbgjpjgbjnkaa.Hm
open Go.RowKit

/-- The varint of a number. -/
def uv (n : Nat) : List Int := if n < 128 then [(n : Int)] else ((n % 128 + 128 : Nat) : Int) :: uv (n / 128)
termination_by n
decreasing_by omega

theorem uv_small {n : Nat} (h : n < 128) : uv n = [(n : Int)] := by rw [uv, if_pos h]

theorem uv_big {n : Nat} (h : 128 ≤ n) : uv n = ((n % 128 + 128 : Nat) : Int) :: uv (n / 128) := by rw [uv, if_neg (by omega)]

theorem byt_cons {c : Int} {l : List Int} (hc : 0 ≤ c ∧ c < 256) (hl : Byt l) : Byt (c :: l) := fun z hz => by
  rcases List.mem_cons.1 hz with rfl | h
  · exact hc
  · exact hl z h

theorem byt_append {a b : List Int} (ha : Byt a) (hb : Byt b) : Byt (a ++ b) := fun z hz => by
  rcases List.mem_append.1 hz with h | h
  · exact ha z h
  · exact hb z h

theorem byt_nil : Byt [] := fun z hz => by cases hz

theorem uv_byt (n : Nat) : Byt (uv n) := by
  induction n using Nat.strongRecOn with
  | ind n ih =>
    by_cases h : n < 128
    · rw [uv_small h]
      exact byt_cons (by omega) byt_nil
    · rw [uv_big (by omega)]
      exact byt_cons (by omega) (ih (n / 128) (by omega))

theorem uv_ne (n : Nat) : 1 ≤ (uv n).length := by
  by_cases h : n < 128
  · rw [uv_small h]; simp
  · rw [uv_big (by omega)]; simp

theorem uv_le (k : Nat) : ∀ n, n < 128 ^ (k + 1) → (uv n).length ≤ k + 1 := by
  induction k with
  | zero =>
    intro n h
    rw [uv_small (by omega)]
    simp
  | succ k ih =>
    intro n h
    by_cases h2 : n < 128
    · rw [uv_small h2]; simp
    · rw [uv_big (by omega), List.length_cons]
      have := ih (n / 128) (by rw [Nat.pow_succ] at h; exact Nat.div_lt_of_lt_mul (by rw [Nat.mul_comm]; exact h))
      omega

theorem uv_len {n : Nat} (h : n < 18446744073709551616) : (uv n).length ≤ 10 := uv_le 9 n (Nat.lt_of_lt_of_le h (by decide))

/-- The zigzag form of a number. -/
def zig (n : Int) : Nat := if n < 0 then (-2 * n - 1).toNat else (2 * n).toNat

theorem zig_lt {n : Int} (h : -9223372036854775808 ≤ n ∧ n ≤ 9223372036854775807) : zig n < 18446744073709551616 := by
  unfold zig; split <;> omega

/-- The number with a zigzag form. -/
def unzig (z : Nat) : Int := if z % 2 = 1 then -((z / 2 : Nat) : Int) - 1 else ((z / 2 : Nat) : Int)

theorem unzig_range {z : Nat} (h : z < 18446744073709551616) : -9223372036854775808 ≤ unzig z ∧ unzig z ≤ 9223372036854775807 := by
  unfold unzig; split <;> omega

theorem unzig_zig (n : Int) : unzig (zig n) = n := by
  unfold unzig zig; split <;> split <;> omega

theorem zig_unzig (z : Nat) : zig (unzig z) = z := by
  unfold unzig zig; split <;> split <;> omega

/-- What a reader makes of the bytes from the i-th byte of a varint on, where acc has come before: the number, the bytes that are left, the error. -/
def rdU : Nat → Nat → List Int → Nat × List Int × Int
  | _, _, [] => (0, [], 3)
  | i, acc, c :: l => if (i = 9 ∧ 1 < c) ∨ (0 < i ∧ c = 0) then (0, [], 2) else if c < 128 then (acc + 128 ^ i * c.toNat, l, 0) else rdU (i + 1) (acc + 128 ^ i * (c.toNat % 128)) l

theorem rdU_nil (i acc : Nat) : rdU i acc [] = (0, [], 3) := by rw [rdU]

theorem rdU_bad {i acc : Nat} {c : Int} {l : List Int} (h : (i = 9 ∧ 1 < c) ∨ (0 < i ∧ c = 0)) : rdU i acc (c :: l) = (0, [], 2) := by rw [rdU, if_pos h]

theorem rdU_last {i acc : Nat} {c : Int} {l : List Int} (h : ¬ ((i = 9 ∧ 1 < c) ∨ (0 < i ∧ c = 0))) (hc : c < 128) : rdU i acc (c :: l) = (acc + 128 ^ i * c.toNat, l, 0) := by
  rw [rdU, if_neg h, if_pos hc]

theorem rdU_more {i acc : Nat} {c : Int} {l : List Int} (h : ¬ ((i = 9 ∧ 1 < c) ∨ (0 < i ∧ c = 0))) (hc : 128 ≤ c) : rdU i acc (c :: l) = rdU (i + 1) (acc + 128 ^ i * (c.toNat % 128)) l := by
  rw [rdU, if_neg h, if_neg (by omega)]

/-- What Uint returns and leaves of the bytes l at the error e. -/
def rU (l : List Int) (e : Int) : Nat × List Int × Int := ((rdU 0 0 l).1, (rdU 0 0 l).2.1, if e = 0 then (rdU 0 0 l).2.2 else e)

/-- What Bool returns and leaves. -/
def rB : List Int → Int → Bool × List Int × Int
  | [], e => (false, [], if e = 0 then 3 else e)
  | c :: l, e => if 1 < c then (false, [], if e = 0 then 2 else e) else (decide (c = 1), l, e)

/-- What the length returns and leaves. -/
def rLen (l : List Int) (e : Int) : Nat × List Int × Int :=
  if (rU l e).2.1.length < (rU l e).1 then (0, [], if (rU l e).2.2 = 0 then 3 else (rU l e).2.2) else rU l e

/-- What Text and Raw return and leave. -/
def rRaw (l : List Int) (e : Int) : List Int × List Int × Int := ((rLen l e).2.1.take (rLen l e).1, (rLen l e).2.1.drop (rLen l e).1, (rLen l e).2.2)

/-- What a list's elements come to, where acc has come before. -/
def rIs : Nat → List Int → Int → List Int → List Int × List Int × Int
  | 0, l, e, acc => (acc, l, e)
  | k + 1, l, e, acc => if (rU l e).2.2 = 0 then rIs k (rU l e).2.1 (rU l e).2.2 (acc ++ [unzig (rU l e).1]) else ([], (rU l e).2.1, (rU l e).2.2)

/-- What Ints returns and leaves. -/
def rInts (l : List Int) (e : Int) : List Int × List Int × Int := rIs (rLen l e).1 (rLen l e).2.1 (rLen l e).2.2 []

/-- What End returns. -/
def rEnd (l : List Int) (e : Int) : Int := if e = 0 ∧ 0 < l.length then 2 else e

/-- A reader drops what is left with its first error. -/
def Okay (l : List Int) (e : Int) : Prop := e = 0 ∨ e ≠ 0 ∧ l = []

theorem rdU_okay (l : List Int) : ∀ i acc, (rdU i acc l).2.2 = 0 ∨ (rdU i acc l).2.2 ≠ 0 ∧ (rdU i acc l).1 = 0 ∧ (rdU i acc l).2.1 = [] := by
  induction l with
  | nil => intro i acc; rw [rdU_nil]; right; simp
  | cons c l ih =>
    intro i acc
    by_cases h : (i = 9 ∧ 1 < c) ∨ (0 < i ∧ c = 0)
    · rw [rdU_bad h]; right; simp
    · by_cases hc : c < 128
      · rw [rdU_last h hc]; left; rfl
      · rw [rdU_more h (by omega)]; exact ih _ _

theorem rdU_left (l : List Int) : ∀ i acc, Byt l → Byt (rdU i acc l).2.1 ∧ (rdU i acc l).2.1.length ≤ l.length := by
  induction l with
  | nil => intro i acc _; rw [rdU_nil]; exact ⟨byt_nil, Nat.le_refl _⟩
  | cons c l ih =>
    intro i acc hb
    have hl : Byt l := fun z hz => hb z (List.mem_cons_of_mem _ hz)
    by_cases h : (i = 9 ∧ 1 < c) ∨ (0 < i ∧ c = 0)
    · rw [rdU_bad h]; exact ⟨byt_nil, by simp⟩
    · by_cases hc : c < 128
      · rw [rdU_last h hc]; exact ⟨hl, by simp⟩
      · rw [rdU_more h (by omega)]
        have := ih (i + 1) (acc + 128 ^ i * (c.toNat % 128)) hl
        exact ⟨this.1, by rw [List.length_cons]; omega⟩

theorem pow128_9 : (128 : Nat) ^ 9 = 9223372036854775808 := by decide

theorem pow128_le {i : Nat} (h : i ≤ 8) : (128 : Nat) ^ i ≤ 72057594037927936 := by
  have : (128 : Nat) ^ i ≤ 128 ^ 8 := Nat.pow_le_pow_right (by omega) h
  have e : (128 : Nat) ^ 8 = 72057594037927936 := by decide
  omega

theorem group_le {i g : Nat} (h : i ≤ 8) (hg : g ≤ 127) : 128 ^ i * g ≤ 9151314442816847872 := by
  have h1 := Nat.mul_le_mul (pow128_le h) hg
  omega

/-- A number that is read is the varint that lay there. -/
theorem rdU_one (l : List Int) : ∀ i acc n l', Byt l → i ≤ 9 → rdU i acc l = (n, l', 0) →
    ∃ m, l = uv m ++ l' ∧ n = acc + 128 ^ i * m ∧ (0 < i → 0 < m) ∧ 128 ^ i * m < 18446744073709551616 := by
  induction l with
  | nil => intro i acc n l' _ _ h; rw [rdU_nil] at h; simp at h
  | cons c l ih =>
    intro i acc n l' hb hi h
    have hl : Byt l := fun z hz => hb z (List.mem_cons_of_mem _ hz)
    have hc := hb c (List.mem_cons_self ..)
    by_cases hbad : (i = 9 ∧ 1 < c) ∨ (0 < i ∧ c = 0)
    · rw [rdU_bad hbad] at h; simp at h
    · by_cases hc1 : c < 128
      · rw [rdU_last hbad hc1] at h
        simp only [Prod.mk.injEq] at h
        obtain ⟨rfl, rfl, _⟩ := h
        refine ⟨c.toNat, ?_, rfl, by omega, ?_⟩
        · rw [uv_small (by omega)]
          simp
          omega
        · by_cases h9 : i = 9
          · subst h9
            have : c.toNat ≤ 1 := by omega
            rw [pow128_9]
            omega
          · have := group_le (i := i) (g := c.toNat) (by omega) (by omega)
            omega
      · have h9 : i ≠ 9 := by omega
        rw [rdU_more hbad (by omega)] at h
        obtain ⟨m, h1, h2, h3, h4⟩ := ih (i + 1) _ n l' hl (by omega) h
        have hm := h3 (by omega)
        refine ⟨c.toNat % 128 + 128 * m, ?_, ?_, by omega, ?_⟩
        · rw [uv_big (by omega), h1]
          have e1 : (c.toNat % 128 + 128 * m) % 128 + 128 = c.toNat := by omega
          have e2 : (c.toNat % 128 + 128 * m) / 128 = m := by omega
          rw [e1, e2, Int.toNat_of_nonneg hc.1]
          rfl
        · rw [h2, Nat.pow_succ, Nat.mul_add, Nat.mul_assoc, Nat.add_assoc]
        · rw [Nat.mul_add, ← Nat.mul_assoc, ← Nat.pow_succ, Nat.succ_eq_add_one]
          have hp : 0 < (128 : Nat) ^ i := Nat.pow_pos (by omega)
          have h6 : 128 ^ i * (c.toNat % 128) ≤ 128 ^ i * 127 := Nat.mul_le_mul_left _ (by omega)
          have h7 : 128 ^ (i + 1) * m ≤ 18446744073709551615 := by omega
          -- both are multiples of 128 ^ i, and so is 2 ^ 64 for i ≤ 9
          by_cases h8 : i = 8
          · subst h8
            have e8 : (128 : Nat) ^ 8 = 72057594037927936 := by decide
            have e9 : (128 : Nat) ^ (8 + 1) = 9223372036854775808 := by decide
            rw [e9] at h4 ⊢
            rw [e8]
            omega
          · obtain ⟨q, hq⟩ : ∃ q, 18446744073709551616 = 128 ^ (i + 1) * q := by
              refine ⟨128 ^ (8 - i - 1 + 1) * 2, ?_⟩
              have e9 : (128 : Nat) ^ 9 = 128 ^ (i + 1) * 128 ^ (8 - i - 1 + 1) := by rw [← Nat.pow_add]; congr 1; omega
              rw [← Nat.mul_assoc, ← e9]
            have hmq : m + 1 ≤ q := by
              rw [hq] at h4
              exact Nat.lt_of_mul_lt_mul_left h4
            have h10 : 128 ^ (i + 1) * (m + 1) ≤ 18446744073709551616 := by rw [hq]; exact Nat.mul_le_mul_left _ hmq
            rw [Nat.mul_add, Nat.mul_one] at h10
            have h11 : 128 ^ i * 127 + 128 ^ i = 128 ^ (i + 1) := by rw [Nat.pow_succ]; omega
            omega

/-- The varint of a number is read back. -/
theorem rdU_uv (m : Nat) : ∀ i acc rest, (0 < i → 0 < m) → 128 ^ i * m < 18446744073709551616 → i ≤ 9 → rdU i acc (uv m ++ rest) = (acc + 128 ^ i * m, rest, 0) := by
  induction m using Nat.strongRecOn with
  | ind m ih =>
    intro i acc rest h0 hm hi
    have hp : 0 < (128 : Nat) ^ i := Nat.pow_pos (by omega)
    by_cases h : m < 128
    · rw [uv_small h, List.singleton_append, rdU_last _ (by omega)]
      · simp
      · rintro (⟨rfl, h9⟩ | ⟨h9, h10⟩)
        · rw [pow128_9] at hm; omega
        · omega
    · have h9 : i ≠ 9 := by
        rintro rfl
        rw [pow128_9] at hm
        omega
      rw [uv_big (by omega), List.cons_append, rdU_more (by omega) (by omega)]
      have e : ((m % 128 + 128 : Nat) : Int).toNat % 128 = m % 128 := by omega
      have hs : 128 ^ i * m = 128 ^ i * (m % 128) + 128 ^ (i + 1) * (m / 128) := by
        rw [Nat.pow_succ, Nat.mul_assoc, ← Nat.mul_add]
        congr 1
        omega
      rw [e, ih (m / 128) (by omega) (i + 1) _ rest (by omega) (by omega) (by omega), hs, Nat.add_assoc]

/-- A proper prefix of a varint is too short. -/
theorem rdU_prefix (m : Nat) : ∀ i acc k, (0 < i → 0 < m) → 128 ^ i * m < 18446744073709551616 → i ≤ 9 → k < (uv m).length → rdU i acc ((uv m).take k) = (0, [], 3) := by
  induction m using Nat.strongRecOn with
  | ind m ih =>
    intro i acc k h0 hm hi hk
    have hp : 0 < (128 : Nat) ^ i := Nat.pow_pos (by omega)
    cases k with
    | zero => rw [List.take_zero, rdU_nil]
    | succ k =>
      by_cases h : m < 128
      · rw [uv_small h] at hk; simp at hk
      · have h9 : i ≠ 9 := by
          rintro rfl
          rw [pow128_9] at hm
          omega
        have hs : 128 ^ i * m = 128 ^ i * (m % 128) + 128 ^ (i + 1) * (m / 128) := by
          rw [Nat.pow_succ, Nat.mul_assoc, ← Nat.mul_add]
          congr 1
          omega
        rw [uv_big (by omega)] at hk ⊢
        rw [List.length_cons] at hk
        rw [List.take_succ_cons, rdU_more (by omega) (by omega)]
        exact ih (m / 128) (by omega) (i + 1) _ k (by omega) (by omega) (by omega) (by omega)

theorem rU_uv {m : Nat} (h : m < 18446744073709551616) (rest : List Int) : rU (uv m ++ rest) 0 = (m, rest, 0) := by
  unfold rU
  rw [rdU_uv m 0 0 rest (by omega) (by simpa using h) (by omega)]
  simp

theorem rU_one {l : List Int} {n : Nat} {l' : List Int} (hb : Byt l) (h : rU l 0 = (n, l', 0)) : l = uv n ++ l' ∧ n < 18446744073709551616 := by
  unfold rU at h
  simp only [if_true, Prod.mk.injEq] at h
  have e : rdU 0 0 l = (n, l', 0) := by rw [← h.1, ← h.2.1, ← h.2.2]
  obtain ⟨m, h1, h2, _, h4⟩ := rdU_one l 0 0 n l' hb (by omega) e
  have : n = m := by rw [h2]; simp
  subst this
  exact ⟨h1, by simpa using h4⟩

theorem rU_prefix {m k : Nat} (h : m < 18446744073709551616) (hk : k < (uv m).length) : rU ((uv m).take k) 0 = (0, [], 3) := by
  unfold rU
  rw [rdU_prefix m 0 0 k (by omega) (by simpa using h) (by omega) hk]
  simp

/-- A reader with an error. -/
theorem rU_err {e : Int} (h : e ≠ 0) : rU [] e = (0, [], e) := by
  unfold rU
  rw [rdU_nil, if_neg h]

theorem rU_okay {l : List Int} {e : Int} (h : Okay l e) : (rU l e).2.2 = 0 ∨ (rU l e).2.2 ≠ 0 ∧ (rU l e).1 = 0 ∧ (rU l e).2.1 = [] := by
  rcases h with rfl | ⟨h, rfl⟩
  · have := rdU_okay l 0 0
    unfold rU
    simpa using this
  · rw [rU_err h]
    right
    exact ⟨h, rfl, rfl⟩

theorem rU_left {l : List Int} (hb : Byt l) (e : Int) : Byt (rU l e).2.1 ∧ (rU l e).2.1.length ≤ l.length := rdU_left l 0 0 hb

end Go.Proofs.Ytimbgjpjgbjnkaa.Hm

/- What the methods of wire.Writer do to the writer's box. -/
namespace Go.Proofs.Ytimbgjpjgbjnkaa
open Go.RowKit Go.Shelf

theorem strCells_bs (s : ByteArray) : Lib.strCells s = (Hm.bs s).map (Value.int .u8) := by
  rw [Lib.strCells, Hm.bs, List.map_map]
  rfl

/-- A readable slice appended to a slice of the call's own: the law at the operation. -/
theorem push_all {P : Program} {ops : Array Oper} {rest : List Oper} {o : Oper} {act : Act} {Q : Exit → Act → World → Prop} {w : World} (hgd : o.guard = none) (s x : Operand) (t : TypeId)
    (ho : o.op = .call { callee := .builtin .append, args := #[s, x], argTypes := #[t, t] }) (k : IntKind) (e : TypeId) (bytes : Nat) (ht : P.underlying t = some (.slice e))
    (info : (P.info? e).map (fun i => (i.zero, i.size, i.bytes)) = some (some (.int k 0), 1, bytes)) (hby : bytes ≤ 8) (B : Nat) (v : Value) (zs : List Int) (sv : Value) (ys : List Int)
    (hs : act.eval s = v) (hx : act.eval x = sv) (hown : Own k e B w v zs) (hE : Els k w sv ys) (hB : B ≤ w.heap.size) (hl : zs.length + ys.length ≤ 1000000000000)
    (h : ∀ a n c w', Hid (n = zs.length + ys.length) → Hid (Own k e B w' (.slice a n c) (zs ++ ys)) → Hid (Below B w w') → wpList P ops Q rest (act.put o.dst (.slice a n c)) w') :
    wpList P ops Q (o :: rest) act w := by
  obtain ⟨i0, hi, hz0, hz1, hz2⟩ := info_parts info
  have fin : ∀ v' w', Own k e B w' v' (zs ++ ys) → Below B w w' → wpList P ops Q rest (act.put o.dst v') w' := by
    intro v' w' hO hb
    obtain ⟨a, n, c, rfl, hn, hO⟩ := Own.slice hO
    refine h a n c w' ?_ hO hb
    have := hn.out
    rw [List.length_append] at this
    exact this
  have some' : ∀ (ad : Addr) (c : Nat), sv = .slice (some ad) ys.length c → (∀ j u, (ys.map (Value.int k))[j]? = some u → w.cell? (ad.add j) = some u) → wpList P ops Q (o :: rest) act w := by
    intro ad c hsv hcells
    subst hsv
    have hmul : (zs.length + ys.length) * bytes ≤ (zs.length + ys.length) * 8 := Nat.mul_le_mul_left _ hby
    refine wpList_append_own _ hgd s x t ho B e i0 (.int k 0) 1 bytes ht hi hz0 hz1 hz2 rfl (by decide) v zs.length _ hs hown ad ys.length c (ys.map (Value.int k)) hx (by simp) hcells (ints_oneCell k ys) (by unfold maxLen; omega) (by omega) hB ?_
    intro v' w1 hown' hgrow _
    refine fin v' w1 ?_ ((Below.refl B w).grown hgrow hB fun j hj => hown.lt j hj)
    unfold Own
    rw [List.length_append, List.map_append]
    exact hown'
  rcases hE with ⟨rfl | ⟨ad, c, rfl⟩, rfl⟩ | ⟨b, off, cap, hb, rfl, hle, hc⟩
  · refine wpList_append_own_none hgd s x t ho B e i0 1 ht hi v zs.length _ hs hown hx ?_
    exact fin v w (by rw [List.append_nil]; exact hown) (Below.refl B w)
  · exact some' ad c rfl (by simp)
  · refine some' ⟨b, off, none⟩ cap rfl ?_
    have := news_at (k := k) (w := w) (b := b) (off := off) (zs := ys) (Nat.le_refl _) hc
    rw [List.take_length] at this
    exact this

/-- A string appended to a slice of bytes of the call's own: the law at the operation. -/
theorem push_str {P : Program} {ops : Array Oper} {rest : List Oper} {o : Oper} {act : Act} {Q : Exit → Act → World → Prop} {w : World} (hgd : o.guard = none) (s x : Operand) (t u : TypeId)
    (ho : o.op = .call { callee := .builtin .append, args := #[s, x], argTypes := #[t, u] }) (e : TypeId) (ht : P.underlying t = some (.slice e)) (hu : P.underlying u = some .string)
    (info : (P.info? e).map (fun i => (i.zero, i.size, i.bytes)) = some (some (.int .u8 0), 1, 1)) (B : Nat) (v : Value) (zs : List Int) (str : ByteArray)
    (hs : act.eval s = v) (hx : act.eval x = .string str) (hown : Own .u8 e B w v zs) (hB : B ≤ w.heap.size) (hl : zs.length + str.size ≤ 1000000000000)
    (h : ∀ a n c w', Hid (n = zs.length + str.size) → Hid (Own .u8 e B w' (.slice a n c) (zs ++ Hm.bs str)) → Hid (Below B w w') → wpList P ops Q rest (act.put o.dst (.slice a n c)) w') :
    wpList P ops Q (o :: rest) act w := by
  obtain ⟨i0, hi, hz0, hz1, hz2⟩ := info_parts info
  refine Lib.wpList_append_own_string _ hgd s x t u ho B e i0 ht hu hi hz0 hz1 hz2 v zs.length _ hs hown str hx (by unfold maxLen; omega) (by omega) hB ?_
  intro v' w1 hown' hgrow _
  have hO : Own .u8 e B w1 v' (zs ++ Hm.bs str) := by
    unfold Own
    rw [List.length_append, List.map_append, Hm.bs_length, ← strCells_bs]
    exact hown'
  obtain ⟨a, n, c, rfl, hn, hO⟩ := Own.slice hO
  refine h a n c w1 ?_ hO ((Below.refl B w).grown hgrow hB fun j hj => hown.lt j hj)
  have := hn.out
  rw [List.length_append, Hm.bs_length] at this
  exact this

/-- Block p is a box of one cell that holds a slice of the call's own, from block B on, with the bytes zs. -/
def Wr (p B : Nat) (w : World) (zs : List Int) : Prop :=
  ∃ v T, p < B ∧ B ≤ w.heap.size ∧ w.heap[p]? = some (.cells #[v] T (0, 0)) ∧ Own .u8 5 B w v zs

/-- What the walk wants of it. -/
theorem Wr.open {p B : Nat} {w : World} {zs : List Int} (h : Wr p B w zs) :
    ∃ a n c, w.cell? ⟨p, 0, none⟩ = some (.slice a n c) ∧ w.frozen? ⟨p, 0, none⟩ = false ∧ Hid (n = zs.length) ∧ Hid (Own .u8 5 B w (.slice a n c) zs) := by
  obtain ⟨v, T, hp, hB, hb, hO⟩ := h
  obtain ⟨a, n, c, rfl, hn, hO⟩ := hO.slice
  exact ⟨a, n, c, cell_of_one hb, free_of_one hb, hn, hO⟩

theorem Wr.lt {p B : Nat} {w : World} {zs : List Int} (h : Wr p B w zs) : p < B ∧ B ≤ w.heap.size := by
  obtain ⟨v, T, hp, hB, _⟩ := h
  exact ⟨hp, hB⟩

/-- A step that leaves the blocks from p on as they were. -/
theorem Wr.keep {p B : Nat} {w w' : World} {zs : List Int} (h : Wr p B w zs) (hs : w.heap.size ≤ w'.heap.size) (hk : ∀ k, p ≤ k → k < w.heap.size → w'.heap[k]? = w.heap[k]?) : Wr p B w' zs := by
  obtain ⟨v, T, hp, hB, hb, hx, hO⟩ := h
  refine ⟨v, T, hp, by omega, (hk p (Nat.le_refl _) (by omega)).trans hb, hx, ?_⟩
  rcases hO with hv | ⟨g, cap, cur, hv, hg, hc, hr⟩
  · exact .inl hv
  · exact .inr ⟨g, cap, cur, hv, hg, (hk g (by omega) (Array.getElem?_eq_some_iff.1 hc).1).trans hc, hr⟩

theorem Wr.below {p B : Nat} {w w' : World} {zs : List Int} (h : Wr p B w zs) (hB : Below w.heap.size w w') : Wr p B w' zs :=
  h.keep hB.size fun k _ hk => hB.block k hk

/-- A step that leaves all but later blocks of the call's own as they were, and then the store. -/
theorem Wr.put {p B : Nat} {w w' : World} {zs ys : List Int} {v : Value} (h : Wr p B w zs) (hB : Below B w w') (hO : Own .u8 5 B w' v ys) : Wr p B (w'.setCell ⟨p, 0, none⟩ v) ys := by
  obtain ⟨u, T, hp, hb0, hb, _⟩ := h
  refine ⟨v, T, hp, ?_, one_setCell ((hB.block p hp).trans hb), ownsRow_setCell_below hO hp v⟩
  have := hB.size
  simp [World.setCell]
  omega

theorem Wr.there {p B : Nat} {w w' : World} {zs : List Int} (h : Wr p B w zs) (hB : Below B w w') {v : Value} (hc : w.cell? ⟨p, 0, none⟩ = some v) (hf : w.frozen? ⟨p, 0, none⟩ = false) :
    w'.cell? ⟨p, 0, none⟩ = some v ∧ w'.frozen? ⟨p, 0, none⟩ = false :=
  ⟨(hB.cell (p := ⟨p, 0, none⟩) h.lt.1).trans hc, (hB.frozen (p := ⟨p, 0, none⟩) h.lt.1).trans hf⟩

/-- A new writer. -/
theorem Wr.new (w : World) (T : TypeId) : Wr w.heap.size (w.heap.size + 1) (w.alloc (.cells #[.slice none 0 0] T)) [] :=
  ⟨_, T, Nat.lt_succ_self _, by simp, World.alloc_heap_new w _, World.ownsRow_nil _ _ _ _⟩

theorem below_put {p B : Nat} {w w' : World} {v : Value} (hp : p ≤ B) (hB : Below B w w') : Below p w (w'.setCell ⟨p, 0, none⟩ v) := (hB.mono hp).setCell (Nat.le_refl _) v

theorem xor_i64_zero (a : Int) : bits .xor .i64 a 0 = IntKind.i64.wrap a := by
  show IntKind.i64.wrap ((BitVec.ofInt 64 a ^^^ BitVec.ofInt 64 0).toNat : Int) = _
  have h1 : BitVec.ofInt 64 0 = 0#64 := rfl
  rw [h1, BitVec.xor_zero, BitVec.toNat_ofInt, IntKind.wrap_i64, IntKind.wrap_i64]
  omega

theorem xor_i64_ones (a : Int) : bits .xor .i64 a (-1) = IntKind.i64.wrap (-a - 1) := by
  show IntKind.i64.wrap ((BitVec.ofInt 64 a ^^^ BitVec.ofInt 64 (-1)).toNat : Int) = _
  have h1 : BitVec.ofInt 64 (-1) = BitVec.allOnes 64 := by decide
  rw [h1, BitVec.xor_allOnes, BitVec.toNat_not, BitVec.toNat_ofInt, IntKind.wrap_i64, IntKind.wrap_i64]
  omega

/-- The zigzag form as the writer computes it. -/
theorem zig_spelt (n : Int) (h : -9223372036854775808 ≤ n ∧ n ≤ 9223372036854775807) : IntKind.u64.wrap (bits .xor .i64 (wrap64 (n * 2)) (n / 9223372036854775808)) = (Hm.zig n : Int) := by
  by_cases h0 : n < 0
  · have e : n / 9223372036854775808 = -1 := by omega
    rw [e, xor_i64_ones, IntKind.wrap_i64, IntKind.wrap_u64, Hm.zig, if_pos h0]
    unfold wrap64
    omega
  · have e : n / 9223372036854775808 = 0 := by omega
    rw [e, xor_i64_zero, IntKind.wrap_i64, IntKind.wrap_u64, Hm.zig, if_neg h0]
    unfold wrap64
    omega

/-- And back, as the reader does. -/
theorem and_one (z : Nat) (h : z < 18446744073709551616) : bits .and .u64 (z : Int) 1 = ((z % 2 : Nat) : Int) := by
  rw [show (1 : Int) = ((1 : Nat) : Int) from rfl, bits_and_u64_nat _ _ h (by decide), nat_mask1]

theorem unzig_spelt (z : Nat) (h : z < 18446744073709551616) : bits .xor .i64 ((z : Int) / 2) (-((z % 2 : Nat) : Int)) = Hm.unzig z := by
  rcases Nat.mod_two_eq_zero_or_one z with e | e
  · rw [e, Int.natCast_zero, Int.neg_zero, xor_i64_zero, IntKind.wrap_i64, Hm.unzig, if_neg (by omega)]
    omega
  · rw [e, show -((1 : Nat) : Int) = -1 from rfl, xor_i64_ones, IntKind.wrap_i64, Hm.unzig, if_pos e]
    omega

/-- The slice leads to a block below p, or it has no elements. -/
def LowEls (p : Nat) (sv : Value) : Prop := Emp sv ∨ ∃ b off n cap, b < p ∧ sv = .slice (some ⟨b, off, none⟩) n cap

theorem Els.low {k : IntKind} {p : Nat} {w w' : World} {sv : Value} {zs : List Int} (h : Els k w sv zs) (hl : LowEls p sv) (hB : Below p w w') : Els k w' sv zs := by
  rcases h with ⟨he, hz⟩ | ⟨b, off, cap, hb, rfl, hle, hc⟩
  · exact .inl ⟨he, hz⟩
  · have hb2 := Nat.lt_of_lt_of_le hb hB.size
    rcases hl with he | ⟨b2, off2, n2, cap2, hlt, he⟩
    · refine .inr ⟨b, off, cap, hb2, rfl, hle, ?_⟩
      intro j hj
      rcases he with he | ⟨x, c2, he⟩
      · cases he
      · simp only [Value.slice.injEq] at he
        omega
    · cases he
      exact .inr ⟨b, off, cap, hb2, rfl, hle, fun j hj => (hB.cell (p := ⟨b, off + j, none⟩) hlt).trans (hc j hj)⟩

theorem LowEls.mono {p q : Nat} {sv : Value} (h : LowEls p sv) (hp : p ≤ q) : LowEls q sv := by
  rcases h with h | ⟨b, off, n, cap, hb, h⟩
  · exact .inl h
  · exact .inr ⟨b, off, n, cap, by omega, h⟩

theorem Els.lows {k : IntKind} {w : World} {sv : Value} {zs : List Int} (h : Els k w sv zs) : LowEls w.heap.size sv := by
  rcases h with ⟨he, hz⟩ | ⟨b, off, cap, hb, rfl, hle, hc⟩
  · exact .inl he
  · exact .inr ⟨b, off, _, cap, hb, rfl⟩

theorem below_new' {w w1 : World} {o : Obj} (h : Below w.heap.size (w.alloc o) w1) : Below w.heap.size w w1 := ((Below.refl _ w).alloc (Nat.le_refl _) o).trans h

theorem or128 (m : Nat) : bits .or .u8 ((m : Int) % 256) 128 = ((m % 128 + 128 : Nat) : Int) := by
  have e : ((m : Int) % 256) = ((m % 256 : Nat) : Int) := by omega
  rw [e, show (128 : Int) = ((128 : Nat) : Int) from rfl, u8_or_nat _ _ (by omega) (by omega)]
  have h : m % 256 ||| 128 = m % 128 + 128 := by
    have h1 : m % 256 = m % 128 + 128 * (m / 128 % 2) := by omega
    rcases Nat.mod_two_eq_zero_or_one (m / 128) with h2 | h2
    · rw [h1, h2, Nat.mul_zero, Nat.add_zero, Nat.or_comm, nat_join 7 128 (m % 128) (by decide) (by omega)]
      omega
    · rw [h1, h2, Nat.mul_one, Nat.or_comm]
      have h3 := nat_join 7 128 (m % 128) (by decide) (by omega)
      have h4 : m % 128 + 128 = 128 ||| m % 128 := by rw [h3]; omega
      rw [h4, ← Nat.or_assoc, Nat.or_self]
  rw [h]

set_option maxRecDepth 100000 in
set_option maxHeartbeats 1000000 in
theorem wuint_any (p B n : Nat) (zs : List Int) (w : World) (hn : n < 18446744073709551616) (hz : zs.length ≤ 100000000000) (h : Wr p B w zs) :
    Calls Try.prog 98 #[.pointer (some ⟨p, 0, none⟩), .int .u64 n] w fun e w' => e = .returned (.tuple #[]) ∧ Wr p B w' (zs ++ Hm.uv n) ∧ Below p w w' := by
  have HH := Lib.hid h
  have hl := Hm.uv_len hn
  have HL := Lib.hid hl
  have HI := Lib.hid Try.infoU8
  have HN := Lib.hid hn
  have HZ := Lib.hid hz
  clear h hl hn hz
  go_enter Try.func98, Try.ntmps98
  go_wp2
  go_loopw [1] (fun v wr => ∃ m : Nat, ∃ acc : List Int, Hid (m < 18446744073709551616) ∧ v = .int .u64 m ∧ Hid (acc ++ Hm.uv m = Hm.uv n) ∧ Hid (Wr p B wr (zs ++ acc)) ∧ Hid (Below p w wr)) (fun v _ => (intOf v).toNat)
  case atStart => exact ⟨n, [], HN, rfl, rfl, by rw [List.append_nil]; exact HH.out, Below.refl _ _⟩
  case round =>
    obtain ⟨m, acc, hm, rfl, hacc, hW, hB⟩ := hrel
    have hlen := Lib.hid (show (zs ++ acc).length ≤ 1000000000000 by have h1 := congrArg List.length hacc.out; have h2 := HL.out; have h3 := HZ.out; rw [List.length_append] at h1 ⊢; omega)
    obtain ⟨a, l, c, hc, hf, hln, hO⟩ := hW.out.open
    have hpB := hW.out.lt
    obtain ⟨hpB, hBw⟩ := hpB
    by_cases hlt : 128 ≤ m
    · have hlt2 : (128 : Int) ≤ m := by omega
      go_wp2_with (at_builtin; refine push_own rfl _ _ 58 rfl .u8 5 1 Try.underlying58 HI.out (by decide) B (.slice a l c) (zs ++ acc) _ _ rfl rfl hO.out hBw (by have := hlen.out; omega) ?_; intro a2 n2 c2 w2 hn2 hO2 hB2; obtain ⟨hc2, hf2⟩ := hW.out.there hB2.out hc hf)
      go_roundw
      case rel => exact ⟨m / 128, acc ++ [((m % 128 + 128 : Nat) : Int)], (by have := hm.out; show _ < _; omega), by go_num, (by show _ = _; rw [List.append_assoc, List.singleton_append, ← Hm.uv_big hlt]; exact hacc.out), (by have := hW.out.put hB2.out hO2.out; rw [or128, List.append_assoc] at this; exact this), hB.out.trans (below_put (by omega) hB2.out)⟩
      case measure => simp [intOf]; omega
    · have hlt2 : (m : Int) < 128 := by omega
      go_wp2_with (at_builtin; refine push_own rfl _ _ 58 rfl .u8 5 1 Try.underlying58 HI.out (by decide) B (.slice a l c) (zs ++ acc) _ _ rfl rfl hO.out hBw (by have := hlen.out; omega) ?_; intro a2 n2 c2 w2 hn2 hO2 hB2; obtain ⟨hc2, hf2⟩ := hW.out.there hB2.out hc hf)
      go_end0
      have hO3 := hO2.out
      have e8 : (m : Int) % 256 = (m : Int) := by omega
      have e2 := hacc.out
      rw [Hm.uv_small (by omega)] at e2
      refine ⟨rfl, ?_, hB.out.trans (below_put (by omega) hB2.out)⟩
      rw [← e2]
      first | rw [e8] at hO3 | skip
      rw [List.append_assoc] at hO3
      exact hW.out.put hB2.out hO3

set_option maxRecDepth 100000 in
set_option maxHeartbeats 1000000 in
theorem wbool_any (p B : Nat) (b : Bool) (zs : List Int) (w : World) (hz : zs.length ≤ 100000000000) (h : Wr p B w zs) :
    Calls Try.prog 74 #[.pointer (some ⟨p, 0, none⟩), .bool b] w fun e w' => e = .returned (.tuple #[]) ∧ Wr p B w' (zs ++ [if b then 1 else 0]) ∧ Below p w w' := by
  have HI := Lib.hid Try.infoU8
  have HZ := Lib.hid hz
  have HH := Lib.hid h
  obtain ⟨a, l, c, hc, hf, hln, hO⟩ := h.open
  obtain ⟨hpB, hBw⟩ := h.lt
  clear h hz
  cases b
  all_goals
    go_enter Try.func74, Try.ntmps74
    go_wp2_with (at_builtin; refine push_own rfl _ _ 58 rfl .u8 5 1 Try.underlying58 HI.out (by decide) B (.slice a l c) zs _ _ rfl rfl hO.out hBw (by have := HZ.out; omega) ?_; intro a2 n2 c2 w2 hn2 hO2 hB2; obtain ⟨hc2, hf2⟩ := HH.out.there hB2.out hc hf)
    go_end0
    exact ⟨rfl, HH.out.put hB2.out hO2.out, below_put (by omega) hB2.out⟩

theorem wclone_nil (w : World) :
    Calls Try.prog 78 #[.slice none 0 0] w fun e w' => Makes .u8 5 [] w e w' := by
  have q22 : ∀ (w : World) (a : Option Addr) (n c n' c' : Nat), (binOp .eql 58 (.slice a n c) (.slice none n' c')).run Try.prog w = .ok (.bool a.isNone) w := fun w a n c n' c' => Lib.run_eql_slice_nil w _ _ a n c n' c' Try.underlying58
  go_enter Try.func78, Try.ntmps78
  go_wp2
  go_ret
  exact makes_of (World.ownsRow_nil _ _ _ _) (Below.refl _ _)

theorem wclone_some (x : Addr) (n c : Nat) (zs : List Int) (w : World) (hz : zs.length ≤ 100000000000) (h : Els .u8 w (.slice (some x) n c) zs) :
    Calls Try.prog 78 #[.slice (some x) n c] w fun e w' => Makes .u8 5 zs w e w' := by
  have q22 : ∀ (w : World) (a : Option Addr) (n c n' c' : Nat), (binOp .eql 58 (.slice a n c) (.slice none n' c')).run Try.prog w = .ok (.bool a.isNone) w := fun w a n c n' c' => Lib.run_eql_slice_nil w _ _ a n c n' c' Try.underlying58
  have HI := Lib.hid Try.infoU8
  have HZ := Lib.hid hz
  have HE := Lib.hid h
  clear h hz
  go_enter Try.func78, Try.ntmps78
  go_wp2_with (at_builtin; go_loud (refine push_all rfl _ _ 58 rfl .u8 5 1 Try.underlying58 HI.out (by decide) w.heap.size _ [] _ zs rfl rfl (World.ownsRow_made w #[] 0 (Nat.le_refl _) (Nat.zero_le _) rfl) (HE.out.below ((Below.refl _ w).alloc (Nat.le_refl _) _)) (by simp) (by have := HZ.out; simp; omega) ?_); intro a2 n2 c2 w2 hn2 hO2 hB2)
  go_ret
  exact makes_of hO2.out (below_new' hB2.out)

theorem wclone_any (sv : Value) (zs : List Int) (w : World) (hz : zs.length ≤ 100000000000) (h : Els .u8 w sv zs) :
    Calls Try.prog 78 #[sv] w fun e w' => Makes .u8 5 zs w e w' := by
  obtain ⟨a, c, rfl⟩ := h.shape
  cases a with
  | some x => exact wclone_some x _ c zs w hz h
  | none =>
    rcases h with ⟨he, rfl⟩ | ⟨b, off, cap, hb, he, hl, hc⟩
    · rcases he with he | ⟨x, cap, he⟩
      · cases he
        exact wclone_nil w
      · cases he
    · cases he

set_option maxRecDepth 100000 in
set_option maxHeartbeats 1000000 in
theorem wint_any (p B : Nat) (n : Int) (zs : List Int) (w : World) (hn : -9223372036854775808 ≤ n ∧ n ≤ 9223372036854775807) (hz : zs.length ≤ 90000000000) (h : Wr p B w zs) :
    Calls Try.prog 73 #[.pointer (some ⟨p, 0, none⟩), .int .i64 n] w fun e w' => e = .returned (.tuple #[]) ∧ Wr p B w' (zs ++ Hm.uv (Hm.zig n)) ∧ Below p w w' := by
  have K := Lib.hid (wuint_any p B (Hm.zig n) zs w (Hm.zig_lt hn) (by omega) h)
  rw [← zig_spelt n hn] at K
  obtain ⟨hn1, hn2⟩ := hn
  clear h hz
  go_enter Try.func73, Try.ntmps73
  go_wp2_with fail
  (with_reducible refine K.out.mono ?_)
  rintro e w1 ⟨rfl, hW1, hB1⟩
  have HW := Lib.hid hW1
  have HB := Lib.hid hB1
  clear hW1 hB1
  go_wp2_with fail
  go_end0
  exact ⟨rfl, HW.out, HB.out⟩

/-- Done: a copy of what has been written. -/
theorem wdone_any (p B : Nat) (zs : List Int) (w : World) (hz : zs.length ≤ 90000000000) (h : Wr p B w zs) :
    Calls Try.prog 75 #[.pointer (some ⟨p, 0, none⟩)] w fun e w' => Makes .u8 5 zs w e w' := by
  obtain ⟨a, l, c, hc, hf, hln, hO⟩ := h.open
  have K := Lib.hid (wclone_any _ zs w (by omega) hO.out.els)
  clear h hz
  go_enter Try.func75, Try.ntmps75
  go_wp2_with fail
  (with_reducible refine K.out.mono ?_)
  rintro e w1 ⟨a1, n1, c1, rfl, HN1, O1, hB1⟩
  go_wp2_with fail
  go_ret
  exact ⟨_, _, _, rfl, HN1, O1, hB1⟩

end Go.Proofs.Ytimbgjpjgbjnkaa



/- What the methods of wire.Reader return, and what they do to the reader's box; a list written by wire.Writer. -/
namespace Go.Proofs.Ytimbgjpjgbjnkaa
open Go.RowKit Go.Shelf

/-- The encoding of a list's elements. -/
def encs (l : List Int) : List Int := (l.map fun n => Hm.uv (Hm.zig n)).flatten

theorem encs_snoc (l : List Int) (n : Int) : encs (l ++ [n]) = encs l ++ Hm.uv (Hm.zig n) := by simp [encs]

theorem encs_len (l : List Int) (h : ∀ z ∈ l, (Lit.int .i64 z).wf = true) : (encs l).length ≤ 10 * l.length := by
  induction l with
  | nil => simp [encs]
  | cons c l ih =>
    have h1 := Hm.uv_len (Hm.zig_lt (i64_of_wf (h c (List.mem_cons_self ..))))
    have h2 := ih fun z hz => h z (List.mem_cons_of_mem _ hz)
    simp only [encs, List.map_cons, List.flatten_cons, List.length_append, List.length_cons] at h2 ⊢
    omega

theorem wf_at {l : List Int} (h : ∀ z ∈ l, (Lit.int .i64 z).wf = true) (k : Nat) : -9223372036854775808 ≤ l[k]?.getD 0 ∧ l[k]?.getD 0 ≤ 9223372036854775807 := by
  by_cases hk : k < l.length
  · rw [List.getElem?_eq_getElem hk]; exact i64_of_wf (h _ (List.getElem_mem hk))
  · rw [List.getElem?_eq_none (by omega)]; simp

theorem take_snoc' (l : List Int) (k : Nat) (h : k < l.length) : l.take (k + 1) = l.take k ++ [l[k]?.getD 0] := by
  rw [List.take_succ_eq_append_getElem h, List.getElem?_eq_getElem h]
  rfl


theorem grown_trans {p : Nat} {a b c : World} (h : a.grownBy b (some p)) (k : b.grownBy c (some p)) : a.grownBy c (some p) :=
  ⟨k.os.trans h.os, k.tape.trans h.tape, k.output.trans h.output, Nat.le_trans h.size k.size, fun i hi hr => (k.block i (Nat.lt_of_lt_of_le hi h.size) hr).trans (h.block i hi hr)⟩

theorem grown_refl (p : Nat) (w : World) : w.grownBy w (some p) := ⟨rfl, rfl, rfl, Nat.le_refl _, fun _ _ _ => rfl⟩

theorem grown_set (p o : Nat) (w : World) (v : Value) : w.grownBy (w.setCell ⟨p, o, none⟩ v) (some p) :=
  ⟨rfl, rfl, rfl, by simp [World.setCell], fun k _ hr => Below.heap_setCell w _ v k (fun h => hr (by rw [h]))⟩

theorem grown_below {p : Nat} {a b : World} (h : Below a.heap.size a b) : a.grownBy b (some p) := ⟨h.os, h.tape, h.output, h.size, fun k hk _ => h.block k hk⟩

/-- Block p is a box of a slice and an error: the slice holds the bytes l, in block d, or none. -/
def Rd (p d : Nat) (w : World) (l : List Int) (e : Int) : Prop :=
  ∃ v T, w.heap[p]? = some (.cells #[v, .int .i64 e] T (0, 0)) ∧ ((Emp v ∧ l = []) ∨ (p ≠ d ∧ d < w.heap.size ∧ Elems .u8 d w v l))

theorem Rd.lt {p d : Nat} {w : World} {l : List Int} {e : Int} (h : Rd p d w l e) : p < w.heap.size := by
  obtain ⟨v, T, hb, _⟩ := h
  exact (Array.getElem?_eq_some_iff.1 hb).1

/-- What the walk wants of it. -/
theorem Rd.open {p d : Nat} {w : World} {l : List Int} {e : Int} (h : Rd p d w l e) :
    ∃ a n c, w.cell? ⟨p, 0, none⟩ = some (.slice a n c) ∧ w.cell? ⟨p, 1, none⟩ = some (.int .i64 e) ∧ w.frozen? ⟨p, 0, none⟩ = false ∧ w.frozen? ⟨p, 1, none⟩ = false ∧ Hid (n = l.length) ∧ n ≤ c ∧
      Hid ((Emp (.slice a n c) ∧ l = []) ∨ (p ≠ d ∧ d < w.heap.size ∧ Elems .u8 d w (.slice a n c) l)) := by
  obtain ⟨v, T, hb, hv⟩ := h
  have hs : ∃ a n c, v = .slice a n c ∧ n = l.length ∧ n ≤ c := by
    rcases hv with ⟨rfl | ⟨x, cap, rfl⟩, rfl⟩ | ⟨_, _, ⟨he, rfl⟩ | ⟨off, cap, rfl, hl, _⟩⟩
    · exact ⟨_, _, _, rfl, rfl, Nat.le_refl _⟩
    · exact ⟨_, _, _, rfl, rfl, Nat.zero_le _⟩
    · obtain ⟨a, c, rfl⟩ := he.shape
      exact ⟨_, _, _, rfl, rfl, Nat.zero_le _⟩
    · exact ⟨_, _, _, rfl, rfl, hl⟩
  obtain ⟨a, n, c, rfl, hn, hc⟩ := hs
  exact ⟨a, n, c, by simp [World.cell?, hb], by simp [World.cell?, hb], by simp [World.frozen?, hb], by simp [World.frozen?, hb], hn, hc, hv⟩

/-- The first error sticks. -/
def stk (e e1 : Int) : Int := if e = 0 then e1 else e

/-- A step that leaves the box and the bytes as they were. -/
theorem Rd.keep {p d : Nat} {w w' : World} {l : List Int} {e : Int} (h : Rd p d w l e) (hs : w.heap.size ≤ w'.heap.size) (hp : w'.heap[p]? = w.heap[p]?) (hd : d < w.heap.size → w'.heap[d]? = w.heap[d]?) : Rd p d w' l e := by
  obtain ⟨v, T, hb, hv⟩ := h
  refine ⟨v, T, hp.trans hb, ?_⟩
  rcases hv with hv | ⟨hne, hlt, hE⟩
  · exact .inl hv
  · exact .inr ⟨hne, by omega, hE.keep (hd hlt)⟩

theorem Rd.below {p d : Nat} {w w' : World} {l : List Int} {e : Int} (h : Rd p d w l e) (hB : Below w.heap.size w w') : Rd p d w' l e :=
  h.keep hB.size (hB.block p h.lt) fun hd => hB.block d hd

theorem two_set0 {w : World} {p : Nat} {v u x : Value} {T : TypeId} (h : w.heap[p]? = some (.cells #[v, x] T (0, 0))) : (w.setCell ⟨p, 0, none⟩ u).heap[p]? = some (.cells #[u, x] T (0, 0)) := by
  simp [World.setCell, Array.getElem?_modify, h]

theorem two_set1 {w : World} {p : Nat} {v u x : Value} {T : TypeId} (h : w.heap[p]? = some (.cells #[v, x] T (0, 0))) : (w.setCell ⟨p, 1, none⟩ u).heap[p]? = some (.cells #[v, u] T (0, 0)) := by
  simp [World.setCell, Array.getElem?_modify, h]

/-- What is left is set. -/
theorem Rd.left {p d : Nat} {w : World} {l l' : List Int} {e : Int} {v : Value} (h : Rd p d w l e) (hv : (Emp v ∧ l' = []) ∨ (p ≠ d ∧ d < w.heap.size ∧ Elems .u8 d w v l')) : Rd p d (w.setCell ⟨p, 0, none⟩ v) l' e := by
  obtain ⟨u, T, hb, _⟩ := h
  refine ⟨v, T, two_set0 hb, ?_⟩
  rcases hv with hv | ⟨hne, hlt, hE⟩
  · exact .inl hv
  · exact .inr ⟨hne, by simpa [World.setCell] using hlt, hE.keep (Below.heap_setCell w _ v d (Ne.symm hne))⟩

/-- The error is set. -/
theorem Rd.err {p d : Nat} {w : World} {l : List Int} {e e' : Int} (h : Rd p d w l e) : Rd p d (w.setCell ⟨p, 1, none⟩ (.int .i64 e')) l e' := by
  obtain ⟨u, T, hb, hv⟩ := h
  refine ⟨u, T, two_set1 hb, ?_⟩
  rcases hv with hv | ⟨hne, hlt, hE⟩
  · exact .inl hv
  · exact .inr ⟨hne, by simpa [World.setCell] using hlt, hE.keep (Below.heap_setCell w _ _ d (Ne.symm hne))⟩

set_option maxRecDepth 100000 in
set_option maxHeartbeats 1000000 in
theorem rfail_any (p d : Nat) (l : List Int) (e e1 : Int) (w : World) (h : Rd p d w l e) :
    Calls Try.prog 100 #[.pointer (some ⟨p, 0, none⟩), .int .i64 e1] w fun x w' => x = .returned (.tuple #[]) ∧ Rd p d w' [] (stk e e1) ∧ w.grownBy w' (some p) := by
  obtain ⟨a, n, c, h0, h1, f0, f1, hn, hnc, hv⟩ := h.open
  have HH := Lib.hid h
  clear h
  by_cases he : e = 0
  · subst he
    go_enter Try.func100, Try.ntmps100
    go_wp2
    go_end0
    exact ⟨rfl, (HH.out.err (e' := stk 0 e1)).left (.inl ⟨.inl rfl, rfl⟩), grown_trans (grown_set _ _ _ _) (grown_set _ _ _ _)⟩
  · have he1 : (e == 0) = false := by simpa using he
    have HE := Lib.hid he
    clear he
    go_enter Try.func100, Try.ntmps100
    go_wp2
    go_end0
    refine ⟨rfl, ?_, grown_set _ _ _ _⟩
    rw [stk, if_neg HE.out]
    exact HH.out.left (.inl ⟨.inl rfl, rfl⟩)

/-- What take leaves: a slice of the first n bytes, and the reader behind them. -/
def Took (p d : Nat) (w : World) (t l : List Int) (e : Int) (x : Ending) (w' : World) : Prop :=
  ∃ a n c, x = .returned (.slice a n c) ∧ Hid (n = t.length) ∧ Hid ((Emp (.slice a n c) ∧ t = []) ∨ (p ≠ d ∧ d < w'.heap.size ∧ Elems .u8 d w' (.slice a n c) t)) ∧ Hid (Rd p d w' l e) ∧ Hid (w.grownBy w' (some p))

theorem took_mk {p d k n c : Nat} {a : Option Addr} {l : List Int} {e : Int} {w : World} {sv : Value} (h : Rd p d w l e) (hv : (Emp (.slice a n c) ∧ l = []) ∨ (p ≠ d ∧ d < w.heap.size ∧ Elems .u8 d w (.slice a n c) l))
    (hk : k ≤ l.length) (hn : n = l.length) (hs : (Emp sv ∧ k = l.length) ∨ ∃ x, a = some x ∧ sv = .slice (some (x.add k)) (n - k) (c - k)) :
    Took p d w (l.take k) (l.drop k) e (.returned (.slice a k c)) (w.setCell ⟨p, 0, none⟩ sv) := by
  have hL : (Emp sv ∧ l.drop k = []) ∨ (p ≠ d ∧ d < w.heap.size ∧ Elems .u8 d w sv (l.drop k)) := by
    rcases hs with ⟨he, rfl⟩ | ⟨x, rfl, rfl⟩
    · exact .inl ⟨he, by simp⟩
    · have hempty : l = [] → Emp (.slice (some (x.add k)) (n - k) (c - k)) ∧ l.drop k = [] := by
        rintro rfl
        simp at hn
        subst hn
        exact ⟨.inr ⟨_, _, by rw [Nat.zero_sub]⟩, by simp⟩
      rcases hv with ⟨_, h0⟩ | ⟨h1, h2, ⟨_, h0⟩ | ⟨off, cap, he, hl, hc⟩⟩
      · exact .inl (hempty h0)
      · exact .inl (hempty h0)
      · cases he
        refine .inr ⟨h1, h2, .inr ⟨off + k, c - k, ?_, by rw [List.length_drop]; omega, ?_⟩⟩
        · rw [List.length_drop]
          by_cases h0 : k = 0 <;> simp [Addr.add, h0]
        · intro j hj
          rw [List.length_drop] at hj
          have := hc (k + j) (by omega)
          rw [← Nat.add_assoc] at this
          rw [this, List.getElem?_drop]
  have hT : (Emp (.slice a k c) ∧ l.take k = []) ∨ (p ≠ d ∧ d < w.heap.size ∧ Elems .u8 d w (.slice a k c) (l.take k)) := by
    have hempty : l = [] → Emp (.slice a n c) → Emp (.slice a k c) ∧ l.take k = [] := by
      rintro rfl he
      simp at hk hn
      subst hk
      subst hn
      exact ⟨he, by simp⟩
    rcases hv with ⟨he, h0⟩ | ⟨h1, h2, ⟨he, h0⟩ | ⟨off, cap, he, hl, hc⟩⟩
    · exact .inl (hempty h0 he)
    · exact .inl (hempty h0 he)
    · cases he
      have e : (l.take k).length = k := by rw [List.length_take]; omega
      refine .inr ⟨h1, h2, .inr ⟨off, c, by rw [e], by omega, ?_⟩⟩
      intro j hj
      rw [e] at hj
      rw [hc j (by omega), List.getElem?_take_of_lt hj]
  refine ⟨a, k, c, rfl, (by show _ = _; rw [List.length_take]; omega), ?_, h.left hL, grown_set _ _ _ _⟩
  rcases hT with hT | ⟨h1, h2, hE⟩
  · exact .inl hT
  · exact .inr ⟨h1, by simpa [World.setCell] using h2, hE.keep (Below.heap_setCell w _ _ d (Ne.symm h1))⟩

set_option maxRecDepth 100000 in
set_option maxHeartbeats 1000000 in
theorem rtake_any (p d k : Nat) (l : List Int) (e : Int) (w : World) (h : Rd p d w l e) (hk : k ≤ l.length) (hl : l.length ≤ 100000000000) :
    Calls Try.prog 106 #[.pointer (some ⟨p, 0, none⟩), .int .i64 k] w (Took p d w (l.take k) (l.drop k) e) := by
  obtain ⟨a, n, c, h0, h1, f0, f1, hn, hnc, hv⟩ := h.open
  have HH := Lib.hid h
  have hkn : k ≤ n := by rw [hn.out]; exact hk
  have HK := Lib.hid hk
  have hn2 : n ≤ 100000000000 := by rw [hn.out]; exact hl
  clear h hk hl
  cases a with
  | none =>
    have hz : n = 0 ∧ c = 0 := by
      rcases hv.out with ⟨he, _⟩ | ⟨_, _, ⟨he, _⟩ | ⟨off, cap, he, _⟩⟩
      · rcases he with he | ⟨x, cap, he⟩ <;> cases he
        exact ⟨rfl, rfl⟩
      · rcases he with he | ⟨x, cap, he⟩ <;> cases he
        exact ⟨rfl, rfl⟩
      · cases he
    obtain ⟨rfl, rfl⟩ := hz
    obtain rfl : k = 0 := by omega
    go_enter Try.func106, Try.ntmps106
    go_wp2
    go_ret
    exact took_mk HH.out hv.out HK.out hn.out (.inl ⟨.inl rfl, hn.out⟩)
  | some x =>
    by_cases hkc : k = c
    · obtain rfl : n = k := by omega
      subst hkc
      go_enter Try.func106, Try.ntmps106
      go_wp2
      go_ret
      exact took_mk HH.out hv.out HK.out hn.out (.inl ⟨.inr ⟨x, 0, by simp⟩, hn.out⟩)
    · have hkc2 : k < c := by omega
      clear hkc
      go_enter Try.func106, Try.ntmps106
      go_wp2
      go_ret
      exact took_mk HH.out hv.out HK.out hn.out (.inr ⟨x, rfl, rfl⟩)

set_option maxRecDepth 100000 in
set_option maxHeartbeats 1000000 in
theorem rnext_nil (p d : Nat) (e : Int) (w : World) (h : Rd p d w [] e) :
    Calls Try.prog 99 #[.pointer (some ⟨p, 0, none⟩)] w fun x w' => x = .returned (.tuple #[.int .u8 0, .bool false]) ∧ Rd p d w' [] (stk e 3) ∧ w.grownBy w' (some p) := by
  obtain ⟨a, n, c, h0, h1, f0, f1, hn, hnc, hv⟩ := h.open
  have K := Lib.hid (rfail_any p d [] e 3 w h)
  obtain rfl : n = 0 := by rw [hn.out]; rfl
  clear h
  go_enter Try.func99, Try.ntmps99
  go_wp2_with fail
  (with_reducible refine K.out.mono ?_)
  rintro x w1 ⟨rfl, hR, hg⟩
  have HR := Lib.hid hR
  have HG := Lib.hid hg
  clear hR hg
  go_wp2_with fail
  go_ret2
  exact ⟨rfl, HR.out, HG.out⟩

theorem took_one {p d : Nat} {b : Int} {l : List Int} {e : Int} {w w' : World} {x : Ending} (h : Took p d w ((b :: l).take 1) ((b :: l).drop 1) e x w') :
    ∃ off c, x = .returned (.slice (some ⟨d, off, none⟩) 1 c) ∧ w'.cell? ⟨d, off, none⟩ = some (.int .u8 b) ∧ Hid (Rd p d w' l e) ∧ Hid (w.grownBy w' (some p)) := by
  obtain ⟨a, n, c, rfl, hn, hv, hR, hg⟩ := h
  rcases hv.out with ⟨_, h0⟩ | ⟨_, _, ⟨_, h0⟩ | ⟨off, cap, he, hl, hc⟩⟩
  · simp at h0
  · simp at h0
  · cases he
    exact ⟨off, c, rfl, hc 0 (by simp), hR, hg⟩

set_option maxRecDepth 100000 in
set_option maxHeartbeats 1000000 in
theorem rnext_cons (p d : Nat) (b : Int) (l : List Int) (e : Int) (w : World) (h : Rd p d w (b :: l) e) (hl : (b :: l).length ≤ 100000000000) :
    Calls Try.prog 99 #[.pointer (some ⟨p, 0, none⟩)] w fun x w' => x = .returned (.tuple #[.int .u8 b, .bool true]) ∧ Rd p d w' l e ∧ w.grownBy w' (some p) := by
  obtain ⟨a, n, c, h0, h1, f0, f1, hn, hnc, hv⟩ := h.open
  have K := Lib.hid (rtake_any p d 1 (b :: l) e w h (by simp) hl)
  have hn1 : 0 < n := by rw [hn.out]; simp
  clear h hl
  have hnz : ((n : Int) == 0) = false := by rw [beq_eq_false_iff_ne]; omega
  go_enter Try.func99, Try.ntmps99
  go_wp2_with fail
  refine K.out.mono ?_
  intro x w1 ht
  obtain ⟨off, c1, rfl, hc1, HR, HG⟩ := took_one ht
  clear ht
  go_wp2_with fail
  go_ret2
  exact ⟨rfl, HR.out, HG.out⟩

theorem rd_byt {c : Int} {t : List Int} (h : Hm.Byt (c :: t)) : 0 ≤ c ∧ c < 256 ∧ Hm.Byt t := ⟨(h c (List.mem_cons_self ..)).1, (h c (List.mem_cons_self ..)).2, fun z hz => h z (List.mem_cons_of_mem _ hz)⟩

theorem rU_last {l t : List Int} {k acc : Nat} {c : Int} (e : Int) (h : Hm.rdU 0 0 l = Hm.rdU k acc (c :: t)) (hn : ¬ ((k = 9 ∧ 1 < c) ∨ (0 < k ∧ c = 0))) (hc : c < 128) : Hm.rU l e = (acc + 128 ^ k * c.toNat, t, e) := by
  rw [Hm.rU, h, Hm.rdU_last hn hc]
  by_cases he : e = 0
  · rw [if_pos he, he]
  · rw [if_neg he]

theorem rU_bad {l t : List Int} {k acc : Nat} {c : Int} (e : Int) (h : Hm.rdU 0 0 l = Hm.rdU k acc (c :: t)) (hn : (k = 9 ∧ 1 < c) ∨ (0 < k ∧ c = 0)) : Hm.rU l e = (0, [], stk e 2) := by
  rw [Hm.rU, h, Hm.rdU_bad hn]
  rfl

/-- A group as the reader adds it. -/
theorem or_spelt {k acc : Nat} {c : Int} (hc0 : 0 ≤ c) (ha : acc < 128 ^ k) (h : acc + 128 ^ k * (c.toNat % 128) < 18446744073709551616) : bits .or .u64 (acc : Int) (IntKind.u64.wrap (c % 128 * 2 ^ (7 * k))) = ((acc + 128 ^ k * (c.toNat % 128) : Nat) : Int) := by
  have e1 : c % 128 * 2 ^ (7 * k) = ((128 ^ k * (c.toNat % 128) : Nat) : Int) := by
    have e2 : c % 128 = ((c.toNat % 128 : Nat) : Int) := by omega
    rw [e2, Int.natCast_mul, Int.natCast_pow, Int.mul_comm, show (2 : Int) ^ (7 * k) = ((128 : Nat) : Int) ^ k by rw [Int.pow_mul]; rfl]
  have e3 : IntKind.u64.wrap (c % 128 * 2 ^ (7 * k)) = ((128 ^ k * (c.toNat % 128) : Nat) : Int) := by
    rw [e1, IntKind.wrap_u64]
    omega
  rw [e3, bits_or_u64_nat _ _ (by omega) (by omega), Nat.or_comm]
  have e4 : (128 : Nat) ^ k = 2 ^ (7 * k) := by rw [Nat.pow_mul]
  rw [nat_join (7 * k) _ _ (by rw [e4]; exact Nat.mul_mod_right _ _) (by rw [← e4]; exact ha), Nat.add_comm]

theorem group_fits {k acc : Nat} {c : Int} (hk : k ≤ 9) (h9 : k = 9 → c ≤ 1) (ha : acc < 128 ^ k) : acc + 128 ^ k * (c.toNat % 128) < 18446744073709551616 := by
  by_cases h : k = 9
  · subst h
    have := h9 rfl
    have e : (128 : Nat) ^ 9 = 9223372036854775808 := by decide
    rw [e] at ha ⊢
    omega
  · have h1 := Hm.group_le (i := k) (g := c.toNat % 128) (by omega) (by omega)
    have h2 := Hm.pow128_le (i := k) (by omega)
    omega

theorem group_next {k acc : Nat} {c : Int} (ha : acc < 128 ^ k) : acc + 128 ^ k * (c.toNat % 128) < 128 ^ (k + 1) := by
  rw [Nat.pow_succ]
  have : 128 ^ k * (c.toNat % 128) ≤ 128 ^ k * 127 := Nat.mul_le_mul_left _ (by omega)
  omega

set_option maxRecDepth 100000 in
set_option maxHeartbeats 2000000 in
theorem ruint_any (p d : Nat) (l : List Int) (e : Int) (w : World) (h : Rd p d w l e) (hb : Hm.Byt l) (hl : l.length ≤ 100000000000) :
    Calls Try.prog 81 #[.pointer (some ⟨p, 0, none⟩)] w fun x w' => x = .returned (.int .u64 (Hm.rU l e).1) ∧ Rd p d w' (Hm.rU l e).2.1 (Hm.rU l e).2.2 ∧ w.grownBy w' (some p) := by
  have HH := Lib.hid h
  have HBY := Lib.hid hb
  have HLL := Lib.hid hl
  clear h hb hl
  go_enter Try.func81, Try.ntmps81
  go_wp2_with fail
  go_loopw [3, 4] (fun v i wr => ∃ k acc : Nat, ∃ t : List Int, k ≤ 9 ∧ i = .int .i64 k ∧ v = .int .u64 acc ∧ Hid (acc < 128 ^ k ∧ Hm.Byt t ∧ t.length ≤ 100000000000 ∧ Hm.rdU 0 0 l = Hm.rdU k acc t) ∧ Hid (Rd p d wr t e) ∧ Hid (w.grownBy wr (some p))) (fun _ i _ => 10 - (intOf i).toNat)
  case atStart => exact ⟨0, 0, l, by omega, rfl, rfl, ⟨by decide, HBY.out, HLL.out, rfl⟩, HH.out, grown_refl _ _⟩
  case round =>
    obtain ⟨k, acc, t, hk, rfl, rfl, hD, hR, hG⟩ := hrel
    cases t with
    | nil =>
      have K := Lib.hid (rnext_nil p d e wr hR.out)
      go_wp2_with fail
      (with_reducible refine K.out.mono ?_)
      rintro x w1 ⟨rfl, hR1, hg1⟩
      have HR1 := Lib.hid hR1
      have HG1 := Lib.hid (grown_trans hG.out hg1)
      clear hR1 hg1
      go_wp2_with fail
      go_ret
      have e1 := hD.out.2.2.2
      refine ⟨ret_int ?_, ?_, HG1.out⟩
      · rw [Hm.rU, e1, Hm.rdU_nil]; rfl
      · rw [Hm.rU, e1, Hm.rdU_nil]; exact HR1.out
    | cons c t =>
      obtain ⟨hc0, hc1, hbt⟩ := rd_byt hD.out.2.1
      have HBT := Lib.hid hbt
      have K := Lib.hid (rnext_cons p d c t e wr hR.out hD.out.2.2.1)
      clear hbt
      go_wp2_with fail
      (with_reducible refine K.out.mono ?_)
      rintro x w1 ⟨rfl, hR1, hg1⟩
      have HR1 := Lib.hid hR1
      have HG1 := Lib.hid (grown_trans hG.out hg1)
      clear hR1 hg1
      by_cases k9 : k = 9
      · have t9 : ((k : Int) == 9) = true := by rw [beq_iff_eq]; omega
        have tk0 : 0 < (k : Int) := by omega
        have K9 := Lib.hid k9
        clear k9
        by_cases c1 : 1 < c
        · have ok := c1
          go_wp2_with fail
          (with_reducible refine (rfail_any p d t e 2 w1 HR1.out).mono ?_)
          rintro x w2 ⟨rfl, hR2, hg2⟩
          have HR2 := Lib.hid hR2
          have HG2 := Lib.hid (grown_trans HG1.out hg2)
          clear hR2 hg2
          go_wp2_with fail
          go_ret
          rw [rU_bad e hD.out.2.2.2 (.inl ⟨K9.out, c1⟩)]
          exact ⟨rfl, HR2.out, HG2.out⟩
        · have c1' : c ≤ 1 := by omega
          clear c1
          by_cases c0 : c = 0
          · subst c0
            go_wp2_with fail
            (with_reducible refine (rfail_any p d t e 2 w1 HR1.out).mono ?_)
            rintro x w2 ⟨rfl, hR2, hg2⟩
            have HR2 := Lib.hid hR2
            have HG2 := Lib.hid (grown_trans HG1.out hg2)
            clear hR2 hg2
            go_wp2_with fail
            go_ret
            rw [rU_bad e hD.out.2.2.2 (.inr ⟨by omega, rfl⟩)]
            exact ⟨rfl, HR2.out, HG2.out⟩
          · have tc0 : (c == 0) = false := by rw [beq_eq_false_iff_ne]; exact c0
            have c128 : c < 128 := by omega
            have hor := Lib.hid (or_spelt (c := c) (acc := acc) (k := k) hc0 hD.out.1 (group_fits hk (by omega) hD.out.1))
            have hr := Lib.hid (rU_last e hD.out.2.2.2 (by omega) c128)
            go_wp2_with fail
            go_ret
            rw [hr.out]
            refine ⟨ret_int ?_, HR1.out, HG1.out⟩
            first | rw [hor.out] | skip
            rw [show c.toNat % 128 = c.toNat by omega]
      · have hk8 : k ≤ 8 := by omega
        have t9 : ((k : Int) == 9) = false := by rw [beq_eq_false_iff_ne]; omega
        by_cases k0 : k = 0
        · subst k0
          have ha0 : acc = 0 := by have := hD.out.1; simpa using this
          subst ha0
          by_cases c128 : c < 128
          · have hr := Lib.hid (rU_last e hD.out.2.2.2 (by omega) c128)
            have hor := Lib.hid (or_spelt (c := c) (acc := 0) (k := 0) hc0 (by decide) (group_fits (by decide) (by omega) (by decide)))
            go_wp2_with fail
            go_ret
            rw [hr.out]
            refine ⟨ret_int ?_, HR1.out, HG1.out⟩
            have h := hor.out
            rw [Nat.mul_zero, Int.pow_zero, Int.mul_one, IntKind.wrap_u64] at h
            rw [show c % 128 % 18446744073709551616 = c % 128 by omega] at h
            refine h.trans ?_
            congr 2
            omega
          · have hor := Lib.hid (or_spelt (c := c) (acc := 0) (k := 0) hc0 (by decide) (group_fits (by decide) (by omega) (by decide)))
            have hm := Lib.hid (Hm.rdU_more (i := 0) (acc := 0) (c := c) (l := t) (by omega) (by omega))
            go_wp2_with fail
            go_roundw
            case rel =>
              refine ⟨1, 0 + 128 ^ 0 * (c.toNat % 128), t, by omega, rfl, ?_, ⟨group_next (by decide), HBT.out, by have := hD.out.2.2.1; rw [List.length_cons] at this; omega, hD.out.2.2.2.trans hm.out⟩, HR1.out, HG1.out⟩
              have h := hor.out
              rw [Nat.mul_zero, Int.pow_zero, Int.mul_one, IntKind.wrap_u64] at h
              rw [show c % 128 % 18446744073709551616 = c % 128 by omega] at h
              exact congrArg _ h
            case measure => simp [intOf]
        · have tk0 : 0 < (k : Int) := by omega
          by_cases c0 : c = 0
          · subst c0
            go_wp2_with fail
            (with_reducible refine (rfail_any p d t e 2 w1 HR1.out).mono ?_)
            rintro x w2 ⟨rfl, hR2, hg2⟩
            have HR2 := Lib.hid hR2
            have HG2 := Lib.hid (grown_trans HG1.out hg2)
            clear hR2 hg2
            go_wp2_with fail
            go_ret
            rw [rU_bad e hD.out.2.2.2 (.inr ⟨by omega, rfl⟩)]
            exact ⟨rfl, HR2.out, HG2.out⟩
          · have tc0 : (c == 0) = false := by rw [beq_eq_false_iff_ne]; exact c0
            by_cases c128 : c < 128
            · have ok := c128
              have hor := Lib.hid (or_spelt (c := c) (acc := acc) (k := k) hc0 hD.out.1 (group_fits hk (by omega) hD.out.1))
              have hr := Lib.hid (rU_last e hD.out.2.2.2 (by omega) c128)
              go_wp2_with fail
              go_ret
              rw [hr.out]
              refine ⟨ret_int ?_, HR1.out, HG1.out⟩
              first | rw [hor.out] | skip
              rw [show c.toNat % 128 = c.toNat by omega]
            · have hor := Lib.hid (or_spelt (c := c) (acc := acc) (k := k) hc0 hD.out.1 (group_fits hk (by omega) hD.out.1))
              have hm := Lib.hid (Hm.rdU_more (i := k) (acc := acc) (c := c) (l := t) (by omega) (by omega))
              clear k9 k0 c0
              go_wp2_with fail
              go_roundw
              case rel => exact ⟨k + 1, acc + 128 ^ k * (c.toNat % 128), t, by omega, by go_num, congrArg _ hor.out, ⟨group_next hD.out.1, HBT.out, by have := hD.out.2.2.1; rw [List.length_cons] at this; omega, hD.out.2.2.2.trans hm.out⟩, HR1.out, HG1.out⟩
              case measure => simp [intOf]; omega

end Go.Proofs.Ytimbgjpjgbjnkaa

/- What Int, Bool, Text, Raw, Ints, End of wire.Reader return, and Read. -/
namespace Go.Proofs.Ytimbgjpjgbjnkaa
open Go.RowKit Go.Shelf

theorem rU_lt {l : List Int} (hb : Hm.Byt l) (e : Int) : (Hm.rU l e).1 < 18446744073709551616 := by
  rcases Hm.rdU_okay l 0 0 with h | ⟨_, h, _⟩
  · have h1 : Hm.rU l 0 = ((Hm.rdU 0 0 l).1, (Hm.rdU 0 0 l).2.1, 0) := by rw [Hm.rU, if_pos rfl, h]
    have := (Hm.rU_one hb h1).2
    exact this
  · show (Hm.rdU 0 0 l).1 < _
    rw [h]
    decide

/-- A contract of a reader's method. -/
def Rds (p d : Nat) (w : World) (v : Value) (l : List Int) (e : Int) (x : Ending) (w' : World) : Prop := x = .returned v ∧ Rd p d w' l e ∧ w.grownBy w' (some p)

set_option maxRecDepth 100000 in
set_option maxHeartbeats 1000000 in
theorem rint_any (p d : Nat) (l : List Int) (e : Int) (w : World) (h : Rd p d w l e) (hb : Hm.Byt l) (hl : l.length ≤ 100000000000) :
    Calls Try.prog 40 #[.pointer (some ⟨p, 0, none⟩)] w (Rds p d w (.int .i64 (Hm.unzig (Hm.rU l e).1)) (Hm.rU l e).2.1 (Hm.rU l e).2.2) := by
  have K := Lib.hid (ruint_any p d l e w h hb hl)
  have hlt := rU_lt hb e
  generalize (Hm.rU l e).1 = z at *
  generalize (Hm.rU l e).2.1 = l2 at *
  generalize (Hm.rU l e).2.2 = e2 at *
  have h1 := Lib.hid (and_one z hlt)
  have h2 := Lib.hid (unzig_spelt z hlt)
  have hlt' : (z : Int) ≤ 18446744073709551615 := by omega
  have hlt2 := Lib.hid hlt
  clear h hb hl hlt
  go_enter Try.func40, Try.ntmps40
  go_wp2_with fail
  (with_reducible refine K.out.mono ?_)
  rintro x w1 ⟨rfl, hR, hg⟩
  have HR := Lib.hid hR
  have HG := Lib.hid hg
  clear hR hg
  have h3 := h1.out
  go_wp2_with fail
  go_ret
  exact ⟨ret_int (by have h := h2.out; rw [Int.natCast_emod] at h; exact h), HR.out, HG.out⟩

set_option maxRecDepth 100000 in
set_option maxHeartbeats 1000000 in
theorem rbool_any (p d : Nat) (l : List Int) (e : Int) (w : World) (h : Rd p d w l e) (hb : Hm.Byt l) (hl : l.length ≤ 100000000000) :
    Calls Try.prog 76 #[.pointer (some ⟨p, 0, none⟩)] w (Rds p d w (.bool (Hm.rB l e).1) (Hm.rB l e).2.1 (Hm.rB l e).2.2) := by
  cases l with
  | nil =>
    have K := Lib.hid (rnext_nil p d e w h)
    clear h hb hl
    go_enter Try.func76, Try.ntmps76
    go_wp2_with fail
    (with_reducible refine K.out.mono ?_)
    rintro x w1 ⟨rfl, hR, hg⟩
    have HR := Lib.hid hR
    have HG := Lib.hid hg
    clear hR hg
    go_wp2_with fail
    go_ret
    exact ⟨rfl, HR.out, HG.out⟩
  | cons c t =>
    obtain ⟨hc0, hc1, hbt⟩ := rd_byt hb
    have K := Lib.hid (rnext_cons p d c t e w h hl)
    clear h hb hl hbt
    by_cases c1 : 1 < c
    · go_enter Try.func76, Try.ntmps76
      go_wp2_with fail
      (with_reducible refine K.out.mono ?_)
      rintro x w1 ⟨rfl, hR, hg⟩
      have HR := Lib.hid hR
      have HG := Lib.hid hg
      clear hR hg
      have tc1 : (c == 1) = false := by rw [beq_eq_false_iff_ne]; omega
      go_wp2_with fail
      (with_reducible refine (rfail_any p d t e 2 w1 HR.out).mono ?_)
      rintro x w2 ⟨rfl, hR2, hg2⟩
      have HR2 := Lib.hid hR2
      have HG2 := Lib.hid (grown_trans HG.out hg2)
      clear hR2 hg2
      go_wp2_with fail
      go_ret
      have e1 : Hm.rB (c :: t) e = (false, [], stk e 2) := by rw [Hm.rB, if_pos c1]; rfl
      rw [e1]
      exact ⟨rfl, HR2.out, HG2.out⟩
    · have c1' : c ≤ 1 := by omega
      have e1 : Hid (Hm.rB (c :: t) e = (decide (c = 1), t, e)) := by show _ = _; rw [Hm.rB, if_neg c1]
      clear c1
      by_cases c0 : c = 0
      · subst c0
        go_enter Try.func76, Try.ntmps76
        go_wp2_with fail
        (with_reducible refine K.out.mono ?_)
        rintro x w1 ⟨rfl, hR, hg⟩
        have HR := Lib.hid hR
        have HG := Lib.hid hg
        clear hR hg
        go_wp2_with fail
        go_ret
        rw [e1.out]
        exact ⟨rfl, HR.out, HG.out⟩
      · obtain rfl : c = 1 := by omega
        go_enter Try.func76, Try.ntmps76
        go_wp2_with fail
        (with_reducible refine K.out.mono ?_)
        rintro x w1 ⟨rfl, hR, hg⟩
        have HR := Lib.hid hR
        have HG := Lib.hid hg
        clear hR hg
        go_wp2_with fail
        go_ret
        rw [e1.out]
        exact ⟨rfl, HR.out, HG.out⟩


end Go.Proofs.Ytimbgjpjgbjnkaa

/- What Text, Raw, Ints, End of wire.Reader return, and Read. -/
namespace Go.Proofs.Ytimbgjpjgbjnkaa
open Go.RowKit Go.Shelf



theorem rLen_le {l : List Int} (hb : Hm.Byt l) (e : Int) : (Hm.rLen l e).1 ≤ (Hm.rLen l e).2.1.length ∧ (Hm.rLen l e).2.1.length ≤ l.length ∧ Hm.Byt (Hm.rLen l e).2.1 := by
  have h := Hm.rU_left hb e
  unfold Hm.rLen
  split
  · exact ⟨Nat.le_refl _, by simp, Hm.byt_nil⟩
  · exact ⟨by omega, h.2, h.1⟩

/-- The slice of Took can be read. -/
theorem took_els {p d : Nat} {w : World} {sv : Value} {t : List Int} (h : (Emp sv ∧ t = []) ∨ (p ≠ d ∧ d < w.heap.size ∧ Elems .u8 d w sv t)) : Els .u8 w sv t := by
  rcases h with h | ⟨_, hd, h | ⟨off, cap, rfl, hl, hc⟩⟩
  · exact .inl h
  · exact .inl h
  · exact .inr ⟨d, off, cap, hd, rfl, hl, hc⟩


/-- What a call that makes a slice of the reader's values leaves. -/
def MakesR (k : IntKind) (E : TypeId) (p d : Nat) (zs l : List Int) (e : Int) (w : World) (x : Ending) (w' : World) : Prop :=
  ∃ a n cap, x = .returned (.slice a n cap) ∧ Hid (n = zs.length) ∧ Hid (Own k E w.heap.size w' (.slice a n cap) zs) ∧ Hid (Rd p d w' l e) ∧ Hid (w.grownBy w' (some p))

theorem own_baseR {k : IntKind} {E : TypeId} {B B' : Nat} {w : World} {sv : Value} {zs : List Int} (h : Own k E B w sv zs) (hB : B' ≤ B) : Own k E B' w sv zs := by
  obtain ⟨hx, hv | ⟨g, cap, cur, hv, hg, hr⟩⟩ := h
  · exact ⟨hx, .inl hv⟩
  · exact ⟨hx, .inr ⟨g, cap, cur, hv, by omega, hr⟩⟩

theorem makesR_of {k : IntKind} {E : TypeId} {p d : Nat} {zs l : List Int} {e : Int} {w w' : World} {v : Value} (h : Own k E w.heap.size w' v zs) (hR : Rd p d w' l e) (hB : w.grownBy w' (some p)) : MakesR k E p d zs l e w (.returned v) w' := by
  obtain ⟨a, cap, rfl⟩ := h.shape
  exact ⟨a, _, cap, rfl, rfl, h, hR, hB⟩


theorem own_cells {k : IntKind} {E : TypeId} {B g n c : Nat} {w : World} {zs : List Int} (h : Own k E B w (.slice (some ⟨g, 0, none⟩) n c) zs) (hn : n = zs.length) (j : Nat) (hj : j < n) :
    w.cell? ⟨g, j, none⟩ = some (.int k (zs[j]?.getD 0)) ∧ w.frozen? ⟨g, j, none⟩ = false := by
  obtain ⟨g2, he, _, _, h1, h2⟩ := h.open hn (by omega)
  cases he
  exact ⟨h1 j hj, h2 j⟩

theorem grown_later {p g o : Nat} {a b : World} {v : Value} (h : a.grownBy b (some p)) (hg : a.heap.size ≤ g) : a.grownBy (b.setCell ⟨g, o, none⟩ v) (some p) :=
  ⟨h.os, h.tape, h.output, by simpa [World.setCell] using h.size, fun k hk hr => (Below.heap_setCell _ _ _ _ (by show k ≠ g; omega)).trans (h.block k hk hr)⟩

theorem set_mid (xs : List Int) (k z : Nat) (v : Int) (hx : xs.length = k) (hk : k < z) : (xs ++ List.replicate (z - k) 0).set k v = (xs ++ [v]) ++ List.replicate (z - (k + 1)) 0 := by
  subst hx
  have e : z - xs.length = (z - (xs.length + 1)) + 1 := by omega
  rw [e, List.replicate_succ, List.set_append_right _ _ (Nat.le_refl _), Nat.sub_self, List.set_cons_zero, List.append_assoc]
  rfl

theorem zeros_list (n : Nat) : (madeCells #[.int .i64 0] (n * 1)).toList = (List.replicate n 0).map (Value.int .i64) := by
  apply List.ext_getElem
  · simp [madeCells]
  · intro i h1 h2
    simp [madeCells, Nat.mod_one]

/-- Behind a make of n numbers. -/
theorem own_made {B n : Nat} {w : World} {g : Nat} {E : TypeId} (h : w.ownsRow B E 1 (.slice (some ⟨g, 0, none⟩) n n) n (madeCells #[.int .i64 0] (n * 1)).toList) : Own .i64 E B w (.slice (some ⟨g, 0, none⟩) n n) (List.replicate n 0) := by
  unfold Own
  rw [List.length_replicate, ← zeros_list]
  exact h


set_option maxRecDepth 100000 in
set_option maxHeartbeats 1000000 in
theorem rend_any (p d : Nat) (l : List Int) (e : Int) (w : World) (h : Rd p d w l e) (hl : l.length ≤ 100000000000) :
    Calls Try.prog 77 #[.pointer (some ⟨p, 0, none⟩)] w fun x w' => x = .returned (.int .i64 (Hm.rEnd l e)) ∧ w = w' := by
  obtain ⟨a, n, c, h0, h1, f0, f1, hn, hnc, hv⟩ := h.open
  have hn2 : n ≤ 100000000000 := by rw [hn.out]; exact hl
  clear h hv hl f0 f1
  by_cases he : e = 0
  · by_cases hn0 : 0 < n
    · have hr : Hid (Hm.rEnd l e = 2) := by
        show _ = _
        rw [Hm.rEnd, if_pos ⟨he, by rw [← hn.out]; exact hn0⟩]
      subst he
      have hn1 : 0 < (n : Int) := by omega
      go_enter Try.func77, Try.ntmps77
      go_wp2_with fail
      go_ret
      exact ⟨ret_int hr.out.symm, rfl⟩
    · obtain rfl : n = 0 := by omega
      have hr : Hid (Hm.rEnd l e = 0) := by
        show _ = _
        rw [Hm.rEnd, if_neg (by rw [← hn.out]; omega), he]
      subst he
      clear hn0
      go_enter Try.func77, Try.ntmps77
      go_wp2_with fail
      go_ret
      exact ⟨ret_int hr.out.symm, rfl⟩
  · have hr : Hid (Hm.rEnd l e = e) := by
      show _ = _
      rw [Hm.rEnd, if_neg (fun h => he h.1)]
    have te : (e == 0) = false := by rw [beq_eq_false_iff_ne]; exact he
    clear he
    go_enter Try.func77, Try.ntmps77
    go_wp2_with fail
    go_ret
    exact ⟨ret_int hr.out.symm, rfl⟩

/-- What Read leaves: a reader of a copy. -/
def Reads (zs : List Int) (w : World) (x : Ending) (w' : World) : Prop :=
  ∃ p d, x = .returned (.pointer (some ⟨p, 0, none⟩)) ∧ w.heap.size ≤ p ∧ w.heap.size ≤ d ∧ d < w'.heap.size ∧ Hid (Rd p d w' zs 0) ∧ Hid (Below w.heap.size w w')

theorem reads_mk {E T : TypeId} {w w1 : World} {a : Option Addr} {n c : Nat} {zs : List Int} (hO : Own .u8 E w.heap.size w1 (.slice a n c) zs) (hB : Below w.heap.size w w1) :
    Reads zs w (.returned (.pointer (some ⟨w1.heap.size, 0, none⟩))) (w1.alloc (.cells #[.slice a n c, .int .i64 0] T)) := by
  have hs := hB.size
  have hB2 : Below w.heap.size w (w1.alloc (.cells #[.slice a n c, .int .i64 0] T)) := hB.alloc hs _
  have hnew := World.alloc_heap_new w1 (.cells #[.slice a n c, .int .i64 0] T)
  by_cases h0 : Emp (.slice a n c) ∧ zs = []
  · exact ⟨w1.heap.size, w1.heap.size, rfl, hs, hs, by simp, ⟨_, T, hnew, .inl h0⟩, hB2⟩
  · have hO' := hO
    obtain ⟨hx, ⟨hv, hn⟩ | ⟨g, cap, cur, hv, hg, hc, hcap, _⟩⟩ := hO
    · exact absurd ⟨.inl hv, List.eq_nil_of_length_eq_zero hn⟩ h0
    · cases hv
      have hlt : g < w1.heap.size := (Array.getElem?_eq_some_iff.1 hc).1
      refine ⟨w1.heap.size, g, rfl, hs, hg, by simp; omega, ⟨_, T, hnew, .inr ⟨by omega, by simp; omega, .inr ⟨0, _, rfl, hcap, ?_⟩⟩⟩, hB2⟩
      intro j hj
      rw [Nat.zero_add]
      exact cell_alloc_l _ (own_cells hO' rfl j hj).1

set_option maxRecDepth 100000 in
set_option maxHeartbeats 1000000 in
theorem rread_any (sv : Value) (zs : List Int) (w : World) (hz : zs.length ≤ 100000000000) (h : Els .u8 w sv zs) :
    Calls Try.prog 38 #[sv] w (Reads zs w) := by
  obtain ⟨a0, c0, rfl⟩ := h.shape
  have K := Lib.hid (wclone_any _ zs w hz h)
  clear h hz
  go_enter Try.func38, Try.ntmps38
  go_wp2_with fail
  (with_reducible refine K.out.mono ?_)
  rintro x w1 ⟨a, n, c, rfl, hn, hO, hB⟩
  go_wp2_with fail
  go_ret
  exact reads_mk hO.out hB.out

end Go.Proofs.Ytimbgjpjgbjnkaa

