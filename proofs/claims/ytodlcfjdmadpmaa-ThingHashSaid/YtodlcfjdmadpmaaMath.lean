/- Plain mathematics of the hash: mixing is one to one in the state and in the word; words of bytes, little end first; one word, one group of bytes, one byte of the label more or less gives another hash. -/
import Derived.Test.YtodlcfjdmadpmaaKit
namespace Go.Proofs.Ytodlcfjdmadpmaa.Hm
open Go.RowKit

/-- One step of the hash, as the walk spells it. -/
def mixI (s v : Int) : Int :=
  bits .xor .u64 (IntKind.u64.wrap (bits .xor .u64 s v * 11400714819323198485)) (IntKind.u64.wrap (bits .xor .u64 s v * 11400714819323198485) / 4294967296)

def xs (m : BitVec 64) : BitVec 64 := m ^^^ (m >>> 32)

def mixB (s v : BitVec 64) : BitVec 64 := xs ((s ^^^ v) * 0x9E3779B97F4A7C15#64)

theorem xs_xs (m : BitVec 64) : xs (xs m) = m := by
  unfold xs
  rw [BitVec.ushiftRight_xor_distrib, ← BitVec.shiftRight_add]
  have h : m >>> (32 + 32) = 0#64 := by
    apply BitVec.eq_of_toNat_eq
    rw [BitVec.toNat_ushiftRight, Nat.shiftRight_eq_div_pow]
    have := m.isLt
    simp
    omega
  rw [h, BitVec.xor_zero, BitVec.xor_assoc, BitVec.xor_self, BitVec.xor_zero]

theorem xs_inj {a b : BitVec 64} (h : xs a = xs b) : a = b := by rw [← xs_xs a, h, xs_xs]

theorem mul_inj {a b : BitVec 64} (h : a * 0x9E3779B97F4A7C15#64 = b * 0x9E3779B97F4A7C15#64) : a = b := by
  have g : ∀ x : BitVec 64, x * 0x9E3779B97F4A7C15#64 * 0xF1DE83E19937733D#64 = x := by
    intro x
    rw [BitVec.mul_assoc, show (0x9E3779B97F4A7C15#64 * 0xF1DE83E19937733D#64 : BitVec 64) = 1#64 from by decide, BitVec.mul_one]
  rw [← g a, h, g b]

theorem mixB_word {s a b : BitVec 64} (h : mixB s a = mixB s b) : a = b := by
  have h := mul_inj (xs_inj h)
  have h2 : s ^^^ (s ^^^ a) = s ^^^ (s ^^^ b) := by rw [h]
  simpa [← BitVec.xor_assoc] using h2

theorem mixB_state {a b v : BitVec 64} (h : mixB a v = mixB b v) : a = b := by
  have h := mul_inj (xs_inj h)
  have h2 : (a ^^^ v) ^^^ v = (b ^^^ v) ^^^ v := by rw [h]
  simpa [BitVec.xor_assoc] using h2

theorem ofInt_toNat (b : BitVec 64) : BitVec.ofInt 64 (b.toNat : Int) = b := by simp

theorem wrap_ofInt (n : Int) : IntKind.u64.wrap n = ((BitVec.ofInt 64 n).toNat : Int) := by
  rw [IntKind.wrap_u64, BitVec.toNat_ofInt]
  have : 0 ≤ n % 18446744073709551616 := Int.emod_nonneg _ (by decide)
  simp
  omega

theorem xor_eq (a b : Int) : bits .xor .u64 a b = ((BitVec.ofInt 64 a ^^^ BitVec.ofInt 64 b).toNat : Int) := by
  show IntKind.u64.wrap ((BitVec.ofInt 64 a ^^^ BitVec.ofInt 64 b).toNat : Int) = _
  rw [wrap_ofInt, ofInt_toNat]

theorem mixI_eq (s v : Int) : mixI s v = ((mixB (BitVec.ofInt 64 s) (BitVec.ofInt 64 v)).toNat : Int) := by
  unfold mixI
  have h1 : IntKind.u64.wrap (bits .xor .u64 s v * 11400714819323198485) = (((BitVec.ofInt 64 s ^^^ BitVec.ofInt 64 v) * 0x9E3779B97F4A7C15#64).toNat : Int) := by
    rw [wrap_ofInt, BitVec.ofInt_mul, xor_eq, ofInt_toNat]
    rfl
  rw [h1, xor_eq, ofInt_toNat]
  unfold mixB xs
  generalize (BitVec.ofInt 64 s ^^^ BitVec.ofInt 64 v) * 0x9E3779B97F4A7C15#64 = m
  have h2 : BitVec.ofInt 64 ((m.toNat : Int) / 4294967296) = m >>> 32 := by
    apply BitVec.eq_of_toNat_eq
    rw [BitVec.toNat_ofInt, BitVec.toNat_ushiftRight, Nat.shiftRight_eq_div_pow]
    have := m.isLt
    simp
    omega
  rw [h2]

theorem mixI_range (s v : Int) : 0 ≤ mixI s v ∧ mixI s v < 18446744073709551616 := by
  rw [mixI_eq]
  have := (mixB (BitVec.ofInt 64 s) (BitVec.ofInt 64 v)).isLt
  omega

theorem mixI_wrap_word (s v : Int) : mixI s (IntKind.u64.wrap v) = mixI s v := by
  rw [mixI_eq, mixI_eq, wrap_ofInt, ofInt_toNat]

theorem mixI_wrap_state (s v : Int) : mixI (IntKind.u64.wrap s) v = mixI s v := by
  rw [mixI_eq, mixI_eq, wrap_ofInt, ofInt_toNat]

theorem ofInt_i64_wrap (n : Int) : BitVec.ofInt 64 (IntKind.i64.wrap n) = BitVec.ofInt 64 n := by
  apply BitVec.eq_of_toNat_eq
  rw [BitVec.toNat_ofInt, BitVec.toNat_ofInt]
  congr 1
  simp [IntKind.wrap, IntKind.bits, IntKind.signed]
  omega

theorem mixI_wrap64_word (s v : Int) : mixI s (IntKind.i64.wrap v) = mixI s v := by
  rw [mixI_eq, mixI_eq, ofInt_i64_wrap]

/-- Another word, another state. -/
theorem mixI_word {s a b : Int} (h : mixI s a = mixI s b) : IntKind.u64.wrap a = IntKind.u64.wrap b := by
  rw [mixI_eq, mixI_eq] at h
  have := mixB_word (BitVec.eq_of_toNat_eq (Int.ofNat_inj.1 h))
  rw [wrap_ofInt, wrap_ofInt, this]

/-- Another state, another state. -/
theorem mixI_state {a b v : Int} (h : mixI a v = mixI b v) : IntKind.u64.wrap a = IntKind.u64.wrap b := by
  rw [mixI_eq, mixI_eq] at h
  have := mixB_state (BitVec.eq_of_toNat_eq (Int.ofNat_inj.1 h))
  rw [wrap_ofInt, wrap_ofInt, this]

/-- Bytes, little end first. -/
def leI : List Int → Int
  | [] => 0
  | c :: r => c + 256 * leI r

theorem leI_range {zs : List Int} (h : Byt zs) : 0 ≤ leI zs ∧ leI zs < 256 ^ zs.length := by
  induction zs with
  | nil => simp [leI]
  | cons c r ih =>
    have hc := h c (by simp)
    have hr := ih (fun z hz => h z (by simp [hz]))
    simp only [leI, List.length_cons, Int.pow_succ]
    omega

theorem leI_snoc (zs : List Int) (c : Int) : leI (zs ++ [c]) = leI zs + 256 ^ zs.length * c := by
  induction zs with
  | nil => simp [leI]
  | cons d r ih =>
    simp only [List.cons_append, leI, ih, List.length_cons, Int.pow_succ]
    rw [Int.mul_add, ← Int.mul_assoc, Int.mul_comm 256 (256 ^ r.length), Int.add_assoc]

theorem leI_take_succ (zs : List Int) (k : Nat) (h : k < zs.length) : leI (zs.take (k + 1)) = leI (zs.take k) + 256 ^ k * zs[k]?.getD 0 := by
  rw [List.take_succ_eq_append_getElem h, leI_snoc, List.length_take, Nat.min_eq_left (by omega), List.getElem?_eq_getElem h]
  rfl

/-- Bits apart: or is plus. -/
theorem or_apart (a c : Int) (k : Nat) (ha : 0 ≤ a) (hk : a < 2 ^ k) (hc : 0 ≤ c) (hs : a + 2 ^ k * c < 18446744073709551616) : bits .or .u64 a (2 ^ k * c) = a + 2 ^ k * c := by
  obtain ⟨a, rfl⟩ := Int.eq_ofNat_of_zero_le ha
  obtain ⟨c, rfl⟩ := Int.eq_ofNat_of_zero_le hc
  have e : (2 ^ k * (c : Int)) = ((2 ^ k * c : Nat) : Int) := by simp
  have hk' : a < 2 ^ k := by exact_mod_cast hk
  rw [e] at hs ⊢
  rw [bits_or_u64_nat _ _ (by omega) (by omega)]
  have := Nat.two_pow_add_eq_or_of_lt hk' c
  rw [Nat.or_comm, ← this]
  omega

theorem foldl_wrap64 (ws : List Int) (a : Int) : (ws.map IntKind.i64.wrap).foldl mixI a = ws.foldl mixI a := by
  induction ws generalizing a with
  | nil => rfl
  | cons w r ih => simp only [List.map_cons, List.foldl_cons, mixI_wrap64_word, ih]

/-- Word j of the bytes zs. -/
def wordAt (zs : List Int) (j : Nat) : Int := leI ((zs.drop (8 * j)).take 8)

/-- The words of bytes. -/
def words (zs : List Int) : List Int := upto (wordAt zs) ((zs.length + 7) / 8)

theorem words_nil : words [] = [] := rfl

theorem words_length (zs : List Int) : (words zs).length = (zs.length + 7) / 8 := upto_length _ _

/-- What hash.begin returns. -/
def beginI (zs : List Int) (c : Int) : Int := mixI (mixI ((words zs).foldl mixI 0) zs.length) c

/-- What hash.Sum returns. -/
def sumI (zs ws : List Int) : Int := mixI (ws.foldl mixI (beginI zs ws.length)) 0

/-- What hash.Bytes returns. -/
def bytesI (zs cs : List Int) : Int := mixI (mixI ((words cs).foldl mixI (beginI zs ((cs.length + 7) / 8 + 1))) cs.length) 0

/-- What hash.Pair returns. -/
def pairL : List Int := [112, 97, 105, 114]

def pairI (a b : Int) : Int := sumI pairL [a, b]

theorem sumI_one {zs : List Int} {a b : Int} (h : sumI zs [a] = sumI zs [b]) : IntKind.u64.wrap a = IntKind.u64.wrap b := by
  have := mixI_state h
  simp only [List.foldl_cons, List.foldl_nil, List.length_cons, List.length_nil] at this
  have h2 : ∀ s v, IntKind.u64.wrap (mixI s v) = mixI s v := fun s v => by
    have := mixI_range s v
    rw [IntKind.wrap_u64, Int.emod_eq_of_lt this.1 this.2]
  rw [h2, h2] at this
  exact mixI_word this

theorem mixI_id (s v : Int) : IntKind.u64.wrap (mixI s v) = mixI s v := by
  have := mixI_range s v
  rw [IntKind.wrap_u64, Int.emod_eq_of_lt this.1 this.2]

theorem pairI_right {a b c : Int} (h : pairI c a = pairI c b) : IntKind.u64.wrap a = IntKind.u64.wrap b := by
  have := mixI_state h
  simp only [List.foldl_cons, List.foldl_nil, List.length_cons, List.length_nil, mixI_id] at this
  exact mixI_word this

theorem pairI_left {a b c : Int} (h : pairI a c = pairI b c) : IntKind.u64.wrap a = IntKind.u64.wrap b := by
  have := mixI_state h
  simp only [List.foldl_cons, List.foldl_nil, List.length_cons, List.length_nil, mixI_id] at this
  have := mixI_state this
  simp only [mixI_id] at this
  exact mixI_word this

theorem sumI_wrap2 (zs : List Int) (x y : Int) : sumI zs [wrap64 x, wrap64 y] = sumI zs [x, y] := by
  unfold sumI
  simp only [List.foldl_cons, List.foldl_nil, List.length_cons, List.length_nil]
  rw [← IntWalk.i64_left, ← IntWalk.i64_left, mixI_wrap64_word, mixI_wrap64_word]

theorem bytesI_eq (zs cs : List Int) : bytesI zs cs = sumI zs (words cs ++ [(cs.length : Int)]) := by
  unfold bytesI sumI
  rw [List.foldl_append, List.length_append, words_length]
  simp

theorem bytesI_eq64 (zs cs : List Int) : sumI zs (upto (fun j => IntKind.i64.wrap ((words cs)[j]?.getD 0)) (words cs).length ++ [(cs.length : Int)]) = bytesI zs cs := by
  rw [bytesI_eq, upto_all, sumI, sumI, List.foldl_append, List.foldl_append, foldl_wrap64, List.length_append, List.length_append, List.length_map]

theorem leI_zero (g : List Int) : leI (g ++ [0]) = leI g := by rw [leI_snoc]; simp

theorem words_tail (cs : List Int) (h : cs.length % 8 ≠ 0) : words (cs ++ [0]) = words cs := by
  unfold words upto
  have e : ((cs ++ [0]).length + 7) / 8 = (cs.length + 7) / 8 := by rw [List.length_append]; simp; omega
  rw [e]
  apply List.map_congr_left
  intro j hj
  have hj := List.mem_range.1 hj
  unfold wordAt
  rw [List.drop_append_of_le_length (by omega)]
  by_cases h8 : 8 ≤ (cs.drop (8 * j)).length
  · rw [List.take_append_of_le_length h8]
  · rw [List.take_of_length_le (by rw [List.length_append]; simp only [List.length_cons, List.length_nil]; omega), List.take_of_length_le (by omega), leI_zero]

theorem bytesI_tail (zs cs : List Int) (h : cs.length % 8 ≠ 0) : bytesI zs (cs ++ [0]) ≠ bytesI zs cs := by
  intro e
  unfold bytesI at e
  have e := mixI_state e
  simp only [mixI_id] at e
  have e2 : (((cs ++ [0]).length : Int) + 7) / 8 = ((cs.length : Int) + 7) / 8 := by rw [List.length_append]; simp; omega
  rw [words_tail cs h, e2] at e
  have e := mixI_word e
  rw [IntKind.wrap_u64, IntKind.wrap_u64, List.length_append] at e
  simp at e
  omega

theorem foldl_state (ws : List Int) {a b : Int} (ha : IntKind.u64.wrap a = a) (hb : IntKind.u64.wrap b = b) (h : ws.foldl mixI a = ws.foldl mixI b) : a = b := by
  induction ws generalizing a b with
  | nil => exact h
  | cons w r ih =>
    have h1 := ih (mixI_id a w) (mixI_id b w) h
    have h2 := mixI_state h1
    rwa [ha, hb] at h2

theorem foldl_id (ws : List Int) {a : Int} (ha : IntKind.u64.wrap a = a) : IntKind.u64.wrap (ws.foldl mixI a) = ws.foldl mixI a := by
  induction ws generalizing a with
  | nil => exact ha
  | cons w r ih => exact ih (mixI_id a w)

theorem foldl_one (ws vs : List Int) (hl : ws.length = vs.length) (j : Nat) (hne : ∀ i : Nat, i ≠ j → ws[i]? = vs[i]?) (a : Int) (h : ws.foldl mixI a = vs.foldl mixI a) :
    ∀ i : Nat, IntKind.u64.wrap (ws[i]?.getD 0) = IntKind.u64.wrap (vs[i]?.getD 0) := by
  induction ws generalizing vs j a with
  | nil =>
    cases vs with
    | nil => intro i; rfl
    | cons v q => simp at hl
  | cons w r ih =>
    cases vs with
    | nil => simp at hl
    | cons v q =>
      have hl' : r.length = q.length := by simpa using hl
      cases j with
      | zero =>
        have e : r = q := by
          apply List.ext_getElem?
          intro i
          have := hne (i + 1) (by omega)
          simpa using this
        subst e
        have h1 := foldl_state r (mixI_id a w) (mixI_id a v) h
        have h2 := mixI_word h1
        intro i
        cases i with
        | zero => simpa using h2
        | succ i => rfl
      | succ j =>
        have e : w = v := by simpa using hne 0 (by omega)
        subst e
        have h1 := ih q hl' j (fun i hi => by simpa using hne (i + 1) (by omega)) (mixI a w) h
        intro i
        cases i with
        | zero => rfl
        | succ i => simpa using h1 i

theorem leI_inj {g h : List Int} (hg : Byt g) (hh : Byt h) (hl : g.length = h.length) (e : leI g = leI h) : g = h := by
  induction g generalizing h with
  | nil => cases h with
    | nil => rfl
    | cons d q => simp at hl
  | cons c r ih =>
    cases h with
    | nil => simp at hl
    | cons d q =>
      have hc := hg c (by simp)
      have hd := hh d (by simp)
      have e : c + 256 * leI r = d + 256 * leI q := e
      have e1 : c = d := by omega
      have e2 : leI r = leI q := by omega
      rw [e1, ih (fun z hz => hg z (by simp [hz])) (fun z hz => hh z (by simp [hz])) (by simpa using hl) e2]

theorem wordAt_range {zs : List Int} (hz : Byt zs) (j : Nat) : IntKind.u64.wrap (wordAt zs j) = wordAt zs j := by
  have h := leI_range ((hz.drop (8 * j)).take 8)
  have hp : ∀ n : Nat, n ≤ 8 → (256 : Int) ^ n ≤ 18446744073709551616 := by
    intro n hn
    have : n = 0 ∨ n = 1 ∨ n = 2 ∨ n = 3 ∨ n = 4 ∨ n = 5 ∨ n = 6 ∨ n = 7 ∨ n = 8 := by omega
    rcases this with rfl | rfl | rfl | rfl | rfl | rfl | rfl | rfl | rfl <;> decide
  have h2 := hp ((zs.drop (8 * j)).take 8).length (List.length_take_le _ _)
  unfold wordAt
  rw [IntKind.wrap_u64, Int.emod_eq_of_lt h.1 (by omega)]

theorem words_at (zs : List Int) (j : Nat) (h : j < (zs.length + 7) / 8) : (words zs)[j]? = some (wordAt zs j) := by
  simp [words, upto, h]

theorem words_inj {zs ys : List Int} (hz : Byt zs) (hy : Byt ys) (hl : zs.length = ys.length) (h : ∀ j, wordAt zs j = wordAt ys j) : zs = ys := by
  apply List.ext_getElem?
  intro i
  have hc := leI_inj ((hz.drop (8 * (i / 8))).take 8) ((hy.drop (8 * (i / 8))).take 8) (by simp [hl]) (h (i / 8))
  have h1 : ∀ l : List Int, ((l.drop (8 * (i / 8))).take 8)[i % 8]? = l[i]? := by
    intro l
    rw [List.getElem?_take_of_lt (Nat.mod_lt _ (by decide)), List.getElem?_drop, Nat.div_add_mod]
  rw [← h1 zs, ← h1 ys, hc]

/-- Words that differ in one place at most, and the same hash: the same bytes. -/
theorem same_of_fold {zs ys : List Int} (hz : Byt zs) (hy : Byt ys) (hl : zs.length = ys.length) (j : Nat) (hne : ∀ i : Nat, i / 8 ≠ j → zs[i]? = ys[i]?) (a : Int)
    (h : (words zs).foldl mixI a = (words ys).foldl mixI a) : zs = ys := by
  have hw : ∀ i, i ≠ j → wordAt zs i = wordAt ys i := by
    intro i hi
    unfold wordAt
    congr 1
    apply List.ext_getElem?
    intro m
    by_cases hm : m < 8
    · rw [List.getElem?_take_of_lt hm, List.getElem?_take_of_lt hm, List.getElem?_drop, List.getElem?_drop]
      exact hne _ (by omega)
    · rw [List.getElem?_eq_none (by rw [List.length_take]; omega), List.getElem?_eq_none (by rw [List.length_take]; omega)]
  have hwl : (words zs).length = (words ys).length := by rw [words_length, words_length, hl]
  have h1 := foldl_one (words zs) (words ys) hwl j (fun i hi => by
    by_cases hlt : i < (zs.length + 7) / 8
    · rw [words_at zs i hlt, words_at ys i (by omega), hw i hi]
    · rw [List.getElem?_eq_none (by rw [words_length]; omega), List.getElem?_eq_none (by rw [words_length]; omega)]) a h
  apply words_inj hz hy hl
  intro i
  by_cases hlt : i < (zs.length + 7) / 8
  · have h2 := h1 i
    rw [words_at zs i hlt, words_at ys i (by omega)] at h2
    simpa only [Option.getD_some, wordAt_range hz, wordAt_range hy] using h2
  · have e : ∀ l : List Int, l.length ≤ 8 * i → wordAt l i = 0 := by
      intro l h
      unfold wordAt
      rw [List.drop_of_length_le h]
      rfl
    rw [e zs (by omega), e ys (by omega)]

theorem beginI_id (zs : List Int) (c : Int) : IntKind.u64.wrap (beginI zs c) = beginI zs c := mixI_id _ _

theorem bytesI_group {s zs ys : List Int} (hz : Byt zs) (hy : Byt ys) (hl : zs.length = ys.length) (j : Nat) (hne : ∀ i : Nat, i / 8 ≠ j → zs[i]? = ys[i]?) :
    (bytesI s zs == bytesI s ys) = decide (zs = ys) := by
  by_cases h : zs = ys
  · subst h; simp
  · rw [decide_eq_false h, beq_eq_false_iff_ne]
    intro e
    apply h
    unfold bytesI at e
    rw [← hl] at e
    generalize hb : beginI s (((zs.length : Int) + 7) / 8 + 1) = b at e
    have ib : IntKind.u64.wrap b = b := by rw [← hb]; exact beginI_id _ _
    have e := mixI_state e
    simp only [mixI_id] at e
    have e := mixI_state e
    rw [foldl_id _ ib, foldl_id _ ib] at e
    exact same_of_fold hz hy hl j hne _ e

theorem sumI_label {zs ys : List Int} (hz : Byt zs) (hy : Byt ys) (hl : zs.length = ys.length) (j : Nat) (hne : ∀ i : Nat, i / 8 ≠ j → zs[i]? = ys[i]?) (ws : List Int) :
    (sumI zs ws == sumI ys ws) = decide (zs = ys) := by
  by_cases h : zs = ys
  · subst h; simp
  · rw [decide_eq_false h, beq_eq_false_iff_ne]
    intro e
    apply h
    unfold sumI at e
    have e := mixI_state e
    rw [foldl_id _ (beginI_id _ _), foldl_id _ (beginI_id _ _)] at e
    have e := foldl_state ws (beginI_id _ _) (beginI_id _ _) e
    unfold beginI at e
    have e := mixI_state e
    simp only [mixI_id] at e
    rw [hl] at e
    have e := mixI_state e
    have z0 : IntKind.u64.wrap 0 = 0 := IntWalk.u64_in 0 ⟨by omega, by omega⟩
    rw [foldl_id _ z0, foldl_id _ z0] at e
    exact same_of_fold hz hy hl j hne _ e

theorem sumI_word (s xs : List Int) (k : Nat) (v : Int) (hk : k < xs.length) (hx : (Lit.int .i64 (xs[k]?.getD 0)).wf = true) (hv : (Lit.int .i64 v).wf = true) :
    (sumI s xs == sumI s (xs.set k v)) = (xs[k]?.getD 0 == v) := by
  by_cases h : xs[k]?.getD 0 = v
  · have e : xs.set k v = xs := by
      apply List.ext_getElem?
      intro i
      rw [List.getElem?_set]
      split
      · next hi => subst hi; rw [← h, List.getElem?_eq_getElem hk]; simp
      · rfl
    rw [e, h]; simp
  · rw [beq_eq_false_iff_ne.2 h, beq_eq_false_iff_ne]
    intro e
    apply h
    unfold sumI at e
    have e := mixI_state e
    rw [List.length_set, foldl_id _ (beginI_id _ _), foldl_id _ (beginI_id _ _)] at e
    have h1 := foldl_one xs (xs.set k v) (by simp) k (fun i hi => by rw [List.getElem?_set_ne (Ne.symm hi)]) _ e k
    rw [List.getElem?_set_self hk, Option.getD_some, IntKind.wrap_u64, IntKind.wrap_u64] at h1
    have b1 : -9223372036854775808 ≤ xs[k]?.getD 0 ∧ xs[k]?.getD 0 ≤ 9223372036854775807 := by
      simpa [Lit.wf, IntKind.min, IntKind.max, IntKind.signed, IntKind.bits] using hx
    have b2 : -9223372036854775808 ≤ v ∧ v ≤ 9223372036854775807 := by
      simpa [Lit.wf, IntKind.min, IntKind.max, IntKind.signed, IntKind.bits] using hv
    omega

end Go.Proofs.Ytodlcfjdmadpmaa.Hm
