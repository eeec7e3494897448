/- Plain mathematics of the hash: mixing is one to one in the state and in the word; words of bytes, little end first. -/
import Derived.WalkKit
import Derived.Laws.Bits64
import Derived.Laws.Bits64b
namespace Go.Proofs.Ytccinfjaggalcaa.Hm
open Go.RowKit

/-- One step of the hash, as the walk spells it. -/
def mixI (s v : Int) : Int :=
  bits .xor .u64 (IntKind.u64.wrap (bits .xor .u64 s v * 11400714819323198485)) (IntKind.u64.wrap (bits .xor .u64 s v * 11400714819323198485) / 4294967296)

def xs (m : BitVec 64) : BitVec 64 := m ^^^ (m >>> 32)
def mixB (s v : BitVec 64) : BitVec 64 := xs ((s ^^^ v) * 0x9E3779B97F4A7C15#64)

theorem xs_xs (m : BitVec 64) : xs (xs m) = m := by
  unfold xs
  rw [BitVec.ushiftRight_xor_distrib, ← BitVec.shiftRight_add]
  have h : m >>> (32 + 32) = 0#64 := by
    apply BitVec.eq_of_toNat_eq
    rw [BitVec.toNat_ushiftRight, Nat.shiftRight_eq_div_pow]
    have := m.isLt
    simp
    omega
  rw [h, BitVec.xor_zero, BitVec.xor_assoc, BitVec.xor_self, BitVec.xor_zero]

theorem xs_inj {a b : BitVec 64} (h : xs a = xs b) : a = b := by rw [← xs_xs a, h, xs_xs]

theorem mul_inj {a b : BitVec 64} (h : a * 0x9E3779B97F4A7C15#64 = b * 0x9E3779B97F4A7C15#64) : a = b := by
  have g : ∀ x : BitVec 64, x * 0x9E3779B97F4A7C15#64 * 0xF1DE83E19937733D#64 = x := by
    intro x
    rw [BitVec.mul_assoc, show (0x9E3779B97F4A7C15#64 * 0xF1DE83E19937733D#64 : BitVec 64) = 1#64 from by decide, BitVec.mul_one]
  rw [← g a, h, g b]

theorem mixB_word {s a b : BitVec 64} (h : mixB s a = mixB s b) : a = b := by
  have h := mul_inj (xs_inj h)
  have h2 : s ^^^ (s ^^^ a) = s ^^^ (s ^^^ b) := by rw [h]
  simpa [← BitVec.xor_assoc] using h2

theorem mixB_state {a b v : BitVec 64} (h : mixB a v = mixB b v) : a = b := by
  have h := mul_inj (xs_inj h)
  have h2 : (a ^^^ v) ^^^ v = (b ^^^ v) ^^^ v := by rw [h]
  simpa [BitVec.xor_assoc] using h2

theorem ofInt_toNat (b : BitVec 64) : BitVec.ofInt 64 (b.toNat : Int) = b := by simp

theorem wrap_ofInt (n : Int) : IntKind.u64.wrap n = ((BitVec.ofInt 64 n).toNat : Int) := by
  rw [IntKind.wrap_u64, BitVec.toNat_ofInt]
  have : 0 ≤ n % 18446744073709551616 := Int.emod_nonneg _ (by decide)
  simp
  omega

theorem xor_eq (a b : Int) : bits .xor .u64 a b = ((BitVec.ofInt 64 a ^^^ BitVec.ofInt 64 b).toNat : Int) := by
  show IntKind.u64.wrap ((BitVec.ofInt 64 a ^^^ BitVec.ofInt 64 b).toNat : Int) = _
  rw [wrap_ofInt, ofInt_toNat]

theorem mixI_eq (s v : Int) : mixI s v = ((mixB (BitVec.ofInt 64 s) (BitVec.ofInt 64 v)).toNat : Int) := by
  unfold mixI
  have h1 : IntKind.u64.wrap (bits .xor .u64 s v * 11400714819323198485) = (((BitVec.ofInt 64 s ^^^ BitVec.ofInt 64 v) * 0x9E3779B97F4A7C15#64).toNat : Int) := by
    rw [wrap_ofInt, BitVec.ofInt_mul, xor_eq, ofInt_toNat]
    rfl
  rw [h1, xor_eq, ofInt_toNat]
  unfold mixB xs
  generalize (BitVec.ofInt 64 s ^^^ BitVec.ofInt 64 v) * 0x9E3779B97F4A7C15#64 = m
  have h2 : BitVec.ofInt 64 ((m.toNat : Int) / 4294967296) = m >>> 32 := by
    apply BitVec.eq_of_toNat_eq
    rw [BitVec.toNat_ofInt, BitVec.toNat_ushiftRight, Nat.shiftRight_eq_div_pow]
    have := m.isLt
    simp
    omega
  rw [h2]

theorem mixI_range (s v : Int) : 0 ≤ mixI s v ∧ mixI s v < 18446744073709551616 := by
  rw [mixI_eq]
  have := (mixB (BitVec.ofInt 64 s) (BitVec.ofInt 64 v)).isLt
  omega

theorem mixI_wrap_word (s v : Int) : mixI s (IntKind.u64.wrap v) = mixI s v := by
  rw [mixI_eq, mixI_eq, wrap_ofInt, ofInt_toNat]

theorem mixI_wrap_state (s v : Int) : mixI (IntKind.u64.wrap s) v = mixI s v := by
  rw [mixI_eq, mixI_eq, wrap_ofInt, ofInt_toNat]

theorem ofInt_i64_wrap (n : Int) : BitVec.ofInt 64 (IntKind.i64.wrap n) = BitVec.ofInt 64 n := by
  apply BitVec.eq_of_toNat_eq
  rw [BitVec.toNat_ofInt, BitVec.toNat_ofInt]
  congr 1
  simp [IntKind.wrap, IntKind.bits, IntKind.signed]
  omega

theorem mixI_wrap64_word (s v : Int) : mixI s (IntKind.i64.wrap v) = mixI s v := by
  rw [mixI_eq, mixI_eq, ofInt_i64_wrap]

/-- Another word, another state. -/
theorem mixI_word {s a b : Int} (h : mixI s a = mixI s b) : IntKind.u64.wrap a = IntKind.u64.wrap b := by
  rw [mixI_eq, mixI_eq] at h
  have := mixB_word (BitVec.eq_of_toNat_eq (Int.ofNat_inj.1 h))
  rw [wrap_ofInt, wrap_ofInt, this]

/-- Another state, another state. -/
theorem mixI_state {a b v : Int} (h : mixI a v = mixI b v) : IntKind.u64.wrap a = IntKind.u64.wrap b := by
  rw [mixI_eq, mixI_eq] at h
  have := mixB_state (BitVec.eq_of_toNat_eq (Int.ofNat_inj.1 h))
  rw [wrap_ofInt, wrap_ofInt, this]


/-- Bytes, little end first. -/
def leI : List Int → Int
  | [] => 0
  | c :: r => c + 256 * leI r

/-- All are bytes. -/
def Byt (zs : List Int) : Prop := ∀ z ∈ zs, 0 ≤ z ∧ z < 256

theorem Byt.take {zs : List Int} (h : Byt zs) (k : Nat) : Byt (zs.take k) := fun z hz => h z (List.mem_of_mem_take hz)
theorem Byt.drop {zs : List Int} (h : Byt zs) (k : Nat) : Byt (zs.drop k) := fun z hz => h z (List.mem_of_mem_drop hz)
theorem Byt.at {zs : List Int} (h : Byt zs) (k : Nat) : 0 ≤ zs[k]?.getD 0 ∧ zs[k]?.getD 0 < 256 := by
  by_cases hk : k < zs.length
  · rw [List.getElem?_eq_getElem hk]; exact h _ (List.getElem_mem hk)
  · rw [List.getElem?_eq_none (by omega)]; simp

theorem leI_range {zs : List Int} (h : Byt zs) : 0 ≤ leI zs ∧ leI zs < 256 ^ zs.length := by
  induction zs with
  | nil => simp [leI]
  | cons c r ih =>
    have hc := h c (by simp)
    have hr := ih (fun z hz => h z (by simp [hz]))
    simp only [leI, List.length_cons, Int.pow_succ]
    omega

theorem leI_snoc (zs : List Int) (c : Int) : leI (zs ++ [c]) = leI zs + 256 ^ zs.length * c := by
  induction zs with
  | nil => simp [leI]
  | cons d r ih =>
    simp only [List.cons_append, leI, ih, List.length_cons, Int.pow_succ]
    rw [Int.mul_add, ← Int.mul_assoc, Int.mul_comm 256 (256 ^ r.length), Int.add_assoc]

theorem leI_take_succ (zs : List Int) (k : Nat) (h : k < zs.length) : leI (zs.take (k + 1)) = leI (zs.take k) + 256 ^ k * zs[k]?.getD 0 := by
  rw [List.take_succ_eq_append_getElem h, leI_snoc, List.length_take, Nat.min_eq_left (by omega), List.getElem?_eq_getElem h]
  rfl

/-- Bits apart: or is plus. -/
theorem or_apart (a c : Int) (k : Nat) (ha : 0 ≤ a) (hk : a < 2 ^ k) (hc : 0 ≤ c) (hs : a + 2 ^ k * c < 18446744073709551616) : bits .or .u64 a (2 ^ k * c) = a + 2 ^ k * c := by
  obtain ⟨a, rfl⟩ := Int.eq_ofNat_of_zero_le ha
  obtain ⟨c, rfl⟩ := Int.eq_ofNat_of_zero_le hc
  have e : (2 ^ k * (c : Int)) = ((2 ^ k * c : Nat) : Int) := by simp
  have hk' : a < 2 ^ k := by exact_mod_cast hk
  rw [e] at hs ⊢
  rw [bits_or_u64_nat _ _ (by omega) (by omega)]
  have := Nat.two_pow_add_eq_or_of_lt hk' c
  rw [Nat.or_comm, ← this]
  omega


theorem foldl_wrap64 (ws : List Int) (a : Int) : (ws.map IntKind.i64.wrap).foldl mixI a = ws.foldl mixI a := by
  induction ws generalizing a with
  | nil => rfl
  | cons w r ih => simp only [List.map_cons, List.foldl_cons, mixI_wrap64_word, ih]

/-- What has come when k rounds are over. -/
def upto {α : Type} (f : Nat → α) (k : Nat) : List α := (List.range k).map f
theorem upto_succ {α : Type} (f : Nat → α) (k : Nat) : upto f (k + 1) = upto f k ++ [f k] := by simp [upto, List.range_succ]
theorem upto_length {α : Type} (f : Nat → α) (k : Nat) : (upto f k).length = k := by simp [upto]
theorem upto_all (ws : List Int) (f : Int → Int) : upto (fun j => f (ws[j]?.getD 0)) ws.length = ws.map f := by
  apply List.ext_getElem
  · simp [upto]
  · intro i h1 h2
    simp only [upto, List.length_map, List.length_range] at h1
    simp [upto, h1]
theorem upto_take {α : Type} (f : Nat → α) (k n : Nat) (h : k ≤ n) : upto f k <+: upto f n := by
  refine ⟨((List.range (n - k)).map (k + ·)).map f, ?_⟩
  obtain ⟨m, rfl⟩ := Nat.le.dest h
  simp [upto, List.range_add]

/-- Word j of the bytes zs. -/
def wordAt (zs : List Int) (j : Nat) : Int := leI ((zs.drop (8 * j)).take 8)
/-- The words of bytes. -/
def words (zs : List Int) : List Int := upto (wordAt zs) ((zs.length + 7) / 8)
theorem words_nil : words [] = [] := rfl
theorem words_length (zs : List Int) : (words zs).length = (zs.length + 7) / 8 := upto_length _ _


/-- The bytes of a string. -/
def bs (s : ByteArray) : List Int := s.data.toList.map fun c => (c.toNat : Int)
theorem bs_length (s : ByteArray) : (bs s).length = s.size := by rw [bs, List.length_map, Array.length_toList]; rfl
theorem bs_byt (s : ByteArray) : Byt (bs s) := by
  intro z hz
  obtain ⟨c, _, rfl⟩ := List.mem_map.1 hz
  have := c.toNat_lt
  omega

/-- What hash.begin returns. -/
def beginI (zs : List Int) (c : Int) : Int := mixI (mixI ((words zs).foldl mixI 0) zs.length) c


/-- What hash.Sum returns. -/
def sumI (zs ws : List Int) : Int := mixI (ws.foldl mixI (beginI zs ws.length)) 0
/-- What hash.Bytes returns. -/
def bytesI (zs cs : List Int) : Int := mixI (mixI ((words cs).foldl mixI (beginI zs ((cs.length + 7) / 8 + 1))) cs.length) 0
/-- What hash.Pair returns. -/
def pairL : List Int := [112, 97, 105, 114]
def pairI (a b : Int) : Int := sumI pairL [a, b]
theorem sumI_one {zs : List Int} {a b : Int} (h : sumI zs [a] = sumI zs [b]) : IntKind.u64.wrap a = IntKind.u64.wrap b := by
  have := mixI_state h
  simp only [List.foldl_cons, List.foldl_nil, List.length_cons, List.length_nil] at this
  have h2 : ∀ s v, IntKind.u64.wrap (mixI s v) = mixI s v := fun s v => by
    have := mixI_range s v
    rw [IntKind.wrap_u64, Int.emod_eq_of_lt this.1 this.2]
  rw [h2, h2] at this
  exact mixI_word this
theorem mixI_id (s v : Int) : IntKind.u64.wrap (mixI s v) = mixI s v := by
  have := mixI_range s v
  rw [IntKind.wrap_u64, Int.emod_eq_of_lt this.1 this.2]
theorem pairI_right {a b c : Int} (h : pairI c a = pairI c b) : IntKind.u64.wrap a = IntKind.u64.wrap b := by
  have := mixI_state h
  simp only [List.foldl_cons, List.foldl_nil, List.length_cons, List.length_nil, mixI_id] at this
  exact mixI_word this
theorem pairI_left {a b c : Int} (h : pairI a c = pairI b c) : IntKind.u64.wrap a = IntKind.u64.wrap b := by
  have := mixI_state h
  simp only [List.foldl_cons, List.foldl_nil, List.length_cons, List.length_nil, mixI_id] at this
  have := mixI_state this
  simp only [mixI_id] at this
  exact mixI_word this
theorem sumI_wrap2 (zs : List Int) (x y : Int) : sumI zs [wrap64 x, wrap64 y] = sumI zs [x, y] := by
  unfold sumI
  simp only [List.foldl_cons, List.foldl_nil, List.length_cons, List.length_nil]
  rw [← IntWalk.i64_left, ← IntWalk.i64_left, mixI_wrap64_word, mixI_wrap64_word]
theorem bytesI_eq (zs cs : List Int) : bytesI zs cs = sumI zs (words cs ++ [(cs.length : Int)]) := by
  unfold bytesI sumI
  rw [List.foldl_append, List.length_append, words_length]
  simp

theorem bytesI_eq64 (zs cs : List Int) : sumI zs (upto (fun j => IntKind.i64.wrap ((words cs)[j]?.getD 0)) (words cs).length ++ [(cs.length : Int)]) = bytesI zs cs := by
  rw [bytesI_eq, upto_all, sumI, sumI, List.foldl_append, List.foldl_append, foldl_wrap64, List.length_append, List.length_append, List.length_map]

theorem leI_zero (g : List Int) : leI (g ++ [0]) = leI g := by rw [leI_snoc]; simp
theorem words_tail (cs : List Int) (h : cs.length % 8 ≠ 0) : words (cs ++ [0]) = words cs := by
  unfold words upto
  have e : ((cs ++ [0]).length + 7) / 8 = (cs.length + 7) / 8 := by rw [List.length_append]; simp; omega
  rw [e]
  apply List.map_congr_left
  intro j hj
  have hj := List.mem_range.1 hj
  unfold wordAt
  rw [List.drop_append_of_le_length (by omega)]
  by_cases h8 : 8 ≤ (cs.drop (8 * j)).length
  · rw [List.take_append_of_le_length h8]
  · rw [List.take_of_length_le (by rw [List.length_append]; simp only [List.length_cons, List.length_nil]; omega), List.take_of_length_le (by omega), leI_zero]
theorem bytesI_tail (zs cs : List Int) (h : cs.length % 8 ≠ 0) : bytesI zs (cs ++ [0]) ≠ bytesI zs cs := by
  intro e
  unfold bytesI at e
  have e := mixI_state e
  simp only [mixI_id] at e
  have e2 : (((cs ++ [0]).length : Int) + 7) / 8 = ((cs.length : Int) + 7) / 8 := by rw [List.length_append]; simp; omega
  rw [words_tail cs h, e2] at e
  have e := mixI_word e
  rw [IntKind.wrap_u64, IntKind.wrap_u64, List.length_append] at e
  simp at e
  omega

end Go.Proofs.Ytccinfjaggalcaa.Hm
