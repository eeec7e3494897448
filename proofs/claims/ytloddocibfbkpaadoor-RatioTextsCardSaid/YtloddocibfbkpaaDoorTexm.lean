/- Mathematics of texts: decimal numerals, and what Parse makes of a ratio's text. -/
import Derived.Test.YtloddocibfbkpaaDoorPdef
import Derived.Lib.ItoaNum
namespace Go.Proofs.YtloddocibfbkpaaDoor
open Go.RowKit

theorem dig_nat (u : Nat) : (UInt8.ofNat (48 + u % 10)).toNat = 48 + u % 10 := by
  have : (48 + u % 10) < 256 := by omega
  simp only [UInt8.toNat_ofNat']
  omega

theorem isD_dig (u : Nat) : isD (UInt8.ofNat (48 + u % 10)) = true := isD_iff.2 (by rw [dig_nat]; omega)

theorem dec_split (u : Nat) : Lib.decDigits u = (if u < 10 then [] else Lib.decDigits (u / 10)) ++ [UInt8.ofNat (48 + u % 10)] := by
  by_cases h : u < 10
  · rw [Lib.decDigits, dif_pos h, if_pos h, Nat.mod_eq_of_lt h]; rfl
  · rw [Lib.decDigits, dif_neg h, if_neg h]

theorem dec_all (u : Nat) : ∀ c ∈ Lib.decDigits u, isD c = true := by
  induction u using Nat.strongRecOn with
  | _ u ih =>
    intro c hc
    rw [dec_split] at hc
    rcases List.mem_append.1 hc with h | h
    · by_cases h10 : u < 10
      · rw [if_pos h10] at h; simp at h
      · rw [if_neg h10] at h; exact ih _ (by omega) c h
    · rw [List.mem_singleton.1 h]; exact isD_dig u

theorem dec_val (u : Nat) : valF 0 (Lib.decDigits u) = u := by
  induction u using Nat.strongRecOn with
  | _ u ih =>
    rw [dec_split, valF_append]
    have e : ∀ n : Int, valF n [UInt8.ofNat (48 + u % 10)] = n * 10 + ((u % 10 : Nat) : Int) := fun n => by
      show n * 10 + (((UInt8.ofNat (48 + u % 10)).toNat : Int) - 48) = _
      rw [dig_nat]
      omega
    rw [e]
    by_cases h10 : u < 10
    · rw [if_pos h10]
      show (0 : Int) * 10 + ((u % 10 : Nat) : Int) = u
      omega
    · rw [if_neg h10, ih _ (by omega)]
      omega

theorem dec_len (k u : Nat) (h : u < 10 ^ (k + 1)) : (Lib.decDigits u).length ≤ k + 1 := by
  induction k generalizing u with
  | zero =>
    rw [dec_split, if_pos (by simpa using h)]
    simp
  | succ k ih =>
    rw [dec_split]
    by_cases h10 : u < 10
    · rw [if_pos h10]; simp
    · rw [if_neg h10, List.length_append]
      have : u / 10 < 10 ^ (k + 1) := by
        rw [Nat.pow_succ] at h
        omega
      have := ih _ this
      simp
      omega

theorem dec_pos (u : Nat) : 1 ≤ (Lib.decDigits u).length := by
  rw [dec_split, List.length_append]
  simp

theorem cnt_append : ∀ (l r : List UInt8), (∀ c ∈ l, isD c = true) → cntD (l ++ r) = l.length + cntD r
  | [], r, _ => by simp
  | c :: l, r, h => by
    rw [List.cons_append, cntD, if_pos (h c (List.mem_cons_self ..)), cnt_append l r (fun d hd => h d (List.mem_cons_of_mem _ hd)), List.length_cons]
    omega

theorem cnt_slash (r : List UInt8) : cntD (47 :: r) = 0 := by
  rw [cntD, if_neg]
  intro h
  have := isD_iff.1 h
  simp at this

theorem valC_dec (u : Nat) (h : u < 4600000000000000000) : valC 0 (Lib.decDigits u) = u := by
  rcases valC_val (Lib.decDigits u) (dec_all u) 0 0 (Int.le_refl _) (.inl ⟨by omega, rfl⟩) with ⟨_, h2⟩ | ⟨h1, _⟩
  · rw [h2, dec_val]
  · rw [dec_val] at h1; omega

/-- The text of a ratio. -/
def texL (a b : Int) : List UInt8 := if b = 1 then Lib.itoa a else Lib.itoa a ++ 47 :: Lib.itoa b

theorem dec_take (u : Nat) (r : List UInt8) (h : cntD r = 0) : cntD (Lib.decDigits u ++ r) = (Lib.decDigits u).length := by rw [cnt_append _ _ (dec_all u), h]; rfl

theorem refF_text {sg b : Int} {u : Nat} (ho : Qm.Ok (sg * u) b) (hu : u ≤ 1099511627776) :
    refF sg (Lib.decDigits u ++ (if b = 1 then [] else 47 :: Lib.itoa b)) = (sg * u, b, 0) := by
  have h1 := dec_pos u
  have h2 := dec_len 12 u (by omega)
  have hof := Qm.ofR_ok ho
  obtain ⟨b1, b2, _⟩ := ho
  by_cases hb : b = 1
  · subst hb
    rw [if_pos rfl]
    have hc := dec_take u [] rfl
    unfold refF
    rw [if_neg (by rw [hc]; omega), hc, List.drop_left, List.take_left]
    show (if 4600000000000000000 ≤ valC 0 (Lib.decDigits u) then _ else _) = _
    rw [valC_dec u (by omega), if_neg (by omega)]
    exact hof
  · rw [if_neg hb]
    have hib : Lib.itoa b = Lib.decDigits b.toNat := by unfold Lib.itoa; rw [if_neg (by omega)]
    rw [hib]
    have hc := dec_take u (47 :: Lib.decDigits b.toNat) (cnt_slash _)
    have hk : cntD (Lib.decDigits b.toNat) = (Lib.decDigits b.toNat).length := by
      have := dec_take b.toNat [] rfl
      rwa [List.append_nil] at this
    have hl1 := dec_pos b.toNat
    have hl2 := dec_len 6 b.toNat (by omega)
    unfold refF
    rw [if_neg (by rw [hc]; omega), hc, List.drop_left, List.take_left]
    show (if ((47 : UInt8) ≠ 46 ∧ (47 : UInt8) ≠ 47) ∨ cntD (Lib.decDigits b.toNat) < 1 ∨ cntD (Lib.decDigits b.toNat) < (Lib.decDigits b.toNat).length ∨ ((47 : UInt8) = 47 ∧ 7 < cntD (Lib.decDigits b.toNat)) ∨ ((47 : UInt8) ≠ 47 ∧ 6 < cntD (Lib.decDigits b.toNat)) then _ else _) = _
    rw [if_neg (by rw [hk]; rintro (⟨_, h⟩ | h | h | ⟨_, h⟩ | ⟨h, _⟩); (· exact h rfl); (· omega); (· omega); (· omega); (· exact h rfl)), if_pos rfl, valC_dec u (by omega), valC_dec b.toNat (by omega), if_neg (by omega), if_neg (by omega), Int.toNat_of_nonneg (by omega)]
    exact hof

theorem dec_head (u : Nat) (r : List UInt8) : ¬ (Lib.decDigits u ++ r).head? = some 45 := by
  intro h
  have h1 := dec_pos u
  match hd : Lib.decDigits u, h1 with
  | c :: l, _ =>
    rw [hd] at h
    simp at h
    have := dec_all u c (by rw [hd]; exact List.mem_cons_self ..)
    rw [h] at this
    have := isD_iff.1 this
    simp at this

/-- Parse leads back. -/
theorem refP_text {a b : Int} (ho : Qm.Ok a b) : refP (texL a b) = (a, b, 0) := by
  have hr := ho.2.2
  have ht : texL a b = Lib.itoa a ++ (if b = 1 then [] else 47 :: Lib.itoa b) := by
    unfold texL
    split
    · rw [List.append_nil]
    · rfl
  rw [ht]
  by_cases ha : a < 0
  · have e : Lib.itoa a = 45 :: Lib.decDigits a.natAbs := by unfold Lib.itoa; rw [if_pos ha]
    rw [e]
    have e2 : (-1 : Int) * (a.natAbs : Nat) = a := by omega
    have := refF_text (sg := -1) (b := b) (u := a.natAbs) (by rw [e2]; exact ho) (by omega)
    rw [e2] at this
    show refF (-1) (Lib.decDigits a.natAbs ++ _) = _
    exact this
  · have e : Lib.itoa a = Lib.decDigits a.toNat := by unfold Lib.itoa; rw [if_neg ha]
    rw [e]
    have e2 : (1 : Int) * (a.toNat : Nat) = a := by omega
    have := refF_text (sg := 1) (b := b) (u := a.toNat) (by rw [e2]; exact ho) (by omega)
    rw [e2] at this
    unfold refP
    rw [if_neg (dec_head _ _)]
    exact this

theorem itoa_len (a : Int) (h : -9223372036854775808 ≤ a ∧ a ≤ 9223372036854775807) : (Lib.itoa a).length ≤ 20 ∧ 1 ≤ (Lib.itoa a).length := by
  unfold Lib.itoa
  have := h.1
  have := h.2
  split
  · have := dec_len 18 a.natAbs (by omega)
    have := dec_pos a.natAbs
    simp only [List.length_cons]
    omega
  · have := dec_len 18 a.toNat (by omega)
    have := dec_pos a.toNat
    omega

theorem texL_len (a b : Int) (h : -9223372036854775808 ≤ a ∧ a ≤ 9223372036854775807) (h' : -9223372036854775808 ≤ b ∧ b ≤ 9223372036854775807) : (texL a b).length ≤ 41 ∧ 1 ≤ (texL a b).length := by
  have := itoa_len a h
  have := itoa_len b h'
  unfold texL
  split
  · omega
  · simp only [List.length_append, List.length_cons]
    omega

/-- The digits of u, none for 0. -/
def decF (u : Nat) : List UInt8 := if u = 0 then [] else Lib.decDigits u

theorem decF_step {u : Nat} (h : u ≠ 0) : decF u = decF (u / 10) ++ [UInt8.ofNat (48 + u % 10)] := by
  unfold decF
  rw [if_neg h, dec_split]
  by_cases h10 : u < 10
  · rw [if_pos h10, if_pos (by omega)]
  · rw [if_neg h10, if_neg (by omega)]

theorem ten_one : ∀ i : Fin 10, ((⟨#[48, 49, 50, 51, 52, 53, 54, 55, 56, 57]⟩ : ByteArray).extract i.val (i.val + 1)).data.toList = [UInt8.ofNat (48 + i.val)] := by decide +kernel

theorem ten_at (u : Nat) : ((⟨#[48, 49, 50, 51, 52, 53, 54, 55, 56, 57]⟩ : ByteArray).extract (u % 10) (u % 10 + 1)).data.toList = [UInt8.ofNat (48 + u % 10)] := ten_one ⟨u % 10, by omega⟩

end Go.Proofs.YtloddocibfbkpaaDoor
