/- Contracts of priorartref01: Decimal. -/
import Derived.Test.YtloddocibfbkpaaDoorTexm
import Derived.Test.YtloddocibfbkpaaDoorRef03
import Derived.Laws.DeepStrings4
namespace Go.Proofs.YtloddocibfbkpaaDoor
open Go.RowKit Go.Shelf

theorem str_of_list {s : ByteArray} {l : List UInt8} (h : s.data.toList = l) : s = ⟨l.toArray⟩ := by
  cases s with
  | mk a => cases a; simp_all

theorem push_digit {k : Nat} {S : ByteArray} {F : List UInt8} (h : decF k ++ S.data.toList = F) (hk : k ≠ 0) :
    decF (k / 10) ++ ((⟨#[48, 49, 50, 51, 52, 53, 54, 55, 56, 57]⟩ : ByteArray).extract (k % 10) (k % 10 + 1) ++ S).data.toList = F := by
  rw [ByteArray.data_append, Array.toList_append, ten_at, ← List.append_assoc, ← decF_step hk, h]

theorem push_size (k : Nat) (S : ByteArray) : ((⟨#[48, 49, 50, 51, 52, 53, 54, 55, 56, 57]⟩ : ByteArray).extract (k % 10) (k % 10 + 1) ++ S).size = S.size + 1 := by
  rw [ByteArray.size_append, ByteArray.size_extract]
  have : (⟨#[48, 49, 50, 51, 52, 53, 54, 55, 56, 57]⟩ : ByteArray).size = 10 := rfl
  rw [this]
  omega

theorem int_cast_div (k : Nat) : Value.int .i64 ((k : Int) / 10) = .int .i64 ((k / 10 : Nat) : Int) := by congr 1

theorem int_cast_neg (k : Nat) : Value.int .i64 (-((k : Int) / 10)) = .int .i64 (-((k / 10 : Nat) : Int)) := by congr 1

theorem decF_len (k u : Nat) (h : u < 10 ^ (k + 1)) : (decF u).length ≤ k + 1 := by
  unfold decF
  split
  · simp
  · exact dec_len k u h

set_option maxHeartbeats 4000000 in
theorem rdec_pos (u : Nat) (w : World) (h0 : u ≠ 0) (hu : u ≤ 9223372036854775807) :
    Calls Tryd.prog 9 #[.int .i64 u] w fun e w' => e = .returned (.string ⟨(Lib.decDigits u).toArray⟩) ∧ w = w' := by
  have hne : ((u : Int) == 0) = false := by simpa using h0
  have hnn : ¬ ((u : Int) < 0) := by omega
  have HF := Lib.hid (show decF u = Lib.decDigits u by unfold decF; rw [if_neg h0])
  have hl0 := decF_len 18 u (by omega)
  generalize hF : decF u = F at *
  have HFF := Lib.hid hF
  clear hF
  go_enter Tryd.func9, Tryd.ntmps9
  go_wp2
  go_loop [4, 5] (fun s x => ∃ (S : ByteArray) (k : Nat), s = .string S ∧ x = .int .i64 k ∧ k ≤ 9223372036854775807 ∧ Hid (decF k ++ S.data.toList = F)) (fun _ x => (intOf x).toNat)
  case atStart => exact ⟨_, u, rfl, rfl, hu, by show Hid (decF u ++ [] = F); rw [List.append_nil]; exact HFF⟩
  case round =>
    obtain ⟨S, k, rfl, rfl, hk, hS⟩ := hrel
    have hsz : S.size ≤ 100 := by
      have h1 := congrArg List.length hS.out
      rw [List.length_append] at h1
      have h2 : S.data.toList.length = S.size := Array.length_toList ..
      omega
    by_cases hz : k = 0
    · subst hz
      have hr : S = ⟨(Lib.decDigits u).toArray⟩ := str_of_list (by rw [← HF.out, ← hS.out]; rfl)
      have HR := Lib.hid hr
      clear hr
      go_wp2
      go_ret
      exact ⟨ret_string HR.out, rfl⟩
    · have hki : ((k : Int) == 0) = false := by simpa using hz
      have hk0 : 0 ≤ (k : Int) := by omega
      have hp := Lib.hid (push_digit hS.out hz)
      clear hS
      go_wp2
      exact ⟨⟨_, k / 10, rfl, int_cast_div k, by omega, hp⟩, by simp [intOf]; omega⟩

theorem neg_div (k : Nat) : Int.tdiv (-(k : Int)) 10 = -((k : Int) / 10) := by rw [Int.neg_tdiv, Int.tdiv_eq_ediv_of_nonneg (by omega)]
theorem neg_mod (k : Nat) : Int.tmod (-(k : Int)) 10 = -((k : Int) % 10) := by rw [Int.neg_tmod, Int.tmod_eq_emod_of_nonneg (by omega)]

set_option maxHeartbeats 4000000 in
theorem rdec_neg (u : Nat) (w : World) (h0 : u ≠ 0) (hu : u ≤ 9223372036854775808) :
    Calls Tryd.prog 9 #[.int .i64 (-(u : Int))] w fun e w' => e = .returned (.string ⟨(45 :: Lib.decDigits u).toArray⟩) ∧ w = w' := by
  have hne : (-(u : Int) == 0) = false := by simpa using h0
  have hnn : (-(u : Int) < 0) := by omega
  have HF := Lib.hid (show decF u = Lib.decDigits u by unfold decF; rw [if_neg h0])
  have hl0 := decF_len 18 u (by omega)
  generalize hF : decF u = F at *
  have HFF := Lib.hid hF
  clear hF
  go_enter Tryd.func9, Tryd.ntmps9
  go_wp2
  go_loop [4, 5] (fun s x => ∃ (S : ByteArray) (k : Nat), s = .string S ∧ x = .int .i64 (-(k : Int)) ∧ k ≤ 9223372036854775808 ∧ Hid (decF k ++ S.data.toList = F)) (fun _ x => (intOf x).natAbs)
  case atStart => exact ⟨_, u, rfl, rfl, hu, by show Hid (decF u ++ [] = F); rw [List.append_nil]; exact HFF⟩
  case round =>
    obtain ⟨S, k, rfl, rfl, hk, hS⟩ := hrel
    have hsz : S.size ≤ 100 := by
      have h1 := congrArg List.length hS.out
      rw [List.length_append] at h1
      have h2 : S.data.toList.length = S.size := Array.length_toList ..
      omega
    by_cases hz : k = 0
    · subst hz
      have hr : (⟨#[45]⟩ : ByteArray) ++ S = ⟨(45 :: Lib.decDigits u).toArray⟩ := str_of_list (by rw [ByteArray.data_append, Array.toList_append, ← HF.out, ← hS.out]; rfl)
      have HR := Lib.hid hr
      clear hr
      go_wp2
      go_ret
      exact ⟨ret_string HR.out, rfl⟩
    · have hki : (-(k : Int) == 0) = false := by simpa using hz
      have hk0 : 0 ≤ (k : Int) := by omega
      have hp := Lib.hid (push_digit hS.out hz)
      have hd := neg_div k
      have hm := neg_mod k
      clear hS
      by_cases hm0 : (k : Int) % 10 = 0
      · have hmn : k % 10 = 0 := by omega
        rw [hmn] at hp
        clear hmn
        go_wp2
        exact ⟨⟨_, k / 10, rfl, int_cast_neg k, by omega, hp⟩, by simp [intOf]; omega⟩
      · have hm1 : -((k : Int) % 10) < 0 := by omega
        go_wp2
        exact ⟨⟨_, k / 10, rfl, int_cast_neg k, by omega, hp⟩, by simp [intOf]; omega⟩

theorem rdec_zero (w : World) :
    Calls Tryd.prog 9 #[.int .i64 0] w fun e w' => e = .returned (.string ⟨#[48]⟩) ∧ w = w' := by
  go_enter Tryd.func9, Tryd.ntmps9
  go_wp2
  go_ret
  exact ⟨rfl, rfl⟩

theorem itoa_zero : (⟨#[48]⟩ : ByteArray) = ⟨(Lib.itoa 0).toArray⟩ := str_of_list (by unfold Lib.itoa; rw [if_neg (by decide), show ((0 : Int).toNat) = 0 from rfl, Lib.decDigits, dif_pos (by decide)]; rfl)

/-- Decimal. -/
theorem rdec_any (n : Int) (w : World) (h : -9223372036854775808 ≤ n ∧ n ≤ 9223372036854775807) :
    Calls Tryd.prog 9 #[.int .i64 n] w fun e w' => e = .returned (.string ⟨(Lib.itoa n).toArray⟩) ∧ w = w' := by
  by_cases h0 : n = 0
  · subst h0
    rw [← itoa_zero]
    exact rdec_zero w
  · by_cases hn : n < 0
    · have e : Lib.itoa n = 45 :: Lib.decDigits n.natAbs := by unfold Lib.itoa; rw [if_pos hn]
      have := rdec_neg n.natAbs w (by omega) (by omega)
      rw [show -(n.natAbs : Int) = n by omega] at this
      rw [e]
      exact this
    · have e : Lib.itoa n = Lib.decDigits n.toNat := by unfold Lib.itoa; rw [if_neg hn]
      have := rdec_pos n.toNat w (by omega) (by omega)
      rw [show ((n.toNat : Nat) : Int) = n by omega] at this
      rw [e]
      exact this

end Go.Proofs.YtloddocibfbkpaaDoor
