/- Contracts of priorartref03: digits, value. -/
import Derived.Test.YtloddocibfbkpaaDoorRef03
import Derived.Test.YtloddocibfbkpaaDoorPdef
import Derived.Lib.Strings
namespace Go.Proofs.YtloddocibfbkpaaDoor
open Go.RowKit Go.Shelf

theorem cntD_step {l : List UInt8} {k : Nat} (h : k < l.length) (hk : k ≤ cntD l) : (isD l[k] = true → k < cntD l) ∧ (isD l[k] = false → k = cntD l) := by
  induction l generalizing k with
  | nil => simp at h
  | cons c l ih =>
    match k with
    | 0 =>
      constructor
      · intro hd
        have hd : isD c = true := hd
        rw [cntD, if_pos hd]
        omega
      · intro hd
        have hd : isD c = false := hd
        rw [cntD, hd]
        rfl
    | k + 1 =>
      by_cases hc : isD c = true
      · rw [cntD, if_pos hc] at hk ⊢
        have := ih (k := k) (by simpa using h) (by omega)
        constructor
        · intro hd; have := this.1 hd; omega
        · intro hd; have := this.2 hd; omega
      · rw [cntD, if_neg hc] at hk
        omega

set_option maxHeartbeats 2000000 in
theorem rdigits_any (s : ByteArray) (at' : Nat) (w : World) (hs : s.size ≤ 1000000) (ha : at' ≤ s.size) :
    Calls Tryd.prog 20 #[.string s, .int .i64 at'] w fun e w' => e = .returned (.int .i64 (cntD (s.data.toList.drop at') : Nat)) ∧ w = w' := by
  generalize hL : s.data.toList.drop at' = L
  have hlen : L.length = s.size - at' := by rw [← hL, List.length_drop, Array.length_toList]; rfl
  have hat : ∀ k (h : at' + k < s.size) (h2 : k < L.length), L[k] = s[at' + k] := by
    intro k h h2
    subst hL
    simp
    rfl
  have hst := fun k h hk => cntD_step (l := L) (k := k) h hk
  have hcl := cntD_le L
  generalize cntD L = C at *
  have HLEN := Lib.hid hlen
  have HAT := Lib.hid hat
  have HST := Lib.hid hst
  clear hL hat hst
  go_enter Tryd.func20, Tryd.ntmps20
  go_wp2
  go_loop [5] (fun x => ∃ k : Nat, x = .int .i64 k ∧ k ≤ C) (fun x => 1000001 - (intOf x).toNat)
  case atStart => exact ⟨0, rfl, Nat.zero_le _⟩
  case round =>
    obtain ⟨k, rfl, hk⟩ := hrel
    by_cases hlt : at' + k < s.size
    · have hlt' : (at' : Int) + (k : Int) < (s.size : Int) := by omega
      have hd0 : 0 ≤ (at' : Int) + (k : Int) := by omega
      have hS := HST.out k (by have := HLEN.out; omega) hk
      rw [HAT.out k hlt] at hS
      by_cases hdg : isD s[at' + k] = true
      · have hk2 := hS.1 hdg
        obtain ⟨d1', d2'⟩ := isD_iff.1 hdg
        have d1 : (48 : Int) ≤ (s[at' + k].toNat : Int) := by omega
        have d2 : (s[at' + k].toNat : Int) ≤ 57 := by omega
        clear hS hdg d1' d2'
        go_wp2
        go_round
        case rel => exact ⟨k + 1, by go_num, by omega⟩
        case measure => simp [intOf]; omega
      · have hdg' : isD s[at' + k] = false := by simpa using hdg
        have HK := Lib.hid (hS.2 hdg')
        have hn := mt isD_iff.2 hdg
        have hor : (s[at' + k].toNat : Int) < 48 ∨ (48 ≤ (s[at' + k].toNat : Int) ∧ 57 < (s[at' + k].toNat : Int)) := by omega
        clear hS hdg hdg' hn
        rcases hor with d1 | ⟨d1, d2⟩
        all_goals
          go_wp2
          go_ret
          exact ⟨ret_int (by rw [HK.out]), rfl⟩
    · have hge : (s.size : Int) ≤ (at' : Int) + (k : Int) := by omega
      go_wp2
      go_ret
      have := HLEN.out
      exact ⟨ret_int (by omega), rfl⟩

set_option maxHeartbeats 2000000 in
theorem rvalue_any (s : ByteArray) (w : World) (hs : s.size ≤ 1000000) (hd : ∀ c ∈ s.data.toList, isD c = true) :
    Calls Tryd.prog 21 #[.string s] w fun e w' => e = .returned (.int .i64 (valC 0 s.data.toList)) ∧ w = w' := by
  have hlen : s.data.toList.length = s.size := Array.length_toList ..
  have hat : ∀ k (h : k < s.size), s.data.toList.drop k = s[k] :: s.data.toList.drop (k + 1) ∧ isD s[k] = true := by
    intro k h
    have h2 : k < s.data.toList.length := by omega
    have e : s.data.toList[k] = s[k] := by simp; rfl
    rw [List.drop_eq_getElem_cons h2, e]
    exact ⟨rfl, hd _ (by rw [← e]; exact List.getElem_mem h2)⟩
  generalize s.data.toList = L at *
  have HLEN := Lib.hid hlen
  have HAT := Lib.hid hat
  clear hlen hat hd
  go_enter Tryd.func21, Tryd.ntmps21
  go_wp2
  go_loop [3, 4] (fun y x => ∃ (k : Nat) (n : Int), x = .int .i64 k ∧ y = .int .i64 n ∧ k ≤ s.size ∧ 0 ≤ n ∧ n ≤ 4600000000000000009 ∧ Hid (valC n (L.drop k) = valC 0 L)) (fun _ x => 1000001 - (intOf x).toNat)
  case atStart => exact ⟨0, 0, rfl, rfl, Nat.zero_le _, by omega, by omega, Lib.hid (by rw [List.drop_zero])⟩
  case round =>
    obtain ⟨k, n, rfl, rfl, hk, hn, hn2, hV⟩ := hrel
    by_cases hlt : k < s.size
    · obtain ⟨hdr, hdi⟩ := HAT.out k hlt
      have hdig := isD_iff.1 hdi
      have hV2 := hV.out
      rw [hdr] at hV2
      have hmm : (n ≤ 460000000000000000 ∧ min n 460000000000000000 = n) ∨ (460000000000000000 < n ∧ min n 460000000000000000 = 460000000000000000) := by omega
      have e2 : valC n (s[k] :: L.drop (k + 1)) = valC (min n 460000000000000000 * 10 + (s[k].toNat : Int) - 48) (L.drop (k + 1)) := rfl
      rw [e2] at hV2
      obtain ⟨g1', g2'⟩ := hdig
      have g1 : (48 : Int) ≤ (s[k].toNat : Int) := by omega
      have g2 : (s[k].toNat : Int) ≤ 57 := by omega
      clear hV e2 hdr hdi g1' g2'
      rcases hmm with ⟨hm, em⟩ | ⟨hm, em⟩
      all_goals
        rw [em] at hV2
        have HV2 := Lib.hid hV2
        clear hV2 em
        go_wp2
        go_round
        case rel => exact ⟨k + 1, _, by go_num, rfl, by omega, by omega, by omega, HV2⟩
        case measure => simp [intOf]; omega
    · have hk2 : k = s.size := by omega
      subst hk2
      have HE := Lib.hid (show n = valC 0 L by
        have := hV.out
        rw [List.drop_of_length_le (by have := HLEN.out; omega)] at this
        exact this)
      go_wp2
      go_ret
      exact ⟨ret_int HE.out, rfl⟩

end Go.Proofs.YtloddocibfbkpaaDoor
