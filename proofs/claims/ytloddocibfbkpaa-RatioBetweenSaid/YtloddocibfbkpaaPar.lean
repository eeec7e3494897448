/- Contracts of package ratio: the closures of Parse. -/
import Derived.Test.YtloddocibfbkpaaRat8
import Derived.Lib.Strings
namespace Go.Proofs.Ytloddocibfbkpaa
open Go.RowKit Go.Shelf

/-- Digits: at most m, behind n and p. -/
def dg : Nat → Int → Int → List UInt8 → Int × Int × List UInt8
  | 0, n, p, l => (n, p, l)
  | _ + 1, n, p, [] => (n, p, [])
  | m + 1, n, p, c :: l => if 48 ≤ c.toNat ∧ c.toNat ≤ 57 then dg m (n * 10 + ((c.toNat : Int) - 48)) (p * 10) l else (n, p, c :: l)

/-- The boxes of Parse: its result, the rest of its text, and whether it is wrong. -/
def PS (B : Nat) (s : ByteArray) (q : Bool) (w : World) : Prop :=
  w.cell? ⟨B, 0, none⟩ = some (.int .i64 0) ∧ w.cell? ⟨B, 1, none⟩ = some (.int .i64 0) ∧ w.frozen? ⟨B, 0, none⟩ = false ∧ w.frozen? ⟨B, 1, none⟩ = false ∧
  w.cell? ⟨B + 1, 0, none⟩ = some (.string s) ∧ w.frozen? ⟨B + 1, 0, none⟩ = false ∧ w.cell? ⟨B + 2, 0, none⟩ = some (.bool q) ∧ w.frozen? ⟨B + 2, 0, none⟩ = false ∧ B + 2 < w.heap.size

theorem head_tail (s : ByteArray) (h0 : 0 < s.size) : s.data.toList = s[0] :: (s.extract 1 s.size).data.toList := by
  rw [Lib.extract_data]
  have h : 0 < s.data.toList.length := by rw [Array.length_toList]; exact h0
  have e : s.data.toList = s.data.toList[0] :: s.data.toList.drop 1 := by
    match hl : s.data.toList, h with
    | a :: l, _ => simp
  have e2 : (s.data.toList.drop 1).take (s.size - 1) = s.data.toList.drop 1 := List.take_of_length_le (by rw [List.length_drop, Array.length_toList]; exact Nat.le_refl _)
  rw [e2]
  exact e

/-- The first byte is c. -/
def hd (s : ByteArray) (c : UInt8) : Bool := s.data.toList.head? == some c

theorem hd_extract (s : ByteArray) (c : UInt8) (h : 1 ≤ s.size) : ((s.extract 0 1).toList == [c]) = hd s c := by
  unfold hd
  rw [ByteArray.toList_eq, Lib.extract_data, head_tail s h]
  simp

theorem hd_empty (s : ByteArray) (c : UInt8) (h : ¬ 1 ≤ s.size) : hd s c = false := by
  unfold hd
  have : s.data.toList = [] := List.eq_nil_of_length_eq_zero (by rw [Array.length_toList]; have : s.data.size = s.size := rfl; omega)
  rw [this]
  rfl

theorem off_ne {b c : Nat} {o p : Nat} (h : b ≠ c) : (⟨b, o, none⟩ : Addr) ≠ ⟨c, p, none⟩ := by
  intro e
  injection e
  contradiction

theorem PS.left {B : Nat} {s : ByteArray} {q : Bool} {w : World} (h : PS B s q w) (t : ByteArray) : PS B t q (w.setCell ⟨B + 1, 0, none⟩ (.string t)) := by
  obtain ⟨p0, p1, p2, p3, p4, p5, p6, p7, p8⟩ := h
  refine ⟨?_, ?_, ?_, ?_, ?_, ?_, ?_, ?_, ?_⟩
  · exact (World.cell?_setCell_other _ _ _ _ (off_ne (by omega))).trans p0
  · exact (World.cell?_setCell_other _ _ _ _ (off_ne (by omega))).trans p1
  · rw [World.frozen?_setCell]; exact p2
  · rw [World.frozen?_setCell]; exact p3
  · exact World.cell?_setCell_same _ _ _ p4
  · rw [World.frozen?_setCell]; exact p5
  · exact (World.cell?_setCell_other _ _ _ _ (off_ne (by omega))).trans p6
  · rw [World.frozen?_setCell]; exact p7
  · exact Nat.lt_of_lt_of_le p8 ((Below.refl B w).setCell (p := ⟨B + 1, 0, none⟩) (by simp) _).size

theorem PS.wrong {B : Nat} {s : ByteArray} {q : Bool} {w : World} (h : PS B s q w) (r : Bool) : PS B s r (w.setCell ⟨B + 2, 0, none⟩ (.bool r)) := by
  obtain ⟨p0, p1, p2, p3, p4, p5, p6, p7, p8⟩ := h
  refine ⟨?_, ?_, ?_, ?_, ?_, ?_, ?_, ?_, ?_⟩
  · exact (World.cell?_setCell_other _ _ _ _ (off_ne (by omega))).trans p0
  · exact (World.cell?_setCell_other _ _ _ _ (off_ne (by omega))).trans p1
  · rw [World.frozen?_setCell]; exact p2
  · rw [World.frozen?_setCell]; exact p3
  · exact (World.cell?_setCell_other _ _ _ _ (off_ne (by omega))).trans p4
  · rw [World.frozen?_setCell]; exact p5
  · exact World.cell?_setCell_same _ _ _ p6
  · rw [World.frozen?_setCell]; exact p7
  · exact Nat.lt_of_lt_of_le p8 ((Below.refl B w).setCell (p := ⟨B + 2, 0, none⟩) (by simp) _).size

set_option maxHeartbeats 1000000 in
theorem hasPrefix_any (s : ByteArray) (c : UInt8) (w : World) (hs : s.size ≤ maxLen) :
    Calls Try.prog 50 #[.string s, .string ⟨#[c]⟩] w fun e w' => e = .returned (.bool (hd s c)) ∧ w = w' := by
  unfold maxLen at hs
  by_cases h : 1 ≤ s.size
  · have HE := Lib.hid (hd_extract s c h)
    go_enter Try.func50, Try.ntmps50
    go_wp2
    go_ret
    exact ⟨ret_bool HE.out, rfl⟩
  · have HE := Lib.hid (hd_empty s c h)
    go_enter Try.func50, Try.ntmps50
    go_wp2
    go_ret
    exact ⟨ret_bool HE.out.symm, rfl⟩

/-- The text behind its first byte, if that is c. -/
def cutp (s : ByteArray) (c : UInt8) : ByteArray := if hd s c then s.extract 1 s.size else s

theorem hd_size {s : ByteArray} {c : UInt8} (h : hd s c = true) : 1 ≤ s.size := by
  rcases Nat.lt_or_ge 0 s.size with h1 | h1
  · exact h1
  · rw [hd_empty s c (by omega)] at h
    cases h

theorem ret_sb {a b : ByteArray} {p q : Bool} (h1 : a = b) (h2 : p = q) : Ending.returned (.tuple #[.string a, .bool p]) = .returned (.tuple #[.string b, .bool q]) := by rw [h1, h2]

set_option maxHeartbeats 1000000 in
theorem cutPrefix_lite (s : ByteArray) (c : UInt8) (w : World) (hs : s.size ≤ maxLen) :
    Calls Try.prog 49 #[.string s, .string ⟨#[c]⟩] w fun e w' => e = .returned (.tuple #[.string (cutp s c), .bool (hd s c)]) ∧ w = w' := by
  have k1 := fun w => hasPrefix_any s c w hs
  by_cases h : hd s c = true
  · have h1 := hd_size h
    rw [h] at k1
    have HE := Lib.hid (show cutp s c = s.extract 1 s.size by unfold cutp; rw [if_pos h])
    have HH := Lib.hid h
    have K1 := Lib.hid k1
    unfold maxLen at hs
    clear h k1
    go_enter Try.func49, Try.ntmps49
    go_wp2_with fail
    refine (K1.out _).mono ?_
    rintro e w' ⟨rfl, rfl⟩
    go_wp2
    go_ret2
    exact ⟨by rw [HE.out, HH.out]; exact rfl, rfl⟩
  · have h' : hd s c = false := by simpa using h
    rw [h'] at k1
    have HE := Lib.hid (show cutp s c = s by unfold cutp; rw [if_neg h])
    have HH := Lib.hid h'
    have K1 := Lib.hid k1
    clear h h' k1 hs
    go_enter Try.func49, Try.ntmps49
    go_wp2_with fail
    refine (K1.out _).mono ?_
    rintro e w' ⟨rfl, rfl⟩
    go_wp2
    go_ret2
    exact ⟨by rw [HE.out, HH.out]; exact rfl, rfl⟩

set_option maxHeartbeats 1000000 in
theorem cutPrefix_any (s : ByteArray) (c : UInt8) (w : World) (hs : s.size ≤ maxLen) :
    Calls Try.prog 46 #[.string s, .string ⟨#[c]⟩] w fun e w' => e = .returned (.tuple #[.string (cutp s c), .bool (hd s c)]) ∧ w = w' := by
  have K1 := Lib.hid (fun w => cutPrefix_lite s c w hs)
  clear hs
  generalize cutp s c = t at *
  generalize hd s c = q at *
  go_enter Try.func46, Try.ntmps46
  go_wp2_with fail
  refine (K1.out _).mono ?_
  rintro e w' ⟨rfl, rfl⟩
  go_wp2
  go_ret2
  exact ⟨rfl, rfl⟩

set_option maxHeartbeats 2000000 in
set_option maxRecDepth 100000 in
theorem take_any (B : Nat) (s : ByteArray) (q : Bool) (c : UInt8) (w : World) (hs : s.size ≤ maxLen) (h : PS B s q w) :
    Calls Try.prog 45 #[.string ⟨#[c]⟩, .pointer (some ⟨B + 1, 0, none⟩)] w fun e w' => e = .returned (.bool (hd s c)) ∧ PS B (cutp s c) q w' ∧ Below B w w' := by
  have HP := Lib.hid h
  obtain ⟨p0, p1, p2, p3, p4, p5, p6, p7, p8⟩ := h
  have K1 := Lib.hid (fun w => cutPrefix_any s c w hs)
  clear hs
  generalize cutp s c = t at *
  generalize hd s c = r at *
  go_enter Try.func45, Try.ntmps45
  go_wp2_with fail
  refine (K1.out _).mono ?_
  rintro e w' ⟨rfl, rfl⟩
  go_wp2
  go_ret
  exact ⟨rfl, HP.out.left t, (Below.refl B w).setCell (p := ⟨B + 1, 0, none⟩) (by simp) _⟩

/-- What reading digits leaves. -/
def DigOut (B : Nat) (q : Bool) (F : Int × Int × List UInt8) (w : World) (e : Ending) (w' : World) : Prop :=
  e = .returned (.tuple #[.int .i64 F.1, .int .i64 F.2.1]) ∧ (∃ t : ByteArray, t.data.toList = F.2.2 ∧ PS B t (q || F.2.1 == 1) w') ∧ Below B w w'

theorem digOut_of {B : Nat} {q r : Bool} {F : Int × Int × List UInt8} {n p : Int} {t : ByteArray} {w wr : World} (hF : F = (n, p, t.data.toList)) (hP : PS B t q wr) (hB : Below B w wr) (hr : r = (q || p == 1)) :
    DigOut B q F w (.returned (.tuple #[.int .i64 n, .int .i64 p])) (wr.setCell ⟨B + 2, 0, none⟩ (.bool r)) := by
  subst hF hr
  exact ⟨rfl, ⟨t, rfl, hP.wrong _⟩, hB.setCell (p := ⟨B + 2, 0, none⟩) (by simp) _⟩

theorem dg_zero (n p : Int) (l : List UInt8) : dg 0 n p l = (n, p, l) := by unfold dg; rfl

theorem dg_nil (j : Nat) (n p : Int) : dg j n p [] = (n, p, []) := by cases j <;> rfl

theorem dg_stop {j : Nat} {n p : Int} {c : UInt8} {l : List UInt8} (h : ¬ (48 ≤ c.toNat ∧ c.toNat ≤ 57)) : dg j n p (c :: l) = (n, p, c :: l) := by
  cases j with
  | zero => rfl
  | succ j => unfold dg; rw [if_neg h]

theorem dg_go {j : Nat} {n p : Int} {c : UInt8} {l : List UInt8} (h : 48 ≤ c.toNat ∧ c.toNat ≤ 57) : dg (j + 1) n p (c :: l) = dg j (n * 10 + ((c.toNat : Int) - 48)) (p * 10) l := by
  conv => lhs; unfold dg
  rw [if_pos h]

theorem size_zero_list {t : ByteArray} (h : t.size = 0) : t.data.toList = [] := List.eq_nil_of_length_eq_zero (by rw [Array.length_toList]; exact h)

theorem pow_room {p : Int} {j : Nat} (hp : 1 ≤ p) (h : p * 10 ^ j ≤ 1000000000000000) : p ≤ 1000000000000000 := by
  have h1 : 1 ≤ 10 ^ j := Nat.one_le_pow _ _ (by omega)
  have h2 : (10 : Int) ^ j = ((10 ^ j : Nat) : Int) := by simp
  have h3 : p * 1 ≤ p * 10 ^ j := Int.mul_le_mul_of_nonneg_left (by rw [h2]; omega) (by omega)
  omega

set_option maxHeartbeats 2000000 in
set_option maxRecDepth 100000 in
theorem digits_any (B m : Nat) (s : ByteArray) (q : Bool) (w : World) (hm : m ≤ 15) (h : PS B s q w) :
    Calls Try.prog 47 #[.int .i64 m, .pointer (some ⟨B + 1, 0, none⟩), .pointer (some ⟨B + 2, 0, none⟩)] w (DigOut B q (dg m 0 1 s.data.toList) w) := by
  have HP := Lib.hid h
  have hpow : (1 : Int) * 10 ^ m ≤ 1000000000000000 := by
    have h1 : 10 ^ m ≤ 10 ^ 15 := Nat.pow_le_pow_right (by omega) hm
    have h2 : (10 : Int) ^ m = ((10 ^ m : Nat) : Int) := by simp
    rw [Int.one_mul, h2]
    have h3 : (10 : Nat) ^ 15 = 1000000000000000 := rfl
    omega
  have HW := Lib.hid hpow
  generalize hF : dg m 0 1 s.data.toList = F
  have hF' := Lib.hid hF
  clear hpow hF h
  cases q
  all_goals
    go_enter Try.func47, Try.ntmps47
    go_wp2
    go_loopw [0, 4, 5] (fun x y z wr => ∃ (j : Nat) (n p : Int) (t : ByteArray), x = .int .i64 j ∧ y = .int .i64 n ∧ z = .int .i64 p ∧ j ≤ 15 ∧ 0 ≤ n ∧ n < p ∧ t.size ≤ s.size ∧ Hid (p * 10 ^ j ≤ 1000000000000000) ∧ Hid (dg j n p t.data.toList = F) ∧ Hid (PS B t _ wr) ∧ Hid (Below B w wr)) (fun x _ _ _ => (intOf x).toNat)
    case atStart => exact ⟨m, 0, 1, s, rfl, rfl, rfl, hm, by omega, by omega, Nat.le_refl _, HW, hF', HP, Below.refl _ _⟩
    case round =>
      obtain ⟨j, n, p, t, rfl, rfl, rfl, hj, hn, hnp, ht, hp, hd, hP, hB⟩ := hrel
      obtain ⟨p0, p1, p2, p3, p4, p5, p6, p7, p8⟩ := hP.out
      have hp2 := pow_room (by omega) hp.out
      have hn2 : n < 1000000000000000 := by omega
      by_cases hj0 : j = 0
      · subst hj0
        go_wp2
        go_ret2
        exact digOut_of (hd.out.symm.trans (dg_zero _ _ _)) hP.out hB.out (by simp)
      · have hj1 : (0 : Int) < j := by omega
        by_cases ht0 : t.size = 0
        · have hl := size_zero_list ht0
          have HD := Lib.hid (show F = (n, p, t.data.toList) by rw [← hd.out, hl]; exact dg_nil _ _ _)
          have hte : t.toList = [] := by rw [ByteArray.toList_eq]; exact hl
          have hti : t.toList.isEmpty = true := by rw [hte]; rfl
          clear hl ht0
          go_wp2
          go_ret2
          exact digOut_of HD.out hP.out hB.out (by simp)
        · have ht1 : 0 < t.size := by omega
          have hl := Lib.hid (head_tail t ht1)
          have hne : t.data.toList ≠ [] := by rw [hl.out]; simp
          have hte : ¬ t.toList = [] := by rw [ByteArray.toList_eq]; exact hne
          have hti : t.toList.isEmpty = false := by simpa using hte
          clear hne
          by_cases hdg : 48 ≤ t[0].toNat ∧ t[0].toNat ≤ 57
          · have HD := Lib.hid (show dg (j - 1) (n * 10 + ((t[0].toNat : Int) - 48)) (p * 10) (t.extract 1 t.size).data.toList = F by
              rw [← hd.out, hl.out]
              obtain ⟨j, rfl⟩ : ∃ i, j = i + 1 := ⟨j - 1, by omega⟩
              exact (dg_go hdg).symm)
            have HW2 := Lib.hid (show p * 10 * 10 ^ (j - 1) ≤ 1000000000000000 by
              obtain ⟨j, rfl⟩ : ∃ i, j = i + 1 := ⟨j - 1, by omega⟩
              have := hp.out
              rw [Int.pow_succ] at this
              have e : p * (10 ^ j * 10) = p * 10 * 10 ^ j := by ac_rfl
              rw [Nat.add_sub_cancel, ← e]; exact this)
            have d1 : (48 : Int) ≤ (t[0].toNat : Int) := by omega
            have d2 : (t[0].toNat : Int) ≤ 57 := by omega
            have d3 : 0 ≤ (t[0].toNat : Int) - 48 := by omega
            clear hdg
            go_wp2
            go_roundw
            case rel => exact ⟨j - 1, n * 10 + ((t[0].toNat : Int) - 48), p * 10, t.extract 1 t.size, by congr 1; omega, rfl, rfl, by omega, by omega, by omega, by rw [ByteArray.size_extract]; omega, HW2, HD, hP.out.left _, hB.out.setCell (p := ⟨B + 1, 0, none⟩) (by simp) _⟩
            case measure => simp [intOf]; omega
          · have HD := Lib.hid (show F = (n, p, t.data.toList) by rw [← hd.out, hl.out]; exact dg_stop hdg)
            have hor : (t[0].toNat : Int) < 48 ∨ (48 ≤ (t[0].toNat : Int) ∧ 57 < (t[0].toNat : Int)) := by omega
            clear hdg
            rcases hor with d1 | ⟨d1, d2⟩
            all_goals
              go_wp2
              go_ret2
              exact digOut_of HD.out hP.out hB.out (by simp)

end Go.Proofs.Ytloddocibfbkpaa
