/- Contracts of package ratio: Parse. -/
import Derived.Test.YtloddocibfbkpaaPar
namespace Go.Proofs.Ytloddocibfbkpaa
open Go.RowKit Go.Shelf

/-- The end of reading: an error, or New. -/
def finP (wrong : Bool) (rest : List UInt8) (num den : Int) : Int × Int × Int := if wrong = true ∨ rest ≠ [] then (0, 0, 2) else Qm.newR num den

/-- Behind the whole digits. -/
def fracP (sgn n1 : Int) (w1 : Bool) (l2 : List UInt8) : Int × Int × Int :=
  if l2.head? = some 47 then finP (w1 || (dg 7 0 1 l2.tail).2.1 == 1) (dg 7 0 1 l2.tail).2.2 (sgn * n1) (dg 7 0 1 l2.tail).1
  else if l2.head? = some 46 then finP (w1 || (dg 6 0 1 l2.tail).2.1 == 1) (dg 6 0 1 l2.tail).2.2 (sgn * (min n1 1099511627777 * (dg 6 0 1 l2.tail).2.1 + (dg 6 0 1 l2.tail).1)) (dg 6 0 1 l2.tail).2.1
  else finP w1 l2 (sgn * n1) 1

/-- What Parse returns. -/
def parseP (l : List UInt8) : Int × Int × Int :=
  if l.head? = some 45 then fracP (-1) (dg 15 0 1 l.tail).1 ((dg 15 0 1 l.tail).2.1 == 1) (dg 15 0 1 l.tail).2.2
  else fracP 1 (dg 15 0 1 l).1 ((dg 15 0 1 l).2.1 == 1) (dg 15 0 1 l).2.2

theorem hd_iff (s : ByteArray) (c : UInt8) : hd s c = true ↔ s.data.toList.head? = some c := by unfold hd; simp

theorem cutp_yes {s : ByteArray} {c : UInt8} (h : hd s c = true) : (cutp s c).data.toList = s.data.toList.tail := by
  have h1 := hd_size h
  unfold cutp
  rw [if_pos h, head_tail s h1]
  rfl

theorem cutp_no {s : ByteArray} {c : UInt8} (h : hd s c = false) : cutp s c = s := by unfold cutp; rw [h]; rfl

theorem dg_len : ∀ (m : Nat) (n p : Int) (l : List UInt8), (dg m n p l).2.2.length ≤ l.length := by
  intro m
  induction m with
  | zero => intro n p l; exact Nat.le_refl _
  | succ m ih =>
    intro n p l
    match l with
    | [] => exact Nat.le_refl _
    | c :: l =>
      by_cases h : 48 ≤ c.toNat ∧ c.toNat ≤ 57
      · rw [dg_go h]
        have := ih (n * 10 + ((c.toNat : Int) - 48)) (p * 10) l
        simp only [List.length_cons]
        omega
      · rw [dg_stop h]
        exact Nat.le_refl _

theorem dg_bounds : ∀ (m : Nat) (n p : Int) (l : List UInt8), 0 ≤ n → n < p → 0 ≤ (dg m n p l).1 ∧ (dg m n p l).1 < (dg m n p l).2.1 ∧ (dg m n p l).2.1 ≤ p * 10 ^ m := by
  intro m
  induction m with
  | zero => intro n p l h1 h2; rw [dg_zero]; exact ⟨h1, h2, by simp⟩
  | succ m ih =>
    intro n p l h1 h2
    have hpow : p * 1 ≤ p * 10 ^ (m + 1) := by
      have e : (10 : Int) ^ (m + 1) = ((10 ^ (m + 1) : Nat) : Int) := by simp
      have := Nat.one_le_pow (m + 1) 10 (by omega)
      exact Int.mul_le_mul_of_nonneg_left (by rw [e]; omega) (by omega)
    match l with
    | [] => rw [dg_nil]; exact ⟨h1, h2, by simpa using hpow⟩
    | c :: l =>
      by_cases h : 48 ≤ c.toNat ∧ c.toNat ≤ 57
      · rw [dg_go h]
        have := ih (n * 10 + ((c.toNat : Int) - 48)) (p * 10) l (by omega) (by omega)
        rw [Int.pow_succ]
        have e : p * (10 ^ m * 10) = p * 10 * 10 ^ m := by ac_rfl
        rw [e]
        exact this
      · rw [dg_stop h]
        exact ⟨h1, h2, by simpa using hpow⟩

theorem ps_new (w : World) (s : ByteArray) (t1 t2 t3 : TypeId) : PS w.heap.size s false (((w.alloc (.cells #[.int .i64 0, .int .i64 0] t1)).alloc (.cells #[.string s] t2)).alloc (.cells #[.bool false] t3)) := by
  obtain ⟨a0, a1, a2, a3⟩ := cell_new2 w (.int .i64 0) (.int .i64 0) t1
  obtain ⟨b0, b1⟩ := cell_new_l (w.alloc (.cells #[.int .i64 0, .int .i64 0] t1)) (.string s) t2
  obtain ⟨c0, c1⟩ := cell_new_l ((w.alloc (.cells #[.int .i64 0, .int .i64 0] t1)).alloc (.cells #[.string s] t2)) (.bool false) t3
  rw [size_alloc] at b0 b1
  rw [size_alloc, size_alloc] at c0 c1
  refine ⟨?_, ?_, ?_, ?_, ?_, ?_, c0, c1, ?_⟩
  · exact cell_alloc_l _ (cell_alloc_l _ a0)
  · exact cell_alloc_l _ (cell_alloc_l _ a1)
  · exact frozen_alloc_l _ (cell_alloc_l _ a0) (frozen_alloc_l _ a0 a2)
  · exact frozen_alloc_l _ (cell_alloc_l _ a1) (frozen_alloc_l _ a1 a3)
  · exact cell_alloc_l _ b0
  · exact frozen_alloc_l _ b0 b1
  · rw [size_alloc, size_alloc, size_alloc]; omega

theorem data_size {t : ByteArray} {l : List UInt8} (h : t.data.toList = l) : t.size = l.length := by rw [← h, Array.length_toList]; rfl

theorem cutp_size (s : ByteArray) (c : UInt8) : (cutp s c).size ≤ s.size := by
  unfold cutp
  split
  · rw [ByteArray.size_extract]; omega
  · exact Nat.le_refl _

set_option maxHeartbeats 8000000 in
set_option maxRecDepth 100000 in
theorem parse_any (s : ByteArray) (w : World) (hs : s.size ≤ maxLen) :
    Calls Try.prog 40 #[.string s] w fun e w' => e = .returned (rve (parseP s.data.toList)) ∧ Below w.heap.size w w' := by
  have HS := Lib.hid hs
  have HP0 := Lib.hid (ps_new w s 26 9 4)
  have HB0 := Lib.hid ((((Below.refl w.heap.size w).alloc (Nat.le_refl _) (Obj.cells #[.int .i64 0, .int .i64 0] 26)).alloc (by simp) (.cells #[.string s] 9)).alloc (by simp; omega) (.cells #[.bool false] 4))
  clear hs
  generalize hR : parseP s.data.toList = R
  unfold parseP at hR
  have HR := Lib.hid hR
  clear hR
  go_enter Try.func40, Try.ntmps40
  go_wp2_with fail
  refine (take_any w.heap.size s false 45 _ HS.out HP0.out).mono ?_
  rintro e w1 ⟨rfl, hP1, hB1⟩
  have HP1 := Lib.hid hP1
  have HB1 := Lib.hid (HB0.out.trans hB1)
  clear hP1 hB1 HP0 HB0
  by_cases h45 : hd s 45 = true
  · have HL1 := Lib.hid (cutp_yes h45)
    have hR := HR.out
    rw [if_pos ((hd_iff _ _).1 h45), ← HL1.out] at hR
    go_wp2_with fail
    refine (digits_any w.heap.size 15 (cutp s 45) false _ (by omega) HP1.out).mono ?_
    rintro e w2 ⟨rfl, ⟨t2, ht2, hP2⟩, hB2⟩
    have hlen := dg_len 15 0 1 (cutp s 45).data.toList
    rw [← ht2, Array.length_toList] at hlen
    obtain ⟨n1a, n1b, n1c⟩ := dg_bounds 15 0 1 (cutp s 45).data.toList (by omega) (by omega)
    rw [← ht2] at hR
    generalize dg 15 0 1 (cutp s 45).data.toList = F1 at *
    have HT2 := Lib.hid ht2
    have HS2 : Hid (t2.size ≤ maxLen) := Lib.hid (by
      have h1 : (cutp s 45).data.toList.length = (cutp s 45).size := Array.length_toList ..
      have h2 : t2.data.size = t2.size := rfl
      have h3 : (cutp s 45).size ≤ s.size := cutp_size s 45
      have := HS.out
      omega)
    have HB2 := Lib.hid (HB1.out.trans hB2)
    have HP2 := Lib.hid hP2
    clear hlen ht2 hB2 hP2 HP1 HB1 HR
    obtain ⟨n1, p1', l2'⟩ := F1
    have HNB : Hid (0 ≤ n1 ∧ n1 ≤ 1000000000000000) := Lib.hid ⟨n1a, by simp at n1b n1c; omega⟩
    have hn1 := HNB.out.1
    have hn1b := HNB.out.2
    clear n1a n1b n1c
    simp only at hR HP2
    unfold fracP at hR
    go_wp2_with fail
    refine (take_any w.heap.size t2 _ 47 _ HS2.out HP2.out).mono ?_
    rintro e w3 ⟨rfl, hP3, hB3⟩
    have HP3 := Lib.hid hP3
    have HB3 := Lib.hid (HB2.out.trans hB3)
    clear hP3 hB3 HP2 HB2
    by_cases h47 : hd t2 47 = true
    · have HL3 := Lib.hid (cutp_yes h47)
      rw [if_pos ((hd_iff _ _).1 h47), ← HL3.out] at hR
      go_wp2_with fail
      refine (digits_any w.heap.size 7 (cutp t2 47) _ _ (by omega) HP3.out).mono ?_
      rintro e w4 ⟨rfl, ⟨t4, ht4, hP4⟩, hB4⟩
      obtain ⟨n2a, n2b, n2c⟩ := dg_bounds 7 0 1 (cutp t2 47).data.toList (by omega) (by omega)
      generalize dg 7 0 1 (cutp t2 47).data.toList = F2 at *
      obtain ⟨n2, p2', l4⟩ := F2
      have HNB2 : Hid (0 ≤ n2 ∧ n2 ≤ 10000000) := Lib.hid ⟨n2a, by simp at n2b n2c; omega⟩
      have hn2 := HNB2.out.1
      have hn2b := HNB2.out.2
      simp only at ht4 hR hP4
      have HT4 := Lib.hid ht4
      have HB4 := Lib.hid (HB3.out.trans hB4)
      have HP4 := Lib.hid hP4
      have HR := Lib.hid hR
      clear ht4 hB4 hP4 n2a n2b n2c HB3 HP3 hR
      have hR := HR.out
      unfold finP at hR
      have eq0 : (false || p1' == 1 || p2' == 1) = (p1' == 1 || p2' == 1) := by simp
      rw [eq0] at HP4
      clear eq0
      generalize (p1' == 1 || p2' == 1) = q at *
      obtain ⟨p0, p1, p2, p3, p4, p5, p6, p7, p8⟩ := HP4.out
      by_cases hbad : q = true ∨ l4 ≠ []
      · rw [if_pos hbad] at hR
        have HE := Lib.hid hR
        clear hR
        have hor : q = true ∨ (q = false ∧ l4 ≠ []) := by cases q <;> simp_all
        clear hbad
        rcases hor with h1 | ⟨h1, h2⟩
        · subst h1
          go_wp2
          all_goals exact bodyPost_ret (v := rve (0, 0, 2)) (by simp [results, Try.results40, go_sem, p0, p1, rve]) rfl ⟨by rw [HE.out], (HB4.out.setCell (p := ⟨w.heap.size, 0, none⟩) (Nat.le_refl _) _).setCell (p := ⟨w.heap.size, 1, none⟩) (Nat.le_refl _) _⟩
        · subst h1
          have hte : ¬ t4.toList = [] := by rw [ByteArray.toList_eq, HT4.out]; exact h2
          have hti : t4.toList.isEmpty = false := by simpa using hte
          clear h2
          go_wp2
          all_goals exact bodyPost_ret (v := rve (0, 0, 2)) (by simp [results, Try.results40, go_sem, p0, p1, rve]) rfl ⟨by rw [HE.out], (HB4.out.setCell (p := ⟨w.heap.size, 0, none⟩) (Nat.le_refl _) _).setCell (p := ⟨w.heap.size, 1, none⟩) (Nat.le_refl _) _⟩
      · rw [if_neg hbad] at hR
        have h1 : q = false := by cases q <;> simp_all
        have h2 : l4 = [] := by
          by_cases h : l4 = []
          · exact h
          · exact absurd (.inr h) hbad
        subst h1
        have hte : t4.toList = [] := by rw [ByteArray.toList_eq, HT4.out]; exact h2
        have hti : t4.toList.isEmpty = true := by rw [hte]; rfl
        clear hbad h2
        have k9 := fun w => rnew_any (-1 * n1) (n2) w (⟨by omega, by omega⟩) (⟨by omega, by omega⟩)
        rw [hR] at k9
        first | rw [Int.neg_one_mul] at k9 | rw [Int.one_mul] at k9
        have K9 := Lib.hid k9
        clear hR k9
        go_wp2_with fail
        with_reducible refine (K9.out _).mono ?_
        rintro e w9 ⟨rfl, hB9⟩
        have c0 := (hB9.cell (p := ⟨w.heap.size, 0, none⟩) (by have := p8; show w.heap.size < _; omega)).trans p0
        have c1 := (hB9.cell (p := ⟨w.heap.size, 1, none⟩) (by have := p8; show w.heap.size < _; omega)).trans p1
        have f0 := (hB9.frozen (p := ⟨w.heap.size, 0, none⟩) (by have := p8; show w.heap.size < _; omega)).trans p2
        have f1 := (hB9.frozen (p := ⟨w.heap.size, 1, none⟩) (by have := p8; show w.heap.size < _; omega)).trans p3
        have HB9 := Lib.hid (HB4.out.trans (hB9.mono HB4.out.size))
        clear hB9
        unfold rve
        go_wp2
        exact bodyPost_ret (v := rve R) (by simp [results, Try.results40, go_sem, c0, c1, rve]) rfl ⟨rfl, (HB9.out.setCell (p := ⟨w.heap.size, 0, none⟩) (Nat.le_refl _) _).setCell (p := ⟨w.heap.size, 1, none⟩) (Nat.le_refl _) _⟩
    · have h47' : hd t2 47 = false := by simpa using h47
      rw [if_neg (fun h => h47 ((hd_iff _ _).2 h))] at hR
      have e47 := cutp_no h47'
      rw [e47] at HP3
      clear h47 e47
      go_wp2_with fail
      refine (take_any w.heap.size t2 _ 46 _ HS2.out HP3.out).mono ?_
      rintro e w4 ⟨rfl, hP4, hB4⟩
      have HP4 := Lib.hid hP4
      have HB4 := Lib.hid (HB3.out.trans hB4)
      clear hP4 hB4 HP3 HB3
      by_cases h46 : hd t2 46 = true
      · have HL3 := Lib.hid (cutp_yes h46)
        rw [if_pos ((hd_iff _ _).1 h46), ← HL3.out] at hR
        go_wp2_with fail
        refine (digits_any w.heap.size 6 (cutp t2 46) _ _ (by omega) HP4.out).mono ?_
        rintro e w5 ⟨rfl, ⟨t4, ht4, hP5⟩, hB5⟩
        obtain ⟨n2a, n2b, n2c⟩ := dg_bounds 6 0 1 (cutp t2 46).data.toList (by omega) (by omega)
        generalize dg 6 0 1 (cutp t2 46).data.toList = F2 at *
        obtain ⟨n2, p2', l4⟩ := F2
        have HNB2 : Hid (0 ≤ n2 ∧ n2 ≤ 1000000 ∧ 1 ≤ p2' ∧ p2' ≤ 1000000) := Lib.hid ⟨n2a, by simp at n2b n2c; omega, by simp at n2a n2b n2c; omega, by simp at n2b n2c; omega⟩
        obtain ⟨hn2, hn2b, hp2, hp2b⟩ := HNB2.out
        simp only at ht4 hR hP5
        have HT4 := Lib.hid ht4
        have HB5 := Lib.hid (HB4.out.trans hB5)
        have HP5 := Lib.hid hP5
        have hmm : (n1 ≤ 1099511627777 ∧ min n1 1099511627777 = n1) ∨ (1099511627777 < n1 ∧ min n1 1099511627777 = 1099511627777) := by omega
        clear ht4 hB5 hP5 n2a n2b n2c HB4 HP4
        rcases hmm with ⟨hmn, em⟩ | ⟨hmn, em⟩
        · rw [em] at hR
          clear em
          have hmp := Int.mul_nonneg (show 0 ≤ n1 by omega) (show 0 ≤ p2' by omega)
          have hmq : n1 * p2' ≤ 1099511627777 * 1000000 := Int.mul_le_mul (by omega) hp2b (by omega) (by omega)
          have HR := Lib.hid hR
          clear hR
          have hR := HR.out
          unfold finP at hR
          have eq0 : (false || p1' == 1 || p2' == 1) = (p1' == 1 || p2' == 1) := by simp
          rw [eq0] at HP5
          clear eq0
          generalize (p1' == 1 || p2' == 1) = q at *
          obtain ⟨p0, p1, p2, p3, p4, p5, p6, p7, p8⟩ := HP5.out
          by_cases hbad : q = true ∨ l4 ≠ []
          · rw [if_pos hbad] at hR
            have HE := Lib.hid hR
            clear hR
            have hor : q = true ∨ (q = false ∧ l4 ≠ []) := by cases q <;> simp_all
            clear hbad
            rcases hor with h1 | ⟨h1, h2⟩
            · subst h1
              go_wp2
              all_goals exact bodyPost_ret (v := rve (0, 0, 2)) (by simp [results, Try.results40, go_sem, p0, p1, rve]) rfl ⟨by rw [HE.out], (HB5.out.setCell (p := ⟨w.heap.size, 0, none⟩) (Nat.le_refl _) _).setCell (p := ⟨w.heap.size, 1, none⟩) (Nat.le_refl _) _⟩
            · subst h1
              have hte : ¬ t4.toList = [] := by rw [ByteArray.toList_eq, HT4.out]; exact h2
              have hti : t4.toList.isEmpty = false := by simpa using hte
              clear h2
              go_wp2
              all_goals exact bodyPost_ret (v := rve (0, 0, 2)) (by simp [results, Try.results40, go_sem, p0, p1, rve]) rfl ⟨by rw [HE.out], (HB5.out.setCell (p := ⟨w.heap.size, 0, none⟩) (Nat.le_refl _) _).setCell (p := ⟨w.heap.size, 1, none⟩) (Nat.le_refl _) _⟩
          · rw [if_neg hbad] at hR
            have h1 : q = false := by cases q <;> simp_all
            have h2 : l4 = [] := by
              by_cases h : l4 = []
              · exact h
              · exact absurd (.inr h) hbad
            subst h1
            have hte : t4.toList = [] := by rw [ByteArray.toList_eq, HT4.out]; exact h2
            have hti : t4.toList.isEmpty = true := by rw [hte]; rfl
            clear hbad h2
            have k9 := fun w => rnew_any (-1 * (n1 * p2' + n2)) (p2') w (⟨by omega, by omega⟩) (⟨by omega, by omega⟩)
            rw [hR] at k9
            first | rw [Int.neg_one_mul] at k9 | rw [Int.one_mul] at k9
            have K9 := Lib.hid k9
            clear hR k9
            go_wp2_with fail
            with_reducible refine (K9.out _).mono ?_
            rintro e w9 ⟨rfl, hB9⟩
            have c0 := (hB9.cell (p := ⟨w.heap.size, 0, none⟩) (by have := p8; show w.heap.size < _; omega)).trans p0
            have c1 := (hB9.cell (p := ⟨w.heap.size, 1, none⟩) (by have := p8; show w.heap.size < _; omega)).trans p1
            have f0 := (hB9.frozen (p := ⟨w.heap.size, 0, none⟩) (by have := p8; show w.heap.size < _; omega)).trans p2
            have f1 := (hB9.frozen (p := ⟨w.heap.size, 1, none⟩) (by have := p8; show w.heap.size < _; omega)).trans p3
            have HB9 := Lib.hid (HB5.out.trans (hB9.mono HB5.out.size))
            clear hB9
            unfold rve
            go_wp2
            exact bodyPost_ret (v := rve R) (by simp [results, Try.results40, go_sem, c0, c1, rve]) rfl ⟨rfl, (HB9.out.setCell (p := ⟨w.heap.size, 0, none⟩) (Nat.le_refl _) _).setCell (p := ⟨w.heap.size, 1, none⟩) (Nat.le_refl _) _⟩
        · rw [em] at hR
          clear em
          have hmp := Int.mul_nonneg (show 0 ≤ 1099511627777 by omega) (show 0 ≤ p2' by omega)
          have hmq : 1099511627777 * p2' ≤ 1099511627777 * 1000000 := Int.mul_le_mul (by omega) hp2b (by omega) (by omega)
          have HR := Lib.hid hR
          clear hR
          have hR := HR.out
          unfold finP at hR
          have eq0 : (false || p1' == 1 || p2' == 1) = (p1' == 1 || p2' == 1) := by simp
          rw [eq0] at HP5
          clear eq0
          generalize (p1' == 1 || p2' == 1) = q at *
          obtain ⟨p0, p1, p2, p3, p4, p5, p6, p7, p8⟩ := HP5.out
          by_cases hbad : q = true ∨ l4 ≠ []
          · rw [if_pos hbad] at hR
            have HE := Lib.hid hR
            clear hR
            have hor : q = true ∨ (q = false ∧ l4 ≠ []) := by cases q <;> simp_all
            clear hbad
            rcases hor with h1 | ⟨h1, h2⟩
            · subst h1
              go_wp2
              all_goals exact bodyPost_ret (v := rve (0, 0, 2)) (by simp [results, Try.results40, go_sem, p0, p1, rve]) rfl ⟨by rw [HE.out], (HB5.out.setCell (p := ⟨w.heap.size, 0, none⟩) (Nat.le_refl _) _).setCell (p := ⟨w.heap.size, 1, none⟩) (Nat.le_refl _) _⟩
            · subst h1
              have hte : ¬ t4.toList = [] := by rw [ByteArray.toList_eq, HT4.out]; exact h2
              have hti : t4.toList.isEmpty = false := by simpa using hte
              clear h2
              go_wp2
              all_goals exact bodyPost_ret (v := rve (0, 0, 2)) (by simp [results, Try.results40, go_sem, p0, p1, rve]) rfl ⟨by rw [HE.out], (HB5.out.setCell (p := ⟨w.heap.size, 0, none⟩) (Nat.le_refl _) _).setCell (p := ⟨w.heap.size, 1, none⟩) (Nat.le_refl _) _⟩
          · rw [if_neg hbad] at hR
            have h1 : q = false := by cases q <;> simp_all
            have h2 : l4 = [] := by
              by_cases h : l4 = []
              · exact h
              · exact absurd (.inr h) hbad
            subst h1
            have hte : t4.toList = [] := by rw [ByteArray.toList_eq, HT4.out]; exact h2
            have hti : t4.toList.isEmpty = true := by rw [hte]; rfl
            clear hbad h2
            have k9 := fun w => rnew_any (-1 * (1099511627777 * p2' + n2)) (p2') w (⟨by omega, by omega⟩) (⟨by omega, by omega⟩)
            rw [hR] at k9
            first | rw [Int.neg_one_mul] at k9 | rw [Int.one_mul] at k9
            have K9 := Lib.hid k9
            clear hR k9
            go_wp2_with fail
            with_reducible refine (K9.out _).mono ?_
            rintro e w9 ⟨rfl, hB9⟩
            have c0 := (hB9.cell (p := ⟨w.heap.size, 0, none⟩) (by have := p8; show w.heap.size < _; omega)).trans p0
            have c1 := (hB9.cell (p := ⟨w.heap.size, 1, none⟩) (by have := p8; show w.heap.size < _; omega)).trans p1
            have f0 := (hB9.frozen (p := ⟨w.heap.size, 0, none⟩) (by have := p8; show w.heap.size < _; omega)).trans p2
            have f1 := (hB9.frozen (p := ⟨w.heap.size, 1, none⟩) (by have := p8; show w.heap.size < _; omega)).trans p3
            have HB9 := Lib.hid (HB5.out.trans (hB9.mono HB5.out.size))
            clear hB9
            unfold rve
            go_wp2
            exact bodyPost_ret (v := rve R) (by simp [results, Try.results40, go_sem, c0, c1, rve]) rfl ⟨rfl, (HB9.out.setCell (p := ⟨w.heap.size, 0, none⟩) (Nat.le_refl _) _).setCell (p := ⟨w.heap.size, 1, none⟩) (Nat.le_refl _) _⟩
      · have h46' : hd t2 46 = false := by simpa using h46
        rw [if_neg (fun h => h46 ((hd_iff _ _).2 h))] at hR
        have e46 := cutp_no h46'
        rw [e46] at HP4
        have HR := Lib.hid hR
        have HTR := Lib.hid (rfl : t2.data.toList = t2.data.toList)
        clear h46 e46 hR
        have hR := HR.out
        unfold finP at hR
        have eq0 : (false || p1' == 1) = (p1' == 1) := by simp
        rw [eq0] at HP4
        clear eq0
        generalize (p1' == 1) = q at *
        obtain ⟨p0, p1, p2, p3, p4, p5, p6, p7, p8⟩ := HP4.out
        by_cases hbad : q = true ∨ t2.data.toList ≠ []
        · rw [if_pos hbad] at hR
          have HE := Lib.hid hR
          clear hR
          have hor : q = true ∨ (q = false ∧ t2.data.toList ≠ []) := by cases q <;> simp_all
          clear hbad
          rcases hor with h1 | ⟨h1, h2⟩
          · subst h1
            go_wp2
            all_goals exact bodyPost_ret (v := rve (0, 0, 2)) (by simp [results, Try.results40, go_sem, p0, p1, rve]) rfl ⟨by rw [HE.out], (HB4.out.setCell (p := ⟨w.heap.size, 0, none⟩) (Nat.le_refl _) _).setCell (p := ⟨w.heap.size, 1, none⟩) (Nat.le_refl _) _⟩
          · subst h1
            have hte : ¬ t2.toList = [] := by rw [ByteArray.toList_eq, HTR.out]; exact h2
            have hti : t2.toList.isEmpty = false := by simpa using hte
            clear h2
            go_wp2
            all_goals exact bodyPost_ret (v := rve (0, 0, 2)) (by simp [results, Try.results40, go_sem, p0, p1, rve]) rfl ⟨by rw [HE.out], (HB4.out.setCell (p := ⟨w.heap.size, 0, none⟩) (Nat.le_refl _) _).setCell (p := ⟨w.heap.size, 1, none⟩) (Nat.le_refl _) _⟩
        · rw [if_neg hbad] at hR
          have h1 : q = false := by cases q <;> simp_all
          have h2 : t2.data.toList = [] := by
            by_cases h : t2.data.toList = []
            · exact h
            · exact absurd (.inr h) hbad
          subst h1
          have hte : t2.toList = [] := by rw [ByteArray.toList_eq, HTR.out]; exact h2
          have hti : t2.toList.isEmpty = true := by rw [hte]; rfl
          clear hbad h2
          have k9 := fun w => rnew_any (-1 * n1) (1) w (⟨by omega, by omega⟩) (⟨by omega, by omega⟩)
          rw [hR] at k9
          first | rw [Int.neg_one_mul] at k9 | rw [Int.one_mul] at k9
          have K9 := Lib.hid k9
          clear hR k9
          go_wp2_with fail
          with_reducible refine (K9.out _).mono ?_
          rintro e w9 ⟨rfl, hB9⟩
          have c0 := (hB9.cell (p := ⟨w.heap.size, 0, none⟩) (by have := p8; show w.heap.size < _; omega)).trans p0
          have c1 := (hB9.cell (p := ⟨w.heap.size, 1, none⟩) (by have := p8; show w.heap.size < _; omega)).trans p1
          have f0 := (hB9.frozen (p := ⟨w.heap.size, 0, none⟩) (by have := p8; show w.heap.size < _; omega)).trans p2
          have f1 := (hB9.frozen (p := ⟨w.heap.size, 1, none⟩) (by have := p8; show w.heap.size < _; omega)).trans p3
          have HB9 := Lib.hid (HB4.out.trans (hB9.mono HB4.out.size))
          clear hB9
          unfold rve
          go_wp2
          exact bodyPost_ret (v := rve R) (by simp [results, Try.results40, go_sem, c0, c1, rve]) rfl ⟨rfl, (HB9.out.setCell (p := ⟨w.heap.size, 0, none⟩) (Nat.le_refl _) _).setCell (p := ⟨w.heap.size, 1, none⟩) (Nat.le_refl _) _⟩
  · have h45' : hd s 45 = false := by simpa using h45
    have hR := HR.out
    rw [if_neg (fun h => h45 ((hd_iff _ _).2 h))] at hR
    have e45 := cutp_no h45'
    rw [e45] at HP1
    clear h45 e45
    go_wp2_with fail
    refine (digits_any w.heap.size 15 (s) false _ (by omega) HP1.out).mono ?_
    rintro e w2 ⟨rfl, ⟨t2, ht2, hP2⟩, hB2⟩
    have hlen := dg_len 15 0 1 (s).data.toList
    rw [← ht2, Array.length_toList] at hlen
    obtain ⟨n1a, n1b, n1c⟩ := dg_bounds 15 0 1 (s).data.toList (by omega) (by omega)
    rw [← ht2] at hR
    generalize dg 15 0 1 (s).data.toList = F1 at *
    have HT2 := Lib.hid ht2
    have HS2 : Hid (t2.size ≤ maxLen) := Lib.hid (by
      have h1 : (s).data.toList.length = (s).size := Array.length_toList ..
      have h2 : t2.data.size = t2.size := rfl
      have h3 : (s).size ≤ s.size := Nat.le_refl _
      have := HS.out
      omega)
    have HB2 := Lib.hid (HB1.out.trans hB2)
    have HP2 := Lib.hid hP2
    clear hlen ht2 hB2 hP2 HP1 HB1 HR
    obtain ⟨n1, p1', l2'⟩ := F1
    have HNB : Hid (0 ≤ n1 ∧ n1 ≤ 1000000000000000) := Lib.hid ⟨n1a, by simp at n1b n1c; omega⟩
    have hn1 := HNB.out.1
    have hn1b := HNB.out.2
    clear n1a n1b n1c
    simp only at hR HP2
    unfold fracP at hR
    go_wp2_with fail
    refine (take_any w.heap.size t2 _ 47 _ HS2.out HP2.out).mono ?_
    rintro e w3 ⟨rfl, hP3, hB3⟩
    have HP3 := Lib.hid hP3
    have HB3 := Lib.hid (HB2.out.trans hB3)
    clear hP3 hB3 HP2 HB2
    by_cases h47 : hd t2 47 = true
    · have HL3 := Lib.hid (cutp_yes h47)
      rw [if_pos ((hd_iff _ _).1 h47), ← HL3.out] at hR
      go_wp2_with fail
      refine (digits_any w.heap.size 7 (cutp t2 47) _ _ (by omega) HP3.out).mono ?_
      rintro e w4 ⟨rfl, ⟨t4, ht4, hP4⟩, hB4⟩
      obtain ⟨n2a, n2b, n2c⟩ := dg_bounds 7 0 1 (cutp t2 47).data.toList (by omega) (by omega)
      generalize dg 7 0 1 (cutp t2 47).data.toList = F2 at *
      obtain ⟨n2, p2', l4⟩ := F2
      have HNB2 : Hid (0 ≤ n2 ∧ n2 ≤ 10000000) := Lib.hid ⟨n2a, by simp at n2b n2c; omega⟩
      have hn2 := HNB2.out.1
      have hn2b := HNB2.out.2
      simp only at ht4 hR hP4
      have HT4 := Lib.hid ht4
      have HB4 := Lib.hid (HB3.out.trans hB4)
      have HP4 := Lib.hid hP4
      have HR := Lib.hid hR
      clear ht4 hB4 hP4 n2a n2b n2c HB3 HP3 hR
      have hR := HR.out
      unfold finP at hR
      have eq0 : (false || p1' == 1 || p2' == 1) = (p1' == 1 || p2' == 1) := by simp
      rw [eq0] at HP4
      clear eq0
      generalize (p1' == 1 || p2' == 1) = q at *
      obtain ⟨p0, p1, p2, p3, p4, p5, p6, p7, p8⟩ := HP4.out
      by_cases hbad : q = true ∨ l4 ≠ []
      · rw [if_pos hbad] at hR
        have HE := Lib.hid hR
        clear hR
        have hor : q = true ∨ (q = false ∧ l4 ≠ []) := by cases q <;> simp_all
        clear hbad
        rcases hor with h1 | ⟨h1, h2⟩
        · subst h1
          go_wp2
          all_goals exact bodyPost_ret (v := rve (0, 0, 2)) (by simp [results, Try.results40, go_sem, p0, p1, rve]) rfl ⟨by rw [HE.out], (HB4.out.setCell (p := ⟨w.heap.size, 0, none⟩) (Nat.le_refl _) _).setCell (p := ⟨w.heap.size, 1, none⟩) (Nat.le_refl _) _⟩
        · subst h1
          have hte : ¬ t4.toList = [] := by rw [ByteArray.toList_eq, HT4.out]; exact h2
          have hti : t4.toList.isEmpty = false := by simpa using hte
          clear h2
          go_wp2
          all_goals exact bodyPost_ret (v := rve (0, 0, 2)) (by simp [results, Try.results40, go_sem, p0, p1, rve]) rfl ⟨by rw [HE.out], (HB4.out.setCell (p := ⟨w.heap.size, 0, none⟩) (Nat.le_refl _) _).setCell (p := ⟨w.heap.size, 1, none⟩) (Nat.le_refl _) _⟩
      · rw [if_neg hbad] at hR
        have h1 : q = false := by cases q <;> simp_all
        have h2 : l4 = [] := by
          by_cases h : l4 = []
          · exact h
          · exact absurd (.inr h) hbad
        subst h1
        have hte : t4.toList = [] := by rw [ByteArray.toList_eq, HT4.out]; exact h2
        have hti : t4.toList.isEmpty = true := by rw [hte]; rfl
        clear hbad h2
        have k9 := fun w => rnew_any (1 * n1) (n2) w (⟨by omega, by omega⟩) (⟨by omega, by omega⟩)
        rw [hR] at k9
        first | rw [Int.neg_one_mul] at k9 | rw [Int.one_mul] at k9
        have K9 := Lib.hid k9
        clear hR k9
        go_wp2_with fail
        with_reducible refine (K9.out _).mono ?_
        rintro e w9 ⟨rfl, hB9⟩
        have c0 := (hB9.cell (p := ⟨w.heap.size, 0, none⟩) (by have := p8; show w.heap.size < _; omega)).trans p0
        have c1 := (hB9.cell (p := ⟨w.heap.size, 1, none⟩) (by have := p8; show w.heap.size < _; omega)).trans p1
        have f0 := (hB9.frozen (p := ⟨w.heap.size, 0, none⟩) (by have := p8; show w.heap.size < _; omega)).trans p2
        have f1 := (hB9.frozen (p := ⟨w.heap.size, 1, none⟩) (by have := p8; show w.heap.size < _; omega)).trans p3
        have HB9 := Lib.hid (HB4.out.trans (hB9.mono HB4.out.size))
        clear hB9
        unfold rve
        go_wp2
        exact bodyPost_ret (v := rve R) (by simp [results, Try.results40, go_sem, c0, c1, rve]) rfl ⟨rfl, (HB9.out.setCell (p := ⟨w.heap.size, 0, none⟩) (Nat.le_refl _) _).setCell (p := ⟨w.heap.size, 1, none⟩) (Nat.le_refl _) _⟩
    · have h47' : hd t2 47 = false := by simpa using h47
      rw [if_neg (fun h => h47 ((hd_iff _ _).2 h))] at hR
      have e47 := cutp_no h47'
      rw [e47] at HP3
      clear h47 e47
      go_wp2_with fail
      refine (take_any w.heap.size t2 _ 46 _ HS2.out HP3.out).mono ?_
      rintro e w4 ⟨rfl, hP4, hB4⟩
      have HP4 := Lib.hid hP4
      have HB4 := Lib.hid (HB3.out.trans hB4)
      clear hP4 hB4 HP3 HB3
      by_cases h46 : hd t2 46 = true
      · have HL3 := Lib.hid (cutp_yes h46)
        rw [if_pos ((hd_iff _ _).1 h46), ← HL3.out] at hR
        go_wp2_with fail
        refine (digits_any w.heap.size 6 (cutp t2 46) _ _ (by omega) HP4.out).mono ?_
        rintro e w5 ⟨rfl, ⟨t4, ht4, hP5⟩, hB5⟩
        obtain ⟨n2a, n2b, n2c⟩ := dg_bounds 6 0 1 (cutp t2 46).data.toList (by omega) (by omega)
        generalize dg 6 0 1 (cutp t2 46).data.toList = F2 at *
        obtain ⟨n2, p2', l4⟩ := F2
        have HNB2 : Hid (0 ≤ n2 ∧ n2 ≤ 1000000 ∧ 1 ≤ p2' ∧ p2' ≤ 1000000) := Lib.hid ⟨n2a, by simp at n2b n2c; omega, by simp at n2a n2b n2c; omega, by simp at n2b n2c; omega⟩
        obtain ⟨hn2, hn2b, hp2, hp2b⟩ := HNB2.out
        simp only at ht4 hR hP5
        have HT4 := Lib.hid ht4
        have HB5 := Lib.hid (HB4.out.trans hB5)
        have HP5 := Lib.hid hP5
        have hmm : (n1 ≤ 1099511627777 ∧ min n1 1099511627777 = n1) ∨ (1099511627777 < n1 ∧ min n1 1099511627777 = 1099511627777) := by omega
        clear ht4 hB5 hP5 n2a n2b n2c HB4 HP4
        rcases hmm with ⟨hmn, em⟩ | ⟨hmn, em⟩
        · rw [em] at hR
          clear em
          have hmp := Int.mul_nonneg (show 0 ≤ n1 by omega) (show 0 ≤ p2' by omega)
          have hmq : n1 * p2' ≤ 1099511627777 * 1000000 := Int.mul_le_mul (by omega) hp2b (by omega) (by omega)
          have HR := Lib.hid hR
          clear hR
          have hR := HR.out
          unfold finP at hR
          have eq0 : (false || p1' == 1 || p2' == 1) = (p1' == 1 || p2' == 1) := by simp
          rw [eq0] at HP5
          clear eq0
          generalize (p1' == 1 || p2' == 1) = q at *
          obtain ⟨p0, p1, p2, p3, p4, p5, p6, p7, p8⟩ := HP5.out
          by_cases hbad : q = true ∨ l4 ≠ []
          · rw [if_pos hbad] at hR
            have HE := Lib.hid hR
            clear hR
            have hor : q = true ∨ (q = false ∧ l4 ≠ []) := by cases q <;> simp_all
            clear hbad
            rcases hor with h1 | ⟨h1, h2⟩
            · subst h1
              go_wp2
              all_goals exact bodyPost_ret (v := rve (0, 0, 2)) (by simp [results, Try.results40, go_sem, p0, p1, rve]) rfl ⟨by rw [HE.out], (HB5.out.setCell (p := ⟨w.heap.size, 0, none⟩) (Nat.le_refl _) _).setCell (p := ⟨w.heap.size, 1, none⟩) (Nat.le_refl _) _⟩
            · subst h1
              have hte : ¬ t4.toList = [] := by rw [ByteArray.toList_eq, HT4.out]; exact h2
              have hti : t4.toList.isEmpty = false := by simpa using hte
              clear h2
              go_wp2
              all_goals exact bodyPost_ret (v := rve (0, 0, 2)) (by simp [results, Try.results40, go_sem, p0, p1, rve]) rfl ⟨by rw [HE.out], (HB5.out.setCell (p := ⟨w.heap.size, 0, none⟩) (Nat.le_refl _) _).setCell (p := ⟨w.heap.size, 1, none⟩) (Nat.le_refl _) _⟩
          · rw [if_neg hbad] at hR
            have h1 : q = false := by cases q <;> simp_all
            have h2 : l4 = [] := by
              by_cases h : l4 = []
              · exact h
              · exact absurd (.inr h) hbad
            subst h1
            have hte : t4.toList = [] := by rw [ByteArray.toList_eq, HT4.out]; exact h2
            have hti : t4.toList.isEmpty = true := by rw [hte]; rfl
            clear hbad h2
            have k9 := fun w => rnew_any (1 * (n1 * p2' + n2)) (p2') w (⟨by omega, by omega⟩) (⟨by omega, by omega⟩)
            rw [hR] at k9
            first | rw [Int.neg_one_mul] at k9 | rw [Int.one_mul] at k9
            have K9 := Lib.hid k9
            clear hR k9
            go_wp2_with fail
            with_reducible refine (K9.out _).mono ?_
            rintro e w9 ⟨rfl, hB9⟩
            have c0 := (hB9.cell (p := ⟨w.heap.size, 0, none⟩) (by have := p8; show w.heap.size < _; omega)).trans p0
            have c1 := (hB9.cell (p := ⟨w.heap.size, 1, none⟩) (by have := p8; show w.heap.size < _; omega)).trans p1
            have f0 := (hB9.frozen (p := ⟨w.heap.size, 0, none⟩) (by have := p8; show w.heap.size < _; omega)).trans p2
            have f1 := (hB9.frozen (p := ⟨w.heap.size, 1, none⟩) (by have := p8; show w.heap.size < _; omega)).trans p3
            have HB9 := Lib.hid (HB5.out.trans (hB9.mono HB5.out.size))
            clear hB9
            unfold rve
            go_wp2
            exact bodyPost_ret (v := rve R) (by simp [results, Try.results40, go_sem, c0, c1, rve]) rfl ⟨rfl, (HB9.out.setCell (p := ⟨w.heap.size, 0, none⟩) (Nat.le_refl _) _).setCell (p := ⟨w.heap.size, 1, none⟩) (Nat.le_refl _) _⟩
        · rw [em] at hR
          clear em
          have hmp := Int.mul_nonneg (show 0 ≤ 1099511627777 by omega) (show 0 ≤ p2' by omega)
          have hmq : 1099511627777 * p2' ≤ 1099511627777 * 1000000 := Int.mul_le_mul (by omega) hp2b (by omega) (by omega)
          have HR := Lib.hid hR
          clear hR
          have hR := HR.out
          unfold finP at hR
          have eq0 : (false || p1' == 1 || p2' == 1) = (p1' == 1 || p2' == 1) := by simp
          rw [eq0] at HP5
          clear eq0
          generalize (p1' == 1 || p2' == 1) = q at *
          obtain ⟨p0, p1, p2, p3, p4, p5, p6, p7, p8⟩ := HP5.out
          by_cases hbad : q = true ∨ l4 ≠ []
          · rw [if_pos hbad] at hR
            have HE := Lib.hid hR
            clear hR
            have hor : q = true ∨ (q = false ∧ l4 ≠ []) := by cases q <;> simp_all
            clear hbad
            rcases hor with h1 | ⟨h1, h2⟩
            · subst h1
              go_wp2
              all_goals exact bodyPost_ret (v := rve (0, 0, 2)) (by simp [results, Try.results40, go_sem, p0, p1, rve]) rfl ⟨by rw [HE.out], (HB5.out.setCell (p := ⟨w.heap.size, 0, none⟩) (Nat.le_refl _) _).setCell (p := ⟨w.heap.size, 1, none⟩) (Nat.le_refl _) _⟩
            · subst h1
              have hte : ¬ t4.toList = [] := by rw [ByteArray.toList_eq, HT4.out]; exact h2
              have hti : t4.toList.isEmpty = false := by simpa using hte
              clear h2
              go_wp2
              all_goals exact bodyPost_ret (v := rve (0, 0, 2)) (by simp [results, Try.results40, go_sem, p0, p1, rve]) rfl ⟨by rw [HE.out], (HB5.out.setCell (p := ⟨w.heap.size, 0, none⟩) (Nat.le_refl _) _).setCell (p := ⟨w.heap.size, 1, none⟩) (Nat.le_refl _) _⟩
          · rw [if_neg hbad] at hR
            have h1 : q = false := by cases q <;> simp_all
            have h2 : l4 = [] := by
              by_cases h : l4 = []
              · exact h
              · exact absurd (.inr h) hbad
            subst h1
            have hte : t4.toList = [] := by rw [ByteArray.toList_eq, HT4.out]; exact h2
            have hti : t4.toList.isEmpty = true := by rw [hte]; rfl
            clear hbad h2
            have k9 := fun w => rnew_any (1 * (1099511627777 * p2' + n2)) (p2') w (⟨by omega, by omega⟩) (⟨by omega, by omega⟩)
            rw [hR] at k9
            first | rw [Int.neg_one_mul] at k9 | rw [Int.one_mul] at k9
            have K9 := Lib.hid k9
            clear hR k9
            go_wp2_with fail
            with_reducible refine (K9.out _).mono ?_
            rintro e w9 ⟨rfl, hB9⟩
            have c0 := (hB9.cell (p := ⟨w.heap.size, 0, none⟩) (by have := p8; show w.heap.size < _; omega)).trans p0
            have c1 := (hB9.cell (p := ⟨w.heap.size, 1, none⟩) (by have := p8; show w.heap.size < _; omega)).trans p1
            have f0 := (hB9.frozen (p := ⟨w.heap.size, 0, none⟩) (by have := p8; show w.heap.size < _; omega)).trans p2
            have f1 := (hB9.frozen (p := ⟨w.heap.size, 1, none⟩) (by have := p8; show w.heap.size < _; omega)).trans p3
            have HB9 := Lib.hid (HB5.out.trans (hB9.mono HB5.out.size))
            clear hB9
            unfold rve
            go_wp2
            exact bodyPost_ret (v := rve R) (by simp [results, Try.results40, go_sem, c0, c1, rve]) rfl ⟨rfl, (HB9.out.setCell (p := ⟨w.heap.size, 0, none⟩) (Nat.le_refl _) _).setCell (p := ⟨w.heap.size, 1, none⟩) (Nat.le_refl _) _⟩
      · have h46' : hd t2 46 = false := by simpa using h46
        rw [if_neg (fun h => h46 ((hd_iff _ _).2 h))] at hR
        have e46 := cutp_no h46'
        rw [e46] at HP4
        have HR := Lib.hid hR
        have HTR := Lib.hid (rfl : t2.data.toList = t2.data.toList)
        clear h46 e46 hR
        have hR := HR.out
        unfold finP at hR
        have eq0 : (false || p1' == 1) = (p1' == 1) := by simp
        rw [eq0] at HP4
        clear eq0
        generalize (p1' == 1) = q at *
        obtain ⟨p0, p1, p2, p3, p4, p5, p6, p7, p8⟩ := HP4.out
        by_cases hbad : q = true ∨ t2.data.toList ≠ []
        · rw [if_pos hbad] at hR
          have HE := Lib.hid hR
          clear hR
          have hor : q = true ∨ (q = false ∧ t2.data.toList ≠ []) := by cases q <;> simp_all
          clear hbad
          rcases hor with h1 | ⟨h1, h2⟩
          · subst h1
            go_wp2
            all_goals exact bodyPost_ret (v := rve (0, 0, 2)) (by simp [results, Try.results40, go_sem, p0, p1, rve]) rfl ⟨by rw [HE.out], (HB4.out.setCell (p := ⟨w.heap.size, 0, none⟩) (Nat.le_refl _) _).setCell (p := ⟨w.heap.size, 1, none⟩) (Nat.le_refl _) _⟩
          · subst h1
            have hte : ¬ t2.toList = [] := by rw [ByteArray.toList_eq, HTR.out]; exact h2
            have hti : t2.toList.isEmpty = false := by simpa using hte
            clear h2
            go_wp2
            all_goals exact bodyPost_ret (v := rve (0, 0, 2)) (by simp [results, Try.results40, go_sem, p0, p1, rve]) rfl ⟨by rw [HE.out], (HB4.out.setCell (p := ⟨w.heap.size, 0, none⟩) (Nat.le_refl _) _).setCell (p := ⟨w.heap.size, 1, none⟩) (Nat.le_refl _) _⟩
        · rw [if_neg hbad] at hR
          have h1 : q = false := by cases q <;> simp_all
          have h2 : t2.data.toList = [] := by
            by_cases h : t2.data.toList = []
            · exact h
            · exact absurd (.inr h) hbad
          subst h1
          have hte : t2.toList = [] := by rw [ByteArray.toList_eq, HTR.out]; exact h2
          have hti : t2.toList.isEmpty = true := by rw [hte]; rfl
          clear hbad h2
          have k9 := fun w => rnew_any (1 * n1) (1) w (⟨by omega, by omega⟩) (⟨by omega, by omega⟩)
          rw [hR] at k9
          first | rw [Int.neg_one_mul] at k9 | rw [Int.one_mul] at k9
          have K9 := Lib.hid k9
          clear hR k9
          go_wp2_with fail
          with_reducible refine (K9.out _).mono ?_
          rintro e w9 ⟨rfl, hB9⟩
          have c0 := (hB9.cell (p := ⟨w.heap.size, 0, none⟩) (by have := p8; show w.heap.size < _; omega)).trans p0
          have c1 := (hB9.cell (p := ⟨w.heap.size, 1, none⟩) (by have := p8; show w.heap.size < _; omega)).trans p1
          have f0 := (hB9.frozen (p := ⟨w.heap.size, 0, none⟩) (by have := p8; show w.heap.size < _; omega)).trans p2
          have f1 := (hB9.frozen (p := ⟨w.heap.size, 1, none⟩) (by have := p8; show w.heap.size < _; omega)).trans p3
          have HB9 := Lib.hid (HB4.out.trans (hB9.mono HB4.out.size))
          clear hB9
          unfold rve
          go_wp2
          exact bodyPost_ret (v := rve R) (by simp [results, Try.results40, go_sem, c0, c1, rve]) rfl ⟨rfl, (HB9.out.setCell (p := ⟨w.heap.size, 0, none⟩) (Nat.le_refl _) _).setCell (p := ⟨w.heap.size, 1, none⟩) (Nat.le_refl _) _⟩

end Go.Proofs.Ytloddocibfbkpaa
