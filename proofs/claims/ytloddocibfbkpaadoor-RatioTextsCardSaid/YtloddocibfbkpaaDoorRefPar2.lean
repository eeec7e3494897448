/- Contracts of priorartref03: Parse. -/
import Derived.Test.YtloddocibfbkpaaDoorRefPar
import Derived.Laws.DeepStrings4
namespace Go.Proofs.YtloddocibfbkpaaDoor
open Go.RowKit Go.Shelf

theorem rdigits_0 (s : ByteArray) (w : World) (hs : s.size ≤ 1000000) :
    Calls Tryd.prog 20 #[.string s, .int .i64 0] w fun e w' => e = .returned (.int .i64 (cntD s.data.toList : Nat)) ∧ w = w' := by
  have := rdigits_any s 0 w hs (Nat.zero_le _)
  rw [List.drop_zero] at this
  exact this

theorem rdigits_1 (s : ByteArray) (w : World) (hs : s.size ≤ 1000000) (h : 1 ≤ s.size) :
    Calls Tryd.prog 20 #[.string s, .int .i64 1] w fun e w' => e = .returned (.int .i64 (cntD s.data.toList.tail : Nat)) ∧ w = w' := by
  have := rdigits_any s 1 w hs h
  rw [List.drop_one] at this
  exact this

theorem head_byte (s : ByteArray) (h : 0 < s.size) : s.data.toList.head? = some s[0] ∧ s.data.toList = s[0] :: s.data.toList.tail := by
  have h2 : 0 < s.data.toList.length := by rw [Array.length_toList]; exact h
  have e : s.data.toList = s.data.toList[0] :: s.data.toList.tail := by
    match hl : s.data.toList, h2 with
    | a :: l, _ => simp
  have e2 : s.data.toList[0] = s[0] := by simp; rfl
  rw [e2] at e
  constructor
  · rw [e]; rfl
  · exact e

theorem valC_bounds (l : List UInt8) (h : ∀ c ∈ l, isD c = true) : 0 ≤ valC 0 l ∧ valC 0 l ≤ 4600000000000000009 := by
  have gen : ∀ (l : List UInt8) (n : Int), (∀ c ∈ l, isD c = true) → 0 ≤ n → n ≤ 4600000000000000009 → 0 ≤ valC n l ∧ valC n l ≤ 4600000000000000009 := by
    intro l
    induction l with
    | nil => intro n _ h1 h2; exact ⟨h1, h2⟩
    | cons c l ih =>
      intro n hd h1 h2
      obtain ⟨c1, c2⟩ := isD_iff.1 (hd c (List.mem_cons_self ..))
      have e2 : valC n (c :: l) = valC (min n 460000000000000000 * 10 + (c.toNat : Int) - 48) l := rfl
      rw [e2]
      exact ih _ (fun d hd' => hd d (List.mem_cons_of_mem _ hd')) (by omega) (by omega)
  exact gen l 0 h (by omega) (by omega)

set_option maxHeartbeats 4000000 in
set_option maxRecDepth 100000 in
theorem rparse_any (s : ByteArray) (w : World) (hs : s.size ≤ 1000) :
    Calls Tryd.prog 11 #[.string s] w fun e w' => e = .returned (rve (refP s.data.toList)) ∧ Below w.heap.size w w' := by
  have HB0 := Lib.hid ((Below.refl w.heap.size w).alloc (Nat.le_refl _) (Obj.cells #[.int .i64 0, .int .i64 0] 23))
  generalize hR : refP s.data.toList = R
  unfold refP at hR
  have hlen : s.data.toList.length = s.size := Array.length_toList ..
  by_cases h45 : 0 < s.size ∧ s.data.toList.head? = some 45
  · obtain ⟨h0, h1⟩ := h45
    rw [if_pos h1] at hR
    obtain ⟨hh, hc⟩ := head_byte s h0
    have hb : s[0] = 45 := by rw [hh] at h1; simpa using h1
    have hb' : ((s[0].toNat : Int) == 45) = true := by rw [hb]; decide
    have k1 := fun w => rdigits_any s 1 w (by omega) (by omega)
    rw [List.drop_one] at k1
    have hcl := cntD_le s.data.toList.tail
    rw [List.length_tail] at hcl
    have HR := Lib.hid hR
    have K1 := Lib.hid k1
    clear hR k1 hh hc hb h1
    go_enter Tryd.func11, Tryd.ntmps11
    go_wp2_with fail
    refine (K1.out _).mono ?_
    rintro e w' ⟨rfl, rfl⟩
    generalize hC : cntD s.data.toList.tail = C at *
    have HC := Lib.hid hC
    by_cases hC1 : C < 1
    · have hE := Lib.hid (show R = (0, 0, 2) by rw [← HR.out]; unfold refF; rw [if_pos (.inl (by rw [HC.out]; exact hC1))])
      have hC1' : (C : Int) < 1 := by omega
      clear hC
      go_wp2
      all_goals exact bodyPost_ret (v := rve (0, 0, 2)) (by simp [results, Tryd.results11, go_sem, rve]) rfl ⟨by rw [hE.out], HB0.out⟩
    · by_cases hC2 : 15 < C
      · have hE := Lib.hid (show R = (0, 0, 2) by rw [← HR.out]; unfold refF; rw [if_pos (.inr (by rw [HC.out]; exact hC2))])
        have hC1' : 15 < (C : Int) := by omega
        clear hC
        go_wp2
        all_goals exact bodyPost_ret (v := rve (0, 0, 2)) (by simp [results, Tryd.results11, go_sem, rve]) rfl ⟨by rw [hE.out], HB0.out⟩
      · have hC3 : 1 ≤ (C : Int) := by omega
        have hC4 : (C : Int) ≤ 15 := by omega
        have hR2 := HR.out
        unfold refF at hR2
        rw [hC, if_neg (by omega)] at hR2
        have HR2 := Lib.hid hR2
        have hs1 : 1 + C ≤ s.size := by omega
        have hs2 : 1 + (C : Int) ≤ (s.size : Int) := by omega
        have hs3 : (1 + (C : Int)).toNat = 1 + C := by omega
        have hs4 : 0 ≤ 1 + (C : Int) := by omega
        clear hC hR2 HR
        have hW : s.extract 1 (1 + C) = s.extract 1 (1 + C) := rfl
        clear hW
        have hwd : (s.extract 1 (1 + C)).data.toList = s.data.toList.tail.take C := by rw [Lib.extract_data, show 1 + C - 1 = C by omega, List.drop_one]
        have htd : (s.extract (1 + C) s.size).data.toList = s.data.toList.tail.drop C := by
          rw [Lib.extract_data, List.take_of_length_le (by rw [List.length_drop, hlen]; omega), ← List.drop_one, List.drop_drop]
        have hts : (s.extract (1 + C) s.size).size = s.size - (1 + C) := by rw [ByteArray.size_extract]; omega
        have hws : (s.extract 1 (1 + C)).size = C := by rw [ByteArray.size_extract]; omega
        generalize hW : s.extract 1 (1 + C) = WH at *
        generalize hT : s.extract (1 + C) s.size = T at *
        have HWH := Lib.hid hwd
        have HTD := Lib.hid htd
        have hdg0 : ∀ c ∈ s.data.toList.tail.take C, isD c = true := by
          have := cntD_all s.data.toList.tail
          rw [HC.out] at this
          exact this
        have hta : T.size + (1 + C) ≤ s.size := by omega
        have htb : s.size ≤ T.size + (1 + C) := by omega
        have hwa : WH.size ≤ C := by omega
        clear hwd htd hts hws
        by_cases hend : s.size = 1 + C
        · have hTz : T.size = 0 := by omega
          have hTl : s.data.toList.tail.drop C = [] := by rw [← HTD.out]; exact List.eq_nil_of_length_eq_zero (by rw [Array.length_toList]; exact hTz)
          have hR2 := HR2.out
          rw [hTl] at hR2
          simp only at hR2
          replace HR2 := Lib.hid hR2
          have HDG := Lib.hid hdg0
          clear hR2 hTl hdg0 HTD
          have hR3 := HR2.out
          have kv := fun w => rvalue_any WH w (by omega) (by rw [HWH.out]; exact HDG.out)
          rw [HWH.out] at kv
          obtain ⟨vb1, vb2⟩ := valC_bounds (s.data.toList.tail.take C) HDG.out
          generalize valC 0 (s.data.toList.tail.take C) = V at *
          have KV := Lib.hid kv
          clear kv
          by_cases hV : 4600000000000000000 ≤ V
          · rw [if_pos hV] at hR3
            have hE := Lib.hid hR3.symm
            clear hR3
            go_wp2_with fail
            with_reducible refine (KV.out _).mono ?_
            rintro e w' ⟨rfl, rfl⟩
            go_wp2
            all_goals exact bodyPost_ret (v := rve (0, 0, 5)) (by simp [results, Tryd.results11, go_sem, rve]) rfl ⟨by rw [hE.out], HB0.out⟩
          · rw [if_neg hV] at hR3
            have hV2 : V < 4600000000000000000 := by omega
            have ko := fun w => of_any (-V) (1) w (by omega) (by omega) (by omega)
            rw [Int.neg_one_mul] at hR3
            rw [hR3] at ko
            have KO := Lib.hid ko
            clear hR3 ko hV
            go_wp2_with fail
            with_reducible refine (KV.out _).mono ?_
            rintro e w' ⟨rfl, rfl⟩
            go_wp2_with fail
            with_reducible refine (KO.out _).mono ?_
            rintro e w1 ⟨rfl, hB1⟩
            obtain ⟨hc0, hc1, hf0, hf1, hz⟩ := box_r hB1
            have HB1 := Lib.hid (HB0.out.trans (hB1.mono HB0.out.size))
            clear hB1
            unfold rve
            go_wp2
            exact bodyPost_ret (v := rve R) (by simp [results, Tryd.results11, go_sem, hc0, hc1, rve]) rfl ⟨rfl, (HB1.out.setCell (p := ⟨w.heap.size, 0, none⟩) (Nat.le_refl _) _).setCell (p := ⟨w.heap.size, 1, none⟩) (Nat.le_refl _) _⟩
        · have hTs : 0 < T.size := by omega
          have hTi : (0 : Int) < (T.size : Int) := by omega
          obtain ⟨hh, hcons⟩ := head_byte T hTs
          rw [HTD.out] at hcons
          have k2 := fun w => rdigits_1 T w (by omega) (by omega)
          have hlT : T.data.toList.tail.length = T.size - 1 := by rw [List.length_tail, Array.length_toList]; rfl
          have hKle := cntD_le T.data.toList.tail
          have hTtl : (s.data.toList.tail.drop C).tail = T.data.toList.tail := by rw [HTD.out]
          rw [hTtl] at hcons
          have hR2 := HR2.out
          rw [hcons] at hR2
          simp only at hR2
          have hallr := cntD_all T.data.toList.tail
          generalize hK : cntD T.data.toList.tail = K at *
          have hRr : (T.extract 1 T.size).data.toList = T.data.toList.tail := by
            rw [Lib.extract_data, List.drop_one, List.take_of_length_le (by omega)]
          generalize hr : T.data.toList.tail = r at *
          generalize hRT : T.extract 1 T.size = RT at *
          have K2 := Lib.hid k2
          have HRR := Lib.hid hRr
          have HALL := Lib.hid hallr
          have HKL := Lib.hid hlT
          clear k2 hRr hallr hr hTtl hh hcons HTD HR2 hK
          by_cases c47 : T[0] = 47
          · have hc : (T[0].toNat : Int) = 47 := by rw [c47]; rfl
            rw [c47] at hR2
            by_cases hbad : K < 1 ∨ K < r.length ∨ 7 < K
            · rw [if_pos (by rcases hbad with h | h | h; (· exact .inr (.inl h)); (· exact .inr (.inr (.inl h))); (· exact .inr (.inr (.inr (.inl ⟨rfl, h⟩))))) ] at hR2
              have hE := Lib.hid hR2.symm
              clear hR2 c47
              have hbad' : (K : Int) < 1 ∨ (1 ≤ (K : Int) ∧ 1 + (K : Int) < T.size) ∨ (1 ≤ (K : Int) ∧ ¬ 1 + (K : Int) < T.size ∧ 7 < (K : Int)) := by have := HKL.out; omega
              clear hbad
              rcases hbad' with h1 | ⟨h1, h2⟩ | ⟨h1, h2, h3⟩
              all_goals
                go_wp2_with fail
                with_reducible refine (K2.out _).mono ?_
                rintro e w' ⟨rfl, rfl⟩
                go_wp2
                all_goals exact bodyPost_ret (v := rve (0, 0, 2)) (by simp [results, Tryd.results11, go_sem, rve]) rfl ⟨by rw [hE.out], HB0.out⟩
            · rw [if_neg (by simp; omega), if_pos rfl] at hR2
              have hKr : K = r.length := by omega
              have hallr2 : ∀ c ∈ r, isD c = true := by
                have := HALL.out
                rw [List.take_of_length_le (by omega)] at this
                exact this
              have hRTs : RT.size = r.length := by rw [← HRR.out, Array.length_toList]; rfl
              have hk1 : 1 ≤ (K : Int) := by omega
              have hk2 : ¬ 1 + (K : Int) < T.size := by have := HKL.out; omega
              have hk3 : (K : Int) ≤ 7 := by omega
              have kd := fun w => rvalue_any RT w (by omega) (by rw [HRR.out]; exact hallr2)
              rw [HRR.out] at kd
              obtain ⟨db1, db2⟩ := valC_bounds r hallr2
              generalize valC 0 r = DV at *
              have KD := Lib.hid kd
              clear kd hallr2 hbad c47 HALL
              by_cases hD0 : DV = 0
              · rw [if_pos hD0] at hR2
                have hE := Lib.hid hR2.symm
                subst hD0
                clear hR2
                go_wp2_with fail
                with_reducible refine (K2.out _).mono ?_
                rintro e w' ⟨rfl, rfl⟩
                go_wp2_with fail
                with_reducible refine (KD.out _).mono ?_
                rintro e w' ⟨rfl, rfl⟩
                go_wp2
                all_goals exact bodyPost_ret (v := rve (0, 0, 1)) (by simp [results, Tryd.results11, go_sem, rve]) rfl ⟨by rw [hE.out], HB0.out⟩
              · rw [if_neg hD0] at hR2
                have HR2 := Lib.hid hR2
                have hDb : (DV == 0) = false := by simpa using hD0
                have HDG := Lib.hid hdg0
                clear hR2 hdg0
                go_wp2_with fail
                with_reducible refine (K2.out _).mono ?_
                rintro e w' ⟨rfl, rfl⟩
                go_wp2_with fail
                with_reducible refine (KD.out _).mono ?_
                rintro e w' ⟨rfl, rfl⟩
                have hR3 := HR2.out
                have kv := fun w => rvalue_any WH w (by omega) (by rw [HWH.out]; exact HDG.out)
                rw [HWH.out] at kv
                obtain ⟨vb1, vb2⟩ := valC_bounds (s.data.toList.tail.take C) HDG.out
                generalize valC 0 (s.data.toList.tail.take C) = V at *
                have KV := Lib.hid kv
                clear kv
                by_cases hV : 4600000000000000000 ≤ V
                · rw [if_pos hV] at hR3
                  have hE := Lib.hid hR3.symm
                  clear hR3
                  go_wp2_with fail
                  with_reducible refine (KV.out _).mono ?_
                  rintro e w' ⟨rfl, rfl⟩
                  go_wp2
                  all_goals exact bodyPost_ret (v := rve (0, 0, 5)) (by simp [results, Tryd.results11, go_sem, rve]) rfl ⟨by rw [hE.out], HB0.out⟩
                · rw [if_neg hV] at hR3
                  have hV2 : V < 4600000000000000000 := by omega
                  have ko := fun w => of_any (-V) (DV) w (by omega) (by omega) (by omega)
                  rw [Int.neg_one_mul] at hR3
                  rw [hR3] at ko
                  have KO := Lib.hid ko
                  clear hR3 ko hV
                  go_wp2_with fail
                  with_reducible refine (KV.out _).mono ?_
                  rintro e w' ⟨rfl, rfl⟩
                  go_wp2_with fail
                  with_reducible refine (KO.out _).mono ?_
                  rintro e w1 ⟨rfl, hB1⟩
                  obtain ⟨hc0, hc1, hf0, hf1, hz⟩ := box_r hB1
                  have HB1 := Lib.hid (HB0.out.trans (hB1.mono HB0.out.size))
                  clear hB1
                  unfold rve
                  go_wp2
                  exact bodyPost_ret (v := rve R) (by simp [results, Tryd.results11, go_sem, hc0, hc1, rve]) rfl ⟨rfl, (HB1.out.setCell (p := ⟨w.heap.size, 0, none⟩) (Nat.le_refl _) _).setCell (p := ⟨w.heap.size, 1, none⟩) (Nat.le_refl _) _⟩
          · by_cases c46 : T[0] = 46
            · have hc : (T[0].toNat : Int) = 46 := by rw [c46]; rfl
              rw [c46] at hR2
              by_cases hbad : K < 1 ∨ K < r.length ∨ 6 < K
              · rw [if_pos (by rcases hbad with h | h | h; (· exact .inr (.inl h)); (· exact .inr (.inr (.inl h))); (· exact .inr (.inr (.inr (.inr ⟨by decide, h⟩))))) ] at hR2
                have hE := Lib.hid hR2.symm
                clear hR2 c46 c47
                have hbad' : (K : Int) < 1 ∨ (1 ≤ (K : Int) ∧ 1 + (K : Int) < T.size) ∨ (1 ≤ (K : Int) ∧ ¬ 1 + (K : Int) < T.size ∧ 6 < (K : Int)) := by have := HKL.out; omega
                clear hbad
                rcases hbad' with h1 | ⟨h1, h2⟩ | ⟨h1, h2, h3⟩
                all_goals
                  go_wp2_with fail
                  with_reducible refine (K2.out _).mono ?_
                  rintro e w' ⟨rfl, rfl⟩
                  go_wp2
                  all_goals exact bodyPost_ret (v := rve (0, 0, 2)) (by simp [results, Tryd.results11, go_sem, rve]) rfl ⟨by rw [hE.out], HB0.out⟩
              · rw [if_neg (by simp; omega), if_neg (by decide)] at hR2
                have hKr : K = r.length := by omega
                have hallr2 : ∀ c ∈ r, isD c = true := by
                  have := HALL.out
                  rw [List.take_of_length_le (by omega)] at this
                  exact this
                have hRTs : RT.size ≤ r.length := by rw [← HRR.out, Array.length_toList]; exact Nat.le_refl _
                have hk1 : 1 ≤ (K : Int) := by omega
                have hk2 : ¬ 1 + (K : Int) < T.size := by have := HKL.out; omega
                have hk3 : (K : Int) ≤ 6 := by omega
                have hxd : (WH ++ RT).data.toList = s.data.toList.tail.take C ++ r := by rw [ByteArray.data_append, Array.toList_append, HWH.out, HRR.out]
                have hxs : (WH ++ RT).size ≤ 1000 := by rw [ByteArray.size_append]; omega
                have hdg1 : ∀ c ∈ s.data.toList.tail.take C ++ r, isD c = true := fun d hd => by
                  rcases List.mem_append.1 hd with h | h
                  · exact hdg0 d h
                  · exact hallr2 d h
                generalize hX : WH ++ RT = WX at *
                have HWX := Lib.hid hxd
                have HDG := Lib.hid hdg1
                have HR2 := Lib.hid hR2
                clear hR2 c46 c47 hbad hallr2 hdg0 hdg1 hxd HALL
                go_wp2_with fail
                with_reducible refine (K2.out _).mono ?_
                rintro e w' ⟨rfl, rfl⟩
                go_wp2
                go_loop [8, 11] (fun y x => ∃ (i : Nat) (p : Int), x = .int .i64 i ∧ y = .int .i64 p ∧ i ≤ K ∧ 1 ≤ p ∧ p ≤ 1000000 ∧ Hid (p = 10 ^ i)) (fun _ x => K - (intOf x).toNat)
                case atStart => exact ⟨0, 1, rfl, rfl, Nat.zero_le _, by omega, by omega, rfl⟩
                case round =>
                  obtain ⟨i, p, rfl, rfl, hi, hp1, hp2, hp⟩ := hrel
                  by_cases hlt : i < K
                  · have hii : (i : Int) < K := by omega
                    have hp3 : p ≤ 100000 := by
                      rw [hp.out]
                      have := pow_le10 (show i ≤ 5 by omega)
                      have h105 : (10 : Int) ^ 5 = 100000 := by decide
                      omega
                    have HP := Lib.hid (show 10 * p = 10 ^ (i + 1) by rw [hp.out, Int.pow_succ, Int.mul_comm])
                    clear hp
                    go_wp2
                    go_round
                    case rel => exact ⟨i + 1, 10 * p, by go_num, rfl, by omega, by omega, by omega, HP⟩
                    case measure => simp [intOf]; omega
                  · have hiK : i = K := by omega
                    have hii : (K : Int) ≤ (i : Int) := by omega
                    have hR4 := HR2.out
                    rw [← hiK, ← hp.out] at hR4
                    replace HR2 := Lib.hid hR4
                    have hpz : (p == 0) = false := by simp; omega
                    clear hR4 hiK hp hlt
                    have hR3 := HR2.out
                    have kv := fun w => rvalue_any WX w (by omega) (by rw [HWX.out]; exact HDG.out)
                    rw [HWX.out] at kv
                    obtain ⟨vb1, vb2⟩ := valC_bounds (s.data.toList.tail.take C ++ r) HDG.out
                    generalize valC 0 (s.data.toList.tail.take C ++ r) = V at *
                    have KV := Lib.hid kv
                    clear kv
                    by_cases hV : 4600000000000000000 ≤ V
                    · rw [if_pos hV] at hR3
                      have hE := Lib.hid hR3.symm
                      clear hR3
                      go_wp2_with fail
                      with_reducible refine (KV.out _).mono ?_
                      rintro e w' ⟨rfl, rfl⟩
                      go_wp2
                      all_goals exact bodyPost_ret (v := rve (0, 0, 5)) (by simp [results, Tryd.results11, go_sem, rve]) rfl ⟨by rw [hE.out], HB0.out⟩
                    · rw [if_neg hV] at hR3
                      have hV2 : V < 4600000000000000000 := by omega
                      have ko := fun w => of_any (-V) (p) w (by omega) (by omega) (by omega)
                      rw [Int.neg_one_mul] at hR3
                      rw [hR3] at ko
                      have KO := Lib.hid ko
                      clear hR3 ko hV
                      go_wp2_with fail
                      with_reducible refine (KV.out _).mono ?_
                      rintro e w' ⟨rfl, rfl⟩
                      go_wp2_with fail
                      with_reducible refine (KO.out _).mono ?_
                      rintro e w1 ⟨rfl, hB1⟩
                      obtain ⟨hc0, hc1, hf0, hf1, hz⟩ := box_r hB1
                      have HB1 := Lib.hid (HB0.out.trans (hB1.mono HB0.out.size))
                      clear hB1
                      unfold rve
                      go_wp2
                      exact bodyPost_ret (v := rve R) (by simp [results, Tryd.results11, go_sem, hc0, hc1, rve]) rfl ⟨rfl, (HB1.out.setCell (p := ⟨w.heap.size, 0, none⟩) (Nat.le_refl _) _).setCell (p := ⟨w.heap.size, 1, none⟩) (Nat.le_refl _) _⟩
            · rw [if_pos (.inl ⟨c46, c47⟩)] at hR2
              have hE := Lib.hid hR2.symm
              have n46 : ((T[0].toNat : Int) == 46) = false := by
                simp only [beq_eq_false_iff_ne]
                intro h
                exact c46 (UInt8.toNat_inj.1 (by rw [show (46 : UInt8).toNat = 46 from rfl]; omega))
              have n47 : ((T[0].toNat : Int) == 47) = false := by
                simp only [beq_eq_false_iff_ne]
                intro h
                exact c47 (UInt8.toNat_inj.1 (by rw [show (47 : UInt8).toNat = 47 from rfl]; omega))
              have n46' : ((T[0].toNat : Int) != 46) = true := by simp [bne, n46]
              clear hR2 c46 c47
              go_wp2_with fail
              with_reducible refine (K2.out _).mono ?_
              rintro e w' ⟨rfl, rfl⟩
              go_wp2
              all_goals exact bodyPost_ret (v := rve (0, 0, 2)) (by simp [results, Tryd.results11, go_sem, rve]) rfl ⟨by rw [hE.out], HB0.out⟩
  · have k1 := fun w => rdigits_0 s w (by omega)
    have hcl := cntD_le s.data.toList
    rw [hlen] at hcl
    by_cases h0 : 0 < s.size
    · obtain ⟨hh, hc⟩ := head_byte s h0
      have hne : ¬ s.data.toList.head? = some 45 := fun h => h45 ⟨h0, h⟩
      rw [if_neg hne] at hR
      have hb' : ((s[0].toNat : Int) == 45) = false := by
        simp only [beq_eq_false_iff_ne]
        intro h
        exact hne (by rw [hh]; congr 1; exact UInt8.toNat_inj.1 (by rw [show (45 : UInt8).toNat = 45 from rfl]; omega))
      have h0i : (0 : Int) < (s.size : Int) := by omega
      have HR := Lib.hid hR
      have K1 := Lib.hid k1
      clear hR k1 hh hc hne h45
      go_enter Tryd.func11, Tryd.ntmps11
      go_wp2_with fail
      refine (K1.out _).mono ?_
      rintro e w' ⟨rfl, rfl⟩
      generalize hC : cntD s.data.toList = C at *
      have HC := Lib.hid hC
      by_cases hC1 : C < 1
      · have hE := Lib.hid (show R = (0, 0, 2) by rw [← HR.out]; unfold refF; rw [if_pos (.inl (by rw [HC.out]; exact hC1))])
        have hC1' : (C : Int) < 1 := by omega
        clear hC
        go_wp2
        all_goals exact bodyPost_ret (v := rve (0, 0, 2)) (by simp [results, Tryd.results11, go_sem, rve]) rfl ⟨by rw [hE.out], HB0.out⟩
      · by_cases hC2 : 15 < C
        · have hE := Lib.hid (show R = (0, 0, 2) by rw [← HR.out]; unfold refF; rw [if_pos (.inr (by rw [HC.out]; exact hC2))])
          have hC1' : 15 < (C : Int) := by omega
          clear hC
          go_wp2
          all_goals exact bodyPost_ret (v := rve (0, 0, 2)) (by simp [results, Tryd.results11, go_sem, rve]) rfl ⟨by rw [hE.out], HB0.out⟩
        · have hC3 : 1 ≤ (C : Int) := by omega
          have hC4 : (C : Int) ≤ 15 := by omega
          have hR2 := HR.out
          unfold refF at hR2
          rw [hC, if_neg (by omega)] at hR2
          have HR2 := Lib.hid hR2
          have hs1 : C ≤ s.size := by omega
          have hs2 : (C : Int) ≤ (s.size : Int) := by omega
          have hs3 : ((C : Int)).toNat = C := by omega
          have hs4 : 0 ≤ (C : Int) := by omega
          clear hC hR2 HR
          have hW : s.extract 0 C = s.extract 0 C := rfl
          clear hW
          have hwd : (s.extract 0 C).data.toList = s.data.toList.take C := by rw [Lib.extract_data, Nat.sub_zero, List.drop_zero]
          have htd : (s.extract C s.size).data.toList = s.data.toList.drop C := by
            rw [Lib.extract_data, List.take_of_length_le (by rw [List.length_drop, hlen]; omega)]
          have hts : (s.extract C s.size).size = s.size - C := by rw [ByteArray.size_extract]; omega
          have hws : (s.extract 0 C).size = C := by rw [ByteArray.size_extract]; omega
          generalize hW : s.extract 0 C = WH at *
          generalize hT : s.extract C s.size = T at *
          have HWH := Lib.hid hwd
          have HTD := Lib.hid htd
          have hdg0 : ∀ c ∈ s.data.toList.take C, isD c = true := by
            have := cntD_all s.data.toList
            rw [HC.out] at this
            exact this
          have hta : T.size + C ≤ s.size := by omega
          have htb : s.size ≤ T.size + C := by omega
          have hwa : WH.size ≤ C := by omega
          clear hwd htd hts hws
          by_cases hend : s.size = C
          · have hTz : T.size = 0 := by omega
            have hTl : s.data.toList.drop C = [] := by rw [← HTD.out]; exact List.eq_nil_of_length_eq_zero (by rw [Array.length_toList]; exact hTz)
            have hR2 := HR2.out
            rw [hTl] at hR2
            simp only at hR2
            replace HR2 := Lib.hid hR2
            have HDG := Lib.hid hdg0
            clear hR2 hTl hdg0 HTD
            have hR3 := HR2.out
            have kv := fun w => rvalue_any WH w (by omega) (by rw [HWH.out]; exact HDG.out)
            rw [HWH.out] at kv
            obtain ⟨vb1, vb2⟩ := valC_bounds (s.data.toList.take C) HDG.out
            generalize valC 0 (s.data.toList.take C) = V at *
            have KV := Lib.hid kv
            clear kv
            by_cases hV : 4600000000000000000 ≤ V
            · rw [if_pos hV] at hR3
              have hE := Lib.hid hR3.symm
              clear hR3
              go_wp2_with fail
              with_reducible refine (KV.out _).mono ?_
              rintro e w' ⟨rfl, rfl⟩
              go_wp2
              all_goals exact bodyPost_ret (v := rve (0, 0, 5)) (by simp [results, Tryd.results11, go_sem, rve]) rfl ⟨by rw [hE.out], HB0.out⟩
            · rw [if_neg hV] at hR3
              have hV2 : V < 4600000000000000000 := by omega
              have ko := fun w => of_any (V) (1) w (by omega) (by omega) (by omega)
              rw [Int.one_mul] at hR3
              rw [hR3] at ko
              have KO := Lib.hid ko
              clear hR3 ko hV
              go_wp2_with fail
              with_reducible refine (KV.out _).mono ?_
              rintro e w' ⟨rfl, rfl⟩
              go_wp2_with fail
              with_reducible refine (KO.out _).mono ?_
              rintro e w1 ⟨rfl, hB1⟩
              obtain ⟨hc0, hc1, hf0, hf1, hz⟩ := box_r hB1
              have HB1 := Lib.hid (HB0.out.trans (hB1.mono HB0.out.size))
              clear hB1
              unfold rve
              go_wp2
              exact bodyPost_ret (v := rve R) (by simp [results, Tryd.results11, go_sem, hc0, hc1, rve]) rfl ⟨rfl, (HB1.out.setCell (p := ⟨w.heap.size, 0, none⟩) (Nat.le_refl _) _).setCell (p := ⟨w.heap.size, 1, none⟩) (Nat.le_refl _) _⟩
          · have hTs : 0 < T.size := by omega
            have hTi : (0 : Int) < (T.size : Int) := by omega
            obtain ⟨hh, hcons⟩ := head_byte T hTs
            rw [HTD.out] at hcons
            have k2 := fun w => rdigits_1 T w (by omega) (by omega)
            have hlT : T.data.toList.tail.length = T.size - 1 := by rw [List.length_tail, Array.length_toList]; rfl
            have hKle := cntD_le T.data.toList.tail
            have hTtl : (s.data.toList.drop C).tail = T.data.toList.tail := by rw [HTD.out]
            rw [hTtl] at hcons
            have hR2 := HR2.out
            rw [hcons] at hR2
            simp only at hR2
            have hallr := cntD_all T.data.toList.tail
            generalize hK : cntD T.data.toList.tail = K at *
            have hRr : (T.extract 1 T.size).data.toList = T.data.toList.tail := by
              rw [Lib.extract_data, List.drop_one, List.take_of_length_le (by omega)]
            generalize hr : T.data.toList.tail = r at *
            generalize hRT : T.extract 1 T.size = RT at *
            have K2 := Lib.hid k2
            have HRR := Lib.hid hRr
            have HALL := Lib.hid hallr
            have HKL := Lib.hid hlT
            clear k2 hRr hallr hr hTtl hh hcons HTD HR2 hK
            by_cases c47 : T[0] = 47
            · have hc : (T[0].toNat : Int) = 47 := by rw [c47]; rfl
              rw [c47] at hR2
              by_cases hbad : K < 1 ∨ K < r.length ∨ 7 < K
              · rw [if_pos (by rcases hbad with h | h | h; (· exact .inr (.inl h)); (· exact .inr (.inr (.inl h))); (· exact .inr (.inr (.inr (.inl ⟨rfl, h⟩))))) ] at hR2
                have hE := Lib.hid hR2.symm
                clear hR2 c47
                have hbad' : (K : Int) < 1 ∨ (1 ≤ (K : Int) ∧ 1 + (K : Int) < T.size) ∨ (1 ≤ (K : Int) ∧ ¬ 1 + (K : Int) < T.size ∧ 7 < (K : Int)) := by have := HKL.out; omega
                clear hbad
                rcases hbad' with h1 | ⟨h1, h2⟩ | ⟨h1, h2, h3⟩
                all_goals
                  go_wp2_with fail
                  with_reducible refine (K2.out _).mono ?_
                  rintro e w' ⟨rfl, rfl⟩
                  go_wp2
                  all_goals exact bodyPost_ret (v := rve (0, 0, 2)) (by simp [results, Tryd.results11, go_sem, rve]) rfl ⟨by rw [hE.out], HB0.out⟩
              · rw [if_neg (by simp; omega), if_pos rfl] at hR2
                have hKr : K = r.length := by omega
                have hallr2 : ∀ c ∈ r, isD c = true := by
                  have := HALL.out
                  rw [List.take_of_length_le (by omega)] at this
                  exact this
                have hRTs : RT.size = r.length := by rw [← HRR.out, Array.length_toList]; rfl
                have hk1 : 1 ≤ (K : Int) := by omega
                have hk2 : ¬ 1 + (K : Int) < T.size := by have := HKL.out; omega
                have hk3 : (K : Int) ≤ 7 := by omega
                have kd := fun w => rvalue_any RT w (by omega) (by rw [HRR.out]; exact hallr2)
                rw [HRR.out] at kd
                obtain ⟨db1, db2⟩ := valC_bounds r hallr2
                generalize valC 0 r = DV at *
                have KD := Lib.hid kd
                clear kd hallr2 hbad c47 HALL
                by_cases hD0 : DV = 0
                · rw [if_pos hD0] at hR2
                  have hE := Lib.hid hR2.symm
                  subst hD0
                  clear hR2
                  go_wp2_with fail
                  with_reducible refine (K2.out _).mono ?_
                  rintro e w' ⟨rfl, rfl⟩
                  go_wp2_with fail
                  with_reducible refine (KD.out _).mono ?_
                  rintro e w' ⟨rfl, rfl⟩
                  go_wp2
                  all_goals exact bodyPost_ret (v := rve (0, 0, 1)) (by simp [results, Tryd.results11, go_sem, rve]) rfl ⟨by rw [hE.out], HB0.out⟩
                · rw [if_neg hD0] at hR2
                  have HR2 := Lib.hid hR2
                  have hDb : (DV == 0) = false := by simpa using hD0
                  have HDG := Lib.hid hdg0
                  clear hR2 hdg0
                  go_wp2_with fail
                  with_reducible refine (K2.out _).mono ?_
                  rintro e w' ⟨rfl, rfl⟩
                  go_wp2_with fail
                  with_reducible refine (KD.out _).mono ?_
                  rintro e w' ⟨rfl, rfl⟩
                  have hR3 := HR2.out
                  have kv := fun w => rvalue_any WH w (by omega) (by rw [HWH.out]; exact HDG.out)
                  rw [HWH.out] at kv
                  obtain ⟨vb1, vb2⟩ := valC_bounds (s.data.toList.take C) HDG.out
                  generalize valC 0 (s.data.toList.take C) = V at *
                  have KV := Lib.hid kv
                  clear kv
                  by_cases hV : 4600000000000000000 ≤ V
                  · rw [if_pos hV] at hR3
                    have hE := Lib.hid hR3.symm
                    clear hR3
                    go_wp2_with fail
                    with_reducible refine (KV.out _).mono ?_
                    rintro e w' ⟨rfl, rfl⟩
                    go_wp2
                    all_goals exact bodyPost_ret (v := rve (0, 0, 5)) (by simp [results, Tryd.results11, go_sem, rve]) rfl ⟨by rw [hE.out], HB0.out⟩
                  · rw [if_neg hV] at hR3
                    have hV2 : V < 4600000000000000000 := by omega
                    have ko := fun w => of_any (V) (DV) w (by omega) (by omega) (by omega)
                    rw [Int.one_mul] at hR3
                    rw [hR3] at ko
                    have KO := Lib.hid ko
                    clear hR3 ko hV
                    go_wp2_with fail
                    with_reducible refine (KV.out _).mono ?_
                    rintro e w' ⟨rfl, rfl⟩
                    go_wp2_with fail
                    with_reducible refine (KO.out _).mono ?_
                    rintro e w1 ⟨rfl, hB1⟩
                    obtain ⟨hc0, hc1, hf0, hf1, hz⟩ := box_r hB1
                    have HB1 := Lib.hid (HB0.out.trans (hB1.mono HB0.out.size))
                    clear hB1
                    unfold rve
                    go_wp2
                    exact bodyPost_ret (v := rve R) (by simp [results, Tryd.results11, go_sem, hc0, hc1, rve]) rfl ⟨rfl, (HB1.out.setCell (p := ⟨w.heap.size, 0, none⟩) (Nat.le_refl _) _).setCell (p := ⟨w.heap.size, 1, none⟩) (Nat.le_refl _) _⟩
            · by_cases c46 : T[0] = 46
              · have hc : (T[0].toNat : Int) = 46 := by rw [c46]; rfl
                rw [c46] at hR2
                by_cases hbad : K < 1 ∨ K < r.length ∨ 6 < K
                · rw [if_pos (by rcases hbad with h | h | h; (· exact .inr (.inl h)); (· exact .inr (.inr (.inl h))); (· exact .inr (.inr (.inr (.inr ⟨by decide, h⟩))))) ] at hR2
                  have hE := Lib.hid hR2.symm
                  clear hR2 c46 c47
                  have hbad' : (K : Int) < 1 ∨ (1 ≤ (K : Int) ∧ 1 + (K : Int) < T.size) ∨ (1 ≤ (K : Int) ∧ ¬ 1 + (K : Int) < T.size ∧ 6 < (K : Int)) := by have := HKL.out; omega
                  clear hbad
                  rcases hbad' with h1 | ⟨h1, h2⟩ | ⟨h1, h2, h3⟩
                  all_goals
                    go_wp2_with fail
                    with_reducible refine (K2.out _).mono ?_
                    rintro e w' ⟨rfl, rfl⟩
                    go_wp2
                    all_goals exact bodyPost_ret (v := rve (0, 0, 2)) (by simp [results, Tryd.results11, go_sem, rve]) rfl ⟨by rw [hE.out], HB0.out⟩
                · rw [if_neg (by simp; omega), if_neg (by decide)] at hR2
                  have hKr : K = r.length := by omega
                  have hallr2 : ∀ c ∈ r, isD c = true := by
                    have := HALL.out
                    rw [List.take_of_length_le (by omega)] at this
                    exact this
                  have hRTs : RT.size ≤ r.length := by rw [← HRR.out, Array.length_toList]; exact Nat.le_refl _
                  have hk1 : 1 ≤ (K : Int) := by omega
                  have hk2 : ¬ 1 + (K : Int) < T.size := by have := HKL.out; omega
                  have hk3 : (K : Int) ≤ 6 := by omega
                  have hxd : (WH ++ RT).data.toList = s.data.toList.take C ++ r := by rw [ByteArray.data_append, Array.toList_append, HWH.out, HRR.out]
                  have hxs : (WH ++ RT).size ≤ 1000 := by rw [ByteArray.size_append]; omega
                  have hdg1 : ∀ c ∈ s.data.toList.take C ++ r, isD c = true := fun d hd => by
                    rcases List.mem_append.1 hd with h | h
                    · exact hdg0 d h
                    · exact hallr2 d h
                  generalize hX : WH ++ RT = WX at *
                  have HWX := Lib.hid hxd
                  have HDG := Lib.hid hdg1
                  have HR2 := Lib.hid hR2
                  clear hR2 c46 c47 hbad hallr2 hdg0 hdg1 hxd HALL
                  go_wp2_with fail
                  with_reducible refine (K2.out _).mono ?_
                  rintro e w' ⟨rfl, rfl⟩
                  go_wp2
                  go_loop [8, 11] (fun y x => ∃ (i : Nat) (p : Int), x = .int .i64 i ∧ y = .int .i64 p ∧ i ≤ K ∧ 1 ≤ p ∧ p ≤ 1000000 ∧ Hid (p = 10 ^ i)) (fun _ x => K - (intOf x).toNat)
                  case atStart => exact ⟨0, 1, rfl, rfl, Nat.zero_le _, by omega, by omega, rfl⟩
                  case round =>
                    obtain ⟨i, p, rfl, rfl, hi, hp1, hp2, hp⟩ := hrel
                    by_cases hlt : i < K
                    · have hii : (i : Int) < K := by omega
                      have hp3 : p ≤ 100000 := by
                        rw [hp.out]
                        have := pow_le10 (show i ≤ 5 by omega)
                        have h105 : (10 : Int) ^ 5 = 100000 := by decide
                        omega
                      have HP := Lib.hid (show 10 * p = 10 ^ (i + 1) by rw [hp.out, Int.pow_succ, Int.mul_comm])
                      clear hp
                      go_wp2
                      go_round
                      case rel => exact ⟨i + 1, 10 * p, by go_num, rfl, by omega, by omega, by omega, HP⟩
                      case measure => simp [intOf]; omega
                    · have hiK : i = K := by omega
                      have hii : (K : Int) ≤ (i : Int) := by omega
                      have hR4 := HR2.out
                      rw [← hiK, ← hp.out] at hR4
                      replace HR2 := Lib.hid hR4
                      have hpz : (p == 0) = false := by simp; omega
                      clear hR4 hiK hp hlt
                      have hR3 := HR2.out
                      have kv := fun w => rvalue_any WX w (by omega) (by rw [HWX.out]; exact HDG.out)
                      rw [HWX.out] at kv
                      obtain ⟨vb1, vb2⟩ := valC_bounds (s.data.toList.take C ++ r) HDG.out
                      generalize valC 0 (s.data.toList.take C ++ r) = V at *
                      have KV := Lib.hid kv
                      clear kv
                      by_cases hV : 4600000000000000000 ≤ V
                      · rw [if_pos hV] at hR3
                        have hE := Lib.hid hR3.symm
                        clear hR3
                        go_wp2_with fail
                        with_reducible refine (KV.out _).mono ?_
                        rintro e w' ⟨rfl, rfl⟩
                        go_wp2
                        all_goals exact bodyPost_ret (v := rve (0, 0, 5)) (by simp [results, Tryd.results11, go_sem, rve]) rfl ⟨by rw [hE.out], HB0.out⟩
                      · rw [if_neg hV] at hR3
                        have hV2 : V < 4600000000000000000 := by omega
                        have ko := fun w => of_any (V) (p) w (by omega) (by omega) (by omega)
                        rw [Int.one_mul] at hR3
                        rw [hR3] at ko
                        have KO := Lib.hid ko
                        clear hR3 ko hV
                        go_wp2_with fail
                        with_reducible refine (KV.out _).mono ?_
                        rintro e w' ⟨rfl, rfl⟩
                        go_wp2_with fail
                        with_reducible refine (KO.out _).mono ?_
                        rintro e w1 ⟨rfl, hB1⟩
                        obtain ⟨hc0, hc1, hf0, hf1, hz⟩ := box_r hB1
                        have HB1 := Lib.hid (HB0.out.trans (hB1.mono HB0.out.size))
                        clear hB1
                        unfold rve
                        go_wp2
                        exact bodyPost_ret (v := rve R) (by simp [results, Tryd.results11, go_sem, hc0, hc1, rve]) rfl ⟨rfl, (HB1.out.setCell (p := ⟨w.heap.size, 0, none⟩) (Nat.le_refl _) _).setCell (p := ⟨w.heap.size, 1, none⟩) (Nat.le_refl _) _⟩
              · rw [if_pos (.inl ⟨c46, c47⟩)] at hR2
                have hE := Lib.hid hR2.symm
                have n46 : ((T[0].toNat : Int) == 46) = false := by
                  simp only [beq_eq_false_iff_ne]
                  intro h
                  exact c46 (UInt8.toNat_inj.1 (by rw [show (46 : UInt8).toNat = 46 from rfl]; omega))
                have n47 : ((T[0].toNat : Int) == 47) = false := by
                  simp only [beq_eq_false_iff_ne]
                  intro h
                  exact c47 (UInt8.toNat_inj.1 (by rw [show (47 : UInt8).toNat = 47 from rfl]; omega))
                have n46' : ((T[0].toNat : Int) != 46) = true := by simp [bne, n46]
                clear hR2 c46 c47
                go_wp2_with fail
                with_reducible refine (K2.out _).mono ?_
                rintro e w' ⟨rfl, rfl⟩
                go_wp2
                all_goals exact bodyPost_ret (v := rve (0, 0, 2)) (by simp [results, Tryd.results11, go_sem, rve]) rfl ⟨by rw [hE.out], HB0.out⟩
    · have hz : s.size = 0 := by omega
      have hnil : s.data.toList = [] := List.eq_nil_of_length_eq_zero (by rw [hlen]; exact hz)
      rw [hnil] at hR k1
      have hE := Lib.hid (show R = (0, 0, 2) from hR.symm)
      have hzi : ¬ (0 : Int) < (s.size : Int) := by omega
      have K1 := Lib.hid k1
      clear hR k1 hnil h45 hcl hlen
      go_enter Tryd.func11, Tryd.ntmps11
      go_wp2_with fail
      refine (K1.out _).mono ?_
      rintro e w' ⟨rfl, rfl⟩
      go_wp2
      all_goals exact bodyPost_ret (v := rve (0, 0, 2)) (by simp [results, Tryd.results11, go_sem, rve]) rfl ⟨by rw [hE.out], HB0.out⟩

end Go.Proofs.YtloddocibfbkpaaDoor
