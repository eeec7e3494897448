/- The reference of taxon: known, ordered, Is, Up, Down. -/
import Derived.Test.YtidnllddhhllcaaRefa
namespace Go.Proofs.Ytidnllddhhllcaa
open Go.RowKit Go.Shelf

set_option maxHeartbeats 4000000 in
set_option maxRecDepth 100000 in
theorem known_any (pv sv : Value) (P : List (List Int)) (zs : List Int) (w : World) (hL : LE w pv P) (hl : Els .i64 w sv zs) (hlen : zs.length ≤ 1000) :
    Calls Try.prog 44 #[pv, sv] w fun e w' => e = .returned (.bool (allB P.length zs)) ∧ w = w' := by
  obtain ⟨pa, pc, rfl⟩ := LIn.shape hL
  obtain ⟨a, cap, rfl⟩ := hl.shape
  have HE := Lib.hid hl
  generalize hB : allB P.length zs = B at *
  generalize hP : P.length = n at *
  generalize hm : zs.length = m at *
  have HBB := Lib.hid hB
  have HM := Lib.hid hm
  clear hL hl hB hP hm
  go_enter Try.func44, Try.ntmps44
  go_wp2
  go_loopw [5] (fun i wr => ∃ k : Nat, k ≤ m ∧ i = .int .i64 k ∧ Hid ((zs.take k).all (clsB n) = true) ∧ wr = w) (fun i _ => m - (intOf i).toNat)
  case atStart => exact ⟨0, Nat.zero_le _, rfl, rfl, rfl⟩
  case round =>
    obtain ⟨k, hk, rfl, hF, rfl⟩ := hrel
    by_cases hlt : k < m
    · have hki : (k : Int) < m := by omega
      obtain ⟨b, off, he, hcl⟩ := HE.out.at k hlt
      subst he
      have hgk : zs[k]? = some (zs[k]?.getD 0) := by rw [List.getElem?_eq_getElem (by rw [HM.out]; exact hlt)]; rfl
      generalize zs[k]?.getD 0 = z at *
      have hsn : (zs.take (k + 1)).all (clsB n) = clsB n z := by
        rw [List.take_add_one, hgk, List.all_append, hF.out]; simp
      have hno : clsB n z = false → allB n zs = false := fun h => by
        refine Bool.eq_false_iff.2 fun hh => ?_
        rw [List.all_eq_true.1 hh z (List.mem_of_getElem? hgk)] at h
        cases h
      have HSN := Lib.hid hsn
      have HNO := Lib.hid hno
      clear hgk hsn hno
      by_cases h0 : z < 0
      · have hd : decide (z < 0) = true := decide_eq_true h0
        have hf : clsB n z = false := decide_eq_false (by omega)
        have HF2 := Lib.hid ((HNO.out hf).symm.trans HBB.out)
        clear hf
        go_wp2
        go_ret
        exact ⟨ret_bool HF2.out, rfl⟩
      · have hd : decide (z < 0) = false := decide_eq_false h0
        by_cases h1 : (n : Int) ≤ z
        · have hd2 : decide (z ≥ (n : Int)) = true := decide_eq_true h1
          have hf : clsB n z = false := decide_eq_false (by omega)
          have HF2 := Lib.hid ((HNO.out hf).symm.trans HBB.out)
          clear hf
          go_wp2
          go_ret
          exact ⟨ret_bool HF2.out, rfl⟩
        · have hd2 : decide (z ≥ (n : Int)) = false := decide_eq_false h1
          have HT := Lib.hid (HSN.out.trans (decide_eq_true ⟨by omega, by omega⟩))
          go_wp2
          go_roundw
          case rel => exact ⟨k + 1, by omega, by go_num, HT, by first | rfl | trivial⟩
          case measure => simp [intOf]; omega
    · have hki : ¬ (k : Int) < m := by omega
      have hall : B = true := by
        have := hF.out
        rw [List.take_of_length_le (by rw [HM.out]; omega)] at this
        rw [← HBB.out]; exact this
      have HAL := Lib.hid hall
      clear hall
      go_wp2
      go_ret
      exact ⟨ret_bool HAL.out.symm, rfl⟩

set_option maxHeartbeats 4000000 in
set_option maxRecDepth 100000 in
theorem ordered_any (sv : Value) (L : List Int) (n : Nat) (w : World) (hl : Els .i64 w sv L) (hlen : L.length ≤ 100000) (hn : n ≤ 100000) :
    Calls Try.prog 47 #[sv, .int .i64 (n : Int)] w (Makes .i64 3 (ones (fun d => hasB L (d : Int)) n) w) := by
  have k1 := fun (W : World) (hB : Below w.heap.size w W) (x : Int) => has_any sv L x W (hl.below hB) hlen
  have K1 := Lib.hid k1
  have HI0 := Lib.hid Try.infoI64
  obtain ⟨a, cap, rfl⟩ := hl.shape
  clear k1 hl
  go_enter Try.func47, Try.ntmps47
  go_wp2
  go_loopw [5, 6] (fun v i wr => ∃ k : Nat, k ≤ n ∧ i = .int .i64 k ∧ ∃ ao no co, v = .slice ao no co ∧ Hid (no = (ones (fun d => hasB L (d : Int)) k).length) ∧ Hid (Own .i64 3 w.heap.size wr (.slice ao no co) (ones (fun d => hasB L (d : Int)) k)) ∧ Hid (Below w.heap.size w wr)) (fun _ i _ => n - (intOf i).toNat)
  case atStart => exact ⟨0, Nat.zero_le _, rfl, none, 0, 0, rfl, rfl, Lib.hid (World.ownsRow_nil _ _ _ _), Lib.hid (Below.refl _ _)⟩
  case round =>
    obtain ⟨k, hk, rfl, ao, no, co, rfl, hno, hO, hB⟩ := hrel
    by_cases hlt : k < n
    · have hki : (k : Int) < n := by omega
      have k2 := K1.out wr hB.out (k : Int)
      have hs := ones_succ (fun d => hasB L (d : Int)) k
      have hle := ones_len (fun d => hasB L (d : Int)) k
      generalize hI : hasB L (k : Int) = I at *
      have HS := Lib.hid hs
      have K2 := Lib.hid k2
      have HII := Lib.hid hI
      clear hs k2 hI
      cases I
      case true =>
        go_wp2_with fail
        refine (K2.out).mono ?_
        rintro e w' ⟨rfl, rfl⟩
        go_wp2_with (at_builtin; refine push_own rfl _ _ 22 rfl .i64 3 8 Try.underlying22 HI0.out (by decide) w.heap.size (.slice ao no co) (ones (fun d => hasB L (d : Int)) k) _ _ rfl rfl hO.out hB.out.size (by omega) ?_; intro a2 n2 c2 w2 hn2 hO2 hB2)
        go_roundw
        case rel => exact ⟨k + 1, by omega, by go_num, a2, n2, c2, rfl, Lib.hid (by rw [HS.out, if_pos (by first | rfl | exact HII.out | trivial), List.length_append, hn2.out]; rfl), Lib.hid (by rw [HS.out, if_pos (by first | rfl | exact HII.out | trivial)]; exact hO2.out), Lib.hid (hB.out.trans hB2.out)⟩
        case measure => simp [intOf]; omega
      case false =>
        go_wp2_with fail
        refine (K2.out).mono ?_
        rintro e w' ⟨rfl, rfl⟩
        go_wp2
        go_roundw
        case rel => exact ⟨k + 1, by omega, by go_num, ao, no, co, rfl, Lib.hid (by rw [HS.out, if_neg (by first | (intro h; cases h; done) | (rw [HII.out]; decide)), List.append_nil]; exact hno.out), Lib.hid (by rw [HS.out, if_neg (by first | (intro h; cases h; done) | (rw [HII.out]; decide)), List.append_nil]; exact hO.out), hB⟩
        case measure => simp [intOf]; omega
    · have hki : ¬ (k : Int) < n := by omega
      have hkn : k = n := by omega
      rw [hkn] at hno hO
      clear hkn
      go_wp2
      go_ret
      exact ⟨ao, no, co, rfl, hno, hO, hB⟩

/-- Bits that are not there. -/
theorem ones_cut {f g : Nat → Bool} {n : Nat} (hn : n ≤ 64) (h : ∀ d, d < n → f d = g d) (h2 : ∀ d, n ≤ d → g d = false) : ones f n = ones g 64 := by
  have : ∀ m, ones g (n + m) = ones g n := fun m => by
    induction m with
    | zero => rfl
    | succ m ih => rw [← Nat.add_assoc, ones_succ, if_neg (by rw [h2 _ (by omega)]; decide), List.append_nil, ih]
  rw [show 64 = n + (64 - n) by omega, this, ones_ext h]

theorem any_out {P : List (List Int)} {zs : List Int} (ok : Tx.okAll P.length P = true) (h : allB P.length zs = true) {d : Nat} (hd : P.length ≤ d) : anyB (Tx.inh P) zs d = false := by
  rw [← Bool.not_eq_true, anyB_iff]
  rintro ⟨x, hx, hi⟩
  have := (Tx.inh_eq.1 hi).lt ok (gB_lt h hx)
  omega

set_option maxHeartbeats 4000000 in
set_option maxRecDepth 100000 in
theorem ris_any (pv : Value) (P : List (List Int)) (c d : Int) (w : World) (hL : LE w pv P) (hg : Tx.Good P) (hsh : ∀ c, (Tx.row P c).length ≤ 100000) :
    Calls Try.prog 20 #[pv, .int .i64 c, .int .i64 d] w fun e w' => e = .returned (.bool (isB P c d)) ∧ Below w.heap.size w w' := by
  obtain ⟨pa, pc, rfl⟩ := LIn.shape hL
  by_cases hc : 0 ≤ c ∧ c < P.length
  · by_cases hd : 0 ≤ d ∧ d < P.length
    · obtain ⟨x, rfl⟩ := Int.eq_ofNat_of_zero_le hc.1
      obtain ⟨y, rfl⟩ := Int.eq_ofNat_of_zero_le hd.1
      have hx : x < P.length := by omega
      have hy : y < P.length := by omega
      rw [isB_nat hx hy]
      have hbl := (Below.refl w.heap.size w).alloc (Nat.le_refl _) (.cells #[.int .i64 (x : Int)] 3)
      have k1 := Lib.hid (reach_any _ _ P [(x : Int)] _ (LE.below hbl hL) (lit_ints w [(x : Int)] _ _ rfl rfl) (fun z hz => by simp at hz; subst hz; exact hc) (by simp) hg.len hg.ok hsh)
      have HBL := Lib.hid hbl
      have hn := hg.len
      have h1 : decide ((x : Int) ≥ 0) = true := decide_eq_true hc.1
      have h2 : decide ((x : Int) < (P.length : Int)) = true := decide_eq_true hc.2
      have h3 : decide ((y : Int) ≥ 0) = true := decide_eq_true hd.1
      have h4 : decide ((y : Int) < (P.length : Int)) = true := decide_eq_true hd.2
      generalize hI : Tx.inh P x y = I at *
      have HI := Lib.hid hI
      clear hL hg hsh hbl hc hd hI
      go_enter Try.func20, Try.ntmps20
      go_wp2_with fail
      refine (k1.out).mono ?_
      rintro e w1 ⟨L, hL1, hL2, hL3, a2, n2, c2, rfl, HN2, O2, B2⟩
      have k2 := has_any _ L (y : Int) w1 O2.out.els (by simp at hL3; omega)
      have hq : hasB L (y : Int) = I := by
        rw [hL1 y]
        unfold anyB
        rw [List.any_cons, List.any_nil, Bool.or_false]
        exact HI.out
      rw [hq] at k2
      have K2 := Lib.hid k2
      have HB2 := Lib.hid (Since.step HBL.out B2.out)
      clear hL1 hL2 hL3 k2 hq O2 B2
      go_wp2_with fail
      refine (K2.out).mono ?_
      rintro e w' ⟨rfl, rfl⟩
      go_wp2
      go_ret
      exact ⟨rfl, HB2.out⟩
    · have e : isB P c d = false := by unfold isB clsB; rw [decide_eq_false hd]; simp
      rw [e]
      have h1 : decide (c ≥ 0) = true := decide_eq_true hc.1
      have h2 : decide (c < (P.length : Int)) = true := decide_eq_true hc.2
      clear hL hg hsh e
      by_cases h0 : 0 ≤ d
      · have h3 : decide (d ≥ 0) = true := decide_eq_true h0
        have h4 : decide (d < (P.length : Int)) = false := decide_eq_false (fun h => hd ⟨h0, h⟩)
        clear hc hd h0
        go_enter Try.func20, Try.ntmps20
        go_wp2
        go_ret
        exact ⟨rfl, Below.refl _ _⟩
      · have h3 : decide (d ≥ 0) = false := decide_eq_false h0
        clear hc hd h0
        go_enter Try.func20, Try.ntmps20
        go_wp2
        go_ret
        exact ⟨rfl, Below.refl _ _⟩
  · have e : isB P c d = false := by unfold isB clsB; rw [decide_eq_false hc]; simp
    rw [e]
    clear hL hg hsh e
    by_cases h0 : 0 ≤ c
    · have h3 : decide (c ≥ 0) = true := decide_eq_true h0
      have h4 : decide (c < (P.length : Int)) = false := decide_eq_false (fun h => hc ⟨h0, h⟩)
      clear hc h0
      go_enter Try.func20, Try.ntmps20
      go_wp2
      go_ret
      exact ⟨rfl, Below.refl _ _⟩
    · have h3 : decide (c ≥ 0) = false := decide_eq_false h0
      clear hc h0
      go_enter Try.func20, Try.ntmps20
      go_wp2
      go_ret
      exact ⟨rfl, Below.refl _ _⟩

set_option maxHeartbeats 4000000 in
set_option maxRecDepth 100000 in
theorem rup_any (pv sv : Value) (P : List (List Int)) (zs : List Int) (w : World) (hL : LE w pv P) (hl : Els .i64 w sv zs) (hlen : zs.length ≤ 1000) (hg : Tx.Good P) (hsh : ∀ c, (Tx.row P c).length ≤ 100000) :
    Calls Try.prog 26 #[pv, sv] w (MakesE (upL P zs) (noneE P.length zs) w) := by
  have k1 := known_any pv sv P zs w hL hl hlen
  obtain ⟨pa, pc, rfl⟩ := LIn.shape hL
  by_cases ha : allB P.length zs = true
  · have k2 := Lib.hid (reach_any _ _ P zs w hL hl (allB_mem ha) hlen hg.len hg.ok hsh)
    have hup := upL_eq ha
    have hne : noneE P.length zs = 0 := if_pos ha
    have hout := fun d hd => any_out hg.ok ha (d := d) hd
    rw [hne, hup]
    rw [ha] at k1
    have K1 := Lib.hid k1
    have HOUT := Lib.hid hout
    have h64 := hg.len
    clear k1 hup hne hout ha hl hL hsh hg
    go_enter Try.func26, Try.ntmps26
    go_wp2_with fail
    refine (K1.out).mono ?_
    rintro e w' ⟨rfl, rfl⟩
    go_wp2_with fail
    refine (k2.out).mono ?_
    rintro e w1 ⟨L, hL1, hL2, hL3, a2, n2, c2, rfl, HN2, O2, B2⟩
    have k3 := ordered_any _ L P.length w1 O2.out.els (by omega) (by omega)
    rw [ones_cut h64 (fun d _ => hL1 d) HOUT.out] at k3
    have K3 := Lib.hid k3
    clear k3 hL1 hL2 hL3 O2
    go_wp2_with fail
    refine (K3.out).mono ?_
    rintro e w2 ⟨a3, n3, c3, rfl, HN3, O3, B3⟩
    go_wp2
    go_ret2
    exact ⟨a3, n3, c3, rfl, HN3, Lib.hid (own_base O3.out B2.out.size), Lib.hid (Since.step B2.out B3.out)⟩
  · have ha' : allB P.length zs = false := by simpa using ha
    have hup : upL P zs = [] := by unfold upL; exact if_neg ha
    have hne : noneE P.length zs = 7 := if_neg ha
    rw [hne, hup]
    rw [ha'] at k1
    have K1 := Lib.hid k1
    clear k1 hup hne ha ha' hl hL hsh hg
    go_enter Try.func26, Try.ntmps26
    go_wp2_with fail
    refine (K1.out).mono ?_
    rintro e w' ⟨rfl, rfl⟩
    go_wp2
    go_ret2
    exact ⟨none, 0, 0, rfl, rfl, Lib.hid (World.ownsRow_nil _ _ _ _), Lib.hid (Below.refl _ _)⟩

end Go.Proofs.Ytidnllddhhllcaa
