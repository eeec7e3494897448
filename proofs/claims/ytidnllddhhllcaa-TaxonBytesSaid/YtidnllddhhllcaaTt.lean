/- The reference of taxon: Check, Same; Parents of package taxon. -/
import Derived.Test.YtidnllddhhllcaaTs
namespace Go.Proofs.Ytidnllddhhllcaa
open Go.RowKit Go.Shelf

theorem okB_last {n : Nat} : ∀ (l : List Int) (last x : Int), Tx.okB n last (l ++ [x]) = (Tx.okB n last l && decide (l.getLastD last < x ∧ x < n))
  | [], last, x => by
    rw [List.nil_append]
    unfold Tx.okB
    by_cases h : x ≤ last ∨ (n : Int) ≤ x
    · rw [if_pos h, decide_eq_false (by simp; omega)]; rfl
    · rw [if_neg h, decide_eq_true (by simp; omega)]; rfl
  | y :: ys, last, x => by
    rw [List.cons_append]
    unfold Tx.okB
    by_cases h : y ≤ last ∨ (n : Int) ≤ y
    · rw [if_pos h, if_pos h]; rfl
    · rw [if_neg h, if_neg h, okB_last ys y x, List.getLastD_cons]

theorem okB_pre {n : Nat} : ∀ (l r : List Int) (last : Int), Tx.okB n last (l ++ r) = true → Tx.okB n last l = true
  | [], _, _, _ => rfl
  | y :: ys, r, last, h => by
    rw [List.cons_append] at h
    unfold Tx.okB at h ⊢
    split at h
    · cases h
    · next hy => rw [if_neg hy]; exact okB_pre ys r y h

theorem genP_ok {m : Nat} {P : List (List Int)} (h : GenP m P) : ∀ l ∈ P, RowOK m l := fun l hl => ⟨h.short l hl, fun z hz => by
  have := Tx.okB_mem (List.all_eq_true.1 h.good.ok l hl) z hz
  have := h.good.len
  exact wf_range (by omega)⟩

/-- What Check looks at. -/
def badB (n : Nat) (R : List Int) (j : Nat) (c : Int) : Bool := decide (c < 0) || decide (c ≥ n) || (decide (0 < j) && decide (c ≤ R[j - 1]?.getD 0))

theorem ok_take {n j : Nat} {R : List Int} (hj : j < R.length) (h : Tx.okB n (-1) (R.take j) = true) : Tx.okB n (-1) (R.take (j + 1)) = !badB n R j (R[j]?.getD 0) := by
  rw [List.take_add_one, List.getElem?_eq_getElem hj, Option.toList_some, okB_last, h, Bool.true_and, Option.getD_some]
  generalize R[j] = c
  unfold badB
  cases j with
  | zero =>
    rw [List.take_zero, List.getLastD_nil]
    by_cases h0 : c < 0
    · rw [decide_eq_true h0, decide_eq_false (by omega)]; rfl
    · by_cases h1 : (n : Int) ≤ c
      · rw [decide_eq_false h0, decide_eq_true (show c ≥ (n : Int) from h1), decide_eq_false (by omega)]; rfl
      · rw [decide_eq_false h0, decide_eq_false (show ¬ c ≥ (n : Int) from h1), decide_eq_true (by omega)]; rfl
  | succ j =>
    have hl : (R.take (j + 1)).getLastD (-1) = R[j]?.getD 0 := by
      rw [List.take_add_one, List.getElem?_eq_getElem (by omega), Option.toList_some, List.getLastD_concat, Option.getD_some]
    have hm := Tx.okB_mem h (R[j]?.getD 0) (by
      have e : R[j]? = some (R[j]?.getD 0) := by rw [List.getElem?_eq_getElem (by omega)]; rfl
      rw [List.take_add_one]
      exact List.mem_append_right _ (by rw [e]; simp))
    rw [hl]
    rw [Nat.add_sub_cancel]
    generalize R[j]?.getD 0 = y at *
    apply Bool.eq_iff_iff.2
    simp
    omega

theorem bad_not {n j : Nat} {R : List Int} (hj : j < R.length) (h : Tx.okB n (-1) (R.take j) = true) (hb : badB n R j (R[j]?.getD 0) = true) : Tx.okB n (-1) R = false := by
  refine Bool.eq_false_iff.2 fun hh => ?_
  have := ok_take hj h
  rw [hb] at this
  have h2 := okB_pre (R.take (j + 1)) (R.drop (j + 1)) (-1) (by rw [List.take_append_drop]; exact hh)
  rw [h2] at this
  cases this

theorem newE_arg {P : List (List Int)} {i : Nat} (h64 : P.length ≤ 64) (hi : i < P.length) (h : Tx.okB P.length (-1) (Tx.row P i) = false) : Tx.newE P = 1 := by
  have : Tx.okAll P.length P = false := by
    refine Bool.eq_false_iff.2 fun hh => ?_
    have := List.all_eq_true.1 hh P[i] (List.getElem_mem hi)
    have e : Tx.row P i = P[i] := by unfold Tx.row; rw [List.getElem?_eq_getElem hi]; rfl
    rw [e, this] at h
    cases h
  unfold Tx.newE
  rw [if_neg (by omega), if_pos this]

theorem newE_cyc {P : List (List Int)} (h64 : P.length ≤ 64) (hok : Tx.okAll P.length P = true) (h : Tx.Cyc P) : Tx.newE P = 9 := by
  unfold Tx.newE
  rw [if_neg (by omega), if_neg (by rw [hok]; decide)]
  exact @if_pos _ (Classical.propDecidable _) h _ _ _

/-- A class is met again above its parents. -/
noncomputable def loopB (P : List (List Int)) (i : Nat) : Bool := anyB (Tx.inh P) (Tx.row P i) i

theorem loop_cyc {P : List (List Int)} (hok : Tx.okAll P.length P = true) {i : Nat} (h : loopB P i = true) : Tx.Cyc P := by
  unfold loopB at h
  obtain ⟨x, hx, hi⟩ := anyB_iff.1 h
  obtain ⟨z, hz, rfl⟩ := gB_iff.1 hx
  have := Tx.ok_row hok hz
  exact ⟨i, z.toNat, by rw [show ((z.toNat : Nat) : Int) = z by omega]; exact hz, Tx.inh_eq.1 hi⟩

theorem no_loop {P : List (List Int)} (h : ∀ i, i < P.length → loopB P i = false) : ¬ Tx.Cyc P := by
  rintro ⟨c, p, hp, hi⟩
  have hc := Tx.row_lt hp
  have : loopB P c = true := by
    unfold loopB
    exact anyB_iff.2 ⟨p, gB_iff.2 ⟨(p : Int), hp, by simp⟩, Tx.inh_eq.2 hi⟩
  rw [h c hc] at this
  cases this

set_option maxHeartbeats 8000000 in
set_option maxRecDepth 100000 in
theorem rcheck_any (pv : Value) (P : List (List Int)) (w : World) (hL : LE w pv P) (hP : P.length ≤ 100000) (hsh : ∀ l ∈ P, l.length ≤ 1000) :
    Calls Try.prog 13 #[pv] w fun e w' => e = .returned (.int .i64 (Tx.newE P)) ∧ Below w.heap.size w w' := by
  obtain ⟨pa, pc, rfl⟩ := LIn.shape hL
  by_cases hbig : 64 < P.length
  · have he : Tx.newE P = 4 := by unfold Tx.newE; exact if_pos hbig
    rw [he]
    have hbi : decide ((P.length : Int) > 64) = true := decide_eq_true (by omega)
    clear hL hsh he hP hbig
    generalize P.length = n at *
    go_enter Try.func13, Try.ntmps13
    go_wp2
    go_ret
    exact ⟨rfl, Below.refl _ _⟩
  · have hbi : decide ((P.length : Int) > 64) = false := decide_eq_false (by omega)
    have h64 : P.length ≤ 64 := by omega
    have harg := fun i (hi : i < P.length) h => newE_arg h64 hi h
    have hcy := fun hok h => newE_cyc h64 hok h
    have hzero := fun (hok : Tx.okAll P.length P = true) h => Tx.newE_ok.2 ⟨h64, hok, h⟩
    have hrow := row_le hsh
    have hreach := fun (sv : Value) (zs : List Int) (W : World) (hB : Below w.heap.size w W) (hl : Els .i64 W sv zs) (hz : ∀ z ∈ zs, 0 ≤ z ∧ z < P.length) (hlen : zs.length ≤ 1000) (hok : Tx.okAll P.length P = true) => reach_any _ sv P zs W (LE.below hB hL) hl hz hlen h64 hok (fun c => by have := hrow c; omega)
    have HLE := Lib.hid hL
    have HROW := Lib.hid hrow
    have HARG := Lib.hid harg
    have HCY := Lib.hid hcy
    have HZERO := Lib.hid hzero
    have HREACH := Lib.hid hreach
    generalize hE : Tx.newE P = E at *
    generalize hn : P.length = n at *
    have HN := Lib.hid hn
    have hn64 : n ≤ 64 := h64
    clear hL hsh hP hbig h64 harg hcy hzero hrow hreach hE hn
    go_enter Try.func13, Try.ntmps13
    go_wp2
    go_loopw [4] (fun i wr => ∃ k : Nat, k ≤ n ∧ i = .int .i64 k ∧ Hid ((P.take k).all (Tx.okB n (-1)) = true) ∧ wr = w) (fun i _ => n - (intOf i).toNat)
    case atStart => exact ⟨0, Nat.zero_le _, rfl, rfl, rfl⟩
    case round =>
      obtain ⟨k, hk, rfl, hok, rfl⟩ := hrel
      by_cases hlt : k < n
      · have hki : (k : Int) < n := by omega
        obtain ⟨b, aj, nj, cj, rfl, hrow, hER, hnj, -⟩ := LIn.at HLE.out k hlt
        have hsn : (P.take (k + 1)).all (Tx.okB n (-1)) = Tx.okB n (-1) (Tx.row P k) := by
          have hkP : k < P.length := by rw [HN.out]; exact hlt
          rw [List.take_add_one, List.all_append, hok.out, List.getElem?_eq_getElem hkP]
          unfold Tx.row
          rw [List.getElem?_eq_getElem hkP]
          simp
        have hfal := HARG.out k hlt
        have hr1 := HROW.out k
        have hEls := hER.els
        generalize Tx.row P k = R at *
        have HSN := Lib.hid hsn
        have HFA := Lib.hid hfal
        have HNJ := Lib.hid hnj
        have HEL := Lib.hid hEls
        have HRW := Lib.hid hrow
        have hnj2 : nj ≤ 1000 := by rw [hnj]; exact hr1
        clear hER hnj hsn hfal hEls hr1 hrow
        rename World => wo
        go_wp2
        go_loopw [5] (fun i wr => ∃ j : Nat, j ≤ nj ∧ i = .int .i64 j ∧ Hid (Tx.okB n (-1) (R.take j) = true) ∧ wr = wo) (fun i _ => nj - (intOf i).toNat)
        case atStart => exact ⟨0, Nat.zero_le _, rfl, rfl, by first | rfl | trivial⟩
        case round =>
          obtain ⟨j, hj, rfl, hpre, hw⟩ := hrel
          subst hw
          have hrow := HRW.out
          by_cases hlt2 : j < nj
          · have hji : (j : Int) < nj := by omega
            obtain ⟨b2, off2, he, hcz⟩ := HEL.out.at j hlt2
            subst he
            have hjR : j < R.length := by rw [← HNJ.out]; exact hlt2
            have hok2 := ok_take hjR hpre.out
            have hbad := fun h => HFA.out (bad_not hjR hpre.out h)
            generalize R[j]?.getD 0 = c at *
            have HOK2 := Lib.hid hok2
            have HBAD := Lib.hid hbad
            clear hok2 hbad
            by_cases h0 : c < 0
            · have hd : decide (c < 0) = true := decide_eq_true h0
              have hE := HBAD.out (by unfold badB; rw [hd]; rfl)
              subst hE
              go_wp2
              go_ret
              exact ⟨rfl, Below.refl _ _⟩
            · have hd : decide (c < 0) = false := decide_eq_false h0
              by_cases h1 : (n : Int) ≤ c
              · have hd2 : decide (c ≥ (n : Int)) = true := decide_eq_true h1
                have hE := HBAD.out (by unfold badB; rw [hd2]; simp)
                subst hE
                go_wp2
                go_ret
                exact ⟨rfl, Below.refl _ _⟩
              · have hd2 : decide (c ≥ (n : Int)) = false := decide_eq_false h1
                cases j with
                | zero =>
                  rw [Nat.add_zero] at hcz
                  have hq : Tx.okB n (-1) (R.take (0 + 1)) = true := by rw [HOK2.out]; unfold badB; rw [hd, hd2]; rfl
                  have HQ := Lib.hid hq
                  have hd3 : decide (((0 : Nat) : Int) > 0) = false := by decide
                  clear hq
                  go_wp2
                  go_roundw
                  case rel => exact ⟨1, by omega, by go_num, HQ, by first | rfl | trivial⟩
                  case measure => simp [intOf]; omega
                | succ j =>
                  have hd3 : decide (((j + 1 : Nat) : Int) > 0) = true := decide_eq_true (by omega)
                  have hej : ((j + 1 : Nat) : Int) - 1 = (j : Int) := by omega
                  obtain ⟨b3, off3, he, hcy⟩ := HEL.out.at j (by omega)
                  cases he
                  have HYE : Hid (R[j + 1 - 1]?.getD 0 = R[j]?.getD 0) := by show _ = _; rw [Nat.add_sub_cancel]
                  generalize R[j]?.getD 0 = y at *
                  by_cases hcy2 : c ≤ y
                  · have hd4 : decide (c ≤ y) = true := decide_eq_true hcy2
                    have hE := HBAD.out (by unfold badB; rw [HYE.out, hd4]; simp)
                    subst hE
                    go_wp2
                    go_ret
                    exact ⟨rfl, Below.refl _ _⟩
                  · have hd4 : decide (c ≤ y) = false := decide_eq_false hcy2
                    have hq : Tx.okB n (-1) (R.take (j + 1 + 1)) = true := by rw [HOK2.out]; unfold badB; rw [HYE.out, hd, hd2, hd4]; simp
                    have HQ := Lib.hid hq
                    clear hq
                    go_wp2
                    go_roundw
                    case rel => exact ⟨j + 1 + 1, by omega, by go_num, HQ, by first | rfl | trivial⟩
                    case measure => simp [intOf]; omega
          · have hji : ¬ (j : Int) < nj := by omega
            have hq : (P.take (k + 1)).all (Tx.okB n (-1)) = true := by
              rw [HSN.out]
              have := hpre.out
              rwa [List.take_of_length_le (by rw [← HNJ.out]; omega)] at this
            have HQ := Lib.hid hq
            clear hq
            go_wp2
            go_roundw
            case rel => exact ⟨k + 1, by omega, by go_num, HQ, by first | rfl | trivial⟩
            case measure => simp [intOf]; omega
      · have hki : ¬ (k : Int) < n := by omega
        have hall : Tx.okAll n P = true := by
          have := hok.out
          rwa [List.take_of_length_le (by rw [HN.out]; omega)] at this
        have HALL := Lib.hid hall
        clear hall hok
        rename World => wo
        go_wp2
        go_loopw [7] (fun i wr => ∃ k : Nat, k ≤ n ∧ i = .int .i64 k ∧ Hid (∀ q, q < k → loopB P q = false) ∧ Hid (Below wo.heap.size wo wr)) (fun i _ => n - (intOf i).toNat)
        case atStart => exact ⟨0, Nat.zero_le _, rfl, Lib.hid fun q hq => by omega, Lib.hid (Below.refl _ _)⟩
        case round =>
          obtain ⟨k, hk, rfl, hno, hB⟩ := hrel
          by_cases hlt : k < n
          · have hki : (k : Int) < n := by omega
            obtain ⟨b, aj, nj, cj, rfl, hrow, hER, hnj, -⟩ := LIn.at HLE.out k hlt
            have hrow2 := Since.cell hB.out hrow
            have hr1 := HROW.out k
            have k1 := HREACH.out (.slice aj nj cj) (Tx.row P k) wr hB.out (hER.els.below hB.out) (fun z hz => Tx.ok_row HALL.out hz) hr1 HALL.out
            have hcyc := fun h => HCY.out HALL.out (loop_cyc (by rw [HN.out]; exact HALL.out) (i := k) h)
            have hlb : loopB P k = anyB (Tx.inh P) (Tx.row P k) k := rfl
            generalize hl0 : loopB P k = lb at *
            have HL0 := Lib.hid hl0
            clear hl0
            have K1 := Lib.hid k1
            have HCYC := Lib.hid hcyc
            have HLB := Lib.hid hlb
            have HR1 := Lib.hid hr1
            clear hER hnj hrow hr1 k1 hcyc hlb
            go_wp2_with fail
            refine (K1.out).mono ?_
            rintro e w1 ⟨L, hL1, hL2, hL3, a2, n2, c2, rfl, HN2, O2, B2⟩
            have k2 := has_any _ L (k : Int) w1 O2.out.els (by have := HR1.out; have := HN.out; omega)
            rw [hL1 k, ← HLB.out] at k2
            have K2 := Lib.hid k2
            have HB2 := Lib.hid (Since.step hB.out B2.out)
            clear hL1 hL2 hL3 k2 O2 B2
            cases lb
            case true =>
              have hE := HCYC.out rfl
              subst hE
              go_wp2_with fail
              refine (K2.out).mono ?_
              rintro e w' ⟨rfl, rfl⟩
              go_wp2
              go_ret
              exact ⟨rfl, HB2.out⟩
            case false =>
              go_wp2_with fail
              refine (K2.out).mono ?_
              rintro e w' ⟨rfl, rfl⟩
              go_wp2
              go_roundw
              case rel => exact ⟨k + 1, by omega, by go_num, Lib.hid fun q hq => (by by_cases e : q = k; (· subst e; exact HL0.out); (· exact hno.out q (by omega))), HB2⟩
              case measure => simp [intOf]; omega
          · have hki : ¬ (k : Int) < n := by omega
            have hE := HZERO.out HALL.out (no_loop fun i hi => hno.out i (by rw [HN.out] at hi; omega))
            subst hE
            go_wp2
            go_ret
            exact ⟨rfl, hB.out⟩

set_option maxHeartbeats 4000000 in
set_option maxRecDepth 100000 in
theorem rsame_any (pv qv : Value) (P Q : List (List Int)) (w : World) (hp : LE w pv P) (hq : LE w qv Q) (hP : P.length ≤ 100000) (hsh : ∀ l ∈ P, l.length ≤ 1000) :
    Calls Try.prog 15 #[pv, qv] w fun e w' => e = .returned (.bool (decide (P = Q))) ∧ Below w.heap.size w w' := by
  obtain ⟨pa, pc, rfl⟩ := LIn.shape hp
  obtain ⟨qa, qc, rfl⟩ := LIn.shape hq
  by_cases hlen : P.length = Q.length
  · have hd : ((P.length : Int) != (Q.length : Int)) = false := by rw [hlen]; simp
    have hrow := row_le hsh
    have HPQ : Hid (∀ k, P.length ≤ k → (∀ q, q < k → Tx.row P q = Tx.row Q q) → decide (P = Q) = true) := fun k hk h => decide_eq_true (by
      apply List.ext_getElem hlen
      intro i h1 h2
      have := h i (by omega)
      unfold Tx.row at this
      rwa [List.getElem?_eq_getElem h1, List.getElem?_eq_getElem h2] at this)
    have HNE : Hid (∀ q, Tx.row P q ≠ Tx.row Q q → decide (P = Q) = false) := fun q h => decide_eq_false (fun e => h (by rw [e]))
    generalize decide (P = Q) = D at *
    have HLP := Lib.hid hp
    have HLQ := Lib.hid hq
    have HROW := Lib.hid hrow
    have hqn : Q.length = P.length := hlen.symm
    generalize hn : P.length = n at *
    have HN := Lib.hid hn
    have HQN := Lib.hid hqn
    rw [hqn] at HLQ hd
    rw [hqn]
    clear hp hq hrow hsh hn hqn hlen
    go_enter Try.func15, Try.ntmps15
    go_wp2
    go_loopw [5] (fun i wr => ∃ k : Nat, k ≤ n ∧ i = .int .i64 k ∧ Hid (∀ q, q < k → Tx.row P q = Tx.row Q q) ∧ Hid (Below w.heap.size w wr)) (fun i _ => n - (intOf i).toNat)
    case atStart => exact ⟨0, Nat.zero_le _, rfl, Lib.hid fun q hq => by omega, Lib.hid (Below.refl _ _)⟩
    case round =>
      obtain ⟨k, hk, rfl, heq, hB⟩ := hrel
      by_cases hlt : k < n
      · have hki : (k : Int) < n := by omega
        obtain ⟨b, aj, nj, cj, rfl, hrow, hER, hnj, -⟩ := LIn.at HLP.out k hlt
        obtain ⟨b2, ak, nk, ck, rfl, hrow2, hER2, hnk, -⟩ := LIn.at HLQ.out k hlt
        have hr1 := HROW.out k
        have h1 := Since.cell hB.out hrow
        have h2 := Since.cell hB.out hrow2
        have e1 := hER.els.below hB.out
        have e2 := hER2.els.below hB.out
        have hne := HNE.out k
        have hsn : ∀ q, q < k + 1 → Tx.row P k = Tx.row Q k → Tx.row P q = Tx.row Q q := fun q hq h => by
          by_cases e : q = k
          · subst e; exact h
          · exact heq.out q (by omega)
        have k1 := fun W (h : Since wr W) => sameInts_any _ _ (Tx.row P k) (Tx.row Q k) W (e1.below h) (e2.below h) hr1
        have HDQ : Hid (∀ d, decide (Tx.row P k = Tx.row Q k) = d → (d = false → D = false) ∧ (d = true → ∀ q, q < k + 1 → Tx.row P q = Tx.row Q q)) := fun d hd => ⟨fun h => hne (fun e => by rw [decide_eq_true e, h] at hd; cases hd), fun h q hq => hsn q hq (of_decide_eq_true (by rw [hd]; exact h))⟩
        generalize hdd : decide (Tx.row P k = Tx.row Q k) = d at *
        have HD := Lib.hid (HDQ.out d rfl)
        have K1 := Lib.hid k1
        have hS0 : Since wr wr := Below.refl _ _
        have hSd : Since wr wr.drew := Below.drew hS0
        clear hER hER2 hnj hnk hrow hrow2 hr1 e1 e2 hne hsn k1 HDQ hdd
        go_wp2
        go_region_held3 (fun w' => w'.cell? ⟨b, k, none⟩ = some (.slice aj nj cj) ∧ w'.cell? ⟨b2, k, none⟩ = some (.slice ak nk ck) ∧ Since wr w')
          (first | exact ⟨h1, h2, hSd⟩ | exact ⟨Since.cell hB1 h1, Since.cell hB1 h2, hB1⟩)
          ((go_at_call 23; refine (K1.out _ hSd).mono ?_; rintro e w' ⟨rfl, hr⟩; have hB1 := Since.step hSd hr; clear hr))
        have HB1 := Lib.hid (Since.step hB.out hB1)
        clear hB1 hS0 hSd h1 h2
        cases d
        case false =>
          have hD := HD.out.1 (by first | rfl | trivial)
          subst hD
          go_wp2
          go_ret
          exact ⟨rfl, HB1.out⟩
        case true =>
          have hall := Lib.hid (HD.out.2 (by first | rfl | trivial))
          go_wp2
          go_roundw
          case rel => exact ⟨k + 1, by omega, by go_num, hall, HB1⟩
          case measure => simp [intOf]; omega
      · have hki : ¬ (k : Int) < n := by omega
        have hD := HPQ.out k (by omega) heq.out
        subst hD
        go_wp2
        go_ret
        exact ⟨rfl, hB.out⟩
  · have hd : ((P.length : Int) != (Q.length : Int)) = true := by rw [bne_iff_ne]; omega
    have hD : decide (P = Q) = false := decide_eq_false (fun e => hlen (by rw [e]))
    rw [hD]
    clear hp hq hsh hlen hD
    go_enter Try.func15, Try.ntmps15
    go_wp2
    go_ret
    exact ⟨rfl, Below.refl _ _⟩

set_option maxRecDepth 100000 in
theorem tparents_any (N : Nat) (P : List (List Int)) (w : World) (h : TxAt N P w) (hsh : ∀ l ∈ P, l.length ≤ 1000) :
    Calls Try.prog 16 #[.pointer (some ⟨N, 0, none⟩)] w (LMake P w) := by
  obtain ⟨hg, pa, pc, A, ac, h0, h1, hA, hL, hR⟩ := h
  have k1 := Lib.hid (cloneLists_any _ P w hL (by have := hg.len; omega) (fun c => by have := row_le hsh c; omega))
  clear hg h1 hA hL hR hsh
  go_enter Try.func16, Try.ntmps16
  go_wp2_with fail
  refine (k1.out).mono ?_
  rintro e w1 ⟨a, c, rfl, HL, HB⟩
  go_wp2
  go_ret
  exact ⟨a, c, rfl, HL, HB⟩

end Go.Proofs.Ytidnllddhhllcaa
