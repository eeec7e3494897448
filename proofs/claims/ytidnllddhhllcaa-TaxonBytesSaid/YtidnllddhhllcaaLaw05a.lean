/- The law TaxonOrder. -/
import Derived.Test.YtidnllddhhllcaaTe
namespace Go.Proofs.Ytidnllddhhllcaa
open Go.RowKit Go.Shelf

theorem came_wfs {w : World} {a : Option Addr} {len cap : Nat} {zs : List Int} (h : Came .i64 w a len cap zs) : Wfs (zs.take len) := fun z hz => h.wf z (List.mem_of_mem_take hz)

theorem isB_nat {P : List (List Int)} {c d : Nat} (hc : c < P.length) (hd : d < P.length) : isB P c d = Tx.inh P c d := by
  unfold isB
  rw [clsB_nat hc, clsB_nat hd]
  rfl

theorem beq_nat (c d : Nat) : ((c : Int) == (d : Int)) = decide (c = d) := by
  by_cases h : c = d
  · subst h; simp
  · have h2 : ((c : Int) == (d : Int)) = false := by rw [beq_eq_false_iff_ne]; omega
    rw [h2, decide_eq_false h]

/-- What Is says of a class and its parents. -/
theorem isB_step {P : List (List Int)} (h : Tx.okAll P.length P = true) {c d : Nat} (hc : c < P.length) (hd : d < P.length) : isB P c d = (decide (c = d) || (Tx.row P c).any fun p => isB P p d) := by
  apply Bool.eq_iff_iff.2
  rw [isB_nat hc hd, Tx.inh_eq, Tx.inh_iff, Bool.or_eq_true, decide_eq_true_iff, List.any_eq_true]
  constructor
  · rintro (e | ⟨p, hp, hi⟩)
    · exact .inl e
    · exact .inr ⟨p, hp, by rw [isB_nat (Tx.ok_len h hp) hd]; exact Tx.inh_eq.2 hi⟩
  · rintro (e | ⟨p, hp, hi⟩)
    · exact .inl e
    · obtain ⟨q, rfl⟩ := Int.eq_ofNat_of_zero_le (Tx.ok_row h hp).1
      rw [isB_nat (Tx.ok_len h hp) hd] at hi
      exact .inr ⟨q, hp, Tx.inh_eq.1 hi⟩

theorem isB_anti {P : List (List Int)} (h : ¬ Tx.Cyc P) {c d : Nat} (hc : c < P.length) (hd : d < P.length) (hne : c ≠ d) (h1 : isB P c d = true) : isB P d c = false := by
  rw [isB_nat hc hd] at h1
  rw [isB_nat hd hc]
  exact Tx.inh_ne.2 fun h2 => hne ((Tx.inh_eq.1 h1).anti h h2)

theorem isB_trans {P : List (List Int)} {c d b : Nat} (hc : c < P.length) (hd : d < P.length) (hb : b < P.length) (h1 : isB P c d = true) (h2 : isB P d b = true) : isB P c b = true := by
  rw [isB_nat hc hd] at h1
  rw [isB_nat hd hb] at h2
  rw [isB_nat hc hb]
  exact Tx.inh_eq.2 ((Tx.inh_eq.1 h1).trans (Tx.inh_eq.1 h2))

set_option maxHeartbeats 8000000 in
set_option maxRecDepth 100000 in
theorem law_order (a0 : Option Addr) (len0 cap0 : Nat) (z0 : List Int) (w : World) (w0 : Came .i64 w a0 len0 cap0 z0) :
    Calls Try.prog 6 #[.slice a0 len0 cap0] w fun e w' => e = .returned (.bool true) ∧ Below w.heap.size w w' := by
  have k1 := Lib.hid (parents_any _ _ 8 w w0.els (came_wfs w0) (by decide) (by decide))
  clear w0
  go_enter Try.func6, Try.ntmps6
  go_wp2_with fail
  refine (k1.out).mono ?_
  rintro e w1 ⟨P, a1, n1, c1, rfl, hG, HN1, O1, B1⟩
  have HGP := Lib.hid hG
  have hLE := O1.out.lin.le
  have k2 := Lib.hid (new_ok _ P w1 hLE (by have := hG.le; omega) (fun l hl => by have := hG.short l hl; omega) hG.good)
  have HLE := Lib.hid hLE
  clear k1 O1 hG hLE
  go_wp2_with fail
  refine (k2.out).mono ?_
  rintro e w2 ⟨N, rfl, X2, B2⟩
  have HL2 := Lib.hid (LE.below B2.out HLE.out)
  have HB := Lib.hid (Since.step B1.out B2.out)
  have K3 := Lib.hid fun c d => tis_any N P c d w2 X2.out
  have KL := Lib.hid (lives05 w2)
  have HOK := Lib.hid HGP.out.good.ok
  have HAC := Lib.hid HGP.out.good.acy
  have HSH := Lib.hid HGP.out.short
  have hn8 : n1 ≤ 8 := by rw [HN1.out]; exact HGP.out.le
  clear k2 B2 B1 HLE X2 HGP
  go_wp2
  go_loopw [6] (fun i wr => ∃ c : Nat, c ≤ n1 ∧ i = .int .i64 c ∧ wr = w2) (fun i _ => n1 - (intOf i).toNat)
  case atStart => exact ⟨0, Nat.zero_le _, rfl, rfl⟩
  case round =>
    obtain ⟨c, hc, rfl, rfl⟩ := hrel
    by_cases hlt : c < n1
    · have hci : (c : Int) < n1 := by omega
      obtain ⟨b, aj, nj, cj, rfl, hrow, hER, hnj, -⟩ := LIn.at HL2.out c hlt
      have HELS := Lib.hid hER.els
      have hnj8 : nj ≤ 8 := by
        rw [hnj]
        obtain ⟨l, hl⟩ : ∃ l, P[c]? = some l := ⟨_, List.getElem?_eq_getElem (by rw [← HN1.out]; exact hlt)⟩
        have e : Tx.row P c = l := by unfold Tx.row; rw [hl]; rfl
        rw [e]
        exact HSH.out l (List.mem_of_getElem? hl)
      have HNJ := Lib.hid hnj
      clear hER hnj
      go_wp2
      rename World => wo
      go_loopw [7] (fun i wr => ∃ d : Nat, d ≤ n1 ∧ i = .int .i64 d ∧ wr = wo) (fun i _ => n1 - (intOf i).toNat)
      case atStart => exact ⟨0, Nat.zero_le _, rfl, rfl⟩
      case round =>
        obtain ⟨d, hd, rfl, rfl⟩ := hrel
        by_cases hlt2 : d < n1
        · have hdi : (d : Int) < n1 := by omega
          go_wp2
          rename World => wp
          have hcP : c < P.length := by rw [← HN1.out]; exact hlt
          have hdP : d < P.length := by rw [← HN1.out]; exact hlt2
          have HST := Lib.hid (isB_step HOK.out hcP hdP)
          have HAN := Lib.hid fun hne h => isB_anti HAC.out hcP hdP hne h
          have HTR := Lib.hid fun b hb h1 h2 => isB_trans (b := b) hcP hdP hb h1 h2
          clear hcP hdP
          go_loopw [8, 9] (fun s i wr => ∃ k : Nat, k ≤ nj ∧ i = .int .i64 k ∧ s = .bool (decide (c = d) || ((Tx.row P c).take k).any fun p => isB P p d) ∧ wr = wp) (fun _ i _ => nj - (intOf i).toNat)
          case atStart => exact ⟨0, Nat.zero_le _, rfl, by rw [List.take_zero, List.any_nil, Bool.or_false, beq_nat], rfl⟩
          case round =>
            obtain ⟨k, hk, rfl, rfl, rfl⟩ := hrel
            by_cases hlt3 : k < nj
            · have hki : (k : Int) < nj := by omega
              obtain ⟨b1, off, rfl, hcl⟩ := HELS.out.at k hlt3
              have hsn : (decide (c = d) || ((Tx.row P c).take (k + 1)).any fun p => isB P p d) = ((decide (c = d) || ((Tx.row P c).take k).any fun p => isB P p d) || isB P ((Tx.row P c)[k]?.getD 0) d) := by
                rw [List.take_add_one, List.any_append, List.getElem?_eq_getElem (by rw [← HNJ.out]; exact hlt3)]
                simp [Bool.or_assoc]
              generalize (Tx.row P c)[k]?.getD 0 = z at *
              have k4 := K3.out z d
              generalize (decide (c = d) || ((Tx.row P c).take k).any fun p => isB P p d) = S at *
              generalize isB P z d = Z at *
              have HSN := Lib.hid hsn
              have K4 := Lib.hid k4
              clear hsn k4
              cases S
              case true =>
                go_wp2
                go_roundw
                case rel => exact ⟨k + 1, by omega, by go_num, by rw [HSN.out]; rfl, by first | rfl | trivial⟩
                case measure => simp [intOf]; omega
              case false =>
                go_wp2_with fail
                refine (K4.out).mono ?_
                rintro e w' ⟨rfl, rfl⟩
                go_wp2
                go_roundw
                case rel => exact ⟨k + 1, by omega, by go_num, by rw [HSN.out]; rfl, by first | rfl | trivial⟩
                case measure => simp [intOf]; omega
            · have hki : ¬ (k : Int) < nj := by omega
              have hall : (decide (c = d) || ((Tx.row P c).take k).any fun p => isB P p d) = isB P c d := by
                rw [HST.out, List.take_of_length_le (by rw [← HNJ.out]; omega)]
              rw [hall]
              have k4 := K3.out c d
              have k5 := K3.out d c
              generalize hI1 : isB P (c : Int) (d : Int) = I1 at *
              generalize hI2 : isB P (d : Int) (c : Int) = I2 at *
              have K4 := Lib.hid k4
              have K5 := Lib.hid k5
              have hbn : (I1 != I1) = false := by cases I1 <;> rfl
              clear hall k4 k5 hI1 hI2
              have HRR : Hid (c ≠ d → I1 = true → I2 = false) := HAN.out
              by_cases hcd : c = d
              · have hne : ((c : Int) != (d : Int)) = false := by rw [bne, beq_nat, decide_eq_true hcd]; rfl
                clear hcd
                go_wp2_with fail
                refine (K4.out).mono ?_
                rintro e w' ⟨rfl, rfl⟩
                go_upto_region 19 with (fail)
                rename World => wq
                go_loopw [10] (fun i wr => ∃ b : Nat, b ≤ n1 ∧ i = .int .i64 b ∧ wr = wq) (fun i _ => n1 - (intOf i).toNat)
                case atStart => exact ⟨0, Nat.zero_le _, rfl, rfl⟩
                case round =>
                  obtain ⟨x, hx, rfl, rfl⟩ := hrel
                  by_cases hlt4 : x < n1
                  · have hxi : (x : Int) < n1 := by omega
                    have hxP : x < P.length := by rw [← HN1.out]; exact hlt4
                    have htr := HTR.out x hxP
                    have k6 := K3.out d x
                    have k7 := K3.out c x
                    generalize isB P (d : Int) (x : Int) = J1 at *
                    generalize isB P (c : Int) (x : Int) = J2 at *
                    have K6 := Lib.hid k6
                    have K7 := Lib.hid k7
                    have HT2 := Lib.hid htr
                    clear htr k6 k7 hxP
                    cases I1
                    case false =>
                      go_wp2_with fail
                      refine (K4.out).mono ?_
                      rintro e w' ⟨rfl, rfl⟩
                      go_wp2
                      go_roundw
                      case rel => exact ⟨x + 1, by omega, by go_num, by first | rfl | trivial⟩
                      case measure => simp [intOf]; omega
                    case true =>
                      cases J1
                      case false =>
                        go_wp2_with fail
                        refine (K4.out).mono ?_
                        rintro e w' ⟨rfl, rfl⟩
                        go_wp2_with fail
                        refine (K6.out).mono ?_
                        rintro e w' ⟨rfl, rfl⟩
                        go_wp2
                        go_roundw
                        case rel => exact ⟨x + 1, by omega, by go_num, by first | rfl | trivial⟩
                        case measure => simp [intOf]; omega
                      case true =>
                        have hJ2 : J2 = true := HT2.out (by first | rfl | trivial) (by first | rfl | trivial)
                        rw [hJ2] at K7
                        clear hJ2
                        go_wp2_with fail
                        refine (K4.out).mono ?_
                        rintro e w' ⟨rfl, rfl⟩
                        go_wp2_with fail
                        refine (K6.out).mono ?_
                        rintro e w' ⟨rfl, rfl⟩
                        go_wp2_with fail
                        refine (K7.out).mono ?_
                        rintro e w' ⟨rfl, rfl⟩
                        go_wp2
                        go_roundw
                        case rel => exact ⟨x + 1, by omega, by go_num, by first | rfl | trivial⟩
                        case measure => simp [intOf]; omega
                  · have hxi : ¬ (x : Int) < n1 := by omega
                    go_wp2
                    go_roundw
                    case rel => exact ⟨d + 1, by omega, by go_num, by first | rfl | trivial⟩
                    case measure => simp [intOf]; omega
              · have hne : ((c : Int) != (d : Int)) = true := by rw [bne, beq_nat, decide_eq_false hcd]; rfl
                have HR2 := Lib.hid (HRR.out hcd)
                clear hcd
                by_cases h1 : I1 = true
                · have h2 := HR2.out h1
                  subst h1
                  subst h2
                  go_wp2_with fail
                  refine (K4.out).mono ?_
                  rintro e w' ⟨rfl, rfl⟩
                  go_wp2_with fail
                  refine (K4.out).mono ?_
                  rintro e w' ⟨rfl, rfl⟩
                  go_wp2_with fail
                  refine (K5.out).mono ?_
                  rintro e w' ⟨rfl, rfl⟩
                  go_upto_region 19 with (fail)
                  rename World => wq
                  go_loopw [10] (fun i wr => ∃ b : Nat, b ≤ n1 ∧ i = .int .i64 b ∧ wr = wq) (fun i _ => n1 - (intOf i).toNat)
                  case atStart => exact ⟨0, Nat.zero_le _, rfl, rfl⟩
                  case round =>
                    obtain ⟨x, hx, rfl, rfl⟩ := hrel
                    by_cases hlt4 : x < n1
                    · have hxi : (x : Int) < n1 := by omega
                      have hxP : x < P.length := by rw [← HN1.out]; exact hlt4
                      have htr := HTR.out x hxP
                      have k6 := K3.out d x
                      have k7 := K3.out c x
                      generalize isB P (d : Int) (x : Int) = J1 at *
                      generalize isB P (c : Int) (x : Int) = J2 at *
                      have K6 := Lib.hid k6
                      have K7 := Lib.hid k7
                      have HT2 := Lib.hid htr
                      clear htr k6 k7 hxP
                      cases J1
                      case false =>
                        go_wp2_with fail
                        refine (K4.out).mono ?_
                        rintro e w' ⟨rfl, rfl⟩
                        go_wp2_with fail
                        refine (K6.out).mono ?_
                        rintro e w' ⟨rfl, rfl⟩
                        go_wp2
                        go_roundw
                        case rel => exact ⟨x + 1, by omega, by go_num, by first | rfl | trivial⟩
                        case measure => simp [intOf]; omega
                      case true =>
                        have hJ2 : J2 = true := HT2.out (by first | rfl | trivial) (by first | rfl | trivial)
                        rw [hJ2] at K7
                        clear hJ2
                        go_wp2_with fail
                        refine (K4.out).mono ?_
                        rintro e w' ⟨rfl, rfl⟩
                        go_wp2_with fail
                        refine (K6.out).mono ?_
                        rintro e w' ⟨rfl, rfl⟩
                        go_wp2_with fail
                        refine (K7.out).mono ?_
                        rintro e w' ⟨rfl, rfl⟩
                        go_wp2
                        go_roundw
                        case rel => exact ⟨x + 1, by omega, by go_num, by first | rfl | trivial⟩
                        case measure => simp [intOf]; omega
                    · have hxi : ¬ (x : Int) < n1 := by omega
                      go_wp2
                      go_roundw
                      case rel => exact ⟨d + 1, by omega, by go_num, by first | rfl | trivial⟩
                      case measure => simp [intOf]; omega
                · have h2 : I1 = false := by simpa using h1
                  subst h2
                  clear h1
                  go_wp2_with fail
                  refine (K4.out).mono ?_
                  rintro e w' ⟨rfl, rfl⟩
                  go_wp2_with fail
                  refine (K4.out).mono ?_
                  rintro e w' ⟨rfl, rfl⟩
                  go_upto_region 19 with (fail)
                  rename World => wq
                  go_loopw [10] (fun i wr => ∃ b : Nat, b ≤ n1 ∧ i = .int .i64 b ∧ wr = wq) (fun i _ => n1 - (intOf i).toNat)
                  case atStart => exact ⟨0, Nat.zero_le _, rfl, rfl⟩
                  case round =>
                    obtain ⟨x, hx, rfl, rfl⟩ := hrel
                    by_cases hlt4 : x < n1
                    · have hxi : (x : Int) < n1 := by omega
                      have hxP : x < P.length := by rw [← HN1.out]; exact hlt4
                      have htr := HTR.out x hxP
                      have k6 := K3.out d x
                      have k7 := K3.out c x
                      generalize isB P (d : Int) (x : Int) = J1 at *
                      generalize isB P (c : Int) (x : Int) = J2 at *
                      have K6 := Lib.hid k6
                      have K7 := Lib.hid k7
                      have HT2 := Lib.hid htr
                      clear htr k6 k7 hxP
                      go_wp2_with fail
                      refine (K4.out).mono ?_
                      rintro e w' ⟨rfl, rfl⟩
                      go_wp2
                      go_roundw
                      case rel => exact ⟨x + 1, by omega, by go_num, by first | rfl | trivial⟩
                      case measure => simp [intOf]; omega
                    · have hxi : ¬ (x : Int) < n1 := by omega
                      go_wp2
                      go_roundw
                      case rel => exact ⟨d + 1, by omega, by go_num, by first | rfl | trivial⟩
                      case measure => simp [intOf]; omega
        · have hdi : ¬ (d : Int) < n1 := by omega
          go_wp2
          go_roundw
          case rel => exact ⟨c + 1, by omega, by go_num, by first | rfl | trivial⟩
          case measure => simp [intOf]; omega
    · have hci : ¬ (c : Int) < n1 := by omega
      go_wp2_with fail
      refine (KL.out).mono ?_
      rintro e w3 ⟨rfl, B3⟩
      go_wp2
      go_ret
      exact ⟨rfl, Since.step HB.out B3⟩

end Go.Proofs.Ytidnllddhhllcaa
