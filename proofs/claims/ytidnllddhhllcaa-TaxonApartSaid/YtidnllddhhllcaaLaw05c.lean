/- The law TaxonApart. -/
import Derived.Test.YtidnllddhhllcaaTh
namespace Go.Proofs.Ytidnllddhhllcaa
open Go.RowKit Go.Shelf

/-- What the loop that adds classes leaves. -/
def MoreAt (P : List (List Int)) (w1 : World) (k : Nat) (v : Value) (W : World) : Prop := ∃ am nm cm M, v = .slice am nm cm ∧ Hid (nm = M.length) ∧ Hid (M.length = P.length + k) ∧ Hid (MoreOK P M) ∧ Hid (LOw w1.heap.size W (.slice am nm cm) M) ∧ Hid (Below w1.heap.size w1 W)

theorem rowC_more {P M : List (List Int)} {zl : List Int} (h : MoreOK P M) (hr : RowC M.length false M.length M.length zl) : MoreOK P (M ++ [zl]) := h.snoc hr.ok hr.len

theorem more_short {P M : List (List Int)} (h : MoreOK P M) (hs : ∀ l ∈ P, l.length ≤ 8) (hm : M.length ≤ 12) {l : List Int} (hl : l ∈ M) : l.length ≤ 12 := by
  obtain ⟨i, hi⟩ := List.getElem?_of_mem hl
  have hil := (List.getElem?_eq_some_iff.1 hi).1
  by_cases hip : i < P.length
  · rw [h.pre i hip] at hi
    have := hs l (List.mem_of_getElem? hi)
    omega
  · have := (h.new i l (by omega) hi).2
    omega

theorem lits_one (w : World) (c : Int) : Els .i64 (w.alloc (.cells #[.int .i64 c] 3)) (.slice (some ⟨w.heap.size, 0, none⟩) 1 1) [c] := lit_ints w [c] _ _ rfl rfl

set_option maxHeartbeats 8000000 in
set_option maxRecDepth 100000 in
theorem law_apart (a0 : Option Addr) (len0 cap0 : Nat) (z0 : List Int) (a1 : Option Addr) (len1 cap1 : Nat) (z1 : List Int) (w : World) (w0 : Came .i64 w a0 len0 cap0 z0) (w1 : Came .i64 w a1 len1 cap1 z1) :
    Calls Try.prog 9 #[.slice a0 len0 cap0, .slice a1 len1 cap1] w fun e w' => e = .returned (.bool true) ∧ Below w.heap.size w w' := by
  have k1 := Lib.hid (parents_any _ _ 8 w w0.els (came_wfs w0) (by decide) (by decide))
  have hm1 := w1.els
  have hmw := came_wfs w1
  have hlen1 := hm1.len
  have kp := fun (W : World) (hB : Below w.heap.size w W) (i : Nat) (hi : i ≤ 1000) => pick_any _ _ i 1048576 W (hm1.below hB) hmw (by omega) (by omega) (by omega)
  have hr := fun i => pickI_range (z1.take len1) i 1048576 (by omega)
  have KP := Lib.hid kp
  have HR := Lib.hid hr
  have HI0 := Lib.hid Try.infoI64
  generalize z1.take len1 = y1 at *
  have HLN := Lib.hid hlen1
  clear w0 w1 hm1 hmw kp hr hlen1
  go_enter Try.func9, Try.ntmps9
  go_wp2_with fail
  refine (k1.out).mono ?_
  rintro e w1 ⟨P, a2, n2, c2, rfl, hG, HN2, O2, B2⟩
  have hn8 : n2 ≤ 8 := by rw [HN2.out]; exact hG.le
  have HG := Lib.hid hG
  have HPL := Lib.hid O2.out.lin
  have hbx : Below w1.heap.size w1 (w1.alloc (.cells #[] 22)) := (Below.refl _ _).alloc (Nat.le_refl _) _
  have HBX := Lib.hid hbx
  have HL0 := Lib.hid (show LOw w1.heap.size (w1.alloc (.cells #[] 22)) (.slice (some ⟨w1.heap.size, 0, none⟩) 0 0) [] from ⟨[], World.ownsRow_made w1 #[] 0 (Nat.le_refl _) (Nat.zero_le _) rfl, rfl, fun j l h => by cases h⟩)
  obtain ⟨b2, rfl, hE2⟩ : ∃ b, a2 = some ⟨b, 0, none⟩ ∧ ∀ (j : Nat) (l : List Int), P[j]? = some l → ∃ y, (w1.alloc (.cells #[] 22)).cell? ⟨b, j, none⟩ = some y ∧ EIn (fun b => (Value.slice (some ⟨w1.heap.size, 0, none⟩) 0 0).ownBlock ≠ some b) (w1.alloc (.cells #[] 22)) y l := by
    rcases HPL.out with ⟨he, hp⟩ | ⟨b, cap, h1, h2, h3, h4, h5⟩
    · have := hG.pos; rw [hp] at this; simp at this
    · cases h3
      refine ⟨b, rfl, fun j l hj => ?_⟩
      obtain ⟨y, hy, hE⟩ := h5 j l hj
      have hB3 := (Below.refl _ w1).alloc (Nat.le_refl _) (.cells #[] 22)
      exact ⟨y, (hB3.cell (p := ⟨b, j, none⟩) h2).trans hy, (hE.mono fun b hb hS => by simp [Value.ownBlock]; omega).keep hB3.size fun b _ hb => hB3.block b hb⟩
  have HE2 := Lib.hid hE2
  clear k1 O2 hE2 hbx hG
  go_upto_region 2 with (fail)
  go_wp2_with (at_builtin; refine push_lists rfl _ _ rfl w1.heap.size (.slice (some ⟨w1.heap.size, 0, none⟩) 0 0) [] P b2 n2 c2 rfl HN2.out rfl HL0.out HBX.out.size (by simp; omega) HE2.out ?_; intro a3 n3 c3 w3 hn3 hO3 hB3)
  have HM0 : Hid (MoreAt P w1 0 (.slice a3 n3 c3) w3) := ⟨a3, n3, c3, P, rfl, Lib.hid (by have := hn3.out; rw [HN2.out] at this; simpa using this), rfl, Lib.hid (MoreOK.refl P), Lib.hid (by have := hO3.out; rwa [List.nil_append] at this), Lib.hid (HBX.out.trans hB3.out)⟩
  have HPW := Lib.hid HPL.out.le
  clear HL0 HE2 hn3 hO3 HBX
  have HB1 := Lib.hid B2.out
  clear hB3 B2 HLN
  go_loopw [6, 7] (fun v i wr => ∃ k : Nat, k ≤ 4 ∧ i = .int .i64 k ∧ Hid (MoreAt P w1 k v wr)) (fun _ i _ => 4 - (intOf i).toNat)
  case atStart => exact ⟨0, Nat.zero_le _, rfl, HM0⟩
  case round =>
    obtain ⟨k, hk, rfl, hM⟩ := hrel
    obtain ⟨am, nm, cm, M, rfl, hnm, hMl, hMO, hO, hB⟩ := hM.out
    by_cases hlt : k < len1
    · have hki : decide ((k : Int) < (len1 : Int)) = true := decide_eq_true (by omega)
      by_cases hlt4 : k < 4
      · have hk4 : decide ((k : Int) < 4) = true := decide_eq_true (by omega)
        have kp := KP.out wr (Since.step HB1.out hB.out) k (by omega)
        obtain ⟨r1, r2⟩ := HR.out k
        generalize pickI y1 k 1048576 = z at *
        have KP2 := Lib.hid kp
        have hnm12 : nm ≤ 12 := by have h1 := hnm.out; have h2 := hMl.out; have h3 := HN2.out; omega
        clear kp
        go_wp2_with fail
        refine (KP2.out).mono ?_
        rintro e w' ⟨rfl, rfl⟩
        go_wp2
        rename World => wo
        have HOo := hO
        go_loopw [8, 10] (fun v i wr => ∃ c : Nat, c ≤ nm ∧ i = .int .i64 c ∧ ∃ ap np cp zl, v = .slice ap np cp ∧ Hid (np = zl.length) ∧ Hid (RowC M.length false M.length c zl) ∧ Hid (Own .i64 3 wo.heap.size wr (.slice ap np cp) zl) ∧ Hid (Below wo.heap.size wo wr)) (fun _ i _ => nm - (intOf i).toNat)
        case atStart => exact ⟨0, Nat.zero_le _, rfl, none, 0, 0, [], rfl, rfl, Lib.hid (RowC.nil _ _ _), Lib.hid (World.ownsRow_nil _ _ _ _), Lib.hid (Below.refl _ _)⟩
        case round =>
          obtain ⟨c, hc, rfl, ap, np, cp, zl, rfl, hnp, hRC, hOp, hBp⟩ := hrel
          by_cases hlt2 : c < nm
          · have hci : (c : Int) < nm := by omega
            have hbf : Hid (befB false c M.length = true) := decide_eq_true (by rw [← hnm.out]; exact hlt2)
            go_wp2_with (at_builtin; refine push_own rfl _ _ 22 rfl .i64 3 8 Try.underlying22 HI0.out (by decide) wo.heap.size (.slice ap np cp) zl _ _ rfl rfl hOp.out hBp.out.size (by have := hRC.out.len; omega) ?_; intro a4 n4 c4 w4 hn4 hO4 hB4)
            · go_roundw
              case rel => exact ⟨c + 1, by omega, by go_num, a4, n4, c4, zl ++ [(c : Int)], rfl, Lib.hid (by rw [List.length_append]; exact hn4.out), Lib.hid (hRC.out.push (by rw [← hnm.out]; exact hlt2) hbf.out), hO4, Lib.hid (hBp.out.trans hB4.out)⟩
              case measure => simp [intOf]; omega
            · go_roundw
              case rel => exact ⟨c + 1, by omega, by go_num, ap, np, cp, zl, rfl, hnp, Lib.hid hRC.out.skip, hOp, hBp⟩
              case measure => simp [intOf]; omega
          · have hci : ¬ (c : Int) < nm := by omega
            have hcn : c = M.length := by rw [← hnm.out]; omega
            have hrc := hRC.out
            rw [hcn] at hrc
            have HRC := Lib.hid hrc
            have hEp : EIn (fun b => (Value.slice am nm cm).ownBlock ≠ some b) wr (.slice ap np cp) zl := hOp.out.ein.mono fun b _ hb e => by have := (HOo.out.own b e).2; omega
            have HEp := Lib.hid hEp
            have HO2 := Lib.hid (HOo.out.below hBp.out)
            have HB2 := Lib.hid (Since.step hB.out hBp.out)
            have hx1 := HO2.out.below ((Below.refl _ wr).alloc (Nat.le_refl _) (.cells #[.slice ap np cp] 22))
            have HX1 := Lib.hid hx1
            have hx2 : ∀ (j : Nat) (l : List Int), [zl][j]? = some l → ∃ y, (wr.alloc (.cells #[.slice ap np cp] 22)).cell? ⟨wr.heap.size, j, none⟩ = some y ∧ EIn (fun b => (Value.slice am nm cm).ownBlock ≠ some b) (wr.alloc (.cells #[.slice ap np cp] 22)) y l := fun j l hj => by
              have hB3 := (Below.refl _ wr).alloc (Nat.le_refl _) (.cells #[.slice ap np cp] 22)
              have hj1 := (List.getElem?_eq_some_iff.1 hj).1
              have : j = 0 := by simp at hj1; omega
              subst this
              cases hj
              exact ⟨_, (cell_new_l wr (.slice ap np cp) 22).1, HEp.out.keep hB3.size fun b _ hb => hB3.block b hb⟩
            have HX2 := Lib.hid hx2
            have HX3 := Lib.hid (Since.step HB2.out ((Below.refl _ wr).alloc (Nat.le_refl _) (.cells #[.slice ap np cp] 22)))
            clear hcn hrc hEp hx1 hx2
            go_wp2_with (at_builtin; refine push_lists rfl _ _ rfl w1.heap.size (.slice am nm cm) M [zl] wr.heap.size 1 1 rfl rfl rfl HX1.out HX3.out.size (by have := hnm.out; omega) HX2.out ?_; intro a5 n5 c5 w5 hn5 hO5 hB5)
            go_roundw
            case rel => exact ⟨k + 1, by omega, by go_num, a5, n5, c5, M ++ [zl], rfl, Lib.hid (by rw [List.length_append]; exact hn5.out), Lib.hid (by rw [List.length_append, hMl.out]; rfl), Lib.hid (rowC_more hMO.out HRC.out), hO5, Lib.hid (HX3.out.trans hB5.out)⟩
            case measure => simp [intOf]; omega
      · have hk4 : decide ((k : Int) < 4) = false := decide_eq_false (by omega)
        have HPo := Lib.hid (LE.below hB.out HPW.out)
        have HMo := Lib.hid hO.out.le
        have hm12 : M.length ≤ 12 := by have := hMl.out; have := HN2.out; omega
        have HGM := Lib.hid (hMO.out.good HG.out.good (by omega))
        have HSP := Lib.hid HG.out.short
        have HS0 := Lib.hid (Since.step HB1.out hB.out)
        have k2 := Lib.hid (new_ok _ P wr HPo.out (by have := HN2.out; omega) (fun l hl => by have := HSP.out l hl; omega) HG.out.good)
        have HSM := Lib.hid fun l hl => more_short hMO.out HG.out.short hm12 (l := l) hl
        clear hO
        go_wp2_with fail
        refine (k2.out).mono ?_
        rintro e w3 ⟨N1, rfl, X1, B3⟩
        have k3 := Lib.hid (new_ok _ M w3 (LE.below B3.out HMo.out) (by omega) (fun l hl => by have := HSM.out l hl; omega) HGM.out)
        clear k2
        go_wp2_with fail
        refine (k3.out).mono ?_
        rintro e w4 ⟨N2, rfl, X2, B4⟩
        have HS4 := Lib.hid (Since.step (Since.step HS0.out B3.out) B4.out)
        have X14 := Lib.hid (X1.out.below B4.out)
        have k4 := tlen_any N2 M w4 X2.out
        rw [← hnm.out] at k4
        have K4 := Lib.hid k4
        clear k3 k4 B3 B4 HPo HMo X1
        go_wp2_with fail
        refine (K4.out).mono ?_
        rintro e w' ⟨rfl, rfl⟩
        have KL := Lib.hid lives05
        have HOK := Lib.hid HG.out.good.ok
        go_wp2
        go_loopw [15] (fun i wr => ∃ c : Nat, c ≤ n2 ∧ i = .int .i64 c ∧ Hid (Since w4 wr)) (fun i _ => n2 - (intOf i).toNat)
        case atStart => exact ⟨0, Nat.zero_le _, rfl, Lib.hid (Below.refl _ _)⟩
        case round =>
          obtain ⟨c, hc, rfl, hS⟩ := hrel
          by_cases hlt5 : c < n2
          · have hci : (c : Int) < n2 := by omega
            have hcP : c < P.length := by rw [← HN2.out]; exact hlt5
            have Y1 := Lib.hid (X14.out.below hS.out)
            have Y2 := Lib.hid (X2.out.below hS.out)
            have HSS := Lib.hid (Since.step HS4.out hS.out)
            have hbl := (Below.refl wr.heap.size wr).alloc (Nat.le_refl _) (.cells #[.int .i64 (c : Int)] 3)
            have k5 := tup_any N1 P _ [(c : Int)] _ (Y1.out.below hbl) (lits_one wr (c : Int)) (by simp)
            rw [show noneE P.length [(c : Int)] = 0 from if_pos (allB_one hcP)] at k5
            have K5 := Lib.hid k5
            have HBL := Lib.hid hbl
            have k6 := fun W (hB : Since wr W) => tup_any N2 M _ [(c : Int)] _ ((Y2.out.below hB).below ((Below.refl _ W).alloc (Nat.le_refl _) (.cells #[.int .i64 (c : Int)] 3))) (lits_one W (c : Int)) (by simp)
            rw [show noneE M.length [(c : Int)] = 0 from if_pos (allB_one (Nat.lt_of_lt_of_le hcP hMO.out.len)), ← hMO.out.up HOK.out hcP] at k6
            have K6 := Lib.hid k6
            have KI1 := Lib.hid fun d W (hB : Since wr W) => tis_any N1 P (c : Int) d W (Y1.out.below hB)
            have KI2 := Lib.hid fun d W (hB : Since wr W) => tis_any N2 M (c : Int) d W (Y2.out.below hB)
            have HIS := Lib.hid fun d hd => hMO.out.is HOK.out (d := d) hcP hd
            have hul := upL_len P [(c : Int)]
            clear k5 k6 hbl hcP
            rename World => wo
            go_wp2_with fail
            refine (K5.out).mono ?_
            rintro e w5 ⟨a5, n5, c5, rfl, HN5, O5, B5⟩
            have HB5 := Lib.hid (Since.step HBL.out B5.out)
            go_wp2_with fail
            refine (K6.out _ HB5.out).mono ?_
            rintro e w6 ⟨a6, n6, c6, rfl, HN6, O6, B6⟩
            have hb6 := (Below.refl _ w5).alloc (Nat.le_refl _) (.cells #[.int .i64 (c : Int)] 3)
            have HB6 := Lib.hid (Since.step (Since.step HB5.out hb6) B6.out)
            have k7 := Lib.hid (sameInts_make _ _ _ _ w6 ((O5.out.els.below hb6).below B6.out) O6.out.els (by omega) true (decide_eq_true rfl))
            clear hb6
            go_wp2_with fail
            refine (k7.out).mono ?_
            rintro e w7 ⟨rfl, B7⟩
            have HB7 := Lib.hid (Since.step HB6.out B7)
            clear B7 K5 K6 k7 O5 O6 B5 B6 HB5 HB6
            go_wp2
            go_loopw [20] (fun i wr => ∃ d : Nat, d ≤ n2 ∧ i = .int .i64 d ∧ wr = w7) (fun i _ => n2 - (intOf i).toNat)
            case atStart => exact ⟨0, Nat.zero_le _, rfl, rfl⟩
            case round =>
              obtain ⟨d, hd, rfl, rfl⟩ := hrel
              by_cases hlt6 : d < n2
              · have hdi : (d : Int) < n2 := by omega
                have hq := HIS.out d (by rw [← HN2.out]; exact hlt6)
                have k8 := KI1.out d wr HB7.out
                have k9 := KI2.out d wr HB7.out
                rw [hq] at k9
                generalize isB P (c : Int) (d : Int) = I at *
                have K8 := Lib.hid k8
                have K9 := Lib.hid k9
                have hii : (I != I) = false := by cases I <;> rfl
                clear k8 k9 hq
                go_wp2_with fail
                refine (K8.out).mono ?_
                rintro e w' ⟨rfl, rfl⟩
                go_wp2_with fail
                refine (K9.out).mono ?_
                rintro e w' ⟨rfl, rfl⟩
                go_wp2
                go_roundw
                case rel => exact ⟨d + 1, by omega, by go_num, by first | rfl | trivial⟩
                case measure => simp [intOf]; omega
              · have hdi : ¬ (d : Int) < n2 := by omega
                go_wp2
                go_roundw
                case rel => exact ⟨c + 1, by omega, by go_num, Lib.hid (Since.step hS.out HB7.out)⟩
                case measure => simp [intOf]; omega
          · have hci : ¬ (c : Int) < n2 := by omega
            go_wp2_with fail
            refine (KL.out wr).mono ?_
            rintro e w8 ⟨rfl, B8⟩
            go_wp2
            go_ret
            exact ⟨rfl, Since.step (Since.step HS4.out hS.out) B8⟩
    · have hki : decide ((k : Int) < (len1 : Int)) = false := decide_eq_false (by omega)
      have HPo := Lib.hid (LE.below hB.out HPW.out)
      have HMo := Lib.hid hO.out.le
      have hm12 : M.length ≤ 12 := by have := hMl.out; have := HN2.out; omega
      have HGM := Lib.hid (hMO.out.good HG.out.good (by omega))
      have HSP := Lib.hid HG.out.short
      have HS0 := Lib.hid (Since.step HB1.out hB.out)
      have k2 := Lib.hid (new_ok _ P wr HPo.out (by have := HN2.out; omega) (fun l hl => by have := HSP.out l hl; omega) HG.out.good)
      have HSM := Lib.hid fun l hl => more_short hMO.out HG.out.short hm12 (l := l) hl
      clear hO
      go_wp2_with fail
      refine (k2.out).mono ?_
      rintro e w3 ⟨N1, rfl, X1, B3⟩
      have k3 := Lib.hid (new_ok _ M w3 (LE.below B3.out HMo.out) (by omega) (fun l hl => by have := HSM.out l hl; omega) HGM.out)
      clear k2
      go_wp2_with fail
      refine (k3.out).mono ?_
      rintro e w4 ⟨N2, rfl, X2, B4⟩
      have HS4 := Lib.hid (Since.step (Since.step HS0.out B3.out) B4.out)
      have X14 := Lib.hid (X1.out.below B4.out)
      have k4 := tlen_any N2 M w4 X2.out
      rw [← hnm.out] at k4
      have K4 := Lib.hid k4
      clear k3 k4 B3 B4 HPo HMo X1
      go_wp2_with fail
      refine (K4.out).mono ?_
      rintro e w' ⟨rfl, rfl⟩
      have KL := Lib.hid lives05
      have HOK := Lib.hid HG.out.good.ok
      go_wp2
      go_loopw [15] (fun i wr => ∃ c : Nat, c ≤ n2 ∧ i = .int .i64 c ∧ Hid (Since w4 wr)) (fun i _ => n2 - (intOf i).toNat)
      case atStart => exact ⟨0, Nat.zero_le _, rfl, Lib.hid (Below.refl _ _)⟩
      case round =>
        obtain ⟨c, hc, rfl, hS⟩ := hrel
        by_cases hlt5 : c < n2
        · have hci : (c : Int) < n2 := by omega
          have hcP : c < P.length := by rw [← HN2.out]; exact hlt5
          have Y1 := Lib.hid (X14.out.below hS.out)
          have Y2 := Lib.hid (X2.out.below hS.out)
          have HSS := Lib.hid (Since.step HS4.out hS.out)
          have hbl := (Below.refl wr.heap.size wr).alloc (Nat.le_refl _) (.cells #[.int .i64 (c : Int)] 3)
          have k5 := tup_any N1 P _ [(c : Int)] _ (Y1.out.below hbl) (lits_one wr (c : Int)) (by simp)
          rw [show noneE P.length [(c : Int)] = 0 from if_pos (allB_one hcP)] at k5
          have K5 := Lib.hid k5
          have HBL := Lib.hid hbl
          have k6 := fun W (hB : Since wr W) => tup_any N2 M _ [(c : Int)] _ ((Y2.out.below hB).below ((Below.refl _ W).alloc (Nat.le_refl _) (.cells #[.int .i64 (c : Int)] 3))) (lits_one W (c : Int)) (by simp)
          rw [show noneE M.length [(c : Int)] = 0 from if_pos (allB_one (Nat.lt_of_lt_of_le hcP hMO.out.len)), ← hMO.out.up HOK.out hcP] at k6
          have K6 := Lib.hid k6
          have KI1 := Lib.hid fun d W (hB : Since wr W) => tis_any N1 P (c : Int) d W (Y1.out.below hB)
          have KI2 := Lib.hid fun d W (hB : Since wr W) => tis_any N2 M (c : Int) d W (Y2.out.below hB)
          have HIS := Lib.hid fun d hd => hMO.out.is HOK.out (d := d) hcP hd
          have hul := upL_len P [(c : Int)]
          clear k5 k6 hbl hcP
          rename World => wo
          go_wp2_with fail
          refine (K5.out).mono ?_
          rintro e w5 ⟨a5, n5, c5, rfl, HN5, O5, B5⟩
          have HB5 := Lib.hid (Since.step HBL.out B5.out)
          go_wp2_with fail
          refine (K6.out _ HB5.out).mono ?_
          rintro e w6 ⟨a6, n6, c6, rfl, HN6, O6, B6⟩
          have hb6 := (Below.refl _ w5).alloc (Nat.le_refl _) (.cells #[.int .i64 (c : Int)] 3)
          have HB6 := Lib.hid (Since.step (Since.step HB5.out hb6) B6.out)
          have k7 := Lib.hid (sameInts_make _ _ _ _ w6 ((O5.out.els.below hb6).below B6.out) O6.out.els (by omega) true (decide_eq_true rfl))
          clear hb6
          go_wp2_with fail
          refine (k7.out).mono ?_
          rintro e w7 ⟨rfl, B7⟩
          have HB7 := Lib.hid (Since.step HB6.out B7)
          clear B7 K5 K6 k7 O5 O6 B5 B6 HB5 HB6
          go_wp2
          go_loopw [20] (fun i wr => ∃ d : Nat, d ≤ n2 ∧ i = .int .i64 d ∧ wr = w7) (fun i _ => n2 - (intOf i).toNat)
          case atStart => exact ⟨0, Nat.zero_le _, rfl, rfl⟩
          case round =>
            obtain ⟨d, hd, rfl, rfl⟩ := hrel
            by_cases hlt6 : d < n2
            · have hdi : (d : Int) < n2 := by omega
              have hq := HIS.out d (by rw [← HN2.out]; exact hlt6)
              have k8 := KI1.out d wr HB7.out
              have k9 := KI2.out d wr HB7.out
              rw [hq] at k9
              generalize isB P (c : Int) (d : Int) = I at *
              have K8 := Lib.hid k8
              have K9 := Lib.hid k9
              have hii : (I != I) = false := by cases I <;> rfl
              clear k8 k9 hq
              go_wp2_with fail
              refine (K8.out).mono ?_
              rintro e w' ⟨rfl, rfl⟩
              go_wp2_with fail
              refine (K9.out).mono ?_
              rintro e w' ⟨rfl, rfl⟩
              go_wp2
              go_roundw
              case rel => exact ⟨d + 1, by omega, by go_num, by first | rfl | trivial⟩
              case measure => simp [intOf]; omega
            · have hdi : ¬ (d : Int) < n2 := by omega
              go_wp2
              go_roundw
              case rel => exact ⟨c + 1, by omega, by go_num, Lib.hid (Since.step hS.out HB7.out)⟩
              case measure => simp [intOf]; omega
        · have hci : ¬ (c : Int) < n2 := by omega
          go_wp2_with fail
          refine (KL.out wr).mono ?_
          rintro e w8 ⟨rfl, B8⟩
          go_wp2
          go_ret
          exact ⟨rfl, Since.step (Since.step HS4.out hS.out) B8⟩

end Go.Proofs.Ytidnllddhhllcaa
