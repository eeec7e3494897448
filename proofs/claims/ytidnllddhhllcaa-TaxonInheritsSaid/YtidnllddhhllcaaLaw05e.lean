/- The law TaxonInherits. -/
import Derived.Test.YtidnllddhhllcaaRefc
import Derived.Test.YtidnllddhhllcaaLaw05d
namespace Go.Proofs.Ytidnllddhhllcaa
open Go.RowKit Go.Shelf

/-- What the table of lists leaves. -/
def CutL (Q : List (List Int)) (w : World) (v : Value) (W : World) : Prop := ∃ G, v = .slice (some ⟨G, 0, none⟩) 4 4 ∧ LE W v Q ∧ Since w W

theorem cutL_of {w W : World} {a b c d : Value} {p q r s : List Int} (T : TypeId) (hW : Since w W) (ha : Els .i64 W a p) (hb : Els .i64 W b q) (hc : Els .i64 W c r) (hd : Els .i64 W d s) (g : Nat) (hg : W.heap.size = g) :
    CutL [p, q, r, s] w (.slice (some ⟨g, 0, none⟩) 4 4) (W.alloc (.cells #[a, b, c, d] T)) := by
  subst hg
  have hB := (Below.refl W.heap.size W).alloc (Nat.le_refl _) (.cells #[a, b, c, d] T)
  have hn := heap_new W (.cells #[a, b, c, d] T)
  refine ⟨W.heap.size, rfl, .inr ⟨W.heap.size, 4, trivial, by simp, rfl, Nat.le_refl _, fun j l hl => ?_⟩, Since.step hW hB⟩
  match j with
  | 0 => simp at hl; subst hl; exact ⟨a, by unfold World.cell?; simp only [hn]; rfl, (ha.below hB).ein⟩
  | 1 => simp at hl; subst hl; exact ⟨b, by unfold World.cell?; simp only [hn]; rfl, (hb.below hB).ein⟩
  | 2 => simp at hl; subst hl; exact ⟨c, by unfold World.cell?; simp only [hn]; rfl, (hc.below hB).ein⟩
  | 3 => simp at hl; subst hl; exact ⟨d, by unfold World.cell?; simp only [hn]; rfl, (hd.below hB).ein⟩
  | n + 4 => simp at hl

theorem els_part {w : World} {X : Nat} {x0 x1 x2 x3 x4 x5 : Int} (h : Els .i64 w (.slice (some ⟨X, 0, none⟩) 6 6) [x0, x1, x2, x3, x4, x5]) : Els .i64 w (.slice (some ⟨X, 2, none⟩) 2 4) [x2, x3] := by
  rcases h with ⟨_, hz⟩ | ⟨b, off, cap, hb, he, hl, hc⟩
  · cases hz
  · cases he
    refine .inr ⟨X, 2, 4, hb, rfl, by simp, fun j hj => ?_⟩
    have h2 := hc (2 + j) (by simp at hj ⊢; omega)
    rw [Nat.zero_add] at h2
    rw [h2]
    match j with
    | 0 => rfl
    | 1 => rfl
    | n + 2 => simp at hj; omega

set_option maxHeartbeats 8000000 in
set_option maxRecDepth 100000 in
theorem law_inherits (a0 : Option Addr) (len0 cap0 : Nat) (z0 : List Int) (a1 : Option Addr) (len1 cap1 : Nat) (z1 : List Int) (a2 a3 : Int) (w : World) (w0 : Came .i64 w a0 len0 cap0 z0) (w1 : Came .i64 w a1 len1 cap1 z1) (w2 : (Lit.int .i64 a2).wf = true) (w3 : (Lit.int .i64 a3).wf = true) :
    Calls Try.prog 4 #[.slice a0 len0 cap0, .slice a1 len1 cap1, .int .i64 a2, .int .i64 a3] w fun e w' => e = .returned (.bool true) ∧ Below w.heap.size w w' := by
  have k1 := Lib.hid (parents_any _ _ 9 w w0.els (came_wfs w0) (by decide) (by decide))
  have ksm := fun (n : Nat) (c : Nat) (P : List (List Int)) (pa : Option Addr) (W : World) (hB : Below w.heap.size w W) (hL : LE W (.slice pa n c) P) (h1 : 1 ≤ P.length) (h2 : P.length ≤ 64) => some_eq _ _ P _ W hL (w1.els.below hB) (came_wfs w1) h1 h2
  have KSM := Lib.hid ksm
  have ka2 := fun (n : Int) (W : World) (h1 : 1 ≤ n) (h2 : n ≤ 64) => around_any a2 n W h1 (by omega) w2
  have ka3 := fun (n : Int) (W : World) (h1 : 1 ≤ n) (h2 : n ≤ 64) => around_any a3 n W h1 (by omega) w3
  have KA2 := Lib.hid ka2
  have KA3 := Lib.hid ka3
  have KL := Lib.hid lives05
  generalize z1.take len1 = y1 at *
  clear w0 w1 w2 w3 ksm ka2 ka3
  go_enter Try.func4, Try.ntmps4
  go_wp2_with fail
  refine (k1.out).mono ?_
  rintro e w1 ⟨P, a4, n3, c3, rfl, hG, HN3, O3, B3⟩
  have hLE := O3.out.lin.le
  have k2 := Lib.hid (new_ok _ P w1 hLE (by have := hG.le; omega) (fun l hl => by have := hG.short l hl; omega) hG.good)
  have HLE := Lib.hid hLE
  have hp1 : 1 ≤ P.length := hG.pos
  have hp2 : P.length ≤ 64 := hG.good.len
  have HSH := Lib.hid (short_rows (P := P) (fun l hl => by have := hG.short l hl; omega))
  have HG := Lib.hid hG.good
  have hn9 : n3 ≤ 9 := by rw [HN3.out]; exact hG.le
  have hn1 : 1 ≤ n3 := by rw [HN3.out]; exact hp1
  have KSM2 := Lib.hid fun W hB hL => KSM.out n3 c3 P a4 W hB hL hp1 hp2
  have hx6 := someL_len P.length y1
  generalize someL P.length y1 = xs at *
  clear k1 O3 hG hLE KSM hp1 hp2
  go_wp2_with fail
  refine (k2.out).mono ?_
  rintro e w2 ⟨N, rfl, X2, B4⟩
  have HB2 := Lib.hid (Since.step B3.out B4.out)
  have HL2 := Lib.hid (LE.below B4.out HLE.out)
  clear k2 B3 B4 HLE
  have k3 := KA2.out (n3 : Int) w2 (by omega) (by omega)
  have k4 := KA3.out (n3 : Int) w2 (by omega) (by omega)
  generalize aroundI a2 (n3 : Int) = q2 at *
  generalize aroundI a3 (n3 : Int) = q3 at *
  have K3 := Lib.hid k3
  have K4 := Lib.hid k4
  clear k3 k4 KA2 KA3
  go_wp2_with fail
  refine (K3.out).mono ?_
  rintro e w' ⟨rfl, rfl⟩
  go_wp2_with fail
  refine (K4.out).mono ?_
  rintro e w' ⟨rfl, rfl⟩
  have hbl := (Below.refl w2.heap.size w2).alloc (Nat.le_refl _) (.cells #[.int .i64 a2, .int .i64 a3, .int .i64 q2, .int .i64 q3, .int .i64 (n3 : Int), .int .i64 (-1)] 3)
  have EX := Lib.hid (lit_ints w2 [a2, a3, q2, q3, (n3 : Int), -1] #[.int .i64 a2, .int .i64 a3, .int .i64 q2, .int .i64 q3, .int .i64 (n3 : Int), .int .i64 (-1)] 6 rfl rfl)
  have HBL := Lib.hid hbl
  have X3 := Lib.hid (X2.out.below hbl)
  have HL3 := Lib.hid (LE.below hbl HL2.out)
  have HB3 := Lib.hid (Since.step HB2.out hbl)
  clear K3 K4 hbl X2 HL2 HB2
  go_upto_region 6 with (fail)
  generalize w2.alloc (.cells #[.int .i64 a2, .int .i64 a3, .int .i64 q2, .int .i64 q3, .int .i64 (n3 : Int), .int .i64 (-1)] 3) = w3 at *
  generalize hX : w2.heap.size = X at *
  clear hX HBL
  generalize hZ : [a2, a3, q2, q3, (n3 : Int), -1] = Z at *
  have HZ := Lib.hid hZ
  have HZL : Hid (Z.length = 6) := by show Z.length = 6; rw [← hZ]; rfl
  clear hZ
  go_wp2
  go_loopw [13] (fun i wr => ∃ k : Nat, k ≤ 6 ∧ i = .int .i64 k ∧ Hid (Since w3 wr)) (fun i _ => 6 - (intOf i).toNat)
  case atStart => exact ⟨0, Nat.zero_le _, rfl, Lib.hid (Below.refl _ _)⟩
  case round =>
    obtain ⟨k, hk, rfl, hS⟩ := hrel
    by_cases hlt : k < 6
    · have hki : (k : Int) < 6 := by omega
      obtain ⟨b, off, he, hck⟩ := EX.out.at k hlt
      cases he
      rw [Nat.zero_add] at hck
      generalize Z[k]?.getD 0 = x at *
      have HCK := Lib.hid hck
      clear hck
      rename World => wo
      go_wp2
      go_loopw [14] (fun i wr => ∃ j : Nat, j ≤ 6 ∧ i = .int .i64 j ∧ Hid (Since wo wr)) (fun i _ => 6 - (intOf i).toNat)
      case atStart => exact ⟨0, Nat.zero_le _, rfl, Lib.hid (Below.refl _ _)⟩
      case round =>
        obtain ⟨j, hj, rfl, hT⟩ := hrel
        by_cases hlt2 : j < 6
        · have hji : (j : Int) < 6 := by omega
          obtain ⟨b', off', he', hcj⟩ := EX.out.at j hlt2
          cases he'
          rw [Nat.zero_add] at hcj
          generalize Z[j]?.getD 0 = y at *
          have hW := Since.step hS.out hT.out
          have hcj := Since.cell hW hcj
          have hck := Since.cell hW HCK.out
          have k5 := fun W (h : Since wr W) => tis_any N P x y W (X3.out.below (Since.step hW h))
          have k6 := fun W (h : Since wr W) => ris_any _ P x y W (LE.below (Since.step hW h) HL3.out) HG.out HSH.out
          generalize isB P x y = I at *
          have K5 := Lib.hid k5
          have K6 := Lib.hid k6
          have hii : (I != I) = false := by cases I <;> rfl
          have hS0 : Since wr wr := Below.refl _ _
          have hSd : Since wr wr.drew := Below.drew hS0
          clear k5 k6 hW
          go_wp2
          go_region_held3 (fun w' => w'.cell? ⟨X, j, none⟩ = some (.int .i64 y) ∧ w'.cell? ⟨X, k, none⟩ = some (.int .i64 x) ∧ Since wr w')
            (first | exact ⟨hcj, hck, hSd⟩ | exact ⟨Since.cell hB hcj, Since.cell hB hck, hB⟩)
            ((first
              | (go_at_call 19; refine (K5.out _ (by first | exact hB | exact hSd)).mono ?_; rintro e w' ⟨rfl, rfl⟩)
              | (go_at_call 20; refine (K6.out _ (by first | exact hB | exact hSd)).mono ?_; rintro e w' ⟨rfl, hr⟩; (first | (have hB := Since.step hB hr) | (have hB := Since.step hSd hr)); clear hr)))
          have HBB := Lib.hid hB
          clear hB hS0 hSd hcj hck
          go_wp2
          go_roundw
          case rel => exact ⟨j + 1, by omega, by go_num, Lib.hid (Since.step hT.out HBB.out)⟩
          case measure => simp [intOf]; omega
        · have hji : ¬ (j : Int) < 6 := by omega
          have hW := Since.step hS.out hT.out
          have hck := Since.cell hW HCK.out
          have k7 := tdown_any N P x wr (X3.out.below hW)
          have k8 := fun W (h : Since wr W) => rdown_any _ P x W (LE.below (Since.step hW h) HL3.out) HG.out HSH.out
          have hdl := downL_len P x
          generalize downL P x = DL at *
          generalize downE P.length x = DE at *
          have hee : (DE != DE) = false := by simp
          have K7 := Lib.hid k7
          have K8 := Lib.hid k8
          have HW := Lib.hid hW
          clear k7 k8 hW
          go_wp2_with fail
          refine (K7.out).mono ?_
          rintro e w5 ⟨a5, n5, c5, rfl, HN5, O5, B5⟩
          have hck := Since.cell B5.out hck
          have E5 := Lib.hid O5.out.els
          clear O5
          go_wp2_with fail
          refine (K8.out _ B5.out).mono ?_
          rintro e w6 ⟨a6, n6, c6, rfl, HN6, O6, B6⟩
          have k9 := sameInts_make _ _ DL DL w6 (E5.out.below B6.out) O6.out.els (by omega) true (by simp)
          have K9 := Lib.hid k9
          have HB6 := Lib.hid (Since.step B5.out B6.out)
          clear k9 O6 hck
          go_wp2_with fail
          refine (K9.out).mono ?_
          rintro e w7 ⟨rfl, B7⟩
          have HB7 := Lib.hid (Since.step HB6.out B7)
          clear B7
          go_wp2
          go_roundw
          case rel => exact ⟨k + 1, by omega, by go_num, Lib.hid (Since.step (Since.step hS.out hT.out) HB7.out)⟩
          case measure => simp [intOf]; omega
    · have hki : ¬ (k : Int) < 6 := by omega
      have X4 := Lib.hid (X3.out.below hS.out)
      have HL4 := Lib.hid (LE.below hS.out HL3.out)
      have HB4 := Lib.hid (Since.step HB3.out hS.out)
      have ex := EX.out.below hS.out
      rw [← HZ.out] at ex
      have EP := Lib.hid (els_part ex)
      clear ex X3 HL3 HB3 EX HZ HZL hS
      rename World => wo
      go_upto_region 18 with (fail)
      have ks := fun W (h : Since wo W) => KSM2.out W (Since.step HB4.out h) (LE.below h HL4.out)
      have KS := Lib.hid ks
      have hnil := fun W => (show Els .i64 W (.slice none 0 0) [] from .inl ⟨.inl rfl, rfl⟩)
      have hone := fun (W : World) => lit_ints W [a2] #[.int .i64 a2] 1 rfl rfl
      have HNIL := Lib.hid hnil
      have HONE := Lib.hid hone
      clear ks hnil hone
      go_cut [19] (fun s wx => CutL [xs, [q2, q3], [], [a2]] wo s wx)
      case first =>
        have hS0 : Since wo wo := Below.refl _ _
        have hSd : Since wo wo.drew := Below.drew hS0
        have hSa := Lib.hid (Since.step hSd ((Below.refl wo.drew.heap.size wo.drew).alloc (Nat.le_refl _) (.cells #[.int .i64 a2] 3)))
        go_region_with (go_at_call 24; (first | refine (KS.out _ hSd).mono ?_ | refine (KS.out _ hSa.out).mono ?_); rintro e w' ⟨a7, n7, c7, rfl, HN7, O7, B7⟩)
        all_goals (go_wp2_with fail; go_meet)
        · have hB7 := B7.out
          exact cutL_of _ (Since.step (Since.step hSd hB7) ((Below.refl _ _).alloc (Nat.le_refl _) _)) (O7.out.els.below ((Below.refl _ _).alloc (Nat.le_refl _) _)) ((EP.out.below (Since.step hSd hB7)).below ((Below.refl _ _).alloc (Nat.le_refl _) _)) (HNIL.out _) (HONE.out _) _ (by simp)
        · have hB7 := B7.out
          exact cutL_of _ (Since.step hSa.out hB7) O7.out.els (EP.out.below (Since.step hSa.out hB7)) (HNIL.out _) ((HONE.out _).below hB7) _ rfl
      case rest =>
        obtain ⟨G, rfl, hQ, hSc⟩ := hcut
        have X5 := Lib.hid (X4.out.below hSc)
        have HL5 := Lib.hid (LE.below hSc HL4.out)
        have HB5 := Lib.hid (Since.step HB4.out hSc)
        have hq6 : ∀ j, (Tx.row [xs, [q2, q3], [], [a2]] j).length ≤ 6 := fun j => by
          match j with
          | 0 => exact hx6
          | 1 => simp [Tx.row]
          | 2 => simp [Tx.row]
          | 3 => simp [Tx.row]
          | n + 4 => simp [Tx.row]
        have HQ := Lib.hid hQ
        have HQ6 := Lib.hid hq6
        generalize [xs, [q2, q3], [], [a2]] = Q at *
        clear hQ hSc hq6 X4 HL4 HB4 EP KS KSM2 HNIL HONE
        rename World => wc
        go_wp2
        go_loopw [20] (fun i wr => ∃ k : Nat, k ≤ 4 ∧ i = .int .i64 k ∧ Hid (Since wc wr)) (fun i _ => 4 - (intOf i).toNat)
        case atStart => exact ⟨0, Nat.zero_le _, rfl, Lib.hid (Below.refl _ _)⟩
        case round =>
          obtain ⟨k, hk, rfl, hS⟩ := hrel
          by_cases hlt : k < 4
          · have hki : (k : Int) < 4 := by omega
            obtain ⟨b, aj, nj, cj, he, hrow, hER, hnj, -⟩ := LIn.at (LE.below hS.out HQ.out) k hlt
            cases he
            have hq := HQ6.out k
            have hEls := hER.els
            generalize Tx.row Q k = L at *
            have X6 := X5.out.below hS.out
            have hL6 := LE.below hS.out HL5.out
            have k1 := tup_any N P _ L wr X6 hEls (by omega)
            have k2 := fun W (h : Since wr W) => rup_any _ _ P L W (LE.below h hL6) (hEls.below h) (by omega) HG.out HSH.out
            have k3 := fun W (h : Since wr W) => tleast_any N P _ L W (X6.below h) (hEls.below h) (by omega)
            have k4 := fun W (h : Since wr W) => rleast_any _ _ P L W (LE.below h hL6) (hEls.below h) (by omega) HG.out HSH.out
            have hul := upL_len P L
            have hll := leastL_len P L
            generalize upL P L = U at *
            generalize leastL P L = V at *
            generalize noneE P.length L = E at *
            have hee : (E != E) = false := by simp
            have K1 := Lib.hid k1
            have K2 := Lib.hid k2
            have K3 := Lib.hid k3
            have K4 := Lib.hid k4
            have HROW := Lib.hid hrow
            clear k1 k2 k3 k4 X6 hL6 hER hEls hnj
            go_wp2_with fail
            refine (K1.out).mono ?_
            rintro e w5 ⟨a5, n5, c5, rfl, HN5, O5, B5⟩
            have hrow := Since.cell B5.out HROW.out
            have E5 := Lib.hid O5.out.els
            have H5 := Lib.hid B5.out
            clear O5 B5
            go_wp2_with fail
            refine (K2.out _ H5.out).mono ?_
            rintro e w6 ⟨a6, n6, c6, rfl, HN6, O6, B6⟩
            have H6 := Lib.hid (Since.step H5.out B6.out)
            have hrow := Since.cell H6.out HROW.out
            have E56 := Lib.hid (E5.out.below B6.out)
            have E6 := Lib.hid O6.out.els
            clear O6 B6 E5 H5
            go_wp2_with fail
            refine (K3.out _ H6.out).mono ?_
            rintro e w7 ⟨a7, n7, c7, rfl, HN7, O7, B7⟩
            have H7 := Lib.hid (Since.step H6.out B7.out)
            have hrow := Since.cell H7.out HROW.out
            have E57 := Lib.hid (E56.out.below B7.out)
            have E67 := Lib.hid (E6.out.below B7.out)
            have E7 := Lib.hid O7.out.els
            clear O7 B7 E56 E6 H6
            go_wp2_with fail
            refine (K4.out _ H7.out).mono ?_
            rintro e w8 ⟨a8, n8, c8, rfl, HN8, O8, B8⟩
            have H8 := Lib.hid (Since.step H7.out B8.out)
            have k5 := sameInts_make _ _ U U w8 (E57.out.below B8.out) (E67.out.below B8.out) (by omega) true (by simp)
            have k6 := fun W (h : Since w8 W) => sameInts_make _ _ V V W ((E7.out.below B8.out).below h) (O8.out.els.below h) (by omega) true (by simp)
            have K5 := Lib.hid k5
            have K6 := Lib.hid k6
            clear O8 B8 E57 E67 E7 H7 k5 k6 hrow
            go_wp2_with fail
            refine (K5.out).mono ?_
            rintro e w9 ⟨rfl, hB9⟩
            have B9 := Lib.hid hB9
            clear hB9
            go_wp2_with fail
            refine (K6.out _ B9.out).mono ?_
            rintro e w10 ⟨rfl, hB10⟩
            have H10 := Lib.hid (Since.step H8.out (Since.step B9.out hB10))
            clear hB10
            go_wp2
            go_roundw
            case rel => exact ⟨k + 1, by omega, by go_num, Lib.hid (Since.step hS.out H10.out)⟩
            case measure => simp [intOf]; omega
          · have hki : ¬ (k : Int) < 4 := by omega
            have HBw := Lib.hid (Since.step HB5.out hS.out)
            go_wp2_with fail
            refine (KL.out wr).mono ?_
            rintro e w15 ⟨rfl, B15⟩
            go_wp2
            go_ret
            exact ⟨rfl, Since.step HBw.out B15⟩

end Go.Proofs.Ytidnllddhhllcaa
