/- The law TaxonMakes. -/
import Derived.Test.YtidnllddhhllcaaTt
import Derived.Test.YtidnllddhhllcaaLaw05d
namespace Go.Proofs.Ytidnllddhhllcaa
open Go.RowKit Go.Shelf

/-- A table of lists of lists. -/
def LTab (G : Nat) (Qs : List (List (List Int))) (w : World) : Prop := ∀ (k : Nat) (Q : List (List Int)), Qs[k]? = some Q → ∃ a n c, w.cell? ⟨G, k, none⟩ = some (.slice a n c) ∧ LE w (.slice a n c) Q

theorem LTab.below {G : Nat} {Qs : List (List (List Int))} {w W : World} (h : LTab G Qs w) (hB : Below w.heap.size w W) : LTab G Qs W := fun k Q hk => by
  obtain ⟨a, n, c, hc, hL⟩ := h k Q hk
  exact ⟨a, n, c, Since.cell hB hc, LE.below hB hL⟩

theorem ltab_four {w : World} {a b c d : Value} {p q r s : List (List Int)} (T : TypeId) (ha : LE w a p) (hb : LE w b q) (hc : LE w c r) (hd : LE w d s) : LTab w.heap.size [p, q, r, s] (w.alloc (.cells #[a, b, c, d] T)) := by
  have hB := (Below.refl w.heap.size w).alloc (Nat.le_refl _) (.cells #[a, b, c, d] T)
  have hn := heap_new w (.cells #[a, b, c, d] T)
  have one : ∀ (v : Value) (l : List (List Int)), LE w v l → ∃ a' n' c', v = .slice a' n' c' ∧ LE (w.alloc (.cells #[a, b, c, d] T)) (.slice a' n' c') l := fun v l h => by
    obtain ⟨x, y, rfl⟩ := LIn.shape h
    exact ⟨x, _, y, rfl, LE.below hB h⟩
  intro k Q hk
  match k with
  | 0 => simp at hk; subst hk; obtain ⟨x, y, z, rfl, h⟩ := one a p ha; exact ⟨x, y, z, by unfold World.cell?; simp only [hn]; rfl, h⟩
  | 1 => simp at hk; subst hk; obtain ⟨x, y, z, rfl, h⟩ := one b q hb; exact ⟨x, y, z, by unfold World.cell?; simp only [hn]; rfl, h⟩
  | 2 => simp at hk; subst hk; obtain ⟨x, y, z, rfl, h⟩ := one c r hc; exact ⟨x, y, z, by unfold World.cell?; simp only [hn]; rfl, h⟩
  | 3 => simp at hk; subst hk; obtain ⟨x, y, z, rfl, h⟩ := one d s hd; exact ⟨x, y, z, by unfold World.cell?; simp only [hn]; rfl, h⟩
  | n + 4 => simp at hk

set_option maxHeartbeats 8000000 in
set_option maxRecDepth 100000 in
theorem law_makes (a0 : Option Addr) (len0 cap0 : Nat) (z0 : List Int) (a1 a2 a3 : Int) (w : World) (w0 : Came .i64 w a0 len0 cap0 z0) (w1 : (Lit.int .i64 a1).wf = true) (w2 : (Lit.int .i64 a2).wf = true) (w3 : (Lit.int .i64 a3).wf = true) :
    Calls Try.prog 3 #[.slice a0 len0 cap0, .int .i64 a1, .int .i64 a2, .int .i64 a3] w fun e w' => e = .returned (.bool true) ∧ Below w.heap.size w w' := by
  have k1 := Lib.hid (parents_any _ _ 9 w w0.els (came_wfs w0) (by decide) (by decide))
  have ks1 := fun (pv : Value) (P : List (List Int)) (W : World) (hL : LE W pv P) (hP : P.length ≤ 100) (hm : ∀ l ∈ P, RowOK 9 l) => spoilt_any pv P a1 a2 a3 9 W hL hP hm (by decide) w1 w2 w3
  have ks2 := fun (pv : Value) (P : List (List Int)) (W : World) (hL : LE W pv P) (hP : P.length ≤ 100) (hm : ∀ l ∈ P, RowOK 10 l) => spoilt_any pv P a2 a1 (wrap64 (a3.tdiv 5)) 10 W hL hP hm (by decide) w2 w1 (wrap64_wf _)
  have KS1 := Lib.hid ks1
  have KS2 := Lib.hid ks2
  have KL := Lib.hid lives05
  clear w0 w1 w2 w3 ks1 ks2
  go_enter Try.func3, Try.ntmps3
  go_wp2_with fail
  refine (k1.out).mono ?_
  rintro e w1 ⟨P, a4, n3, c3, rfl, hG, HN3, O3, B3⟩
  have hLE := O3.out.lin.le
  have HLE := Lib.hid hLE
  have k2 := Lib.hid (KS1.out _ P w1 hLE (by have := hG.le; omega) (genP_ok hG))
  have hp9 : Hid (∀ l ∈ P, l.length ≤ 1000) := fun l hl => by have := hG.short l hl; omega
  have hpl : P.length ≤ 9 := hG.le
  clear k1 O3 hG hLE KS1
  go_wp2_with fail
  refine (k2.out).mono ?_
  rintro e w2 ⟨Q, a5, n5, c5, rfl, hql, hqm, HN5, LQ, B5⟩
  have HB2 := Lib.hid (Since.step B3.out B5.out)
  have HL2 := Lib.hid (LE.below B5.out HLE.out)
  have k3 := Lib.hid (KS2.out _ Q w2 LQ.out hql hqm.out)
  clear k2 B3 B5 HLE KS2
  go_wp2_with fail
  refine (k3.out).mono ?_
  rintro e w3 ⟨R, a6, n6, c6, rfl, hrl, hrm, HN6, LR, B6⟩
  have HB3 := Lib.hid (Since.step HB2.out B6.out)
  have HT := Lib.hid (ltab_four (w := w3) 23 (LE.below B6.out HL2.out) (LE.below B6.out LQ.out) LR.out (show LE w3 (.slice none 0 0) [] from .inl ⟨.inl rfl, rfl⟩))
  have HQ : Hid (∀ (k : Nat) (X : List (List Int)), [P, Q, R, []][k]? = some X → X.length ≤ 100 ∧ ∀ l ∈ X, l.length ≤ 1000) := fun k X hk => by
    match k with
    | 0 => simp at hk; subst hk; exact ⟨by omega, hp9.out⟩
    | 1 => simp at hk; subst hk; exact ⟨hql, fun l hl => by have := (hqm.out l hl).1; omega⟩
    | 2 => simp at hk; subst hk; exact ⟨hrl, fun l hl => by have := (hrm.out l hl).1; omega⟩
    | 3 => simp at hk; subst hk; exact ⟨by simp, fun l hl => by simp at hl⟩
    | n + 4 => simp at hk
  have HSM : Hid (∀ k, k < 4 → ∃ X, [P, Q, R, []][k]? = some X) := fun k hk => ⟨_, List.getElem?_eq_getElem (by simp; omega)⟩
  have hbl := (Below.refl w3.heap.size w3).alloc (Nat.le_refl _) (.cells #[.slice a4 n3 c3, .slice a5 n5 c5, .slice a6 n6 c6, .slice none 0 0] 23)
  have HB4 := Lib.hid (Since.step HB3.out hbl)
  clear k3 B6 HB2 HL2 hbl hql hrl hpl hqm hrm hp9 LQ LR HB3
  go_wp2
  generalize [P, Q, R, []] = Qs at *
  generalize hG : w3.heap.size = G at *
  clear hG
  generalize w3.alloc (.cells #[.slice a4 n3 c3, .slice a5 n5 c5, .slice a6 n6 c6, .slice none 0 0] 23) = w4 at *
  go_loopw [12] (fun i wr => ∃ k : Nat, k ≤ 4 ∧ i = .int .i64 k ∧ Hid (Since w4 wr)) (fun i _ => 4 - (intOf i).toNat)
  case atStart => exact ⟨0, Nat.zero_le _, rfl, Lib.hid (Below.refl _ _)⟩
  case round =>
    obtain ⟨k, hk, rfl, hS⟩ := hrel
    by_cases hlt : k < 4
    · have hki : (k : Int) < 4 := by omega
      obtain ⟨X, hX⟩ := HSM.out k hlt
      obtain ⟨ax, nx, cx, hcx, hLX⟩ := (HT.out.below hS.out) k X hX
      obtain ⟨hx1, hx2⟩ := HQ.out k X hX
      have hnx := LIn.len hLX
      have k4 := new_any _ X wr hLX (by omega) (fun l hl => by have := hx2 l hl; omega)
      have k5 := fun W (h : Since wr W) => rcheck_any _ X W (LE.below h hLX) (by omega) hx2
      have k6 := fun N W (h : TxAt N X W) => tparents_any N X W h hx2
      have k7 := fun sv W (h : LE W sv X) (h2 : Since wr W) => rsame_any sv _ X X W h (LE.below h2 hLX) (by omega) hx2
      have HD : decide (X = X) = true := decide_eq_true rfl
      rw [HD] at k7
      generalize hE : Tx.newE X = E at *
      have hee : (E != E) = false := by simp
      have K4 := Lib.hid k4
      have K5 := Lib.hid k5
      have K6 := Lib.hid k6
      have K7 := Lib.hid k7
      have HCX := Lib.hid hcx
      have HNX := Lib.hid hnx
      have HEE := Lib.hid hE
      clear k4 k5 k6 k7 hx1 hx2 hLX hX HD hnx hE
      go_wp2_with fail
      refine (K4.out).mono ?_
      rintro e w5 hnew
      rcases hnew with ⟨hE0, rfl, HB5⟩ | ⟨hE0, N, rfl, HX5, HB5⟩
      · rw [HEE.out] at hE0 ⊢
        have hz : (E == 0) = false := beq_eq_false_iff_ne.2 hE0
        have hcx5 := Since.cell HB5.out HCX.out
        clear hE0 hcx
        go_wp2_with fail
        refine (K5.out _ HB5.out).mono ?_
        rintro e w6 ⟨rfl, B6⟩
        have HB6 := Lib.hid (Since.step HB5.out B6)
        clear B6
        go_wp2
        go_quiet (fail)
        go_wp2
        go_roundw
        case rel => exact ⟨k + 1, by omega, by go_num, Lib.hid (below_drewN (Since.step hS.out HB6.out) _)⟩
        case measure => simp [intOf]; omega
      · rw [HEE.out] at hE0
        subst hE0
        have hcx5 := Since.cell HB5.out HCX.out
        clear hcx
        go_wp2_with fail
        refine (K5.out _ HB5.out).mono ?_
        rintro e w6 ⟨rfl, B6⟩
        have hB6 := Since.step HB5.out B6
        have HX6 := Lib.hid (HX5.out.below B6)
        have HB6 := Lib.hid hB6
        have hcx6 := Since.cell hB6 HCX.out
        have hnn : ((nx : Int) != (nx : Int)) = false := by simp
        have hlen := fun W (h : Since w6 W) => tlen_any N X W (HX6.out.below h)
        rw [← HNX.out] at hlen
        have KLEN := Lib.hid hlen
        have hS0 : Since w6 w6 := Below.refl _ _
        have hSd : Since w6 w6.drew := Below.drew hS0
        clear B6 hcx5 hB6 hlen
        go_wp2
        go_region_held3 (fun w' => w'.cell? ⟨G, k, none⟩ = some (.slice ax nx cx) ∧ Since w6 w')
          (first | exact ⟨hcx6, hSd⟩ | exact ⟨Since.cell hB hcx6, hB⟩)
          ((first
            | (go_at_call 14; refine (KLEN.out _ (by first | exact hB | exact hSd)).mono ?_; rintro e w' ⟨rfl, rfl⟩)
            | (go_at_call 16; refine (K6.out N _ (HX6.out.below (by first | exact hB | exact hSd))).mono ?_; rintro e w' ⟨a7, c7, rfl, HL7, hr⟩; (first | (have hB := Since.step hB hr.out) | (have hB := Since.step hSd hr.out)); clear hr)
            | (go_at_call 15; refine (K7.out _ _ HL7.out.le (Since.step HB6.out hB)).mono ?_; rintro e w' ⟨rfl, hr⟩; have hB := Since.step hB hr; clear hr)))
        all_goals
          have HBB := Lib.hid hB
          clear hB hS0 hSd
          go_wp2
          go_roundw
          case rel => exact ⟨k + 1, by omega, by go_num, Lib.hid (Since.step hS.out (Since.step HB6.out HBB.out))⟩
          case measure => simp [intOf]; omega
    · have hki : ¬ (k : Int) < 4 := by omega
      have HBw := Lib.hid (Since.step HB4.out hS.out)
      go_wp2_with fail
      refine (KL.out wr).mono ?_
      rintro e w15 ⟨rfl, B15⟩
      go_wp2
      go_ret
      exact ⟨rfl, Since.step HBw.out B15⟩

end Go.Proofs.Ytidnllddhhllcaa
