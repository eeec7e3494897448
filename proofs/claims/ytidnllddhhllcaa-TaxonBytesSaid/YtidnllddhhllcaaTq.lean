/- The generator of taxonomies: Parents. -/
import Derived.Test.YtidnllddhhllcaaTp
namespace Go.Proofs.Ytidnllddhhllcaa
open Go.RowKit Go.Shelf

/-- Whether a class may be a parent of another one. -/
def befB (back : Bool) (c i : Nat) : Bool := if back = true then decide (i < c) else decide (c < i)

/-- The rows that were made. -/
def RowsOK (n : Nat) (back : Bool) (P : List (List Int)) : Prop := ∀ (i : Nat) (l : List Int), P[i]? = some l → Tx.okB n (-1) l = true ∧ l.length ≤ n ∧ ∀ x ∈ l, ∀ c : Nat, x = (c : Int) → befB back c i = true

theorem RowsOK.snoc {n : Nat} {back : Bool} {P : List (List Int)} (h : RowsOK n back P) {l : List Int} (h1 : Tx.okB n (-1) l = true) (h2 : l.length ≤ n) (h3 : ∀ x ∈ l, ∀ c : Nat, x = (c : Int) → befB back c P.length = true) : RowsOK n back (P ++ [l]) := by
  intro i l' hl
  by_cases hi : i < P.length
  · rw [List.getElem?_append_left hi] at hl
    exact h i l' hl
  · have hil := (List.getElem?_eq_some_iff.1 hl).1
    rw [List.length_append] at hil
    simp at hil
    have e : i = P.length := by omega
    subst e
    rw [List.getElem?_append_right (Nat.le_refl _)] at hl
    simp at hl
    subst hl
    exact ⟨h1, h2, h3⟩

theorem okB_snoc {n : Nat} : ∀ (l : List Int) (last x : Int), Tx.okB n last l = true → (∀ y ∈ l, y < x) → last < x → x < n → Tx.okB n last (l ++ [x]) = true
  | [], last, x, _, _, h1, h2 => by
    rw [List.nil_append]
    unfold Tx.okB
    rw [if_neg (by omega)]
    rfl
  | y :: ys, last, x, h, h0, h1, h2 => by
    rw [List.cons_append]
    unfold Tx.okB at h ⊢
    split at h
    · cases h
    · next hy =>
      rw [if_neg hy]
      exact okB_snoc ys y x h (fun z hz => h0 z (List.mem_cons_of_mem _ hz)) (h0 y (List.mem_cons_self)) h2

theorem rows_good {n : Nat} {back : Bool} {P : List (List Int)} (h : RowsOK n back P) (hn : P.length = n) (h64 : n ≤ 64) : Tx.Good P where
  len := by omega
  ok := List.all_eq_true.2 fun l hl => by
    obtain ⟨i, hi⟩ := List.getElem?_of_mem hl
    rw [hn]
    exact (h i l hi).1
  acy := by
    have hstep : ∀ {c p : Nat}, (p : Int) ∈ Tx.row P c → befB back p c = true := fun {c p} hp => by
      obtain ⟨l, hl, hx⟩ := Tx.row_mem hp
      exact (h c l hl).2.2 _ hx p rfl
    cases back with
    | false =>
      have hle : ∀ {c d : Nat}, Tx.Inh P c d → d ≤ c := fun {c d} hi => by
        induction hi with
        | refl => exact Nat.le_refl _
        | step hp _ ih => have := of_decide_eq_true (hstep hp); omega
      rintro ⟨c, p, hp, hi⟩
      have h1 := of_decide_eq_true (hstep hp)
      have h2 := hle hi
      omega
    | true =>
      have hle : ∀ {c d : Nat}, Tx.Inh P c d → c ≤ d := fun {c d} hi => by
        induction hi with
        | refl => exact Nat.le_refl _
        | step hp _ ih => have := of_decide_eq_true (hstep hp); omega
      rintro ⟨c, p, hp, hi⟩
      have h1 := of_decide_eq_true (hstep hp)
      have h2 := hle hi
      omega

/-- The row that is being made. -/
structure RowC (n : Nat) (back : Bool) (k c : Nat) (zl : List Int) : Prop where
  ok : Tx.okB n (-1) zl = true
  len : zl.length ≤ c
  mem : ∀ x ∈ zl, x < (c : Int) ∧ ∀ d : Nat, x = (d : Int) → befB back d k = true

theorem RowC.nil (n : Nat) (back : Bool) (k : Nat) : RowC n back k 0 [] := ⟨rfl, Nat.le_refl _, fun x h => by cases h⟩

theorem RowC.skip {n : Nat} {back : Bool} {k c : Nat} {zl : List Int} (h : RowC n back k c zl) : RowC n back k (c + 1) zl := ⟨h.ok, Nat.le_succ_of_le h.len, fun x hx => ⟨by have := (h.mem x hx).1; omega, (h.mem x hx).2⟩⟩

theorem RowC.push {n : Nat} {back : Bool} {k c : Nat} {zl : List Int} (h : RowC n back k c zl) (hc : c < n) (hb : befB back c k = true) : RowC n back k (c + 1) (zl ++ [(c : Int)]) where
  ok := okB_snoc zl (-1) c h.ok (fun y hy => (h.mem y hy).1) (by omega) (by omega)
  len := by rw [List.length_append]; exact Nat.succ_le_succ h.len
  mem := fun x hx => by
    rcases List.mem_append.1 hx with hx | hx
    · exact ⟨by have := (h.mem x hx).1; omega, (h.mem x hx).2⟩
    · simp at hx
      subst hx
      exact ⟨by omega, fun d hd => by have : c = d := by omega
                                      rw [← this]; exact hb⟩

/-- A row apart from the rows that were made before. -/
theorem own_apart {B : Nat} {E : TypeId} {w wo W : World} {v x : Value} {P : List (List Int)} {zs : List Int} (h : LOwn B wo v P) (hx : Own .i64 E wo.heap.size W x zs) (hB : Below w.heap.size w wo) (hw : B = w.heap.size := by rfl) : EIn (fun b => B ≤ b ∧ v.ownBlock ≠ some b) W x zs := by
  obtain ⟨vs, hO, _, _⟩ := h
  refine hx.ein.mono fun b _ hb => ⟨by have := hB.size; omega, fun e => ?_⟩
  have := (World.ownsRow.lt hO b e).2
  omega

/-- What Parents leaves. -/
def GenPost (most : Nat) (w : World) (e : Ending) (w' : World) : Prop :=
  ∃ P a n c, e = .returned (.slice a n c) ∧ GenP most P ∧ Hid (n = P.length) ∧ Hid (LOwn w.heap.size w' (.slice a n c) P) ∧ Hid (Below w.heap.size w w')

set_option maxHeartbeats 8000000 in
set_option maxRecDepth 100000 in
theorem parents_any (sv : Value) (zs : List Int) (most : Nat) (w : World) (hl : Els .i64 w sv zs) (hw : Wfs zs) (h1 : 1 ≤ most) (hm : most ≤ 60) :
    Calls Try.prog 10 #[sv, .int .i64 (most : Int)] w (GenPost most w) := by
  obtain ⟨a, cap, rfl⟩ := hl.shape
  have k0 := pick_any _ zs 0 (most : Int) w hl hw (by omega) (by omega) (by omega)
  have k1 := pick_any _ zs 1 2 w hl hw (by omega) (by omega) (by omega)
  have k2 := fun (W : World) (hB : Below w.heap.size w W) (i : Nat) (hi : i ≤ 1000) => pick_any _ zs i 1048576 W (hl.below hB) hw (by omega) (by omega) (by omega)
  have hr0 := pickI_range zs 0 (most : Int) (by omega)
  have hr2 := fun i => pickI_range zs i 1048576 (by omega)
  have K2 := Lib.hid k2
  have HR2 := Lib.hid hr2
  generalize pickI zs 0 (most : Int) = n0 at *
  generalize pickI zs 1 2 = b0 at *
  generalize zs.length = m at *
  obtain ⟨q, rfl⟩ := Int.eq_ofNat_of_zero_le hr0.1
  have hq : q < most := by omega
  have K0 := Lib.hid k0
  have K1 := Lib.hid k1
  clear k0 k1 k2 hr2 hl hw hr0
  go_enter Try.func10, Try.ntmps10
  go_wp2_with fail
  refine (K0.out).mono ?_
  rintro e w' ⟨rfl, rfl⟩
  go_wp2_with fail
  refine (K1.out).mono ?_
  rintro e w' ⟨rfl, rfl⟩
  go_wp2
  generalize hback : (b0 == 1) = back at *
  clear hback K0 K1
  go_loopw [7, 8] (fun v i wr => ∃ k : Nat, k ≤ q + 1 ∧ i = .int .i64 k ∧ ∃ ao no co P, v = .slice ao no co ∧ Hid (no = P.length) ∧ Hid (P.length = k) ∧ Hid (RowsOK (q + 1) back P) ∧ Hid (LOwn w.heap.size wr (.slice ao no co) P) ∧ Hid (Below w.heap.size w wr)) (fun _ i _ => (q + 1) - (intOf i).toNat)
  case atStart => exact ⟨0, Nat.zero_le _, rfl, none, 0, 0, [], rfl, rfl, rfl, Lib.hid fun i l h => by simp at h, Lib.hid (LOwn.nil _ _), Lib.hid (Below.refl _ _)⟩
  case round =>
    obtain ⟨k, hk, rfl, ao, no, co, P, rfl, hno, hPk, hR, hO, hB⟩ := hrel
    by_cases hlt : k < q + 1
    · have k3 := K2.out wr hB.out (2 + k) (by omega)
      rw [Int.natCast_add] at k3
      obtain ⟨hr1, hr2⟩ := HR2.out (2 + k)
      generalize pickI zs (2 + k) 1048576 = kk at *
      have K3 := Lib.hid k3
      have hki : (k : Int) < 1 + q := by omega
      clear k3
      go_wp2_with fail
      refine (K3.out).mono ?_
      rintro e w' ⟨rfl, rfl⟩
      go_wp2
      rename World => wo
      have HI0 := Lib.hid Try.infoI64
      clear K3 hr1 hr2 HR2
      go_loopw [10, 11] (fun v i wr => ∃ c : Nat, c ≤ q + 1 ∧ i = .int .i64 c ∧ ∃ ap np cp zl, v = .slice ap np cp ∧ Hid (np = zl.length) ∧ Hid (RowC (q + 1) back k c zl) ∧ Hid (Own .i64 3 wo.heap.size wr (.slice ap np cp) zl) ∧ Hid (Below wo.heap.size wo wr)) (fun _ i _ => (q + 1) - (intOf i).toNat)
      case atStart => exact ⟨0, Nat.zero_le _, rfl, none, 0, 0, [], rfl, rfl, Lib.hid (RowC.nil _ _ _), Lib.hid (World.ownsRow_nil _ _ _ _), Lib.hid (Below.refl _ _)⟩
      case round =>
        obtain ⟨c, hc, rfl, ap, np, cp, zl, rfl, hnp, hRC, hOp, hBp⟩ := hrel
        by_cases hlt2 : c < q + 1
        · have hci : (c : Int) < 1 + q := by omega
          by_cases hbf : befB back c k = true
          · have HBF := Lib.hid hbf
            unfold befB at hbf
            cases back
            case false =>
              simp only [Bool.false_eq_true, if_false] at hbf
              go_wp2_with (at_builtin; refine push_own rfl _ _ 22 rfl .i64 3 8 Try.underlying22 HI0.out (by decide) wo.heap.size (.slice ap np cp) zl _ _ rfl rfl hOp.out hBp.out.size (by have := hRC.out.len; omega) ?_; intro a2 n2 c2 w2 hn2 hO2 hB2)
              · go_roundw
                case rel => exact ⟨c + 1, by omega, by go_num, a2, n2, c2, zl ++ [(c : Int)], rfl, Lib.hid (by rw [List.length_append]; exact hn2.out), Lib.hid (hRC.out.push hlt2 HBF.out), hO2, Lib.hid (hBp.out.trans hB2.out)⟩
                case measure => simp [intOf]; omega
              · go_roundw
                case rel => exact ⟨c + 1, by omega, by go_num, ap, np, cp, zl, rfl, hnp, Lib.hid hRC.out.skip, hOp, hBp⟩
                case measure => simp [intOf]; omega
            case true =>
              simp only [if_true] at hbf
              have hbf2 : decide (c > k) = true := hbf
              clear hbf
              go_wp2_with (at_builtin; refine push_own rfl _ _ 22 rfl .i64 3 8 Try.underlying22 HI0.out (by decide) wo.heap.size (.slice ap np cp) zl _ _ rfl rfl hOp.out hBp.out.size (by have := hRC.out.len; omega) ?_; intro a2 n2 c2 w2 hn2 hO2 hB2)
              · go_roundw
                case rel => exact ⟨c + 1, by omega, by go_num, a2, n2, c2, zl ++ [(c : Int)], rfl, Lib.hid (by rw [List.length_append]; exact hn2.out), Lib.hid (hRC.out.push hlt2 HBF.out), hO2, Lib.hid (hBp.out.trans hB2.out)⟩
                case measure => simp [intOf]; omega
              · go_roundw
                case rel => exact ⟨c + 1, by omega, by go_num, ap, np, cp, zl, rfl, hnp, Lib.hid hRC.out.skip, hOp, hBp⟩
                case measure => simp [intOf]; omega
          · have hbf' : befB back c k = false := by simpa using hbf
            clear hbf
            unfold befB at hbf'
            cases back
            case false =>
              simp only [Bool.false_eq_true, if_false] at hbf'
              go_wp2_with (at_builtin; refine push_own rfl _ _ 22 rfl .i64 3 8 Try.underlying22 HI0.out (by decide) wo.heap.size (.slice ap np cp) zl _ _ rfl rfl hOp.out hBp.out.size (by have := hRC.out.len; omega) ?_; intro a2 n2 c2 w2 hn2 hO2 hB2)
              · go_roundw
                case rel => exact ⟨c + 1, by omega, by go_num, ap, np, cp, zl, rfl, hnp, Lib.hid hRC.out.skip, hOp, hBp⟩
                case measure => simp [intOf]; omega
            case true =>
              simp only [if_true] at hbf'
              have hbf2 : decide (c > k) = false := hbf'
              clear hbf'
              go_wp2_with (at_builtin; refine push_own rfl _ _ 22 rfl .i64 3 8 Try.underlying22 HI0.out (by decide) wo.heap.size (.slice ap np cp) zl _ _ rfl rfl hOp.out hBp.out.size (by have := hRC.out.len; omega) ?_; intro a2 n2 c2 w2 hn2 hO2 hB2)
              · go_roundw
                case rel => exact ⟨c + 1, by omega, by go_num, ap, np, cp, zl, rfl, hnp, Lib.hid hRC.out.skip, hOp, hBp⟩
                case measure => simp [intOf]; omega
        · have hci : ¬ (c : Int) < 1 + q := by omega
          have hcq : c = q + 1 := by omega
          subst hcq
          have hEp : EIn (fun b => w.heap.size ≤ b ∧ (Value.slice ao no co).ownBlock ≠ some b) wr (.slice ap np cp) zl := own_apart hO.out hOp.out hB.out
          have HEp := Lib.hid hEp
          have HO2 := Lib.hid (hO.out.below hBp.out)
          have HB2 := Lib.hid (Since.step hB.out hBp.out)
          clear hEp
          go_wp2_with (at_builtin; refine push_list rfl _ _ rfl w.heap.size (.slice ao no co) P zl _ _ rfl _ rfl rfl HO2.out HB2.out.size (by have := hPk.out; omega) HEp.out ?_; intro a3 n3 c3 w3 hn3 hO3 hB3)
          go_roundw
          case rel => exact ⟨k + 1, by omega, by go_num, a3, n3, c3, P ++ [zl], rfl, Lib.hid (by rw [List.length_append]; exact hn3.out), Lib.hid (by rw [List.length_append, hPk.out]; rfl), Lib.hid (hR.out.snoc hRC.out.ok hRC.out.len (by rw [hPk.out]; exact fun x hx => (hRC.out.mem x hx).2)), hO3, Lib.hid (HB2.out.trans hB3.out)⟩
          case measure => simp [intOf]; omega
    · have hki : ¬ (k : Int) < 1 + q := by omega
      have hkq : k = q + 1 := by omega
      have HKQ := Lib.hid hkq
      clear hkq
      go_wp2
      go_ret
      have h2 := hR.out
      have h3 : P.length = q + 1 := hPk.out.trans HKQ.out
      exact ⟨P, ao, no, co, rfl, ⟨rows_good h2 h3 (by omega), by omega, by omega, fun l hl => by
        obtain ⟨i, hi⟩ := List.getElem?_of_mem hl
        have := (h2 i l hi).2.1
        omega⟩, hno, hO, hB⟩

end Go.Proofs.Ytidnllddhhllcaa
