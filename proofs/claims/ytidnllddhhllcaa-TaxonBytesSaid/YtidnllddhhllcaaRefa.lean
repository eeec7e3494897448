/- The reference of taxon: reach. -/
import Derived.Test.YtidnllddhhllcaaTi
namespace Go.Proofs.Ytidnllddhhllcaa
open Go.RowKit Go.Shelf

theorem hasB_mem {L : List Int} {x : Int} : hasB L x = true ↔ x ∈ L := by
  unfold hasB
  rw [List.any_eq_true]
  constructor
  · rintro ⟨z, hz, h⟩
    have : z = x := by simpa using h
    rw [← this]; exact hz
  · intro h; exact ⟨x, h, by simp⟩

/-- What reach has found. -/
structure RInv (P : List (List Int)) (zs L : List Int) (i : Nat) : Prop where
  sub : ∀ z ∈ zs, z ∈ L
  reach : ∀ x ∈ L, ∃ z ∈ zs, ∃ c d : Nat, z = c ∧ x = d ∧ Tx.Inh P c d
  rng : ∀ x ∈ L, 0 ≤ x ∧ x < P.length
  up : ∀ j, j < i → ∀ y ∈ Tx.row P (L[j]?.getD 0).toNat, y ∈ L
  len : L.length + Tx.left (gB L) P.length ≤ zs.length + P.length

theorem left_le (E : Nat → Bool) (n : Nat) : Tx.left E n ≤ n := by
  unfold Tx.left
  exact Nat.le_trans (List.length_filter_le _ _) (by simp)

theorem RInv.start {P : List (List Int)} {zs : List Int} (h : ∀ z ∈ zs, 0 ≤ z ∧ z < P.length) : RInv P zs zs 0 where
  sub := fun _ h => h
  reach := fun x hx => ⟨x, hx, x.toNat, x.toNat, by have := h x hx; omega, by have := h x hx; omega, .refl _⟩
  rng := h
  up := fun j hj => by omega
  len := by have := left_le (gB zs) P.length; omega

theorem RInv.push {P : List (List Int)} {zs L : List Int} {i c : Nat} {y : Int} (hok : Tx.okAll P.length P = true) (h : RInv P zs L i) (hc : L[i]? = some (c : Int)) (hy : y ∈ Tx.row P c) (hn : y ∉ L) : RInv P zs (L ++ [y]) i where
  sub := fun z hz => List.mem_append_left _ (h.sub z hz)
  reach := fun x hx => by
    rcases List.mem_append.1 hx with hx | hx
    · exact h.reach x hx
    · simp at hx
      subst hx
      obtain ⟨z, hz, a, d, rfl, hd, hi⟩ := h.reach _ (List.mem_of_getElem? hc)
      have hyr := Tx.ok_row hok hy
      obtain ⟨q, rfl⟩ := Int.eq_ofNat_of_zero_le hyr.1
      have : d = c := by omega
      subst this
      exact ⟨(a : Int), hz, a, q, rfl, rfl, hi.trans (.one hy)⟩
  rng := fun x hx => by
    rcases List.mem_append.1 hx with hx | hx
    · exact h.rng x hx
    · simp at hx; subst hx; exact Tx.ok_row hok hy
  up := fun j hj z hz => by
    have hil := (List.getElem?_eq_some_iff.1 hc).1
    rw [List.getElem?_append_left (by omega)] at hz
    exact List.mem_append_left _ (h.up j hj z hz)
  len := by
    have hyr := Tx.ok_row hok hy
    obtain ⟨q, rfl⟩ := Int.eq_ofNat_of_zero_le hyr.1
    have e : gB (L ++ [(q : Int)]) = Tx.put (gB L) q := by
      funext x
      apply Bool.eq_iff_iff.2
      rw [gB_iff]
      by_cases hx : x = q
      · subst hx
        rw [Tx.put_same]
        exact ⟨fun _ => rfl, fun _ => ⟨(x : Int), by simp, by simp⟩⟩
      · rw [Tx.put_other hx, gB_iff]
        constructor
        · rintro ⟨z, hz, he⟩
          rcases List.mem_append.1 hz with hz | hz
          · exact ⟨z, hz, he⟩
          · simp at hz; subst hz; exact absurd (by simpa using he.symm) hx
        · rintro ⟨z, hz, he⟩; exact ⟨z, List.mem_append_left _ hz, he⟩
    have hq : gB L q = false := by
      rw [← Bool.not_eq_true, gB_iff]
      rintro ⟨z, hz, he⟩
      have := h.rng z hz
      exact hn (by rw [show (q : Int) = z by omega]; exact hz)
    have hlt := Tx.left_put hq P.length (by omega)
    rw [e, List.length_append]
    have := h.len
    simp
    omega

theorem RInv.next {P : List (List Int)} {zs L : List Int} {i c : Nat} (h : RInv P zs L i) (hc : L[i]? = some (c : Int)) (hall : ∀ y ∈ Tx.row P c, y ∈ L) : RInv P zs L (i + 1) := ⟨h.sub, h.reach, h.rng, fun j hj y hy => by
  by_cases e : j = i
  · subst e
    rw [hc] at hy
    exact hall y hy
  · exact h.up j (by omega) y hy, h.len⟩

theorem RInv.done {P : List (List Int)} {zs L : List Int} {i : Nat} (h : RInv P zs L i) (hi : L.length ≤ i) (x : Nat) : hasB L (x : Int) = anyB (Tx.inh P) zs x := by
  apply Bool.eq_iff_iff.2
  rw [hasB_mem, anyB_iff]
  constructor
  · intro hx
    obtain ⟨z, hz, c, d, rfl, hd, hi⟩ := h.reach _ hx
    have : d = x := by omega
    subst this
    exact ⟨c, gB_iff.2 ⟨_, hz, by simp⟩, Tx.inh_eq.2 hi⟩
  · rintro ⟨c, hc, hx⟩
    obtain ⟨z, hz, rfl⟩ := gB_iff.1 hc
    have hz0 := h.rng z (h.sub z hz)
    have hclo : ∀ {a b : Nat}, Tx.Inh P a b → (a : Int) ∈ L → (b : Int) ∈ L := fun {a b} hab => by
      induction hab with
      | refl => exact fun h => h
      | step hp _ ih =>
        intro ha
        obtain ⟨j, hj⟩ := List.getElem?_of_mem ha
        have hjl := (List.getElem?_eq_some_iff.1 hj).1
        exact ih (h.up j (by omega) _ (by rw [hj]; exact hp))
    exact hclo (Tx.inh_eq.1 hx) (by rw [show ((z.toNat : Nat) : Int) = z by omega]; exact h.sub z hz)

/-- What reach leaves. -/
def ReachPost (P : List (List Int)) (zs : List Int) (w : World) (e : Ending) (w' : World) : Prop := ∃ L, (∀ x : Nat, hasB L (x : Int) = anyB (Tx.inh P) zs x) ∧ (∀ x ∈ L, 0 ≤ x ∧ x < P.length) ∧ L.length ≤ zs.length + P.length ∧ Makes .i64 3 L w e w'

set_option maxHeartbeats 8000000 in
set_option maxRecDepth 100000 in
theorem reach_any (pv sv : Value) (P : List (List Int)) (zs : List Int) (w : World) (hL : LE w pv P) (hl : Els .i64 w sv zs) (hz : ∀ z ∈ zs, 0 ≤ z ∧ z < P.length) (hlen : zs.length ≤ 1000) (h64 : P.length ≤ 64) (hok : Tx.okAll P.length P = true) (hsh : ∀ c, (Tx.row P c).length ≤ 100000) :
    Calls Try.prog 41 #[pv, sv] w (ReachPost P zs w) := by
  obtain ⟨pa, pc, rfl⟩ := LIn.shape hL
  obtain ⟨a, cap, rfl⟩ := hl.shape
  have HL := Lib.hid hL
  have HE := Lib.hid hl
  have HOK := Lib.hid hok
  have HSH := Lib.hid hsh
  have HI0 := Lib.hid Try.infoI64
  have HR0 := Lib.hid (RInv.start hz)
  have hn := rfl (a := P.length)
  generalize hP : P.length = n at *
  generalize hm : zs.length = m at *
  have HP := Lib.hid hP
  have HM := Lib.hid hm
  clear hL hl hz hok hsh hP hm hn
  go_enter Try.func41, Try.ntmps41
  have hbx := (Below.refl w.heap.size w).alloc (Nat.le_refl _) (.cells #[] 3)
  have HBX := Lib.hid hbx
  have HO0 := Lib.hid (show Own .i64 3 w.heap.size (w.alloc (.cells #[] 3)) (.slice (some ⟨w.heap.size, 0, none⟩) 0 0) [] from World.ownsRow_made w #[] 0 (Nat.le_refl _) (Nat.zero_le _) rfl)
  have HE0 := Lib.hid (HE.out.below hbx)
  clear hbx
  go_wp2_with (at_builtin; go_loud (refine push_all rfl _ _ 22 rfl .i64 3 8 Try.underlying22 HI0.out (by decide) w.heap.size _ [] _ zs rfl rfl HO0.out HE0.out HBX.out.size (by have := HM.out; simp; omega) ?_); intro a2 n2 c2 w2 hn2 hO2 hB2)
  have HB2 := Lib.hid (HBX.out.trans hB2.out)
  have hO2' := hO2.out
  rw [List.nil_append] at hO2'
  have HO2 := Lib.hid hO2'
  have HN2 := Lib.hid (show n2 = zs.length by simpa using hn2.out)
  clear hO2 hO2' hB2 hn2 HO0 HE0 HBX
  go_loopw [5, 6] (fun v i wr => ∃ k : Nat, i = .int .i64 k ∧ ∃ ao no co L, v = .slice ao no co ∧ Hid (no = L.length) ∧ k ≤ no ∧ no ≤ m + n ∧ Hid (RInv P zs L k) ∧ Hid (Own .i64 3 w.heap.size wr (.slice ao no co) L) ∧ Hid (Below w.heap.size w wr)) (fun _ i _ => (m + n) - (intOf i).toNat)
  case atStart => exact ⟨0, rfl, a2, n2, c2, zs, rfl, HN2, Nat.zero_le _, by rw [HN2.out, HM.out]; omega, HR0, HO2, HB2⟩
  case round =>
    obtain ⟨k, rfl, ao, no, co, L, rfl, hno, hk, hmn, hR, hO, hB⟩ := hrel
    by_cases hlt : k < no
    · have hki : (k : Int) < no := by omega
      have hmem : L[k]?.getD 0 ∈ L := by rw [List.getElem?_eq_getElem (by rw [← hno.out]; exact hlt)]; exact List.getElem_mem _
      have hrg := hR.out.rng _ hmem
      obtain ⟨c, hc⟩ := Int.eq_ofNat_of_zero_le hrg.1
      have hcs : Hid (L[k]? = some (c : Int)) := by
        show L[k]? = _
        rw [← hc, List.getElem?_eq_getElem (by rw [← hno.out]; exact hlt)]; rfl
      have hcn : c < n := by rw [HP.out] at hrg; omega
      obtain ⟨b, aj, nj, cj, rfl, hrow, hER, hnj, -⟩ := LIn.at HL.out c hcn
      have hnj2 : nj ≤ 100000 := by rw [hnj]; exact HSH.out c
      have HNJ := Lib.hid hnj
      have HERW := Lib.hid hER.els
      have HROW := Lib.hid hrow
      have hci : (c : Int) < n := by omega
      clear hmem hrg hc hrow hER hnj
      go_wp2
      go_loopw [5, 7] (fun v i wr => ∃ j : Nat, j ≤ nj ∧ i = .int .i64 j ∧ ∃ ao no co L, v = .slice ao no co ∧ Hid (no = L.length) ∧ k < no ∧ no ≤ m + n ∧ Hid (L[k]? = some (c : Int)) ∧ Hid (RInv P zs L k) ∧ Hid (∀ q, q < j → (Tx.row P c)[q]?.getD 0 ∈ L) ∧ Hid (Own .i64 3 w.heap.size wr (.slice ao no co) L) ∧ Hid (Below w.heap.size w wr)) (fun _ i _ => nj - (intOf i).toNat)
      case atStart => exact ⟨0, Nat.zero_le _, rfl, ao, no, co, L, rfl, hno, hlt, hmn, hcs, hR, Lib.hid fun q hq => by omega, hO, hB⟩
      case round =>
        obtain ⟨j, hj, rfl, ao, no, co, L, rfl, hno, hlt, hmn, hcs, hR, hall, hO, hB⟩ := hrel
        have hki : (k : Int) < no := by omega
        obtain ⟨b1, off1, he1, hck⟩ := hO.out.els.at k hlt
        subst he1
        have hcz : L[k]?.getD 0 = (c : Int) := by rw [hcs.out]; rfl
        rw [hcz] at hck
        have hrow := Since.cell hB.out HROW.out
        clear hcz
        by_cases hlt2 : j < nj
        · have hji : (j : Int) < nj := by omega
          obtain ⟨b2, off2, he2, hcy⟩ := (HERW.out.below hB.out).at j hlt2
          subst he2
          have hymem : (Tx.row P c)[j]?.getD 0 ∈ Tx.row P c := by rw [List.getElem?_eq_getElem (by rw [← HNJ.out]; exact hlt2)]; exact List.getElem_mem _
          have hall2 : ∀ L' : List Int, (∀ x ∈ L, x ∈ L') → (Tx.row P c)[j]?.getD 0 ∈ L' → ∀ q, q < j + 1 → (Tx.row P c)[q]?.getD 0 ∈ L' := fun L' h1 h2 q hq => by
            by_cases e : q = j
            · subst e; exact h2
            · exact h1 _ (hall.out q (by omega))
          generalize (Tx.row P c)[j]?.getD 0 = y at *
          have HYM := Lib.hid hymem
          have HAL := Lib.hid hall2
          have k1 := has_any _ L y wr hO.out.els (by rw [← hno.out]; omega)
          clear hymem hall2
          by_cases hy : hasB L y = true
          · rw [hy] at k1
            have K1 := Lib.hid k1
            have HY := Lib.hid (hasB_mem.1 hy)
            clear k1 hy
            go_wp2_with fail
            refine (K1.out).mono ?_
            rintro e w' ⟨rfl, rfl⟩
            go_wp2
            go_roundw
            case rel => exact ⟨j + 1, by omega, by go_num, _, no, co, L, rfl, hno, hlt, hmn, hcs, hR, Lib.hid (HAL.out L (fun x hx => hx) HY.out), hO, hB⟩
            case measure => simp [intOf]; omega
          · have hy' : hasB L y = false := by simpa using hy
            rw [hy'] at k1
            have K1 := Lib.hid k1
            have hnm : y ∉ L := fun h => hy (hasB_mem.2 h)
            have hpush := hR.out.push (by rw [HP.out]; exact HOK.out) hcs.out HYM.out hnm
            have HPU := Lib.hid hpush
            clear k1 hy hy' hnm hpush
            go_wp2_with fail
            refine (K1.out).mono ?_
            rintro e w' ⟨rfl, rfl⟩
            go_wp2_with (at_builtin; refine push_own rfl _ _ 22 rfl .i64 3 8 Try.underlying22 HI0.out (by decide) w.heap.size (.slice (some ⟨b1, off1, none⟩) no co) L _ _ rfl rfl hO.out hB.out.size (by rw [← hno.out]; omega) ?_; intro a3 n3 c3 w3 hn3 hO3 hB3)
            go_roundw
            case rel => exact ⟨j + 1, by omega, by go_num, a3, n3, c3, L ++ [y], rfl, Lib.hid (by rw [List.length_append]; exact hn3.out), by rw [hn3.out, ← hno.out]; omega, by have := HPU.out.len; rw [List.length_append, HP.out, HM.out] at this; rw [hn3.out]; simp at this; omega, Lib.hid (by rw [List.getElem?_append_left (by rw [← hno.out]; exact hlt)]; exact hcs.out), HPU, Lib.hid (HAL.out (L ++ [y]) (fun x hx => List.mem_append_left _ hx) (by simp)), hO3, Lib.hid (hB.out.trans hB3.out)⟩
            case measure => simp [intOf]; omega
        · have hji : ¬ (j : Int) < nj := by omega
          have hnx := hR.out.next hcs.out (fun y hy => by
            obtain ⟨q, hq⟩ := List.getElem?_of_mem hy
            have hql := (List.getElem?_eq_some_iff.1 hq).1
            have := hall.out q (by rw [← HNJ.out] at hql; omega)
            rw [hq] at this
            exact this)
          have HNX := Lib.hid hnx
          clear hnx
          go_wp2
          go_roundw
          case rel => exact ⟨k + 1, by go_num, _, no, co, L, rfl, hno, by omega, hmn, HNX, hO, hB⟩
          case measure => simp [intOf]; omega
    · have hki : ¬ (k : Int) < no := by omega
      go_wp2
      go_ret
      exact ⟨L, fun x => hR.out.done (by rw [← hno.out]; omega) x, hR.out.rng, by have := hR.out.len; omega, ao, no, co, rfl, hno, hO, hB⟩

end Go.Proofs.Ytidnllddhhllcaa
