/- Contracts of package taxon: Least. -/
import Derived.Test.YtidnllddhhllcaaTz
import Derived.Test.YtidnllddhhllcaaTn
import Derived.Deep.WholeRow
namespace Go.Proofs.Ytidnllddhhllcaa
open Go.RowKit Go.Shelf

/-- A whole array into a new one: the law at the operation. -/
theorem wpList_store_arr {ops : Array Oper} {rest : List Oper} {o : Oper} {a : Act} {w : World} {Q : Exit → Act → World → Prop} (hgd : o.guard = none) (x y : Operand) (ho : o.op = .store 68 x y) (f g : Nat → Bool)
    (hx : a.eval x = .pointer (some ⟨w.heap.size, 0, none⟩)) (hy : a.eval y = .agg (bl g).toArray) (h : wpList Try.prog ops Q rest (a.put o.dst undef) (arr w g)) : wpList Try.prog ops Q (o :: rest) a (arr w f) :=
  wpList_plain hgd fun _ hK => by
    unfold Oper.wp execOp
    have hr := run_storeAt_new (P := Try.prog) w 68 (bl f).toArray (bl g).toArray (by simpa using (bits_bl g).size) (by simp [bl_len]) (all_oneCell_toArray (bl_one g))
    unfold arr at *
    simp only [ho, hx, hy, Sem.run_bind, hr, Result.andThen_ok]
    exact hK _ _ h

/-- The classes of a list. -/
def gB (zs : List Int) (d : Nat) : Bool := zs.any fun z => decide (z.toNat = d)

theorem gB_snoc {zs : List Int} {k : Nat} (hk : k < zs.length) (d : Nat) : gB (zs.take (k + 1)) d = (gB (zs.take k) d || decide ((zs[k]?.getD 0).toNat = d)) := by
  unfold gB
  rw [List.take_add_one, List.any_append, List.getElem?_eq_getElem hk]
  simp

/-- What is left behind k classes. -/
noncomputable def leftB (P : List (List Int)) (g : Nat → Bool) (S : List Int) (k : Nat) (d : Nat) : Bool := g d && !((S.take k).any fun c => decide (c.toNat ≠ d) && Tx.inh P c.toNat d)

theorem leftB_snoc {P : List (List Int)} {g : Nat → Bool} {S : List Int} {k : Nat} (hk : k < S.length) (d : Nat) : leftB P g S (k + 1) d = (leftB P g S k d && !(decide ((S[k]?.getD 0).toNat ≠ d) && Tx.inh P (S[k]?.getD 0).toNat d)) := by
  unfold leftB
  rw [List.take_add_one, List.any_append, List.getElem?_eq_getElem hk]
  simp
  cases g d <;> cases ((S.take k).any fun c => !decide (c.toNat = d) && Tx.inh P c.toNat d) <;> simp

/-- What Least returns. -/
noncomputable def leastL (P : List (List Int)) (zs : List Int) : List Int := if allB P.length zs = true then ones (leftB P (gB zs) (ones (gB zs) 64) (ones (gB zs) 64).length) 64 else []

theorem ones_mem {f : Nat → Bool} {k : Nat} {x : Int} : x ∈ ones f k ↔ ∃ d : Nat, x = d ∧ d < k ∧ f d = true := by
  unfold ones
  rw [List.mem_map]
  constructor
  · rintro ⟨d, hd, rfl⟩
    obtain ⟨h1, h2⟩ := List.mem_filter.1 hd
    exact ⟨d, rfl, by simpa using h1, h2⟩
  · rintro ⟨d, rfl, h1, h2⟩
    exact ⟨d, List.mem_filter.2 ⟨by simpa using h1, h2⟩, rfl⟩

/-- In the inner loop. -/
def midB (h : Nat → Bool) (S : List Int) (c j : Nat) (f : Nat → Bool) (d : Nat) : Bool := h d && !(((S.take j).any fun x => decide (x.toNat = d)) && decide (c ≠ d) && f d)

theorem midB_snoc {h : Nat → Bool} {S : List Int} {c j : Nat} {f : Nat → Bool} {x : Nat} (hx : S[j]? = some (x : Int)) (d : Nat) : midB h S c (j + 1) f d = (if d = x ∧ c ≠ x ∧ f x = true then false else midB h S c j f d) := by
  unfold midB
  rw [List.take_add_one, hx, List.any_append]
  by_cases e : d = x
  · subst e
    by_cases e2 : c = d
    · simp [e2]
    · cases f d <;> simp [e2]
  · have : ¬ x = d := fun h => e h.symm
    simp [e, this]

theorem midB_done {P : List (List Int)} {g : Nat → Bool} {k c : Nat} (hk : k < (ones g 64).length) (hc : (ones g 64)[k]?.getD 0 = (c : Int)) {d : Nat} (hd : d < 64) : midB (leftB P g (ones g 64) k) (ones g 64) c (ones g 64).length (Tx.inh P c) d = leftB P g (ones g 64) (k + 1) d := by
  rw [leftB_snoc hk, hc]
  unfold midB
  rw [List.take_length]
  by_cases hg : g d = true
  · have : ((ones g 64).any fun x => decide (x.toNat = d)) = true := List.any_eq_true.2 ⟨(d : Int), ones_mem.2 ⟨d, rfl, hd, hg⟩, by simp⟩
    rw [this]
    simp
  · have : leftB P g (ones g 64) k d = false := by unfold leftB; simp [hg]
    rw [this]
    simp

set_option maxHeartbeats 8000000 in
set_option maxRecDepth 100000 in
theorem tleast_any (N : Nat) (P : List (List Int)) (sv : Value) (zs : List Int) (w : World) (h : TxAt N P w) (hl : Els .i64 w sv zs) (hlen : zs.length ≤ 100000) :
    Calls Try.prog 27 #[.pointer (some ⟨N, 0, none⟩), sv] w (MakesE (leastL P zs) (noneE P.length zs) w) := by
  obtain ⟨a, cap, rfl⟩ := hl.shape
  obtain ⟨hg, pa, pc, A, ac, h0, h1, hA, hL, hR⟩ := h
  have k1 := thasAll_any _ zs N P.length pc pa w hl hlen h0
  unfold leastL noneE
  by_cases ha : allB P.length zs = true
  · rw [if_pos ha, if_pos ha]
    rw [ha] at k1
    have hmem := allB_mem ha
    have hn := hg.len
    have hcl := fun c (hc : c < P.length) d (hd : d < 64) => hR c hc d _ ((bits_bl (Tx.inh P c)).2 d hd)
    generalize hPn : P.length = n at *
    generalize hm : zs.length = m at *
    have HM := Lib.hid hm
    have HMEM := Lib.hid hmem
    have HCL := Lib.hid hcl
    have HE := Lib.hid hl
    have K1 := Lib.hid k1
    have HB0 := Lib.hid (Below.refl w.heap.size w)
    have hNb := block_there h1
    clear k1 hR hL hg h0 ha hl hm hmem hcl hPn
    go_enter Try.func27, Try.ntmps27
    go_wp2_with fail
    refine (K1.out).mono ?_
    rintro e w1 ⟨rfl, hB⟩
    have B1 := Lib.hid hB
    have HB1 := Lib.hid (HB0.out.trans (hB.mono HB0.out.size))
    clear hB
    go_upto_region 5 with (fail)
    go_loopw [21] (fun i wr => ∃ k : Nat, k ≤ m ∧ i = .int .i64 k ∧ wr = arr w1 (gB (zs.take k))) (fun i _ => m - (intOf i).toNat)
    case atStart => exact ⟨0, Nat.zero_le _, rfl, by rfl⟩
    case round =>
      obtain ⟨k, hk, rfl, rfl⟩ := hrel
      have HBA := Lib.hid (Since.step HB1.out (arr_below w1 (gB (zs.take k))))
      by_cases hlt : k < m
      · obtain ⟨b, off, rfl, hcl⟩ := HE.out.at k hlt
        have hce := Since.cell HBA.out hcl
        have hmz : zs[k]?.getD 0 ∈ zs := by rw [List.getElem?_eq_getElem (by rw [HM.out]; exact hlt)]; exact List.getElem_mem _
        have hzr := HMEM.out _ hmz
        have hsn := fun d => gB_snoc (zs := zs) (k := k) (by rw [HM.out]; exact hlt) d
        obtain ⟨x, hx⟩ := Int.eq_ofNat_of_zero_le hzr.1
        rw [hx] at hce hzr hsn
        have HSN := Lib.hid hsn
        have hx64 : x < 64 := by omega
        have hcx := arr_cell w1 (gB (zs.take k)) hx64
        have hst := arr_set w1 (gB (zs.take k)) x true
        obtain ⟨hcx, hfx⟩ := hcx
        have hki : (k : Int) < m := by omega
        have hxi : (x : Int) < 64 := by omega
        generalize hG : gB (zs.take k) = G at *
        have HG := Lib.hid hG
        clear hcl hmz hzr hsn hx hG
        go_wp2
        go_roundw
        case rel => exact ⟨k + 1, by omega, by go_num, arr_ext fun d _ => by rw [HSN.out d]; by_cases e : d = x; (· subst e; simp); (· have e2 : ¬ x = d := fun h => e h.symm; simp [e, e2])⟩
        case measure => simp [intOf]; omega
      · have hkm : k = m := by omega
        have hki : ¬ (k : Int) < m := by omega
        have htk : zs.take k = zs := List.take_of_length_le (by rw [HM.out]; omega)
        rw [htk]
        clear HBA
        have GN : Hid (∀ d, gB zs d = true → d < n) := fun d hd => by
          obtain ⟨z, hz, he⟩ := List.any_eq_true.1 hd
          have := HMEM.out z hz
          have := of_decide_eq_true he
          omega
        generalize gB zs = G at *
        have HBA := Lib.hid (Since.step HB1.out (arr_below w1 G))
        have hrg := arr_range w1 G
        have k3 := fun W => list_any _ _ W (bits_bl G)
        have K3 := Lib.hid k3
        clear htk k3 HMEM HE HM hkm
        go_upto_region 9 with (fail)
        refine wp_region_lit ?_
        refine wpList_load_mid (by rfl) _ _ (by rfl) w1.heap.size 0 rfl (bl G) _ hrg Try.underBits rfl (bits_bl _).size ?_
        have HRG := Lib.hid hrg
        clear hrg
        go_wp2_with fail
        refine (K3.out _).mono ?_
        rintro e w2 ⟨a2, n2, c2, rfl, HN2, O2, B2⟩
        have HRG2 := Lib.hid (range_below B2.out HRG.out (by rw [arr_size]; omega))
        have HB2 := Lib.hid (Since.step HBA.out B2.out)
        have HE2 := Lib.hid O2.out.els
        have hn2 : n2 ≤ 64 := by rw [HN2.out]; exact ones_len _ _
        clear HRG B2 HBA K1 HB0 HB1 B1
        go_upto_region 10 with (fail)
        refine wp_region_lit ?_
        refine wpList_load_mid (by rfl) _ _ (by rfl) w1.heap.size 0 rfl (bl G) _ HRG2.out Try.underBits rfl (bits_bl _).size ?_
        refine wpList_plain rfl fun KK hKK => ?_
        have HKK := Lib.hid hKK
        clear hKK
        go_wp2
        refine HKK.out _ _ ?_
        clear HKK KK
        change wpList _ _ _ _ _ (arr w2 fun _ => false)
        refine wpList_store_arr (by rfl) _ _ (by rfl) _ G (by rfl) (by rfl) ?_
        clear HRG2
        go_wp2
        generalize hS : ones G 64 = S at *
        have HS := Lib.hid hS
        clear hS
        generalize hT : leftB P G S S.length = T at *
        have HT := Lib.hid hT
        clear hT
        have hAb : A < w2.heap.size := Nat.lt_of_lt_of_le hA HB2.out.size
        have HH2 := Lib.hid (Since.cell HB2.out h1)
        have HCL2 := Lib.hid fun c hc d hd => Since.cell HB2.out (HCL.out c hc d hd)
        clear HCL h1 hA hAb hki
        go_loopw [33] (fun i wr => ∃ k : Nat, k ≤ n2 ∧ i = .int .i64 k ∧ wr = arr w2 (leftB P G S k)) (fun i _ => n2 - (intOf i).toNat)
        case atStart => exact ⟨0, Nat.zero_le _, rfl, arr_ext fun d _ => by unfold leftB; simp⟩
        case round =>
          obtain ⟨k, hk, rfl, rfl⟩ := hrel
          by_cases hlt : k < n2
          · obtain ⟨b, off, rfl, hcl⟩ := HE2.out.at k hlt
            have hmz : S[k]?.getD 0 ∈ S := by rw [List.getElem?_eq_getElem (by rw [← HN2.out]; exact hlt)]; exact List.getElem_mem _
            have hmz2 : S[k]?.getD 0 ∈ ones G 64 := by rw [HS.out]; exact hmz
            obtain ⟨c, hc, hc64, hcG⟩ := ones_mem.1 hmz2
            clear hmz2
            rw [hc] at hcl
            have HC := Lib.hid hc
            have hki : (k : Int) < n2 := by omega
            have hce := Since.cell (arr_below w2 (leftB P G S k)) hcl
            have HCE := Lib.hid hcl
            have HHT := Lib.hid fun d (hd : d < 64) => midB_done (P := P) (g := G) (k := k) (c := c) (by rw [HS.out, ← HN2.out]; exact hlt) (by rw [HS.out]; exact hc) hd
            clear hcl hmz hc
            go_wp2
            clear hce
            generalize hL : leftB P G S k = L at *
            have HL := Lib.hid hL
            clear hL
            go_loopw [39] (fun i wr => ∃ j : Nat, j ≤ n2 ∧ i = .int .i64 j ∧ wr = arr w2 (midB L S c j (Tx.inh P c))) (fun i _ => n2 - (intOf i).toNat)
            case atStart => exact ⟨0, Nat.zero_le _, rfl, arr_ext fun d _ => by unfold midB; simp⟩
            case round =>
              obtain ⟨j, hj, rfl, rfl⟩ := hrel
              by_cases hlt2 : j < n2
              · have hcl := (HE2.out.at j hlt2)
                obtain ⟨b', off', he', hcl⟩ := hcl
                cases he'
                have hmz : S[j]?.getD 0 ∈ S := by rw [List.getElem?_eq_getElem (by rw [← HN2.out]; exact hlt2)]; exact List.getElem_mem _
                have hmz2 : S[j]?.getD 0 ∈ ones G 64 := by rw [HS.out]; exact hmz
                obtain ⟨x, hx, hx64, hxG⟩ := ones_mem.1 hmz2
                clear hmz2 hxG
                rw [hx] at hcl
                have hSx : S[j]? = some (x : Int) := by rw [← hx, List.getElem?_eq_getElem (by rw [← HN2.out]; exact hlt2)]; rfl
                have hsn := fun d => midB_snoc (h := L) (c := c) (f := Tx.inh P c) hSx d
                have HSN := Lib.hid hsn
                have hji : (j : Int) < n2 := by omega
                have hb2 := arr_below w2 (midB L S c j (Tx.inh P c))
                have hce := Since.cell hb2 hcl
                have hcn : c < n := GN.out c hcG
                have h1c := Since.cell hb2 HH2.out
                have hic := Since.cell hb2 (HCL2.out c hcn x hx64)
                have hcx := arr_cell w2 (midB L S c j (Tx.inh P c)) hx64
                have hst := arr_set w2 (midB L S c j (Tx.inh P c)) x false
                obtain ⟨hcx, hfx⟩ := hcx
                have hxi : (x : Int) < 64 := by omega
                have hcni : (c : Int) < n := by omega
                clear hmz hx hSx hsn hcl hb2
                generalize hM : midB L S c j (Tx.inh P c) = M at *
                generalize hI : Tx.inh P c x = I at *
                have HM := Lib.hid hM
                have HI := Lib.hid hI
                clear hM hI
                by_cases hcx2 : c = x
                · subst hcx2
                  have hne : ((c : Int) != (c : Int)) = false := by simp
                  go_wp2
                  go_roundw
                  case rel => exact ⟨j + 1, by omega, by go_num, arr_ext fun d _ => by rw [HSN.out d, if_neg (fun h => h.2.1 rfl)]⟩
                  case measure => simp [intOf]; omega
                · have hne : ((c : Int) != (x : Int)) = true := by rw [bne_iff_ne]; omega
                  have HNE := Lib.hid hcx2
                  clear hcx2
                  cases I
                  case false =>
                    go_wp2
                    go_roundw
                    case rel => exact ⟨j + 1, by omega, by go_num, arr_ext fun d _ => by rw [HSN.out d, if_neg (fun h => by cases h.2.2)]⟩
                    case measure => simp [intOf]; omega
                  case true =>
                    go_wp2
                    go_roundw
                    case rel => exact ⟨j + 1, by omega, by go_num, (arr_ext fun d _ => by rw [HSN.out d]; by_cases e : d = x; (· subst e; rw [if_pos ⟨rfl, HNE.out, rfl⟩]; simp); (· rw [if_neg (fun h => e h.1)]; simp [e]))⟩
                    case measure => simp [intOf]; omega
              · have hji : ¬ (j : Int) < n2 := by omega
                have hjn : j = n2 := by omega
                have HJN := Lib.hid hjn
                clear hjn
                go_wp2
                go_roundw
                case rel => exact ⟨k + 1, by omega, by go_num, arr_ext fun d hd => by have := HHT.out d hd; rw [HS.out, HL.out] at this; rw [HJN.out, HN2.out]; exact this⟩
                case measure => simp [intOf]; omega
          · have hki : ¬ (k : Int) < n2 := by omega
            have hkn : k = n2 := by omega
            have e1 : leftB P G S k = T := by rw [hkn, HN2.out]; exact HT.out
            rw [e1]
            have hrg := arr_range w2 T
            have k3 := fun W => list_any _ _ W (bits_bl T)
            have K4 := Lib.hid k3
            have HBT := Lib.hid (Since.step HB2.out (arr_below w2 T))
            clear hkn e1 k3
            go_upto_region 21 with (fail)
            refine wp_region_lit ?_
            refine wpList_load_mid (by rfl) _ _ (by rfl) w2.heap.size 0 rfl (bl T) _ hrg Try.underBits rfl (bits_bl _).size ?_
            clear hrg
            go_wp2_with fail
            refine (K4.out _).mono ?_
            rintro e w3 ⟨a4, n4, c4, rfl, HN4, O4, B4⟩
            go_wp2
            go_ret2
            exact ⟨a4, n4, c4, rfl, HN4, Lib.hid (own_base O4.out HBT.out.size), Lib.hid (Since.step HBT.out B4.out)⟩
  · have ha' : allB P.length zs = false := by simpa using ha
    rw [if_neg ha, if_neg ha]
    rw [ha'] at k1
    have K1 := Lib.hid k1
    have HB0 := Lib.hid (Below.refl w.heap.size w)
    clear k1 hR hL hg h0 h1 hA ha ha' hl
    go_enter Try.func27, Try.ntmps27
    go_wp2_with fail
    refine (K1.out).mono ?_
    rintro e w1 ⟨rfl, hB⟩
    have B1 := Lib.hid hB
    have HB1 := Lib.hid (HB0.out.trans (hB.mono HB0.out.size))
    clear hB
    go_wp2
    go_ret2
    exact ⟨none, 0, 0, rfl, rfl, Lib.hid (World.ownsRow_nil _ _ _ _), HB1⟩

end Go.Proofs.Ytidnllddhhllcaa
