/- Contracts of package taxon: validParents, cloneLists. -/
import Derived.Test.YtidnllddhhllcaaTx
import Derived.Test.YtidnllddhhllcaaWire
namespace Go.Proofs.Ytidnllddhhllcaa
open Go.RowKit Go.Shelf

set_option maxHeartbeats 2000000 in
theorem valid_any (n : Nat) (sv : Value) (zs : List Int) (w : World) (h : Els .i64 w sv zs) (hl : zs.length ≤ 100000) :
    Calls Try.prog 38 #[sv, .int .i64 (n : Int)] w fun e w' => e = .returned (.bool (Tx.okB n (-1) zs)) ∧ w = w' := by
  obtain ⟨a, cap, rfl⟩ := h.shape
  have HE := Lib.hid h
  generalize hm : zs.length = m at *
  have HM := Lib.hid hm
  generalize hR : Tx.okB n (-1) zs = R at *
  have HR := Lib.hid hR
  clear h hm hR
  go_enter Try.func38, Try.ntmps38
  go_wp2
  go_loopw [5, 10] (fun v i wr => ∃ k : Nat, ∃ last : Int, k ≤ m ∧ i = .int .i64 k ∧ v = .int .i64 last ∧ Hid (R = Tx.okB n last (zs.drop k)) ∧ wr = w) (fun _ i _ => m - (intOf i).toNat)
  case atStart => exact ⟨0, -1, Nat.zero_le _, rfl, rfl, Lib.hid HR.out.symm, rfl⟩
  case round =>
    obtain ⟨k, last, hk, rfl, rfl, hok, rfl⟩ := hrel
    by_cases hlt : k < m
    · obtain ⟨b, off, rfl, hcl⟩ := HE.out.at k hlt
      have hd : zs.drop k = zs[k]?.getD 0 :: zs.drop (k + 1) := by
        rw [List.drop_eq_getElem_cons (by rw [HM.out]; exact hlt), List.getElem?_eq_getElem (by rw [HM.out]; exact hlt)]; rfl
      have hok2 := hok.out
      rw [hd] at hok2
      unfold Tx.okB at hok2
      generalize zs[k]?.getD 0 = z at *
      have HO := Lib.hid hok2
      have hki : (k : Int) < m := by omega
      clear hd hok2 hok
      by_cases h1 : z ≤ last
      · have h1' : decide (z ≤ last) = true := decide_eq_true h1
        go_wp2
        go_ret
        exact ⟨ret_bool (by have := HO.out; rw [if_pos (.inl (by have := of_decide_eq_true h1'; omega))] at this; exact this.symm), rfl⟩
      · have h1' : decide (z ≤ last) = false := decide_eq_false h1
        have H1 := Lib.hid h1
        clear h1
        by_cases h2 : (n : Int) ≤ z
        · have h2' : decide (z ≥ (n : Int)) = true := decide_eq_true h2
          have H2 := Lib.hid h2
          clear h2
          go_wp2
          go_ret
          exact ⟨ret_bool (by have := HO.out; rw [if_pos (.inr H2.out)] at this; exact this.symm), rfl⟩
        · have h2' : decide (z ≥ (n : Int)) = false := decide_eq_false h2
          have H2 := Lib.hid h2
          clear h2
          go_wp2
          go_roundw
          case rel => exact ⟨k + 1, z, by omega, by go_num, rfl, Lib.hid (by have := HO.out; rw [if_neg (fun h => h.elim H1.out H2.out)] at this; exact this), by first | rfl | trivial⟩
          case measure => simp [intOf]; omega
    · have hki : (m : Int) ≤ (k : Int) := by omega
      have hend : R = true := by
        have := hok.out
        rw [List.drop_eq_nil_of_le (by rw [HM.out]; omega)] at this
        rw [this]; rfl
      have HEn := Lib.hid hend
      clear hend
      go_wp2
      go_ret
      exact ⟨ret_bool HEn.out.symm, rfl⟩

theorem clone_nil (w : World) :
    Calls Try.prog 57 #[.slice none 0 0] w fun e w' => Makes .i64 3 [] w e w' := by
  have q22 : ∀ (w : World) (a : Option Addr) (n c n' c' : Nat), (binOp .eql 22 (.slice a n c) (.slice none n' c')).run Try.prog w = .ok (.bool a.isNone) w := fun w a n c n' c' => Lib.run_eql_slice_nil w _ _ a n c n' c' Try.underlying22
  go_enter Try.func57, Try.ntmps57
  go_wp2
  go_ret
  exact makes_of (World.ownsRow_nil _ _ _ _) (Below.refl _ _)

theorem clone_some (x : Addr) (n c : Nat) (zs : List Int) (w : World) (hz : zs.length ≤ 100000000000) (h : Els .i64 w (.slice (some x) n c) zs) :
    Calls Try.prog 57 #[.slice (some x) n c] w fun e w' => Makes .i64 3 zs w e w' := by
  have q22 : ∀ (w : World) (a : Option Addr) (n c n' c' : Nat), (binOp .eql 22 (.slice a n c) (.slice none n' c')).run Try.prog w = .ok (.bool a.isNone) w := fun w a n c n' c' => Lib.run_eql_slice_nil w _ _ a n c n' c' Try.underlying22
  have HI := Lib.hid Try.infoI64
  have HZ := Lib.hid hz
  have HE := Lib.hid h
  clear h hz
  go_enter Try.func57, Try.ntmps57
  go_wp2_with (at_builtin; go_loud (refine push_all rfl _ _ 22 rfl .i64 3 8 Try.underlying22 HI.out (by decide) w.heap.size _ [] _ zs rfl rfl (World.ownsRow_made w #[] 0 (Nat.le_refl _) (Nat.zero_le _) rfl) (HE.out.below ((Below.refl _ w).alloc (Nat.le_refl _) _)) (by simp) (by have := HZ.out; simp; omega) ?_); intro a2 n2 c2 w2 hn2 hO2 hB2)
  go_ret
  exact makes_of hO2.out (((Below.refl _ w).alloc (Nat.le_refl _) _).trans hB2.out)

theorem clone_any (sv : Value) (zs : List Int) (w : World) (hz : zs.length ≤ 100000000000) (h : Els .i64 w sv zs) :
    Calls Try.prog 57 #[sv] w fun e w' => Makes .i64 3 zs w e w' := by
  obtain ⟨a, c, rfl⟩ := h.shape
  cases a with
  | some x => exact clone_some x _ c zs w hz h
  | none =>
    rcases h with ⟨he, rfl⟩ | ⟨b, off, cap, hb, he, hl, hc⟩
    · rcases he with he | ⟨x, cap, he⟩
      · cases he
        exact clone_nil w
      · cases he
    · cases he

theorem Own.ein {E : TypeId} {B : Nat} {w : World} {sv : Value} {zs : List Int} (h : Own .i64 E B w sv zs) : EIn (B ≤ ·) w sv zs := by
  obtain ⟨_, ⟨rfl, hz⟩ | ⟨g, cap, cur, rfl, hB, hg, hcap, _, hsz, ht⟩⟩ := h
  · exact .inl ⟨.inl rfl, List.eq_nil_of_length_eq_zero hz⟩
  · refine .inr ⟨g, 0, cap, hB, (Array.getElem?_eq_some_iff.1 hg).1, rfl, hcap, ?_⟩
    intro j hj
    have e : cur[j]? = some (Value.int .i64 (zs[j]?.getD 0)) := by
      rw [← Array.getElem?_toList, ← List.getElem?_take_of_lt (show j < zs.length * 1 by omega), ht, List.getElem?_map, List.getElem?_eq_getElem hj]
      rfl
    rw [Nat.zero_add]
    unfold World.cell?
    simp only [hg]
    exact e

/-- What cloneLists leaves. -/
def LMake (P : List (List Int)) (w : World) (e : Ending) (w' : World) : Prop :=
  ∃ a c, e = .returned (.slice a P.length c) ∧ Hid (LIn (w.heap.size ≤ ·) w' (.slice a P.length c) P) ∧ Hid (Below w.heap.size w w')

/-- The lists that were cloned so far. -/
def CL (P : List (List Int)) (G n k : Nat) (E : TypeId) (w W : World) : Prop :=
  Below w.heap.size w W ∧ ∃ vs : List Value, W.ownsRow w.heap.size E 1 (.slice (some ⟨G, 0, none⟩) n n) n vs ∧ vs.length = n ∧ ∀ j, j < k → ∃ v, vs[j]? = some v ∧ EIn (G < ·) W v (Tx.row P j)

theorem CL.cell {P : List (List Int)} {G n k : Nat} {E : TypeId} {w W : World} (h : CL P G n k E w W) {j : Nat} (hj : j < n) : ∃ v, W.cell? ⟨G, j, none⟩ = some v ∧ W.frozen? ⟨G, j, none⟩ = false := by
  obtain ⟨_, vs, hO, hl, _⟩ := h
  exact ⟨_, (hO.cellAt j (by omega)).trans (List.getElem?_eq_getElem (by omega)), hO.frozenAt j⟩

theorem CL.step {P : List (List Int)} {G n k : Nat} {E : TypeId} {w W W2 : World} (h : CL P G n k E w W) (hG : G = w.heap.size) (hB : Below W.heap.size W W2) {v : Value} (he : EIn (W.heap.size ≤ ·) W2 v (Tx.row P k)) (hk : k < n) (hGW : G < W.heap.size) : CL P G n (k + 1) E w (W2.setCell ⟨G, k, none⟩ v) := by
  obtain ⟨hb, vs, hO, hl, hat⟩ := h
  refine ⟨(hb.trans (hB.mono hb.size)).setCell (p := ⟨G, k, none⟩) (Nat.le_of_eq hG.symm) v, vs.set k v, ((owns_below hO hB).stored k v).1, by rw [List.length_set]; exact hl, fun j hj => ?_⟩
  have keepS : ∀ {u : Value} {zs : List Int}, EIn (G < ·) W2 u zs → EIn (G < ·) (W2.setCell ⟨G, k, none⟩ v) u zs := fun h => h.keep (by simp [World.setCell]) fun b hb _ => Below.heap_setCell _ _ _ _ (by show b ≠ G; omega)
  by_cases e : j = k
  · subst e
    exact ⟨v, by rw [List.getElem?_set_self (by omega)], keepS (he.mono fun b _ hb => by omega)⟩
  · obtain ⟨u, hu, hE⟩ := hat j (by omega)
    exact ⟨u, by rw [List.getElem?_set_ne (Ne.symm e)]; exact hu, keepS (hE.keep hB.size fun b _ hb => hB.block b hb)⟩

theorem CL.done {P : List (List Int)} {G : Nat} {E : TypeId} {w W : World} (h : CL P G P.length P.length E w W) (hG : G = w.heap.size) : LIn (w.heap.size ≤ ·) W (.slice (some ⟨G, 0, none⟩) P.length P.length) P := by
  obtain ⟨hb, vs, hO, hl, hat⟩ := h
  have hGW : G < W.heap.size := by
    rcases hO.2 with ⟨hv, _⟩ | ⟨g, cap, cur, hv, _, hg, _⟩
    · cases hv
    · cases hv; exact (Array.getElem?_eq_some_iff.1 hg).1
  refine .inr ⟨G, P.length, Nat.le_of_eq hG.symm, hGW, rfl, Nat.le_refl _, fun j l hj => ?_⟩
  have hjl := (List.getElem?_eq_some_iff.1 hj).1
  obtain ⟨v, hv, hE⟩ := hat j hjl
  refine ⟨v, (hO.cellAt j (by omega)).trans hv, ?_⟩
  have e : Tx.row P j = l := by unfold Tx.row; rw [hj]; rfl
  rw [← e]
  exact hE.mono fun b _ hb => by omega

theorem Try.infoSl : (Try.prog.info? 22).map (fun i => (i.zero, i.size, i.bytes)) = some (some (.slice none 0 0), 1, 24) := by kernel_rfl

set_option maxHeartbeats 4000000 in
set_option maxRecDepth 100000 in
theorem cloneLists_any (sv : Value) (P : List (List Int)) (w : World) (h : LE w sv P) (hP : P.length ≤ 100000) (hsh : ∀ c, (Tx.row P c).length ≤ 100000) :
    Calls Try.prog 39 #[sv] w (LMake P w) := by
  obtain ⟨a, cap, rfl⟩ := LIn.shape h
  obtain ⟨i0, hi, hz0, hz1, hz2⟩ := info_parts Try.infoSl
  have HI := Lib.hid hi
  have HZ := Lib.hid hz0
  have HZ1 := Lib.hid hz1
  have HZ2 := Lib.hid hz2
  have HLE := Lib.hid h
  have HSH := Lib.hid hsh
  generalize hn : P.length = n at *
  have HN := Lib.hid hn
  clear h hsh hn hi hz0 hz1 hz2
  go_enter Try.func39, Try.ntmps39
  go_wp2_with (at_make; go_loud (refine wpList_make_full _ rfl _ _ 23 rfl w.heap.size 22 i0 (.slice none 0 0) 1 Try.underlying23 HI.out HZ.out HZ1.out .i64 .i64 n n n rfl rfl rfl rfl (by rw [HZ2.out]; omega) (by unfold maxLen; omega) (Nat.le_refl _) ?_); intro w2 hown hgrow; have HO2 := Lib.hid hown; have HG2 := Lib.hid hgrow; clear hown hgrow)
  have HC0 : Hid (CL P w.heap.size n 0 22 w w2) := ⟨(Below.refl _ w).grown HG2.out (Nat.le_refl _) (fun k hk => by cases hk), _, HO2.out, by rw [Array.length_toList, size_madeCells, Nat.mul_one], fun j hj => by omega⟩
  go_loopw [10] (fun i wr => ∃ k : Nat, k ≤ n ∧ i = .int .i64 k ∧ Hid (CL P w.heap.size n k 22 w wr)) (fun i _ => n - (intOf i).toNat)
  case atStart => exact ⟨0, Nat.zero_le _, rfl, HC0⟩
  case round =>
    obtain ⟨k, hk, rfl, hC⟩ := hrel
    by_cases hlt : k < n
    · obtain ⟨b, aj, nj, cj, rfl, hrow, hER, hnj, -⟩ := LIn.at (LE.below hC.out.1 HLE.out) k hlt
      have hels := hER.els
      have hle := HSH.out k
      have k1 := Lib.hid (clone_any _ _ wr (by omega) hels)
      have hki : (k : Int) < n := by omega
      clear hER hnj hels hle
      go_wp2_with fail
      refine (k1.out).mono ?_
      rintro e w3 ⟨a3, n3, c3, rfl, HN3, O3, B3⟩
      obtain ⟨v, hcv, hcf⟩ := hC.out.cell hlt
      have hGW := block_there hcv
      have hcv3 := (B3.out.cell (p := ⟨w.heap.size, k, none⟩) hGW).trans hcv
      have hcf3 := (B3.out.frozen (p := ⟨w.heap.size, k, none⟩) hGW).trans hcf
      have HST := Lib.hid (hC.out.step rfl B3.out O3.out.ein hlt hGW)
      clear hcv hcf hrow
      go_wp2
      go_roundw
      case rel => exact ⟨k + 1, by omega, by go_num, HST⟩
      case measure => simp [intOf]; omega
    · have hkn : k = n := by omega
      have hki : (n : Int) ≤ (k : Int) := by omega
      have HKN := Lib.hid hkn
      clear hkn
      go_wp2
      go_ret
      have h1 := hC.out
      rw [HKN.out, ← HN.out] at h1
      refine ⟨some ⟨w.heap.size, 0, none⟩, P.length, by rw [HN.out]; rfl, Lib.hid (h1.done rfl), Lib.hid h1.1⟩

end Go.Proofs.Ytidnllddhhllcaa
