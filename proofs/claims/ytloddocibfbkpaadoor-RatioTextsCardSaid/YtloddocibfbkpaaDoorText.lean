/- Contracts of Text: the reference's and the program's. -/
import Derived.Test.YtloddocibfbkpaaDoorDec
import Derived.Test.YtloddocibfbkpaaDoorBox
import Derived.Test.YtloddocibfbkpaaDoorRat3
import Derived.Test.YtloddocibfbkpaaDoorShelf
import Derived.Lib.LaidTab
namespace Go.Proofs.YtloddocibfbkpaaDoor
open Go.RowKit Go.Shelf

/-- The table lies. -/
def Tab (w : World) : Prop := Lib.TabIs Tryd.prog w "internal/strconv.uint64pow10" .u64 Lib.pow10Tab

theorem Tab.below {w W : World} (h : Tab w) (hb : Below w.heap.size w W) : Tab W := by
  unfold Tab Lib.TabIs World.var? at *
  cases hg : Tryd.prog.globalNamed "internal/strconv.uint64pow10" with
  | none => rw [hg] at h; simp at h
  | some g =>
    rw [hg] at h
    simp only [Option.bind_some] at *
    have hlt : g < w.heap.size := by
      apply Classical.byContradiction
      intro hn
      rw [Array.getElem?_eq_none (by omega)] at h
      simp at h
    rw [hb.block g hlt]
    exact h

theorem below_grow (w : World) (k : Nat) (os : Array Obj) : Below w.heap.size w (Sort.grow (w.drewN k) os) := by
  refine ⟨rfl, rfl, rfl, ?_, fun i hi => ?_⟩
  · show w.heap.size ≤ ((w.drewN k).heap ++ os).size
    rw [Array.size_append]
    show w.heap.size ≤ w.heap.size + os.size
    omega
  · show ((w.drewN k).heap ++ os)[i]? = _
    rw [Array.getElem?_append_left (by exact hi)]
    rfl

/-- Itoa. -/
theorem itoa_any (n : Int) (w : World) (h : -9223372036854775808 ≤ n ∧ n ≤ 9223372036854775807) (ht : Tab w) :
    Calls Tryd.prog 15 #[.int .i64 n] w fun e w' => e = .returned (.string ⟨(Lib.itoa n).toArray⟩) ∧ Below w.heap.size w w' :=
  (Tryd.strconv_Itoa n h.1 h.2 w ht).mono fun e w' ⟨he, k, os, hw⟩ => ⟨he, by rw [hw]; exact below_grow w k os⟩

theorem tex_cat (a b : Int) (hb : b ≠ 1) : (⟨(Lib.itoa a).toArray⟩ : ByteArray) ++ ⟨#[47]⟩ ++ ⟨(Lib.itoa b).toArray⟩ = ⟨(texL a b).toArray⟩ := by
  apply str_of_list
  rw [ByteArray.data_append, ByteArray.data_append, Array.toList_append, Array.toList_append]
  unfold texL
  rw [if_neg hb]
  simp

theorem size_toArray (l : List UInt8) : (⟨l.toArray⟩ : ByteArray).size = l.length := by show l.toArray.size = _; simp

theorem rdec_q (n : Int) (w : World) (h : -9223372036854775808 ≤ n ∧ n ≤ 9223372036854775807) :
    Calls Tryd.prog 9 #[.int .i64 n] w fun e w' => e = .returned (.string ⟨(Lib.itoa n).toArray⟩) ∧ w' = w :=
  (rdec_any n w h).mono fun _ _ h => ⟨h.1, h.2.symm⟩

set_option maxHeartbeats 2000000 in
set_option maxRecDepth 100000 in
theorem rtext_any (a b : Int) (w : World) (ha : I64 a) (hb : I64 b) :
    Calls Tryd.prog 7 #[rv a b] w fun e w' => e = .returned (.string ⟨(texL a b).toArray⟩) ∧ Below w.heap.size w w' := by
  have k1 := Lib.hid fun w => rdec_any a w ha
  have k2 := Lib.hid fun w => rdec_any b w hb
  have k3 := Lib.hid fun w => rdec_q a w ha
  have k4 := Lib.hid fun w => rdec_q b w hb
  have hla := size_toArray (Lib.itoa a)
  have hlb := size_toArray (Lib.itoa b)
  have l1 := (itoa_len a ha).1
  have l2 := (itoa_len b hb).1
  by_cases h1 : b = 1
  · have e : texL a b = Lib.itoa a := by unfold texL; rw [if_pos h1]
    rw [e]
    subst h1
    clear e ha hb k2 k3 k4 hlb l2
    generalize (⟨(Lib.itoa a).toArray⟩ : ByteArray) = A at *
    unfold rv
    go_enter Tryd.func7, Tryd.ntmps7
    go_wp2_with fail
    refine (k1.out _).mono ?_
    rintro e w' ⟨rfl, rfl⟩
    go_wp2
    go_ret
    exact ⟨rfl, (Below.refl _ _).alloc (Nat.le_refl _) _⟩
  · have hc := Lib.hid (tex_cat a b h1)
    have hb1 : (b == 1) = false := by simpa using h1
    generalize (⟨(Lib.itoa a).toArray⟩ : ByteArray) = A at *
    generalize (⟨(Lib.itoa b).toArray⟩ : ByteArray) = B at *
    generalize (⟨(texL a b).toArray⟩ : ByteArray) = R at *
    have hs1 : A.size ≤ 20 := by omega
    have hs2 : B.size ≤ 20 := by omega
    clear hla hlb l1 l2 h1 ha hb
    unfold rv
    go_enter Tryd.func7, Tryd.ntmps7
    go_wp2
    go_quiet (first
      | (go_at_call_of 9 (Value.int .i64 a); exact Calls.quiet_of_same (k3.out _))
      | (go_at_call_of 9 (Value.int .i64 b); exact Calls.quiet_of_same (k4.out _)))
    go_wp2
    go_ret
    exact ⟨ret_string hc.out, below_drewN ((Below.refl _ _).alloc (Nat.le_refl _) _) nq⟩

set_option maxHeartbeats 4000000 in
set_option maxRecDepth 100000 in
theorem text_any (a b : Int) (w : World) (ha : I64 a) (hb : I64 b) (ht : Tab w) :
    Calls Tryd.prog 5 #[rv a b] w fun e w' => e = .returned (.string ⟨(texL a b).toArray⟩) ∧ Below w.heap.size w w' := by
  have k1 := Lib.hid fun w => itoa_any a w ha
  have k2 := Lib.hid fun w => itoa_any b w hb
  have hla := size_toArray (Lib.itoa a)
  have hlb := size_toArray (Lib.itoa b)
  have l1 := (itoa_len a ha).1
  have l2 := (itoa_len b hb).1
  have hb0 : Below w.heap.size w (w.alloc (.cells #[.int .i64 a, .int .i64 b] 23)) := (Below.refl _ _).alloc (Nat.le_refl _) _
  have HB0 := Lib.hid hb0
  have HT := Lib.hid (ht.below hb0)
  clear hb0 ht
  by_cases h1 : b = 1
  · have e : texL a b = Lib.itoa a := by unfold texL; rw [if_pos h1]
    rw [e]
    subst h1
    clear e ha hb k2 hlb l2
    generalize (⟨(Lib.itoa a).toArray⟩ : ByteArray) = A at *
    unfold rv
    go_enter Tryd.func5, Tryd.ntmps5
    go_wp2_with fail
    refine (k1.out _ HT.out).mono ?_
    rintro e w' ⟨rfl, hB⟩
    have H1 := Lib.hid (HB0.out.trans (hB.mono HB0.out.size))
    clear hB
    go_wp2
    go_ret
    exact ⟨rfl, H1.out⟩
  · have hc := Lib.hid (tex_cat a b h1)
    have hb1 : (b == 1) = false := by simpa using h1
    generalize (⟨(Lib.itoa a).toArray⟩ : ByteArray) = A at *
    generalize (⟨(Lib.itoa b).toArray⟩ : ByteArray) = B at *
    generalize (⟨(texL a b).toArray⟩ : ByteArray) = R at *
    have hs1 : A.size ≤ 20 := by omega
    have hs2 : B.size ≤ 20 := by omega
    clear hla hlb l1 l2 h1 ha hb
    unfold rv
    go_enter Tryd.func5, Tryd.ntmps5
    go_wp2
    obtain ⟨x0, x1, -, -⟩ := cell_new2 w (.int .i64 a) (.int .i64 b) 23
    generalize w.alloc (.cells #[.int .i64 a, .int .i64 b] 23) = W at *
    have hSd : Since W W.drew := Below.drew (Below.refl _ _)
    have q1 : ¬ 9223372036854775807 < A.size + 1 := by omega
    have q2 : ¬ 9223372036854775807 < A.size + 1 + B.size := by omega
    generalize hN : w.heap.size = N at *
    have HN := Lib.hid hN
    clear hN
    go_region_held3 (fun w' => w'.cell? ⟨N, 0, none⟩ = some (.int .i64 a) ∧ w'.cell? ⟨N, 1, none⟩ = some (.int .i64 b) ∧ Since W w')
      (first | exact ⟨x0, x1, hSd⟩ | exact ⟨Since.cell hB x0, Since.cell hB x1, hB⟩)
      (first
        | (go_at_call_of 15 (Value.int .i64 a); refine (k1.out _ (HT.out.below (by first | exact hB | exact hSd))).mono ?_; rintro e w' ⟨rfl, hr⟩; (first | (have hB := Since.step hSd hr) | (have hB := Since.step hB hr)); clear hr)
        | (go_at_call_of 15 (Value.int .i64 b); refine (k2.out _ (HT.out.below (by first | exact hB | exact hSd))).mono ?_; rintro e w' ⟨rfl, hr⟩; (first | (have hB := Since.step hSd hr) | (have hB := Since.step hB hr)); clear hr))
    all_goals
      have HE := Lib.hid (HB0.out.trans (Below.mono hB (by rw [← HN.out]; exact HB0.out.size)))
      go_wp2
      go_ret
      exact ⟨ret_string hc.out, by rw [HN.out]; exact HE.out⟩

end Go.Proofs.YtloddocibfbkpaaDoor
