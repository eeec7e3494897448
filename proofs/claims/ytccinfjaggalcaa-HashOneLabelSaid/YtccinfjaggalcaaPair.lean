/- hash.Pair -/
import Derived.Test.YtccinfjaggalcaaSum
namespace Go.Proofs.Ytccinfjaggalcaa
open Go.RowKit Go.Shelf

/-- A slice literal. -/
theorem elems_new (k : IntKind) (w : World) (T : TypeId) (zs : List Int) :
    Elems k w.heap.size (w.alloc (.cells (zs.map (Value.int k)).toArray T)) (.slice (some ⟨w.heap.size, 0, none⟩) zs.length zs.length) zs := by
  refine .inr ⟨0, zs.length, rfl, Nat.le_refl _, ?_⟩
  intro j hj
  have h := heap_new w (.cells (zs.map (Value.int k)).toArray T)
  have e : (zs.map (Value.int k)).toArray[j]? = some (Value.int k (zs[j]?.getD 0)) := by
    rw [List.getElem?_toArray, List.getElem?_map, List.getElem?_eq_getElem hj]
    rfl
  rw [Nat.zero_add, ← e]
  unfold World.cell?
  simp only [h]
  rfl

theorem below_new {w w1 : World} {o : Obj} (h : Below (w.alloc o).heap.size (w.alloc o) w1) : Below w.heap.size w w1 :=
  ((Below.refl _ w).alloc (Nat.le_refl _) o).trans (h.mono (by simp))

set_option maxHeartbeats 1000000 in
theorem sum_lit (s : ByteArray) (T : TypeId) (ws : List Int) (w : World) (hs : s.size ≤ 140737488351232) (hl : ws.length ≤ 140737488351232) :
    Calls Try.prog 13 #[.string s, .slice (some ⟨w.heap.size, 0, none⟩) ws.length ws.length] (w.alloc (.cells (ws.map (Value.int .i64)).toArray T)) fun e W' => e = .returned (.int .u64 (Hm.sumI (Hm.bs s) ws)) ∧ Below w.heap.size w W' :=
  (sum_any s _ w.heap.size ws _ (by simp) hs hl (elems_new _ w T ws)).mono fun _ _ h => ⟨h.1, below_new h.2⟩

theorem bytes_lit (s : ByteArray) (T : TypeId) (cs : List Int) (w : World) (hs : s.size ≤ 140737488351232) (hl : cs.length ≤ 140737488351232) (hz : Hm.Byt cs) :
    Calls Try.prog 17 #[.string s, .slice (some ⟨w.heap.size, 0, none⟩) cs.length cs.length] (w.alloc (.cells (cs.map (Value.int .u8)).toArray T)) fun e W' => e = .returned (.int .u64 (Hm.bytesI (Hm.bs s) cs)) ∧ Below w.heap.size w W' :=
  (bytes_any s _ w.heap.size cs _ hs hl hz (.inr ⟨by simp, elems_new _ w T cs⟩)).mono fun _ _ h => ⟨h.1, below_new h.2⟩

theorem size_of_below {B : Nat} {w W : World} (h : Below B w W) : w.heap.size ≤ W.heap.size := h.size

set_option maxHeartbeats 1000000 in
theorem pair_any (x y : Int) (w : World) :
    Calls Try.prog 19 #[.int .u64 x, .int .u64 y] w fun e W' => e = .returned (.int .u64 (Hm.pairI x y)) ∧ Below w.heap.size w W' := by
  go_enter Try.func19, Try.ntmps19
  go_wp2_with fail
  refine (sum_lit _ _ [wrap64 x, wrap64 y] w (by decide) (by simp)).mono ?_
  rintro e w1 ⟨rfl, hB⟩
  have HB := Lib.hid hB
  clear hB
  go_wp2_with fail
  go_ret
  exact ⟨ret_int (Hm.sumI_wrap2 _ x y), HB.out⟩

theorem lives_facts : (Hm.sumI [97] [5] != Hm.sumI [97] [6]) = true ∧ (Hm.bytesI [97] [1, 2] == Hm.sumI [97] [513, 2]) = true ∧ (Hm.pairI 1 2 != Hm.pairI 1 3) = true := by
  refine ⟨?_, ?_, ?_⟩
  · rw [bne_iff_ne]
    intro h
    have := Hm.sumI_one h
    rw [IntKind.wrap_u64, IntKind.wrap_u64] at this
    exact absurd this (by decide)
  · rw [beq_iff_eq, Hm.bytesI_eq]
    rfl
  · rw [bne_iff_ne]
    intro h
    have := Hm.pairI_right h
    rw [IntKind.wrap_u64, IntKind.wrap_u64] at this
    exact absurd this (by decide)

set_option maxHeartbeats 1000000 in
theorem lives_any (w : World) :
    Calls Try.prog 15 #[] w fun e W' => e = .returned (.bool true) ∧ Below w.heap.size w W' := by
  obtain ⟨f1, f2, f3⟩ := lives_facts
  have hs : ({ data := #[97] } : ByteArray).size ≤ 140737488351232 := by decide
  have k5 := fun w T => sum_lit { data := #[97] } T [5] w hs (by decide)
  have k6 := fun w T => sum_lit { data := #[97] } T [6] w hs (by decide)
  have kb := fun w T => bytes_lit { data := #[97] } T [1, 2] w hs (by decide) (by unfold Hm.Byt; decide)
  have ks := fun w T => sum_lit { data := #[97] } T [513, 2] w hs (by decide)
  have kp := fun w => pair_any 1 2 w
  have kq := fun w => pair_any 1 3 w
  rw [show Hm.bs { data := #[97] } = [97] from rfl] at k5 k6 kb ks
  generalize Hm.sumI [97] [5] = h5 at *
  generalize Hm.sumI [97] [6] = h6 at *
  generalize Hm.bytesI [97] [1, 2] = hb at *
  generalize Hm.sumI [97] [513, 2] = h7 at *
  generalize Hm.pairI 1 2 = h8 at *
  generalize Hm.pairI 1 3 = h9 at *
  have K5 := Lib.hid k5
  have K6 := Lib.hid k6
  have KB := Lib.hid kb
  have KS := Lib.hid ks
  have KP := Lib.hid kp
  have KQ := Lib.hid kq
  clear k5 k6 kb ks kp kq hs
  go_enter Try.func15, Try.ntmps15
  go_wp2_with fail
  refine (K5.out _ _).mono ?_
  rintro e w1 ⟨rfl, hB1⟩
  have HB1 := Lib.hid hB1
  clear hB1
  go_wp2_with fail
  refine (K6.out _ _).mono ?_
  rintro e w2 ⟨rfl, hB2⟩
  have HB2 := Lib.hid (HB1.out.trans (hB2.mono HB1.out.size))
  clear hB2 HB1
  go_wp2_with fail
  refine (KB.out _ _).mono ?_
  rintro e w3 ⟨rfl, hB⟩
  have HB3 := Lib.hid (HB2.out.trans (hB.mono HB2.out.size))
  clear hB HB2
  go_wp2_with fail
  refine (KS.out _ _).mono ?_
  rintro e w4 ⟨rfl, hB⟩
  have HB4 := Lib.hid (HB3.out.trans (hB.mono HB3.out.size))
  clear hB HB3
  go_wp2_with fail
  refine (KP.out _).mono ?_
  rintro e w5 ⟨rfl, hB⟩
  have HB5 := Lib.hid (HB4.out.trans (hB.mono HB4.out.size))
  clear hB HB4
  go_wp2_with fail
  refine (KQ.out _).mono ?_
  rintro e w6 ⟨rfl, hB⟩
  have HB6 := Lib.hid (HB5.out.trans (hB.mono HB5.out.size))
  clear hB HB5
  go_wp2_with fail
  go_ret
  exact ⟨rfl, HB6.out⟩
end Go.Proofs.Ytccinfjaggalcaa
