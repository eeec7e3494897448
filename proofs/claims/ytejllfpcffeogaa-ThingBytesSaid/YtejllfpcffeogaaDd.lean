/- SameBytes of long lists. -/
import Derived.Test.YtejllfpcffeogaaSmall
namespace Go.Proofs.Ytejllfpcffeogaa
open Go.RowKit Go.Shelf

set_option maxHeartbeats 1000000 in
theorem sameB_some (b off cap b2 off2 cap2 len : Nat) (zs ys : List Int) (w : World) (hb : b < w.heap.size) (hb2 : b2 < w.heap.size) (hlen : zs.length = len) (hlen2 : ys.length = len) (hll : len ≤ 1000000)
    (hc : ∀ j, j < len → w.cell? ⟨b, off + j, none⟩ = some (.int .u8 (zs[j]?.getD 0))) (hd : ∀ j, j < len → w.cell? ⟨b2, off2 + j, none⟩ = some (.int .u8 (ys[j]?.getD 0))) :
    Calls Try.prog 22 #[.slice (some ⟨b, off, none⟩) len cap, .slice (some ⟨b2, off2, none⟩) len cap2] w fun e w' => e = .returned (.bool (decide (zs = ys))) ∧ Below w.heap.size w w' := by
  have HL := Lib.hid hlen
  have HL2 := Lib.hid hlen2
  have HC := Lib.hid hc
  have HD := Lib.hid hd
  clear hlen hlen2 hc hd
  go_enter Try.func22, Try.ntmps22
  go_wp2
  go_loopw [5] (fun i wr => ∃ k : Nat, k ≤ len ∧ i = .int .i64 k ∧ Hid (∀ j, j < k → zs[j]?.getD 0 = ys[j]?.getD 0) ∧ Hid (Below w.heap.size w wr)) (fun i _ => len - (intOf i).toNat)
  case atStart => exact ⟨0, Nat.zero_le _, rfl, fun j hj => by omega, Below.refl _ _⟩
  case round =>
    obtain ⟨k, hk, rfl, heq, hB⟩ := hrel
    by_cases hlt : k < len
    · have hcx := (hB.out.cell (p := ⟨b, off + k, none⟩) hb).trans (HC.out k hlt)
      have hdx := (hB.out.cell (p := ⟨b2, off2 + k, none⟩) hb2).trans (HD.out k hlt)
      by_cases he : zs[k]?.getD 0 = ys[k]?.getD 0
      · have he' : (zs[k]?.getD 0 != ys[k]?.getD 0) = false := by simpa using he
        have HE := Lib.hid he
        have hli : (k : Int) < len := by omega
        clear he
        go_wp2
        go_quiet (fail)
        go_wp2
        go_roundw
        case rel => exact ⟨k + 1, by omega, by go_num, fun j hj => by by_cases h : j = k; (· subst h; exact HE.out); (· exact heq.out j (by omega)), below_drewN hB.out _⟩
        case measure => simp [intOf]; omega
      · have he' : (zs[k]?.getD 0 != ys[k]?.getD 0) = true := by simpa using he
        have HE : Hid (decide (zs = ys) = false) := by
          apply decide_eq_false
          intro h
          rw [h] at he
          exact he rfl
        have hli : (k : Int) < len := by omega
        clear he
        go_wp2
        go_quiet (fail)
        go_wp2
        go_ret
        exact ⟨ret_bool HE.out.symm, below_drewN hB.out _⟩
    · have hge : len ≤ k := by omega
      go_wp2
      go_ret
      exact ⟨ret_bool (decide_eq_true (lists_eq (HL.out.trans HL2.out.symm) fun j hj => heq.out j (by have := HL.out; omega))).symm, hB.out⟩

theorem sameB_any (sv sv2 : Value) (zs ys : List Int) (w : World) (h1 : Els .u8 w sv zs) (h2 : Els .u8 w sv2 ys) (hll : zs.length ≤ 1000000) :
    Calls Try.prog 22 #[sv, sv2] w fun e w' => e = .returned (.bool (decide (zs = ys))) ∧ Below w.heap.size w w' := by
  have fin : ∀ e w', e = Ending.returned (.bool true) ∧ w = w' → zs = ys → e = .returned (.bool (decide (zs = ys))) ∧ Below w.heap.size w w' := by
    rintro e w' ⟨rfl, rfl⟩ h
    exact ⟨by rw [decide_eq_true h], Below.refl _ _⟩
  have no : ∀ e w', e = Ending.returned (.bool false) ∧ w = w' → zs ≠ ys → e = .returned (.bool (decide (zs = ys))) ∧ Below w.heap.size w w' := by
    rintro e w' ⟨rfl, rfl⟩ h
    exact ⟨by rw [decide_eq_false h], Below.refl _ _⟩
  rcases h1 with ⟨he, rfl⟩ | ⟨b, off, cap, hb, rfl, hl, hc⟩
  · obtain ⟨a, c, rfl⟩ := he.shape
    rcases h2 with ⟨he2, rfl⟩ | ⟨b2, off2, cap2, hb2, rfl, hl2, hd⟩
    · obtain ⟨a2, c2, rfl⟩ := he2.shape
      exact (sameBytes_zero _ _ _ _ w).mono fun e w' h => fin e w' h rfl
    · by_cases hy : ys = []
      · subst hy
        exact (sameBytes_zero _ _ _ _ w).mono fun e w' h => fin e w' h rfl
      · exact (sameBytes_unlike _ _ _ _ 0 ys.length w (by intro h; exact hy (List.eq_nil_of_length_eq_zero h.symm))).mono fun e w' h => no e w' h (Ne.symm hy)
  · rcases h2 with ⟨he2, rfl⟩ | ⟨b2, off2, cap2, hb2, rfl, hl2, hd⟩
    · obtain ⟨a2, c2, rfl⟩ := he2.shape
      by_cases hy : zs = []
      · subst hy
        exact (sameBytes_zero _ _ _ _ w).mono fun e w' h => fin e w' h rfl
      · exact (sameBytes_unlike _ _ _ _ zs.length 0 w (by intro h; exact hy (List.eq_nil_of_length_eq_zero h))).mono fun e w' h => no e w' h hy
    · by_cases hy : zs.length = ys.length
      · rw [← hy]
        exact sameB_some b off cap b2 off2 cap2 zs.length zs ys w hb hb2 rfl hy.symm hll hc (fun j hj => hd j (by omega))
      · exact (sameBytes_unlike _ _ _ _ zs.length ys.length w hy).mono fun e w' h => no e w' h (fun h => hy (by rw [h]))


end Go.Proofs.Ytejllfpcffeogaa
