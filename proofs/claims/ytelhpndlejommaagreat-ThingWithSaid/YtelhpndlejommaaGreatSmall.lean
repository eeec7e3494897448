/- The generators of the reference models: Short, Around, Ints, Few, SameInts, SameBytes, Bound: what they return; nothing that lay has turned. -/
import Derived.Test.YtelhpndlejommaaGreatProg
import Derived.Test.YtelhpndlejommaaGreatKit
namespace Go.Proofs.YtelhpndlejommaaGreat
open Go.RowKit Go.Shelf

/-- What Around returns. -/
def aroundI (a n : Int) : Int := if a < 0 then (-(a + 1)) % n else a % n

theorem aroundI_range (a n : Int) (h : 1 ≤ n) : 0 ≤ aroundI a n ∧ aroundI a n < n := by
  unfold aroundI
  split
  · exact ⟨Int.emod_nonneg _ (by omega), Int.emod_lt_of_pos _ (by omega)⟩
  · exact ⟨Int.emod_nonneg _ (by omega), Int.emod_lt_of_pos _ (by omega)⟩

set_option maxHeartbeats 400000 in
theorem around_any (a n : Int) (w : World) (h : 1 ≤ n) (hn : n ≤ 4611686018427387904) (ha : (Lit.int .i64 a).wf = true) :
    Calls Tryz.prog 18 #[.int .i64 a, .int .i64 n] w fun e w' => e = .returned (.int .i64 (aroundI a n)) ∧ w = w' := by
  have hb : -9223372036854775808 ≤ a ∧ a ≤ 9223372036854775807 := by
    simpa [Lit.wf, IntKind.min, IntKind.max, IntKind.signed, IntKind.bits] using ha
  obtain ⟨hb1, hb2⟩ := hb
  clear ha
  by_cases h0 : a < 0
  · have e : Hid (aroundI a n = (-(a + 1)) % n) := by unfold aroundI; exact if_pos h0
    go_enter Tryz.func18, Tryz.ntmps18
    go_wp2
    go_ret
    exact ⟨ret_int (by rw [e.out, ← Int.neg_tmod, Int.tmod_eq_emod_of_nonneg (by omega)]), rfl⟩
  · have e : Hid (aroundI a n = a % n) := by unfold aroundI; exact if_neg h0
    go_enter Tryz.func18, Tryz.ntmps18
    go_wp2
    go_ret
    exact ⟨ret_int (by rw [e.out]), rfl⟩

theorem Tryz.infoI64 : (Tryz.prog.info? 3).map (fun i => (i.zero, i.size, i.bytes)) = some (some (.int .i64 0), 1, 8) := by kernel_rfl

theorem Tryz.infoU8 : (Tryz.prog.info? 5).map (fun i => (i.zero, i.size, i.bytes)) = some (some (.int .u8 0), 1, 1) := by kernel_rfl

theorem Tryz.infoU64 : (Tryz.prog.info? 110).map (fun i => (i.zero, i.size, i.bytes)) = some (some (.int .u64 0), 1, 8) := by kernel_rfl

set_option maxHeartbeats 1000000 in
theorem sameBytes_some (b off cap b2 off2 cap2 len : Nat) (zs ys : List Int) (w : World) (hb : b < w.heap.size) (hb2 : b2 < w.heap.size) (hlen : zs.length = len) (hlen2 : ys.length = len) (hll : len ≤ 1000)
    (hc : ∀ j, j < len → w.cell? ⟨b, off + j, none⟩ = some (.int .u8 (zs[j]?.getD 0))) (hd : ∀ j, j < len → w.cell? ⟨b2, off2 + j, none⟩ = some (.int .u8 (ys[j]?.getD 0))) :
    Calls Tryz.prog 27 #[.slice (some ⟨b, off, none⟩) len cap, .slice (some ⟨b2, off2, none⟩) len cap2] w fun e w' => e = .returned (.bool (decide (zs = ys))) ∧ Below w.heap.size w w' := by
  have HL := Lib.hid hlen
  have HL2 := Lib.hid hlen2
  have HC := Lib.hid hc
  have HD := Lib.hid hd
  clear hlen hlen2 hc hd
  go_enter Tryz.func27, Tryz.ntmps27
  go_wp2
  go_loopw [5] (fun i wr => ∃ k : Nat, k ≤ len ∧ i = .int .i64 k ∧ Hid (∀ j, j < k → zs[j]?.getD 0 = ys[j]?.getD 0) ∧ Hid (Below w.heap.size w wr)) (fun i _ => len - (intOf i).toNat)
  case atStart => exact ⟨0, Nat.zero_le _, rfl, fun j hj => by omega, Below.refl _ _⟩
  case round =>
    obtain ⟨k, hk, rfl, heq, hB⟩ := hrel
    by_cases hlt : k < len
    · have hcx := (hB.out.cell (p := ⟨b, off + k, none⟩) hb).trans (HC.out k hlt)
      have hdx := (hB.out.cell (p := ⟨b2, off2 + k, none⟩) hb2).trans (HD.out k hlt)
      by_cases he : zs[k]?.getD 0 = ys[k]?.getD 0
      · have he' : (zs[k]?.getD 0 != ys[k]?.getD 0) = false := by simpa using he
        have HE := Lib.hid he
        have hli : (k : Int) < len := by omega
        clear he
        go_wp2
        go_quiet (fail)
        go_wp2
        go_roundw
        case rel => exact ⟨k + 1, by omega, by go_num, fun j hj => by by_cases h : j = k; (· subst h; exact HE.out); (· exact heq.out j (by omega)), below_drewN hB.out _⟩
        case measure => simp [intOf]; omega
      · have he' : (zs[k]?.getD 0 != ys[k]?.getD 0) = true := by simpa using he
        have HE : Hid (decide (zs = ys) = false) := by
          apply decide_eq_false
          intro h
          rw [h] at he
          exact he rfl
        have hli : (k : Int) < len := by omega
        clear he
        go_wp2
        go_quiet (fail)
        go_wp2
        go_ret
        exact ⟨ret_bool HE.out.symm, below_drewN hB.out _⟩
    · have hge : len ≤ k := by omega
      go_wp2
      go_ret
      exact ⟨ret_bool (decide_eq_true (lists_eq (HL.out.trans HL2.out.symm) fun j hj => heq.out j (by have := HL.out; omega))).symm, hB.out⟩

set_option maxHeartbeats 1000000 in
theorem sameBytes_zero (a1 a2 : Option Addr) (c1 c2 : Nat) (w : World) :
    Calls Tryz.prog 27 #[.slice a1 0 c1, .slice a2 0 c2] w fun e w' => e = .returned (.bool true) ∧ w = w' := by
  go_enter Tryz.func27, Tryz.ntmps27
  go_wp2
  go_loop [5] (fun i => i = .int .i64 0) (fun _ => 0)
  case atStart => exact rfl
  case round =>
    obtain rfl := hrel
    go_wp2
    go_ret
    exact ⟨rfl, rfl⟩

set_option maxHeartbeats 1000000 in
theorem sameBytes_unlike (a1 a2 : Option Addr) (c1 c2 n1 n2 : Nat) (w : World) (h : n1 ≠ n2) :
    Calls Tryz.prog 27 #[.slice a1 n1 c1, .slice a2 n2 c2] w fun e w' => e = .returned (.bool false) ∧ w = w' := by
  have h' : ((n1 : Int) != (n2 : Int)) = true := by rw [bne_iff_ne]; omega
  clear h
  go_enter Tryz.func27, Tryz.ntmps27
  go_wp2
  go_ret
  exact ⟨rfl, rfl⟩

theorem sameBytes_any (sv sv2 : Value) (zs ys : List Int) (w : World) (h1 : Els .u8 w sv zs) (h2 : Els .u8 w sv2 ys) (hll : zs.length ≤ 1000) :
    Calls Tryz.prog 27 #[sv, sv2] w fun e w' => e = .returned (.bool (decide (zs = ys))) ∧ Below w.heap.size w w' := by
  have fin : ∀ e w', e = Ending.returned (.bool true) ∧ w = w' → zs = ys → e = .returned (.bool (decide (zs = ys))) ∧ Below w.heap.size w w' := by
    rintro e w' ⟨rfl, rfl⟩ h
    exact ⟨by rw [decide_eq_true h], Below.refl _ _⟩
  have no : ∀ e w', e = Ending.returned (.bool false) ∧ w = w' → zs ≠ ys → e = .returned (.bool (decide (zs = ys))) ∧ Below w.heap.size w w' := by
    rintro e w' ⟨rfl, rfl⟩ h
    exact ⟨by rw [decide_eq_false h], Below.refl _ _⟩
  rcases h1 with ⟨he, rfl⟩ | ⟨b, off, cap, hb, rfl, hl, hc⟩
  · obtain ⟨a, c, rfl⟩ := he.shape
    rcases h2 with ⟨he2, rfl⟩ | ⟨b2, off2, cap2, hb2, rfl, hl2, hd⟩
    · obtain ⟨a2, c2, rfl⟩ := he2.shape
      exact (sameBytes_zero _ _ _ _ w).mono fun e w' h => fin e w' h rfl
    · by_cases hy : ys = []
      · subst hy
        exact (sameBytes_zero _ _ _ _ w).mono fun e w' h => fin e w' h rfl
      · exact (sameBytes_unlike _ _ _ _ 0 ys.length w (by intro h; exact hy (List.eq_nil_of_length_eq_zero h.symm))).mono fun e w' h => no e w' h (Ne.symm hy)
  · rcases h2 with ⟨he2, rfl⟩ | ⟨b2, off2, cap2, hb2, rfl, hl2, hd⟩
    · obtain ⟨a2, c2, rfl⟩ := he2.shape
      by_cases hy : zs = []
      · subst hy
        exact (sameBytes_zero _ _ _ _ w).mono fun e w' h => fin e w' h rfl
      · exact (sameBytes_unlike _ _ _ _ zs.length 0 w (by intro h; exact hy (List.eq_nil_of_length_eq_zero h))).mono fun e w' h => no e w' h hy
    · by_cases hy : zs.length = ys.length
      · rw [← hy]
        exact sameBytes_some b off cap b2 off2 cap2 zs.length zs ys w hb hb2 rfl hy.symm hll hc (fun j hj => hd j (by omega))
      · exact (sameBytes_unlike _ _ _ _ zs.length ys.length w hy).mono fun e w' h => no e w' h (fun h => hy (by rw [h]))

theorem around_nat (a : Int) (n : Nat) (h : 0 < n) : ∃ k : Nat, aroundI a n = (k : Int) ∧ k < n := by
  have := aroundI_range a n (by omega)
  exact ⟨(aroundI a n).toNat, by omega, by omega⟩

/-- What Bound returns. -/
def boundI (a m : Int) : Int := aroundI a (2 * m + 1) - m

theorem boundI_range (a m : Int) (h : 0 ≤ m) : -m ≤ boundI a m ∧ boundI a m ≤ m := by
  have := aroundI_range a (2 * m + 1) (by omega)
  unfold boundI
  omega


end Go.Proofs.YtelhpndlejommaaGreat
