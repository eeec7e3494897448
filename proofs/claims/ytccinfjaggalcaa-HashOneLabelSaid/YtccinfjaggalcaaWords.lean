/- hash.wordsOf: an iterator over the words of a byte slice: its contract. -/
import Derived.RangeFuncNested
import Derived.RangeFuncBound
import Derived.RangeFuncCalls
import Derived.RangeFuncLeaves
import Derived.Shelf.Abstract
import Derived.Shelf.RegionOpen
import Derived.WalkKit
import Derived.OwnWalkIn
import Derived.TacticsInMore
import Derived.LoopNIn
import Derived.LoopIn
import Derived.Test.YtccinfjaggalcaaWord
namespace Go.Proofs.Ytccinfjaggalcaa
open Go.RowKit Go.Shelf

attribute [local go_sem] Oper.semAt_some

theorem wide_fn (f : Nat) : Fence.wide.fn f := trivial

/-- The call of word for chunk k. -/
theorem chunk_any (b off len cap k m : Nat) (zs : List Int) (wr : World) (hlen : zs.length = len) (hz : Hm.Byt zs) (hk : 8 * k < len) (hm : m = min 8 (len - 8 * k))
    (hc : ∀ j, j < len → wr.cell? ⟨b, off + j, none⟩ = some (.int .u8 (zs[j]?.getD 0))) :
    Calls Try.prog 30 #[.slice (some ⟨b, off + 8 * k, none⟩) m cap] wr fun e w' => e = .returned (.int .u64 (Hm.wordAt zs k)) ∧ wr = w' := by
  refine word_any b (off + 8 * k) m cap ((zs.drop (8 * k)).take 8) wr (by simp; omega) (by omega) ((hz.drop _).take _) ?_
  intro j hj
  have h1 := hc (8 * k + j) (by omega)
  rw [Nat.add_assoc, h1, List.getElem?_take_of_lt (by omega), List.getElem?_drop]

set_option maxRecDepth 100000 in
set_option maxHeartbeats 2000000 in
theorem words1_in (n : Nat) (hn : 2 ≤ n) (l Bs b off len cap : Nat) (zs : List Int) (hlen : zs.length = len) (hz : Hm.Byt zs) (hreach : len ≤ 140737488351232) (hcap : len ≤ cap) (J Jx : List Int → World → Prop)
    (hY : ∀ pre x W, J pre W → pre.length < (len + 7) / 8 → YieldAt Fence.wide (n - 1) Try.prog l #[.int .u64 x] W fun e W' =>
      (e = .returned (.bool true) ∧ J (pre ++ [x]) W' ∧ Keeps2 b Bs W W') ∨ (e = .returned (.bool false) ∧ Jx (pre ++ [x]) W'))
    (W : World) (hBs : W.cell? ⟨Bs, 0, none⟩ = some (.slice (some ⟨b, off, none⟩) len cap)) (hc : ∀ j, j < len → W.cell? ⟨b, off + j, none⟩ = some (.int .u8 (zs[j]?.getD 0))) (h0 : J [] W) :
    CallsIn Fence.wide n Try.prog 29 #[.func (.yield l) #[] #[], .pointer (some ⟨Bs, 0, none⟩)] W fun e W' => (∃ v, e = .returned v) ∧
      ((∃ ys, ys = Hm.words zs ∧ J ys W') ∨ (∃ pre, (∃ k, k ≤ (len + 7) / 8 ∧ pre = Hm.upto (Hm.wordAt zs) k) ∧ Jx pre W')) := by
  have HL := Lib.hid hlen
  clear hlen
  refine callsIn_of_wp Try.func29 rfl (wide_fn _) ?_ rfl
  simp only [Try.ntmps29, List.size_toArray, List.length_cons, List.length_nil, Nat.reduceAdd, Nat.reduceSub, Array.replicate_succ, Array.replicate_zero, List.push_toArray, List.append_toArray, List.nil_append, List.cons_append]
  gi_wp2
  gi_loopw [3] (fun i wr => ∃ k : Nat, k ≤ (len + 7) / 8 ∧ i = .int .i64 (8 * (k : Int)) ∧ J (Hm.upto (Hm.wordAt zs) k) wr ∧ Hid (Keeps2 b Bs W wr))
    (fun i _ => len + 8 - (intOf i).toNat)
  case atStart => exact ⟨0, Nat.zero_le _, rfl, h0, Keeps2.refl _ _ _⟩
  case round =>
    obtain ⟨k, hk, rfl, hJs, hnx⟩ := hrel
    have hBs' := (cell_of_block hnx.out.2 0).trans hBs
    clear hBs h0
    by_cases hlt : 8 * k < len
    · have hcw := fun m cap' hm => chunk_any b off len cap' k m zs wr HL.out hz hlt hm (fun j hj => (cell_of_block hnx.out.1 _).trans (hc j hj))
      obtain ⟨fn, tmps, assign, body, hy, hR⟩ := hY _ (Hm.wordAt zs k) wr hJs (by rw [Hm.upto_length]; omega)
      have HY := Lib.hid hY
      have HC := Lib.hid hcw
      clear hc hY hcw
      by_cases h8 : 8 * k + 8 ≤ len
      all_goals
        gi_wp2_with fail
        refine ⟨trivial, fun _ => by omega, ?_⟩
        refine (callsIn_wide.2 (HC.out _ _ (by omega))).mono ?_
        rintro e w' ⟨rfl, rfl⟩
        gi_wp2
        refine ⟨fun _ => by omega, ?_⟩
        refine hR.mono ?_
        rintro e W3 (⟨rfl, hJ3, hk3⟩ | ⟨rfl, hJx3⟩)
        · gi_wp2
          go_roundw
          case rel => exact ⟨k + 1, by omega, by go_num, by rw [Hm.upto_succ]; exact hJ3, hnx.out.trans hk3⟩
          case measure => simp [intOf]; omega
        · gi_wp2
          refine bodyPost_ret (results_none rfl _ _ _) rfl ?_
          exact ⟨⟨_, rfl⟩, .inr ⟨_, ⟨k + 1, by omega, (Hm.upto_succ _ _).symm⟩, hJx3⟩⟩
    · clear hc hY
      have hk2 : k = (len + 7) / 8 := by omega
      have HK := Lib.hid hk2
      clear hk2
      gi_wp2
      go_end0
      exact ⟨⟨_, rfl⟩, .inl ⟨_, by rw [Hm.words, HL.out, ← HK.out], hJs⟩⟩

set_option maxRecDepth 100000 in
set_option maxHeartbeats 1000000 in
/-- .. at a slice of no elements: no round. -/
theorem words1_nil_in (n : Nat) (l Bs : Nat) (a : Option Addr) (cap : Nat) (J : List Int → World → Prop) (W : World) (hBs : W.cell? ⟨Bs, 0, none⟩ = some (.slice a 0 cap)) (h0 : J [] W) :
    CallsIn Fence.wide n Try.prog 29 #[.func (.yield l) #[] #[], .pointer (some ⟨Bs, 0, none⟩)] W fun e W' => (∃ v, e = .returned v) ∧ J [] W' := by
  refine callsIn_of_wp Try.func29 rfl (wide_fn _) ?_ rfl
  simp only [Try.ntmps29, List.size_toArray, List.length_cons, List.length_nil, Nat.reduceAdd, Nat.reduceSub, Array.replicate_succ, Array.replicate_zero, List.push_toArray, List.append_toArray, List.nil_append, List.cons_append]
  gi_wp2
  gi_loopw [3] (fun i wr => i = .int .i64 0 ∧ J [] wr ∧ wr.cell? ⟨Bs, 0, none⟩ = some (.slice a 0 cap)) (fun _ _ => 0)
  case atStart => exact ⟨rfl, h0, hBs⟩
  case round =>
    obtain ⟨rfl, hJs, hb⟩ := hrel
    clear hBs h0
    gi_wp2
    go_end0
    exact ⟨⟨_, rfl⟩, hJs⟩

set_option maxHeartbeats 1000000 in
/-- hash.wordsOf: the slice value is boxed; the function value captures the box. -/
theorem wordsOf_any (a : Option Addr) (len cap : Nat) (w : World) :
    Calls Try.prog 28 #[.slice a len cap] w fun e w' => e = .returned (.func (.func 29) #[] #[.pointer (some ⟨w.heap.size, 0, none⟩)]) ∧ w' = w.alloc (.cells #[.slice a len cap] 30) := by
  go_enter Try.func28, Try.ntmps28
  go_wp2
  go_ret
  exact ⟨rfl, rfl⟩

/-- hash.wordsOf hands back an iterator over the words. -/
theorem words_stops (n : Nat) (hn : 2 ≤ n) (Bs b : Nat) (sv : Value) (zs : List Int) (hz : Hm.Byt zs) (hreach : zs.length ≤ 140737488351232) (w : World) (hBs : Bs < w.heap.size) (hb : b < w.heap.size)
    (hc : w.cell? ⟨Bs, 0, none⟩ = some sv) (hI : Elems .u8 b w sv zs) :
    SeqStopsK Fence.wide n Try.prog 29 #[.pointer (some ⟨Bs, 0, none⟩)] (fun x : Int => #[Value.int .u64 x]) (Keeps2 b Bs) (fun ys => ys = Hm.words zs) (fun pre => pre <+: Hm.words zs) ((zs.length + 7) / 8) w := fun l J Jx W hW _ _ hY h0 => by
  have hc' := (hW.cell (p := ⟨Bs, 0, none⟩) hBs).trans hc
  rcases hI.keep (hW.block b hb) with ⟨he, rfl⟩ | ⟨off, cap, rfl, hcap, hcs⟩
  · obtain ⟨a, cap, rfl⟩ := he.shape
    exact (words1_nil_in n l Bs a cap J W hc' h0).mono fun e W' ⟨he, hj⟩ => ⟨he, .inl ⟨_, rfl, hj⟩⟩
  · refine (words1_in n hn l Bs b off zs.length cap zs rfl hz hreach hcap J Jx hY W hc' hcs h0).mono ?_
    rintro e W' ⟨he, ⟨ys, rfl, hj⟩ | ⟨pre, ⟨k, hk, rfl⟩, hj⟩⟩
    · exact ⟨he, .inl ⟨_, rfl, hj⟩⟩
    · exact ⟨he, .inr ⟨_, Hm.upto_take _ _ _ hk, hj⟩⟩

end Go.Proofs.Ytccinfjaggalcaa
