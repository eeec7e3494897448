/- The encoders of the reference model for numbers and lists of numbers: what they return; nothing that lay has turned. -/
import Derived.Test.YtejllfpcffeogaaWpure
namespace Go.Proofs.Ytejllfpcffeogaa
open Go.RowKit Go.Shelf

theorem own_lit {k : IntKind} (w : World) (E : TypeId) (zs : List Int) (hl : zs.length ≤ 1000) : Own k E w.heap.size (w.alloc (.cells (zs.map (Value.int k)).toArray E)) (.slice (some ⟨w.heap.size, 0, none⟩) zs.length zs.length) zs := by
  refine ⟨by simp, .inr ⟨w.heap.size, zs.length, _, rfl, Nat.le_refl _, heap_new w _, Nat.le_refl _, by unfold maxLen; omega, by simp, ?_⟩⟩
  rw [Nat.mul_one, List.take_of_length_le (by simp)]

set_option maxRecDepth 100000 in
set_option maxHeartbeats 2000000 in
theorem suint_any (n : Nat) (w : World) (hn : n < 18446744073709551616) :
    Calls Try.prog 75 #[.int .u64 n] w fun e w' => Makes .u8 5 (Hm.uv n) w e w' := by
  have HL := Lib.hid (Hm.uv_len hn)
  have HI := Lib.hid Try.infoU8
  have HN := Lib.hid hn
  clear hn
  go_enter Try.func75, Try.ntmps75
  go_wp2
  go_loopw [0, 3] (fun x v wr => ∃ m : Nat, ∃ acc : List Int, ∃ a l c, Hid (m < 18446744073709551616) ∧ x = .int .u64 m ∧ v = .slice a l c ∧ Hid (acc ++ Hm.uv m = Hm.uv n) ∧ Hid (Own .u8 5 w.heap.size wr (.slice a l c) acc) ∧ Hid (Below w.heap.size w wr)) (fun x _ _ => (intOf x).toNat)
  case atStart => exact ⟨n, [], none, 0, 0, HN, rfl, rfl, rfl, World.ownsRow_nil _ _ _ _, Below.refl _ _⟩
  case round =>
    obtain ⟨m, acc, a, l, c, hm, rfl, rfl, hacc, hO, hB⟩ := hrel
    have hlen := Lib.hid (show acc.length ≤ 1000 by have h1 := congrArg List.length hacc.out; have h2 := HL.out; rw [List.length_append] at h1; omega)
    have hm64 : (m : Int) ≤ 18446744073709551615 := by have h1 := hm.out; omega
    by_cases hlt : 128 ≤ m
    · have hlt2 : (127 : Int) < m := by omega
      go_wp2_with (at_builtin; refine push_own rfl _ _ 39 rfl .u8 5 1 Try.underlying39 HI.out (by decide) w.heap.size (.slice a l c) acc _ _ rfl rfl hO.out hB.out.size (by have := hlen.out; omega) ?_; intro a2 n2 c2 w2 hn2 hO2 hB2)
      go_roundw
      case rel => exact ⟨m / 128, acc ++ [((m % 128 + 128 : Nat) : Int)], a2, n2, c2, (by have := hm.out; show _ < _; omega), by go_num, rfl, (by show _ = _; rw [List.append_assoc, List.singleton_append, ← Hm.uv_big hlt]; exact hacc.out), (by have h := hO2.out; show Own _ _ _ _ _ _; have e : (128 : Int) + (m : Int) % 128 = ((m % 128 + 128 : Nat) : Int) := (by omega); rw [e] at h; exact h), hB.out.trans hB2.out⟩
      case measure => simp [intOf]; omega
    · have hlt2 : (m : Int) ≤ 127 := by omega
      go_wp2_with (at_builtin; refine push_own rfl _ _ 39 rfl .u8 5 1 Try.underlying39 HI.out (by decide) w.heap.size (.slice a l c) acc _ _ rfl rfl hO.out hB.out.size (by have := hlen.out; omega) ?_; intro a2 n2 c2 w2 hn2 hO2 hB2)
      go_ret
      have hO3 := hO2.out
      have e2 := hacc.out
      rw [Hm.uv_small (by omega)] at e2
      have e8 : (m : Int) % 256 = (m : Int) := by omega
      refine makes_of ?_ (hB.out.trans hB2.out)
      rw [← e2]
      first | exact hO3 | (rw [e8] at hO3; exact hO3)

set_option maxRecDepth 100000 in
set_option maxHeartbeats 1000000 in
theorem szig_any (n : Int) (w : World) (hn : -9223372036854775808 ≤ n ∧ n ≤ 9223372036854775807) :
    Calls Try.prog 76 #[.int .i64 n] w fun e w' => e = .returned (.int .u64 (Hm.zig n)) ∧ w = w' := by
  obtain ⟨h1, h2⟩ := hn
  by_cases h0 : n < 0
  · have e : Hid ((Hm.zig n : Int) = -2 * n - 1) := by show _ = _; unfold Hm.zig; rw [if_pos h0]; omega
    go_enter Try.func76, Try.ntmps76
    go_wp2
    go_ret
    exact ⟨ret_int (by first | (rw [e.out]; done) | (rw [e.out]; omega) | (rw [e.out, IntKind.wrap_u64]; omega) | (simp only [e.out, IntKind.wrap_u64]; omega)), rfl⟩
  · have e : Hid ((Hm.zig n : Int) = 2 * n) := by show _ = _; unfold Hm.zig; rw [if_neg h0]; omega
    go_enter Try.func76, Try.ntmps76
    go_wp2
    go_ret
    exact ⟨ret_int (by first | (rw [e.out]; done) | (rw [e.out]; omega) | (rw [e.out, IntKind.wrap_u64]; omega) | (simp only [e.out, IntKind.wrap_u64]; omega)), rfl⟩

set_option maxRecDepth 100000 in
set_option maxHeartbeats 1000000 in
theorem sint_any (n : Int) (w : World) (hn : -9223372036854775808 ≤ n ∧ n ≤ 9223372036854775807) :
    Calls Try.prog 52 #[.int .i64 n] w fun e w' => Makes .u8 5 (Hm.uv (Hm.zig n)) w e w' := by
  have K1 := Lib.hid (szig_any n w hn)
  have K2 := Lib.hid (suint_any (Hm.zig n) w (Hm.zig_lt hn))
  clear hn
  go_enter Try.func52, Try.ntmps52
  go_wp2_with fail
  (with_reducible refine K1.out.mono ?_)
  rintro e w' ⟨rfl, rfl⟩
  go_wp2_with fail
  (with_reducible refine K2.out.mono ?_)
  rintro e w1 ⟨a, n, c, rfl, hn, hO, hB⟩
  go_wp2_with fail
  go_ret
  exact ⟨_, _, _, rfl, hn, hO, hB⟩

set_option maxRecDepth 100000 in
set_option maxHeartbeats 1000000 in
theorem sints_any (a : Option Addr) (n c : Nat) (zs : List Int) (w : World) (h : Els .i64 w (.slice a n c) zs) (hw : Nums zs) (hl : zs.length ≤ 100000) :
    Calls Try.prog 51 #[.slice a n c] w fun e w' => Makes .u8 5 (Hm.uv zs.length ++ encs zs) w e w' := by
  have HI := Lib.hid Try.infoU8
  have HN := Lib.hid h.len
  have hnl : n ≤ 100000 := by rw [HN.out]; exact hl
  have HE := Lib.hid h
  have HW := Lib.hid hw
  have HL := Lib.hid (Hm.uv_len (n := n) (by omega))
  have K := Lib.hid (suint_any n w (by omega))
  clear h hl hw
  go_enter Try.func51, Try.ntmps51
  go_wp2_with fail
  (with_reducible refine K.out.mono ?_)
  rintro e w1 ⟨a1, n1, c1, rfl, hn1, hO1, hB1⟩
  go_wp2_with fail
  go_loopw [3, 4] (fun v i wr => ∃ k : Nat, ∃ ao lo co, k ≤ n ∧ i = .int .i64 k ∧ v = .slice ao lo co ∧ Hid (Own .u8 5 w.heap.size wr (.slice ao lo co) (Hm.uv n ++ encs (zs.take k))) ∧ Hid (Below w.heap.size w wr)) (fun _ i _ => n - (intOf i).toNat)
  case atStart => exact ⟨0, _, _, _, Nat.zero_le _, rfl, rfl, (by show Own _ _ _ _ _ _; simpa [encs] using hO1.out), hB1.out⟩
  case round =>
    obtain ⟨k, ao, lo, co, hk, rfl, rfl, hO, hB⟩ := hrel
    have hs : w.heap.size ≤ wr.heap.size := hB.out.size
    by_cases hlt : k < n
    · obtain ⟨b, off, rfl, hcx⟩ := (HE.out.below hB.out).at k hlt
      have hx := wf_at HW.out k
      have hst := Lib.hid (take_snoc' zs k (by rw [← HN.out]; exact hlt))
      have hlen : (Hm.uv n ++ encs (zs.take k)).length ≤ 2000000 := by
        have h2 := HL.out
        have h3 := encs_len (zs.take k) fun z hz => HW.out z (List.mem_of_mem_take hz)
        have h4 : (zs.take k).length ≤ k := List.length_take_le _ _
        rw [List.length_append]
        omega
      have HLEN := Lib.hid hlen
      have HUL := Lib.hid (Hm.uv_len (Hm.zig_lt hx))
      have K2 := Lib.hid (sint_any (zs[k]?.getD 0) wr hx)
      clear hlen hx
      go_wp2_with fail
      (with_reducible refine K2.out.mono ?_)
      rintro e w2 ⟨a2, n2, c2, rfl, hn2, hO2, hB2⟩
      have hs2 : wr.heap.size ≤ w2.heap.size := hB2.out.size
      have hO3 := Lib.hid (hO.out.below hB2.out)
      go_wp2_with (at_builtin; refine push_all rfl _ _ 39 rfl .u8 5 1 Try.underlying39 HI.out (by decide) w.heap.size (.slice ao lo co) _ _ (Hm.uv (Hm.zig (zs[k]?.getD 0))) rfl rfl hO3.out hO2.out.els (by omega) (by have h1 := HLEN.out; have h2 := HUL.out; omega) ?_; intro a4 n4 c4 w4 hn4 hO4 hB4)
      go_roundw
      case rel => exact ⟨k + 1, a4, n4, c4, by omega, by go_num, rfl, (by show Own _ _ _ _ _ _; rw [hst.out, encs_snoc, ← List.append_assoc]; exact hO4.out), (hB.out.trans (hB2.out.mono hB.out.size)).trans hB4.out⟩
      case measure => simp [intOf]; omega
    · obtain rfl : k = n := by omega
      have hall : Hid (zs.take k = zs) := by show _ = _; rw [HN.out, List.take_length]
      have hO5 := hO.out
      rw [hall.out] at hO5
      have HO5 := Lib.hid hO5
      clear hO5 hlt
      go_wp2_with fail
      go_ret
      refine makes_of ?_ hB.out
      rw [← HN.out]
      exact HO5.out


end Go.Proofs.Ytejllfpcffeogaa
