/- The encoders of the reference model for numbers and lists of numbers: what they return; nothing that lay has turned. -/
import Derived.Test.YtimbgjpjgbjnkaaWvalsWpure
namespace Go.Proofs.Ytimbgjpjgbjnkaa
open Go.RowKit Go.Shelf

theorem own_lit {k : IntKind} (w : World) (E : TypeId) (zs : List Int) (hl : zs.length ≤ 1000) : Own k E w.heap.size (w.alloc (.cells (zs.map (Value.int k)).toArray E)) (.slice (some ⟨w.heap.size, 0, none⟩) zs.length zs.length) zs := by
  refine ⟨by simp, .inr ⟨w.heap.size, zs.length, _, rfl, Nat.le_refl _, heap_new w _, Nat.le_refl _, by unfold maxLen; omega, by simp, ?_⟩⟩
  rw [Nat.mul_one, List.take_of_length_le (by simp)]

set_option maxRecDepth 100000 in
set_option maxHeartbeats 2000000 in
theorem suint_any (n : Nat) (w : World) (hn : n < 18446744073709551616) :
    Calls Try.prog 101 #[.int .u64 n] w fun e w' => Makes .u8 5 (Hm.uv n) w e w' := by
  have HL := Lib.hid (Hm.uv_len hn)
  have HI := Lib.hid Try.infoU8
  have HN := Lib.hid hn
  clear hn
  go_enter Try.func101, Try.ntmps101
  go_wp2
  go_loopw [0, 3] (fun x v wr => ∃ m : Nat, ∃ acc : List Int, ∃ a l c, Hid (m < 18446744073709551616) ∧ x = .int .u64 m ∧ v = .slice a l c ∧ Hid (acc ++ Hm.uv m = Hm.uv n) ∧ Hid (Own .u8 5 w.heap.size wr (.slice a l c) acc) ∧ Hid (Below w.heap.size w wr)) (fun x _ _ => (intOf x).toNat)
  case atStart => exact ⟨n, [], none, 0, 0, HN, rfl, rfl, rfl, World.ownsRow_nil _ _ _ _, Below.refl _ _⟩
  case round =>
    obtain ⟨m, acc, a, l, c, hm, rfl, rfl, hacc, hO, hB⟩ := hrel
    have hlen := Lib.hid (show acc.length ≤ 1000 by have h1 := congrArg List.length hacc.out; have h2 := HL.out; rw [List.length_append] at h1; omega)
    have hm64 : (m : Int) ≤ 18446744073709551615 := by have h1 := hm.out; omega
    by_cases hlt : 128 ≤ m
    · have hlt2 : (127 : Int) < m := by omega
      go_wp2_with (at_builtin; refine push_own rfl _ _ 58 rfl .u8 5 1 Try.underlying58 HI.out (by decide) w.heap.size (.slice a l c) acc _ _ rfl rfl hO.out hB.out.size (by have := hlen.out; omega) ?_; intro a2 n2 c2 w2 hn2 hO2 hB2)
      go_roundw
      case rel => exact ⟨m / 128, acc ++ [((m % 128 + 128 : Nat) : Int)], a2, n2, c2, (by have := hm.out; show _ < _; omega), by go_num, rfl, (by show _ = _; rw [List.append_assoc, List.singleton_append, ← Hm.uv_big hlt]; exact hacc.out), (by have h := hO2.out; show Own _ _ _ _ _ _; have e : (128 : Int) + (m : Int) % 128 = ((m % 128 + 128 : Nat) : Int) := (by omega); rw [e] at h; exact h), hB.out.trans hB2.out⟩
      case measure => simp [intOf]; omega
    · have hlt2 : (m : Int) ≤ 127 := by omega
      go_wp2_with (at_builtin; refine push_own rfl _ _ 58 rfl .u8 5 1 Try.underlying58 HI.out (by decide) w.heap.size (.slice a l c) acc _ _ rfl rfl hO.out hB.out.size (by have := hlen.out; omega) ?_; intro a2 n2 c2 w2 hn2 hO2 hB2)
      go_ret
      have hO3 := hO2.out
      have e2 := hacc.out
      rw [Hm.uv_small (by omega)] at e2
      have e8 : (m : Int) % 256 = (m : Int) := by omega
      refine makes_of ?_ (hB.out.trans hB2.out)
      rw [← e2]
      first | exact hO3 | (rw [e8] at hO3; exact hO3)

set_option maxRecDepth 100000 in
set_option maxHeartbeats 1000000 in
theorem szig_any (n : Int) (w : World) (hn : -9223372036854775808 ≤ n ∧ n ≤ 9223372036854775807) :
    Calls Try.prog 102 #[.int .i64 n] w fun e w' => e = .returned (.int .u64 (Hm.zig n)) ∧ w = w' := by
  obtain ⟨h1, h2⟩ := hn
  by_cases h0 : n < 0
  · have e : Hid ((Hm.zig n : Int) = -2 * n - 1) := by show _ = _; unfold Hm.zig; rw [if_pos h0]; omega
    go_enter Try.func102, Try.ntmps102
    go_wp2
    go_ret
    exact ⟨ret_int (by first | (rw [e.out]; done) | (rw [e.out]; omega) | (rw [e.out, IntKind.wrap_u64]; omega) | (simp only [e.out, IntKind.wrap_u64]; omega)), rfl⟩
  · have e : Hid ((Hm.zig n : Int) = 2 * n) := by show _ = _; unfold Hm.zig; rw [if_neg h0]; omega
    go_enter Try.func102, Try.ntmps102
    go_wp2
    go_ret
    exact ⟨ret_int (by first | (rw [e.out]; done) | (rw [e.out]; omega) | (rw [e.out, IntKind.wrap_u64]; omega) | (simp only [e.out, IntKind.wrap_u64]; omega)), rfl⟩

set_option maxRecDepth 100000 in
set_option maxHeartbeats 1000000 in
theorem sint_any (n : Int) (w : World) (hn : -9223372036854775808 ≤ n ∧ n ≤ 9223372036854775807) :
    Calls Try.prog 79 #[.int .i64 n] w fun e w' => Makes .u8 5 (Hm.uv (Hm.zig n)) w e w' := by
  have K1 := Lib.hid (szig_any n w hn)
  have K2 := Lib.hid (suint_any (Hm.zig n) w (Hm.zig_lt hn))
  clear hn
  go_enter Try.func79, Try.ntmps79
  go_wp2_with fail
  (with_reducible refine K1.out.mono ?_)
  rintro e w' ⟨rfl, rfl⟩
  go_wp2_with fail
  (with_reducible refine K2.out.mono ?_)
  rintro e w1 ⟨a, n, c, rfl, hn, hO, hB⟩
  go_wp2_with fail
  go_ret
  exact ⟨_, _, _, rfl, hn, hO, hB⟩


end Go.Proofs.Ytimbgjpjgbjnkaa
