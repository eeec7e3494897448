/- Arrays of bits: what classes.list returns. -/
import Derived.Test.YtidnllddhhllcaaSmall
import Derived.Deep.MidRow
import Derived.Deep.DeepCutAuto
namespace Go.Proofs.Ytidnllddhhllcaa
open Go.RowKit Go.Shelf

/-- The cells of an array of 64 bits. -/
def Bits (c : List Value) (f : Nat → Bool) : Prop := c.length = 64 ∧ ∀ i, i < 64 → c[i]? = some (.bool (f i))

/-- The numbers below k whose bits are set. -/
def ones (f : Nat → Bool) (k : Nat) : List Int := ((List.range k).filter f).map Int.ofNat

theorem ones_succ (f : Nat → Bool) (k : Nat) : ones f (k + 1) = ones f k ++ (if f k = true then [(k : Int)] else []) := by
  unfold ones
  rw [List.range_succ, List.filter_append, List.map_append]
  congr 1
  by_cases h : f k = true <;> simp [h]

theorem ones_len (f : Nat → Bool) (k : Nat) : (ones f k).length ≤ k := by
  unfold ones
  rw [List.length_map]
  exact Nat.le_trans (List.length_filter_le _ _) (by simp)

theorem Try.infoBits : (Try.prog.info? 68).map (·.size) = some 64 := by kernel_rfl

theorem Try.infoBit : (Try.prog.info? 4).map (·.size) = some 1 := by kernel_rfl

theorem Try.underBits : Try.prog.underlying 68 = some (.array 64 4) := by kernel_rfl

theorem range_new (w : World) (c : List Value) (T : TypeId) : (w.alloc (.cells c.toArray T)).rangeAt w.heap.size 0 c := by
  intro j v hv
  have := heap_new w (.cells c.toArray T)
  unfold World.cell?
  simp only [this]
  simpa using hv

/-- An element of an array of bits: the law at the operation. -/
theorem run_index_bits {P : Program} {w : World} {t el : TypeId} {n : Nat} {cs : Array Value} {k : IntKind} {i : Nat} {v : Value} (h : P.underlying t = some (.array n el)) (he : P.underlying el = some .bool) (hs : (P.info? el).map (·.size) = some 1)
    (hi : i < n) (hv : cs[i]? = some v) : (Instr.index t (.agg cs) (.int k (i : Int))).run P w = .ok v w := by
  cases hq : P.info? el with
  | none => simp [hq] at hs
  | some f =>
    have hf : f.size = 1 := by simpa [hq] using hs
    simp [Instr.index, run_underlying h, asIntOf, go_sem, part, isAgg, run_underlying he, sizeOf, typeInfo, hq, hf, hv]
    intro hc
    omega

theorem Bits.size {c : List Value} {f : Nat → Bool} (h : Bits c f) : (Try.prog.info? 68).map (·.size) = some c.length := by rw [h.1]; exact Try.infoBits

set_option maxHeartbeats 1000000 in
set_option maxRecDepth 100000 in
theorem list_any (c : List Value) (f : Nat → Bool) (w : World) (h : Bits c f) :
    Calls Try.prog 43 #[.agg c.toArray] w (Makes .i64 3 (ones f 64) w) := by
  have H := Lib.hid h
  clear h
  go_enter Try.func43, Try.ntmps43
  go_upto_region 2 with (fail)
  refine wp_region_lit ?_
  refine wpList_load_mid (by rfl) _ _ (by rfl) w.heap.size 0 rfl c _ (range_new w c _) Try.underBits rfl H.out.size ?_
  go_wp2
  go_loopw [3, 7] (fun v i wr => ∃ k : Nat, k ≤ 64 ∧ i = .int .i64 k ∧ ∃ a n cp, v = .slice a n cp ∧ Hid (n = (ones f k).length) ∧ Hid (Own .i64 3 w.heap.size wr (.slice a n cp) (ones f k)) ∧ Hid (Below w.heap.size w wr)) (fun _ i _ => 64 - (intOf i).toNat)
  case atStart => exact ⟨0, by omega, rfl, none, 0, 0, rfl, rfl, World.ownsRow_nil _ _ _ _, ((Below.refl _ w).alloc (Nat.le_refl _) _)⟩
  case round =>
    obtain ⟨k, hk, rfl, a, n, cp, rfl, hn, hO, hB⟩ := hrel
    by_cases hlt : k < 64
    · have hb := H.out.2 k hlt
      have hix := run_index_bits (P := Try.prog) (w := wr) (k := .i64) (cs := c.toArray) Try.underBits Try.underlying4 Try.infoBit hlt (by simpa using hb)
      by_cases hf : f k = true
      · have hs : ones f (k + 1) = ones f k ++ [(k : Int)] := by rw [ones_succ, if_pos hf]
        have HS := Lib.hid hs
        rw [hf] at hix
        clear hb hs
        go_wp2_with (at_builtin; refine push_own rfl _ _ 22 rfl .i64 3 8 Try.underlying22 Try.infoI64 (by decide) w.heap.size (.slice a n cp) (ones f k) _ _ rfl rfl hO.out hB.out.size (by have := ones_len f k; omega) ?_; intro a2 n2 c2 w2 hn2 hO2 hB2)
        go_roundw
        case rel => exact ⟨k + 1, by omega, by go_num, a2, n2, c2, rfl, Lib.hid (by rw [HS.out, List.length_append, hn2.out]; rfl), Lib.hid (by rw [HS.out]; exact hO2.out), Lib.hid (hB.out.trans hB2.out)⟩
        case measure => simp [intOf]; omega
      · have hf' : f k = false := by simpa using hf
        have hs : ones f (k + 1) = ones f k := by rw [ones_succ, if_neg hf, List.append_nil]
        have HS := Lib.hid hs
        rw [hf'] at hix
        clear hb hs hf hf'
        go_wp2
        go_roundw
        case rel => exact ⟨k + 1, by omega, by go_num, a, n, cp, rfl, Lib.hid (by rw [HS.out]; exact hn.out), Lib.hid (by rw [HS.out]; exact hO.out), hB⟩
        case measure => simp [intOf]; omega
    · have hk64 : k = 64 := by omega
      subst hk64
      go_wp2
      go_ret
      exact makes_of hO.out hB.out

end Go.Proofs.Ytidnllddhhllcaa
