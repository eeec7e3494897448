/- Same of the reference model, and encode of the laws. -/
import Derived.Test.YtgipfbmomhlcjaaRdv
namespace Go.Proofs.Ytgipfbmomhlcjaa
open Go.RowKit Go.Shelf

set_option maxRecDepth 100000 in
set_option maxHeartbeats 2000000 in
theorem same_any (k u : Nat) (n : Int) (b l : List Int) (bv lv bv2 lv2 : Value) (w : World) (h1 : Els .u8 w bv b) (h2 : Els .i64 w lv l) (h3 : Els .u8 w bv2 b) (h4 : Els .i64 w lv2 l) (hb : b.length ≤ 1000) (hl : l.length ≤ 1000) :
    Calls Try.prog 21 #[.agg #[.int .i64 k, .int .u64 u, .int .i64 n, bv, lv], .agg #[.int .i64 k, .int .u64 u, .int .i64 n, bv2, lv2]] w fun e w' => e = .returned (.bool true) ∧ Below w.heap.size w w' := by
  have k1 := fun W (hW : Below w.heap.size w W) => (sameBytes_any bv bv2 b b W (h1.below hW) (h3.below hW) hb).mono fun e w' hh => And.intro (hh.1.trans (ret_bool (b := true) (decide_eq_true rfl))) hh.2
  have k2 := fun W (hW : Below w.heap.size w W) => (sameInts_any lv lv2 l l W (h2.below hW) (h4.below hW) hl).mono fun e w' hh => And.intro (hh.1.trans (ret_bool (b := true) (decide_eq_true rfl))) hh.2
  have K1 := Lib.hid k1
  have K2 := Lib.hid k2
  clear k1 k2 h1 h2 h3 h4 hb hl
  have HB0 := Lib.hid (((Below.refl w.heap.size w).alloc (Nat.le_refl _) (.cells (five k u n bv lv) 28)).alloc (by simp) (.cells (five k u n bv2 lv2) 28))
  go_enter Try.func21, Try.ntmps21
  go_wp2_with fail
  refine (K1.out _ HB0.out).mono ?_
  rintro e w1 ⟨rfl, hB1⟩
  have HB1 := Lib.hid (HB0.out.trans (hB1.mono HB0.out.size))
  have hz : ((w.alloc (.cells (five k u n bv lv) 28)).alloc (.cells (five k u n bv2 lv2) 28)).heap.size = w.heap.size + 1 + 1 := by simp
  have b1 : w1.heap[w.heap.size]? = some (.cells (five k u n bv lv) 28 (0, 0)) := (hB1.block _ (by show _ < ((w.alloc (.cells (five k u n bv lv) _)).alloc (.cells (five k u n bv2 lv2) _)).heap.size; omega)).trans (heap_old _ (heap_new w _))
  have b2 : w1.heap[w.heap.size + 1]? = some (.cells (five k u n bv2 lv2) 28 (0, 0)) := by
    refine (hB1.block _ (by show _ < ((w.alloc (.cells (five k u n bv lv) _)).alloc (.cells (five k u n bv2 lv2) _)).heap.size; omega)).trans ?_
    have := heap_new (w.alloc (.cells (five k u n bv lv) 28)) (.cells (five k u n bv2 lv2) 28)
    rw [show (w.alloc (.cells (five k u n bv lv) 28)).heap.size = w.heap.size + 1 by simp] at this
    exact this
  obtain ⟨c10, c11, c12, c13, c14, f1⟩ := five_cells b1
  obtain ⟨c20, c21, c22, c23, c24, f2⟩ := five_cells b2
  have hs1 := hB1.size
  have HBB1 := Lib.hid b1
  have HBB2 := Lib.hid b2
  clear hB1 b1 b2 hz
  go_wp2_with fail
  refine (K2.out _ HB1.out).mono ?_
  rintro e w2 ⟨rfl, hB2⟩
  have HB2 := Lib.hid (HB1.out.trans (hB2.mono HB1.out.size))
  obtain ⟨d10, d11, d12, d13, d14, g1⟩ := five_cells ((hB2.block _ (lt_of_block HBB1.out)).trans HBB1.out)
  obtain ⟨d20, d21, d22, d23, d24, g2⟩ := five_cells ((hB2.block _ (lt_of_block HBB2.out)).trans HBB2.out)
  clear hB2
  go_wp2_with fail
  go_ret
  exact ⟨rfl, HB2.out⟩

/-- The encoding of values. -/
def encVs (xs : List V) : List Int := (xs.map encV).flatten

theorem encVs_snoc (xs : List V) (x : V) : encVs (xs ++ [x]) = encVs xs ++ encV x := by simp [encVs]

/-- A slice of values that can be read. -/
def VEls (w : World) (a : Option Addr) (n c : Nat) (xs : List V) : Prop :=
  n = xs.length ∧ n ≤ c ∧ ∀ j x, xs[j]? = some x → ∃ b off bv lv, a = some ⟨b, off, none⟩ ∧ b < w.heap.size ∧ w.cell? ⟨b, off + j * 5, none⟩ = some (.int .i64 x.kind) ∧ w.cell? ⟨b, off + j * 5 + 1, none⟩ = some (.int .u64 x.u) ∧
    w.cell? ⟨b, off + j * 5 + 2, none⟩ = some (.int .i64 x.n) ∧ w.cell? ⟨b, off + j * 5 + 3, none⟩ = some bv ∧ w.cell? ⟨b, off + j * 5 + 4, none⟩ = some lv ∧ Hid (Els .u8 w bv x.b) ∧ Hid (Els .i64 w lv x.l)

theorem VEls.below {w w' : World} {a : Option Addr} {n c : Nat} {xs : List V} (h : VEls w a n c xs) (hB : Below w.heap.size w w') : VEls w' a n c xs := by
  refine ⟨h.1, h.2.1, fun j x hx => ?_⟩
  obtain ⟨b, off, bv, lv, ha, hb, h0, h1, h2, h3, h4, h5, h6⟩ := h.2.2 j x hx
  have hc : ∀ o, w'.cell? ⟨b, o, none⟩ = w.cell? ⟨b, o, none⟩ := fun o => hB.cell (p := ⟨b, o, none⟩) hb
  exact ⟨b, off, bv, lv, ha, Nat.lt_of_lt_of_le hb hB.size, by rw [hc]; exact h0, by rw [hc]; exact h1, by rw [hc]; exact h2, by rw [hc]; exact h3, by rw [hc]; exact h4, h5.out.below hB, h6.out.below hB⟩

/-- One of the values, in a later world: its slices lie below. -/
theorem VEls.at {w w' : World} {a : Option Addr} {n c : Nat} {xs : List V} (h : VEls w a n c xs) (hB : Below w.heap.size w w') {j : Nat} {x : V} (hx : xs[j]? = some x) :
    ∃ b off bv lv, a = some ⟨b, off, none⟩ ∧ w'.cell? ⟨b, off + j * 5, none⟩ = some (.int .i64 x.kind) ∧ w'.cell? ⟨b, off + j * 5 + 1, none⟩ = some (.int .u64 x.u) ∧
    w'.cell? ⟨b, off + j * 5 + 2, none⟩ = some (.int .i64 x.n) ∧ w'.cell? ⟨b, off + j * 5 + 3, none⟩ = some bv ∧ w'.cell? ⟨b, off + j * 5 + 4, none⟩ = some lv ∧ Hid (Els .u8 w' bv x.b) ∧ Hid (Els .i64 w' lv x.l) ∧ Hid (LowEls w.heap.size bv) ∧ Hid (LowEls w.heap.size lv) := by
  obtain ⟨b, off, bv, lv, ha, hb, h0, h1, h2, h3, h4, h5, h6⟩ := h.2.2 j x hx
  have hc : ∀ o, w'.cell? ⟨b, o, none⟩ = w.cell? ⟨b, o, none⟩ := fun o => hB.cell (p := ⟨b, o, none⟩) hb
  exact ⟨b, off, bv, lv, ha, by rw [hc]; exact h0, by rw [hc]; exact h1, by rw [hc]; exact h2, by rw [hc]; exact h3, by rw [hc]; exact h4, h5.out.below hB, h6.out.below hB, h5.out.lows, h6.out.lows⟩

theorem encVs_len (xs : List V) (h : ∀ x ∈ xs, x.Good) : (encVs xs).length ≤ 11000 * xs.length := by
  induction xs with
  | nil => simp [encVs]
  | cons c l ih =>
    have h1 := encV_len (h c (List.mem_cons_self ..))
    have h2 := ih fun z hz => h z (List.mem_cons_of_mem _ hz)
    simp only [encVs, List.map_cons, List.flatten_cons, List.length_append, List.length_cons] at h2 ⊢
    omega

theorem take_snoc_v (l : List V) (k : Nat) (x : V) (h : l[k]? = some x) : l.take (k + 1) = l.take k ++ [x] := by
  rw [List.take_add_one, h]
  rfl

set_option maxRecDepth 100000 in
set_option maxHeartbeats 2000000 in
theorem encode_any (a : Option Addr) (n c : Nat) (xs : List V) (w : World) (h : VEls w a n c xs) (hG : ∀ x ∈ xs, x.Good) (hn : n ≤ 100) :
    Calls Try.prog 26 #[.slice a n c] w fun e w' => Makes .u8 5 (encVs xs) w e w' := by
  have HH := Lib.hid h
  have HG := Lib.hid hG
  have HN := Lib.hid h.1
  have hln := encVs_len xs hG
  have HL := Lib.hid (show (encVs xs).length ≤ 2000000 by have := h.1; omega)
  clear h hG hln
  go_enter Try.func26, Try.ntmps26
  go_wp2_with fail
  go_loopw [4] (fun v wr => ∃ k : Nat, k ≤ n ∧ v = .int .i64 k ∧ Hid (Wr w.heap.size (w.heap.size + 1) wr (encVs (xs.take k))) ∧ Hid (Below w.heap.size w wr)) (fun v _ => n - (intOf v).toNat)
  case atStart => exact ⟨0, Nat.zero_le _, rfl, Wr.new w _, (Below.refl _ w).alloc (Nat.le_refl _) _⟩
  case round =>
    obtain ⟨k, hk, rfl, hW, hB⟩ := hrel
    by_cases hlt : k < n
    · obtain ⟨x, hx⟩ : ∃ x, xs[k]? = some x := ⟨_, List.getElem?_eq_getElem (by rw [← HN.out]; exact hlt)⟩
      have hgx := HG.out x (List.mem_of_getElem? hx)
      have hst := Lib.hid (take_snoc_v xs k x hx)
      obtain ⟨b, off, bv, lv, rfl, h0, h1, h2, h3, h4, h5, h6, h7, h8⟩ := HH.out.at hB.out hx
      have hzl : (encVs (xs.take k)).length ≤ 70000000000 := by
        have h9 := encVs_len (xs.take k) fun z hz => HG.out z (List.mem_of_mem_take hz)
        have h10 : (xs.take k).length ≤ k := List.length_take_le _ _
        omega
      have K := Lib.hid (write_any w.heap.size (w.heap.size + 1) x bv lv _ wr hgx hzl h5.out h6.out h7.out h8.out hW.out)
      clear hx hgx hzl
      go_wp2_with fail
      (with_reducible refine K.out.mono ?_)
      rintro e w2 ⟨rfl, hW2, hB2⟩
      have HW2 := Lib.hid hW2
      have HB2 := Lib.hid (hB.out.trans hB2)
      clear hW2 hB2
      go_wp2_with fail
      go_roundw
      case rel => exact ⟨k + 1, by omega, by go_num, (by show Wr _ _ _ _; rw [hst.out, encVs_snoc]; exact HW2.out), HB2.out⟩
      case measure => simp [intOf]; omega
    · obtain rfl : k = n := by omega
      have hall : Hid (xs.take k = xs) := by show _ = _; rw [HN.out, List.take_length]
      have HW := hW.out
      rw [hall.out] at HW
      have K := Lib.hid (wdone_any _ _ _ wr (by have := HL.out; omega) HW)
      clear HW hlt
      go_wp2_with fail
      (with_reducible refine K.out.mono ?_)
      rintro e w2 ⟨a2, n2, c2, rfl, hn2, hO2, hB2⟩
      have HB2 := Lib.hid (hB.out.trans (hB2.out.mono hB.out.size))
      go_wp2_with fail
      go_ret
      exact ⟨_, _, _, rfl, hn2, own_base hO2.out hB.out.size, HB2.out⟩

end Go.Proofs.Ytgipfbmomhlcjaa
