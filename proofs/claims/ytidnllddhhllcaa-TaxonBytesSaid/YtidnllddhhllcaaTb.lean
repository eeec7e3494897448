/- Contracts of package taxon: collect. -/
import Derived.Test.YtidnllddhhllcaaTa
import Derived.Test.YtidnllddhhllcaaTm
namespace Go.Proofs.Ytidnllddhhllcaa
open Go.RowKit Go.Shelf

/-- The cells of an array of bits. -/
def bl (f : Nat → Bool) : List Value := (List.range 64).map fun i => .bool (f i)

theorem bits_bl (f : Nat → Bool) : Bits (bl f) f := by
  refine ⟨by simp [bl], fun i hi => ?_⟩
  simp [bl, hi]

theorem bl_len (f : Nat → Bool) : (bl f).length = 64 := (bits_bl f).1

theorem bl_ext {f g : Nat → Bool} (h : ∀ d, d < 64 → f d = g d) : bl f = bl g := by
  unfold bl
  apply List.map_congr_left
  intro i hi
  rw [h i (by simpa using hi)]

theorem bl_one (f : Nat → Bool) : ∀ v ∈ bl f, v.oneCell' = true := by
  intro v hv
  obtain ⟨i, _, rfl⟩ := List.mem_map.1 hv
  rfl

theorem bl_set (f : Nat → Bool) (j : Nat) (v : Bool) : (bl f).set j (.bool v) = bl (fun d => if d = j then v else f d) := by
  apply List.ext_getElem?
  intro i
  rw [List.getElem?_set]
  by_cases hi : i < 64
  · rw [(bits_bl fun d => if d = j then v else f d).2 i hi, bl_len]
    by_cases e : j = i
    · subst e; rw [if_pos rfl, if_pos hi]; simp
    · rw [if_neg e, (bits_bl f).2 i hi]; simp [Ne.symm e]
  · rw [List.getElem?_eq_none (l := bl fun d => if d = j then v else f d) (by rw [bl_len]; omega), bl_len]
    by_cases e : j = i
    · subst e; rw [if_pos rfl, if_neg hi]
    · rw [if_neg e, List.getElem?_eq_none (by rw [bl_len]; omega)]

/-- A world with one new array of bits. -/
def arr (w : World) (f : Nat → Bool) : World := w.alloc (.cells (bl f).toArray 68)

theorem arr_cell (w : World) (f : Nat → Bool) {j : Nat} (hj : j < 64) : (arr w f).cell? ⟨w.heap.size, j, none⟩ = some (.bool (f j)) ∧ (arr w f).frozen? ⟨w.heap.size, j, none⟩ = false := by
  have := heap_new w (.cells (bl f).toArray 68)
  constructor
  · unfold arr World.cell?
    simp only [this]
    simpa using (bits_bl f).2 j hj
  · unfold arr World.frozen?
    simp only [this]
    simp

theorem arr_set (w : World) (f : Nat → Bool) (j : Nat) (v : Bool) : (arr w f).setCell ⟨w.heap.size, j, none⟩ (.bool v) = arr w (fun d => if d = j then v else f d) := by
  unfold arr
  rw [← bl_set]
  simp only [World.setCell, World.alloc]
  congr 1
  apply Array.ext_getElem?
  intro i
  rw [Array.getElem?_modify]
  by_cases h : w.heap.size = i
  · subst h
    simp
  · have h' : ¬ i = w.heap.size := fun e => h e.symm
    simp [h, h', Array.getElem?_push]

theorem arr_range (w : World) (f : Nat → Bool) : (arr w f).rangeAt w.heap.size 0 (bl f) := range_new w (bl f) _

theorem arr_below (w : World) (f : Nat → Bool) : Below w.heap.size w (arr w f) := (Below.refl _ w).alloc (Nat.le_refl _) _

theorem arr_size (w : World) (f : Nat → Bool) : (arr w f).heap.size = w.heap.size + 1 := by simp [arr]

theorem arr_ext {w : World} {f g : Nat → Bool} (h : ∀ d, d < 64 → f d = g d) : arr w f = arr w g := by
  unfold arr
  rw [bl_ext h]

theorem arr_step (w : World) (g h : Nat → Bool) (j : Nat) (v : Bool) (hv : v = (g j || h j)) : arr w (fun d => if d = j then v else if d < j then g d || h d else g d) = arr w (fun d => if d < j + 1 then g d || h d else g d) := arr_ext fun d _ => by
  by_cases e : d = j
  · subst e
    simp [hv]
  · by_cases e2 : d < j
    · simp [e, e2, show d < j + 1 by omega]
    · simp [e, e2, show ¬ d < j + 1 by omega]

theorem zero_bl : (bl fun _ => false) = List.replicate 64 (.bool false) := by rfl

theorem range_below {w W : World} (hB : Below w.heap.size w W) {b o : Nat} {cs : List Value} (h : w.rangeAt b o cs) (hb : b < w.heap.size) : W.rangeAt b o cs := fun j v hv => (hB.cell (p := ⟨b, o + j, none⟩) hb).trans (h j v hv)

theorem below_setCells {B b : Nat} (hb : B ≤ b) {a : World} : ∀ (vs : List Value) (o : Nat) {w : World}, Below B a w → Below B a (w.setCells b o vs)
  | [], _, _, h => h
  | v :: r, o, _, h => below_setCells hb r (o + 1) (h.setCell (p := ⟨b, o, none⟩) hb v)

theorem arr_there (w : World) (f g : Nat → Bool) : (arr (arr w f) g).there w.heap.size 0 64 := by
  intro j hj
  obtain ⟨h1, h2⟩ := arr_cell w f hj
  rw [Nat.zero_add]
  exact ⟨by rw [show (arr (arr w f) g).cell? ⟨w.heap.size, j, none⟩ = _ from cell_alloc_l _ h1]; rfl, frozen_alloc_l _ h1 h2⟩

/-- What collect returns. -/
def anyB (F : Nat → Nat → Bool) (zs : List Int) (d : Nat) : Bool := zs.any fun z => F z.toNat d

theorem anyB_snoc {F : Nat → Nat → Bool} {zs : List Int} {k : Nat} (hk : k < zs.length) (d : Nat) : anyB F (zs.take (k + 1)) d = (anyB F (zs.take k) d || F (zs[k]?.getD 0).toNat d) := by
  unfold anyB
  rw [List.take_add_one, List.any_append, List.getElem?_eq_getElem hk]
  simp

theorem load_bits (W : World) (b o : Nat) (f : Nat → Bool) (h : W.rangeAt b o (bl f)) : (Instr.loadAt 68 (.pointer (some ⟨b, o, none⟩))).run Try.prog W = .ok (.agg (bl f).toArray) W :=
  run_loadAt_mid (P := Try.prog) W b o _ (bl f) _ h Try.underBits rfl (bits_bl f).size

theorem index_bits (W : World) (f : Nat → Bool) (j : Nat) (hj : j < 64) : (Instr.index 68 (.agg (bl f).toArray) (.int .i64 (j : Int))).run Try.prog W = .ok (.bool (f j)) W :=
  run_index_bits Try.underBits Try.underlying4 Try.infoBit hj (by simpa using (bits_bl f).2 j hj)

set_option maxHeartbeats 4000000 in
set_option maxRecDepth 100000 in
theorem collect_any (N A n cp : Nat) (sv : Value) (zs : List Int) (F : Nat → Nat → Bool) (w : World) (hN : w.cell? ⟨N, 1, none⟩ = some (.slice (some ⟨A, 0, none⟩) n cp)) (hz : ∀ z ∈ zs, 0 ≤ z ∧ z < n) (hn : n ≤ 64) (hA : A < w.heap.size)
    (hR : ∀ z ∈ zs, w.rangeAt A (z.toNat * 64) (bl (F z.toNat))) (hT : ∀ x ∈ zs, ∀ c ∈ zs, F x.toNat c.toNat = true → ∀ d, F c.toNat d = true → F x.toNat d = true) (hl : Els .i64 w sv zs) (hlen : zs.length ≤ 100000) :
    Calls Try.prog 46 #[.pointer (some ⟨N, 0, none⟩), sv] w fun e w' => e = .returned (.agg (bl (anyB F zs)).toArray) ∧ Below w.heap.size w w' := by
  obtain ⟨a, cap, rfl⟩ := hl.shape
  have HE := Lib.hid hl
  have HZ := Lib.hid hz
  have HR := Lib.hid hR
  have HT := Lib.hid hT
  have hNb := block_there hN
  generalize hm : zs.length = m at *
  have HM := Lib.hid hm
  clear hl hz hR hT hm
  go_enter Try.func46, Try.ntmps46
  go_upto_region 3 with (fail)
  go_loopw [12] (fun i wr => ∃ k : Nat, k ≤ m ∧ i = .int .i64 k ∧ wr = arr (arr w fun _ => false) (anyB F (zs.take k))) (fun i _ => m - (intOf i).toNat)
  case atStart => exact ⟨0, Nat.zero_le _, rfl, by rfl⟩
  case round =>
    obtain ⟨k, hk, rfl, rfl⟩ := hrel
    have hB2 := (arr_below w fun _ => false).trans ((arr_below (arr w fun _ => false) (anyB F (zs.take k))).mono (by rw [arr_size]; omega))
    have HB := Lib.hid hB2
    clear hB2
    by_cases hlt : k < m
    · obtain ⟨b, off, rfl, hcl⟩ := HE.out.at k hlt
      have hce := (Since.cell HB.out hcl)
      have hmem : zs[k]?.getD 0 ∈ zs := by rw [List.getElem?_eq_getElem (by have := HM.out; omega)]; exact List.getElem_mem _
      have hsn := fun d => anyB_snoc (F := F) (show k < zs.length by have := HM.out; omega) d
      have hzr := HZ.out _ hmem
      have hrr := HR.out _ hmem
      have hT := fun x hx => HT.out x hx _ hmem
      have htk : ∀ x ∈ zs.take k, x ∈ zs := fun x hx => List.mem_of_mem_take hx
      generalize zs[k]?.getD 0 = z at *
      obtain ⟨c, rfl⟩ := Int.eq_ofNat_of_zero_le hzr.1
      have hc : c < n := by omega
      have hcu := arr_cell (arr w fun _ => false) (anyB F (zs.take k)) (j := c) (by omega)
      rw [arr_size] at hcu
      by_cases hg : anyB F (zs.take k) c = true
      · have hsame : anyB F (zs.take (k + 1)) = anyB F (zs.take k) := by
          funext d
          rw [hsn d]
          by_cases hd : F (Int.ofNat c).toNat d = true
          · have : anyB F (zs.take k) d = true := by
              obtain ⟨x, hx, hxc⟩ := List.any_eq_true.1 hg
              exact List.any_eq_true.2 ⟨x, hx, hT x (htk x hx) hxc d hd⟩
            rw [this]; rfl
          · have : F (c : Int).toNat d = false := by simpa using hd
            rw [this, Bool.or_false]
        have HS := Lib.hid hsame
        rw [hg] at hcu
        obtain ⟨hcu, -⟩ := hcu
        clear hsame hsn hT htk hrr hmem hzr hcl
        go_wp2
        go_roundw
        case rel => exact ⟨k + 1, by omega, by go_num, by rw [HS.out]⟩
        case measure => simp [intOf]; omega
      · have hg' : anyB F (zs.take k) c = false := by simpa using hg
        have HS := Lib.hid hsn
        rw [hg'] at hcu
        obtain ⟨hcu, -⟩ := hcu
        clear hsn hT htk hmem hzr hcl hg hg'
        generalize anyB F (zs.take k) = g at *
        have hNc := Since.cell HB.out hN
        go_upto_region 6 with (fail)
        refine wp_region_lit ?_
        refine wpList_plain rfl fun KK hKK => ?_
        have HKK := Lib.hid hKK
        clear hKK
        go_wp2
        refine HKK.out _ _ ?_
        clear HKK KK
        refine wpList_plain rfl fun KK hKK => ?_
        have HKK := Lib.hid hKK
        clear hKK
        go_wp2
        refine HKK.out _ _ ?_
        clear HKK KK
        refine wpList_plain rfl fun KK hKK => ?_
        have HKK := Lib.hid hKK
        clear hKK
        go_wp2
        refine HKK.out _ _ ?_
        clear HKK KK
        refine wpList_plain rfl fun KK hKK => ?_
        have HKK := Lib.hid hKK
        clear hKK
        go_wp2
        refine HKK.out _ _ ?_
        clear HKK KK
        refine wpList_plain rfl fun KK hKK => ?_
        have HKK := Lib.hid hKK
        clear hKK
        go_wp2
        refine HKK.out _ _ ?_
        clear HKK KK
        refine wpList_plain rfl fun KK hKK => ?_
        have HKK := Lib.hid hKK
        clear hKK
        go_wp2
        refine HKK.out _ _ ?_
        clear HKK KK
        refine wpList_load_mid (by rfl) _ _ (by rfl) A (c * 64) rfl (bl (F c)) _ (range_below HB.out hrr hA) Try.underBits rfl (bits_bl _).size ?_
        go_wp2
        go_loopw [26] (fun i wr => ∃ j : Nat, j ≤ 64 ∧ i = .int .i64 j ∧ wr = arr (arr w fun _ => false) (fun d => if d < j then g d || F c d else g d)) (fun i _ => 64 - (intOf i).toNat)
        case atStart => exact ⟨0, Nat.zero_le _, rfl, arr_ext fun d _ => by simp⟩
        case round =>
          obtain ⟨j, hj, rfl, rfl⟩ := hrel
          by_cases hlt2 : j < 64
          · have hcj := arr_cell (arr w fun _ => false) (fun d => if d < j then g d || F c d else g d) (j := j) hlt2
            have hst := fun v => arr_set (arr w fun _ => false) (fun d => if d < j then g d || F c d else g d) j v
            rw [arr_size] at hcj hst
            have hix := index_bits (arr (arr w fun _ => false) (fun d => if d < j then g d || F c d else g d)) (F c) j hlt2
            simp only [Nat.lt_irrefl, if_false] at hcj
            obtain ⟨hcj, hfj⟩ := hcj
            clear hNc hcu hce
            generalize hG : (fun d => if d < j then g d || F c d else g d) = G at *
            have HG := Lib.hid hG
            clear hG
            by_cases hgj : g j = true
            · rw [hgj] at hcj
              have hst := hst true
              go_wp2
              go_roundw
              case rel => exact ⟨j + 1, by omega, by go_num, (arr_ext (g := fun d => if d = j then true else if d < j then g d || F c d else g d) fun d _ => by by_cases e : d = j <;> simp [e]).trans (arr_step _ g (F c) j true (by rw [hgj]; rfl))⟩
              case measure => simp [intOf]; omega
            · have hgj' : g j = false := by simpa using hgj
              rw [hgj'] at hcj
              have hst := hst (F c j)
              clear hgj
              go_wp2
              go_roundw
              case rel => exact ⟨j + 1, by omega, by go_num, arr_step _ g (F c) j _ (by rw [hgj']; rfl)⟩
              case measure => simp [intOf]; omega
          · have hj64 : j = 64 := by omega
            subst hj64
            clear hNc hcu hce
            go_wp2
            go_roundw
            case rel => exact ⟨k + 1, by omega, by go_num, arr_ext fun d hd => by rw [HS.out, if_pos hd]; rfl⟩
            case measure => simp [intOf]; omega
    · have hkm : k = m := by omega
      subst hkm
      rw [List.take_of_length_le (Nat.le_of_eq HM.out)] at *
      go_upto_region 12 with (fail)
      refine wp_region_lit ?_
      refine wpList_load_mid (by rfl) _ _ (by rfl) (w.heap.size + 1) 0 rfl (bl (anyB F zs)) _ (by have := arr_range (arr w fun _ => false) (anyB F zs); rw [arr_size] at this; exact this) Try.underBits rfl (bits_bl _).size ?_
      have hth : (arr (arr w fun _ => false) (anyB F zs)).there w.heap.size 0 64 := arr_there w _ _
      refine wpList_store_mid (by rfl) _ _ _ (by rfl) w.heap.size 0 (bl (anyB F zs)).toArray rfl rfl (by simpa [bl_len] using hth) (by simpa using (bits_bl (anyB F zs)).size) (all_oneCell_toArray (bl_one _)) ?_
      rw [List.toList_toArray]
      have hrg := World.rangeAt_setCells_same (arr (arr w fun _ => false) (anyB F zs)) w.heap.size 0 (bl (anyB F zs)) (by rw [bl_len]; exact hth)
      have hbw := below_setCells (Nat.le_refl w.heap.size) (bl (anyB F zs)) 0 HB.out
      generalize (arr (arr w fun _ => false) (anyB F zs)).setCells w.heap.size 0 (bl (anyB F zs)) = W at *
      have hlv := run_loadVar_mid (P := Try.prog) W w.heap.size 0 _ _ _ hrg Try.underBits rfl (bits_bl _).size
      go_wp2
      refine bodyPost_ret (v := .agg (bl (anyB F zs)).toArray) ?_ rfl ⟨rfl, hbw⟩
      simp [results, Try.results46, Act.put, asAddr, hlv]

end Go.Proofs.Ytidnllddhhllcaa
