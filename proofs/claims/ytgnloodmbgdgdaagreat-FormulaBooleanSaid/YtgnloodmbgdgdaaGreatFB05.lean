import Derived.Test.YtgnloodmbgdgdaaGreatFB03
import Derived.Deep.MidRow
import Derived.Deep.DeepCutAuto
import Derived.Test.YtgnloodmbgdgdaaGreatFB01
namespace Go.Proofs.YtgnloodmbgdgdaaGreat
open Go.RowKit Go.Shelf
def Bits (c : List Value) (f : Nat → Bool) : Prop := c.length = 64 ∧ ∀ i, i < 64 → c[i]? = some (.bool (f i))
theorem Tryz.infoBits : (Tryz.prog.info? 126).map (·.size) = some 64 := by kernel_rfl
theorem Tryz.infoBit : (Tryz.prog.info? 4).map (·.size) = some 1 := by kernel_rfl
theorem Tryz.underBits : Tryz.prog.underlying 126 = some (.array 64 4) := by kernel_rfl
theorem range_new (w : World) (c : List Value) (T : TypeId) : (w.alloc (.cells c.toArray T)).rangeAt w.heap.size 0 c := by
 intro j v hv
 have := heap_new w (.cells c.toArray T)
 unfold World.cell?
 simp only [this]
 simpa using hv
theorem run_index_bits {P : Program} {w : World} {t el : TypeId} {n : Nat} {cs : Array Value} {k : IntKind} {i : Nat} {v : Value} (h : P.underlying t = some (.array n el)) (he : P.underlying el = some .bool) (hs : (P.info? el).map (·.size) = some 1)
  (hi : i < n) (hv : cs[i]? = some v) : (Instr.index t (.agg cs) (.int k (i : Int))).run P w = .ok v w := by
 cases hq : P.info? el with
 | none => simp [hq] at hs
 | some f =>
  have hf : f.size = 1 := by simpa [hq] using hs
  simp [Instr.index, run_underlying h, asIntOf, go_sem, part, isAgg, run_underlying he, sizeOf, typeInfo, hq, hf, hv]
  intro hc
  omega
theorem Bits.size {c : List Value} {f : Nat → Bool} (h : Bits c f) : (Tryz.prog.info? 126).map (·.size) = some c.length := by rw [h.1]; exact Tryz.infoBits
end Go.Proofs.YtgnloodmbgdgdaaGreat
namespace Go.Proofs.YtgnloodmbgdgdaaGreat
open Go.RowKit Go.Shelf
def bl (f : Nat → Bool) : List Value := (List.range 64).map fun i => .bool (f i)
theorem bits_bl (f : Nat → Bool) : Bits (bl f) f := by
 refine ⟨by simp [bl], fun i hi => ?_⟩
 simp [bl, hi]
theorem bl_len (f : Nat → Bool) : (bl f).length = 64 := (bits_bl f).1
theorem bl_ext {f g : Nat → Bool} (h : ∀ d, d < 64 → f d = g d) : bl f = bl g := by
 unfold bl
 apply List.map_congr_left
 intro i hi
 rw [h i (by simpa using hi)]
theorem bl_one (f : Nat → Bool) : ∀ v ∈ bl f, v.oneCell' = true := by
 intro v hv
 obtain ⟨i, _, rfl⟩ := List.mem_map.1 hv
 rfl
theorem bl_set (f : Nat → Bool) (j : Nat) (v : Bool) : (bl f).set j (.bool v) = bl (fun d => if d = j then v else f d) := by
 apply List.ext_getElem?
 intro i
 rw [List.getElem?_set]
 by_cases hi : i < 64
 ·rw [(bits_bl fun d => if d = j then v else f d).2 i hi, bl_len]
  by_cases e : j = i
  ·subst e; rw [if_pos rfl, if_pos hi]; simp
  ·rw [if_neg e, (bits_bl f).2 i hi]; simp [Ne.symm e]
 ·rw [List.getElem?_eq_none (l := bl fun d => if d = j then v else f d) (by rw [bl_len]; omega), bl_len]
  by_cases e : j = i
  ·subst e; rw [if_pos rfl, if_neg hi]
  ·rw [if_neg e, List.getElem?_eq_none (by rw [bl_len]; omega)]
def arr (w : World) (f : Nat → Bool) : World := w.alloc (.cells (bl f).toArray 126)
theorem arr_cell (w : World) (f : Nat → Bool) {j : Nat} (hj : j < 64) : (arr w f).cell? ⟨w.heap.size, j, none⟩ = some (.bool (f j)) ∧ (arr w f).frozen? ⟨w.heap.size, j, none⟩ = false := by
 have := heap_new w (.cells (bl f).toArray 126)
 constructor
 ·unfold arr World.cell?
  simp only [this]
  simpa using (bits_bl f).2 j hj
 ·unfold arr World.frozen?
  simp only [this]
  simp
theorem arr_set (w : World) (f : Nat → Bool) (j : Nat) (v : Bool) : (arr w f).setCell ⟨w.heap.size, j, none⟩ (.bool v) = arr w (fun d => if d = j then v else f d) := by
 unfold arr
 rw [← bl_set]
 simp only [World.setCell, World.alloc]
 congr 1
 apply Array.ext_getElem?
 intro i
 rw [Array.getElem?_modify]
 by_cases h : w.heap.size = i
 ·subst h
  simp
 ·have h' : ¬ i = w.heap.size := fun e => h e.symm
  simp [h, h', Array.getElem?_push]
theorem arr_range (w : World) (f : Nat → Bool) : (arr w f).rangeAt w.heap.size 0 (bl f) := range_new w (bl f) _
theorem arr_below (w : World) (f : Nat → Bool) : Below w.heap.size w (arr w f) := (Below.refl _ w).alloc (Nat.le_refl _) _
theorem arr_size (w : World) (f : Nat → Bool) : (arr w f).heap.size = w.heap.size + 1 := by simp [arr]
theorem arr_ext {w : World} {f g : Nat → Bool} (h : ∀ d, d < 64 → f d = g d) : arr w f = arr w g := by
 unfold arr
 rw [bl_ext h]
theorem arr_step (w : World) (g h : Nat → Bool) (j : Nat) (v : Bool) (hv : v = (g j || h j)) : arr w (fun d => if d = j then v else if d < j then g d || h d else g d) = arr w (fun d => if d < j + 1 then g d || h d else g d) := arr_ext fun d _ => by
 by_cases e : d = j
 ·subst e
  simp [hv]
 ·by_cases e2 : d < j
  ·simp [e, e2, show d < j + 1 by omega]
  ·simp [e, e2, show ¬ d < j + 1 by omega]
theorem range_below {w W : World} (hB : Below w.heap.size w W) {b o : Nat} {cs : List Value} (h : w.rangeAt b o cs) (hb : b < w.heap.size) : W.rangeAt b o cs := fun j v hv => (hB.cell (p := ⟨b, o + j, none⟩) hb).trans (h j v hv)
theorem below_setCells {B b : Nat} (hb : B ≤ b) {a : World} : ∀ (vs : List Value) (o : Nat) {w : World}, Below B a w → Below B a (w.setCells b o vs)
 | [], _, _, h => h
 | v :: r, o, _, h => below_setCells hb r (o + 1) (h.setCell (p := ⟨b, o, none⟩) hb v)
theorem arr_there (w : World) (f g : Nat → Bool) : (arr (arr w f) g).there w.heap.size 0 64 := by
 intro j hj
 obtain ⟨h1, h2⟩ := arr_cell w f hj
 rw [Nat.zero_add]
 exact ⟨by rw [show (arr (arr w f) g).cell? ⟨w.heap.size, j, none⟩ = _ from cell_alloc_l _ h1]; rfl, frozen_alloc_l _ h1 h2⟩
def anyB (F : Nat → Nat → Bool) (zs : List Int) (d : Nat) : Bool := zs.any fun z => F z.toNat d
theorem anyB_snoc {F : Nat → Nat → Bool} {zs : List Int} {k : Nat} (hk : k < zs.length) (d : Nat) : anyB F (zs.take (k + 1)) d = (anyB F (zs.take k) d || F (zs[k]?.getD 0).toNat d) := by
 unfold anyB
 rw [List.take_add_one, List.any_append, List.getElem?_eq_getElem hk]
 simp
theorem index_bits (W : World) (f : Nat → Bool) (j : Nat) (hj : j < 64) : (Instr.index 126 (.agg (bl f).toArray) (.int .i64 (j : Int))).run Tryz.prog W = .ok (.bool (f j)) W :=
 run_index_bits Tryz.underBits Tryz.underlying4 Tryz.infoBit hj (by simpa using (bits_bl f).2 j hj)
set_option maxHeartbeats 4000000 in
set_option maxRecDepth 100000 in
theorem collect_any (N A n cp : Nat) (sv : Value) (zs : List Int) (F : Nat → Nat → Bool) (w : World) (hN : w.cell? ⟨N, 1, none⟩ = some (.slice (some ⟨A, 0, none⟩) n cp)) (hz : ∀ z ∈ zs, 0 ≤ z ∧ z < n) (hn : n ≤ 64) (hA : A < w.heap.size)
  (hR : ∀ z ∈ zs, w.rangeAt A (z.toNat * 64) (bl (F z.toNat))) (hT : ∀ x ∈ zs, ∀ c ∈ zs, F x.toNat c.toNat = true → ∀ d, F c.toNat d = true → F x.toNat d = true) (hl : Els .i64 w sv zs) (hlen : zs.length ≤ 100000) :
  Calls Tryz.prog 151 #[.pointer (some ⟨N, 0, none⟩), sv] w fun e w' => e = .returned (.agg (bl (anyB F zs)).toArray) ∧ Below w.heap.size w w' := by
 obtain ⟨a, cap, rfl⟩ := hl.shape
 have HE := Lib.hid hl
 have HZ := Lib.hid hz
 have HR := Lib.hid hR
 have HT := Lib.hid hT
 have hNb := block_there hN
 generalize hm : zs.length = m at *
 have HM := Lib.hid hm
 clear hl hz hR hT hm
 go_enter Tryz.func151, Tryz.ntmps151
 go_upto_region 3 with (fail)
 go_loopw [12] (fun i wr => ∃ k : Nat, k ≤ m ∧ i = .int .i64 k ∧ wr = arr (arr w fun _ => false) (anyB F (zs.take k))) (fun i _ => m - (intOf i).toNat)
 case atStart => exact ⟨0, Nat.zero_le _, rfl, by rfl⟩
 case round =>
  obtain ⟨k, hk, rfl, rfl⟩ := hrel
  have hB2 := (arr_below w fun _ => false).trans ((arr_below (arr w fun _ => false) (anyB F (zs.take k))).mono (by rw [arr_size]; omega))
  have HB := Lib.hid hB2
  clear hB2
  by_cases hlt : k < m
  ·obtain ⟨b, off, rfl, hcl⟩ := HE.out.at k hlt
   have hce := (Since.cell HB.out hcl)
   have hmem : zs[k]?.getD 0 ∈ zs := by rw [List.getElem?_eq_getElem (by have := HM.out; omega)]; exact List.getElem_mem _
   have hsn := fun d => anyB_snoc (F := F) (show k < zs.length by have := HM.out; omega) d
   have hzr := HZ.out _ hmem
   have hrr := HR.out _ hmem
   have hT := fun x hx => HT.out x hx _ hmem
   have htk : ∀ x ∈ zs.take k, x ∈ zs := fun x hx => List.mem_of_mem_take hx
   generalize zs[k]?.getD 0 = z at *
   obtain ⟨c, rfl⟩ := Int.eq_ofNat_of_zero_le hzr.1
   have hc : c < n := by omega
   have hcu := arr_cell (arr w fun _ => false) (anyB F (zs.take k)) (j := c) (by omega)
   rw [arr_size] at hcu
   by_cases hg : anyB F (zs.take k) c = true
   ·have hsame : anyB F (zs.take (k + 1)) = anyB F (zs.take k) := by
     funext d
     rw [hsn d]
     by_cases hd : F (Int.ofNat c).toNat d = true
     ·have : anyB F (zs.take k) d = true := by
       obtain ⟨x, hx, hxc⟩ := List.any_eq_true.1 hg
       exact List.any_eq_true.2 ⟨x, hx, hT x (htk x hx) hxc d hd⟩
      rw [this]; rfl
     ·have : F (c : Int).toNat d = false := by simpa using hd
      rw [this, Bool.or_false]
    have HS := Lib.hid hsame
    rw [hg] at hcu
    obtain ⟨hcu, -⟩ := hcu
    clear hsame hsn hT htk hrr hmem hzr hcl
    go_wp2
    go_roundw
    case rel => exact ⟨k + 1, by omega, by go_num, by rw [HS.out]⟩
    case measure => simp [intOf]; omega
   ·have hg' : anyB F (zs.take k) c = false := by simpa using hg
    have HS := Lib.hid hsn
    rw [hg'] at hcu
    obtain ⟨hcu, -⟩ := hcu
    clear hsn hT htk hmem hzr hcl hg hg'
    generalize anyB F (zs.take k) = g at *
    have hNc := Since.cell HB.out hN
    go_upto_region 6 with (fail)
    refine wp_region_lit ?_
    refine wpList_plain rfl fun KK hKK => ?_
    have HKK := Lib.hid hKK
    clear hKK
    go_wp2
    refine HKK.out _ _ ?_
    clear HKK KK
    refine wpList_plain rfl fun KK hKK => ?_
    have HKK := Lib.hid hKK
    clear hKK
    go_wp2
    refine HKK.out _ _ ?_
    clear HKK KK
    refine wpList_plain rfl fun KK hKK => ?_
    have HKK := Lib.hid hKK
    clear hKK
    go_wp2
    refine HKK.out _ _ ?_
    clear HKK KK
    refine wpList_plain rfl fun KK hKK => ?_
    have HKK := Lib.hid hKK
    clear hKK
    go_wp2
    refine HKK.out _ _ ?_
    clear HKK KK
    refine wpList_plain rfl fun KK hKK => ?_
    have HKK := Lib.hid hKK
    clear hKK
    go_wp2
    refine HKK.out _ _ ?_
    clear HKK KK
    refine wpList_plain rfl fun KK hKK => ?_
    have HKK := Lib.hid hKK
    clear hKK
    go_wp2
    refine HKK.out _ _ ?_
    clear HKK KK
    refine wpList_load_mid (by rfl) _ _ (by rfl) A (c * 64) rfl (bl (F c)) _ (range_below HB.out hrr hA) Tryz.underBits rfl (bits_bl _).size ?_
    go_wp2
    go_loopw [26] (fun i wr => ∃ j : Nat, j ≤ 64 ∧ i = .int .i64 j ∧ wr = arr (arr w fun _ => false) (fun d => if d < j then g d || F c d else g d)) (fun i _ => 64 - (intOf i).toNat)
    case atStart => exact ⟨0, Nat.zero_le _, rfl, arr_ext fun d _ => by simp⟩
    case round =>
     obtain ⟨j, hj, rfl, rfl⟩ := hrel
     by_cases hlt2 : j < 64
     ·have hcj := arr_cell (arr w fun _ => false) (fun d => if d < j then g d || F c d else g d) (j := j) hlt2
      have hst := fun v => arr_set (arr w fun _ => false) (fun d => if d < j then g d || F c d else g d) j v
      rw [arr_size] at hcj hst
      have hix := index_bits (arr (arr w fun _ => false) (fun d => if d < j then g d || F c d else g d)) (F c) j hlt2
      simp only [Nat.lt_irrefl, if_false] at hcj
      obtain ⟨hcj, hfj⟩ := hcj
      clear hNc hcu hce
      generalize hG : (fun d => if d < j then g d || F c d else g d) = G at *
      have HG := Lib.hid hG
      clear hG
      by_cases hgj : g j = true
      ·rw [hgj] at hcj
       have hst := hst true
       go_wp2
       go_roundw
       case rel => exact ⟨j + 1, by omega, by go_num, (arr_ext (g := fun d => if d = j then true else if d < j then g d || F c d else g d) fun d _ => by by_cases e : d = j <;> simp [e]).trans (arr_step _ g (F c) j true (by rw [hgj]; rfl))⟩
       case measure => simp [intOf]; omega
      ·have hgj' : g j = false := by simpa using hgj
       rw [hgj'] at hcj
       have hst := hst (F c j)
       clear hgj
       go_wp2
       go_roundw
       case rel => exact ⟨j + 1, by omega, by go_num, arr_step _ g (F c) j _ (by rw [hgj']; rfl)⟩
       case measure => simp [intOf]; omega
     ·have hj64 : j = 64 := by omega
      subst hj64
      clear hNc hcu hce
      go_wp2
      go_roundw
      case rel => exact ⟨k + 1, by omega, by go_num, arr_ext fun d hd => by rw [HS.out, if_pos hd]; rfl⟩
      case measure => simp [intOf]; omega
  ·have hkm : k = m := by omega
   subst hkm
   rw [List.take_of_length_le (Nat.le_of_eq HM.out)] at *
   go_upto_region 12 with (fail)
   refine wp_region_lit ?_
   refine wpList_load_mid (by rfl) _ _ (by rfl) (w.heap.size + 1) 0 rfl (bl (anyB F zs)) _ (by have := arr_range (arr w fun _ => false) (anyB F zs); rw [arr_size] at this; exact this) Tryz.underBits rfl (bits_bl _).size ?_
   have hth : (arr (arr w fun _ => false) (anyB F zs)).there w.heap.size 0 64 := arr_there w _ _
   refine wpList_store_mid (by rfl) _ _ _ (by rfl) w.heap.size 0 (bl (anyB F zs)).toArray rfl rfl (by simpa [bl_len] using hth) (by simpa using (bits_bl (anyB F zs)).size) (all_oneCell_toArray (bl_one _)) ?_
   rw [List.toList_toArray]
   have hrg := World.rangeAt_setCells_same (arr (arr w fun _ => false) (anyB F zs)) w.heap.size 0 (bl (anyB F zs)) (by rw [bl_len]; exact hth)
   have hbw := below_setCells (Nat.le_refl w.heap.size) (bl (anyB F zs)) 0 HB.out
   generalize (arr (arr w fun _ => false) (anyB F zs)).setCells w.heap.size 0 (bl (anyB F zs)) = W at *
   have hlv := run_loadVar_mid (P := Tryz.prog) W w.heap.size 0 _ _ _ hrg Tryz.underBits rfl (bits_bl _).size
   go_wp2
   refine bodyPost_ret (v := .agg (bl (anyB F zs)).toArray) ?_ rfl ⟨rfl, hbw⟩
   simp [results, Tryz.results151, Act.put, asAddr, hlv]
end Go.Proofs.YtgnloodmbgdgdaaGreat
namespace Go.Proofs.YtgnloodmbgdgdaaGreat
open Go.RowKit Go.Shelf
def clsB (n : Nat) (c : Int) : Bool := decide (0 ≤ c ∧ c < n)
set_option maxHeartbeats 1000000 in
theorem thas_any (N n cp : Nat) (a : Option Addr) (c : Int) (w : World) (h : w.cell? ⟨N, 0, none⟩ = some (.slice a n cp)) :
  Calls Tryz.prog 83 #[.pointer (some ⟨N, 0, none⟩), .int .i64 c] w fun e w' => e = .returned (.bool (clsB n c)) ∧ w = w' := by
 by_cases h0 : 0 ≤ c
 ·have e : clsB n c = decide (c < n) := by unfold clsB; simp [h0]
  rw [e]
  have h1 : decide (0 ≤ c) = true := decide_eq_true h0
  clear e
  go_enter Tryz.func83, Tryz.ntmps83
  go_wp2
  go_ret
  exact ⟨rfl, rfl⟩
 ·have e : clsB n c = false := by unfold clsB; simp [h0]
  rw [e]
  have h1 : decide (0 ≤ c) = false := decide_eq_false h0
  clear e
  go_enter Tryz.func83, Tryz.ntmps83
  go_wp2
  go_ret
  exact ⟨rfl, rfl⟩
end Go.Proofs.YtgnloodmbgdgdaaGreat
namespace Go.Proofs.YtgnloodmbgdgdaaGreat
open Go.RowKit Go.Shelf
def EIn (S : Nat → Prop) (w : World) (sv : Value) (zs : List Int) : Prop :=
 (Emp sv ∧ zs = []) ∨ ∃ b off cap, S b ∧ b < w.heap.size ∧ sv = .slice (some ⟨b, off, none⟩) zs.length cap ∧ zs.length ≤ cap ∧ ∀ j, j < zs.length → w.cell? ⟨b, off + j, none⟩ = some (.int .i64 (zs[j]?.getD 0))
theorem EIn.els {S : Nat → Prop} {w : World} {sv : Value} {zs : List Int} : EIn S w sv zs → Els .i64 w sv zs
 | .inl h => .inl h
 | .inr ⟨b, off, cap, _, r⟩ => .inr ⟨b, off, cap, r⟩
theorem Els.ein {w : World} {sv : Value} {zs : List Int} : Els .i64 w sv zs → EIn (fun _ => True) w sv zs
 | .inl h => .inl h
 | .inr ⟨b, off, cap, r⟩ => .inr ⟨b, off, cap, trivial, r⟩
theorem EIn.keep {S : Nat → Prop} {w W : World} (hs : w.heap.size ≤ W.heap.size) (hk : ∀ b, S b → b < w.heap.size → W.heap[b]? = w.heap[b]?) {sv : Value} {zs : List Int} : EIn S w sv zs → EIn S W sv zs
 | .inl h => .inl h
 | .inr ⟨b, off, cap, h1, h2, h3, h4, h5⟩ => .inr ⟨b, off, cap, h1, Nat.lt_of_lt_of_le h2 hs, h3, h4, fun j hj => (cell_of_block (hk b h1 h2) _).trans (h5 j hj)⟩
theorem EIn.mono {S S' : Nat → Prop} {w : World} (h : ∀ b, b < w.heap.size → S b → S' b) {sv : Value} {zs : List Int} : EIn S w sv zs → EIn S' w sv zs
 | .inl h => .inl h
 | .inr ⟨b, off, cap, h1, h2, r⟩ => .inr ⟨b, off, cap, h b h2 h1, h2, r⟩
def LIn (S : Nat → Prop) (w : World) (sv : Value) (P : List (List Int)) : Prop :=
 (Emp sv ∧ P = []) ∨ ∃ b cap, S b ∧ b < w.heap.size ∧ sv = .slice (some ⟨b, 0, none⟩) P.length cap ∧ P.length ≤ cap ∧ ∀ (j : Nat) (l : List Int), P[j]? = some l → ∃ v, w.cell? ⟨b, j, none⟩ = some v ∧ EIn S w v l
theorem LIn.keep {S : Nat → Prop} {w W : World} (hs : w.heap.size ≤ W.heap.size) (hk : ∀ b, S b → b < w.heap.size → W.heap[b]? = w.heap[b]?) {sv : Value} {P : List (List Int)} : LIn S w sv P → LIn S W sv P
 | .inl h => .inl h
 | .inr ⟨b, cap, h1, h2, h3, h4, h5⟩ => .inr ⟨b, cap, h1, Nat.lt_of_lt_of_le h2 hs, h3, h4, fun j l hl => by
   obtain ⟨v, hv, he⟩ := h5 j l hl
   exact ⟨v, (cell_of_block (hk b h1 h2) _).trans hv, he.keep hs hk⟩⟩
theorem LIn.mono {S S' : Nat → Prop} {w : World} (h : ∀ b, b < w.heap.size → S b → S' b) {sv : Value} {P : List (List Int)} : LIn S w sv P → LIn S' w sv P
 | .inl h => .inl h
 | .inr ⟨b, cap, h1, h2, h3, h4, h5⟩ => .inr ⟨b, cap, h b h2 h1, h2, h3, h4, fun j l hl => by
   obtain ⟨v, hv, he⟩ := h5 j l hl
   exact ⟨v, hv, he.mono h⟩⟩
def LE (w : World) (sv : Value) (P : List (List Int)) : Prop := LIn (fun _ => True) w sv P
theorem LIn.le {S : Nat → Prop} {w : World} {sv : Value} {P : List (List Int)} (h : LIn S w sv P) : LE w sv P := h.mono fun _ _ _ => trivial
theorem LE.below {w W : World} (hB : Below w.heap.size w W) {sv : Value} {P : List (List Int)} (h : LE w sv P) : LE W sv P := LIn.keep hB.size (fun b _ hb => hB.block b hb) h
theorem LIn.shape {S : Nat → Prop} {w : World} {sv : Value} {P : List (List Int)} (h : LIn S w sv P) : ∃ a cap, sv = .slice a P.length cap := by
 rcases h with ⟨he, rfl⟩ | ⟨b, cap, _, _, rfl, _⟩
 ·exact he.shape
 ·exact ⟨_, _, rfl⟩
theorem LIn.len {S : Nat → Prop} {w : World} {a : Option Addr} {n cap : Nat} {P : List (List Int)} (h : LIn S w (.slice a n cap) P) : n = P.length := by
 obtain ⟨a, c, he⟩ := h.shape
 cases he
 rfl
theorem LIn.at {S : Nat → Prop} {w : World} {a : Option Addr} {n cap : Nat} {P : List (List Int)} (h : LIn S w (.slice a n cap) P) (j : Nat) (hj : j < n) :
  ∃ b aj nj cj, a = some ⟨b, 0, none⟩ ∧ w.cell? ⟨b, j, none⟩ = some (.slice aj nj cj) ∧ EIn S w (.slice aj nj cj) (Tx.row P j) ∧ nj = (Tx.row P j).length ∧ S b := by
 have hn := h.len
 rcases h with ⟨he, rfl⟩ | ⟨b, c, hS, _, he, _, hat⟩
 ·simp at hn; omega
 ·cases he
  have hl : P[j]? = some (Tx.row P j) := by unfold Tx.row; rw [List.getElem?_eq_getElem hj]; rfl
  obtain ⟨v, hv, hE⟩ := hat j _ hl
  obtain ⟨aj, cj, rfl⟩ := hE.els.shape
  exact ⟨b, aj, _, cj, rfl, hv, hE, rfl, hS⟩
def TxAt (N : Nat) (P : List (List Int)) (w : World) : Prop := Tx.Good P ∧ ∃ pa pc A ac, w.cell? ⟨N, 0, none⟩ = some (.slice pa P.length pc) ∧ w.cell? ⟨N, 1, none⟩ = some (.slice (some ⟨A, 0, none⟩) P.length ac) ∧ A < w.heap.size ∧
 LE w (.slice pa P.length pc) P ∧ ∀ c, c < P.length → w.rangeAt A (c * 64) (bl (Tx.inh P c))
theorem TxAt.below {N : Nat} {P : List (List Int)} {w W : World} (h : TxAt N P w) (hB : Below w.heap.size w W) : TxAt N P W := by
 obtain ⟨hg, pa, pc, A, ac, h0, h1, hA, hL, hR⟩ := h
 exact ⟨hg, pa, pc, A, ac, (hB.cell (p := ⟨N, 0, none⟩) (block_there h0)).trans h0, (hB.cell (p := ⟨N, 1, none⟩) (block_there h1)).trans h1, Nat.lt_of_lt_of_le hA hB.size, hL.below hB, fun c hc => range_below hB (hR c hc) hA⟩
theorem tlen_any (N : Nat) (P : List (List Int)) (w : World) (h : TxAt N P w) :
  Calls Tryz.prog 103 #[.pointer (some ⟨N, 0, none⟩)] w fun e w' => e = .returned (.int .i64 P.length) ∧ w = w' := by
 obtain ⟨hg, pa, pc, A, ac, h0, h1, hA, hL, hR⟩ := h
 clear hg h1 hA hL hR
 go_enter Tryz.func103, Tryz.ntmps103
 go_wp2
 go_ret
 exact ⟨rfl, rfl⟩
noncomputable def isB (P : List (List Int)) (c d : Int) : Bool := clsB P.length c && clsB P.length d && Tx.inh P c.toNat d.toNat
theorem clsB_true {n : Nat} {c : Int} (h : clsB n c = true) : ∃ k : Nat, c = k ∧ k < n := by
 unfold clsB at h
 have := of_decide_eq_true h
 obtain ⟨k, rfl⟩ := Int.eq_ofNat_of_zero_le this.1
 exact ⟨k, rfl, by omega⟩
set_option maxHeartbeats 2000000 in
theorem tis_any (N : Nat) (P : List (List Int)) (c d : Int) (w : World) (h : TxAt N P w) :
  Calls Tryz.prog 109 #[.pointer (some ⟨N, 0, none⟩), .int .i64 c, .int .i64 d] w fun e w' => e = .returned (.bool (isB P c d)) ∧ w = w' := by
 obtain ⟨hg, pa, pc, A, ac, h0, h1, hA, hL, hR⟩ := h
 have k1 := thas_any N P.length pc pa c w h0
 have k2 := thas_any N P.length pc pa d w h0
 unfold isB
 by_cases hc : clsB P.length c = true
 ·by_cases hd : clsB P.length d = true
  ·obtain ⟨x, rfl, hx⟩ := clsB_true hc
   obtain ⟨y, rfl, hy⟩ := clsB_true hd
   rw [hc] at k1
   rw [hd] at k2
   rw [hc, hd]
   have hcl := hR x hx y _ ((bits_bl (Tx.inh P x)).2 y (by have := hg.len; omega))
   simp only [Bool.true_and, Int.toNat_natCast]
   generalize Tx.inh P x y = B at *
   have hxi : (x : Int) < P.length := by omega
   have hyi : (y : Int) < 64 := by have := hg.len; omega
   generalize P.length = n at *
   have K1 := Lib.hid k1
   have K2 := Lib.hid k2
   clear k1 k2 hR hL hg hc hd
   go_enter Tryz.func109, Tryz.ntmps109
   go_wp2_with fail
   refine (K1.out).mono ?_
   rintro e w' ⟨rfl, rfl⟩
   go_wp2_with fail
   refine (K2.out).mono ?_
   rintro e w' ⟨rfl, rfl⟩
   go_wp2
   go_ret
   exact ⟨rfl, rfl⟩
  ·have hd' : clsB P.length d = false := by simpa using hd
   rw [hc] at k1
   rw [hd'] at k2
   rw [hc, hd']
   generalize P.length = n at *
   have K1 := Lib.hid k1
   have K2 := Lib.hid k2
   clear k1 k2 hR hL hg hc hd hd'
   go_enter Tryz.func109, Tryz.ntmps109
   go_wp2_with fail
   refine (K1.out).mono ?_
   rintro e w' ⟨rfl, rfl⟩
   go_wp2_with fail
   refine (K2.out).mono ?_
   rintro e w' ⟨rfl, rfl⟩
   go_wp2
   go_ret
   exact ⟨rfl, rfl⟩
 ·have hc' : clsB P.length c = false := by simpa using hc
  rw [hc'] at k1
  rw [hc']
  generalize P.length = n at *
  have K1 := Lib.hid k1
  clear k1 k2 hR hL hg hc hc'
  go_enter Tryz.func109, Tryz.ntmps109
  go_wp2_with fail
  refine (K1.out).mono ?_
  rintro e w' ⟨rfl, rfl⟩
  go_wp2
  go_ret
  exact ⟨rfl, rfl⟩
end Go.Proofs.YtgnloodmbgdgdaaGreat
namespace Go.Proofs.YtgnloodmbgdgdaaGreat
open Go.RowKit Go.Shelf
def Cel (w : World) (b o : Nat) (v : Value) : Prop := w.cell? ⟨b, o, none⟩ = some v ∧ w.frozen? ⟨b, o, none⟩ = false
theorem Cel.set_same {w : World} {b o : Nat} {u v : Value} (h : Cel w b o u) : Cel (w.setCell ⟨b, o, none⟩ v) b o v :=
 ⟨World.cell?_setCell_same _ _ _ h.1, by rw [World.frozen?_setCell]; exact h.2⟩
theorem Cel.set_other {w : World} {b o b' o' : Nat} {u v : Value} (h : Cel w b o u) (hn : b' ≠ b ∨ o' ≠ o) : Cel (w.setCell ⟨b', o', none⟩ v) b o u :=
 ⟨by rw [World.cell?_setCell_other _ _ _ _ (fun e => by injection e; omega)]; exact h.1, by rw [World.frozen?_setCell]; exact h.2⟩
theorem Cel.setCells_same {b : Nat} : ∀ (vs : List Value) (o : Nat) {w : World} {j : Nat} {u v : Value}, Cel w b (o + j) u → vs[j]? = some v → Cel (w.setCells b o vs) b (o + j) v
 | [], _, _, _, _, _, _, h => by simp at h
 | x :: r, o, w, j, u, v, hc, h => by
  rw [World.setCells]
  cases j with
  | zero =>
   simp at h
   subst h
   have h1 : Cel (w.setCell ⟨b, o, none⟩ x) b o x := Cel.set_same hc
   refine ⟨?_, ?_⟩
   ·rw [World.cell?_setCells_out b r (o + 1) _ _ (fun _ _ => .inl (by show o + 0 < o + 1; omega))]; exact h1.1
   ·rw [World.frozen?_setCells]; exact h1.2
  | succ j =>
   have h2 : r[j]? = some v := by simpa using h
   have h3 : Cel (w.setCell ⟨b, o, none⟩ x) b (o + 1 + j) u := by
    rw [show o + 1 + j = o + (j + 1) by omega]
    exact hc.set_other (.inr (by omega))
   rw [show o + (j + 1) = o + 1 + j by omega]
   exact Cel.setCells_same r (o + 1) h3 h2
theorem Cel.setCells_other {b b' o o' : Nat} {vs : List Value} {w : World} {u : Value} (h : Cel w b o u) (hn : b' ≠ b ∨ o < o' ∨ o' + vs.length ≤ o) : Cel (w.setCells b' o' vs) b o u :=
 ⟨by rw [World.cell?_setCells_out b' vs o' _ _ (fun e _ => by
   rcases hn with h | h | h
   ·exact absurd e.symm h
   ·exact .inl h
   ·exact .inr h)]; exact h.1, by rw [World.frozen?_setCells]; exact h.2⟩
theorem Cel.below {w W : World} {b o : Nat} {v : Value} (h : Cel w b o v) (hB : Below w.heap.size w W) : Cel W b o v :=
 ⟨(hB.cell (p := ⟨b, o, none⟩) (block_there h.1)).trans h.1, (hB.frozen (p := ⟨b, o, none⟩) (block_there h.1)).trans h.2⟩
structure VF (P : List (List Int)) (b0 e l tb vb N A : Nat) (pa : Option Addr) (pc ac : Nat) (w0 : World) : Prop where
 ok : Tx.okAll P.length P = true
 len : P.length ≤ 64
 short : ∀ c, (Tx.row P c).length ≤ 100000
 be : b0 ≤ e
 bl : b0 ≤ l
 bA : b0 ≤ A
 bs : b0 ≤ w0.heap.size
 el : e ≠ l
 eA : e ≠ A
 lA : l ≠ A
 tbE : tb ≠ e ∧ tb ≠ l ∧ tb ≠ A
 vbE : vb ≠ e ∧ vb ≠ l ∧ vb ≠ A
 NE : N ≠ e ∧ N ≠ l ∧ N ≠ A
 ctb : w0.cell? ⟨tb, 0, none⟩ = some (.pointer (some ⟨N, 0, none⟩))
 cvb : w0.cell? ⟨vb, 0, none⟩ = some (.func (.func 150) #[] #[.pointer (some ⟨e, 0, none⟩), .pointer (some ⟨l, 0, none⟩), .pointer (some ⟨tb, 0, none⟩), .pointer (some ⟨vb, 0, none⟩)])
 cN0 : w0.cell? ⟨N, 0, none⟩ = some (.slice pa P.length pc)
 cN1 : w0.cell? ⟨N, 1, none⟩ = some (.slice (some ⟨A, 0, none⟩) P.length ac)
 lists : LIn (fun b => b ≠ e ∧ b ≠ l ∧ b ≠ A) w0 (.slice pa P.length pc) P
structure VS (n b0 e l A : Nat) (E L : Nat → Bool) (F : Nat → Nat → Bool) (w0 w : World) : Prop where
 base : Below b0 w0 w
 rest : ∀ b, b < w0.heap.size → b ≠ e ∧ b ≠ l ∧ b ≠ A → w.heap[b]? = w0.heap[b]?
 ent : ∀ i, i < 64 → Cel w e i (.bool (E i))
 lft : ∀ i, i < 64 → Cel w l i (.bool (L i))
 tab : ∀ c, c < n → ∀ d, d < 64 → Cel w A (c * 64 + d) (.bool (F c d))
theorem VS.below {n b0 e l A : Nat} {E L : Nat → Bool} {F : Nat → Nat → Bool} {w0 w W : World} (h : VS n b0 e l A E L F w0 w) (hb : b0 ≤ w0.heap.size) (hB : Below w.heap.size w W) : VS n b0 e l A E L F w0 W where
 base := h.base.trans (hB.mono (Nat.le_trans hb h.base.size))
 rest := fun b hb hs => (hB.block b (Nat.lt_of_lt_of_le hb h.base.size)).trans (h.rest b hb hs)
 ent := fun i hi => (h.ent i hi).below hB
 lft := fun i hi => (h.lft i hi).below hB
 tab := fun c hc d hd => (h.tab c hc d hd).below hB
theorem VS.setE {P : List (List Int)} {b0 e l tb vb N A pc ac : Nat} {pa : Option Addr} {E L : Nat → Bool} {F : Nat → Nat → Bool} {w0 w : World} (hf : VF P b0 e l tb vb N A pa pc ac w0) (h : VS P.length b0 e l A E L F w0 w) {c : Nat} (hc : c < 64) :
  VS P.length b0 e l A (Tx.put E c) L F w0 (w.setCell ⟨e, c, none⟩ (.bool true)) where
 base := h.base.setCell hf.be _
 rest := fun b hb hs => (Below.heap_setCell _ _ _ _ hs.1).trans (h.rest b hb hs)
 ent := fun i hi => by
  by_cases hic : i = c
  ·subst hic; rw [Tx.put_same]; exact (h.ent i hi).set_same
  ·rw [Tx.put_other hic]; exact (h.ent i hi).set_other (.inr (Ne.symm hic))
 lft := fun i hi => (h.lft i hi).set_other (.inl hf.el)
 tab := fun x hx d hd => (h.tab x hx d hd).set_other (.inl hf.eA)
theorem VS.setL {P : List (List Int)} {b0 e l tb vb N A pc ac : Nat} {pa : Option Addr} {E L : Nat → Bool} {F : Nat → Nat → Bool} {w0 w : World} (hf : VF P b0 e l tb vb N A pa pc ac w0) (h : VS P.length b0 e l A E L F w0 w) {c : Nat} (hc : c < 64) :
  VS P.length b0 e l A E (Tx.put L c) F w0 (w.setCell ⟨l, c, none⟩ (.bool true)) where
 base := h.base.setCell hf.bl _
 rest := fun b hb hs => (Below.heap_setCell _ _ _ _ hs.2.1).trans (h.rest b hb hs)
 ent := fun i hi => (h.ent i hi).set_other (.inl (Ne.symm hf.el))
 lft := fun i hi => by
  by_cases hic : i = c
  ·subst hic; rw [Tx.put_same]; exact (h.lft i hi).set_same
  ·rw [Tx.put_other hic]; exact (h.lft i hi).set_other (.inr (Ne.symm hic))
 tab := fun x hx d hd => (h.tab x hx d hd).set_other (.inl hf.lA)
theorem heap_setCells (b k : Nat) (hk : k ≠ b) : ∀ (vs : List Value) (o : Nat) (w : World), (w.setCells b o vs).heap[k]? = w.heap[k]?
 | [], _, _ => rfl
 | v :: r, o, w => by
  rw [World.setCells, heap_setCells b k hk r (o + 1)]
  exact Below.heap_setCell _ _ _ _ hk
theorem VS.setRow {P : List (List Int)} {b0 e l tb vb N A pc ac : Nat} {pa : Option Addr} {E L : Nat → Bool} {F : Nat → Nat → Bool} {w0 w : World} (hf : VF P b0 e l tb vb N A pa pc ac w0) (h : VS P.length b0 e l A E L F w0 w) {c : Nat} (hc : c < P.length) (f : Nat → Bool) :
  VS P.length b0 e l A E L (Tx.setRow F c f) w0 (w.setCells A (c * 64) (Go.Proofs.YtgnloodmbgdgdaaGreat.bl f)) where
 base := below_setCells hf.bA _ _ h.base
 rest := fun b hb hs => (heap_setCells _ _ hs.2.2 _ _ _).trans (h.rest b hb hs)
 ent := fun i hi => (h.ent i hi).setCells_other (.inl (Ne.symm hf.eA))
 lft := fun i hi => (h.lft i hi).setCells_other (.inl (Ne.symm hf.lA))
 tab := fun x hx d hd => by
  by_cases hxc : x = c
  ·subst hxc
   have e1 : Tx.setRow F x f x = f := by unfold Tx.setRow; exact if_pos rfl
   rw [e1]
   exact Cel.setCells_same _ _ (h.tab x hx d hd) ((bits_bl f).2 d hd)
  ·have e1 : Tx.setRow F c f x = F x := by unfold Tx.setRow; exact if_neg hxc
   rw [e1]
   refine (h.tab x hx d hd).setCells_other (.inr ?_)
   rw [bl_len]
   by_cases hlt : x < c
   ·exact .inl (by have : (x + 1) * 64 ≤ c * 64 := Nat.mul_le_mul_right _ hlt; omega)
   ·exact .inr (by have : (c + 1) * 64 ≤ x * 64 := Nat.mul_le_mul_right _ (by omega); omega)
theorem VS.setOne {P : List (List Int)} {b0 e l tb vb N A pc ac : Nat} {pa : Option Addr} {E L : Nat → Bool} {F : Nat → Nat → Bool} {w0 w : World} (hf : VF P b0 e l tb vb N A pa pc ac w0) (h : VS P.length b0 e l A E L F w0 w) {c d : Nat} (hc : c < P.length) (hd : d < 64) :
  VS P.length b0 e l A E L (Tx.setRow F c (Tx.put (F c) d)) w0 (w.setCell ⟨A, c * 64 + d, none⟩ (.bool true)) where
 base := h.base.setCell hf.bA _
 rest := fun b hb hs => (Below.heap_setCell _ _ _ _ hs.2.2).trans (h.rest b hb hs)
 ent := fun i hi => (h.ent i hi).set_other (.inl (Ne.symm hf.eA))
 lft := fun i hi => (h.lft i hi).set_other (.inl (Ne.symm hf.lA))
 tab := fun x hx y hy => by
  by_cases hxc : x = c
  ·subst hxc
   have e1 : Tx.setRow F x (Tx.put (F x) d) x = Tx.put (F x) d := by unfold Tx.setRow; exact if_pos rfl
   rw [e1]
   by_cases hyd : y = d
   ·subst hyd; rw [Tx.put_same]; exact (h.tab x hx y hy).set_same
   ·rw [Tx.put_other hyd]; exact (h.tab x hx y hy).set_other (.inr (by omega))
  ·have e1 : Tx.setRow F c (Tx.put (F c) d) x = F x := by unfold Tx.setRow; exact if_neg hxc
   rw [e1]
   exact (h.tab x hx y hy).set_other (.inr (by omega))
theorem VS.cell {P : List (List Int)} {b0 e l A : Nat} {E L : Nat → Bool} {F : Nat → Nat → Bool} {w0 w : World} (h : VS P.length b0 e l A E L F w0 w) {b o : Nat} {v : Value} (hb : b ≠ e ∧ b ≠ l ∧ b ≠ A) (hc : w0.cell? ⟨b, o, none⟩ = some v) : w.cell? ⟨b, o, none⟩ = some v :=
 (cell_of_block (h.rest b (block_there hc) hb) o).trans hc
theorem VS.lists {P : List (List Int)} {b0 e l tb vb N A pc ac : Nat} {pa : Option Addr} {E L : Nat → Bool} {F : Nat → Nat → Bool} {w0 w : World} (hf : VF P b0 e l tb vb N A pa pc ac w0) (h : VS P.length b0 e l A E L F w0 w) : LIn (fun b => b ≠ e ∧ b ≠ l ∧ b ≠ A) w (.slice pa P.length pc) P :=
 hf.lists.keep h.base.size fun b hb hs => h.rest b hs hb
end Go.Proofs.YtgnloodmbgdgdaaGreat
