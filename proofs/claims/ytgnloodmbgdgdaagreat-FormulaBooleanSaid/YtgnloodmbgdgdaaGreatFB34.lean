import Derived.Test.YtgnloodmbgdgdaaGreatFB00
import Derived.Test.YtgnloodmbgdgdaaGreatFB09
import Derived.Test.YtgnloodmbgdgdaaGreatFB10
import Derived.Laws.OwnMore
import Derived.Lib.SliceRun
import Derived.Lib.SlicesCompact
namespace Go.Proofs.YtgnloodmbgdgdaaGreat
open Go.RowKit Go.Shelf Go.Sort
section
variable {α : Type} [Inhabited α]
theorem heap_sortedE (enc : α → Value) {w : World} {g n : Nat} {os : Array Obj} {cur : Array Value} {e : TypeId} {fr : Nat × Nat} (d : Array α) (hb : w.heap[g]? = some (.cells cur e fr)) :
  (grow (putRow enc (Sort.ahead w n) g 0 d) os).heap[g]? = some (.cells (putCells enc 0 d cur) e fr) := by
 have hg : g < w.heap.size := (Array.getElem?_eq_some_iff.1 hb).1
 rw [heap_grow_old _ _ (by simpa using hg)]
 simp [putRow, mapBlock, Sort.ahead, Array.getElem?_modify, hb, onCells]
theorem grownBy_sortedE (enc : α → Value) {w : World} {g n : Nat} {os : Array Obj} (d : Array α) : w.grownBy (grow (putRow enc (Sort.ahead w n) g 0 d) os) (some g) := by
 refine ⟨rfl, rfl, rfl, by simp, fun k hk hne => ?_⟩
 rw [heap_grow_old _ _ (by simpa using hk)]
 have : g ≠ k := fun e => hne (by rw [e])
 simp [putRow, mapBlock, Sort.ahead, Array.getElem?_modify, this]
theorem take_putCellsE (enc : α → Value) (cur : Array Value) (vs : List α) (h : vs.length ≤ cur.size) : (putCells enc 0 vs.toArray cur).toList.take vs.length = vs.map enc := by
 apply List.ext_getElem?
 intro j
 by_cases hj : j < vs.length
 ·rw [List.getElem?_take_of_lt hj, Array.getElem?_toList]
  simp [putCells, hj, show j < cur.size by omega]
 ·rw [List.getElem?_take_eq_none (by omega), List.getElem?_eq_none (by simp; omega)]
theorem flat_listR (R : RowOf α) (xs : List α) : (flatK R.cells R.k xs.toArray).toList = xs.flatMap R.cells := by
 have hp := R.pos
 apply List.ext_getElem?
 intro t
 have hl := R.flat xs
 by_cases ht : t < xs.length * R.k
 ·have hq : t / R.k < xs.length := (Nat.div_lt_iff_lt_mul hp).2 ht
  have hx : xs[t / R.k]? = some xs[t / R.k] := List.getElem?_eq_getElem hq
  have hat := R.at xs (t / R.k) _ hx (t % R.k) (Nat.mod_lt _ hp)
  have e : t / R.k * R.k + t % R.k = t := by rw [Nat.mul_comm]; exact Nat.div_add_mod t R.k
  rw [e] at hat
  rw [hat]
  have h1 : t < (flatK R.cells R.k xs.toArray).size := by rw [size_flatK]; simpa using ht
  rw [Array.getElem?_toList, Array.getElem?_eq_getElem h1]
  have h2 := get_flatK R.cells R.k xs.toArray t (by simpa using ht)
  rw [getElem!_pos (flatK R.cells R.k xs.toArray) t h1] at h2
  rw [h2]
  have h3 : xs.toArray[t / R.k]! = xs[t / R.k] := by
   rw [getElem!_pos xs.toArray (t / R.k) (by simpa using hq)]
   simp
  rw [h3]
  have h4 : t % R.k < (R.cells xs[t / R.k]).length := by rw [R.len]; exact Nat.mod_lt _ hp
  rw [getElem!_pos (R.cells xs[t / R.k]) (t % R.k) h4, List.getElem?_eq_getElem h4]
 ·rw [List.getElem?_eq_none (by rw [Array.length_toList, size_flatK]; simp; omega), List.getElem?_eq_none (by rw [hl]; omega)]
theorem row_sorted (R : RowOf α) {E : TypeId} {B g cap : Nat} {xs : List α} {w : World} (hO : ROwn R E B w (.slice (some ⟨g, 0, none⟩) xs.length cap) xs) :
  HoldsK R.cells R.k w g 0 xs.toArray ∧ g < w.heap.size ∧ ∀ (d' : Array α) (q : Nat) (os : Array Obj), d'.size = xs.length →
   ROwn R E B (sortWorldK R.cells R.k w g 0 q d' os) (.slice (some ⟨g, 0, none⟩) xs.length cap) d'.toList ∧ PF (.slice (some ⟨g, 0, none⟩) xs.length cap) w (sortWorldK R.cells R.k w g 0 q d' os) (.slice (some ⟨g, 0, none⟩) xs.length cap) ∧ Below B w (sortWorldK R.cells R.k w g 0 q d' os) := by
 obtain ⟨hf, ⟨hv, _⟩ | ⟨g', cap', cur, hv, hg, hh, hcap, hmax, hsz, htk⟩⟩ := hO
 ·cases hv
 cases hv
 refine ⟨?_, (Array.getElem?_eq_some_iff.1 hh).1, fun d' q os hd => ⟨?_, ?_, ?_⟩⟩
 ·intro j hj
  rw [size_flatK] at hj
  have hj' : j < xs.length * R.k := by simpa using hj
  refine ⟨?_, by simp [World.frozen?, hh]⟩
  have h1 : (cur.toList.take (xs.length * R.k))[j]? = (xs.flatMap R.cells)[j]? := by rw [htk]
  rw [List.getElem?_take_of_lt hj', ← flat_listR, Array.getElem?_toList, Array.getElem?_toList] at h1
  simp only [World.cell?, hh, Nat.zero_add]
  simp only [Option.isSome_none, Bool.false_eq_true, if_false]
  rw [h1]
  have h2 : j < (flatK R.cells R.k xs.toArray).size := by rw [size_flatK]; exact hj
  rw [Array.getElem?_eq_getElem h2, getElem!_pos (flatK R.cells R.k xs.toArray) j h2]
  rfl
 ·have hdl : d'.toList.length = xs.length := by rw [Array.length_toList, hd]
  have hfl : (flatK R.cells R.k d').toList = d'.toList.flatMap R.cells := by have := flat_listR R d'.toList; rwa [Array.toArray_toList] at this
  unfold ROwn
  rw [hdl]
  have hlen : (d'.toList.flatMap R.cells).length = xs.length * R.k := by rw [R.flat, hdl]
  refine ⟨by rw [R.flat, hdl], .inr ⟨g, cap, _, rfl, hg, heap_sortedE id _ hh, hcap, hmax, by simp [putCells, hsz], ?_⟩⟩
  have e : flatK R.cells R.k d' = (d'.toList.flatMap R.cells).toArray := by rw [← hfl]
  rw [e, ← hlen]
  have := take_putCellsE id cur (d'.toList.flatMap R.cells) (by rw [hlen, hsz]; exact Nat.mul_le_mul_right _ hcap)
  rwa [List.map_id] at this
 ·exact PF.of_grown (grownBy_sortedE id _) (.inl rfl)
 ·exact (Below.refl B w).grown (grownBy_sortedE id _) (by have := (Array.getElem?_eq_some_iff.1 hh).1; omega) (fun k hk => by cases hk; exact hg)
end
def RowOut {α : Type} (R : RowOf α) (E : TypeId) (B : Nat) (sv : Value) (ys : List α) (w : World) (e : Ending) (w' : World) : Prop :=
 e = .returned (.tuple #[]) ∧ ROwn R E B w' sv ys ∧ PF sv w w' sv ∧ Below B w w'
theorem own_cases {α : Type} {R : RowOf α} {E : TypeId} {B : Nat} {w : World} {sv : Value} {xs : List α} (h : ROwn R E B w sv xs) : (sv = .slice none 0 0 ∧ xs = []) ∨ ∃ g cap, sv = .slice (some ⟨g, 0, none⟩) xs.length cap := by
 obtain ⟨_, ⟨h1, h2⟩ | ⟨g, cap, _, h1, _⟩⟩ := h
 ·exact .inl ⟨h1, List.eq_nil_of_length_eq_zero h2⟩
 ·exact .inr ⟨g, cap, h1⟩
theorem compact_facts {α : Type} [Inhabited α] [DecidableEq α] (r : α → α → Prop) (ht : ∀ a b c, r a b → r b c → r a c) (ha : ∀ a b, r a b → r b a → a = b) (d : Array α) (hs : ∀ i j, i ≤ j → j < d.size → r d[i]! d[j]!) :
  ∀ m, m ≤ d.size → (Lib.compactUpTo d m).Pairwise (fun a b => r a b ∧ a ≠ b) ∧ ∀ x, x ∈ Lib.compactUpTo d m ↔ ∃ j, j < m ∧ d[j]! = x
 | 0, _ => by simp [Lib.compactUpTo]
 | m + 1, hm => by
  obtain ⟨h1, h2⟩ := compact_facts r ht ha d hs m (by omega)
  rw [Lib.compactUpTo_succ]
  by_cases hk : Lib.keeps d m = true
  ·rw [if_pos hk]
   refine ⟨List.pairwise_append.2 ⟨h1, by simp, fun a ha1 b hb => ?_⟩, fun x => ?_⟩
   ·rw [List.mem_singleton] at hb
    subst hb
    obtain ⟨j, hj, rfl⟩ := (h2 a).1 ha1
    refine ⟨hs j m (by omega) (by omega), fun e => ?_⟩
    unfold Lib.keeps at hk
    rcases of_decide_eq_true hk with h0 | h0
    ·omega
    ·have q1 := hs j (m - 1) (by omega) (by omega)
     have q2 := hs (m - 1) m (by omega) (by omega)
     rw [← e] at q2
     exact h0 (e ▸ ha _ _ q1 q2)
   ·rw [List.mem_append, h2, List.mem_singleton]
    constructor
    ·rintro (⟨j, hj, e⟩ | e)
     ·exact ⟨j, by omega, e⟩
     ·exact ⟨m, by omega, e.symm⟩
    ·rintro ⟨j, hj, e⟩
     by_cases h : j = m
     ·subst h; exact .inr e.symm
     ·exact .inl ⟨j, by omega, e⟩
  ·rw [if_neg hk, List.append_nil]
   refine ⟨h1, fun x => (h2 x).trans ⟨fun ⟨j, hj, e⟩ => ⟨j, by omega, e⟩, fun ⟨j, hj, e⟩ => ?_⟩⟩
   by_cases h : j = m
   ·subst h
    have h3 : ¬ (j = 0 ∨ d[j]! ≠ d[j - 1]!) := fun h => hk (decide_eq_true h)
    have h4 : d[j]! = d[j - 1]! := Classical.byContradiction fun h => h3 (.inr h)
    exact ⟨j - 1, by omega, h4 ▸ e⟩
   ·exact ⟨j, by omega, e⟩
theorem compact_pair {α : Type} [Inhabited α] [DecidableEq α] (r : α → α → Prop) (ht : ∀ a b c, r a b → r b c → r a c) (ha : ∀ a b, r a b → r b a → a = b) (hr : ∀ a, r a a) (l : List α) (hs : l.Pairwise r) :
  (Lib.compact l).Pairwise (fun a b => r a b ∧ a ≠ b) ∧ ∀ x, x ∈ Lib.compact l ↔ x ∈ l := by
 have h := compact_facts r ht ha l.toArray (fun i j hij hj => by
  have hj' : j < l.length := by simpa using hj
  rw [getElem!_pos l.toArray i (by simpa using Nat.lt_of_le_of_lt hij hj'), getElem!_pos l.toArray j hj]
  by_cases e : i = j
  ·subst e; exact hr _
  ·exact List.pairwise_iff_getElem.1 hs i j (by omega) hj' (by omega)) l.length (by simp)
 refine ⟨h.1, fun x => (h.2 x).trans ⟨?_, fun hx => ?_⟩⟩
 ·rintro ⟨j, hj, rfl⟩
  rw [getElem!_pos l.toArray j (by simpa using hj)]
  exact List.getElem_mem hj
 ·obtain ⟨j, hj, rfl⟩ := List.getElem_of_mem hx
  exact ⟨j, hj, by rw [getElem!_pos l.toArray j (by simpa using hj)]; rfl⟩
theorem swo_of {α β : Type} {c : β → β → Int} (h : IsOrd c) (f : α → β) : SWO (ltOf fun a b => c (f a) (f b)) where
 irrefl x := by show decide (c (f x) (f x) < 0) = false; rw [h.self]; rfl
 trans x y z h1 h2 := by
  change decide (c (f x) (f y) < 0) = true at h1
  change decide (c (f y) (f z) < 0) = true at h2
  show decide (c (f x) (f z) < 0) = true
  have h1 := of_decide_eq_true h1
  have h2 := of_decide_eq_true h2
  refine decide_eq_true ?_
  have h3 := h.trans _ _ _ (by omega : c (f x) (f y) ≤ 0) (by omega : c (f y) (f z) ≤ 0)
  by_cases e : c (f x) (f z) = 0
  ·have e2 := h.zero _ _ e
   have e3 := h.anti (f x) (f y)
   rw [e2] at e3 h1
   omega
  ·omega
 ntrans x y z h1 h2 := by
  change decide (c (f x) (f y) < 0) = false at h1
  change decide (c (f y) (f z) < 0) = false at h2
  show decide (c (f x) (f z) < 0) = false
  have h1 := of_decide_eq_false h1
  have h2 := of_decide_eq_false h2
  refine decide_eq_false ?_
  have a1 := h.anti (f x) (f y)
  have a2 := h.anti (f y) (f z)
  have a3 := h.anti (f x) (f z)
  have h3 := h.trans (f z) (f y) (f x) (by omega) (by omega)
  omega
theorem sorted_pair {α β : Type} [Inhabited α] {c : β → β → Int} (h : IsOrd c) (f : α → β) {d' : Array α} {n : Nat} (hn : d'.size = n) (hs : SortedIn (ltOf fun a b => c (f a) (f b)) 0 n d') : d'.toList.Pairwise fun a b => c (f a) (f b) ≤ 0 := by
 rw [List.pairwise_iff_getElem]
 intro i j hi hj hij
 have hi' : i < d'.size := by simpa using hi
 have hj' : j < d'.size := by simpa using hj
 have h1 : decide (c (f d'[j]!) (f d'[i]!) < 0) = false := hs i j (Nat.zero_le _) hij (by omega)
 have h1 := of_decide_eq_false h1
 rw [getElem!_pos d' i hi', getElem!_pos d' j hj'] at h1
 have h2 := h.anti (f d'[i]) (f d'[j])
 simp only [Array.getElem_toList]
 omega
theorem perm_of {α : Type} [Inhabited α] {xs : List α} {d' : Array α} (hp : PermIn 0 xs.toArray.size xs.toArray d') : d'.size = xs.length ∧ d'.toList.Perm xs := by
 have hs : xs.toArray.size = xs.length := by simp
 have h0 := hp.1
 have h1 := hp.2.2
 have e1 : d'.extract 0 xs.toArray.size = d' := by rw [← h0]; exact Array.extract_size ..
 have e2 : xs.toArray.extract 0 xs.toArray.size = xs.toArray := Array.extract_size ..
 rw [e1, e2] at h1
 exact ⟨h0.trans hs, by simpa using h1⟩
theorem own_cut {α : Type} {R : RowOf α} {E : TypeId} {B g n c m : Nat} {w : World} {xs : List α} (h : ROwn R E B w (.slice (some ⟨g, 0, none⟩) n c) xs) (hm : m ≤ n) : ROwn R E B w (.slice (some ⟨g, 0, none⟩) m c) (xs.take m) := by
 have hn := h.els.len
 obtain ⟨hf, ⟨hv, _⟩ | ⟨g', cap', cur, hv, hg, hh, hcap, hmax, hsz, htk⟩⟩ := h
 ·cases hv
 cases hv
 have hl : (xs.take m).length = m := by rw [List.length_take]; omega
 have e : xs.flatMap R.cells = (xs.take m).flatMap R.cells ++ (xs.drop m).flatMap R.cells := by rw [← List.flatMap_append, List.take_append_drop]
 have hfl : ((xs.take m).flatMap R.cells).length = m * R.k := by rw [R.flat, hl]
 unfold ROwn
 rw [hl]
 refine ⟨hfl, .inr ⟨g, c, cur, rfl, hg, hh, by omega, hmax, hsz, ?_⟩⟩
 have h1 : (cur.toList.take (xs.length * R.k)).take (m * R.k) = ((xs.take m).flatMap R.cells ++ (xs.drop m).flatMap R.cells).take (m * R.k) := by rw [htk, e]
 rw [List.take_take, Nat.min_eq_left (Nat.mul_le_mul_right _ (by omega)), List.take_left' hfl] at h1
 exact h1
theorem own_high {α : Type} {R : RowOf α} {E : TypeId} {B g n c : Nat} {xs : List α} : ∀ (vs : List Value) (o : Nat) (w : World), ROwn R E B w (.slice (some ⟨g, 0, none⟩) n c) xs → n * R.k ≤ o → ROwn R E B (w.setCells g o vs) (.slice (some ⟨g, 0, none⟩) n c) xs
 | [], _, _, h, _ => h
 | v :: vs, o, w, h, ho => by
  refine own_high vs (o + 1) _ ?_ (by omega)
  have hn := h.els.len
  subst hn
  have h1 := (World.ownsRow.stored h o v).1
  rw [List.set_eq_of_length_le (by rw [R.flat]; exact ho)] at h1
  exact h1
theorem pf_cells {g n c n' c' : Nat} : ∀ (vs : List Value) (o : Nat) (w w' : World), PF (.slice (some ⟨g, 0, none⟩) n c) w w' (.slice (some ⟨g, 0, none⟩) n' c') → PF (.slice (some ⟨g, 0, none⟩) n c) w (w'.setCells g o vs) (.slice (some ⟨g, 0, none⟩) n' c')
 | [], _, _, _, h => h
 | v :: vs, o, w, w', h => by
  refine pf_cells vs (o + 1) w _ ⟨⟨by rw [World.size_setCell]; exact h.1.1, fun b hb hl => ?_⟩, h.2⟩
  exact (Below.heap_setCell _ _ _ _ (fun (e : b = g) => hb (by rw [e]; rfl))).trans (h.1.2 b hb hl)
theorem below_cells {B g : Nat} (hg : B ≤ g) : ∀ (vs : List Value) (o : Nat) (w w' : World), Below B w w' → Below B w (w'.setCells g o vs)
 | [], _, _, _, h => h
 | v :: vs, o, w, _, h => below_cells hg vs (o + 1) w _ (h.setCell (p := ⟨g, o, none⟩) hg v)
end Go.Proofs.YtgnloodmbgdgdaaGreat
