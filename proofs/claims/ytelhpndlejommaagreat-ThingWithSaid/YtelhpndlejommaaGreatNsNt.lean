import Derived.Test.YtelhpndlejommaaGreatNsh
import Derived.Test.YtelhpndlejommaaGreatNd
import Derived.Test.YtelhpndlejommaaGreatCw
/- Sorts and compactions of rows of the call's own: the shelf's contracts over rows. -/
namespace Go.Proofs.YtelhpndlejommaaGreat
open Go.RowKit Go.Shelf Go.Sort

section
variable {α : Type} [Inhabited α]

theorem heap_sortedE (enc : α → Value) {w : World} {g n : Nat} {os : Array Obj} {cur : Array Value} {e : TypeId} {fr : Nat × Nat} (d : Array α) (hb : w.heap[g]? = some (.cells cur e fr)) :
    (grow (putRow enc (Sort.ahead w n) g 0 d) os).heap[g]? = some (.cells (putCells enc 0 d cur) e fr) := by
  have hg : g < w.heap.size := (Array.getElem?_eq_some_iff.1 hb).1
  rw [heap_grow_old _ _ (by simpa using hg)]
  simp [putRow, mapBlock, Sort.ahead, Array.getElem?_modify, hb, onCells]

theorem grownBy_sortedE (enc : α → Value) {w : World} {g n : Nat} {os : Array Obj} (d : Array α) : w.grownBy (grow (putRow enc (Sort.ahead w n) g 0 d) os) (some g) := by
  refine ⟨rfl, rfl, rfl, by simp, fun k hk hne => ?_⟩
  rw [heap_grow_old _ _ (by simpa using hk)]
  have : g ≠ k := fun e => hne (by rw [e])
  simp [putRow, mapBlock, Sort.ahead, Array.getElem?_modify, this]

theorem take_putCellsE (enc : α → Value) (cur : Array Value) (vs : List α) (h : vs.length ≤ cur.size) : (putCells enc 0 vs.toArray cur).toList.take vs.length = vs.map enc := by
  apply List.ext_getElem?
  intro j
  by_cases hj : j < vs.length
  · rw [List.getElem?_take_of_lt hj, Array.getElem?_toList]
    simp [putCells, hj, show j < cur.size by omega]
  · rw [List.getElem?_take_eq_none (by omega), List.getElem?_eq_none (by simp; omega)]

theorem grow_nil (w : World) : grow w #[] = w := by simp [grow]

theorem flat_listR (R : RowOf α) (xs : List α) : (flatK R.cells R.k xs.toArray).toList = xs.flatMap R.cells := by
  have hp := R.pos
  apply List.ext_getElem?
  intro t
  have hl := R.flat xs
  by_cases ht : t < xs.length * R.k
  · have hq : t / R.k < xs.length := (Nat.div_lt_iff_lt_mul hp).2 ht
    have hx : xs[t / R.k]? = some xs[t / R.k] := List.getElem?_eq_getElem hq
    have hat := R.at xs (t / R.k) _ hx (t % R.k) (Nat.mod_lt _ hp)
    have e : t / R.k * R.k + t % R.k = t := by rw [Nat.mul_comm]; exact Nat.div_add_mod t R.k
    rw [e] at hat
    rw [hat]
    have h1 : t < (flatK R.cells R.k xs.toArray).size := by rw [size_flatK]; simpa using ht
    rw [Array.getElem?_toList, Array.getElem?_eq_getElem h1]
    have h2 := get_flatK R.cells R.k xs.toArray t (by simpa using ht)
    rw [getElem!_pos (flatK R.cells R.k xs.toArray) t h1] at h2
    rw [h2]
    have h3 : xs.toArray[t / R.k]! = xs[t / R.k] := by
      rw [getElem!_pos xs.toArray (t / R.k) (by simpa using hq)]
      simp
    rw [h3]
    have h4 : t % R.k < (R.cells xs[t / R.k]).length := by rw [R.len]; exact Nat.mod_lt _ hp
    rw [getElem!_pos (R.cells xs[t / R.k]) (t % R.k) h4, List.getElem?_eq_getElem h4]
  · rw [List.getElem?_eq_none (by rw [Array.length_toList, size_flatK]; simp; omega), List.getElem?_eq_none (by rw [hl]; omega)]

/-- A row as a sort wants it, and what the sort leaves. -/
theorem row_sorted (R : RowOf α) {E : TypeId} {B g cap : Nat} {xs : List α} {w : World} (hO : ROwn R E B w (.slice (some ⟨g, 0, none⟩) xs.length cap) xs) :
    HoldsK R.cells R.k w g 0 xs.toArray ∧ g < w.heap.size ∧ ∀ (d' : Array α) (q : Nat) (os : Array Obj), d'.size = xs.length →
      ROwn R E B (sortWorldK R.cells R.k w g 0 q d' os) (.slice (some ⟨g, 0, none⟩) xs.length cap) d'.toList ∧ PF (.slice (some ⟨g, 0, none⟩) xs.length cap) w (sortWorldK R.cells R.k w g 0 q d' os) (.slice (some ⟨g, 0, none⟩) xs.length cap) ∧ Below B w (sortWorldK R.cells R.k w g 0 q d' os) := by
  obtain ⟨hf, ⟨hv, _⟩ | ⟨g', cap', cur, hv, hg, hh, hcap, hmax, hsz, htk⟩⟩ := hO
  · cases hv
  cases hv
  refine ⟨?_, (Array.getElem?_eq_some_iff.1 hh).1, fun d' q os hd => ⟨?_, ?_, ?_⟩⟩
  · intro j hj
    rw [size_flatK] at hj
    have hj' : j < xs.length * R.k := by simpa using hj
    refine ⟨?_, by simp [World.frozen?, hh]⟩
    have h1 : (cur.toList.take (xs.length * R.k))[j]? = (xs.flatMap R.cells)[j]? := by rw [htk]
    rw [List.getElem?_take_of_lt hj', ← flat_listR, Array.getElem?_toList, Array.getElem?_toList] at h1
    simp only [World.cell?, hh, Nat.zero_add]
    simp only [Option.isSome_none, Bool.false_eq_true, if_false]
    rw [h1]
    have h2 : j < (flatK R.cells R.k xs.toArray).size := by rw [size_flatK]; exact hj
    rw [Array.getElem?_eq_getElem h2, getElem!_pos (flatK R.cells R.k xs.toArray) j h2]
    rfl
  · have hdl : d'.toList.length = xs.length := by rw [Array.length_toList, hd]
    have hfl : (flatK R.cells R.k d').toList = d'.toList.flatMap R.cells := by have := flat_listR R d'.toList; rwa [Array.toArray_toList] at this
    unfold ROwn
    rw [hdl]
    have hlen : (d'.toList.flatMap R.cells).length = xs.length * R.k := by rw [R.flat, hdl]
    refine ⟨by rw [R.flat, hdl], .inr ⟨g, cap, _, rfl, hg, heap_sortedE id _ hh, hcap, hmax, by simp [putCells, hsz], ?_⟩⟩
    have e : flatK R.cells R.k d' = (d'.toList.flatMap R.cells).toArray := by rw [← hfl]
    rw [e, ← hlen]
    have := take_putCellsE id cur (d'.toList.flatMap R.cells) (by rw [hlen, hsz]; exact Nat.mul_le_mul_right _ hcap)
    rwa [List.map_id] at this
  · exact PF.of_grown (grownBy_sortedE id _) (.inl rfl)
  · exact (Below.refl B w).grown (grownBy_sortedE id _) (by have := (Array.getElem?_eq_some_iff.1 hh).1; omega) (fun k hk => by cases hk; exact hg)

end

/-- Numbers in a row of the call's own that are laid anew. -/
theorem ints_laid {E : TypeId} {B g cap m q : Nat} {xs ys : List Int} {os : Array Obj} {w : World} (hO : ROwn RIn E B w (.slice (some ⟨g, 0, none⟩) xs.length cap) xs) (hy : ys.length = xs.length) (hm : m ≤ xs.length) :
    ROwn RIn E B (grow (putRow (Value.int .i64) (Sort.ahead w q) g 0 ys.toArray) os) (.slice (some ⟨g, 0, none⟩) m cap) (ys.take m) ∧ PF (.slice (some ⟨g, 0, none⟩) xs.length cap) w (grow (putRow (Value.int .i64) (Sort.ahead w q) g 0 ys.toArray) os) (.slice (some ⟨g, 0, none⟩) m cap) ∧ Below B w (grow (putRow (Value.int .i64) (Sort.ahead w q) g 0 ys.toArray) os) := by
  obtain ⟨hf, ⟨hv, _⟩ | ⟨g', cap', cur, hv, hg, hh, hcap, hmax, hsz, htk⟩⟩ := hO
  · cases hv
  cases hv
  refine ⟨?_, PF.of_grown (grownBy_sortedE _ _) (.inl rfl), (Below.refl B w).grown (grownBy_sortedE _ _) (by have := (Array.getElem?_eq_some_iff.1 hh).1; omega) (fun k hk => by cases hk; exact hg)⟩
  have hdl : (ys.take m).length = m := by rw [List.length_take]; omega
  have hk1 : RIn.k = 1 := rfl
  rw [hk1] at hsz
  unfold ROwn
  rw [hdl]
  refine ⟨by rw [RIn.flat, hdl], .inr ⟨g, cap, _, rfl, hg, heap_sortedE _ _ hh, by omega, hmax, by simp [putCells, hsz, hk1], ?_⟩⟩
  have h1 := take_putCellsE (Value.int .i64) cur ys (by rw [hsz]; omega)
  rw [hk1, Nat.mul_one, rin_flat, List.map_take, ← h1, List.take_take, Nat.min_eq_left (by omega)]

/-- A row of numbers as a sort wants it. -/
theorem ints_held {E : TypeId} {B g n cap : Nat} {xs : List Int} {w : World} (hO : ROwn RIn E B w (.slice (some ⟨g, 0, none⟩) n cap) xs) : Holds (Value.int .i64) w g 0 xs.toArray ∧ g < w.heap.size ∧ n ≤ cap := by
  have hE := rin_els hO.els
  have hn := hO.els.len
  have hfr := fun j => (have hn := hO.els.len; by subst hn; exact World.ownsRow.frozenAt hO j : w.frozen? ⟨g, j, none⟩ = false)
  obtain ⟨hf, ⟨hv, _⟩ | ⟨g', cap', cur, hv, hg, hh, hcap, hmax, hsz, htk⟩⟩ := hO
  · cases hv
  cases hv
  refine ⟨fun j hj => ?_, (Array.getElem?_eq_some_iff.1 hh).1, hcap⟩
  have hj' : j < xs.length := by simpa using hj
  obtain ⟨b, off, e, hc⟩ := hE.at j hj'
  injection e with e
  cases e
  rw [Nat.zero_add] at hc ⊢
  refine ⟨?_, hfr j⟩
  rw [hc]
  congr 2
  rw [getElem!_pos xs.toArray j hj, List.getElem?_eq_getElem hj']
  rfl

/-- What a call that turns a row of the call's own leaves. -/
def RowOut {α : Type} (R : RowOf α) (E : TypeId) (B : Nat) (sv : Value) (ys : List α) (w : World) (e : Ending) (w' : World) : Prop :=
  e = .returned (.tuple #[]) ∧ ROwn R E B w' sv ys ∧ PF sv w w' sv ∧ Below B w w'

/-- What a call that cuts one leaves. -/
def CutOut {α : Type} (R : RowOf α) (E : TypeId) (B : Nat) (sv : Value) (ys : List α) (w : World) (e : Ending) (w' : World) : Prop :=
  ∃ a n c, e = .returned (.slice a n c) ∧ Hid (ROwn R E B w' (.slice a n c) ys) ∧ Hid (PF sv w w' (.slice a n c)) ∧ Hid (Below B w w')

theorem own_cases {α : Type} {R : RowOf α} {E : TypeId} {B : Nat} {w : World} {sv : Value} {xs : List α} (h : ROwn R E B w sv xs) : (sv = .slice none 0 0 ∧ xs = []) ∨ ∃ g cap, sv = .slice (some ⟨g, 0, none⟩) xs.length cap := by
  obtain ⟨_, ⟨h1, h2⟩ | ⟨g, cap, _, h1, _⟩⟩ := h
  · exact .inl ⟨h1, List.eq_nil_of_length_eq_zero h2⟩
  · exact .inr ⟨g, cap, h1⟩

theorem sortI_any (B : Nat) (sv : Value) (xs : List Int) (w : World) (hO : ROwn RIn 3 B w sv xs) (hl : xs.length ≤ 1000000000) :
    Calls Tryz.prog 35 #[sv] w (RowOut RIn 3 B sv (xs.mergeSort fun x y => decide (x ≤ y)) w) := by
  rcases own_cases hO with ⟨rfl, rfl⟩ | ⟨g, cap, rfl⟩
  · have h := AnyM.slices_Sort_int_none Tryz.sortI none 0 w
    change Calls Tryz.prog 35 _ _ _ at h
    refine h.mono fun e w' ⟨he, hw⟩ => ?_
    subst hw
    exact ⟨he, by rw [List.mergeSort_nil]; exact hO, PF.refl _ _, Below.refl _ _⟩
  · obtain ⟨h1, h2, -⟩ := ints_held hO
    have h := AnyM.slices_Sort_int Tryz.sortI g 0 cap xs w h1 h2 (by omega)
    change Calls Tryz.prog 35 _ _ _ at h
    refine h.mono fun e w' ⟨he, n, os, hw⟩ => ?_
    subst hw
    have hy : (xs.mergeSort fun x y => decide (x ≤ y)).length = xs.length := List.length_mergeSort _
    obtain ⟨r1, r2, r3⟩ := ints_laid (q := n) (os := os) hO hy (Nat.le_refl _)
    rw [List.take_of_length_le (by rw [hy]; exact Nat.le_refl _)] at r1
    exact ⟨he, r1, r2, r3⟩

theorem compact_len {α : Type} [Inhabited α] [DecidableEq α] (d : Array α) (m : Nat) : (Lib.compactUpTo d m).length ≤ m := by
  unfold Lib.compactUpTo
  rw [List.length_map]
  exact Nat.le_trans (List.length_filter_le _ _) (by simp)

theorem compI_any (B : Nat) (sv : Value) (xs : List Int) (w : World) (hO : ROwn RIn 3 B w sv xs) (hl : xs.length ≤ 1000000000) :
    Calls Tryz.prog 36 #[sv] w (CutOut RIn 3 B sv (Lib.compact xs) w) := by
  rcases own_cases hO with ⟨rfl, rfl⟩ | ⟨g, cap, rfl⟩
  · have h := AnyG.slices_Compact_int_empty Tryz.compI none 0 w
    change Calls Tryz.prog 36 _ _ _ at h
    refine h.mono fun e w' ⟨he, hw⟩ => ?_
    subst hw
    exact ⟨none, 0, 0, he, Lib.hid hO, Lib.hid (PF.refl _ _), Lib.hid (Below.refl _ _)⟩
  · obtain ⟨h1, h2, h3⟩ := ints_held hO
    have h := AnyG.slices_Compact_int Tryz.compI g 0 cap xs w h1 (by omega) h3
    change Calls Tryz.prog 36 _ _ _ at h
    refine h.mono fun e w' ⟨he, q, hw⟩ => ?_
    have hc : (Lib.compact xs).length ≤ xs.length := compact_len _ _
    have hy : (Lib.compact xs ++ List.replicate (xs.length - (Lib.compact xs).length) 0).length = xs.length := by simp; omega
    obtain ⟨r1, r2, r3⟩ := ints_laid (q := q) (os := #[]) hO hy hc
    rw [grow_nil, ← hw] at r1 r2 r3
    rw [List.take_append_of_le_length (Nat.le_refl _), List.take_of_length_le (Nat.le_refl _)] at r1
    exact ⟨_, _, _, he, Lib.hid r1, Lib.hid r2, Lib.hid r3⟩

/-- What is left of an ordered row without neighbours that are equal: a strict order of the same members. -/
theorem compact_facts {α : Type} [Inhabited α] [DecidableEq α] (r : α → α → Prop) (ht : ∀ a b c, r a b → r b c → r a c) (ha : ∀ a b, r a b → r b a → a = b) (d : Array α) (hs : ∀ i j, i ≤ j → j < d.size → r d[i]! d[j]!) :
    ∀ m, m ≤ d.size → (Lib.compactUpTo d m).Pairwise (fun a b => r a b ∧ a ≠ b) ∧ ∀ x, x ∈ Lib.compactUpTo d m ↔ ∃ j, j < m ∧ d[j]! = x
  | 0, _ => by simp [Lib.compactUpTo]
  | m + 1, hm => by
    obtain ⟨h1, h2⟩ := compact_facts r ht ha d hs m (by omega)
    rw [Lib.compactUpTo_succ]
    by_cases hk : Lib.keeps d m = true
    · rw [if_pos hk]
      refine ⟨List.pairwise_append.2 ⟨h1, by simp, fun a ha1 b hb => ?_⟩, fun x => ?_⟩
      · rw [List.mem_singleton] at hb
        subst hb
        obtain ⟨j, hj, rfl⟩ := (h2 a).1 ha1
        refine ⟨hs j m (by omega) (by omega), fun e => ?_⟩
        unfold Lib.keeps at hk
        rcases of_decide_eq_true hk with h0 | h0
        · omega
        · have q1 := hs j (m - 1) (by omega) (by omega)
          have q2 := hs (m - 1) m (by omega) (by omega)
          rw [← e] at q2
          exact h0 (e ▸ ha _ _ q1 q2)
      · rw [List.mem_append, h2, List.mem_singleton]
        constructor
        · rintro (⟨j, hj, e⟩ | e)
          · exact ⟨j, by omega, e⟩
          · exact ⟨m, by omega, e.symm⟩
        · rintro ⟨j, hj, e⟩
          by_cases h : j = m
          · subst h; exact .inr e.symm
          · exact .inl ⟨j, by omega, e⟩
    · rw [if_neg hk, List.append_nil]
      refine ⟨h1, fun x => (h2 x).trans ⟨fun ⟨j, hj, e⟩ => ⟨j, by omega, e⟩, fun ⟨j, hj, e⟩ => ?_⟩⟩
      by_cases h : j = m
      · subst h
        have h3 : ¬ (j = 0 ∨ d[j]! ≠ d[j - 1]!) := fun h => hk (decide_eq_true h)
        have h4 : d[j]! = d[j - 1]! := Classical.byContradiction fun h => h3 (.inr h)
        exact ⟨j - 1, by omega, h4 ▸ e⟩
      · exact ⟨j, by omega, e⟩

theorem compact_pair {α : Type} [Inhabited α] [DecidableEq α] (r : α → α → Prop) (ht : ∀ a b c, r a b → r b c → r a c) (ha : ∀ a b, r a b → r b a → a = b) (hr : ∀ a, r a a) (l : List α) (hs : l.Pairwise r) :
    (Lib.compact l).Pairwise (fun a b => r a b ∧ a ≠ b) ∧ ∀ x, x ∈ Lib.compact l ↔ x ∈ l := by
  have h := compact_facts r ht ha l.toArray (fun i j hij hj => by
    have hj' : j < l.length := by simpa using hj
    rw [getElem!_pos l.toArray i (by simpa using Nat.lt_of_le_of_lt hij hj'), getElem!_pos l.toArray j hj]
    by_cases e : i = j
    · subst e; exact hr _
    · exact List.pairwise_iff_getElem.1 hs i j (by omega) hj' (by omega)) l.length (by simp)
  refine ⟨h.1, fun x => (h.2 x).trans ⟨?_, fun hx => ?_⟩⟩
  · rintro ⟨j, hj, rfl⟩
    rw [getElem!_pos l.toArray j (by simpa using hj)]
    exact List.getElem_mem hj
  · obtain ⟨j, hj, rfl⟩ := List.getElem_of_mem hx
    exact ⟨j, hj, by rw [getElem!_pos l.toArray j (by simpa using hj)]; rfl⟩

/-- The classes of the normal form by a sort and a compaction. -/
theorem classes_one (xs : List Int) : Lib.compact (xs.mergeSort fun x y => decide (x ≤ y)) = ascI xs := by
  have hs : (xs.mergeSort fun x y => decide (x ≤ y)).Pairwise (fun a b => a ≤ b) := by
    have := List.pairwise_mergeSort (le := fun x y : Int => decide (x ≤ y)) (fun a b c h1 h2 => by simp at *; omega) (fun a b => by simp; omega) xs
    exact this.imp fun h => by simpa using h
  obtain ⟨h1, h2⟩ := compact_pair (fun a b : Int => a ≤ b) (fun a b c h1 h2 => by omega) (fun a b h1 h2 => by omega) (fun a => Int.le_refl a) _ hs
  refine ascI_one (h1.imp fun {a b} h => ?_) fun x => (h2 x).trans (List.mem_mergeSort)
  have := h.1
  have := h.2
  omega

end Go.Proofs.YtelhpndlejommaaGreat

/- Sorts of values and of things: the shelf's contracts. -/
namespace Go.Proofs.YtelhpndlejommaaGreat
open Go.RowKit Go.Shelf Go.Sort

theorem swo_of {α β : Type} {c : β → β → Int} (h : IsOrd c) (f : α → β) : SWO (ltOf fun a b => c (f a) (f b)) where
  irrefl x := by show decide (c (f x) (f x) < 0) = false; rw [h.self]; rfl
  trans x y z h1 h2 := by
    change decide (c (f x) (f y) < 0) = true at h1
    change decide (c (f y) (f z) < 0) = true at h2
    show decide (c (f x) (f z) < 0) = true
    have h1 := of_decide_eq_true h1
    have h2 := of_decide_eq_true h2
    refine decide_eq_true ?_
    have h3 := h.trans _ _ _ (by omega : c (f x) (f y) ≤ 0) (by omega : c (f y) (f z) ≤ 0)
    by_cases e : c (f x) (f z) = 0
    · have e2 := h.zero _ _ e
      have e3 := h.anti (f x) (f y)
      rw [e2] at e3 h1
      omega
    · omega
  ntrans x y z h1 h2 := by
    change decide (c (f x) (f y) < 0) = false at h1
    change decide (c (f y) (f z) < 0) = false at h2
    show decide (c (f x) (f z) < 0) = false
    have h1 := of_decide_eq_false h1
    have h2 := of_decide_eq_false h2
    refine decide_eq_false ?_
    have a1 := h.anti (f x) (f y)
    have a2 := h.anti (f y) (f z)
    have a3 := h.anti (f x) (f z)
    have h3 := h.trans (f z) (f y) (f x) (by omega) (by omega)
    omega

theorem sorted_pair {α β : Type} [Inhabited α] {c : β → β → Int} (h : IsOrd c) (f : α → β) {d' : Array α} {n : Nat} (hn : d'.size = n) (hs : SortedIn (ltOf fun a b => c (f a) (f b)) 0 n d') : d'.toList.Pairwise fun a b => c (f a) (f b) ≤ 0 := by
  rw [List.pairwise_iff_getElem]
  intro i j hi hj hij
  have hi' : i < d'.size := by simpa using hi
  have hj' : j < d'.size := by simpa using hj
  have h1 : decide (c (f d'[j]!) (f d'[i]!) < 0) = false := hs i j (Nat.zero_le _) hij (by omega)
  have h1 := of_decide_eq_false h1
  rw [getElem!_pos d' i hi', getElem!_pos d' j hj'] at h1
  have h2 := h.anti (f d'[i]) (f d'[j])
  simp only [Array.getElem_toList]
  omega

theorem perm_of {α : Type} [Inhabited α] {xs : List α} {d' : Array α} (hp : PermIn 0 xs.toArray.size xs.toArray d') : d'.size = xs.length ∧ d'.toList.Perm xs := by
  have hs : xs.toArray.size = xs.length := by simp
  have h0 := hp.1
  have h1 := hp.2.2
  have e1 : d'.extract 0 xs.toArray.size = d' := by rw [← h0]; exact Array.extract_size ..
  have e2 : xs.toArray.extract 0 xs.toArray.size = xs.toArray := Array.extract_size ..
  rw [e1, e2] at h1
  exact ⟨h0.trans hs, by simpa using h1⟩

theorem sortV_any (B : Nat) (sv : Value) (xs : List Va) (w : World) (hO : ROwn RVa 46 B w sv xs) (hl : xs.length ≤ 1000000000) :
    Calls Tryz.prog 37 #[sv, .func (.func 38) #[] #[]] w fun e w' => ∃ ys, RowOut RVa 46 B sv ys w e w' ∧ ys.Perm xs ∧ ys.Pairwise fun a b => vcmp a b ≤ 0 := by
  rcases own_cases hO with ⟨rfl, rfl⟩ | ⟨g, cap, rfl⟩
  · have h := AnyF.slices_SortFunc_none Tryz.sortV none 0 (.func (.func 38) #[] #[]) w
    change Calls Tryz.prog 37 _ _ _ at h
    refine h.mono fun e w' ⟨he, hw⟩ => ?_
    subst hw
    exact ⟨[], ⟨he, hO, PF.refl _ _, Below.refl _ _⟩, List.Perm.refl _, List.Pairwise.nil⟩
  · obtain ⟨h1, h2, h3⟩ := row_sorted RVa hO
    have eg : ∀ args w, (callFunc 38 args).run Tryz.prog w = .ok (.enter 38 args) w := enters_of Tryz.func38 (by kernel_rfl) rfl
    have hcmp : CmpLays Tryz.prog 38 #[] RVa.cells 3 (fun a b => vcmp (id a) (id b)) g 0 xs.toArray.size w := fun m os dk _ x y => (W.cmpv_any x y _).mono fun e w' h => ⟨h.1, h.2.grows⟩
    have hcon := AnyQ.slices_SortFunc Tryz.sortV 3 Tryz.isAgg46 Tryz.sizeOf46 RVa.cells (fun _ => rfl) RVa.one (fun a b => vcmp (id a) (id b)) (swo_of vcmp_ord id) 38 #[] g 0 cap xs.toArray w eg hcmp h1 h2 (by simp; omega)
    change Calls Tryz.prog 37 _ _ _ at hcon
    have hs : xs.toArray.size = xs.length := by simp
    rw [hs] at hcon
    refine hcon.mono fun e w' ⟨he, d', q, os, hp, hsd, hw⟩ => ?_
    subst hw
    obtain ⟨p1, p2⟩ := perm_of (by rw [hs]; exact hp)
    obtain ⟨r1, r2, r3⟩ := h3 d' q os p1
    exact ⟨d'.toList, ⟨he, r1, r2, r3⟩, p2, sorted_pair vcmp_ord id p1 hsd⟩

/-- A thing with its place in memory, apart from a block. -/
structure TT (g : Nat) (w : World) where
  r : Tr
  t : Th
  h : TS (fun k => k ≠ g ∧ k < w.heap.size) w t (.slice r.a1 r.n1 r.c1) (.slice r.a2 r.n2 r.c2) (.slice r.a3 r.n3 r.c3)
  ok : CmpOk t

def RTT (g : Nat) (w : World) : RowOf (TT g w) where
  cells x := RTh.cells x.r
  k := 3
  len _ := rfl
  one x v h := RTh.one x.r v h
  pos := by decide

theorem tt_list (g : Nat) (w : World) : ∀ (rs : List Tr) (ps : List Th), rs.length = ps.length → (∀ (j : Nat) (r : Tr) (t : Th), rs[j]? = some r → ps[j]? = some t → TS (fun k => k ≠ g ∧ k < w.heap.size) w t (.slice r.a1 r.n1 r.c1) (.slice r.a2 r.n2 r.c2) (.slice r.a3 r.n3 r.c3) ∧ CmpOk t) →
    ∃ xs : List (TT g w), xs.map (fun x => x.r) = rs ∧ xs.map (fun x => x.t) = ps
  | [], [], _, _ => ⟨[], rfl, rfl⟩
  | [], _ :: _, h, _ => by simp at h
  | _ :: _, [], h, _ => by simp at h
  | r :: rs, p :: ps, h, hT => by
    obtain ⟨xs, h1, h2⟩ := tt_list g w rs ps (by simpa using h) fun j r t hr ht => hT (j + 1) r t (by simpa using hr) (by simpa using ht)
    exact ⟨⟨r, p, (hT 0 r p rfl rfl).1, (hT 0 r p rfl rfl).2⟩ :: xs, by rw [List.map_cons, h1], by rw [List.map_cons, h2]⟩

theorem tt_flat {g : Nat} {w : World} (xs : List (TT g w)) : xs.flatMap (RTT g w).cells = (xs.map fun x => x.r).flatMap RTh.cells := by
  induction xs with
  | nil => rfl
  | cons x xs ih => rw [List.flatMap_cons, ih]; rfl

theorem tt_own {g : Nat} {w W : World} {E : TypeId} {B : Nat} {sv : Value} {xs : List (TT g w)} : ROwn (RTT g w) E B W sv xs ↔ ROwn RTh E B W sv (xs.map fun x => x.r) := by
  unfold ROwn
  rw [tt_flat, List.length_map]
  exact Iff.rfl

theorem sortT_any (B : Nat) (sv : Value) (S : Nat → Prop) (rs : List Tr) (ps : List Th) (w : World) (hO : ROwn RTh 27 B w sv rs) (hL : Lie S w rs ps) (hS : ∀ k, S k → sv.ownBlock ≠ some k) (hok : ∀ p ∈ ps, CmpOk p) (hl : ps.length ≤ 1000000000) :
    Calls Tryz.prog 40 #[sv, .func (.func 30) #[] #[]] w fun e w' => ∃ rs', RowOut RTh 27 B sv rs' w e w' ∧ Lie S w rs' (partsL ps) := by
  have hrl := hL.1
  rcases own_cases hO with ⟨rfl, rfl⟩ | ⟨g, cap, rfl⟩
  · have h := AnyF.slices_SortFunc_none Tryz.sortT none 0 (.func (.func 30) #[] #[]) w
    change Calls Tryz.prog 40 _ _ _ at h
    refine h.mono fun e w' ⟨he, hw⟩ => ?_
    subst hw
    have hp : ps = [] := List.eq_nil_of_length_eq_zero (by simpa using hrl.symm)
    subst hp
    exact ⟨[], ⟨he, hO, PF.refl _ _, Below.refl _ _⟩, hL⟩
  · by_cases h0 : rs = []
    · subst h0
      have h := AnyF.slices_SortFunc_none Tryz.sortT (some ⟨g, 0, none⟩) cap (.func (.func 30) #[] #[]) w
      change Calls Tryz.prog 40 _ _ _ at h
      refine h.mono fun e w' ⟨he, hw⟩ => ?_
      subst hw
      have hp : ps = [] := List.eq_nil_of_length_eq_zero (by simpa using hrl.symm)
      subst hp
      exact ⟨[], ⟨he, hO, PF.refl _ _, Below.refl _ _⟩, hL⟩
    · have hSg : ∀ k, S k → k ≠ g := fun k hk e => hS k hk (by rw [e]; rfl)
      obtain ⟨xs, hx1, hx2⟩ := tt_list g w rs ps hrl fun j r t hr ht => ⟨by
        have := hL.2 j r t hr ht
        have h2 := TS.keep (S' := fun k => k ≠ g) ⟨Nat.le_refl _, fun _ _ _ => rfl⟩ (fun k _ hk => hSg k hk.1) t this
        exact h2, hok t (List.mem_of_getElem? ht)⟩
      have hxl : xs.length = rs.length := by rw [← hx1, List.length_map]
      have hne : xs ≠ [] := fun e => h0 (by rw [← hx1, e]; rfl)
      haveI : Inhabited (TT g w) := ⟨xs.head hne⟩
      have hO2 : ROwn (RTT g w) 27 B w (.slice (some ⟨g, 0, none⟩) xs.length cap) xs := by rw [tt_own, hx1, hxl]; exact hO
      obtain ⟨h1, h2, h3⟩ := row_sorted (RTT g w) hO2
      have eg : ∀ args w, (callFunc 30 args).run Tryz.prog w = .ok (.enter 30 args) w := enters_of Tryz.func30 (by kernel_rfl) rfl
      have hcmp : CmpLays Tryz.prog 30 #[] (RTT g w).cells 3 (fun a b => Th.cmp a.t b.t) g 0 xs.toArray.size w := fun m os dk hdk x y => by
        obtain ⟨-, k2, -⟩ := h3 dk m os (by simpa using hdk)
        have kk : KeepS (fun k => k ≠ g ∧ k < w.heap.size) w (sortWorldK (RTT g w).cells (RTT g w).k w g 0 m dk os) := ⟨k2.1.1, fun b hb hl => k2.1.2 b (fun e => hb.1 (by injection e with e; exact e.symm)) hl⟩
        have t1 := TS.tat (fun b hb => hb.2) _ (TS.keep kk (S' := fun _ => True) (fun _ _ _ => trivial) _ x.h)
        have t2 := TS.tat (fun b hb => hb.2) _ (TS.keep kk (S' := fun _ => True) (fun _ _ _ => trivial) _ y.h)
        exact (W.tcmp_all _ x.t (Nat.le_refl _) x.ok y.t y.ok _ _ _ _ _ _ _ t1 t2).mono fun e w' h => ⟨h.1, h.2.grows⟩
      have hcon := AnyQ.slices_SortFunc Tryz.sortT 3 Tryz.isAgg27 Tryz.sizeOf27 (RTT g w).cells (fun _ => rfl) (RTT g w).one (fun a b => Th.cmp a.t b.t) (swo_of Th.ord fun a : TT g w => a.t) 30 #[] g 0 cap xs.toArray w eg hcmp h1 h2 (by simp; omega)
      change Calls Tryz.prog 40 _ _ _ at hcon
      have hs : xs.toArray.size = xs.length := by simp
      rw [hs, hxl] at hcon
      refine hcon.mono fun e w' ⟨he, d', q, os, hp, hsd, hw⟩ => ?_
      subst hw
      obtain ⟨p1, p2⟩ := perm_of (by rw [hs, hxl]; exact hp)
      obtain ⟨r1, r2, r3⟩ := h3 d' q os p1
      have hpd := sorted_pair Th.ord (fun a : TT g w => a.t) p1 (by rw [hxl]; exact hsd)
      have hpr : d'.toList.map (fun x => x.t) = partsL ps := partsL_one (List.pairwise_map.2 hpd) (by rw [← hx2]; exact p2.map _)
      rw [hxl] at r1 r2
      refine ⟨d'.toList.map (fun x : TT g w => x.r), ⟨he, (show ROwn RTh 27 B (sortWorldK (RTT g w).cells (RTT g w).k w g 0 q d' os) (.slice (some ⟨g, 0, none⟩) rs.length cap) (d'.toList.map fun x : TT g w => x.r) from tt_own.1 r1), r2, r3⟩, by rw [List.length_map, ← hpr, List.length_map], fun j r t hr ht => ?_⟩
      rw [← hpr, List.getElem?_map] at ht
      rw [List.getElem?_map] at hr
      obtain ⟨x, hx, rfl⟩ := Option.map_eq_some_iff.1 hr
      rw [hx] at ht
      cases ht
      -- the thing at that place is one of the old ones
      have hmem := p2.mem_iff.1 (List.mem_of_getElem? hx)
      obtain ⟨i, hi⟩ := List.getElem?_of_mem hmem
      exact hL.2 i x.r x.t (by rw [← hx1, List.getElem?_map, hi]; rfl) (by rw [← hx2, List.getElem?_map, hi]; rfl)

end Go.Proofs.YtelhpndlejommaaGreat

