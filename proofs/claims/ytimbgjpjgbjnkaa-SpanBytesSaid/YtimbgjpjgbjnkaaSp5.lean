/- The sort of span's ends. -/
import Derived.Test.YtimbgjpjgbjnkaaBlwBlw2
import Derived.Test.YtimbgjpjgbjnkaaSort
namespace Go.Proofs.Ytimbgjpjgbjnkaa
open Go.RowKit Go.Shelf Go.Sort

/-- An end of an interval: its cut, its list, its change. -/
structure En where
  c : Cut
  i : Int
  h : Int
  ok : c.Ok

instance : Inhabited En := ⟨⟨lowC, 0, 0, key_low⟩⟩

/-- Ends in a row. -/
def REn : RowOf En where
  cells e := [.int .i64 e.c.n, .int .i64 e.c.d, .bool e.c.a, .int .i64 e.i, .int .i64 e.h]
  k := 5
  len _ := rfl
  one x v h := by simp at h; rcases h with rfl | rfl | rfl | rfl | rfl <;> rfl
  pos := by decide

noncomputable def cfE (x y : En) : Int := cmpC x.c y.c

theorem ltE (x y : En) : ltOf cfE x y = decide (x.c.key < y.c.key) := by
  unfold ltOf cfE cmpC
  by_cases h : x.c.key < y.c.key
  · rw [if_pos h, decide_eq_true h]; rfl
  · rw [if_neg h, decide_eq_false h]
    split <;> rfl

theorem swoE : SWO (ltOf cfE) where
  irrefl x := by rw [ltE]; simp
  trans x y z h1 h2 := by rw [ltE] at *; simp at *; omega
  ntrans x y z h1 h2 := by rw [ltE] at *; simp at *; omega

set_option maxHeartbeats 2000000 in
set_option maxRecDepth 100000 in
theorem ends1_any (x y : En) (w : World) :
    Calls Try.prog 104 #[.agg #[.int .i64 x.c.n, .int .i64 x.c.d, .bool x.c.a, .int .i64 x.i, .int .i64 x.h], .agg #[.int .i64 y.c.n, .int .i64 y.c.d, .bool y.c.a, .int .i64 y.i, .int .i64 y.h]] w fun e w' => e = .returned (.int .i64 (cfE x y)) ∧ Blw w.heap.size w w' := by
  have k1 := Lib.hid fun w => scmp_d x.c y.c w x.ok y.ok
  unfold cfE
  generalize cmpC x.c y.c = V at *
  obtain ⟨⟨n, d, a⟩, i, h, o⟩ := x
  obtain ⟨⟨n', d', a'⟩, i', h', o'⟩ := y
  unfold Cut.v at *
  simp only at *
  have HB0 := Lib.hid (((Blw.refl w.heap.size w).alloc (Nat.le_refl _) (.cells #[.int .i64 n, .int .i64 d, .bool a, .int .i64 i, .int .i64 h] 115)).alloc (by simp) (.cells #[.int .i64 n', .int .i64 d', .bool a', .int .i64 i', .int .i64 h'] 115))
  clear o o'
  go_enter Try.func104, Try.ntmps104
  go_wp2_with fail
  refine (k1.out _).mono ?_
  rintro e w1 ⟨rfl, hB⟩
  have H1 := Lib.hid (HB0.out.trans (hB.mono HB0.out.size))
  clear hB
  go_wp2
  go_ret
  exact ⟨rfl, H1.out⟩

theorem flat_list (xs : List En) : (flatK REn.cells 5 xs.toArray).toList = xs.flatMap REn.cells := by
  apply List.ext_getElem?
  intro t
  have hl := REn.flat xs
  have hk : REn.k = 5 := rfl
  rw [hk] at hl
  by_cases ht : t < xs.length * 5
  · have hq : t / 5 < xs.length := by omega
    have hx : xs[t / 5]? = some xs[t / 5] := List.getElem?_eq_getElem hq
    have hat := REn.at xs (t / 5) _ hx (t % 5) (Nat.mod_lt _ (by decide))
    rw [hk, show t / 5 * 5 + t % 5 = t by omega] at hat
    rw [hat]
    have h1 : t < (flatK REn.cells 5 xs.toArray).size := by rw [size_flatK]; simpa using ht
    rw [Array.getElem?_toList, Array.getElem?_eq_getElem h1]
    have h2 := get_flatK REn.cells 5 xs.toArray t (by simpa using ht)
    rw [getElem!_pos (flatK REn.cells 5 xs.toArray) t h1] at h2
    rw [h2]
    have h3 : xs.toArray[t / 5]! = xs[t / 5] := by
      rw [getElem!_pos xs.toArray (t / 5) (by simpa using hq)]
      simp
    rw [h3]
    have h4 : t % 5 < (REn.cells xs[t / 5]).length := by rw [REn.len]; exact Nat.mod_lt _ (by decide)
    rw [getElem!_pos (REn.cells xs[t / 5]) (t % 5) h4, List.getElem?_eq_getElem h4]
  · rw [List.getElem?_eq_none (by rw [Array.length_toList, size_flatK]; simp; omega), List.getElem?_eq_none (by rw [hl]; omega)]

theorem heap_sortedK {w : World} {g n : Nat} {os : Array Obj} {cur : Array Value} {e : TypeId} {fr : Nat × Nat} (d : Array Value) (hb : w.heap[g]? = some (.cells cur e fr)) :
    (grow (putRow id (Sort.ahead w n) g 0 d) os).heap[g]? = some (.cells (putCells id 0 d cur) e fr) := by
  have hg : g < w.heap.size := (Array.getElem?_eq_some_iff.1 hb).1
  rw [heap_grow_old _ _ (by simpa using hg)]
  simp [putRow, mapBlock, Sort.ahead, Array.getElem?_modify, hb, onCells]

theorem grownBy_sortedK {w : World} {g n : Nat} {os : Array Obj} (d : Array Value) : w.grownBy (grow (putRow id (Sort.ahead w n) g 0 d) os) (some g) := by
  refine ⟨rfl, rfl, rfl, by simp, fun k hk hne => ?_⟩
  rw [heap_grow_old _ _ (by simpa using hk)]
  have : g ≠ k := fun e => hne (by rw [e])
  simp [putRow, mapBlock, Sort.ahead, Array.getElem?_modify, this]

theorem take_putCellsK (cur : Array Value) (vs : List Value) (h : vs.length ≤ cur.size) : (putCells id 0 vs.toArray cur).toList.take vs.length = vs := by
  apply List.ext_getElem?
  intro j
  by_cases hj : j < vs.length
  · rw [List.getElem?_take_of_lt hj, Array.getElem?_toList]
    simp [putCells, hj, show j < cur.size by omega]
  · rw [List.getElem?_take_eq_none (by omega), List.getElem?_eq_none (by omega)]

/-- In order. -/
def SortedE (ys : List En) : Prop := ∀ (i j : Nat) (x y : En), i ≤ j → ys[i]? = some x → ys[j]? = some y → x.c.key ≤ y.c.key

set_option maxHeartbeats 2000000 in
theorem sort_any (B g n cap : Nat) (xs : List En) (w : World) (hO : ROwn REn 115 B w (.slice (some ⟨g, 0, none⟩) n cap) xs) (hl : xs.length ≤ 1000000000) :
    Calls Try.prog 103 #[.slice (some ⟨g, 0, none⟩) n cap, .func (.func 104) #[] #[]] w fun e w' =>
      e = .returned (.tuple #[]) ∧ ∃ ys, ys.Perm xs ∧ SortedE ys ∧ ROwn REn 115 B w' (.slice (some ⟨g, 0, none⟩) n cap) ys ∧ Below B w w' := by
  have hn : n = xs.length := hO.els.len
  subst hn
  obtain ⟨hf, ⟨hv, _⟩ | ⟨g', cap', cur, hv, hg, hh, hcap, hmax, hsz, htk⟩⟩ := hO
  · cases hv
  cases hv
  have hk5 : REn.k = 5 := rfl
  rw [hk5] at hf hsz htk
  have eg : ∀ args w, (callFunc 104 args).run Try.prog w = .ok (.enter 104 args) w := enters_of Try.func104 (by kernel_rfl) rfl
  have hcmp : CmpLays Try.prog 104 #[] REn.cells 5 cfE g 0 xs.toArray.size w := fun m os dk _ x y => (ends1_any x y _).mono fun e w' h => ⟨h.1, h.2.grows⟩
  have hH : HoldsK REn.cells 5 w g 0 xs.toArray := by
    intro j hj
    rw [size_flatK] at hj
    have hj' : j < xs.length * 5 := by simpa using hj
    refine ⟨?_, by simp [World.frozen?, hh]⟩
    have h1 : (cur.toList.take (xs.length * 5))[j]? = (xs.flatMap REn.cells)[j]? := by rw [htk]
    rw [List.getElem?_take_of_lt hj', ← flat_list, Array.getElem?_toList, Array.getElem?_toList] at h1
    simp only [World.cell?, hh, Nat.zero_add]
    simp only [Option.isSome_none, Bool.false_eq_true, if_false]
    rw [h1]
    have h2 : j < (flatK REn.cells 5 xs.toArray).size := by rw [size_flatK]; exact hj
    rw [Array.getElem?_eq_getElem h2, getElem!_pos (flatK REn.cells 5 xs.toArray) j h2]
    rfl
  have hcon := AnyQ.slices_SortFunc Try.sortL 5 Try.isAgg115 Try.sizeOf115 REn.cells (fun _ => rfl) REn.one cfE swoE 104 #[] g 0 cap xs.toArray w eg hcmp hH (Array.getElem?_eq_some_iff.1 hh).1 (by simp; omega)
  change Calls Try.prog 103 _ _ _ at hcon
  have hs : xs.toArray.size = xs.length := by simp
  rw [hs] at hcon
  refine hcon.mono fun e w' ⟨he, d', q, os, hp, hsd, hw⟩ => ⟨he, d'.toList, ?_, ?_, ?_, ?_⟩
  · have h1 := hp.2.2
    have e1 : d'.extract 0 xs.length = d' := by
      have := hp.1
      rw [← hs, ← this]
      exact Array.extract_size ..
    have e2 : xs.toArray.extract 0 xs.length = xs.toArray := by rw [← hs]; exact Array.extract_size ..
    rw [e1, e2] at h1
    simpa using h1
  · have hat : ∀ (j : Nat) (y : En), d'.toList[j]? = some y → d'[j]! = y ∧ j < xs.length := by
      intro j y hy
      rw [Array.getElem?_toList] at hy
      obtain ⟨h, e⟩ := Array.getElem?_eq_some_iff.1 hy
      refine ⟨by rw [getElem!_pos d' j h]; exact e, ?_⟩
      rw [← hs, ← hp.1]
      exact h
    intro i j x y hij hx hy
    by_cases e : i = j
    · subst e
      rw [hx] at hy
      cases hy
      exact Int.le_refl _
    · obtain ⟨e1, _⟩ := hat i x hx
      obtain ⟨e2, hj⟩ := hat j y hy
      have := hsd i j (Nat.zero_le _) (by omega) hj
      rw [e1, e2, ltE] at this
      simp at this
      exact this
  · subst hw
    have hdl : d'.toList.length = xs.length := by rw [Array.length_toList, hp.1, hs]
    have hfl : (flatK REn.cells 5 d').toList = d'.toList.flatMap REn.cells := by have := flat_list d'.toList; rwa [Array.toArray_toList] at this
    unfold ROwn
    rw [hdl]
    refine ⟨by rw [REn.flat, hdl], .inr ⟨g, cap, _, rfl, hg, heap_sortedK _ hh, hcap, hmax, by simp [putCells, hsz, hk5], ?_⟩⟩
    have hlen : (d'.toList.flatMap REn.cells).length = xs.length * 5 := by rw [REn.flat, hdl, hk5]
    have e : flatK REn.cells 5 d' = (d'.toList.flatMap REn.cells).toArray := by rw [← hfl]
    rw [e, hk5, ← hlen]
    exact take_putCellsK cur _ (by rw [hlen, hsz]; exact Nat.mul_le_mul_right _ hcap)
  · subst hw
    exact (Below.refl B w).grown (grownBy_sortedK _) (by have := (Array.getElem?_eq_some_iff.1 hh).1; omega) (fun k hk => by cases hk; exact hg)

end Go.Proofs.Ytimbgjpjgbjnkaa
