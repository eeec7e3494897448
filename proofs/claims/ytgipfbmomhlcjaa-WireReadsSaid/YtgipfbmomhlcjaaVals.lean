/- Vals of the reference model: the values that it makes, and slices of values of a call's own. -/
import Derived.Test.YtgipfbmomhlcjaaSame
import Derived.Maps.AppendAt
import Derived.Deep.RegionLaw
import Derived.Deep.AppendLies
namespace Go.Proofs.Ytgipfbmomhlcjaa
open Go.RowKit Go.Shelf

theorem Try.infoVal : (Try.prog.info? 28).map (fun i => (i.zero, i.size, i.bytes)) = some (some (.agg #[.int .i64 0, .int .u64 0, .int .i64 0, .slice none 0 0, .slice none 0 0]), 5, 72) := by kernel_rfl

/-- A value with its slices. -/
abbrev VT := V × Value × Value

/-- Its cells. -/
def vcells (t : VT) : List Value := [.int .i64 t.1.kind, .int .u64 t.1.u, .int .i64 t.1.n, t.2.1, t.2.2]

/-- A slice of values of the call's own, their slices readable and elsewhere. -/
def VOwn (B : Nat) (w : World) (v : Value) (ts : List VT) : Prop :=
  w.ownsRow B 28 5 v ts.length (ts.flatMap vcells) ∧
  ∀ t ∈ ts, Els .u8 w t.2.1 t.1.b ∧ Els .i64 w t.2.2 t.1.l ∧ ∀ g, v.ownBlock = some g → Off g t.2.1 ∧ Off g t.2.2

theorem vcells_length (ts : List VT) : (ts.flatMap vcells).length = ts.length * 5 := by
  induction ts with
  | nil => rfl
  | cons t ts ih => rw [List.flatMap_cons, List.length_append, ih, List.length_cons]; simp [vcells]; omega

theorem vcells_at (ts : List VT) : ∀ (j : Nat) (t : VT), ts[j]? = some t → ∀ i, i < 5 → (ts.flatMap vcells)[j * 5 + i]? = (vcells t)[i]? := by
  induction ts with
  | nil => intro j t h; simp at h
  | cons t0 ts ih =>
    intro j t h i hi
    rw [List.flatMap_cons]
    cases j with
    | zero =>
      simp at h
      subst h
      rw [List.getElem?_append_left (by simp [vcells]; omega)]
      simp
    | succ j =>
      simp at h
      have e : (j + 1) * 5 + i = (vcells t0).length + (j * 5 + i) := by simp [vcells]; omega
      rw [e, List.getElem?_append_right (by omega)]
      rw [show (vcells t0).length + (j * 5 + i) - (vcells t0).length = j * 5 + i by omega]
      exact ih j t h i hi

theorem VOwn.nil (B : Nat) (w : World) : VOwn B w (.slice none 0 0) [] := ⟨World.ownsRow_nil _ _ _ _, fun t ht => by cases ht⟩

theorem Off.of {p : Nat} {sv : Value} (h : Off p sv) {w : World} {k : IntKind} {zs : List Int} (hE : Els k w sv zs) {w' : World} (hG : w.grownBy w' (some p)) : Els k w' sv zs := hE.past h hG

theorem VOwn.below {B : Nat} {w w' : World} {v : Value} {ts : List VT} (h : VOwn B w v ts) (hB : Below w.heap.size w w') : VOwn B w' v ts :=
  ⟨owns_below h.1 hB, fun t ht => ⟨(h.2 t ht).1.below hB, (h.2 t ht).2.1.below hB, (h.2 t ht).2.2⟩⟩

theorem els_grown {k : IntKind} {row : Option Nat} {w w' : World} {sv : Value} {zs : List Int} (h : Els k w sv zs) (hG : w.grownBy w' row) (ho : ∀ g, row = some g → Off g sv) : Els k w' sv zs := by
  cases row with
  | none => exact h.below ⟨hG.os, hG.tape, hG.output, hG.size, fun k hk => hG.block k hk (by simp)⟩
  | some g => exact h.past (ho g rfl) hG

theorem els_off_new {k : IntKind} {w : World} {sv : Value} {zs : List Int} (h : Els k w sv zs) (g : Nat) (hg : w.heap.size ≤ g) : Off g sv := by
  rcases h with ⟨he, _⟩ | ⟨b, off, cap, hb, rfl, _, _⟩
  · exact .inl he
  · exact .inr ⟨b, off, _, cap, by omega, rfl⟩

/-- Values appended to a slice of values of the call's own: the law at the operation. -/
theorem push_vals {ops : Array Oper} {rest : List Oper} {o : Oper} {act : Act} {Q : Exit → Act → World → Prop} {w : World} (hgd : o.guard = none) (s x : Operand)
    (ho : o.op = .call { callee := .builtin .append, args := #[s, x], argTypes := #[25, 25] }) (B : Nat) (v : Value) (ts ns : List VT) (cs : Array Value) (T : TypeId)
    (hcs : cs.toList = ns.flatMap vcells) (hs : act.eval s = v) (g0 : Nat) (hg0 : w.heap.size = g0) (hx : act.eval x = .slice (some ⟨g0, 0, none⟩) ns.length ns.length) (hown : VOwn B w v ts) (hB : B ≤ w.heap.size) (hl : ts.length + ns.length ≤ 1000000)
    (hone : ∀ t ∈ ns, t.2.1.oneCell' = true ∧ t.2.2.oneCell' = true) (hne : ∀ t ∈ ns, Els .u8 w t.2.1 t.1.b ∧ Els .i64 w t.2.2 t.1.l ∧ ∀ g, v.ownBlock = some g → Off g t.2.1 ∧ Off g t.2.2)
    (h : ∀ a n c w', Hid (n = (ts ++ ns).length) → Hid (VOwn B w' (.slice a n c) (ts ++ ns)) → Hid (Below B w w') → wpList Try.prog ops Q rest (act.put o.dst (.slice a n c)) w') :
    wpList Try.prog ops Q (o :: rest) act (w.alloc (.cells cs T)) := by
  subst hg0
  obtain ⟨i0, hi, hz0, hz1, hz2⟩ := info_parts Try.infoVal
  have hw := hown.below ((Below.refl _ w).alloc (Nat.le_refl _) (.cells cs T))
  refine wpList_append_own_at _ hgd s x 25 ho B 28 i0 _ 5 72 Try.underlying25 hi hz0 hz1 hz2 rfl (by decide) v ts.length _ hs hw.1 ⟨w.heap.size, 0, none⟩ ns.length ns.length (ns.flatMap vcells) hx (vcells_length ns) ?_ ?_ (by unfold maxLen; omega) (by omega) (by simp; omega) ?_
  · intro j u hu
    rw [← hcs] at hu
    have e : (⟨w.heap.size, 0, none⟩ : Addr).add j = ⟨w.heap.size, j, none⟩ := by by_cases h : j = 0 <;> simp [Addr.add, h]
    rw [e]
    have hb := heap_new w (.cells cs T)
    unfold World.cell?
    simp only [hb]
    rw [Array.getElem?_toList] at hu
    exact hu
  · intro u hu
    obtain ⟨t, ht, hu⟩ := List.mem_flatMap.1 hu
    have := hone t ht
    simp [vcells] at hu
    rcases hu with rfl | rfl | rfl | rfl | rfl
    · rfl
    · rfl
    · rfl
    · exact this.1
    · exact this.2
  · intro v' w1 hO hG _ hat
    have hbl : Below B w w1 := (((Below.refl B w).alloc hB _).grown hG (by simp; omega) fun j hj => (World.ownsRow.lt hw.1 j hj).1)
    have hall : ∀ t ∈ ts ++ ns, Els .u8 w t.2.1 t.1.b ∧ Els .i64 w t.2.2 t.1.l ∧ ∀ g, v.ownBlock = some g → Off g t.2.1 ∧ Off g t.2.2 := by
      intro t ht
      rcases List.mem_append.1 ht with ht | ht
      · exact hown.2 t ht
      · exact hne t ht
    have hV : VOwn B w1 v' (ts ++ ns) := by
      refine ⟨by rw [List.length_append, List.flatMap_append]; exact hO, fun t ht => ?_⟩
      obtain ⟨h1, h2, h3⟩ := hall t ht
      refine ⟨els_grown (els_alloc h1 _) hG fun g hg => (h3 g hg).1, els_grown (els_alloc h2 _) hG fun g hg => (h3 g hg).2, fun g hg => ?_⟩
      rcases hat with he | he
      · exact h3 g (by rw [← he]; exact hg)
      · rw [he] at hg
        simp at hg
        exact ⟨els_off_new h1 g (by omega), els_off_new h2 g (by omega)⟩
    obtain ⟨_, ⟨rfl, hn⟩ | ⟨g, cap, cur, rfl, _⟩⟩ := hO
    · exact h none 0 0 w1 (by show 0 = _; rw [List.length_append]; omega) hV hbl
    · exact h _ _ _ w1 (by show _ = _; rw [List.length_append]) hV hbl

/-- It can be read. -/
theorem VOwn.els {B : Nat} {w : World} {a : Option Addr} {n c : Nat} {ts : List VT} (h : VOwn B w (.slice a n c) ts) : VEls w a n c (ts.map (·.1)) := by
  obtain ⟨hO, hE⟩ := h
  have hO' := hO
  obtain ⟨hx, ⟨hv, hn⟩ | ⟨g, cap, cur, hv, hg, hc, hcap, _, hcs, htk⟩⟩ := hO
  · cases hv
    exact ⟨by rw [List.length_map, hn], Nat.le_refl _, fun j x hj => by rw [List.getElem?_map, List.getElem?_eq_none (by omega)] at hj; cases hj⟩
  · cases hv
    refine ⟨by rw [List.length_map], hcap, fun j x hj => ?_⟩
    rw [List.getElem?_map] at hj
    obtain ⟨t, ht, rfl⟩ := Option.map_eq_some_iff.1 hj
    have hjl := (List.getElem?_eq_some_iff.1 ht).1
    obtain ⟨h1, h2, h3⟩ := hE t (List.mem_of_getElem? ht)
    have hcell : ∀ i, i < 5 → w.cell? ⟨g, j * 5 + i, none⟩ = (vcells t)[i]? := by
      intro i hi
      have e := World.ownsRow.cellAt hO' (j * 5 + i) (by omega)
      rw [e, vcells_at ts j t ht i hi]
    refine ⟨g, 0, t.2.1, t.2.2, rfl, (Array.getElem?_eq_some_iff.1 hc).1, ?_, ?_, ?_, ?_, ?_, h1, h2⟩
    · rw [Nat.zero_add]; exact hcell 0 (by omega)
    · rw [Nat.zero_add]; exact hcell 1 (by omega)
    · rw [Nat.zero_add]; exact hcell 2 (by omega)
    · rw [Nat.zero_add]; exact hcell 3 (by omega)
    · rw [Nat.zero_add]; exact hcell 4 (by omega)

end Go.Proofs.Ytgipfbmomhlcjaa
