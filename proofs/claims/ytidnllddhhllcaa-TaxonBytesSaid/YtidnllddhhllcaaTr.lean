/- Slices of slices whose rows are the call's own and lie apart; the generator of lists of parents that often are none: Spoilt. -/
import Derived.Test.YtidnllddhhllcaaRefc
namespace Go.Proofs.Ytidnllddhhllcaa
open Go.RowKit Go.Shelf

/-- A slice of slices, the call's own, whose rows are its own too and lie apart. -/
def LSep (B : Nat) (w : World) (v : Value) (P : List (List Int)) : Prop :=
  ∃ vs : List Value, w.ownsRow B 22 1 v P.length vs ∧ vs.length = P.length ∧
    (∀ (j : Nat) (l : List Int), P[j]? = some l → ∃ x, vs[j]? = some x ∧ Own .i64 3 B w x l ∧ ∀ b, x.ownBlock = some b → v.ownBlock ≠ some b) ∧
    ∀ (i j : Nat) (x y : Value) (b : Nat), i ≠ j → vs[i]? = some x → vs[j]? = some y → x.ownBlock = some b → y.ownBlock ≠ some b

theorem own_keep {k : IntKind} {E : TypeId} {B : Nat} {w W : World} {sv : Value} {zs : List Int} (h : Own k E B w sv zs) (hk : ∀ b, sv.ownBlock = some b → W.heap[b]? = w.heap[b]?) : Own k E B W sv zs := by
  obtain ⟨hx, hv | ⟨g, cap, cur, hv, hg, hc, hr⟩⟩ := h
  · exact ⟨hx, .inl hv⟩
  · exact ⟨hx, .inr ⟨g, cap, cur, hv, hg, (hk g (by rw [hv]; rfl)).trans hc, hr⟩⟩

theorem Own.einS {E : TypeId} {B : Nat} {w : World} {sv : Value} {zs : List Int} (h : Own .i64 E B w sv zs) : EIn (fun b => sv.ownBlock = some b) w sv zs := by
  obtain ⟨_, ⟨rfl, hz⟩ | ⟨g, cap, cur, rfl, hB, hg, hcap, _, hsz, ht⟩⟩ := h
  · exact .inl ⟨.inl rfl, List.eq_nil_of_length_eq_zero hz⟩
  · refine .inr ⟨g, 0, cap, rfl, (Array.getElem?_eq_some_iff.1 hg).1, rfl, hcap, ?_⟩
    intro j hj
    have e : cur[j]? = some (Value.int .i64 (zs[j]?.getD 0)) := by
      rw [← Array.getElem?_toList, ← List.getElem?_take_of_lt (show j < zs.length * 1 by omega), ht, List.getElem?_map, List.getElem?_eq_getElem hj]
      rfl
    rw [Nat.zero_add]
    unfold World.cell?
    simp only [hg]
    exact e

theorem LSep.nil (B : Nat) (w : World) : LSep B w (.slice none 0 0) [] := ⟨[], World.ownsRow_nil _ _ _ _, rfl, fun j l h => by simp at h, fun i j x y b _ h => by simp at h⟩

theorem LSep.below {B : Nat} {w w' : World} {v : Value} {P : List (List Int)} (h : LSep B w v P) (hB : Below w.heap.size w w') : LSep B w' v P := by
  obtain ⟨vs, h1, h2, h3, h4⟩ := h
  refine ⟨vs, owns_below h1 hB, h2, fun j l hl => ?_, h4⟩
  obtain ⟨x, hx, hE, ha⟩ := h3 j l hl
  exact ⟨x, hx, hE.below hB, ha⟩

theorem LSep.le {B : Nat} {w : World} {v : Value} {P : List (List Int)} (h : LSep B w v P) : LE w v P := by
  obtain ⟨vs, hO, h2, h3, _⟩ := h
  rcases hO.2 with ⟨hv, hn⟩ | ⟨g, cap, cur, hv, hg, hh, hcap, _, hsz, htk⟩
  · exact .inl ⟨.inl hv, List.eq_nil_of_length_eq_zero hn⟩
  · subst hv
    refine .inr ⟨g, cap, trivial, (Array.getElem?_eq_some_iff.1 hh).1, rfl, hcap, fun j l hl => ?_⟩
    obtain ⟨x, hx, hE, _⟩ := h3 j l hl
    have hj := (List.getElem?_eq_some_iff.1 hl).1
    exact ⟨x, (hO.cellAt j (by omega)).trans hx, hE.els.ein⟩

theorem LSep.slice {B : Nat} {w : World} {v : Value} {P : List (List Int)} (h : LSep B w v P) : ∃ a n c, v = .slice a n c ∧ Hid (n = P.length) ∧ Hid (LSep B w (.slice a n c) P) := by
  obtain ⟨a, c, rfl⟩ := LIn.shape h.le
  exact ⟨a, _, c, rfl, rfl, h⟩

/-- A row of it: its value, its cell. -/
theorem LSep.at {B : Nat} {w : World} {a : Option Addr} {n c : Nat} {P : List (List Int)} (h : LSep B w (.slice a n c) P) (i : Nat) (hi : i < n) :
    ∃ g x, a = some ⟨g, 0, none⟩ ∧ g < w.heap.size ∧ n ≤ c ∧ w.cell? ⟨g, i, none⟩ = some x ∧ w.frozen? ⟨g, i, none⟩ = false ∧ Own .i64 3 B w x (Tx.row P i) ∧ (∀ b, x.ownBlock = some b → b ≠ g) ∧ i < P.length ∧ n = P.length := by
  have hn := (LIn.len h.le)
  subst hn
  obtain ⟨vs, hO, h2, h3, _⟩ := h
  have hl : P[i]? = some (Tx.row P i) := by unfold Tx.row; rw [List.getElem?_eq_getElem hi]; rfl
  obtain ⟨x, hx, hE, ha⟩ := h3 i _ hl
  have hO' := hO
  rcases hO'.2 with ⟨hv, hz⟩ | ⟨g, cap, cur, hv, hg, hh, hcap, _⟩
  · omega
  · cases hv
    have hcl := hO.cellAt i (by omega)
    have hfr := hO.frozenAt i
    exact ⟨g, x, rfl, (Array.getElem?_eq_some_iff.1 hh).1, hcap, hcl.trans hx, hfr, hE, fun b hb e => ha b hb (by rw [e]; rfl), hi, rfl⟩

/-- One row is another one. -/
theorem LSep.set {B : Nat} {w w1 : World} {g n c : Nat} {P : List (List Int)} (h : LSep B w (.slice (some ⟨g, 0, none⟩) n c) P) (i : Nat) (hi : i < n) (hs : w.heap.size ≤ w1.heap.size)
    {xi : Value} (hxi : w.cell? ⟨g, i, none⟩ = some xi) (hk : ∀ b, b < w.heap.size → xi.ownBlock ≠ some b → w1.heap[b]? = w.heap[b]?) {x : Value} {l : List Int} (hx : EIn (fun b => b ≠ g) w1 x l) :
    LE (w1.setCell ⟨g, i, none⟩ x) (.slice (some ⟨g, 0, none⟩) n c) (P.set i l) := by
  have hn := LIn.len h.le
  subst hn
  obtain ⟨g', xi', he, hgw, hnc, hxi', hf, hEi, hne, hiP, _⟩ := h.at i hi
  cases he
  rw [hxi] at hxi'
  cases hxi'
  obtain ⟨vs, hO, h2, h3, h4⟩ := h
  have hvi : vs[i]? = some xi := by rw [← hO.cellAt i (show i < P.length * 1 by omega)]; exact hxi
  have hgk : w1.heap[g]? = w.heap[g]? := hk g hgw (fun e => hne g e rfl)
  have hset : ∀ b, b ≠ g → (w1.setCell ⟨g, i, none⟩ x).heap[b]? = w1.heap[b]? := fun b hb => Below.heap_setCell _ _ _ _ hb
  have hsz : (w1.setCell ⟨g, i, none⟩ x).heap.size = w1.heap.size := by simp [World.setCell]
  refine .inr ⟨g, c, trivial, by rw [hsz]; omega, by rw [List.length_set], by rw [List.length_set]; omega, fun j l' hl' => ?_⟩
  by_cases e : j = i
  · subst e
    rw [List.getElem?_set_self hiP] at hl'
    cases hl'
    refine ⟨x, World.cell?_setCell_same _ _ _ ((cell_of_block hgk j).trans hxi), ?_⟩
    exact (hx.keep (by rw [hsz]; exact Nat.le_refl _) fun b hb _ => hset b hb).els.ein
  · rw [List.getElem?_set_ne (Ne.symm e)] at hl'
    have hjl := (List.getElem?_eq_some_iff.1 hl').1
    obtain ⟨y, hy, hE, ha⟩ := h3 j l' hl'
    have hcl := (hO.cellAt j (show j < P.length * 1 by omega)).trans hy
    refine ⟨y, ?_, ?_⟩
    · rw [World.cell?_setCell_other _ _ _ _ (fun q => by injection q; omega)]
      exact (cell_of_block hgk j).trans hcl
    · have hE1 : Own .i64 3 B w1 y l' := own_keep hE fun b hb => hk b (World.ownsRow.lt hE b hb).2 (h4 j i y xi b e hy hvi hb |> fun hh => hh)
      exact (own_keep (W := w1.setCell ⟨g, i, none⟩ x) hE1 fun b hb => hset b (fun q => ha b hb (by rw [q]; rfl))).els.ein

/-- A list appended to such a slice: the law at the operation. -/
theorem push_sep {ops : Array Oper} {rest : List Oper} {o : Oper} {act : Act} {Q : Exit → Act → World → Prop} {w0 w : World} (hgd : o.guard = none) (s x : Operand)
    (ho : o.op = .call { callee := .builtin .append, args := #[s, x], argTypes := #[23, 23] }) (B : Nat) (v : Value) (P : List (List Int)) (l : List Int) (xv : Value) (T : TypeId)
    (hs : act.eval s = v) (g0 : Nat) (hg0 : w.heap.size = g0) (hx : act.eval x = .slice (some ⟨g0, 0, none⟩) 1 1) (hown : LSep B w0 v P) (hB : B ≤ w0.heap.size) (hw : Below w0.heap.size w0 w) (hl : P.length + 1 ≤ 1000000)
    (he : Own .i64 3 w0.heap.size w xv l)
    (h : ∀ a n c w', Hid (n = P.length + 1) → Hid (LSep B w' (.slice a n c) (P ++ [l])) → Hid (Below B w w') → wpList Try.prog ops Q rest (act.put o.dst (.slice a n c)) w') :
    wpList Try.prog ops Q (o :: rest) act (w.alloc (.cells #[xv] T)) := by
  subst hg0
  obtain ⟨i0, hi, hz0, hz1, hz2⟩ := info_parts Try.infoSl
  have hBw : B ≤ w.heap.size := Nat.le_trans hB hw.size
  have hBA : Below w.heap.size w (w.alloc (.cells #[xv] T)) := (Below.refl _ w).alloc (Nat.le_refl _) _
  obtain ⟨vs, hO0, hvl, hat, hap⟩ := hown
  have hO := owns_below (owns_below hO0 hw) hBA
  refine wpList_append_own_at _ hgd s x 23 ho B 22 i0 _ 1 24 Try.underlying23 hi hz0 hz1 hz2 rfl (by decide) v P.length vs hs hO ⟨w.heap.size, 0, none⟩ 1 1 [xv] hx rfl ?_ ?_ (by unfold maxLen; omega) (by omega) (by simp; omega) ?_
  · exact one_new w xv T
  · intro u hu
    simp at hu
    subst hu
    exact he.ein.one
  · intro v' w1 hO' hG _ hatb
    have hbl : Below B w w1 := (((Below.refl B w).alloc hBw _).grown hG (by simp; omega) fun j hj => (World.ownsRow.lt hO j hj).1)
    have hxb : ∀ b, xv.ownBlock = some b → w0.heap.size ≤ b ∧ b < w.heap.size := fun b hb => World.ownsRow.lt he b hb
    have hvb : ∀ b, v.ownBlock = some b → b < w0.heap.size := fun b hb => (World.ownsRow.lt hO0 b hb).2
    have hkeep : ∀ b, b < w.heap.size → v.ownBlock ≠ some b → w1.heap[b]? = w.heap[b]? := fun b hb hne => (hG.block b (by simp; omega) (fun e => hne e.symm)).trans (hBA.block b hb)
    have hnew : ∀ b, b < w.heap.size → v.ownBlock ≠ some b → v'.ownBlock ≠ some b := fun b hb hne e => by
      rcases hatb with h | h
      · exact hne (by rw [← h]; exact e)
      · rw [h] at e
        simp at e
        omega
    have hV : LSep B w1 v' (P ++ [l]) := by
      refine ⟨vs ++ [xv], by rw [List.length_append]; exact hO', by rw [List.length_append, List.length_append, hvl]; rfl, fun j l' hl' => ?_, fun i j y z b hij hy hz hb => ?_⟩
      · by_cases hj : j < P.length
        · rw [List.getElem?_append_left hj] at hl'
          obtain ⟨y, hy, hE, ha⟩ := hat j l' hl'
          refine ⟨y, by rw [List.getElem?_append_left (by omega)]; exact hy, own_keep (hE.below hw) (fun b hb => hkeep b ?_ (ha b hb)), fun b hb => hnew b ?_ (ha b hb)⟩
          · have := (World.ownsRow.lt hE b hb).2; have := hw.size; omega
          · have := (World.ownsRow.lt hE b hb).2; have := hw.size; omega
        · have hjl := (List.getElem?_eq_some_iff.1 hl').1
          rw [List.length_append] at hjl
          simp at hjl
          have e : j = P.length := by omega
          subst e
          rw [List.getElem?_append_right (Nat.le_refl _)] at hl'
          simp at hl'
          subst hl'
          have hne : ∀ b, xv.ownBlock = some b → v.ownBlock ≠ some b := fun b hb e => by have := hxb b hb; have := hvb b e; omega
          refine ⟨xv, by rw [List.getElem?_append_right (by omega), hvl]; simp, own_base (own_keep he fun b hb => hkeep b (hxb b hb).2 (hne b hb)) hB, fun b hb => hnew b (hxb b hb).2 (hne b hb)⟩
      · have hrow : ∀ (j : Nat) (y : Value) (b : Nat), j < vs.length → vs[j]? = some y → y.ownBlock = some b → b < w0.heap.size := fun j y b hj hy hb => by
          obtain ⟨y', hy', hE, _⟩ := hat j _ (List.getElem?_eq_getElem (by omega : j < P.length))
          rw [hy] at hy'
          cases hy'
          exact (World.ownsRow.lt hE b hb).2
        by_cases hi : i < vs.length
        · rw [List.getElem?_append_left hi] at hy
          by_cases hj : j < vs.length
          · rw [List.getElem?_append_left hj] at hz
            exact hap i j y z b hij hy hz hb
          · rw [List.getElem?_append_right (by omega)] at hz
            obtain ⟨_, rfl⟩ : j - vs.length = 0 ∧ xv = z := by
              cases hq : j - vs.length with
              | zero => rw [hq] at hz; simp at hz; exact ⟨rfl, hz⟩
              | succ q => rw [hq] at hz; simp at hz
            intro e
            have h1 := hxb b e
            have h2 := hrow i y b hi hy hb
            omega
        · rw [List.getElem?_append_right (by omega)] at hy
          obtain ⟨hi0, rfl⟩ : i - vs.length = 0 ∧ xv = y := by
            cases hq : i - vs.length with
            | zero => rw [hq] at hy; simp at hy; exact ⟨rfl, hy⟩
            | succ q => rw [hq] at hy; simp at hy
          intro e
          have hj : j < vs.length := by
            have := (List.getElem?_eq_some_iff.1 hz).1
            rw [List.length_append] at this
            simp at this
            omega
          rw [List.getElem?_append_left hj] at hz
          have h1 := hxb b hb
          have h2 := hrow j z b hj hz e
          omega
    obtain ⟨a, n, c, rfl, hn, hO⟩ := hV.slice
    refine h a n c w1 ?_ hO hbl
    have := hn.out
    rw [List.length_append] at this
    exact this

end Go.Proofs.Ytidnllddhhllcaa
