/- The state of the search for cycles, in memory. -/
import Derived.Test.YtidnllddhhllcaaTl
namespace Go.Proofs.Ytidnllddhhllcaa
open Go.RowKit Go.Shelf

/-- A cell that may be written. -/
def Cel (w : World) (b o : Nat) (v : Value) : Prop := w.cell? ⟨b, o, none⟩ = some v ∧ w.frozen? ⟨b, o, none⟩ = false

theorem Cel.set_same {w : World} {b o : Nat} {u v : Value} (h : Cel w b o u) : Cel (w.setCell ⟨b, o, none⟩ v) b o v :=
  ⟨World.cell?_setCell_same _ _ _ h.1, by rw [World.frozen?_setCell]; exact h.2⟩

theorem Cel.set_other {w : World} {b o b' o' : Nat} {u v : Value} (h : Cel w b o u) (hn : b' ≠ b ∨ o' ≠ o) : Cel (w.setCell ⟨b', o', none⟩ v) b o u :=
  ⟨by rw [World.cell?_setCell_other _ _ _ _ (fun e => by injection e; omega)]; exact h.1, by rw [World.frozen?_setCell]; exact h.2⟩

theorem Cel.setCells_same {b : Nat} : ∀ (vs : List Value) (o : Nat) {w : World} {j : Nat} {u v : Value}, Cel w b (o + j) u → vs[j]? = some v → Cel (w.setCells b o vs) b (o + j) v
  | [], _, _, _, _, _, _, h => by simp at h
  | x :: r, o, w, j, u, v, hc, h => by
    rw [World.setCells]
    cases j with
    | zero =>
      simp at h
      subst h
      have h1 : Cel (w.setCell ⟨b, o, none⟩ x) b o x := Cel.set_same hc
      refine ⟨?_, ?_⟩
      · rw [World.cell?_setCells_out b r (o + 1) _ _ (fun _ _ => .inl (by show o + 0 < o + 1; omega))]; exact h1.1
      · rw [World.frozen?_setCells]; exact h1.2
    | succ j =>
      have h2 : r[j]? = some v := by simpa using h
      have h3 : Cel (w.setCell ⟨b, o, none⟩ x) b (o + 1 + j) u := by
        rw [show o + 1 + j = o + (j + 1) by omega]
        exact hc.set_other (.inr (by omega))
      rw [show o + (j + 1) = o + 1 + j by omega]
      exact Cel.setCells_same r (o + 1) h3 h2

theorem Cel.setCells_other {b b' o o' : Nat} {vs : List Value} {w : World} {u : Value} (h : Cel w b o u) (hn : b' ≠ b ∨ o < o' ∨ o' + vs.length ≤ o) : Cel (w.setCells b' o' vs) b o u :=
  ⟨by rw [World.cell?_setCells_out b' vs o' _ _ (fun e _ => by
      rcases hn with h | h | h
      · exact absurd e.symm h
      · exact .inl h
      · exact .inr h)]; exact h.1, by rw [World.frozen?_setCells]; exact h.2⟩

theorem Cel.below {w W : World} {b o : Nat} {v : Value} (h : Cel w b o v) (hB : Below w.heap.size w W) : Cel W b o v :=
  ⟨(hB.cell (p := ⟨b, o, none⟩) (block_there h.1)).trans h.1, (hB.frozen (p := ⟨b, o, none⟩) (block_there h.1)).trans h.2⟩

/-- What stays: the taxonomy's box, its lists, the variables that are caught. -/
structure VF (P : List (List Int)) (b0 e l tb vb N A : Nat) (pa : Option Addr) (pc ac : Nat) (w0 : World) : Prop where
  ok : Tx.okAll P.length P = true
  len : P.length ≤ 64
  short : ∀ c, (Tx.row P c).length ≤ 100000
  be : b0 ≤ e
  bl : b0 ≤ l
  bA : b0 ≤ A
  bs : b0 ≤ w0.heap.size
  el : e ≠ l
  eA : e ≠ A
  lA : l ≠ A
  tbE : tb ≠ e ∧ tb ≠ l ∧ tb ≠ A
  vbE : vb ≠ e ∧ vb ≠ l ∧ vb ≠ A
  NE : N ≠ e ∧ N ≠ l ∧ N ≠ A
  ctb : w0.cell? ⟨tb, 0, none⟩ = some (.pointer (some ⟨N, 0, none⟩))
  cvb : w0.cell? ⟨vb, 0, none⟩ = some (.func (.func 58) #[] #[.pointer (some ⟨e, 0, none⟩), .pointer (some ⟨l, 0, none⟩), .pointer (some ⟨tb, 0, none⟩), .pointer (some ⟨vb, 0, none⟩)])
  cN0 : w0.cell? ⟨N, 0, none⟩ = some (.slice pa P.length pc)
  cN1 : w0.cell? ⟨N, 1, none⟩ = some (.slice (some ⟨A, 0, none⟩) P.length ac)
  lists : LIn (fun b => b ≠ e ∧ b ≠ l ∧ b ≠ A) w0 (.slice pa P.length pc) P

/-- What turns. -/
structure VS (n b0 e l A : Nat) (E L : Nat → Bool) (F : Nat → Nat → Bool) (w0 w : World) : Prop where
  base : Below b0 w0 w
  rest : ∀ b, b < w0.heap.size → b ≠ e ∧ b ≠ l ∧ b ≠ A → w.heap[b]? = w0.heap[b]?
  ent : ∀ i, i < 64 → Cel w e i (.bool (E i))
  lft : ∀ i, i < 64 → Cel w l i (.bool (L i))
  tab : ∀ c, c < n → ∀ d, d < 64 → Cel w A (c * 64 + d) (.bool (F c d))

theorem VS.below {n b0 e l A : Nat} {E L : Nat → Bool} {F : Nat → Nat → Bool} {w0 w W : World} (h : VS n b0 e l A E L F w0 w) (hb : b0 ≤ w0.heap.size) (hB : Below w.heap.size w W) : VS n b0 e l A E L F w0 W where
  base := h.base.trans (hB.mono (Nat.le_trans hb h.base.size))
  rest := fun b hb hs => (hB.block b (Nat.lt_of_lt_of_le hb h.base.size)).trans (h.rest b hb hs)
  ent := fun i hi => (h.ent i hi).below hB
  lft := fun i hi => (h.lft i hi).below hB
  tab := fun c hc d hd => (h.tab c hc d hd).below hB

theorem VS.setE {P : List (List Int)} {b0 e l tb vb N A pc ac : Nat} {pa : Option Addr} {E L : Nat → Bool} {F : Nat → Nat → Bool} {w0 w : World} (hf : VF P b0 e l tb vb N A pa pc ac w0) (h : VS P.length b0 e l A E L F w0 w) {c : Nat} (hc : c < 64) :
    VS P.length b0 e l A (Tx.put E c) L F w0 (w.setCell ⟨e, c, none⟩ (.bool true)) where
  base := h.base.setCell hf.be _
  rest := fun b hb hs => (Below.heap_setCell _ _ _ _ hs.1).trans (h.rest b hb hs)
  ent := fun i hi => by
    by_cases hic : i = c
    · subst hic; rw [Tx.put_same]; exact (h.ent i hi).set_same
    · rw [Tx.put_other hic]; exact (h.ent i hi).set_other (.inr (Ne.symm hic))
  lft := fun i hi => (h.lft i hi).set_other (.inl hf.el)
  tab := fun x hx d hd => (h.tab x hx d hd).set_other (.inl hf.eA)

theorem VS.setL {P : List (List Int)} {b0 e l tb vb N A pc ac : Nat} {pa : Option Addr} {E L : Nat → Bool} {F : Nat → Nat → Bool} {w0 w : World} (hf : VF P b0 e l tb vb N A pa pc ac w0) (h : VS P.length b0 e l A E L F w0 w) {c : Nat} (hc : c < 64) :
    VS P.length b0 e l A E (Tx.put L c) F w0 (w.setCell ⟨l, c, none⟩ (.bool true)) where
  base := h.base.setCell hf.bl _
  rest := fun b hb hs => (Below.heap_setCell _ _ _ _ hs.2.1).trans (h.rest b hb hs)
  ent := fun i hi => (h.ent i hi).set_other (.inl (Ne.symm hf.el))
  lft := fun i hi => by
    by_cases hic : i = c
    · subst hic; rw [Tx.put_same]; exact (h.lft i hi).set_same
    · rw [Tx.put_other hic]; exact (h.lft i hi).set_other (.inr (Ne.symm hic))
  tab := fun x hx d hd => (h.tab x hx d hd).set_other (.inl hf.lA)

theorem heap_setCells (b k : Nat) (hk : k ≠ b) : ∀ (vs : List Value) (o : Nat) (w : World), (w.setCells b o vs).heap[k]? = w.heap[k]?
  | [], _, _ => rfl
  | v :: r, o, w => by
    rw [World.setCells, heap_setCells b k hk r (o + 1)]
    exact Below.heap_setCell _ _ _ _ hk

theorem VS.setRow {P : List (List Int)} {b0 e l tb vb N A pc ac : Nat} {pa : Option Addr} {E L : Nat → Bool} {F : Nat → Nat → Bool} {w0 w : World} (hf : VF P b0 e l tb vb N A pa pc ac w0) (h : VS P.length b0 e l A E L F w0 w) {c : Nat} (hc : c < P.length) (f : Nat → Bool) :
    VS P.length b0 e l A E L (Tx.setRow F c f) w0 (w.setCells A (c * 64) (Go.Proofs.Ytidnllddhhllcaa.bl f)) where
  base := below_setCells hf.bA _ _ h.base
  rest := fun b hb hs => (heap_setCells _ _ hs.2.2 _ _ _).trans (h.rest b hb hs)
  ent := fun i hi => (h.ent i hi).setCells_other (.inl (Ne.symm hf.eA))
  lft := fun i hi => (h.lft i hi).setCells_other (.inl (Ne.symm hf.lA))
  tab := fun x hx d hd => by
    by_cases hxc : x = c
    · subst hxc
      have e1 : Tx.setRow F x f x = f := by unfold Tx.setRow; exact if_pos rfl
      rw [e1]
      exact Cel.setCells_same _ _ (h.tab x hx d hd) ((bits_bl f).2 d hd)
    · have e1 : Tx.setRow F c f x = F x := by unfold Tx.setRow; exact if_neg hxc
      rw [e1]
      refine (h.tab x hx d hd).setCells_other (.inr ?_)
      rw [bl_len]
      by_cases hlt : x < c
      · exact .inl (by have : (x + 1) * 64 ≤ c * 64 := Nat.mul_le_mul_right _ hlt; omega)
      · exact .inr (by have : (c + 1) * 64 ≤ x * 64 := Nat.mul_le_mul_right _ (by omega); omega)

theorem VS.setOne {P : List (List Int)} {b0 e l tb vb N A pc ac : Nat} {pa : Option Addr} {E L : Nat → Bool} {F : Nat → Nat → Bool} {w0 w : World} (hf : VF P b0 e l tb vb N A pa pc ac w0) (h : VS P.length b0 e l A E L F w0 w) {c d : Nat} (hc : c < P.length) (hd : d < 64) :
    VS P.length b0 e l A E L (Tx.setRow F c (Tx.put (F c) d)) w0 (w.setCell ⟨A, c * 64 + d, none⟩ (.bool true)) where
  base := h.base.setCell hf.bA _
  rest := fun b hb hs => (Below.heap_setCell _ _ _ _ hs.2.2).trans (h.rest b hb hs)
  ent := fun i hi => (h.ent i hi).set_other (.inl (Ne.symm hf.eA))
  lft := fun i hi => (h.lft i hi).set_other (.inl (Ne.symm hf.lA))
  tab := fun x hx y hy => by
    by_cases hxc : x = c
    · subst hxc
      have e1 : Tx.setRow F x (Tx.put (F x) d) x = Tx.put (F x) d := by unfold Tx.setRow; exact if_pos rfl
      rw [e1]
      by_cases hyd : y = d
      · subst hyd; rw [Tx.put_same]; exact (h.tab x hx y hy).set_same
      · rw [Tx.put_other hyd]; exact (h.tab x hx y hy).set_other (.inr (by omega))
    · have e1 : Tx.setRow F c (Tx.put (F c) d) x = F x := by unfold Tx.setRow; exact if_neg hxc
      rw [e1]
      exact (h.tab x hx y hy).set_other (.inr (by omega))

/-- What stays, read later. -/
theorem VS.cell {P : List (List Int)} {b0 e l A : Nat} {E L : Nat → Bool} {F : Nat → Nat → Bool} {w0 w : World} (h : VS P.length b0 e l A E L F w0 w) {b o : Nat} {v : Value} (hb : b ≠ e ∧ b ≠ l ∧ b ≠ A) (hc : w0.cell? ⟨b, o, none⟩ = some v) : w.cell? ⟨b, o, none⟩ = some v :=
  (cell_of_block (h.rest b (block_there hc) hb) o).trans hc

theorem VS.lists {P : List (List Int)} {b0 e l tb vb N A pc ac : Nat} {pa : Option Addr} {E L : Nat → Bool} {F : Nat → Nat → Bool} {w0 w : World} (hf : VF P b0 e l tb vb N A pa pc ac w0) (h : VS P.length b0 e l A E L F w0 w) : LIn (fun b => b ≠ e ∧ b ≠ l ∧ b ≠ A) w (.slice pa P.length pc) P :=
  hf.lists.keep h.base.size fun b hb hs => h.rest b hs hb

end Go.Proofs.Ytidnllddhhllcaa
