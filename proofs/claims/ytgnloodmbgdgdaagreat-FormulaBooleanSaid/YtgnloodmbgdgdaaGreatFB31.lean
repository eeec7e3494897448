import Derived.Test.YtgnloodmbgdgdaaGreatFB28
import Derived.Test.YtgnloodmbgdgdaaGreatFB29
import Derived.Sort.Grow
namespace Go.Proofs.YtgnloodmbgdgdaaGreat
open Go.RowKit Go.Shelf
theorem box_keepset {P Q : Nat} {X : World} {zs : List Value} (h : BoxL P zs X) (hne : P ≠ Q) (o : Nat) (v : Value) : BoxL P zs (X.setCell ⟨Q, o, none⟩ v) := by
 refine ⟨by rw [World.size_setCell]; exact h.1, fun i u hu => ?_⟩
 have e : (X.setCell ⟨Q, o, none⟩ v).heap[P]? = X.heap[P]? := Below.heap_setCell _ _ _ _ hne
 have h2 := h.2 i u hu
 refine ⟨(cell_of_block e i).trans h2.1, ?_⟩
 unfold World.frozen? at h2 ⊢
 rw [e]
 exact h2.2
end Go.Proofs.YtgnloodmbgdgdaaGreat
namespace Go.Proofs.YtgnloodmbgdgdaaGreat.W
open Go.RowKit Go.Shelf
structure Below (B : Nat) (w w' : World) : Prop extends Go.RowKit.Below B w w' where
 dr : w.drawn ≤ w'.drawn
theorem Below.refl (B : Nat) (w : World) : Below B w w := ⟨Go.RowKit.Below.refl B w, Nat.le_refl _⟩
theorem Below.trans {B : Nat} {a b c : World} (h : Below B a b) (k : Below B b c) : Below B a c := ⟨h.toBelow.trans k.toBelow, Nat.le_trans h.dr k.dr⟩
theorem Below.mono {B B' : Nat} {w w' : World} (h : Below B w w') (hB : B' ≤ B) : Below B' w w' := ⟨h.toBelow.mono hB, h.dr⟩
theorem Below.drew {B : Nat} {a w : World} (h : Below B a w) : Below B a w.drew := ⟨h.toBelow.drew, Nat.le_trans h.dr (Nat.le_succ _)⟩
theorem Below.alloc {B : Nat} {a w : World} (h : Below B a w) (hB : B ≤ w.heap.size) (o : Obj) : Below B a (w.alloc o) := ⟨h.toBelow.alloc hB o, h.dr⟩
theorem Below.setCell {B : Nat} {a w : World} (h : Below B a w) {p : Addr} (hp : B ≤ p.block) (u : Value) : Below B a (w.setCell p u) := ⟨h.toBelow.setCell hp u, h.dr⟩
theorem below_drewN {B : Nat} {a w : World} (h : Below B a w) (n : Nat) : Below B a (w.drewN n) := ⟨h.toBelow.trans ⟨rfl, rfl, rfl, Nat.le_refl _, fun _ _ => rfl⟩, Nat.le_trans h.dr (Nat.le_add_right _ _)⟩
def Since (wb W : World) : Prop := Below wb.heap.size wb W
instance (B : Nat) (w w' : World) : CoeOut (Below B w w') (Go.RowKit.Below B w w') := ⟨fun h => h.toBelow⟩
instance (w w' : World) : CoeOut (Since w w') (Go.RowKit.Below w.heap.size w w') := ⟨fun h => Below.toBelow h⟩
theorem since_size {W1 X : World} (h : Since W1 X) : W1.heap.size ≤ X.heap.size := RowKit.Below.size (Below.toBelow h)
theorem Since.cell {wb W : World} (h : Since wb W) {p : Addr} {v : Value} (hv : wb.cell? p = some v) : W.cell? p = some v :=
 (Go.RowKit.Below.cell (Below.toBelow h) (block_there hv)).trans hv
theorem Since.step {wb W W' : World} (h : Since wb W) (k : Below W.heap.size W W') : Since wb W' := Below.trans h (k.mono (since_size h))
theorem Since.alloc {wb W : World} (h : Since wb W) (o : Obj) : Since wb (W.alloc o) := Below.alloc h (since_size h) o
theorem Below.grows {w w' : World} (h : Below w.heap.size w w') : ∃ q os, w' = Sort.grow (w.drewN q) os := by
 refine ⟨w'.drawn - w.drawn, w'.heap.extract w.heap.size w'.heap.size, ?_⟩
 obtain ⟨⟨h1, h2, h3, h4, h5⟩, h6⟩ := h
 have hh : w.heap ++ w'.heap.extract w.heap.size w'.heap.size = w'.heap := by
  apply Array.ext_getElem?
  intro i
  by_cases hi : i < w.heap.size
  ·rw [Array.getElem?_append_left hi, h5 i hi]
  ·rw [Array.getElem?_append_right (by omega)]
   by_cases hj : i < w'.heap.size
   ·rw [Array.getElem?_extract, if_pos (by omega)]
    congr 1
    omega
   ·rw [Array.getElem?_eq_none (by simp; omega), Array.getElem?_eq_none (by omega)]
 cases w with
 | mk heap tape drawn os output =>
  cases w' with
  | mk heap' tape' drawn' os' output' =>
   simp only at h1 h2 h3 h4 h5 h6 hh
   subst h1 h2 h3
   unfold Sort.grow World.drewN
   simp only [World.mk.injEq]
   exact ⟨hh.symm, trivial, by omega, trivial, trivial⟩
theorem Since.refl (w : World) : Since w w := Below.refl _ _
theorem Since.drew {wb w : World} (h : Since wb w) : Since wb w.drew := Below.drew h
theorem since_set {W1 X : World} {P : Nat} (h : Since W1 X) (hP : W1.heap.size ≤ P) (o : Nat) (v : Value) : Since W1 (X.setCell ⟨P, o, none⟩ v) := Below.setCell h (p := ⟨P, o, none⟩) hP v
def NewBox (W1 : World) (zs : List Value) (P : Nat) (X : World) : Prop := W1.heap.size ≤ P ∧ BoxL P zs X ∧ Since W1 X
theorem NewBox.made {W1 X : World} (h : Since W1 X) (cs : Array Value) (T : TypeId) : NewBox W1 cs.toList X.heap.size (X.alloc (.cells cs T)) := ⟨since_size h, BoxL.made X cs T, Since.alloc h _⟩
theorem NewBox.alloc {W1 X : World} {zs : List Value} {P : Nat} (h : NewBox W1 zs P X) (o : Obj) : NewBox W1 zs P (X.alloc o) := ⟨h.1, h.2.1.under o, Since.alloc h.2.2 o⟩
theorem NewBox.drew {W1 X : World} {zs : List Value} {P : Nat} (h : NewBox W1 zs P X) : NewBox W1 zs P X.drew := ⟨h.1, h.2.1.keep (Below.toBelow (Since.drew (Since.refl _))), Since.drew h.2.2⟩
theorem NewBox.step {W1 X Y : World} {zs : List Value} {P : Nat} (h : NewBox W1 zs P X) (hr : Below X.heap.size X Y) : NewBox W1 zs P Y := ⟨h.1, h.2.1.keep (Below.toBelow hr), Since.step h.2.2 hr⟩
def TwoBox (W1 : World) (zs : List Value) (P Q : Nat) (X : World) : Prop := NewBox W1 zs P X ∧ NewBox W1 zs Q X ∧ P ≠ Q
theorem TwoBox.madeQ {W1 X : World} {cs : Array Value} {P : Nat} (h : NewBox W1 cs.toList P X) (T : TypeId) : TwoBox W1 cs.toList P X.heap.size (X.alloc (.cells cs T)) := ⟨h.alloc _, NewBox.made h.2.2 cs T, Nat.ne_of_lt h.2.1.1⟩
theorem TwoBox.alloc {W1 X : World} {zs : List Value} {P Q : Nat} (h : TwoBox W1 zs P Q X) (o : Obj) : TwoBox W1 zs P Q (X.alloc o) := ⟨h.1.alloc o, h.2.1.alloc o, h.2.2⟩
theorem TwoBox.drew {W1 X : World} {zs : List Value} {P Q : Nat} (h : TwoBox W1 zs P Q X) : TwoBox W1 zs P Q X.drew := ⟨h.1.drew, h.2.1.drew, h.2.2⟩
theorem TwoBox.step {W1 X Y : World} {zs : List Value} {P Q : Nat} (h : TwoBox W1 zs P Q X) (hr : Below X.heap.size X Y) : TwoBox W1 zs P Q Y := ⟨h.1.step hr, h.2.1.step hr, h.2.2⟩
theorem TwoBox.symm {W1 X : World} {zs : List Value} {P Q : Nat} (h : TwoBox W1 zs P Q X) : TwoBox W1 zs Q P X := ⟨h.2.1, h.1, h.2.2.symm⟩
def Both3 (W1 : World) (xs ys : List Value) (s t : Value) (wx : World) : Prop := ∃ P Q, s = .pointer (some ⟨P, 0, none⟩) ∧ t = .pointer (some ⟨Q, 0, none⟩) ∧ BoxL P xs wx ∧ BoxL Q ys wx ∧ Since W1 wx
theorem since_r (w : World) : Since w w := Below.refl _ _
theorem since_d {wb w : World} (h : Since wb w) : Since wb w.drew := Below.drew h
end Go.Proofs.YtgnloodmbgdgdaaGreat.W
